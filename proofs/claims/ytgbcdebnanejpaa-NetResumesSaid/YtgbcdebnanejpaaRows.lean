/-
  No cell of these rows narrows 'for every input' (looked for: loops, veiled, ifaces, maps, wideKeys, modest, calm, conditions, laid).
  DERIVED. THE GIVEN ROWS OF THIS SEAT. 14 by the template 'for every input the law returns true; each argument reads behind the call as it read before'; 0 by the template 'total and deterministic' (their statements: YtgbcdebnanejpaaTotals.lean).
  GIVEN WITH THE SEED: the statements are not yours to turn. If you find one false, say at which input.
  Laid BY PROGRAM, IN A SANDBOX (cutbox-rows.mjs): the forced cells as the released guide's own fill.sh prints them over the translation 41db387edb61cd8c… (all of the seat's roots in one cut). By AI agents, Wed Nov 11 2026. No macro, syntax, notation, axiom, sorry.
-/
import Derived.Test.YtgbcdebnanejpaaChecked
import GoSem.Claim
import GoSem.ClaimJoined
import GoSem.ClaimMapViews
import Derived.JoinedTies
import Derived.KernelRfl
namespace Go.Proofs.Ytgbcdebnanejpaa
/- THE CELL 'sum', in the pinned program and in every row, IS THE sha256 OF THE DUMP (.gsa) THAT YtgbcdebnanejpaaProg.lean LOADS. Nothing in Lean hashes anything: it is a label: what it is worth is what the hold of that sum in a sandbox is worth. -/
noncomputable def Try.pinned : Pinned := { name := "ytgbcdebnanejpaa", sum := "41db387edb61cd8cd2d651d9bc1c4037897c04840c6aa8325510c378721d35f3", checked := Try.checked }
namespace Rows
def none {H : Type} : Left H := { results := [], args := [] }

/-- 'ganglionlaw02.NetChecks': WHATEVER THE INPUT: true; the input reads as it did. -/
def netChecksSpec : ChangeSpec := { name := "netChecks", fn := fun _ => fun
  | [d] => { results := [.lit (.bool true)], args := [d] }
  | _ => none }
def netChecksRow : OpenClaim := { program := "ytgbcdebnanejpaa", sum := "41db387edb61cd8cd2d651d9bc1c4037897c04840c6aa8325510c378721d35f3", func := "ganglion/ganglionlaw02.NetChecks", spec := "netChecks", unfollowed := true, recurses := true, apart := false }
def NetChecksSaid : Prop := netChecksRow.holds Try.pinned (OpenSpec.ofChange netChecksSpec)

/-- ITS FALSE NEIGHBOUR: 'it returns false'. Refute it at one input. -/
def netChecksWrong : ChangeSpec := { name := "netChecks", fn := fun _ => fun
  | [d] => { results := [.lit (.bool false)], args := [d] }
  | _ => none }
def NetChecksWrongFalsely : Prop := netChecksRow.holds Try.pinned (OpenSpec.ofChange netChecksWrong)

/-- 'ganglionlaw02.NetRuns': WHATEVER THE INPUT: true; the input reads as it did. -/
def netRunsSpec : ChangeSpec := { name := "netRuns", fn := fun _ => fun
  | [d1, d2, d3] => { results := [.lit (.bool true)], args := [d1, d2, d3] }
  | _ => none }
def netRunsRow : OpenClaim := { program := "ytgbcdebnanejpaa", sum := "41db387edb61cd8cd2d651d9bc1c4037897c04840c6aa8325510c378721d35f3", func := "ganglion/ganglionlaw02.NetRuns", spec := "netRuns", unfollowed := true, recurses := true, apart := false }
def NetRunsSaid : Prop := netRunsRow.holds Try.pinned (OpenSpec.ofChange netRunsSpec)

/-- ITS FALSE NEIGHBOUR: 'it returns false'. Refute it at one input. -/
def netRunsWrong : ChangeSpec := { name := "netRuns", fn := fun _ => fun
  | [d1, d2, d3] => { results := [.lit (.bool false)], args := [d1, d2, d3] }
  | _ => none }
def NetRunsWrongFalsely : Prop := netRunsRow.holds Try.pinned (OpenSpec.ofChange netRunsWrong)

/-- 'ganglionlaw02.NetDrives': WHATEVER THE INPUT: true; the input reads as it did. -/
def netDrivesSpec : ChangeSpec := { name := "netDrives", fn := fun _ => fun
  | [d1, d2, d3] => { results := [.lit (.bool true)], args := [d1, d2, d3] }
  | _ => none }
def netDrivesRow : OpenClaim := { program := "ytgbcdebnanejpaa", sum := "41db387edb61cd8cd2d651d9bc1c4037897c04840c6aa8325510c378721d35f3", func := "ganglion/ganglionlaw02.NetDrives", spec := "netDrives", unfollowed := true, recurses := true, apart := false }
def NetDrivesSaid : Prop := netDrivesRow.holds Try.pinned (OpenSpec.ofChange netDrivesSpec)

/-- ITS FALSE NEIGHBOUR: 'it returns false'. Refute it at one input. -/
def netDrivesWrong : ChangeSpec := { name := "netDrives", fn := fun _ => fun
  | [d1, d2, d3] => { results := [.lit (.bool false)], args := [d1, d2, d3] }
  | _ => none }
def NetDrivesWrongFalsely : Prop := netDrivesRow.holds Try.pinned (OpenSpec.ofChange netDrivesWrong)

/-- 'ganglionlaw02.NetJoins': WHATEVER THE INPUT: true; the input reads as it did. -/
def netJoinsSpec : ChangeSpec := { name := "netJoins", fn := fun _ => fun
  | [d1, d2, d3] => { results := [.lit (.bool true)], args := [d1, d2, d3] }
  | _ => none }
def netJoinsRow : OpenClaim := { program := "ytgbcdebnanejpaa", sum := "41db387edb61cd8cd2d651d9bc1c4037897c04840c6aa8325510c378721d35f3", func := "ganglion/ganglionlaw02.NetJoins", spec := "netJoins", unfollowed := true, recurses := true, apart := false }
def NetJoinsSaid : Prop := netJoinsRow.holds Try.pinned (OpenSpec.ofChange netJoinsSpec)

/-- ITS FALSE NEIGHBOUR: 'it returns false'. Refute it at one input. -/
def netJoinsWrong : ChangeSpec := { name := "netJoins", fn := fun _ => fun
  | [d1, d2, d3] => { results := [.lit (.bool false)], args := [d1, d2, d3] }
  | _ => none }
def NetJoinsWrongFalsely : Prop := netJoinsRow.holds Try.pinned (OpenSpec.ofChange netJoinsWrong)

/-- 'ganglionlaw02.NetRenumbers': WHATEVER THE INPUT: true; the input reads as it did. -/
def netRenumbersSpec : ChangeSpec := { name := "netRenumbers", fn := fun _ => fun
  | [d1, d2] => { results := [.lit (.bool true)], args := [d1, d2] }
  | _ => none }
def netRenumbersRow : OpenClaim := { program := "ytgbcdebnanejpaa", sum := "41db387edb61cd8cd2d651d9bc1c4037897c04840c6aa8325510c378721d35f3", func := "ganglion/ganglionlaw02.NetRenumbers", spec := "netRenumbers", unfollowed := true, recurses := true, apart := false }
def NetRenumbersSaid : Prop := netRenumbersRow.holds Try.pinned (OpenSpec.ofChange netRenumbersSpec)

/-- ITS FALSE NEIGHBOUR: 'it returns false'. Refute it at one input. -/
def netRenumbersWrong : ChangeSpec := { name := "netRenumbers", fn := fun _ => fun
  | [d1, d2] => { results := [.lit (.bool false)], args := [d1, d2] }
  | _ => none }
def NetRenumbersWrongFalsely : Prop := netRenumbersRow.holds Try.pinned (OpenSpec.ofChange netRenumbersWrong)

/-- 'ganglionlaw02.NetReaches': WHATEVER THE INPUT: true; the input reads as it did. -/
def netReachesSpec : ChangeSpec := { name := "netReaches", fn := fun _ => fun
  | [d1, d2] => { results := [.lit (.bool true)], args := [d1, d2] }
  | _ => none }
def netReachesRow : OpenClaim := { program := "ytgbcdebnanejpaa", sum := "41db387edb61cd8cd2d651d9bc1c4037897c04840c6aa8325510c378721d35f3", func := "ganglion/ganglionlaw02.NetReaches", spec := "netReaches", unfollowed := true, recurses := true, apart := false }
def NetReachesSaid : Prop := netReachesRow.holds Try.pinned (OpenSpec.ofChange netReachesSpec)

/-- ITS FALSE NEIGHBOUR: 'it returns false'. Refute it at one input. -/
def netReachesWrong : ChangeSpec := { name := "netReaches", fn := fun _ => fun
  | [d1, d2] => { results := [.lit (.bool false)], args := [d1, d2] }
  | _ => none }
def NetReachesWrongFalsely : Prop := netReachesRow.holds Try.pinned (OpenSpec.ofChange netReachesWrong)

/-- 'ganglionlaw02.NetSims': WHATEVER THE INPUT: true; the input reads as it did. -/
def netSimsSpec : ChangeSpec := { name := "netSims", fn := fun _ => fun
  | [d1, d2] => { results := [.lit (.bool true)], args := [d1, d2] }
  | _ => none }
def netSimsRow : OpenClaim := { program := "ytgbcdebnanejpaa", sum := "41db387edb61cd8cd2d651d9bc1c4037897c04840c6aa8325510c378721d35f3", func := "ganglion/ganglionlaw02.NetSims", spec := "netSims", unfollowed := true, recurses := true, apart := false }
def NetSimsSaid : Prop := netSimsRow.holds Try.pinned (OpenSpec.ofChange netSimsSpec)

/-- ITS FALSE NEIGHBOUR: 'it returns false'. Refute it at one input. -/
def netSimsWrong : ChangeSpec := { name := "netSims", fn := fun _ => fun
  | [d1, d2] => { results := [.lit (.bool false)], args := [d1, d2] }
  | _ => none }
def NetSimsWrongFalsely : Prop := netSimsRow.holds Try.pinned (OpenSpec.ofChange netSimsWrong)

/-- 'ganglionlaw02.NetResumes': WHATEVER THE INPUT: true; the input reads as it did. -/
def netResumesSpec : ChangeSpec := { name := "netResumes", fn := fun _ => fun
  | [d1, d2] => { results := [.lit (.bool true)], args := [d1, d2] }
  | _ => none }
def netResumesRow : OpenClaim := { program := "ytgbcdebnanejpaa", sum := "41db387edb61cd8cd2d651d9bc1c4037897c04840c6aa8325510c378721d35f3", func := "ganglion/ganglionlaw02.NetResumes", spec := "netResumes", unfollowed := true, recurses := true, apart := false }
def NetResumesSaid : Prop := netResumesRow.holds Try.pinned (OpenSpec.ofChange netResumesSpec)

/-- ITS FALSE NEIGHBOUR: 'it returns false'. Refute it at one input. -/
def netResumesWrong : ChangeSpec := { name := "netResumes", fn := fun _ => fun
  | [d1, d2] => { results := [.lit (.bool false)], args := [d1, d2] }
  | _ => none }
def NetResumesWrongFalsely : Prop := netResumesRow.holds Try.pinned (OpenSpec.ofChange netResumesWrong)

/-- 'ganglionlaw02.NetOne': WHATEVER THE INPUT: true; the input reads as it did. -/
def netOneSpec : ChangeSpec := { name := "netOne", fn := fun _ => fun
  | [d1, d2, d3, d4] => { results := [.lit (.bool true)], args := [d1, d2, d3, d4] }
  | _ => none }
def netOneRow : OpenClaim := { program := "ytgbcdebnanejpaa", sum := "41db387edb61cd8cd2d651d9bc1c4037897c04840c6aa8325510c378721d35f3", func := "ganglion/ganglionlaw02.NetOne", spec := "netOne", unfollowed := true, recurses := true, apart := false }
def NetOneSaid : Prop := netOneRow.holds Try.pinned (OpenSpec.ofChange netOneSpec)

/-- ITS FALSE NEIGHBOUR: 'it returns false'. Refute it at one input. -/
def netOneWrong : ChangeSpec := { name := "netOne", fn := fun _ => fun
  | [d1, d2, d3, d4] => { results := [.lit (.bool false)], args := [d1, d2, d3, d4] }
  | _ => none }
def NetOneWrongFalsely : Prop := netOneRow.holds Try.pinned (OpenSpec.ofChange netOneWrong)

/-- 'ganglionlaw02.NetSame': WHATEVER THE INPUT: true; the input reads as it did. -/
def netSameSpec : ChangeSpec := { name := "netSame", fn := fun _ => fun
  | [d1, d2, d3, d4] => { results := [.lit (.bool true)], args := [d1, d2, d3, d4] }
  | _ => none }
def netSameRow : OpenClaim := { program := "ytgbcdebnanejpaa", sum := "41db387edb61cd8cd2d651d9bc1c4037897c04840c6aa8325510c378721d35f3", func := "ganglion/ganglionlaw02.NetSame", spec := "netSame", unfollowed := true, recurses := true, apart := false }
def NetSameSaid : Prop := netSameRow.holds Try.pinned (OpenSpec.ofChange netSameSpec)

/-- ITS FALSE NEIGHBOUR: 'it returns false'. Refute it at one input. -/
def netSameWrong : ChangeSpec := { name := "netSame", fn := fun _ => fun
  | [d1, d2, d3, d4] => { results := [.lit (.bool false)], args := [d1, d2, d3, d4] }
  | _ => none }
def NetSameWrongFalsely : Prop := netSameRow.holds Try.pinned (OpenSpec.ofChange netSameWrong)

/-- 'ganglionlaw02.NetBeside': WHATEVER THE INPUT: true; the input reads as it did. -/
def netBesideSpec : ChangeSpec := { name := "netBeside", fn := fun _ => fun
  | [d1, d2, d3, d4, d5] => { results := [.lit (.bool true)], args := [d1, d2, d3, d4, d5] }
  | _ => none }
def netBesideRow : OpenClaim := { program := "ytgbcdebnanejpaa", sum := "41db387edb61cd8cd2d651d9bc1c4037897c04840c6aa8325510c378721d35f3", func := "ganglion/ganglionlaw02.NetBeside", spec := "netBeside", unfollowed := true, recurses := true, apart := false }
def NetBesideSaid : Prop := netBesideRow.holds Try.pinned (OpenSpec.ofChange netBesideSpec)

/-- ITS FALSE NEIGHBOUR: 'it returns false'. Refute it at one input. -/
def netBesideWrong : ChangeSpec := { name := "netBeside", fn := fun _ => fun
  | [d1, d2, d3, d4, d5] => { results := [.lit (.bool false)], args := [d1, d2, d3, d4, d5] }
  | _ => none }
def NetBesideWrongFalsely : Prop := netBesideRow.holds Try.pinned (OpenSpec.ofChange netBesideWrong)

/-- 'ganglionlaw02.NetCauses': WHATEVER THE INPUT: true; the input reads as it did. -/
def netCausesSpec : ChangeSpec := { name := "netCauses", fn := fun _ => fun
  | [d1, d2, d3, d4, d5] => { results := [.lit (.bool true)], args := [d1, d2, d3, d4, d5] }
  | _ => none }
def netCausesRow : OpenClaim := { program := "ytgbcdebnanejpaa", sum := "41db387edb61cd8cd2d651d9bc1c4037897c04840c6aa8325510c378721d35f3", func := "ganglion/ganglionlaw02.NetCauses", spec := "netCauses", unfollowed := true, recurses := true, apart := false }
def NetCausesSaid : Prop := netCausesRow.holds Try.pinned (OpenSpec.ofChange netCausesSpec)

/-- ITS FALSE NEIGHBOUR: 'it returns false'. Refute it at one input. -/
def netCausesWrong : ChangeSpec := { name := "netCauses", fn := fun _ => fun
  | [d1, d2, d3, d4, d5] => { results := [.lit (.bool false)], args := [d1, d2, d3, d4, d5] }
  | _ => none }
def NetCausesWrongFalsely : Prop := netCausesRow.holds Try.pinned (OpenSpec.ofChange netCausesWrong)

/-- 'ganglionlaw02.NetLater': WHATEVER THE INPUT: true; the input reads as it did. -/
def netLaterSpec : ChangeSpec := { name := "netLater", fn := fun _ => fun
  | [d1, d2, d3, d4] => { results := [.lit (.bool true)], args := [d1, d2, d3, d4] }
  | _ => none }
def netLaterRow : OpenClaim := { program := "ytgbcdebnanejpaa", sum := "41db387edb61cd8cd2d651d9bc1c4037897c04840c6aa8325510c378721d35f3", func := "ganglion/ganglionlaw02.NetLater", spec := "netLater", unfollowed := true, recurses := true, apart := false }
def NetLaterSaid : Prop := netLaterRow.holds Try.pinned (OpenSpec.ofChange netLaterSpec)

/-- ITS FALSE NEIGHBOUR: 'it returns false'. Refute it at one input. -/
def netLaterWrong : ChangeSpec := { name := "netLater", fn := fun _ => fun
  | [d1, d2, d3, d4] => { results := [.lit (.bool false)], args := [d1, d2, d3, d4] }
  | _ => none }
def NetLaterWrongFalsely : Prop := netLaterRow.holds Try.pinned (OpenSpec.ofChange netLaterWrong)

/-- 'ganglionlaw02.NetKnown': WHATEVER THE INPUT: true; the input reads as it did. -/
def netKnownSpec : ChangeSpec := { name := "netKnown", fn := fun _ => fun
  | [] => { results := [.lit (.bool true)], args := [] }
  | _ => none }
def netKnownRow : OpenClaim := { program := "ytgbcdebnanejpaa", sum := "41db387edb61cd8cd2d651d9bc1c4037897c04840c6aa8325510c378721d35f3", func := "ganglion/ganglionlaw02.NetKnown", spec := "netKnown", unfollowed := true, recurses := true, apart := false }
def NetKnownSaid : Prop := netKnownRow.holds Try.pinned (OpenSpec.ofChange netKnownSpec)

/-- ITS FALSE NEIGHBOUR: 'it returns false'. Refute it at one input. -/
def netKnownWrong : ChangeSpec := { name := "netKnown", fn := fun _ => fun
  | [] => { results := [.lit (.bool false)], args := [] }
  | _ => none }
def NetKnownWrongFalsely : Prop := netKnownRow.holds Try.pinned (OpenSpec.ofChange netKnownWrong)

/- THE SECOND FORM. 'bulk': how many values and letters a reading holds, each counted each time it is reached (what is shared counts as often as it is met; a slice's spare places count too). A statement '..UptoSaid' is the law's where the arguments, and the package variables that the reading takes, are together of bulk at most 1048576: NARROWER than '..Said'. Prove '..Said' where nothing that the law and all that it calls make is longer than what came in: it says more and counts as full. Else prove '..UptoSaid'. A law counts once. -/
mutual
def uptoBulk {H : Type} : DataW H → Nat
  | .lit (.string bytes) => bytes.length + 1
  | .lit _ => 1
  | .nil => 1
  | .ptr d => uptoBulk d + 1
  | .slice elems spare => uptoBulkAll elems + uptoBulkAll spare + 1
  | .agg parts => uptoBulkAll parts + 1
  | .iface _ d => uptoBulk d + 1
  | .map entries => uptoBulkEntries entries + 1
  | .held _ => 1
def uptoBulkAll {H : Type} : List (DataW H) → Nat
  | [] => 0
  | d :: r => uptoBulk d + uptoBulkAll r
def uptoBulkEntries {H : Type} : List (Lit × DataW H) → Nat
  | [] => 0
  | x :: r => uptoBulkEntry x + uptoBulkEntries r
def uptoBulkEntry {H : Type} : Lit × DataW H → Nat
  | (.string bytes, d) => bytes.length + uptoBulk d + 1
  | (_, d) => uptoBulk d + 1
 end
def uptoSmall : (H : Type) → List (DataW H) → Bool := fun _ ds => decide (uptoBulkAll ds ≤ 1048576)
def OpenSpec.upto (s : _root_.Go.ChangeSpec) : _root_.Go.OpenSpec := { _root_.Go.OpenSpec.ofChange s with cond := some uptoSmall }

/-- 'ganglionlaw02.NetChecks', WHERE WHAT IT READS IS OF BULK AT MOST 1048576: true; the input reads as it did. -/
def netChecksUptoRow : OpenClaim := { program := "ytgbcdebnanejpaa", sum := "41db387edb61cd8cd2d651d9bc1c4037897c04840c6aa8325510c378721d35f3", func := "ganglion/ganglionlaw02.NetChecks", spec := "netChecks", unfollowed := true, recurses := true, apart := false, narrowed := true }
def NetChecksUptoSaid : Prop := netChecksUptoRow.holds Try.pinned (OpenSpec.upto netChecksSpec)

/-- 'ganglionlaw02.NetRuns', WHERE WHAT IT READS IS OF BULK AT MOST 1048576: true; the input reads as it did. -/
def netRunsUptoRow : OpenClaim := { program := "ytgbcdebnanejpaa", sum := "41db387edb61cd8cd2d651d9bc1c4037897c04840c6aa8325510c378721d35f3", func := "ganglion/ganglionlaw02.NetRuns", spec := "netRuns", unfollowed := true, recurses := true, apart := false, narrowed := true }
def NetRunsUptoSaid : Prop := netRunsUptoRow.holds Try.pinned (OpenSpec.upto netRunsSpec)

/-- 'ganglionlaw02.NetDrives', WHERE WHAT IT READS IS OF BULK AT MOST 1048576: true; the input reads as it did. -/
def netDrivesUptoRow : OpenClaim := { program := "ytgbcdebnanejpaa", sum := "41db387edb61cd8cd2d651d9bc1c4037897c04840c6aa8325510c378721d35f3", func := "ganglion/ganglionlaw02.NetDrives", spec := "netDrives", unfollowed := true, recurses := true, apart := false, narrowed := true }
def NetDrivesUptoSaid : Prop := netDrivesUptoRow.holds Try.pinned (OpenSpec.upto netDrivesSpec)

/-- 'ganglionlaw02.NetJoins', WHERE WHAT IT READS IS OF BULK AT MOST 1048576: true; the input reads as it did. -/
def netJoinsUptoRow : OpenClaim := { program := "ytgbcdebnanejpaa", sum := "41db387edb61cd8cd2d651d9bc1c4037897c04840c6aa8325510c378721d35f3", func := "ganglion/ganglionlaw02.NetJoins", spec := "netJoins", unfollowed := true, recurses := true, apart := false, narrowed := true }
def NetJoinsUptoSaid : Prop := netJoinsUptoRow.holds Try.pinned (OpenSpec.upto netJoinsSpec)

/-- 'ganglionlaw02.NetRenumbers', WHERE WHAT IT READS IS OF BULK AT MOST 1048576: true; the input reads as it did. -/
def netRenumbersUptoRow : OpenClaim := { program := "ytgbcdebnanejpaa", sum := "41db387edb61cd8cd2d651d9bc1c4037897c04840c6aa8325510c378721d35f3", func := "ganglion/ganglionlaw02.NetRenumbers", spec := "netRenumbers", unfollowed := true, recurses := true, apart := false, narrowed := true }
def NetRenumbersUptoSaid : Prop := netRenumbersUptoRow.holds Try.pinned (OpenSpec.upto netRenumbersSpec)

/-- 'ganglionlaw02.NetReaches', WHERE WHAT IT READS IS OF BULK AT MOST 1048576: true; the input reads as it did. -/
def netReachesUptoRow : OpenClaim := { program := "ytgbcdebnanejpaa", sum := "41db387edb61cd8cd2d651d9bc1c4037897c04840c6aa8325510c378721d35f3", func := "ganglion/ganglionlaw02.NetReaches", spec := "netReaches", unfollowed := true, recurses := true, apart := false, narrowed := true }
def NetReachesUptoSaid : Prop := netReachesUptoRow.holds Try.pinned (OpenSpec.upto netReachesSpec)

/-- 'ganglionlaw02.NetSims', WHERE WHAT IT READS IS OF BULK AT MOST 1048576: true; the input reads as it did. -/
def netSimsUptoRow : OpenClaim := { program := "ytgbcdebnanejpaa", sum := "41db387edb61cd8cd2d651d9bc1c4037897c04840c6aa8325510c378721d35f3", func := "ganglion/ganglionlaw02.NetSims", spec := "netSims", unfollowed := true, recurses := true, apart := false, narrowed := true }
def NetSimsUptoSaid : Prop := netSimsUptoRow.holds Try.pinned (OpenSpec.upto netSimsSpec)

/-- 'ganglionlaw02.NetResumes', WHERE WHAT IT READS IS OF BULK AT MOST 1048576: true; the input reads as it did. -/
def netResumesUptoRow : OpenClaim := { program := "ytgbcdebnanejpaa", sum := "41db387edb61cd8cd2d651d9bc1c4037897c04840c6aa8325510c378721d35f3", func := "ganglion/ganglionlaw02.NetResumes", spec := "netResumes", unfollowed := true, recurses := true, apart := false, narrowed := true }
def NetResumesUptoSaid : Prop := netResumesUptoRow.holds Try.pinned (OpenSpec.upto netResumesSpec)

/-- 'ganglionlaw02.NetOne', WHERE WHAT IT READS IS OF BULK AT MOST 1048576: true; the input reads as it did. -/
def netOneUptoRow : OpenClaim := { program := "ytgbcdebnanejpaa", sum := "41db387edb61cd8cd2d651d9bc1c4037897c04840c6aa8325510c378721d35f3", func := "ganglion/ganglionlaw02.NetOne", spec := "netOne", unfollowed := true, recurses := true, apart := false, narrowed := true }
def NetOneUptoSaid : Prop := netOneUptoRow.holds Try.pinned (OpenSpec.upto netOneSpec)

/-- 'ganglionlaw02.NetSame', WHERE WHAT IT READS IS OF BULK AT MOST 1048576: true; the input reads as it did. -/
def netSameUptoRow : OpenClaim := { program := "ytgbcdebnanejpaa", sum := "41db387edb61cd8cd2d651d9bc1c4037897c04840c6aa8325510c378721d35f3", func := "ganglion/ganglionlaw02.NetSame", spec := "netSame", unfollowed := true, recurses := true, apart := false, narrowed := true }
def NetSameUptoSaid : Prop := netSameUptoRow.holds Try.pinned (OpenSpec.upto netSameSpec)

/-- 'ganglionlaw02.NetBeside', WHERE WHAT IT READS IS OF BULK AT MOST 1048576: true; the input reads as it did. -/
def netBesideUptoRow : OpenClaim := { program := "ytgbcdebnanejpaa", sum := "41db387edb61cd8cd2d651d9bc1c4037897c04840c6aa8325510c378721d35f3", func := "ganglion/ganglionlaw02.NetBeside", spec := "netBeside", unfollowed := true, recurses := true, apart := false, narrowed := true }
def NetBesideUptoSaid : Prop := netBesideUptoRow.holds Try.pinned (OpenSpec.upto netBesideSpec)

/-- 'ganglionlaw02.NetCauses', WHERE WHAT IT READS IS OF BULK AT MOST 1048576: true; the input reads as it did. -/
def netCausesUptoRow : OpenClaim := { program := "ytgbcdebnanejpaa", sum := "41db387edb61cd8cd2d651d9bc1c4037897c04840c6aa8325510c378721d35f3", func := "ganglion/ganglionlaw02.NetCauses", spec := "netCauses", unfollowed := true, recurses := true, apart := false, narrowed := true }
def NetCausesUptoSaid : Prop := netCausesUptoRow.holds Try.pinned (OpenSpec.upto netCausesSpec)

/-- 'ganglionlaw02.NetLater', WHERE WHAT IT READS IS OF BULK AT MOST 1048576: true; the input reads as it did. -/
def netLaterUptoRow : OpenClaim := { program := "ytgbcdebnanejpaa", sum := "41db387edb61cd8cd2d651d9bc1c4037897c04840c6aa8325510c378721d35f3", func := "ganglion/ganglionlaw02.NetLater", spec := "netLater", unfollowed := true, recurses := true, apart := false, narrowed := true }
def NetLaterUptoSaid : Prop := netLaterUptoRow.holds Try.pinned (OpenSpec.upto netLaterSpec)

/-- 'ganglionlaw02.NetKnown', WHERE WHAT IT READS IS OF BULK AT MOST 1048576: true; the input reads as it did. -/
def netKnownUptoRow : OpenClaim := { program := "ytgbcdebnanejpaa", sum := "41db387edb61cd8cd2d651d9bc1c4037897c04840c6aa8325510c378721d35f3", func := "ganglion/ganglionlaw02.NetKnown", spec := "netKnown", unfollowed := true, recurses := true, apart := false, narrowed := true }
def NetKnownUptoSaid : Prop := netKnownUptoRow.holds Try.pinned (OpenSpec.upto netKnownSpec)

end Rows
end Go.Proofs.Ytgbcdebnanejpaa
