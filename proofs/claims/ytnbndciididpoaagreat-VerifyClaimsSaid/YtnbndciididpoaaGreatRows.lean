/-
  No cell of these rows narrows 'for every input' (looked for: loops, veiled, ifaces, maps, wideKeys, modest, calm, conditions, laid).
  DERIVED. THE GIVEN ROWS OF THIS SEAT. 12 by the template 'for every input the law returns true; each argument reads behind the call as it read before'; 0 by the template 'total and deterministic' (their statements: YtnbndciididpoaaGreatTotals.lean).
  GIVEN WITH THE SEED: the statements are not yours to turn. If you find one false, say at which input.
  Laid BY PROGRAM, IN A SANDBOX (cutbox-rows.mjs): the forced cells as the released guide's own fill.sh prints them over the translation 7fe2634c95e06d1c… (all of the seat's roots in one cut). By AI agents, Wed Nov 11 2026. No macro, syntax, notation, axiom, sorry.
-/
import Derived.Test.YtnbndciididpoaaGreatChecked
import GoSem.Claim
import GoSem.ClaimJoined
import GoSem.ClaimMapViews
import Derived.JoinedTies
import Derived.KernelRfl
namespace Go.Proofs.YtnbndciididpoaaGreat
/- THE CELL 'sum', in the pinned program and in every row, IS THE sha256 OF THE DUMP (.gsa) THAT YtnbndciididpoaaGreatProg.lean LOADS. Nothing in Lean hashes anything: it is a label: what it is worth is what the hold of that sum in a sandbox is worth. -/
noncomputable def Tryz.pinned : Pinned := { name := "ytnbndciididpoaagreat", sum := "7fe2634c95e06d1ca29de01198e4803a4fb7f707046cfd25ff8e081b5b8cb715", checked := Tryz.checked }
namespace Rows
def none {H : Type} : Left H := { results := [], args := [] }

/-- 'ganglionlaw11.VerifyReaches': WHATEVER THE INPUT: true; the input reads as it did. -/
def verifyReachesSpec : ChangeSpec := { name := "verifyReaches", fn := fun _ => fun
  | [d1, d2, d3, d4] => { results := [.lit (.bool true)], args := [d1, d2, d3, d4] }
  | _ => none }
def verifyReachesRow : OpenClaim := { program := "ytnbndciididpoaagreat", sum := "7fe2634c95e06d1ca29de01198e4803a4fb7f707046cfd25ff8e081b5b8cb715", func := "ganglion/ganglionlaw11.VerifyReaches", spec := "verifyReaches", unfollowed := true, recurses := true, apart := false }
def VerifyReachesSaid : Prop := verifyReachesRow.holds Tryz.pinned (OpenSpec.ofChange verifyReachesSpec)

/-- ITS FALSE NEIGHBOUR: 'it returns false'. Refute it at one input. -/
def verifyReachesWrong : ChangeSpec := { name := "verifyReaches", fn := fun _ => fun
  | [d1, d2, d3, d4] => { results := [.lit (.bool false)], args := [d1, d2, d3, d4] }
  | _ => none }
def VerifyReachesWrongFalsely : Prop := verifyReachesRow.holds Tryz.pinned (OpenSpec.ofChange verifyReachesWrong)

/-- 'ganglionlaw11.VerifyBounds': WHATEVER THE INPUT: true; the input reads as it did. -/
def verifyBoundsSpec : ChangeSpec := { name := "verifyBounds", fn := fun _ => fun
  | [d1, d2, d3, d4] => { results := [.lit (.bool true)], args := [d1, d2, d3, d4] }
  | _ => none }
def verifyBoundsRow : OpenClaim := { program := "ytnbndciididpoaagreat", sum := "7fe2634c95e06d1ca29de01198e4803a4fb7f707046cfd25ff8e081b5b8cb715", func := "ganglion/ganglionlaw11.VerifyBounds", spec := "verifyBounds", unfollowed := true, recurses := true, apart := false }
def VerifyBoundsSaid : Prop := verifyBoundsRow.holds Tryz.pinned (OpenSpec.ofChange verifyBoundsSpec)

/-- ITS FALSE NEIGHBOUR: 'it returns false'. Refute it at one input. -/
def verifyBoundsWrong : ChangeSpec := { name := "verifyBounds", fn := fun _ => fun
  | [d1, d2, d3, d4] => { results := [.lit (.bool false)], args := [d1, d2, d3, d4] }
  | _ => none }
def VerifyBoundsWrongFalsely : Prop := verifyBoundsRow.holds Tryz.pinned (OpenSpec.ofChange verifyBoundsWrong)

/-- 'ganglionlaw11.VerifyClaims': WHATEVER THE INPUT: true; the input reads as it did. -/
def verifyClaimsSpec : ChangeSpec := { name := "verifyClaims", fn := fun _ => fun
  | [d1, d2, d3] => { results := [.lit (.bool true)], args := [d1, d2, d3] }
  | _ => none }
def verifyClaimsRow : OpenClaim := { program := "ytnbndciididpoaagreat", sum := "7fe2634c95e06d1ca29de01198e4803a4fb7f707046cfd25ff8e081b5b8cb715", func := "ganglion/ganglionlaw11.VerifyClaims", spec := "verifyClaims", unfollowed := true, recurses := true, apart := false }
def VerifyClaimsSaid : Prop := verifyClaimsRow.holds Tryz.pinned (OpenSpec.ofChange verifyClaimsSpec)

/-- ITS FALSE NEIGHBOUR: 'it returns false'. Refute it at one input. -/
def verifyClaimsWrong : ChangeSpec := { name := "verifyClaims", fn := fun _ => fun
  | [d1, d2, d3] => { results := [.lit (.bool false)], args := [d1, d2, d3] }
  | _ => none }
def VerifyClaimsWrongFalsely : Prop := verifyClaimsRow.holds Tryz.pinned (OpenSpec.ofChange verifyClaimsWrong)

/-- 'ganglionlaw11.VerifyCertains': WHATEVER THE INPUT: true; the input reads as it did. -/
def verifyCertainsSpec : ChangeSpec := { name := "verifyCertains", fn := fun _ => fun
  | [d1, d2, d3, d4, d5] => { results := [.lit (.bool true)], args := [d1, d2, d3, d4, d5] }
  | _ => none }
def verifyCertainsRow : OpenClaim := { program := "ytnbndciididpoaagreat", sum := "7fe2634c95e06d1ca29de01198e4803a4fb7f707046cfd25ff8e081b5b8cb715", func := "ganglion/ganglionlaw11.VerifyCertains", spec := "verifyCertains", unfollowed := true, recurses := true, apart := false }
def VerifyCertainsSaid : Prop := verifyCertainsRow.holds Tryz.pinned (OpenSpec.ofChange verifyCertainsSpec)

/-- ITS FALSE NEIGHBOUR: 'it returns false'. Refute it at one input. -/
def verifyCertainsWrong : ChangeSpec := { name := "verifyCertains", fn := fun _ => fun
  | [d1, d2, d3, d4, d5] => { results := [.lit (.bool false)], args := [d1, d2, d3, d4, d5] }
  | _ => none }
def VerifyCertainsWrongFalsely : Prop := verifyCertainsRow.holds Tryz.pinned (OpenSpec.ofChange verifyCertainsWrong)

/-- 'ganglionlaw11.VerifyRuns': WHATEVER THE INPUT: true; the input reads as it did. -/
def verifyRunsSpec : ChangeSpec := { name := "verifyRuns", fn := fun _ => fun
  | [d1, d2, d3] => { results := [.lit (.bool true)], args := [d1, d2, d3] }
  | _ => none }
def verifyRunsRow : OpenClaim := { program := "ytnbndciididpoaagreat", sum := "7fe2634c95e06d1ca29de01198e4803a4fb7f707046cfd25ff8e081b5b8cb715", func := "ganglion/ganglionlaw11.VerifyRuns", spec := "verifyRuns", unfollowed := true, recurses := true, apart := false }
def VerifyRunsSaid : Prop := verifyRunsRow.holds Tryz.pinned (OpenSpec.ofChange verifyRunsSpec)

/-- ITS FALSE NEIGHBOUR: 'it returns false'. Refute it at one input. -/
def verifyRunsWrong : ChangeSpec := { name := "verifyRuns", fn := fun _ => fun
  | [d1, d2, d3] => { results := [.lit (.bool false)], args := [d1, d2, d3] }
  | _ => none }
def VerifyRunsWrongFalsely : Prop := verifyRunsRow.holds Tryz.pinned (OpenSpec.ofChange verifyRunsWrong)

/-- 'ganglionlaw11.VerifyRobusts': WHATEVER THE INPUT: true; the input reads as it did. -/
def verifyRobustsSpec : ChangeSpec := { name := "verifyRobusts", fn := fun _ => fun
  | [d] => { results := [.lit (.bool true)], args := [d] }
  | _ => none }
def verifyRobustsRow : OpenClaim := { program := "ytnbndciididpoaagreat", sum := "7fe2634c95e06d1ca29de01198e4803a4fb7f707046cfd25ff8e081b5b8cb715", func := "ganglion/ganglionlaw11.VerifyRobusts", spec := "verifyRobusts", unfollowed := true, recurses := true, apart := false }
def VerifyRobustsSaid : Prop := verifyRobustsRow.holds Tryz.pinned (OpenSpec.ofChange verifyRobustsSpec)

/-- ITS FALSE NEIGHBOUR: 'it returns false'. Refute it at one input. -/
def verifyRobustsWrong : ChangeSpec := { name := "verifyRobusts", fn := fun _ => fun
  | [d] => { results := [.lit (.bool false)], args := [d] }
  | _ => none }
def VerifyRobustsWrongFalsely : Prop := verifyRobustsRow.holds Tryz.pinned (OpenSpec.ofChange verifyRobustsWrong)

/-- 'ganglionlaw11.VerifyFound': WHATEVER THE INPUT: true; the input reads as it did. -/
def verifyFoundSpec : ChangeSpec := { name := "verifyFound", fn := fun _ => fun
  | [d1, d2, d3, d4, d5] => { results := [.lit (.bool true)], args := [d1, d2, d3, d4, d5] }
  | _ => none }
def verifyFoundRow : OpenClaim := { program := "ytnbndciididpoaagreat", sum := "7fe2634c95e06d1ca29de01198e4803a4fb7f707046cfd25ff8e081b5b8cb715", func := "ganglion/ganglionlaw11.VerifyFound", spec := "verifyFound", unfollowed := true, recurses := true, apart := false }
def VerifyFoundSaid : Prop := verifyFoundRow.holds Tryz.pinned (OpenSpec.ofChange verifyFoundSpec)

/-- ITS FALSE NEIGHBOUR: 'it returns false'. Refute it at one input. -/
def verifyFoundWrong : ChangeSpec := { name := "verifyFound", fn := fun _ => fun
  | [d1, d2, d3, d4, d5] => { results := [.lit (.bool false)], args := [d1, d2, d3, d4, d5] }
  | _ => none }
def VerifyFoundWrongFalsely : Prop := verifyFoundRow.holds Tryz.pinned (OpenSpec.ofChange verifyFoundWrong)

/-- 'ganglionlaw11.VerifySound': WHATEVER THE INPUT: true; the input reads as it did. -/
def verifySoundSpec : ChangeSpec := { name := "verifySound", fn := fun _ => fun
  | [d1, d2, d3, d4, d5] => { results := [.lit (.bool true)], args := [d1, d2, d3, d4, d5] }
  | _ => none }
def verifySoundRow : OpenClaim := { program := "ytnbndciididpoaagreat", sum := "7fe2634c95e06d1ca29de01198e4803a4fb7f707046cfd25ff8e081b5b8cb715", func := "ganglion/ganglionlaw11.VerifySound", spec := "verifySound", unfollowed := true, recurses := true, apart := false }
def VerifySoundSaid : Prop := verifySoundRow.holds Tryz.pinned (OpenSpec.ofChange verifySoundSpec)

/-- ITS FALSE NEIGHBOUR: 'it returns false'. Refute it at one input. -/
def verifySoundWrong : ChangeSpec := { name := "verifySound", fn := fun _ => fun
  | [d1, d2, d3, d4, d5] => { results := [.lit (.bool false)], args := [d1, d2, d3, d4, d5] }
  | _ => none }
def VerifySoundWrongFalsely : Prop := verifySoundRow.holds Tryz.pinned (OpenSpec.ofChange verifySoundWrong)

/-- 'ganglionlaw11.VerifyExact': WHATEVER THE INPUT: true; the input reads as it did. -/
def verifyExactSpec : ChangeSpec := { name := "verifyExact", fn := fun _ => fun
  | [d1, d2, d3, d4, d5] => { results := [.lit (.bool true)], args := [d1, d2, d3, d4, d5] }
  | _ => none }
def verifyExactRow : OpenClaim := { program := "ytnbndciididpoaagreat", sum := "7fe2634c95e06d1ca29de01198e4803a4fb7f707046cfd25ff8e081b5b8cb715", func := "ganglion/ganglionlaw11.VerifyExact", spec := "verifyExact", unfollowed := true, recurses := true, apart := false }
def VerifyExactSaid : Prop := verifyExactRow.holds Tryz.pinned (OpenSpec.ofChange verifyExactSpec)

/-- ITS FALSE NEIGHBOUR: 'it returns false'. Refute it at one input. -/
def verifyExactWrong : ChangeSpec := { name := "verifyExact", fn := fun _ => fun
  | [d1, d2, d3, d4, d5] => { results := [.lit (.bool false)], args := [d1, d2, d3, d4, d5] }
  | _ => none }
def VerifyExactWrongFalsely : Prop := verifyExactRow.holds Tryz.pinned (OpenSpec.ofChange verifyExactWrong)

/-- 'ganglionlaw11.VerifyCertain': WHATEVER THE INPUT: true; the input reads as it did. -/
def verifyCertainSpec : ChangeSpec := { name := "verifyCertain", fn := fun _ => fun
  | [d1, d2, d3, d4, d5, d6] => { results := [.lit (.bool true)], args := [d1, d2, d3, d4, d5, d6] }
  | _ => none }
def verifyCertainRow : OpenClaim := { program := "ytnbndciididpoaagreat", sum := "7fe2634c95e06d1ca29de01198e4803a4fb7f707046cfd25ff8e081b5b8cb715", func := "ganglion/ganglionlaw11.VerifyCertain", spec := "verifyCertain", unfollowed := true, recurses := true, apart := false }
def VerifyCertainSaid : Prop := verifyCertainRow.holds Tryz.pinned (OpenSpec.ofChange verifyCertainSpec)

/-- ITS FALSE NEIGHBOUR: 'it returns false'. Refute it at one input. -/
def verifyCertainWrong : ChangeSpec := { name := "verifyCertain", fn := fun _ => fun
  | [d1, d2, d3, d4, d5, d6] => { results := [.lit (.bool false)], args := [d1, d2, d3, d4, d5, d6] }
  | _ => none }
def VerifyCertainWrongFalsely : Prop := verifyCertainRow.holds Tryz.pinned (OpenSpec.ofChange verifyCertainWrong)

/-- 'ganglionlaw11.VerifyDisturbed': WHATEVER THE INPUT: true; the input reads as it did. -/
def verifyDisturbedSpec : ChangeSpec := { name := "verifyDisturbed", fn := fun _ => fun
  | [d1, d2, d3] => { results := [.lit (.bool true)], args := [d1, d2, d3] }
  | _ => none }
def verifyDisturbedRow : OpenClaim := { program := "ytnbndciididpoaagreat", sum := "7fe2634c95e06d1ca29de01198e4803a4fb7f707046cfd25ff8e081b5b8cb715", func := "ganglion/ganglionlaw11.VerifyDisturbed", spec := "verifyDisturbed", unfollowed := true, recurses := true, apart := false }
def VerifyDisturbedSaid : Prop := verifyDisturbedRow.holds Tryz.pinned (OpenSpec.ofChange verifyDisturbedSpec)

/-- ITS FALSE NEIGHBOUR: 'it returns false'. Refute it at one input. -/
def verifyDisturbedWrong : ChangeSpec := { name := "verifyDisturbed", fn := fun _ => fun
  | [d1, d2, d3] => { results := [.lit (.bool false)], args := [d1, d2, d3] }
  | _ => none }
def VerifyDisturbedWrongFalsely : Prop := verifyDisturbedRow.holds Tryz.pinned (OpenSpec.ofChange verifyDisturbedWrong)

/-- 'ganglionlaw11.VerifyKnown': WHATEVER THE INPUT: true; the input reads as it did. -/
def verifyKnownSpec : ChangeSpec := { name := "verifyKnown", fn := fun _ => fun
  | [] => { results := [.lit (.bool true)], args := [] }
  | _ => none }
def verifyKnownRow : OpenClaim := { program := "ytnbndciididpoaagreat", sum := "7fe2634c95e06d1ca29de01198e4803a4fb7f707046cfd25ff8e081b5b8cb715", func := "ganglion/ganglionlaw11.VerifyKnown", spec := "verifyKnown", unfollowed := true, recurses := true, apart := false }
def VerifyKnownSaid : Prop := verifyKnownRow.holds Tryz.pinned (OpenSpec.ofChange verifyKnownSpec)

/-- ITS FALSE NEIGHBOUR: 'it returns false'. Refute it at one input. -/
def verifyKnownWrong : ChangeSpec := { name := "verifyKnown", fn := fun _ => fun
  | [] => { results := [.lit (.bool false)], args := [] }
  | _ => none }
def VerifyKnownWrongFalsely : Prop := verifyKnownRow.holds Tryz.pinned (OpenSpec.ofChange verifyKnownWrong)

/- THE SECOND FORM. 'bulk': how many values and letters a reading holds, each counted each time it is reached (what is shared counts as often as it is met; a slice's spare places count too). A statement '..UptoSaid' is the law's where the arguments, and the package variables that the reading takes, are together of bulk at most 1048576: NARROWER than '..Said'. Prove '..Said' where nothing that the law and all that it calls make is longer than what came in: it says more and counts as full. Else prove '..UptoSaid'. A law counts once. -/
mutual
def uptoBulk {H : Type} : DataW H → Nat
  | .lit (.string bytes) => bytes.length + 1
  | .lit _ => 1
  | .nil => 1
  | .ptr d => uptoBulk d + 1
  | .slice elems spare => uptoBulkAll elems + uptoBulkAll spare + 1
  | .agg parts => uptoBulkAll parts + 1
  | .iface _ d => uptoBulk d + 1
  | .map entries => uptoBulkEntries entries + 1
  | .held _ => 1
def uptoBulkAll {H : Type} : List (DataW H) → Nat
  | [] => 0
  | d :: r => uptoBulk d + uptoBulkAll r
def uptoBulkEntries {H : Type} : List (Lit × DataW H) → Nat
  | [] => 0
  | x :: r => uptoBulkEntry x + uptoBulkEntries r
def uptoBulkEntry {H : Type} : Lit × DataW H → Nat
  | (.string bytes, d) => bytes.length + uptoBulk d + 1
  | (_, d) => uptoBulk d + 1
 end
def uptoSmall : (H : Type) → List (DataW H) → Bool := fun _ ds => decide (uptoBulkAll ds ≤ 1048576)
def OpenSpec.upto (s : _root_.Go.ChangeSpec) : _root_.Go.OpenSpec := { _root_.Go.OpenSpec.ofChange s with cond := some uptoSmall }

/-- 'ganglionlaw11.VerifyReaches', WHERE WHAT IT READS IS OF BULK AT MOST 1048576: true; the input reads as it did. -/
def verifyReachesUptoRow : OpenClaim := { program := "ytnbndciididpoaagreat", sum := "7fe2634c95e06d1ca29de01198e4803a4fb7f707046cfd25ff8e081b5b8cb715", func := "ganglion/ganglionlaw11.VerifyReaches", spec := "verifyReaches", unfollowed := true, recurses := true, apart := false, narrowed := true }
def VerifyReachesUptoSaid : Prop := verifyReachesUptoRow.holds Tryz.pinned (OpenSpec.upto verifyReachesSpec)

/-- 'ganglionlaw11.VerifyBounds', WHERE WHAT IT READS IS OF BULK AT MOST 1048576: true; the input reads as it did. -/
def verifyBoundsUptoRow : OpenClaim := { program := "ytnbndciididpoaagreat", sum := "7fe2634c95e06d1ca29de01198e4803a4fb7f707046cfd25ff8e081b5b8cb715", func := "ganglion/ganglionlaw11.VerifyBounds", spec := "verifyBounds", unfollowed := true, recurses := true, apart := false, narrowed := true }
def VerifyBoundsUptoSaid : Prop := verifyBoundsUptoRow.holds Tryz.pinned (OpenSpec.upto verifyBoundsSpec)

/-- 'ganglionlaw11.VerifyClaims', WHERE WHAT IT READS IS OF BULK AT MOST 1048576: true; the input reads as it did. -/
def verifyClaimsUptoRow : OpenClaim := { program := "ytnbndciididpoaagreat", sum := "7fe2634c95e06d1ca29de01198e4803a4fb7f707046cfd25ff8e081b5b8cb715", func := "ganglion/ganglionlaw11.VerifyClaims", spec := "verifyClaims", unfollowed := true, recurses := true, apart := false, narrowed := true }
def VerifyClaimsUptoSaid : Prop := verifyClaimsUptoRow.holds Tryz.pinned (OpenSpec.upto verifyClaimsSpec)

/-- 'ganglionlaw11.VerifyCertains', WHERE WHAT IT READS IS OF BULK AT MOST 1048576: true; the input reads as it did. -/
def verifyCertainsUptoRow : OpenClaim := { program := "ytnbndciididpoaagreat", sum := "7fe2634c95e06d1ca29de01198e4803a4fb7f707046cfd25ff8e081b5b8cb715", func := "ganglion/ganglionlaw11.VerifyCertains", spec := "verifyCertains", unfollowed := true, recurses := true, apart := false, narrowed := true }
def VerifyCertainsUptoSaid : Prop := verifyCertainsUptoRow.holds Tryz.pinned (OpenSpec.upto verifyCertainsSpec)

/-- 'ganglionlaw11.VerifyRuns', WHERE WHAT IT READS IS OF BULK AT MOST 1048576: true; the input reads as it did. -/
def verifyRunsUptoRow : OpenClaim := { program := "ytnbndciididpoaagreat", sum := "7fe2634c95e06d1ca29de01198e4803a4fb7f707046cfd25ff8e081b5b8cb715", func := "ganglion/ganglionlaw11.VerifyRuns", spec := "verifyRuns", unfollowed := true, recurses := true, apart := false, narrowed := true }
def VerifyRunsUptoSaid : Prop := verifyRunsUptoRow.holds Tryz.pinned (OpenSpec.upto verifyRunsSpec)

/-- 'ganglionlaw11.VerifyRobusts', WHERE WHAT IT READS IS OF BULK AT MOST 1048576: true; the input reads as it did. -/
def verifyRobustsUptoRow : OpenClaim := { program := "ytnbndciididpoaagreat", sum := "7fe2634c95e06d1ca29de01198e4803a4fb7f707046cfd25ff8e081b5b8cb715", func := "ganglion/ganglionlaw11.VerifyRobusts", spec := "verifyRobusts", unfollowed := true, recurses := true, apart := false, narrowed := true }
def VerifyRobustsUptoSaid : Prop := verifyRobustsUptoRow.holds Tryz.pinned (OpenSpec.upto verifyRobustsSpec)

/-- 'ganglionlaw11.VerifyFound', WHERE WHAT IT READS IS OF BULK AT MOST 1048576: true; the input reads as it did. -/
def verifyFoundUptoRow : OpenClaim := { program := "ytnbndciididpoaagreat", sum := "7fe2634c95e06d1ca29de01198e4803a4fb7f707046cfd25ff8e081b5b8cb715", func := "ganglion/ganglionlaw11.VerifyFound", spec := "verifyFound", unfollowed := true, recurses := true, apart := false, narrowed := true }
def VerifyFoundUptoSaid : Prop := verifyFoundUptoRow.holds Tryz.pinned (OpenSpec.upto verifyFoundSpec)

/-- 'ganglionlaw11.VerifySound', WHERE WHAT IT READS IS OF BULK AT MOST 1048576: true; the input reads as it did. -/
def verifySoundUptoRow : OpenClaim := { program := "ytnbndciididpoaagreat", sum := "7fe2634c95e06d1ca29de01198e4803a4fb7f707046cfd25ff8e081b5b8cb715", func := "ganglion/ganglionlaw11.VerifySound", spec := "verifySound", unfollowed := true, recurses := true, apart := false, narrowed := true }
def VerifySoundUptoSaid : Prop := verifySoundUptoRow.holds Tryz.pinned (OpenSpec.upto verifySoundSpec)

/-- 'ganglionlaw11.VerifyExact', WHERE WHAT IT READS IS OF BULK AT MOST 1048576: true; the input reads as it did. -/
def verifyExactUptoRow : OpenClaim := { program := "ytnbndciididpoaagreat", sum := "7fe2634c95e06d1ca29de01198e4803a4fb7f707046cfd25ff8e081b5b8cb715", func := "ganglion/ganglionlaw11.VerifyExact", spec := "verifyExact", unfollowed := true, recurses := true, apart := false, narrowed := true }
def VerifyExactUptoSaid : Prop := verifyExactUptoRow.holds Tryz.pinned (OpenSpec.upto verifyExactSpec)

/-- 'ganglionlaw11.VerifyCertain', WHERE WHAT IT READS IS OF BULK AT MOST 1048576: true; the input reads as it did. -/
def verifyCertainUptoRow : OpenClaim := { program := "ytnbndciididpoaagreat", sum := "7fe2634c95e06d1ca29de01198e4803a4fb7f707046cfd25ff8e081b5b8cb715", func := "ganglion/ganglionlaw11.VerifyCertain", spec := "verifyCertain", unfollowed := true, recurses := true, apart := false, narrowed := true }
def VerifyCertainUptoSaid : Prop := verifyCertainUptoRow.holds Tryz.pinned (OpenSpec.upto verifyCertainSpec)

/-- 'ganglionlaw11.VerifyDisturbed', WHERE WHAT IT READS IS OF BULK AT MOST 1048576: true; the input reads as it did. -/
def verifyDisturbedUptoRow : OpenClaim := { program := "ytnbndciididpoaagreat", sum := "7fe2634c95e06d1ca29de01198e4803a4fb7f707046cfd25ff8e081b5b8cb715", func := "ganglion/ganglionlaw11.VerifyDisturbed", spec := "verifyDisturbed", unfollowed := true, recurses := true, apart := false, narrowed := true }
def VerifyDisturbedUptoSaid : Prop := verifyDisturbedUptoRow.holds Tryz.pinned (OpenSpec.upto verifyDisturbedSpec)

/-- 'ganglionlaw11.VerifyKnown', WHERE WHAT IT READS IS OF BULK AT MOST 1048576: true; the input reads as it did. -/
def verifyKnownUptoRow : OpenClaim := { program := "ytnbndciididpoaagreat", sum := "7fe2634c95e06d1ca29de01198e4803a4fb7f707046cfd25ff8e081b5b8cb715", func := "ganglion/ganglionlaw11.VerifyKnown", spec := "verifyKnown", unfollowed := true, recurses := true, apart := false, narrowed := true }
def VerifyKnownUptoSaid : Prop := verifyKnownUptoRow.holds Tryz.pinned (OpenSpec.upto verifyKnownSpec)

end Rows
end Go.Proofs.YtnbndciididpoaaGreat
