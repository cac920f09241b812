/-
  NARROWER THAN 'FOR EVERY INPUT', by the rows' own cells (each row's printed sentence says how): MeshRoutes: laid · MeshTables: laid · MeshMerges: laid · MeshRuns: laid · MeshBarriers: laid · MeshTrees: laid · MeshPackets: laid · MeshClasses: laid · MeshSame: laid · MeshTogether: laid.
  DERIVED. THE GIVEN ROWS OF THIS SEAT. 10 by the template 'for every input the law returns true; each argument reads behind the call as it read before'; 0 by the template 'total and deterministic' (their statements: YtlkcpnhepadenaaDoorTotals.lean).
  GIVEN WITH THE SEED: the statements are not yours to turn. If you find one false, say at which input.
  Laid BY PROGRAM, IN A SANDBOX (cutbox-rows.mjs): the forced cells as the released guide's own fill.sh prints them over the translation 50957cee7a947f5c… (all of the seat's roots in one cut). By AI agents, Wed Nov 11 2026. No macro, syntax, notation, axiom, sorry.
-/
import Derived.Test.YtlkcpnhepadenaaDoorChecked
import GoSem.Claim
import GoSem.ClaimJoined
import GoSem.ClaimMapViews
import Derived.JoinedTies
import Derived.KernelRfl
namespace Go.Proofs.YtlkcpnhepadenaaDoor
/- THE CELL 'sum', in the pinned program and in every row, IS THE sha256 OF THE DUMP (.gsa) THAT YtlkcpnhepadenaaDoorProg.lean LOADS. Nothing in Lean hashes anything: it is a label: what it is worth is what the hold of that sum in a sandbox is worth. -/
noncomputable def Tryd.pinned : Pinned := { name := "ytlkcpnhepadenaadoor", sum := "50957cee7a947f5c3f0c497894488ffb195310506403c4c8c24ef0fdebd3e84d", checked := Tryd.checked }
namespace Rows
def none {H : Type} : Left H := { results := [], args := [] }

/- WHAT THE LISTED PACKAGE-LEVEL VARIABLES READ AS WHEN THE CALL BEGINS. Each datum BY PROGRAM (the guide's laid-datum.mjs) off the statement by which the dump's own 'gosem.cut.vars' lays the variable. In a bare row this is a premise. The card (YtlkcpnhepadenaaDoorCards.lean) ties it to the program's text. -/
def laid_ganglion_mesh_outputs {H : Type} : DataW H := .agg [.lit (.int .i64 1), .lit (.int .i64 2), .lit (.int .i64 4), .lit (.int .i64 8), .lit (.int .i64 16)]
def laid_ganglion_mesh_nothing {H : Type} : DataW H := .agg [.lit (.int .i64 (-1)), .lit (.int .i64 (-1)), .lit (.int .i64 (-1)), .lit (.int .i64 (-1))]

/-- 'ganglionlaw04.MeshRoutes': WHATEVER THE INPUT: true; the input reads as it did. -/
def meshRoutesSpec : ChangeSpec := { name := "meshRoutes", fn := fun _ => fun
  | [d1, d2, d3, d4] => { results := [.lit (.bool true)], args := [d1, d2, d3, d4] }
  | _ => none }
def meshRoutesRow : OpenClaim := { program := "ytlkcpnhepadenaadoor", sum := "50957cee7a947f5c3f0c497894488ffb195310506403c4c8c24ef0fdebd3e84d", func := "ganglion/ganglionlaw04.MeshRoutes", spec := "meshRoutes", unfollowed := true, recurses := true, named := ["ganglion/mesh.nothing", "ganglion/mesh.outputs"], plainKeys := false, apart := false, laid := [("ganglion/mesh.outputs", laid_ganglion_mesh_outputs), ("ganglion/mesh.nothing", laid_ganglion_mesh_nothing)] }
def MeshRoutesSaid : Prop := meshRoutesRow.holds Tryd.pinned (OpenSpec.ofChange meshRoutesSpec)

/-- ITS FALSE NEIGHBOUR: 'it returns false'. Refute it at one input. -/
def meshRoutesWrong : ChangeSpec := { name := "meshRoutes", fn := fun _ => fun
  | [d1, d2, d3, d4] => { results := [.lit (.bool false)], args := [d1, d2, d3, d4] }
  | _ => none }
def MeshRoutesWrongFalsely : Prop := meshRoutesRow.holds Tryd.pinned (OpenSpec.ofChange meshRoutesWrong)

/-- 'ganglionlaw04.MeshTables': WHATEVER THE INPUT: true; the input reads as it did. -/
def meshTablesSpec : ChangeSpec := { name := "meshTables", fn := fun _ => fun
  | [d1, d2] => { results := [.lit (.bool true)], args := [d1, d2] }
  | _ => none }
def meshTablesRow : OpenClaim := { program := "ytlkcpnhepadenaadoor", sum := "50957cee7a947f5c3f0c497894488ffb195310506403c4c8c24ef0fdebd3e84d", func := "ganglion/ganglionlaw04.MeshTables", spec := "meshTables", unfollowed := true, recurses := true, named := ["ganglion/mesh.nothing", "ganglion/mesh.outputs"], plainKeys := false, apart := false, laid := [("ganglion/mesh.outputs", laid_ganglion_mesh_outputs), ("ganglion/mesh.nothing", laid_ganglion_mesh_nothing)] }
def MeshTablesSaid : Prop := meshTablesRow.holds Tryd.pinned (OpenSpec.ofChange meshTablesSpec)

/-- ITS FALSE NEIGHBOUR: 'it returns false'. Refute it at one input. -/
def meshTablesWrong : ChangeSpec := { name := "meshTables", fn := fun _ => fun
  | [d1, d2] => { results := [.lit (.bool false)], args := [d1, d2] }
  | _ => none }
def MeshTablesWrongFalsely : Prop := meshTablesRow.holds Tryd.pinned (OpenSpec.ofChange meshTablesWrong)

/-- 'ganglionlaw04.MeshMerges': WHATEVER THE INPUT: true; the input reads as it did. -/
def meshMergesSpec : ChangeSpec := { name := "meshMerges", fn := fun _ => fun
  | [d1, d2, d3] => { results := [.lit (.bool true)], args := [d1, d2, d3] }
  | _ => none }
def meshMergesRow : OpenClaim := { program := "ytlkcpnhepadenaadoor", sum := "50957cee7a947f5c3f0c497894488ffb195310506403c4c8c24ef0fdebd3e84d", func := "ganglion/ganglionlaw04.MeshMerges", spec := "meshMerges", unfollowed := true, recurses := true, named := ["ganglion/mesh.nothing", "ganglion/mesh.outputs"], plainKeys := false, apart := false, laid := [("ganglion/mesh.outputs", laid_ganglion_mesh_outputs), ("ganglion/mesh.nothing", laid_ganglion_mesh_nothing)] }
def MeshMergesSaid : Prop := meshMergesRow.holds Tryd.pinned (OpenSpec.ofChange meshMergesSpec)

/-- ITS FALSE NEIGHBOUR: 'it returns false'. Refute it at one input. -/
def meshMergesWrong : ChangeSpec := { name := "meshMerges", fn := fun _ => fun
  | [d1, d2, d3] => { results := [.lit (.bool false)], args := [d1, d2, d3] }
  | _ => none }
def MeshMergesWrongFalsely : Prop := meshMergesRow.holds Tryd.pinned (OpenSpec.ofChange meshMergesWrong)

/-- 'ganglionlaw04.MeshRuns': WHATEVER THE INPUT: true; the input reads as it did. -/
def meshRunsSpec : ChangeSpec := { name := "meshRuns", fn := fun _ => fun
  | [d1, d2, d3, d4] => { results := [.lit (.bool true)], args := [d1, d2, d3, d4] }
  | _ => none }
def meshRunsRow : OpenClaim := { program := "ytlkcpnhepadenaadoor", sum := "50957cee7a947f5c3f0c497894488ffb195310506403c4c8c24ef0fdebd3e84d", func := "ganglion/ganglionlaw04.MeshRuns", spec := "meshRuns", unfollowed := true, recurses := true, named := ["ganglion/mesh.nothing", "ganglion/mesh.outputs"], plainKeys := false, apart := false, laid := [("ganglion/mesh.outputs", laid_ganglion_mesh_outputs), ("ganglion/mesh.nothing", laid_ganglion_mesh_nothing)] }
def MeshRunsSaid : Prop := meshRunsRow.holds Tryd.pinned (OpenSpec.ofChange meshRunsSpec)

/-- ITS FALSE NEIGHBOUR: 'it returns false'. Refute it at one input. -/
def meshRunsWrong : ChangeSpec := { name := "meshRuns", fn := fun _ => fun
  | [d1, d2, d3, d4] => { results := [.lit (.bool false)], args := [d1, d2, d3, d4] }
  | _ => none }
def MeshRunsWrongFalsely : Prop := meshRunsRow.holds Tryd.pinned (OpenSpec.ofChange meshRunsWrong)

/-- 'ganglionlaw04.MeshBarriers': WHATEVER THE INPUT: true; the input reads as it did. -/
def meshBarriersSpec : ChangeSpec := { name := "meshBarriers", fn := fun _ => fun
  | [d1, d2] => { results := [.lit (.bool true)], args := [d1, d2] }
  | _ => none }
def meshBarriersRow : OpenClaim := { program := "ytlkcpnhepadenaadoor", sum := "50957cee7a947f5c3f0c497894488ffb195310506403c4c8c24ef0fdebd3e84d", func := "ganglion/ganglionlaw04.MeshBarriers", spec := "meshBarriers", unfollowed := true, recurses := true, named := ["ganglion/mesh.nothing", "ganglion/mesh.outputs"], plainKeys := false, apart := false, laid := [("ganglion/mesh.outputs", laid_ganglion_mesh_outputs), ("ganglion/mesh.nothing", laid_ganglion_mesh_nothing)] }
def MeshBarriersSaid : Prop := meshBarriersRow.holds Tryd.pinned (OpenSpec.ofChange meshBarriersSpec)

/-- ITS FALSE NEIGHBOUR: 'it returns false'. Refute it at one input. -/
def meshBarriersWrong : ChangeSpec := { name := "meshBarriers", fn := fun _ => fun
  | [d1, d2] => { results := [.lit (.bool false)], args := [d1, d2] }
  | _ => none }
def MeshBarriersWrongFalsely : Prop := meshBarriersRow.holds Tryd.pinned (OpenSpec.ofChange meshBarriersWrong)

/-- 'ganglionlaw04.MeshTrees': WHATEVER THE INPUT: true; the input reads as it did. -/
def meshTreesSpec : ChangeSpec := { name := "meshTrees", fn := fun _ => fun
  | [d1, d2, d3, d4] => { results := [.lit (.bool true)], args := [d1, d2, d3, d4] }
  | _ => none }
def meshTreesRow : OpenClaim := { program := "ytlkcpnhepadenaadoor", sum := "50957cee7a947f5c3f0c497894488ffb195310506403c4c8c24ef0fdebd3e84d", func := "ganglion/ganglionlaw04.MeshTrees", spec := "meshTrees", unfollowed := true, recurses := true, named := ["ganglion/mesh.nothing", "ganglion/mesh.outputs"], plainKeys := false, apart := false, laid := [("ganglion/mesh.outputs", laid_ganglion_mesh_outputs), ("ganglion/mesh.nothing", laid_ganglion_mesh_nothing)] }
def MeshTreesSaid : Prop := meshTreesRow.holds Tryd.pinned (OpenSpec.ofChange meshTreesSpec)

/-- ITS FALSE NEIGHBOUR: 'it returns false'. Refute it at one input. -/
def meshTreesWrong : ChangeSpec := { name := "meshTrees", fn := fun _ => fun
  | [d1, d2, d3, d4] => { results := [.lit (.bool false)], args := [d1, d2, d3, d4] }
  | _ => none }
def MeshTreesWrongFalsely : Prop := meshTreesRow.holds Tryd.pinned (OpenSpec.ofChange meshTreesWrong)

/-- 'ganglionlaw04.MeshPackets': WHATEVER THE INPUT: true; the input reads as it did. -/
def meshPacketsSpec : ChangeSpec := { name := "meshPackets", fn := fun _ => fun
  | [d1, d2, d3, d4, d5] => { results := [.lit (.bool true)], args := [d1, d2, d3, d4, d5] }
  | _ => none }
def meshPacketsRow : OpenClaim := { program := "ytlkcpnhepadenaadoor", sum := "50957cee7a947f5c3f0c497894488ffb195310506403c4c8c24ef0fdebd3e84d", func := "ganglion/ganglionlaw04.MeshPackets", spec := "meshPackets", unfollowed := true, recurses := true, named := ["ganglion/mesh.nothing", "ganglion/mesh.outputs"], plainKeys := false, apart := false, laid := [("ganglion/mesh.outputs", laid_ganglion_mesh_outputs), ("ganglion/mesh.nothing", laid_ganglion_mesh_nothing)] }
def MeshPacketsSaid : Prop := meshPacketsRow.holds Tryd.pinned (OpenSpec.ofChange meshPacketsSpec)

/-- ITS FALSE NEIGHBOUR: 'it returns false'. Refute it at one input. -/
def meshPacketsWrong : ChangeSpec := { name := "meshPackets", fn := fun _ => fun
  | [d1, d2, d3, d4, d5] => { results := [.lit (.bool false)], args := [d1, d2, d3, d4, d5] }
  | _ => none }
def MeshPacketsWrongFalsely : Prop := meshPacketsRow.holds Tryd.pinned (OpenSpec.ofChange meshPacketsWrong)

/-- 'ganglionlaw04.MeshClasses': WHATEVER THE INPUT: true; the input reads as it did. -/
def meshClassesSpec : ChangeSpec := { name := "meshClasses", fn := fun _ => fun
  | [d1, d2, d3, d4, d5] => { results := [.lit (.bool true)], args := [d1, d2, d3, d4, d5] }
  | _ => none }
def meshClassesRow : OpenClaim := { program := "ytlkcpnhepadenaadoor", sum := "50957cee7a947f5c3f0c497894488ffb195310506403c4c8c24ef0fdebd3e84d", func := "ganglion/ganglionlaw04.MeshClasses", spec := "meshClasses", unfollowed := true, recurses := true, named := ["ganglion/mesh.nothing", "ganglion/mesh.outputs"], plainKeys := false, apart := false, laid := [("ganglion/mesh.outputs", laid_ganglion_mesh_outputs), ("ganglion/mesh.nothing", laid_ganglion_mesh_nothing)] }
def MeshClassesSaid : Prop := meshClassesRow.holds Tryd.pinned (OpenSpec.ofChange meshClassesSpec)

/-- ITS FALSE NEIGHBOUR: 'it returns false'. Refute it at one input. -/
def meshClassesWrong : ChangeSpec := { name := "meshClasses", fn := fun _ => fun
  | [d1, d2, d3, d4, d5] => { results := [.lit (.bool false)], args := [d1, d2, d3, d4, d5] }
  | _ => none }
def MeshClassesWrongFalsely : Prop := meshClassesRow.holds Tryd.pinned (OpenSpec.ofChange meshClassesWrong)

/-- 'ganglionlaw04.MeshSame': WHATEVER THE INPUT: true; the input reads as it did. -/
def meshSameSpec : ChangeSpec := { name := "meshSame", fn := fun _ => fun
  | [d1, d2] => { results := [.lit (.bool true)], args := [d1, d2] }
  | _ => none }
def meshSameRow : OpenClaim := { program := "ytlkcpnhepadenaadoor", sum := "50957cee7a947f5c3f0c497894488ffb195310506403c4c8c24ef0fdebd3e84d", func := "ganglion/ganglionlaw04.MeshSame", spec := "meshSame", unfollowed := true, recurses := true, named := ["ganglion/mesh.nothing", "ganglion/mesh.outputs"], plainKeys := false, apart := false, laid := [("ganglion/mesh.outputs", laid_ganglion_mesh_outputs), ("ganglion/mesh.nothing", laid_ganglion_mesh_nothing)] }
def MeshSameSaid : Prop := meshSameRow.holds Tryd.pinned (OpenSpec.ofChange meshSameSpec)

/-- ITS FALSE NEIGHBOUR: 'it returns false'. Refute it at one input. -/
def meshSameWrong : ChangeSpec := { name := "meshSame", fn := fun _ => fun
  | [d1, d2] => { results := [.lit (.bool false)], args := [d1, d2] }
  | _ => none }
def MeshSameWrongFalsely : Prop := meshSameRow.holds Tryd.pinned (OpenSpec.ofChange meshSameWrong)

/-- 'ganglionlaw04.MeshTogether': WHATEVER THE INPUT: true; the input reads as it did. -/
def meshTogetherSpec : ChangeSpec := { name := "meshTogether", fn := fun _ => fun
  | [d1, d2, d3, d4] => { results := [.lit (.bool true)], args := [d1, d2, d3, d4] }
  | _ => none }
def meshTogetherRow : OpenClaim := { program := "ytlkcpnhepadenaadoor", sum := "50957cee7a947f5c3f0c497894488ffb195310506403c4c8c24ef0fdebd3e84d", func := "ganglion/ganglionlaw04.MeshTogether", spec := "meshTogether", unfollowed := true, recurses := true, named := ["ganglion/mesh.nothing", "ganglion/mesh.outputs"], plainKeys := false, apart := false, laid := [("ganglion/mesh.outputs", laid_ganglion_mesh_outputs), ("ganglion/mesh.nothing", laid_ganglion_mesh_nothing)] }
def MeshTogetherSaid : Prop := meshTogetherRow.holds Tryd.pinned (OpenSpec.ofChange meshTogetherSpec)

/-- ITS FALSE NEIGHBOUR: 'it returns false'. Refute it at one input. -/
def meshTogetherWrong : ChangeSpec := { name := "meshTogether", fn := fun _ => fun
  | [d1, d2, d3, d4] => { results := [.lit (.bool false)], args := [d1, d2, d3, d4] }
  | _ => none }
def MeshTogetherWrongFalsely : Prop := meshTogetherRow.holds Tryd.pinned (OpenSpec.ofChange meshTogetherWrong)

/- THE SECOND FORM. 'bulk': how many values and letters a reading holds, each counted each time it is reached (what is shared counts as often as it is met; a slice's spare places count too). A statement '..UptoSaid' is the law's where the arguments, and the package variables that the reading takes, are together of bulk at most 1048576: NARROWER than '..Said'. Prove '..Said' where nothing that the law and all that it calls make is longer than what came in: it says more and counts as full. Else prove '..UptoSaid'. A law counts once. -/
mutual
def uptoBulk {H : Type} : DataW H → Nat
  | .lit (.string bytes) => bytes.length + 1
  | .lit _ => 1
  | .nil => 1
  | .ptr d => uptoBulk d + 1
  | .slice elems spare => uptoBulkAll elems + uptoBulkAll spare + 1
  | .agg parts => uptoBulkAll parts + 1
  | .iface _ d => uptoBulk d + 1
  | .map entries => uptoBulkEntries entries + 1
  | .held _ => 1
def uptoBulkAll {H : Type} : List (DataW H) → Nat
  | [] => 0
  | d :: r => uptoBulk d + uptoBulkAll r
def uptoBulkEntries {H : Type} : List (Lit × DataW H) → Nat
  | [] => 0
  | x :: r => uptoBulkEntry x + uptoBulkEntries r
def uptoBulkEntry {H : Type} : Lit × DataW H → Nat
  | (.string bytes, d) => bytes.length + uptoBulk d + 1
  | (_, d) => uptoBulk d + 1
 end
def uptoSmall : (H : Type) → List (DataW H) → Bool := fun _ ds => decide (uptoBulkAll ds ≤ 1048576)
def OpenSpec.upto (s : _root_.Go.ChangeSpec) : _root_.Go.OpenSpec := { _root_.Go.OpenSpec.ofChange s with cond := some uptoSmall }

/-- 'ganglionlaw04.MeshRoutes', WHERE WHAT IT READS IS OF BULK AT MOST 1048576: true; the input reads as it did. -/
def meshRoutesUptoRow : OpenClaim := { program := "ytlkcpnhepadenaadoor", sum := "50957cee7a947f5c3f0c497894488ffb195310506403c4c8c24ef0fdebd3e84d", func := "ganglion/ganglionlaw04.MeshRoutes", spec := "meshRoutes", unfollowed := true, recurses := true, named := ["ganglion/mesh.nothing", "ganglion/mesh.outputs"], plainKeys := false, apart := false, laid := [("ganglion/mesh.outputs", laid_ganglion_mesh_outputs), ("ganglion/mesh.nothing", laid_ganglion_mesh_nothing)], narrowed := true }
def MeshRoutesUptoSaid : Prop := meshRoutesUptoRow.holds Tryd.pinned (OpenSpec.upto meshRoutesSpec)

/-- 'ganglionlaw04.MeshTables', WHERE WHAT IT READS IS OF BULK AT MOST 1048576: true; the input reads as it did. -/
def meshTablesUptoRow : OpenClaim := { program := "ytlkcpnhepadenaadoor", sum := "50957cee7a947f5c3f0c497894488ffb195310506403c4c8c24ef0fdebd3e84d", func := "ganglion/ganglionlaw04.MeshTables", spec := "meshTables", unfollowed := true, recurses := true, named := ["ganglion/mesh.nothing", "ganglion/mesh.outputs"], plainKeys := false, apart := false, laid := [("ganglion/mesh.outputs", laid_ganglion_mesh_outputs), ("ganglion/mesh.nothing", laid_ganglion_mesh_nothing)], narrowed := true }
def MeshTablesUptoSaid : Prop := meshTablesUptoRow.holds Tryd.pinned (OpenSpec.upto meshTablesSpec)

/-- 'ganglionlaw04.MeshMerges', WHERE WHAT IT READS IS OF BULK AT MOST 1048576: true; the input reads as it did. -/
def meshMergesUptoRow : OpenClaim := { program := "ytlkcpnhepadenaadoor", sum := "50957cee7a947f5c3f0c497894488ffb195310506403c4c8c24ef0fdebd3e84d", func := "ganglion/ganglionlaw04.MeshMerges", spec := "meshMerges", unfollowed := true, recurses := true, named := ["ganglion/mesh.nothing", "ganglion/mesh.outputs"], plainKeys := false, apart := false, laid := [("ganglion/mesh.outputs", laid_ganglion_mesh_outputs), ("ganglion/mesh.nothing", laid_ganglion_mesh_nothing)], narrowed := true }
def MeshMergesUptoSaid : Prop := meshMergesUptoRow.holds Tryd.pinned (OpenSpec.upto meshMergesSpec)

/-- 'ganglionlaw04.MeshRuns', WHERE WHAT IT READS IS OF BULK AT MOST 1048576: true; the input reads as it did. -/
def meshRunsUptoRow : OpenClaim := { program := "ytlkcpnhepadenaadoor", sum := "50957cee7a947f5c3f0c497894488ffb195310506403c4c8c24ef0fdebd3e84d", func := "ganglion/ganglionlaw04.MeshRuns", spec := "meshRuns", unfollowed := true, recurses := true, named := ["ganglion/mesh.nothing", "ganglion/mesh.outputs"], plainKeys := false, apart := false, laid := [("ganglion/mesh.outputs", laid_ganglion_mesh_outputs), ("ganglion/mesh.nothing", laid_ganglion_mesh_nothing)], narrowed := true }
def MeshRunsUptoSaid : Prop := meshRunsUptoRow.holds Tryd.pinned (OpenSpec.upto meshRunsSpec)

/-- 'ganglionlaw04.MeshBarriers', WHERE WHAT IT READS IS OF BULK AT MOST 1048576: true; the input reads as it did. -/
def meshBarriersUptoRow : OpenClaim := { program := "ytlkcpnhepadenaadoor", sum := "50957cee7a947f5c3f0c497894488ffb195310506403c4c8c24ef0fdebd3e84d", func := "ganglion/ganglionlaw04.MeshBarriers", spec := "meshBarriers", unfollowed := true, recurses := true, named := ["ganglion/mesh.nothing", "ganglion/mesh.outputs"], plainKeys := false, apart := false, laid := [("ganglion/mesh.outputs", laid_ganglion_mesh_outputs), ("ganglion/mesh.nothing", laid_ganglion_mesh_nothing)], narrowed := true }
def MeshBarriersUptoSaid : Prop := meshBarriersUptoRow.holds Tryd.pinned (OpenSpec.upto meshBarriersSpec)

/-- 'ganglionlaw04.MeshTrees', WHERE WHAT IT READS IS OF BULK AT MOST 1048576: true; the input reads as it did. -/
def meshTreesUptoRow : OpenClaim := { program := "ytlkcpnhepadenaadoor", sum := "50957cee7a947f5c3f0c497894488ffb195310506403c4c8c24ef0fdebd3e84d", func := "ganglion/ganglionlaw04.MeshTrees", spec := "meshTrees", unfollowed := true, recurses := true, named := ["ganglion/mesh.nothing", "ganglion/mesh.outputs"], plainKeys := false, apart := false, laid := [("ganglion/mesh.outputs", laid_ganglion_mesh_outputs), ("ganglion/mesh.nothing", laid_ganglion_mesh_nothing)], narrowed := true }
def MeshTreesUptoSaid : Prop := meshTreesUptoRow.holds Tryd.pinned (OpenSpec.upto meshTreesSpec)

/-- 'ganglionlaw04.MeshPackets', WHERE WHAT IT READS IS OF BULK AT MOST 1048576: true; the input reads as it did. -/
def meshPacketsUptoRow : OpenClaim := { program := "ytlkcpnhepadenaadoor", sum := "50957cee7a947f5c3f0c497894488ffb195310506403c4c8c24ef0fdebd3e84d", func := "ganglion/ganglionlaw04.MeshPackets", spec := "meshPackets", unfollowed := true, recurses := true, named := ["ganglion/mesh.nothing", "ganglion/mesh.outputs"], plainKeys := false, apart := false, laid := [("ganglion/mesh.outputs", laid_ganglion_mesh_outputs), ("ganglion/mesh.nothing", laid_ganglion_mesh_nothing)], narrowed := true }
def MeshPacketsUptoSaid : Prop := meshPacketsUptoRow.holds Tryd.pinned (OpenSpec.upto meshPacketsSpec)

/-- 'ganglionlaw04.MeshClasses', WHERE WHAT IT READS IS OF BULK AT MOST 1048576: true; the input reads as it did. -/
def meshClassesUptoRow : OpenClaim := { program := "ytlkcpnhepadenaadoor", sum := "50957cee7a947f5c3f0c497894488ffb195310506403c4c8c24ef0fdebd3e84d", func := "ganglion/ganglionlaw04.MeshClasses", spec := "meshClasses", unfollowed := true, recurses := true, named := ["ganglion/mesh.nothing", "ganglion/mesh.outputs"], plainKeys := false, apart := false, laid := [("ganglion/mesh.outputs", laid_ganglion_mesh_outputs), ("ganglion/mesh.nothing", laid_ganglion_mesh_nothing)], narrowed := true }
def MeshClassesUptoSaid : Prop := meshClassesUptoRow.holds Tryd.pinned (OpenSpec.upto meshClassesSpec)

/-- 'ganglionlaw04.MeshSame', WHERE WHAT IT READS IS OF BULK AT MOST 1048576: true; the input reads as it did. -/
def meshSameUptoRow : OpenClaim := { program := "ytlkcpnhepadenaadoor", sum := "50957cee7a947f5c3f0c497894488ffb195310506403c4c8c24ef0fdebd3e84d", func := "ganglion/ganglionlaw04.MeshSame", spec := "meshSame", unfollowed := true, recurses := true, named := ["ganglion/mesh.nothing", "ganglion/mesh.outputs"], plainKeys := false, apart := false, laid := [("ganglion/mesh.outputs", laid_ganglion_mesh_outputs), ("ganglion/mesh.nothing", laid_ganglion_mesh_nothing)], narrowed := true }
def MeshSameUptoSaid : Prop := meshSameUptoRow.holds Tryd.pinned (OpenSpec.upto meshSameSpec)

/-- 'ganglionlaw04.MeshTogether', WHERE WHAT IT READS IS OF BULK AT MOST 1048576: true; the input reads as it did. -/
def meshTogetherUptoRow : OpenClaim := { program := "ytlkcpnhepadenaadoor", sum := "50957cee7a947f5c3f0c497894488ffb195310506403c4c8c24ef0fdebd3e84d", func := "ganglion/ganglionlaw04.MeshTogether", spec := "meshTogether", unfollowed := true, recurses := true, named := ["ganglion/mesh.nothing", "ganglion/mesh.outputs"], plainKeys := false, apart := false, laid := [("ganglion/mesh.outputs", laid_ganglion_mesh_outputs), ("ganglion/mesh.nothing", laid_ganglion_mesh_nothing)], narrowed := true }
def MeshTogetherUptoSaid : Prop := meshTogetherUptoRow.holds Tryd.pinned (OpenSpec.upto meshTogetherSpec)

end Rows
end Go.Proofs.YtlkcpnhepadenaaDoor
