/- The chapter's examples that each law of this layer asks for besides hold. No condition. -/
import Derived.Test.YthfmbmjjfdhhnaaCg
namespace Go.Proofs.Ythfmbmjjfdhhnaa.Lf
open Go.RowKit
set_option linter.unusedVariables false
noncomputable def caughtC : Ev.Orc := caughtO (Ev.recs Try.prog Ev.noOrc 100000) 100000 [false, true, false, true, true, true, true, false, true, true, false, true, true, true]
set_option maxRecDepth 100000 in
theorem works_ran : Ev.runO Try.prog caughtC 100000 6 .leaf = some (.bool true) := by kernel_rfl
theorem works_any (w : World) : Calls Try.prog 6 #[] w fun e w' => e = .returned (.bool true) ∧ Below w.heap.size w w' := Ev.runO_calls (k := 1) (caughtO_ok _ _ _) mixed rfl works_ran w (Ev.GlobIn.none w)
end Go.Proofs.Ythfmbmjjfdhhnaa.Lf
