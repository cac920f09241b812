/- The chapter's examples that each law of this layer asks for besides hold. No condition. -/
import Derived.Test.YtdfkbbcnioccfaaGreatGp
namespace Go.Proofs.YtdfkbbcnioccfaaGreat.Lf
open Go.RowKit
set_option linter.unusedVariables false
set_option maxRecDepth 100000 in
theorem works_ran : Ev.runO Tryz.prog grC 100000 14 .leaf = some (.bool true) := by kernel_rfl
theorem works_any (w : World) : Calls Tryz.prog 14 #[] w fun e w' => e = .returned (.bool true) ∧ Below w.heap.size w w' := Ev.runO_calls (k := 1) grC_ok mixed rfl works_ran w (Ev.GlobIn.none w)
end Go.Proofs.YtdfkbbcnioccfaaGreat.Lf
