/- The chapter's examples that each law of this layer asks for besides hold. No condition. -/
import Derived.Test.YtjdcjcanmeangaaGreatLf
namespace Go.Proofs.YtjdcjcanmeangaaGreat.Lf
open Go.RowKit
set_option linter.unusedVariables false
set_option maxRecDepth 100000 in
theorem works_ran : Ev.runZ Tryz.prog 100000 18 = some (.bool true) := by kernel_rfl
theorem works_any (w : World) : Calls Tryz.prog 18 #[] w fun e w' => e = .returned (.bool true) ∧ Below w.heap.size w w' := Ev.runZ_calls (k := 1) mixed rfl works_ran w
end Go.Proofs.YtjdcjcanmeangaaGreat.Lf
