/- The chapter's examples that each law of this layer asks for besides hold. No condition. -/
import Derived.Test.YtbnjmpjodmlccaaLf
namespace Go.Proofs.Ytbnjmpjodmlccaa.Lf
open Go.RowKit
set_option linter.unusedVariables false
set_option maxRecDepth 100000 in
theorem works_ran : Ev.runZ Try.prog 100000 13 = some (.bool true) := by kernel_rfl
theorem works_any (w : World) : Calls Try.prog 13 #[] w fun e w' => e = .returned (.bool true) ∧ Below w.heap.size w w' := Ev.runZ_calls (k := 1) mixed rfl works_ran w
end Go.Proofs.Ytbnjmpjodmlccaa.Lf
