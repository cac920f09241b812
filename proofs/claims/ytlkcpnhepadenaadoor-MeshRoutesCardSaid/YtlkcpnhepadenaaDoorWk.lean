/- The chapter's examples that each law of this layer asks for besides hold. The condition: the package-level tables hold what their initialisers lay. -/
import Derived.Test.YtlkcpnhepadenaaDoorLf
namespace Go.Proofs.YtlkcpnhepadenaaDoor.Lf
open Go.RowKit
set_option linter.unusedVariables false
set_option maxRecDepth 100000 in
theorem works_ran : Ev.runG Tryd.prog 100000 13 tables = some (.bool true) := by kernel_rfl
theorem works_any (w : World) (hg : Ev.GlobIn tables w) : Calls Tryd.prog 13 #[] w fun e w' => e = .returned (.bool true) ∧ Below w.heap.size w w' := Ev.runG_calls (k := 1) mixed rfl works_ran w hg
end Go.Proofs.YtlkcpnhepadenaaDoor.Lf
