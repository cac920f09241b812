/- The specification's Valid, leak, Go, Tick, Leak. -/
import Derived.Test.YtmgdildbngbibaaK
import Derived.Test.YtmgdildbngbibaaJ
namespace Go.Proofs.Ytmgdildbngbibaa
set_option linter.unusedVariables false
open Go.RowKit Go.Shelf

theorem run_max2 {P : Program} {w : World} (ts : Array TypeId) (t : TypeId) (k k' : IntKind) (x y : Int) : (Builtin.max_ ts t #[.int k x, .int k' y]).run P w = .ok (.int k (max x y)) w := by
  rw [run_max_int2]
  have : (if y > x then y else x) = max x y := by split <;> omega
  rw [this]
theorem run_min2 {P : Program} {w : World} (ts : Array TypeId) (t : TypeId) (k k' : IntKind) (x y : Int) : (Builtin.min_ ts t #[.int k x, .int k' y]).run P w = .ok (.int k (min x y)) w := by
  rw [run_min_int2]
  have : (if y < x then y else x) = min x y := by split <;> omega
  rw [this]
attribute [local go_sem high] run_max2 run_min2

/-- What Leak returns. -/
def leakE (p : Prm) (v : Int) : Int := if checkP p = 0 then (if inR v (-1048576) 1048576 then 0 else 3) else checkP p
def leakR (p : Prm) (v : Int) : Int := if checkP p = 0 then (if inR v (-1048576) 1048576 then leakP p v else 0) else 0

end Go.Proofs.Ytmgdildbngbibaa
