/- The specification's own functions: Check, Valid, leak, Go, Tick, Leak. -/
import Derived.Test.YtmgdildbngbibaaH
namespace Go.Proofs.Ytmgdildbngbibaa
set_option linter.unusedVariables false
open Go.RowKit Go.Shelf

theorem wrapth {x : Int} (h : inR x 1 1048576 = true) : wrap64 (x - 1) = x - 1 := by
  have := inR_true.1 h
  exact IntWalk.wrap64_in _ ⟨by omega, by omega⟩
theorem inR00 (x : Int) : inR x 0 0 = decide (x = 0) := by
  by_cases h : x = 0
  · subst h; rfl
  · have : inR x 0 0 = false := by rw [inR_false]; omega
    rw [this]; simp [h]
theorem inR_lk1 : inR 1 0 2 = true := rfl
theorem inR_lk2 : inR 2 0 2 = true := rfl

end Go.Proofs.Ytmgdildbngbibaa
