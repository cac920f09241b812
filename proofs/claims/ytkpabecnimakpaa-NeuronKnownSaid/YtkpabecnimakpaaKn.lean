/- The chapter's examples: what the functions return there. -/
import Derived.Test.YtkpabecnimakpaaCr
import Derived.Test.YtkpabecnimakpaaU
namespace Go.Proofs.Ytkpabecnimakpaa
set_option linter.unusedVariables false
open Go.RowKit

theorem cycA1 : CycS pA 0 0 2 5 0 := by
  refine ⟨by decide, by decide, fun _ => ⟨by decide, by decide +kernel⟩, ?_⟩
  have : ∀ b, b < 5 → ∀ a, a < b → stk pA 0 0 2 a ≠ stk pA 0 0 2 b := by decide +kernel
  exact fun a b h1 h2 => this b h2 a h1
theorem cycA2 : CycS pA 3 0 0 4 3 := by
  refine ⟨by decide, by decide, fun _ => ⟨by decide, by decide +kernel⟩, ?_⟩
  have : ∀ b, b < 4 → ∀ a, a < b → stk pA 3 0 0 a ≠ stk pA 3 0 0 b := by decide +kernel
  exact fun a b h1 h2 => this b h2 a h1
theorem cycV1 : cycR pA 0 0 2 5 0 = (0, 5, 1, 0) := by decide +kernel
theorem cycV2 : cycR pA 3 0 0 4 3 = (3, 1, 0, 0) := by decide +kernel
theorem silB : silF pB 0 0 10 = ([2, 5, 9], 1, 1, 0) := by decide +kernel
theorem tkA1 : tV pA 0 0 3 = 3 ∧ tR pA 0 0 3 = 0 ∧ tS pA 0 0 3 = false := by decide +kernel
theorem tkA2 : tV pA 0 1 9 = 0 ∧ tR pA 0 1 9 = 0 ∧ tS pA 0 1 9 = false := by decide +kernel
theorem tkA3 : tV pA 0 0 (-9) = -4 ∧ tR pA 0 0 (-9) = 0 ∧ tS pA 0 0 (-9) = false := by decide +kernel
theorem tkA4 : tV pA 0 0 1152921504606846976 = 0 ∧ tR pA 0 0 1152921504606846976 = 1 ∧ tS pA 0 0 1152921504606846976 = true := by decide +kernel
theorem vdA1 : validP pA 0 1 = 0 := by decide +kernel
theorem vdA4 : validP pA 4 0 = 0 := by decide +kernel
theorem vdB0 : validP pB 0 0 = 0 := by decide +kernel
theorem ckP : checkP ⟨1, 1, 0, 5, 0, 0, 1, 1⟩ = 3 ∧ checkP ⟨1, 0, 0, 5, 0, 0, -4, 1⟩ = 3 ∧ checkP ⟨1, 1, 0, 5, 2, 0, -4, 1⟩ = 2 ∧ checkP ⟨1, 1, 0, 5, 0, 5, -4, 1⟩ = 3 := by decide +kernel
end Go.Proofs.Ytkpabecnimakpaa
