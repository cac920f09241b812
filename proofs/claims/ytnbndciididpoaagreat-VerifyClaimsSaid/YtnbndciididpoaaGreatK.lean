/- The specification's own functions: Check, Valid, leak, Go, Tick, Leak. -/
import Derived.Test.YtnbndciididpoaaGreatH
namespace Go.Proofs.YtnbndciididpoaaGreat
set_option linter.unusedVariables false
open Go.RowKit Go.Shelf

theorem wrapth {x : Int} (h : inR x 1 1048576 = true) : wrap64 (x - 1) = x - 1 := by
  have := inR_true.1 h
  exact IntWalk.wrap64_in _ ⟨by omega, by omega⟩
theorem inR00 (x : Int) : inR x 0 0 = decide (x = 0) := by
  by_cases h : x = 0
  · subst h; rfl
  · have : inR x 0 0 = false := by rw [inR_false]; omega
    rw [this]; simp [h]
theorem inR_lk1 : inR 1 0 2 = true := rfl
theorem inR_lk2 : inR 2 0 2 = true := rfl

set_option maxHeartbeats 4000000 in
theorem rcheck_any (p : Prm) (w : World) :
    Calls Tryz.prog 103 #[.agg #[.int .i64 p.lk, .int .i64 p.lv, .int .i64 p.bi, .int .i64 p.th, .int .i64 p.rk, .int .i64 p.rs, .int .i64 p.fl, .int .i64 p.re]] w fun e w' => e = .returned (.int .i64 (checkP p)) ∧ Below w.heap.size w w' := by
  obtain ⟨X, hX⟩ : ∃ X : Int, X = checkP p := ⟨_, rfl⟩
  rw [← hX]
  have HX := Lib.hid hX
  clear hX
  go_enter Tryz.func103, Tryz.ntmps103
  go_wp2_with (go_at_call 158; refine (rwithin_any _ _ _ _).mono ?_; rintro e w' ⟨rfl, rfl⟩)
  all_goals go_ret
  all_goals refine ⟨ret_int ?_, ((Below.refl _ _).alloc (Nat.le_refl _) _)⟩
  all_goals rw [HX.out]
  all_goals clear HX
  all_goals try (rename inR p.th 1 1048576 = true => hth0; have hth := wrapth hth0)
  all_goals (by_cases hr0 : p.rk = 0 <;> by_cases hr1 : p.rk = 1)
  all_goals first | (simp_all [checkP, numsOk, lvOk, rsOk, inR_rk0, inR_rk1, inR_lk1, inR_lk2, inR00]; done) | (have hr2 := inR_rk2 hr0 hr1; simp_all; done) | skip

end Go.Proofs.YtnbndciididpoaaGreat
