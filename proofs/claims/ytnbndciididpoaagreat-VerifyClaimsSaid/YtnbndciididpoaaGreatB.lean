/- Contracts of the small functions. -/
import Derived.Test.YtnbndciididpoaaGreatRows
import Derived.WalkKit
import Derived.WalkSpells
import Derived.Laws.EntriesVeiled
import Derived.WalkLawsBesides
import Derived.Deep.QuietTactic
import Derived.BigQuiet
import Derived.WalkSmall
import Derived.Lib.Hide
import Derived.Test.YtnbndciididpoaaGreatA
namespace Go.Proofs.YtnbndciididpoaaGreat
set_option linter.unusedVariables false
open Go.RowKit

set_option maxHeartbeats 400000 in
theorem among_any (x a b : Int) (w : World) :
    Calls Tryz.prog 164 #[.int .i64 x, .int .i64 a, .int .i64 b] w fun e w' => e = .returned (.bool (inR x a b)) ∧ w = w' := by
  by_cases h1 : a ≤ x
  · go_enter Tryz.func164, Tryz.ntmps164
    go_wp2
    go_ret
    exact ⟨by simp [inR, *], rfl⟩
  · go_enter Tryz.func164, Tryz.ntmps164
    go_wp2
    go_ret
    exact ⟨by simp [inR]; omega, rfl⟩

set_option maxHeartbeats 400000 in
theorem rwithin_any (x a b : Int) (w : World) :
    Calls Tryz.prog 158 #[.int .i64 x, .int .i64 a, .int .i64 b] w fun e w' => e = .returned (.bool (inR x a b)) ∧ w = w' := by
  by_cases h1 : a ≤ x
  · go_enter Tryz.func158, Tryz.ntmps158
    go_wp2
    go_ret
    exact ⟨by simp [inR, *], rfl⟩
  · go_enter Tryz.func158, Tryz.ntmps158
    go_wp2
    go_ret
    exact ⟨by simp [inR]; omega, rfl⟩


theorem leakOf_none (w : World) :
    Calls Tryz.prog 163 #[.int .i64 0] w fun e w' => e = .returned (.tuple #[.agg #[.int .i64 0, .int .i64 0, .func (.func 199) #[] #[]], .bool true]) ∧ Below w.heap.size w w' := by
  go_enter Tryz.func163, Tryz.ntmps163
  go_wp2
  exact bodyPost_ret (v := .tuple #[.agg #[.int .i64 0, .int .i64 0, .func (.func 199) #[] #[]], .bool true]) (by simp [results, Tryz.results163, go_sem]) rfl ⟨rfl, (Below.refl _ _).alloc (Nat.le_refl _) _⟩
theorem leakOf_line (w : World) :
    Calls Tryz.prog 163 #[.int .i64 1] w fun e w' => e = .returned (.tuple #[.agg #[.int .i64 1, .int .i64 1048576, .func (.func 200) #[] #[]], .bool true]) ∧ Below w.heap.size w w' := by
  go_enter Tryz.func163, Tryz.ntmps163
  go_wp2
  exact bodyPost_ret (v := .tuple #[.agg #[.int .i64 1, .int .i64 1048576, .func (.func 200) #[] #[]], .bool true]) (by simp [results, Tryz.results163, go_sem]) rfl ⟨rfl, (Below.refl _ _).alloc (Nat.le_refl _) _⟩
theorem leakOf_share (w : World) :
    Calls Tryz.prog 163 #[.int .i64 2] w fun e w' => e = .returned (.tuple #[.agg #[.int .i64 1, .int .i64 256, .func (.func 201) #[] #[]], .bool true]) ∧ Below w.heap.size w w' := by
  go_enter Tryz.func163, Tryz.ntmps163
  go_wp2
  exact bodyPost_ret (v := .tuple #[.agg #[.int .i64 1, .int .i64 256, .func (.func 201) #[] #[]], .bool true]) (by simp [results, Tryz.results163, go_sem]) rfl ⟨rfl, (Below.refl _ _).alloc (Nat.le_refl _) _⟩
theorem leakOf_other (k : Int) (h0 : (k == 0) = false) (h1 : (k == 1) = false) (h2 : (k == 2) = false) (w : World) :
    Calls Tryz.prog 163 #[.int .i64 k] w fun e w' => e = .returned (.tuple #[.agg #[.int .i64 0, .int .i64 0, .nilFunc], .bool false]) ∧ Below w.heap.size w w' := by
  go_enter Tryz.func163, Tryz.ntmps163
  go_wp2
  exact bodyPost_ret (v := .tuple #[.agg #[.int .i64 0, .int .i64 0, .nilFunc], .bool false]) (by simp [results, Tryz.results163, go_sem]) rfl ⟨rfl, (Below.refl _ _).alloc (Nat.le_refl _) _⟩

theorem ret_int {k : IntKind} {a b : Int} (h : a = b) : Ending.returned (.int k a) = .returned (.int k b) := by rw [h]
theorem inR_rk0 : inR 0 0 1 = true := rfl
theorem inR_rk2 {rk : Int} (h0 : ¬ rk = 0) (h1 : ¬ rk = 1) : inR rk 0 1 = false := by rw [inR_false]; omega
theorem inR_rk1 : inR 1 0 1 = true := rfl

theorem bcell {W w1 : World} (hb : Below W.heap.size W w1) : (∀ b o, b < W.heap.size → w1.cell? ⟨b, o, none⟩ = W.cell? ⟨b, o, none⟩) ∧ (∀ b o, b < W.heap.size → w1.frozen? ⟨b, o, none⟩ = W.frozen? ⟨b, o, none⟩) :=
  ⟨fun b o h => hb.cell (p := ⟨b, o, none⟩) h, fun b o h => hb.frozen (p := ⟨b, o, none⟩) h⟩


set_option maxHeartbeats 400000 in
theorem check_other (lk lv bi th rk rs fl re : Int) (h0 : (lk == 0) = false) (h1 : (lk == 1) = false) (h2 : (lk == 2) = false) (w : World) :
    Calls Tryz.prog 121 #[.agg #[.int .i64 lk, .int .i64 lv, .int .i64 bi, .int .i64 th, .int .i64 rk, .int .i64 rs, .int .i64 fl, .int .i64 re]] w fun e w' => e = .returned (.int .i64 2) ∧ Below w.heap.size w w' := by
  go_enter Tryz.func121, Tryz.ntmps121
  go_wp2_with (go_at_call 163; refine (leakOf_other lk h0 h1 h2 _).mono ?_; rintro e w1 ⟨rfl, hb⟩)
  go_ret
  exact ⟨rfl, (((Below.refl _ _).alloc (Nat.le_refl _) _).trans (hb.mono (by simp))).alloc (by have := hb.size; simp at this; omega) _⟩


/-- leakOf at a kind that is known: its bounds and its function. -/
def Kind (lk lo hi : Int) (fi : Nat) : Prop := ∀ w, Calls Tryz.prog 163 #[.int .i64 lk] w fun e w' => e = .returned (.tuple #[.agg #[.int .i64 lo, .int .i64 hi, .func (.func fi) #[] #[]], .bool true]) ∧ Below w.heap.size w w'

theorem fin_check {w w1 : World} (hb : Below (w.heap.size + 1) w w1) (o : Obj) : Below w.heap.size w (w1.alloc o) :=
  (hb.mono (by omega)).alloc (by have := hb.size; omega) _

set_option maxHeartbeats 1000000 in
theorem check_kind (lk lo hi : Int) (fi : Nat) (hk : Kind lk lo hi fi) (lv bi th rk rs fl re : Int) (w : World) :
    Calls Tryz.prog 121 #[.agg #[.int .i64 lk, .int .i64 lv, .int .i64 bi, .int .i64 th, .int .i64 rk, .int .i64 rs, .int .i64 fl, .int .i64 re]] w fun e w' => e = .returned (.int .i64 (if inR rk 0 1 then (if inR lv lo hi && inR bi (-1048576) 1048576 && inR fl (-1048576) 0 && inR th 1 1048576 && inR re 0 64 && rsOk th rk rs fl then 0 else 3) else 2)) ∧ Below w.heap.size w w' := by
  obtain ⟨R, hR⟩ : ∃ R : Int, R = (if inR rk 0 1 then (if inR lv lo hi && inR bi (-1048576) 1048576 && inR fl (-1048576) 0 && inR th 1 1048576 && inR re 0 64 && rsOk th rk rs fl then 0 else 3) else 2) := ⟨_, rfl⟩
  rw [← hR]
  have HR := Lib.hid hR
  clear hR
  go_enter Tryz.func121, Tryz.ntmps121
  go_wp2_with (first | (go_at_call 163; refine (hk _).mono ?_; rintro e w1 ⟨rfl, hb⟩; obtain ⟨hc, hf⟩ := bcell hb; have hz : w.heap.size < w1.heap.size := by have := hb.size; simp at this; omega) | (go_at_call 164; refine (among_any _ _ _ _).mono ?_; rintro e w' ⟨rfl, rfl⟩))
  all_goals try (have hth := inR_true.1 ‹inR th 1 1048576 = true›; obtain ⟨ht1, ht2⟩ := hth; go_quiet (fail); go_wp2_with (go_at_call 164; refine (among_any _ _ _ _).mono ?_; rintro e w' ⟨rfl, rfl⟩))
  all_goals go_ret
  all_goals refine ⟨ret_int ?_, ?_⟩
  any_goals (repeat (first | exact Below.refl _ _ | refine below_drewN ?_ _ | refine Below.drew ?_ | refine Below.alloc ?_ ?_ _ | refine Below.setCell ?_ ?_ _ | refine Below.trans ?_ (Below.mono (by assumption) ?_)))
  any_goals (first | omega | (simp; done) | (simp; omega) | skip)
  all_goals rw [HR.out]
  all_goals clear HR hb hc hf hk
  all_goals first | (simp_all [rsOk, inR_rk0, inR_rk1]; done) | skip
  all_goals (by_cases hr0 : rk = 0 <;> by_cases hr1 : rk = 1)
  all_goals first | (subst hr0; simp_all; done) | (subst hr1; simp_all; done) | (have hr := inR_rk2 hr0 hr1; simp_all; done)

theorem ret_wrap {e : Ending} {a b : Int} (h : e = .returned (.int .i64 a)) (h' : a = b) : e = .returned (.int .i64 b) := by rw [h, h']

set_option maxHeartbeats 400000 in
theorem keep_any (v a : Int) (w : World) :
    Calls Tryz.prog 199 #[.int .i64 v, .int .i64 a] w fun e w' => e = .returned (.int .i64 v) ∧ w = w' := by
  go_enter Tryz.func199, Tryz.ntmps199
  go_wp2
  go_ret
  exact ⟨rfl, rfl⟩


set_option maxHeartbeats 400000 in
theorem approach_any (v a : Int) (h1 : -1048576 ≤ v) (h2 : v ≤ 1048576) (h3 : 0 ≤ a) (h4 : a ≤ 1048576) (w : World) :
    Calls Tryz.prog 200 #[.int .i64 v, .int .i64 a] w fun e w' => e = .returned (.int .i64 (if 0 < v then max (v - a) 0 else min (v + a) 0)) ∧ w = w' := by
  by_cases h : 0 < v
  · rw [if_pos h]
    go_enter Tryz.func200, Tryz.ntmps200
    go_wp2
    all_goals go_ret
    all_goals exact ⟨ret_int (by omega), rfl⟩
  · rw [if_neg h]
    go_enter Tryz.func200, Tryz.ntmps200
    go_wp2
    all_goals go_ret
    all_goals exact ⟨ret_int (by omega), rfl⟩

set_option maxHeartbeats 400000 in
theorem lose_any (v a : Int) (h1 : -1048576 ≤ v) (h2 : v ≤ 1048576) (h3 : 0 ≤ a) (h4 : a ≤ 256) (w : World) :
    Calls Tryz.prog 201 #[.int .i64 v, .int .i64 a] w fun e w' => e = .returned (.int .i64 (v - (v * a).tdiv 256)) ∧ w = w' := by
  obtain ⟨m1, m2⟩ := mul_bd v a h1 h2 h3 h4
  obtain ⟨t1, t2⟩ := tdiv_bds v a h1 h2 h3 h4
  go_enter Tryz.func201, Tryz.ntmps201
  go_wp2
  go_ret
  exact ⟨rfl, rfl⟩

set_option maxHeartbeats 400000 in
theorem within_any (x a b : Int) (w : World) :
    Calls Tryz.prog 204 #[.int .i64 x, .int .i64 a, .int .i64 b] w fun e w' => e = .returned (.int .i64 (max a (min x b))) ∧ w = w' := by
  go_enter Tryz.func204, Tryz.ntmps204
  go_wp2
  all_goals go_ret
  all_goals exact ⟨ret_int (by omega), rfl⟩

/-- What a function of a leak does with potentials in range. -/
def LeakFn (p : Prm) (fi : Nat) : Prop := ∀ (v : Int) (w : World), -1048576 ≤ v → v ≤ 1048576 → Calls Tryz.prog fi #[.int .i64 v, .int .i64 p.lv] w fun e w' => e = .returned (.int .i64 (leakP p v)) ∧ w = w'

/-- At a valid neuron leakOf returns bounds, and a function that does what the leak does. -/
theorem leak_kinds {p : Prm} (h : Ok p) : ∃ lo hi fi, (fi = 199 ∨ fi = 200 ∨ fi = 201) ∧ Kind p.lk lo hi fi ∧ LeakFn p fi := by
  obtain ⟨lk0, lk2, _, _, lv0, lvM, hl, hs, hn, _, _, _, _, _, _, _, _, _, _⟩ := h
  by_cases e1 : p.lk = 1
  · refine ⟨1, 1048576, 200, by simp, ?_, ?_⟩
    · rw [e1]; exact leakOf_line
    · intro v w h1 h2
      refine (approach_any v p.lv h1 h2 lv0 lvM w).mono fun e w' ⟨he, hw⟩ => ⟨?_, hw⟩
      rw [he, leakP, if_pos e1]
  · by_cases e2 : p.lk = 2
    · refine ⟨1, 256, 201, by simp, ?_, ?_⟩
      · rw [e2]; exact leakOf_share
      · intro v w h1 h2
        refine (lose_any v p.lv h1 h2 lv0 (hs e2).2 w).mono fun e w' ⟨he, hw⟩ => ⟨?_, hw⟩
        rw [he, leakP, if_neg e1, if_pos e2]
    · have e0 : p.lk = 0 := by omega
      refine ⟨0, 0, 199, by simp, ?_, ?_⟩
      · rw [e0]; exact leakOf_none
      · intro v w _ _
        refine (keep_any v p.lv w).mono fun e w' ⟨he, hw⟩ => ⟨?_, hw⟩
        rw [he, leakP, if_neg e1, if_neg e2]

/-- neuron.Check. -/
theorem check_any (p : Prm) (w : World) :
    Calls Tryz.prog 121 #[.agg #[.int .i64 p.lk, .int .i64 p.lv, .int .i64 p.bi, .int .i64 p.th, .int .i64 p.rk, .int .i64 p.rs, .int .i64 p.fl, .int .i64 p.re]] w fun e w' => e = .returned (.int .i64 (checkP p)) ∧ Below w.heap.size w w' := by
  by_cases e0 : p.lk = 0
  · refine (check_kind p.lk 0 0 199 (by rw [e0]; exact leakOf_none) p.lv p.bi p.th p.rk p.rs p.fl p.re w).mono fun e w' ⟨he, hw⟩ => ⟨ret_wrap he ?_, hw⟩
    simp [checkP, numsOk, lvOk, e0, inR]
  · by_cases e1 : p.lk = 1
    · refine (check_kind p.lk 1 1048576 200 (by rw [e1]; exact leakOf_line) p.lv p.bi p.th p.rk p.rs p.fl p.re w).mono fun e w' ⟨he, hw⟩ => ⟨ret_wrap he ?_, hw⟩
      simp [checkP, numsOk, lvOk, e1, inR]
    · by_cases e2 : p.lk = 2
      · refine (check_kind p.lk 1 256 201 (by rw [e2]; exact leakOf_share) p.lv p.bi p.th p.rk p.rs p.fl p.re w).mono fun e w' ⟨he, hw⟩ => ⟨ret_wrap he ?_, hw⟩
        simp [checkP, numsOk, lvOk, e2, inR]
      · refine (check_other p.lk p.lv p.bi p.th p.rk p.rs p.fl p.re (by simp [e0]) (by simp [e1]) (by simp [e2]) w).mono fun e w' ⟨he, hw⟩ => ⟨ret_wrap he ?_, hw⟩
        have : inR p.lk 0 2 = false := by rw [inR_false]; omega
        simp [checkP, this]

end Go.Proofs.YtnbndciididpoaaGreat
