/- Contracts of Valid and of a tick, over any valid neuron. -/
import Derived.Test.YtnbndciididpoaaGreatB
namespace Go.Proofs.YtnbndciididpoaaGreat
set_option linter.unusedVariables false
open Go.RowKit

theorem flipW {P : Program} {f : FuncId} {args : Array Value} {w : World} {x : Ending} (h : Calls P f args w fun e w' => e = x ∧ w = w') : Calls P f args w fun e w' => e = x ∧ w' = w :=
  h.mono fun _ _ ⟨a, b⟩ => ⟨a, b.symm⟩

set_option maxHeartbeats 1000000 in
/-- neuron.Valid. -/
theorem valid_any (p : Prm) (V R : Int) (w : World) :
    Calls Tryz.prog 176 #[.agg #[.int .i64 p.lk, .int .i64 p.lv, .int .i64 p.bi, .int .i64 p.th, .int .i64 p.rk, .int .i64 p.rs, .int .i64 p.fl, .int .i64 p.re], .agg #[.int .i64 V, .int .i64 R]] w fun e w' => e = .returned (.int .i64 (validP p V R)) ∧ Below w.heap.size w w' := by
  obtain ⟨X, hX⟩ : ∃ X : Int, X = validP p V R := ⟨_, rfl⟩
  rw [← hX]
  have HX := Lib.hid hX
  clear hX
  go_enter Tryz.func176, Tryz.ntmps176
  go_wp2_with (first | (go_at_call 121; refine (check_any p _).mono ?_; rintro e w1 ⟨rfl, hb⟩; obtain ⟨hc, hf⟩ := bcell hb; have hz : w.heap.size + 1 < w1.heap.size := by have := hb.size; simp at this; omega) | (go_at_call 164; refine (among_any _ _ _ _).mono ?_; rintro e w' ⟨rfl, rfl⟩))
  all_goals go_ret
  all_goals refine ⟨ret_int ?_, ?_⟩
  any_goals (repeat (first | exact Below.refl _ _ | refine below_drewN ?_ _ | refine Below.drew ?_ | refine Below.alloc ?_ ?_ _ | refine Below.setCell ?_ ?_ _ | refine Below.trans ?_ (Below.mono (by assumption) ?_)))
  any_goals (first | omega | (simp; done) | (simp; omega) | skip)
  all_goals rw [HX.out]
  all_goals clear HX hb hc hf
  all_goals simp_all [validP]

set_option maxHeartbeats 1000000 in
/-- neuron.step at rest. -/
theorem step_rest (p : Prm) (lo hi : Int) (fi : Nat) (V R i : Int) (hR : 0 < R) (hR' : R ≤ 64) (w : World) :
    Calls Tryz.prog 177 #[.agg #[.int .i64 p.lk, .int .i64 p.lv, .int .i64 p.bi, .int .i64 p.th, .int .i64 p.rk, .int .i64 p.rs, .int .i64 p.fl, .int .i64 p.re], .agg #[.int .i64 lo, .int .i64 hi, .func (.func fi) #[] #[]], .agg #[.int .i64 V, .int .i64 R], .int .i64 i] w
      fun e w' => e = .returned (.tuple #[.agg #[.int .i64 V, .int .i64 (R - 1)], .bool false]) ∧ Below w.heap.size w w' := by
  go_enter Tryz.func177, Tryz.ntmps177
  go_wp2
  refine bodyPost_ret (v := .tuple #[.agg #[.int .i64 V, .int .i64 (R - 1)], .bool false]) (by simp [results, Tryz.results177, go_sem]) rfl ⟨rfl, ?_⟩
  (repeat (first | exact Below.refl _ _ | refine below_drewN ?_ _ | refine Below.drew ?_ | refine Below.alloc ?_ ?_ _ | refine Below.setCell ?_ ?_ _ | refine Below.trans ?_ (Below.mono (by assumption) ?_)))
  any_goals (first | omega | (simp; done) | (simp; omega))

set_option maxHeartbeats 1000000 in
/-- neuron.step, not at rest. -/
theorem step_go54 (p : Prm) (h : Ok p) (lo hi : Int) (hk : LeakFn p 199) (V i : Int) (h1 : p.fl ≤ V) (h2 : V ≤ 1048576) (w : World) :
    Calls Tryz.prog 177 #[.agg #[.int .i64 p.lk, .int .i64 p.lv, .int .i64 p.bi, .int .i64 p.th, .int .i64 p.rk, .int .i64 p.rs, .int .i64 p.fl, .int .i64 p.re], .agg #[.int .i64 lo, .int .i64 hi, .func (.func 199) #[] #[]], .agg #[.int .i64 V, .int .i64 0], .int .i64 i] w
      fun e w' => e = .returned (.tuple #[.agg #[.int .i64 (tV p V 0 i), .int .i64 (tR p V 0 i)], .bool (tS p V 0 i)]) ∧ Below w.heap.size w w' := by
  have hl := leak_bd h V
  have hcl := clamp_bd i
  obtain ⟨_, _, rk0, rk1, _, _, _, _, _, bi0, biM, fl0, flM, th0, thM, _, _, _, _⟩ := h
  have l1 : -1048576 ≤ leakP p V := by omega
  have l2 : leakP p V ≤ 1048576 := by omega
  have hn : nextV p V i = max p.fl (min (leakP p V + clampI i + p.bi) 1048576) := rfl
  obtain ⟨c, hc⟩ : ∃ c, c = clampI i := ⟨_, rfl⟩
  have hc' : c = max (-4194304) (min i 4194304) := hc
  rw [← hc] at hcl hn
  obtain ⟨c1, c2⟩ := hcl
  have HC := Lib.hid hc'
  have HN := Lib.hid hn
  clear hn hc hc' hl
  go_enter Tryz.func177, Tryz.ntmps177
  go_wp2_with fail
  go_quiet ((first | (go_at_call 204; exact Calls.quiet_of_same (flipW (within_any _ _ _ _))) | (go_at_call 199; exact Calls.quiet_of_same (flipW (hk V _ (by omega) (by omega)))))  )
  go_wp2_with (go_at_call 204; refine (within_any _ _ _ _).mono ?_; rintro e w' ⟨rfl, rfl⟩)
  all_goals refine bodyPost_ret (v := .tuple #[.agg #[.int .i64 (tV p V 0 i), .int .i64 (tR p V 0 i)], .bool (tS p V 0 i)]) ?_ rfl ⟨rfl, ?_⟩
  any_goals (repeat (first | exact Below.refl _ _ | refine below_drewN ?_ _ | refine Below.drew ?_ | refine Below.alloc ?_ ?_ _ | refine Below.setCell ?_ ?_ _ | refine Below.trans ?_ (Below.mono (by assumption) ?_)))
  any_goals (first | omega | (simp; done) | (simp; omega) | skip)
  all_goals clear HC HN hk
  all_goals first | (rename max p.fl (min (leakP p V + max (-4194304) (min i 4194304) + p.bi) 1048576) < p.th => hx; obtain ⟨e1, e2, e3⟩ := t_low (p := p) (V := V) (i := i) rfl hx) | (rename p.th ≤ max p.fl (min (leakP p V + max (-4194304) (min i 4194304) + p.bi) 1048576) => hx; first | (rename (p.rk == 1) = true => hy; obtain ⟨e1, e2, e3⟩ := t_sub (p := p) (V := V) (i := i) rfl hx hy) | (rename (p.rk == 1) = false => hy; obtain ⟨e1, e2, e3⟩ := t_to (p := p) (V := V) (i := i) rfl hx hy))
  all_goals (rw [e1, e2, e3]; simp [results, Tryz.results177, go_sem])
  all_goals rfl

set_option maxHeartbeats 1000000 in
/-- neuron.step, not at rest. -/
theorem step_go55 (p : Prm) (h : Ok p) (lo hi : Int) (hk : LeakFn p 200) (V i : Int) (h1 : p.fl ≤ V) (h2 : V ≤ 1048576) (w : World) :
    Calls Tryz.prog 177 #[.agg #[.int .i64 p.lk, .int .i64 p.lv, .int .i64 p.bi, .int .i64 p.th, .int .i64 p.rk, .int .i64 p.rs, .int .i64 p.fl, .int .i64 p.re], .agg #[.int .i64 lo, .int .i64 hi, .func (.func 200) #[] #[]], .agg #[.int .i64 V, .int .i64 0], .int .i64 i] w
      fun e w' => e = .returned (.tuple #[.agg #[.int .i64 (tV p V 0 i), .int .i64 (tR p V 0 i)], .bool (tS p V 0 i)]) ∧ Below w.heap.size w w' := by
  have hl := leak_bd h V
  have hcl := clamp_bd i
  obtain ⟨_, _, rk0, rk1, _, _, _, _, _, bi0, biM, fl0, flM, th0, thM, _, _, _, _⟩ := h
  have l1 : -1048576 ≤ leakP p V := by omega
  have l2 : leakP p V ≤ 1048576 := by omega
  have hn : nextV p V i = max p.fl (min (leakP p V + clampI i + p.bi) 1048576) := rfl
  obtain ⟨c, hc⟩ : ∃ c, c = clampI i := ⟨_, rfl⟩
  have hc' : c = max (-4194304) (min i 4194304) := hc
  rw [← hc] at hcl hn
  obtain ⟨c1, c2⟩ := hcl
  have HC := Lib.hid hc'
  have HN := Lib.hid hn
  clear hn hc hc' hl
  go_enter Tryz.func177, Tryz.ntmps177
  go_wp2_with fail
  go_quiet ((first | (go_at_call 204; exact Calls.quiet_of_same (flipW (within_any _ _ _ _))) | (go_at_call 200; exact Calls.quiet_of_same (flipW (hk V _ (by omega) (by omega)))))  )
  go_wp2_with (go_at_call 204; refine (within_any _ _ _ _).mono ?_; rintro e w' ⟨rfl, rfl⟩)
  all_goals refine bodyPost_ret (v := .tuple #[.agg #[.int .i64 (tV p V 0 i), .int .i64 (tR p V 0 i)], .bool (tS p V 0 i)]) ?_ rfl ⟨rfl, ?_⟩
  any_goals (repeat (first | exact Below.refl _ _ | refine below_drewN ?_ _ | refine Below.drew ?_ | refine Below.alloc ?_ ?_ _ | refine Below.setCell ?_ ?_ _ | refine Below.trans ?_ (Below.mono (by assumption) ?_)))
  any_goals (first | omega | (simp; done) | (simp; omega) | skip)
  all_goals clear HC HN hk
  all_goals first | (rename max p.fl (min (leakP p V + max (-4194304) (min i 4194304) + p.bi) 1048576) < p.th => hx; obtain ⟨e1, e2, e3⟩ := t_low (p := p) (V := V) (i := i) rfl hx) | (rename p.th ≤ max p.fl (min (leakP p V + max (-4194304) (min i 4194304) + p.bi) 1048576) => hx; first | (rename (p.rk == 1) = true => hy; obtain ⟨e1, e2, e3⟩ := t_sub (p := p) (V := V) (i := i) rfl hx hy) | (rename (p.rk == 1) = false => hy; obtain ⟨e1, e2, e3⟩ := t_to (p := p) (V := V) (i := i) rfl hx hy))
  all_goals (rw [e1, e2, e3]; simp [results, Tryz.results177, go_sem])
  all_goals rfl

set_option maxHeartbeats 1000000 in
/-- neuron.step, not at rest. -/
theorem step_go56 (p : Prm) (h : Ok p) (lo hi : Int) (hk : LeakFn p 201) (V i : Int) (h1 : p.fl ≤ V) (h2 : V ≤ 1048576) (w : World) :
    Calls Tryz.prog 177 #[.agg #[.int .i64 p.lk, .int .i64 p.lv, .int .i64 p.bi, .int .i64 p.th, .int .i64 p.rk, .int .i64 p.rs, .int .i64 p.fl, .int .i64 p.re], .agg #[.int .i64 lo, .int .i64 hi, .func (.func 201) #[] #[]], .agg #[.int .i64 V, .int .i64 0], .int .i64 i] w
      fun e w' => e = .returned (.tuple #[.agg #[.int .i64 (tV p V 0 i), .int .i64 (tR p V 0 i)], .bool (tS p V 0 i)]) ∧ Below w.heap.size w w' := by
  have hl := leak_bd h V
  have hcl := clamp_bd i
  obtain ⟨_, _, rk0, rk1, _, _, _, _, _, bi0, biM, fl0, flM, th0, thM, _, _, _, _⟩ := h
  have l1 : -1048576 ≤ leakP p V := by omega
  have l2 : leakP p V ≤ 1048576 := by omega
  have hn : nextV p V i = max p.fl (min (leakP p V + clampI i + p.bi) 1048576) := rfl
  obtain ⟨c, hc⟩ : ∃ c, c = clampI i := ⟨_, rfl⟩
  have hc' : c = max (-4194304) (min i 4194304) := hc
  rw [← hc] at hcl hn
  obtain ⟨c1, c2⟩ := hcl
  have HC := Lib.hid hc'
  have HN := Lib.hid hn
  clear hn hc hc' hl
  go_enter Tryz.func177, Tryz.ntmps177
  go_wp2_with fail
  go_quiet ((first | (go_at_call 204; exact Calls.quiet_of_same (flipW (within_any _ _ _ _))) | (go_at_call 201; exact Calls.quiet_of_same (flipW (hk V _ (by omega) (by omega)))))  )
  go_wp2_with (go_at_call 204; refine (within_any _ _ _ _).mono ?_; rintro e w' ⟨rfl, rfl⟩)
  all_goals refine bodyPost_ret (v := .tuple #[.agg #[.int .i64 (tV p V 0 i), .int .i64 (tR p V 0 i)], .bool (tS p V 0 i)]) ?_ rfl ⟨rfl, ?_⟩
  any_goals (repeat (first | exact Below.refl _ _ | refine below_drewN ?_ _ | refine Below.drew ?_ | refine Below.alloc ?_ ?_ _ | refine Below.setCell ?_ ?_ _ | refine Below.trans ?_ (Below.mono (by assumption) ?_)))
  any_goals (first | omega | (simp; done) | (simp; omega) | skip)
  all_goals clear HC HN hk
  all_goals first | (rename max p.fl (min (leakP p V + max (-4194304) (min i 4194304) + p.bi) 1048576) < p.th => hx; obtain ⟨e1, e2, e3⟩ := t_low (p := p) (V := V) (i := i) rfl hx) | (rename p.th ≤ max p.fl (min (leakP p V + max (-4194304) (min i 4194304) + p.bi) 1048576) => hx; first | (rename (p.rk == 1) = true => hy; obtain ⟨e1, e2, e3⟩ := t_sub (p := p) (V := V) (i := i) rfl hx hy) | (rename (p.rk == 1) = false => hy; obtain ⟨e1, e2, e3⟩ := t_to (p := p) (V := V) (i := i) rfl hx hy))
  all_goals (rw [e1, e2, e3]; simp [results, Tryz.results177, go_sem])
  all_goals rfl

/-- neuron.step, at any valid neuron and state. -/
def StepFn (p : Prm) (lo hi : Int) (fi : Nat) : Prop := ∀ (V R i : Int) (w : World), p.fl ≤ V → V ≤ 1048576 → 0 ≤ R → R ≤ p.re →
    Calls Tryz.prog 177 #[.agg #[.int .i64 p.lk, .int .i64 p.lv, .int .i64 p.bi, .int .i64 p.th, .int .i64 p.rk, .int .i64 p.rs, .int .i64 p.fl, .int .i64 p.re], .agg #[.int .i64 lo, .int .i64 hi, .func (.func fi) #[] #[]], .agg #[.int .i64 V, .int .i64 R], .int .i64 i] w
      fun e w' => e = .returned (.tuple #[.agg #[.int .i64 (tV p V R i), .int .i64 (tR p V R i)], .bool (tS p V R i)]) ∧ Below w.heap.size w w'

theorem step_of (p : Prm) (h : Ok p) (lo hi : Int) (fi : Nat) (hg : ∀ (V i : Int) (w : World), p.fl ≤ V → V ≤ 1048576 →
    Calls Tryz.prog 177 #[.agg #[.int .i64 p.lk, .int .i64 p.lv, .int .i64 p.bi, .int .i64 p.th, .int .i64 p.rk, .int .i64 p.rs, .int .i64 p.fl, .int .i64 p.re], .agg #[.int .i64 lo, .int .i64 hi, .func (.func fi) #[] #[]], .agg #[.int .i64 V, .int .i64 0], .int .i64 i] w
      fun e w' => e = .returned (.tuple #[.agg #[.int .i64 (tV p V 0 i), .int .i64 (tR p V 0 i)], .bool (tS p V 0 i)]) ∧ Below w.heap.size w w') : StepFn p lo hi fi := by
  intro V R i w h1 h2 h3 h4
  have := h.reM
  by_cases hR : 0 < R
  · refine (step_rest p lo hi fi V R i hR (by omega) w).mono fun e w' ⟨he, hw⟩ => ⟨?_, hw⟩
    rw [he]; simp [tV, tR, tS, hR]
  · obtain rfl : R = 0 := by omega
    exact hg V i w h1 h2

/-- leakOf at a kind that is known, and a tick with what it returns. -/
theorem kinds {p : Prm} (h : Ok p) : ∃ lo hi fi, (fi = 199 ∨ fi = 200 ∨ fi = 201) ∧ Kind p.lk lo hi fi ∧ LeakFn p fi ∧ StepFn p lo hi fi := by
  obtain ⟨lo, hi, fi, hf, hk, hl⟩ := leak_kinds h
  refine ⟨lo, hi, fi, hf, hk, hl, ?_⟩
  rcases hf with rfl | rfl | rfl
  · exact step_of p h lo hi 199 fun V i w h1 h2 => step_go54 p h lo hi hl V i h1 h2 w
  · exact step_of p h lo hi 200 fun V i w h1 h2 => step_go55 p h lo hi hl V i h1 h2 w
  · exact step_of p h lo hi 201 fun V i w h1 h2 => step_go56 p h lo hi hl V i h1 h2 w

end Go.Proofs.YtnbndciididpoaaGreat
