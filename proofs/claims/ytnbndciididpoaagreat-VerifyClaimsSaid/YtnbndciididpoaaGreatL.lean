/- The specification's Valid, leak, Go, Tick, Leak. -/
import Derived.Test.YtnbndciididpoaaGreatK
import Derived.Test.YtnbndciididpoaaGreatJ
namespace Go.Proofs.YtnbndciididpoaaGreat
set_option linter.unusedVariables false
open Go.RowKit Go.Shelf

theorem run_max2 {P : Program} {w : World} (ts : Array TypeId) (t : TypeId) (k k' : IntKind) (x y : Int) : (Builtin.max_ ts t #[.int k x, .int k' y]).run P w = .ok (.int k (max x y)) w := by
  rw [run_max_int2]
  have : (if y > x then y else x) = max x y := by split <;> omega
  rw [this]
theorem run_min2 {P : Program} {w : World} (ts : Array TypeId) (t : TypeId) (k k' : IntKind) (x y : Int) : (Builtin.min_ ts t #[.int k x, .int k' y]).run P w = .ok (.int k (min x y)) w := by
  rw [run_min_int2]
  have : (if y < x then y else x) = min x y := by split <;> omega
  rw [this]
attribute [local go_sem high] run_max2 run_min2

set_option maxHeartbeats 1000000 in
theorem rleak_any (p : Prm) (h : Ok p) (v : Int) (h1 : -1048576 ≤ v) (h2 : v ≤ 1048576) (w : World) :
    Calls Tryz.prog 159 #[.agg #[.int .i64 p.lk, .int .i64 p.lv, .int .i64 p.bi, .int .i64 p.th, .int .i64 p.rk, .int .i64 p.rs, .int .i64 p.fl, .int .i64 p.re], .int .i64 v] w fun e w' => e = .returned (.int .i64 (leakP p v)) ∧ Below w.heap.size w w' := by
  obtain ⟨lk0, lk2, _, _, lv0, lvM, hl, hs, hn, _, _, _, _, _, _, _, _, _, _⟩ := h
  by_cases e1 : p.lk = 1
  · have b1 : (p.lk == 1) = true := by simp [e1]
    by_cases hv : 0 < v
    · have hr : leakP p v = max (v - p.lv) 0 := by rw [leakP, if_pos e1, if_pos hv]
      rw [hr]
      clear hr e1 hl hs hn
      go_enter Tryz.func159, Tryz.ntmps159
      go_wp2
      all_goals go_ret
      all_goals exact ⟨ret_int (by omega), (Below.refl _ _).alloc (Nat.le_refl _) _⟩
    · have hr : leakP p v = min (v + p.lv) 0 := by rw [leakP, if_pos e1, if_neg hv]
      rw [hr]
      clear hr e1 hl hs hn
      go_enter Tryz.func159, Tryz.ntmps159
      go_wp2
      all_goals go_ret
      all_goals exact ⟨ret_int (by omega), (Below.refl _ _).alloc (Nat.le_refl _) _⟩
  · have b1 : (p.lk == 1) = false := by simp [e1]
    by_cases e2 : p.lk = 2
    · have b2 : (p.lk == 2) = true := by simp [e2]
      have hr : leakP p v = v - (v * p.lv).tdiv 256 := by rw [leakP, if_neg e1, if_pos e2]
      obtain ⟨m1, m2⟩ := mul_bd v p.lv h1 h2 lv0 (hs e2).2
      obtain ⟨t1, t2⟩ := tdiv_bds v p.lv h1 h2 lv0 (hs e2).2
      rw [hr]
      clear hr e1 e2 hl hs hn
      go_enter Tryz.func159, Tryz.ntmps159
      go_wp2
      go_ret
      exact ⟨rfl, (Below.refl _ _).alloc (Nat.le_refl _) _⟩
    · have b2 : (p.lk == 2) = false := by simp [e2]
      have hr : leakP p v = v := by rw [leakP, if_neg e1, if_neg e2]
      rw [hr]
      clear hr e1 e2 hl hs hn
      go_enter Tryz.func159, Tryz.ntmps159
      go_wp2
      go_ret
      exact ⟨rfl, (Below.refl _ _).alloc (Nat.le_refl _) _⟩

set_option maxHeartbeats 1000000 in
theorem rgo_rest (p : Prm) (V R i : Int) (hR : 0 < R) (hR' : R ≤ 64) (w : World) :
    Calls Tryz.prog 107 #[.agg #[.int .i64 p.lk, .int .i64 p.lv, .int .i64 p.bi, .int .i64 p.th, .int .i64 p.rk, .int .i64 p.rs, .int .i64 p.fl, .int .i64 p.re], .agg #[.int .i64 V, .int .i64 R], .int .i64 i] w
      fun e w' => e = .returned (.tuple #[.agg #[.int .i64 V, .int .i64 (R - 1)], .bool false]) ∧ Below w.heap.size w w' := by
  go_enter Tryz.func107, Tryz.ntmps107
  go_wp2
  refine bodyPost_ret (v := .tuple #[.agg #[.int .i64 V, .int .i64 (R - 1)], .bool false]) (by simp [results, Tryz.results107, go_sem]) rfl ⟨rfl, ?_⟩
  (repeat (first | exact Below.refl _ _ | refine below_drewN ?_ _ | refine Below.drew ?_ | refine Below.alloc ?_ ?_ _ | refine Below.setCell ?_ ?_ _ | refine Below.trans ?_ (Below.mono (by assumption) ?_)))
  any_goals (first | omega | (simp; done) | (simp; omega))

set_option maxHeartbeats 2000000 in
theorem rgo_go (p : Prm) (h : Ok p) (V i : Int) (h1 : p.fl ≤ V) (h2 : V ≤ 1048576) (w : World) :
    Calls Tryz.prog 107 #[.agg #[.int .i64 p.lk, .int .i64 p.lv, .int .i64 p.bi, .int .i64 p.th, .int .i64 p.rk, .int .i64 p.rs, .int .i64 p.fl, .int .i64 p.re], .agg #[.int .i64 V, .int .i64 0], .int .i64 i] w
      fun e w' => e = .returned (.tuple #[.agg #[.int .i64 (tV p V 0 i), .int .i64 (tR p V 0 i)], .bool (tS p V 0 i)]) ∧ Below w.heap.size w w' := by
  have hl := leak_bd h V
  have HK := Lib.hid h
  obtain ⟨_, _, rk0, rk1, _, _, _, _, _, bi0, biM, fl0, flM, th0, thM, _, _, _, _⟩ := h
  have l1 : -1048576 ≤ leakP p V := by omega
  have l2 : leakP p V ≤ 1048576 := by omega
  clear hl
  go_enter Tryz.func107, Tryz.ntmps107
  go_wp2_with fail
  have hw1 : IntKind.i64.wrap (leakP p V + max (-4194304) (min 4194304 i)) = leakP p V + max (-4194304) (min 4194304 i) := by rw [IntKind.wrap_i64]; omega
  have hw2 : IntKind.i64.wrap (leakP p V + max (-4194304) (min 4194304 i) + p.bi) = leakP p V + max (-4194304) (min 4194304 i) + p.bi := by rw [IntKind.wrap_i64]; omega
  have bA := PrmAt p w.heap.size
  obtain ⟨wa, hwa⟩ : ∃ wa, (((w.alloc (.cells #[.int .i64 p.lk, .int .i64 p.lv, .int .i64 p.bi, .int .i64 p.th, .int .i64 p.rk, .int .i64 p.rs, .int .i64 p.fl, .int .i64 p.re] 128)).alloc (.cells #[.int .i64 V, .int .i64 0] 190)).alloc (.cells #[.int .i64 0, .int .i64 0] 190)) = wa := ⟨_, rfl⟩
  have pA : PrmAt p w.heap.size wa := by
    unfold PrmAt; rw [← hwa, Below.heap_alloc _ _ _ (by simp <;> omega), Below.heap_alloc _ _ _ (by simp <;> omega)]; exact alloc_new_at _ _ _ rfl
  have sA : StAt V 0 (w.heap.size + 1) wa := by
    unfold StAt; rw [← hwa, Below.heap_alloc _ _ _ (by simp <;> omega)]; exact alloc_new_at _ _ _ (by simp)
  have tA : StAt 0 0 (w.heap.size + 1 + 1) wa := by
    unfold StAt; rw [← hwa]; exact alloc_new_at _ _ _ (by simp)
  have hba : Below w.heap.size w wa := by rw [← hwa]; exact ((Below.refl _ _).alloc (Nat.le_refl _) _ |>.alloc (by simp) _).alloc (by simp <;> omega) _
  rw [hwa]
  clear hwa
  obtain ⟨q0, q1, q2, q3, q4, q5, q6, q7⟩ := cells8 pA
  obtain ⟨s0, s1, _, _⟩ := cells2 sA
  have hlt := lt_of_block tA
  have PA := Lib.hid pA
  have SA := Lib.hid sA
  have TA := Lib.hid tA
  have HBA := Lib.hid hba
  clear pA sA tA hba bA
  go_region_held3 (fun w' => w'.cell? ⟨w.heap.size, 0, none⟩ = some (.int .i64 p.lk) ∧ w'.cell? ⟨w.heap.size, 1, none⟩ = some (.int .i64 p.lv) ∧ w'.cell? ⟨w.heap.size, 2, none⟩ = some (.int .i64 p.bi) ∧ w'.cell? ⟨w.heap.size, 3, none⟩ = some (.int .i64 p.th) ∧ w'.cell? ⟨w.heap.size, 4, none⟩ = some (.int .i64 p.rk) ∧ w'.cell? ⟨w.heap.size, 5, none⟩ = some (.int .i64 p.rs) ∧ w'.cell? ⟨w.heap.size, 6, none⟩ = some (.int .i64 p.fl) ∧ w'.cell? ⟨w.heap.size, 7, none⟩ = some (.int .i64 p.re) ∧ w'.cell? ⟨w.heap.size + 1, 0, none⟩ = some (.int .i64 V)) (go_keep)
    (first | (go_at_call 159; refine (rleak_any p HK.out V (by omega) (by omega) _).mono ?_; rintro e w1 ⟨rfl, hb1⟩; have hb2 : Below wa.heap.size wa w1 := ⟨hb1.os, hb1.tape, hb1.output, hb1.size, hb1.block⟩; obtain ⟨v0, v1, v2, v3, v4, v5, v6, v7⟩ := cells8 ((hb2.block _ (by omega)).trans PA.out); obtain ⟨u0, u1, _, _⟩ := cells2 ((hb2.block _ (by omega)).trans SA.out); obtain ⟨y0, y1, yf0, yf1⟩ := cells2 ((hb2.block _ hlt).trans TA.out); have HB2 := Lib.hid hb2; clear hb1 hb2))
  go_wp2
  all_goals clear hw1 hw2
  all_goals have hN : nextV p V i = max p.fl (min 1048576 (leakP p V + max (-4194304) (min 4194304 i) + p.bi)) := by unfold nextV clampI; omega
  all_goals have HN := Lib.hid hN
  all_goals clear hN
  all_goals refine bodyPost_ret (v := .tuple #[.agg #[.int .i64 (tV p V 0 i), .int .i64 (tR p V 0 i)], .bool (tS p V 0 i)]) ?_ rfl ⟨rfl, ?_⟩
  any_goals (exact ((HBA.out.trans (HB2.out.mono HBA.out.size)).setCell (p := ⟨w.heap.size + 1 + 1, 0, none⟩) (by simp <;> omega) _).setCell (p := ⟨w.heap.size + 1 + 1, 1, none⟩) (by simp <;> omega) _)
  all_goals first | (rename max p.fl (min 1048576 (leakP p V + max (-4194304) (min 4194304 i) + p.bi)) < p.th => hx; obtain ⟨e1, e2, e3⟩ := t_low (p := p) (V := V) (i := i) HN.out hx) | (rename p.th ≤ max p.fl (min 1048576 (leakP p V + max (-4194304) (min 4194304 i) + p.bi)) => hx; first | (rename (p.rk == 0) = true => hy; have hk0 : p.rk = 0 := eq_of_beq hy; obtain ⟨e1, e2, e3⟩ := t_to (p := p) (V := V) (i := i) HN.out hx (by rw [hk0]; rfl)) | (rename (p.rk == 0) = false => hy; have hk0 : p.rk = 1 := (by have := beq_eq_false_iff_ne.1 hy; omega); obtain ⟨e1, e2, e3⟩ := t_sub (p := p) (V := V) (i := i) HN.out hx (by rw [hk0]; rfl)))
  all_goals rw [e1, e2, e3]
  all_goals have z0 := fun A => (zz ((HB2.out.block _ hlt).trans TA.out) A A).1
  all_goals have z1 := fun A B => (zz ((HB2.out.block _ hlt).trans TA.out) A B).2
  all_goals simp [results, Tryz.results107, go_sem, z0, z1]

/-- The specification's Go, at any valid neuron and state. -/
theorem rgo_any (p : Prm) (h : Ok p) (V R i : Int) (h1 : p.fl ≤ V) (h2 : V ≤ 1048576) (h3 : 0 ≤ R) (h4 : R ≤ p.re) (w : World) :
    Calls Tryz.prog 107 #[.agg #[.int .i64 p.lk, .int .i64 p.lv, .int .i64 p.bi, .int .i64 p.th, .int .i64 p.rk, .int .i64 p.rs, .int .i64 p.fl, .int .i64 p.re], .agg #[.int .i64 V, .int .i64 R], .int .i64 i] w
      fun e w' => e = .returned (.tuple #[.agg #[.int .i64 (tV p V R i), .int .i64 (tR p V R i)], .bool (tS p V R i)]) ∧ Below w.heap.size w w' := by
  have := h.reM
  by_cases hR : 0 < R
  · refine (rgo_rest p V R i hR (by omega) w).mono fun e w' ⟨he, hw⟩ => ⟨?_, hw⟩
    rw [he]; simp [tV, tR, tS, hR]
  · obtain rfl : R = 0 := by omega
    exact rgo_go p h V i h1 h2 w

/-- What Leak returns. -/
def leakE (p : Prm) (v : Int) : Int := if checkP p = 0 then (if inR v (-1048576) 1048576 then 0 else 3) else checkP p
def leakR (p : Prm) (v : Int) : Int := if checkP p = 0 then (if inR v (-1048576) 1048576 then leakP p v else 0) else 0

set_option maxHeartbeats 1000000 in
/-- The specification's Leak. -/
theorem rLeak_any (p : Prm) (v : Int) (w : World) :
    Calls Tryz.prog 114 #[.agg #[.int .i64 p.lk, .int .i64 p.lv, .int .i64 p.bi, .int .i64 p.th, .int .i64 p.rk, .int .i64 p.rs, .int .i64 p.fl, .int .i64 p.re], .int .i64 v] w fun e w' => e = .returned (.tuple #[.int .i64 (leakR p v), .int .i64 (leakE p v)]) ∧ Below w.heap.size w w' := by
  by_cases hc : checkP p = 0
  · have hcb : (checkP p != 0) = false := by simp [hc]
    have hok := ok_of_check hc
    by_cases hi : inR v (-1048576) 1048576 = true
    · have h2 := inR_true.1 hi
      have hr : leakR p v = leakP p v ∧ leakE p v = 0 := by simp [leakR, leakE, hc, hi]
      rw [hr.1, hr.2]
      have HK := Lib.hid hok
      clear hc hok hr
      go_enter Tryz.func114, Tryz.ntmps114
      go_wp2_with (first | (go_at_call 103; refine (rcheck_any p _).mono ?_; rintro e w1 ⟨rfl, hb⟩; obtain ⟨hc, hf⟩ := bcell hb; have hz : w.heap.size < w1.heap.size := by have := hb.size; simp at this; omega) | (go_at_call 158; refine (rwithin_any _ _ _ _).mono ?_; rintro e w' ⟨rfl, rfl⟩) | (go_at_call 159; refine (rleak_any p HK.out v h2.1 h2.2 _).mono ?_; rintro e w2 ⟨rfl, hb2⟩))
      go_ret2
      refine ⟨rfl, ?_⟩
      repeat (first | exact Below.refl _ _ | refine below_drewN ?_ _ | refine Below.drew ?_ | refine Below.alloc ?_ ?_ _ | refine Below.setCell ?_ ?_ _ | refine Below.trans ?_ (Below.mono (by assumption) ?_))
      any_goals (first | omega | (simp; done) | (simp; omega))
    · have hif : inR v (-1048576) 1048576 = false := by simpa using hi
      have hr : leakR p v = 0 ∧ leakE p v = 3 := by simp [leakR, leakE, hc, hif]
      rw [hr.1, hr.2]
      clear hc hok hr hi
      go_enter Tryz.func114, Tryz.ntmps114
      go_wp2_with (first | (go_at_call 103; refine (rcheck_any p _).mono ?_; rintro e w1 ⟨rfl, hb⟩; obtain ⟨hc, hf⟩ := bcell hb; have hz : w.heap.size < w1.heap.size := by have := hb.size; simp at this; omega) | (go_at_call 158; refine (rwithin_any _ _ _ _).mono ?_; rintro e w' ⟨rfl, rfl⟩))
      go_ret2
      refine ⟨rfl, ?_⟩
      repeat (first | exact Below.refl _ _ | refine below_drewN ?_ _ | refine Below.drew ?_ | refine Below.alloc ?_ ?_ _ | refine Below.setCell ?_ ?_ _ | refine Below.trans ?_ (Below.mono (by assumption) ?_))
      any_goals (first | omega | (simp; done) | (simp; omega))
  · have hcb : (checkP p != 0) = true := by simp [hc]
    have hr : leakR p v = 0 ∧ leakE p v = checkP p := by simp [leakR, leakE, hc]
    rw [hr.1, hr.2]
    clear hc hr
    go_enter Tryz.func114, Tryz.ntmps114
    go_wp2_with (first | (go_at_call 103; refine (rcheck_any p _).mono ?_; rintro e w1 ⟨rfl, hb⟩; obtain ⟨hc, hf⟩ := bcell hb; have hz : w.heap.size < w1.heap.size := by have := hb.size; simp at this; omega))
    go_ret2
    refine ⟨rfl, ?_⟩
    repeat (first | exact Below.refl _ _ | refine below_drewN ?_ _ | refine Below.drew ?_ | refine Below.alloc ?_ ?_ _ | refine Below.setCell ?_ ?_ _ | refine Below.trans ?_ (Below.mono (by assumption) ?_))
    any_goals (first | omega | (simp; done) | (simp; omega))

set_option maxHeartbeats 1000000 in
/-- neuron.Leak. -/
theorem Leak_any (p : Prm) (v : Int) (w : World) :
    Calls Tryz.prog 211 #[.agg #[.int .i64 p.lk, .int .i64 p.lv, .int .i64 p.bi, .int .i64 p.th, .int .i64 p.rk, .int .i64 p.rs, .int .i64 p.fl, .int .i64 p.re], .int .i64 v] w fun e w' => e = .returned (.tuple #[.int .i64 (leakR p v), .int .i64 (leakE p v)]) ∧ Below w.heap.size w w' := by
  by_cases hc : checkP p = 0
  · have hcb : (checkP p != 0) = false := by simp [hc]
    have hok := ok_of_check hc
    by_cases hi : inR v (-1048576) 1048576 = true
    · have h2 := inR_true.1 hi
      have hr : leakR p v = leakP p v ∧ leakE p v = 0 := by simp [leakR, leakE, hc, hi]
      rw [hr.1, hr.2]
      obtain ⟨lo, hi', fi, hf3, hk, hlf, _⟩ := kinds hok
      clear hc hok hr
      rcases hf3 with rfl | rfl | rfl
      all_goals go_enter Tryz.func211, Tryz.ntmps211
      all_goals go_wp2_with (first | (go_at_call 121; refine (check_any p _).mono ?_; rintro e w1 ⟨rfl, hb⟩; obtain ⟨hc, hf⟩ := bcell hb; have hz : w.heap.size < w1.heap.size := by have := hb.size; simp at this; omega) | (go_at_call 164; refine (among_any _ _ _ _).mono ?_; rintro e w' ⟨rfl, rfl⟩) | (go_at_call 163; refine (hk _).mono ?_; rintro e w2 ⟨rfl, hb2⟩; obtain ⟨hc2, hf2⟩ := bcell hb2; have hz2 : w1.heap.size ≤ w2.heap.size := hb2.size; have hz2a : w.heap.size < w2.heap.size := (by omega)) | (go_at_call 199; refine (hlf v _ h2.1 h2.2).mono ?_; rintro e w' ⟨rfl, rfl⟩) | (go_at_call 200; refine (hlf v _ h2.1 h2.2).mono ?_; rintro e w' ⟨rfl, rfl⟩) | (go_at_call 201; refine (hlf v _ h2.1 h2.2).mono ?_; rintro e w' ⟨rfl, rfl⟩))
      all_goals go_ret2
      all_goals refine ⟨rfl, ?_⟩
      all_goals repeat (first | exact Below.refl _ _ | refine below_drewN ?_ _ | refine Below.drew ?_ | refine Below.alloc ?_ ?_ _ | refine Below.setCell ?_ ?_ _ | refine Below.trans ?_ (Below.mono (by assumption) ?_))
      any_goals (first | omega | (simp; done) | (simp; omega))
    · have hif : inR v (-1048576) 1048576 = false := by simpa using hi
      have hr : leakR p v = 0 ∧ leakE p v = 3 := by simp [leakR, leakE, hc, hif]
      rw [hr.1, hr.2]
      clear hc hok hr hi
      go_enter Tryz.func211, Tryz.ntmps211
      go_wp2_with (first | (go_at_call 121; refine (check_any p _).mono ?_; rintro e w1 ⟨rfl, hb⟩; obtain ⟨hc, hf⟩ := bcell hb; have hz : w.heap.size < w1.heap.size := by have := hb.size; simp at this; omega) | (go_at_call 164; refine (among_any _ _ _ _).mono ?_; rintro e w' ⟨rfl, rfl⟩))
      go_ret2
      refine ⟨rfl, ?_⟩
      repeat (first | exact Below.refl _ _ | refine below_drewN ?_ _ | refine Below.drew ?_ | refine Below.alloc ?_ ?_ _ | refine Below.setCell ?_ ?_ _ | refine Below.trans ?_ (Below.mono (by assumption) ?_))
      any_goals (first | omega | (simp; done) | (simp; omega))
  · have hcb : (checkP p != 0) = true := by simp [hc]
    have hr : leakR p v = 0 ∧ leakE p v = checkP p := by simp [leakR, leakE, hc]
    rw [hr.1, hr.2]
    clear hc hr
    go_enter Tryz.func211, Tryz.ntmps211
    go_wp2_with (first | (go_at_call 121; refine (check_any p _).mono ?_; rintro e w1 ⟨rfl, hb⟩; obtain ⟨hc, hf⟩ := bcell hb; have hz : w.heap.size < w1.heap.size := by have := hb.size; simp at this; omega))
    go_ret2
    refine ⟨rfl, ?_⟩
    repeat (first | exact Below.refl _ _ | refine below_drewN ?_ _ | refine Below.drew ?_ | refine Below.alloc ?_ ?_ _ | refine Below.setCell ?_ ?_ _ | refine Below.trans ?_ (Below.mono (by assumption) ?_))
    any_goals (first | omega | (simp; done) | (simp; omega))

end Go.Proofs.YtnbndciididpoaaGreat
