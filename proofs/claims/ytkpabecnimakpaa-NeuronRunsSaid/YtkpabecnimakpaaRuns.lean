/- For every neuron, state and list of inputs the law NeuronRuns returns true: neuron.Run returns what the specification's Run does. No condition. -/
import Derived.Test.YtkpabecnimakpaaO
namespace Go.Proofs.Ytkpabecnimakpaa.neuronRuns
open Go.ChangeShapes Go.WideShapes Go.ChangeAt Go.RowKit
set_option linter.unusedVariables false


set_option maxRecDepth 100000 in
set_option maxHeartbeats 2000000 in
theorem walk1 (p : Prm) (V R : Int) (a : Option Addr) (cap : Nat) (zs : List Int) (hs : zs.length ≤ 2000 ∨ 10000 < zs.length ∧ zs.length ≤ 10010) (w : World) (hI : IntsAt w (.slice a zs.length cap) zs) :
    Calls Try.prog 5 #[.agg #[.int .i64 p.lk, .int .i64 p.lv, .int .i64 p.bi, .int .i64 p.th, .int .i64 p.rk, .int .i64 p.rs, .int .i64 p.fl, .int .i64 p.re], .agg #[.int .i64 V, .int .i64 R], .slice a zs.length cap] w fun e w' => e = .returned (.bool true) ∧ Below w.heap.size w w' := by
  obtain ⟨L, X, Y, er, hF⟩ : ∃ L X Y er, runF p V R zs = (L, X, Y, er) := ⟨_, _, _, _, rfl⟩
  have hL : L.length ≤ 10000 := by have := runF_short p V R zs; rw [hF] at this; exact this
  obtain ⟨n, hn⟩ : ∃ n, n = zs.length := ⟨_, rfl⟩
  have hrun1 : ∀ w1, Below w.heap.size w w1 → Calls Try.prog 24 #[.agg #[.int .i64 p.lk, .int .i64 p.lv, .int .i64 p.bi, .int .i64 p.th, .int .i64 p.rk, .int .i64 p.rs, .int .i64 p.fl, .int .i64 p.re], .agg #[.int .i64 V, .int .i64 R], .slice a n cap] w1 (RunGot L X Y er w1) := fun w1 hb => by rw [hn]; exact run_got hF a cap w1 (hI.below hb)
  have hrun2 : ∀ w1, Below w.heap.size w w1 → Calls Try.prog 25 #[.agg #[.int .i64 p.lk, .int .i64 p.lv, .int .i64 p.bi, .int .i64 p.th, .int .i64 p.rk, .int .i64 p.rs, .int .i64 p.fl, .int .i64 p.re], .agg #[.int .i64 V, .int .i64 R], .slice a n cap] w1 (RunGot L X Y er w1) := fun w1 hb => by rw [hn]; exact rrun_got hF a cap w1 (hI.below hb)
  have H1 := Lib.hid hrun1
  have H2 := Lib.hid hrun2
  rw [← hn] at hs ⊢
  clear hF hI hn hrun1 hrun2
  have hcase : ((2000 : Int) < (n : Int)) = False ∨ ((2000 : Int) < (n : Int)) = True ∧ ((n : Int) ≤ 10000) = False ∧ ((10010 : Int) < (n : Int)) = False := by
    rcases hs with h | h
    · left; simp; omega
    · right; refine ⟨?_, ?_, ?_⟩ <;> simp <;> omega
  clear hs
  rcases hcase with g1 | ⟨g1, g2, g3⟩
  all_goals
    go_enter Try.func5, Try.ntmps5
    go_wp2_with (first | (go_at_call 24; refine (H1.out _ ?_).mono ?_; (focus (first | (exact Below.refl _ _) | ((repeat (first | exact Below.refl _ _ | refine below_drewN ?_ _ | refine Below.drew ?_ | refine Below.alloc ?_ ?_ _ | refine Below.setCell ?_ ?_ _ | refine Below.trans ?_ (Below.mono (by assumption) ?_))); all_goals (first | omega | (simp; done) | (simp; omega))))); rintro e w1 ⟨a1, c1, rfl, hi1, hb1⟩; obtain ⟨hc1, hf1⟩ := bcell hb1; have hz1 : w.heap.size + 1 < w1.heap.size := (by have := hb1.size; simp at this; omega); have hz1a : w.heap.size < w1.heap.size := (by omega)) | (go_at_call 25; refine (H2.out _ ?_).mono ?_; (focus (first | (exact Below.refl _ _) | ((repeat (first | exact Below.refl _ _ | refine below_drewN ?_ _ | refine Below.drew ?_ | refine Below.alloc ?_ ?_ _ | refine Below.setCell ?_ ?_ _ | refine Below.trans ?_ (Below.mono (by assumption) ?_))); all_goals (first | omega | (simp; done) | (simp; omega))))); rintro e w2 ⟨a2, c2, rfl, hi2, hb2⟩; obtain ⟨hc2, hf2⟩ := bcell hb2; have hz2 : w1.heap.size < w2.heap.size := (by have := hb2.size; simp at this; omega)) | (go_at_call 26; refine (equal_same _ _ _ _ L hL _ (hi1.below (w := w1) ?_) (hi2.below (w := w2) ?_)).mono ?_; (focus (first | (exact Below.refl _ _) | ((repeat (first | exact Below.refl _ _ | refine below_drewN ?_ _ | refine Below.drew ?_ | refine Below.alloc ?_ ?_ _ | refine Below.setCell ?_ ?_ _ | refine Below.trans ?_ (Below.mono (by assumption) ?_))); all_goals (first | omega | (simp; done) | (simp; omega))))); (focus (first | (exact Below.refl _ _) | ((repeat (first | exact Below.refl _ _ | refine below_drewN ?_ _ | refine Below.drew ?_ | refine Below.alloc ?_ ?_ _ | refine Below.setCell ?_ ?_ _ | refine Below.trans ?_ (Below.mono (by assumption) ?_))); all_goals (first | omega | (simp; done) | (simp; omega))))); rintro e w3 ⟨rfl, hb3⟩; have hz3 : w2.heap.size < w3.heap.size := (by have := hb3.size; simp at this; omega); have bx : w3.heap[w1.heap.size]? = some (.cells #[.int .i64 X, .int .i64 Y] 25) := (by rw [hb3.block _ (by simp <;> omega), Below.heap_alloc _ _ _ (by omega), hb2.block _ (by simp)]; exact alloc_new_at _ _ _ rfl); have bz : w3.heap[w2.heap.size]? = some (.cells #[.int .i64 X, .int .i64 Y] 25) := (by rw [hb3.block _ (by simp)]; exact alloc_new_at _ _ _ rfl); obtain ⟨_, _, _, _⟩ := cells2 bx; obtain ⟨_, _, _, _⟩ := cells2 bz; clear bx bz) | (go_at_call 21; refine (works_any _).mono ?_; rintro e w4 ⟨rfl, hb4⟩))
    go_ret
    refine ⟨rfl, ?_⟩
    (focus (first | (exact Below.refl _ _) | ((repeat (first | exact Below.refl _ _ | refine below_drewN ?_ _ | refine Below.drew ?_ | refine Below.alloc ?_ ?_ _ | refine Below.setCell ?_ ?_ _ | refine Below.trans ?_ (Below.mono (by assumption) ?_))); all_goals (first | omega | (simp; done) | (simp; omega)))))

set_option maxRecDepth 100000 in
set_option maxHeartbeats 2000000 in
theorem walk2 (p : Prm) (V R : Int) (a : Option Addr) (cap : Nat) (n : Nat) (hs : 2000 < n ∧ n ≤ 10000 ∨ 10010 < n) (w : World) :
    Calls Try.prog 5 #[.agg #[.int .i64 p.lk, .int .i64 p.lv, .int .i64 p.bi, .int .i64 p.th, .int .i64 p.rk, .int .i64 p.rs, .int .i64 p.fl, .int .i64 p.re], .agg #[.int .i64 V, .int .i64 R], .slice a n cap] w fun e w' => e = .returned (.bool true) ∧ Below w.heap.size w w' := by
  have hcase : ((2000 : Int) < (n : Int)) = True ∧ (((n : Int) ≤ 10000) = True ∨ ((n : Int) ≤ 10000) = False ∧ ((10010 : Int) < (n : Int)) = True) := by
    rcases hs with h | h
    · refine ⟨?_, Or.inl ?_⟩ <;> simp <;> omega
    · refine ⟨?_, Or.inr ⟨?_, ?_⟩⟩ <;> simp <;> omega
  clear hs
  rcases hcase with ⟨g1, g2 | ⟨g2, g3⟩⟩
  all_goals
    go_enter Try.func5, Try.ntmps5
    go_wp2_with (go_at_call 21; refine (works_any _).mono ?_; rintro e w4 ⟨rfl, hb4⟩)
    go_ret
    refine ⟨rfl, ?_⟩
    (focus (first | (exact Below.refl _ _) | ((repeat (first | exact Below.refl _ _ | refine below_drewN ?_ _ | refine Below.drew ?_ | refine Below.alloc ?_ ?_ _ | refine Below.setCell ?_ ?_ _ | refine Below.trans ?_ (Below.mono (by assumption) ?_))); all_goals (first | omega | (simp; done) | (simp; omega)))))

theorem walk (p : Prm) (V R : Int) (a : Option Addr) (cap : Nat) (zs : List Int) (hm : zs.length ≤ 9223372036854775807) (w : World) (hI : IntsAt w (.slice a zs.length cap) zs) :
    Calls Try.prog 5 #[.agg #[.int .i64 p.lk, .int .i64 p.lv, .int .i64 p.bi, .int .i64 p.th, .int .i64 p.rk, .int .i64 p.rs, .int .i64 p.fl, .int .i64 p.re], .agg #[.int .i64 V, .int .i64 R], .slice a zs.length cap] w fun e w' => e = .returned (.bool true) ∧ Below w.heap.size w w' := by
  by_cases h : zs.length ≤ 2000 ∨ 10000 < zs.length ∧ zs.length ≤ 10010
  · exact walk1 p V R a cap zs h w hI
  · exact walk2 p V R a cap zs.length (by omega) w

set_option maxRecDepth 100000 in
theorem lifted (os : Os) (started : os.Started) (H : Type) (enc : TypeId × Value → H) :
    ReturnsInHanded {} Try.checked os 5 .any (Rows.neuronRunsSpec.pre6 enc Try.prog Try.f5 Rows.neuronRunsRow.domain false) (Rows.neuronRunsSpec.post enc Try.prog Try.f5 false true false false) := by
  refine returnsInHanded_of_change (C := Try.checked) own started (by kernel_rfl) Try.func5
    (ChangeSpec.witness6 (enc := enc) (C := Try.checked) false ⟨#[], #[.agg #[.int .i64 0, .int .i64 0, .int .i64 0, .int .i64 0, .int .i64 0, .int .i64 0, .int .i64 0, .int .i64 0], .agg #[.int .i64 0, .int .i64 0], .slice none 0 0], []⟩ 8 (by kernel_rfl) (by kernel_rfl) (by kernel_rfl) (by kernel_rfl)) ?_
  intro W base args ds gs before hval0 hW hcnd hsz
  have hval : ∀ (j : Nat) t v, Try.f5.params[j]? = some t → args[j]? = some v → Value.okWide Try.prog W .any base t v := hval0
  have hW' := hW
  obtain ⟨p, q, hA0, hV, rfl, hfz, hnd⟩ := hW
  have hA : DataW.TrodAll enc Try.prog W 0 (fun _ => true) true Try.f5.params.toList args.toList ds p := hA0
  rw [Try.params5] at hA hval
  have hAll := hA
  obtain ⟨v0, vs0, d0, ds0, p0, q0, hargs, rfl, rfl, h0, r0⟩ := trodAll_cons hA
  obtain ⟨v1, vs1, d1, ds1, p1, q1, rfl, rfl, rfl, h1, r1⟩ := trodAll_cons r0
  obtain ⟨v2, vs2, d2, ds2, p2, q2, rfl, rfl, rfl, h2, r2⟩ := trodAll_cons r1
  obtain ⟨rfl, rfl, rfl⟩ := trodAll_nil r2
  obtain rfl : args = #[v0, v1, v2] := by cases args; simp_all
  obtain ⟨rfl, rfl⟩ := trodVars_none hV
  obtain ⟨x0, rfl⟩ := open_prm (hval 0 23 v0 rfl rfl) h0
  obtain ⟨V1, R1, rfl⟩ := open_st (hval 1 25 v1 rfl rfl) h1
  obtain ⟨sa2, sn2, sc2, zs2, rfl, hl2, hi2, hm2⟩ := open_slice_ints (hval 2 35 v2 rfl rfl) h2
  subst hl2
  clear hA0 hval0
  refine (walk x0 V1 R1 sa2 sc2 zs2 hm2 W hi2).mono fun e W' ⟨he, bel⟩ => ?_
  subst he
  have hback := trodAll_below bel [23, 25, 35] (by intro t ht; simp at ht; rcases ht with rfl | rfl | rfl <;> exact ⟨by kernel_rfl, of_decide_eq_true (by kernel_rfl)⟩) hAll
  exact ⟨_, rfl, _, _, _, [], _, [], hW', trodAll_mk1 (shut_bool Try.underlying4 _), hback, rfl, bel.frame _, fun h => by cases h⟩

theorem over : Rows.neuronRunsRow.holds Try.pinned (OpenSpec.ofChange Rows.neuronRunsSpec) :=
  OpenClaim.holds_of_wide 5 Try.f5 rfl rfl rfl rfl rfl rfl rfl ⟨rfl, rfl, rfl, rfl, rfl⟩ rfl rfl rfl rfl rfl (by kernel_rfl) Try.func5 (by kernel_rfl)
    (of_decide_eq_true (by kernel_rfl)) (by unfold Func.isWrapper; first | (rw [if_pos (by decide +kernel)]; kernel_rfl) | (rw [if_neg (by decide +kernel)]; exact ⟨rfl, rfl⟩))
    (fun os started H enc _ => lifted os started H enc)

theorem proved : Rows.NeuronRunsSaid := over

end Go.Proofs.Ytkpabecnimakpaa.neuronRuns
