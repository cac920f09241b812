/- For every neuron, state and number of ticks the law NeuronSilences returns true: Silent and Next return what the specification's do. No condition. -/
import Derived.Test.YtkpabecnimakpaaU
namespace Go.Proofs.Ytkpabecnimakpaa.neuronSilences
open Go.ChangeShapes Go.WideShapes Go.ChangeAt Go.RowKit
set_option linter.unusedVariables false


set_option maxRecDepth 100000 in
set_option maxHeartbeats 2000000 in
theorem walk (p : Prm) (V R n : Int) (w : World) :
    Calls Try.prog 6 #[.agg #[.int .i64 p.lk, .int .i64 p.lv, .int .i64 p.bi, .int .i64 p.th, .int .i64 p.rk, .int .i64 p.rs, .int .i64 p.fl, .int .i64 p.re], .agg #[.int .i64 V, .int .i64 R], .int .i64 n] w fun e w' => e = .returned (.bool true) ∧ Below w.heap.size w w' := by
  obtain ⟨L, X, Y, er, hF⟩ : ∃ L X Y er, silF p V R n = (L, X, Y, er) := ⟨_, _, _, _, rfl⟩
  have hL := sil_short hF
  obtain ⟨N, eN, hN1, hN2⟩ := next_both p V R
  have H1 := Lib.hid (silent_got p V R n hF)
  have H2 := Lib.hid (rsilent_got p V R n hF)
  have HN1 := Lib.hid hN1
  have HN2 := Lib.hid hN2
  clear hF hN1 hN2
  go_enter Try.func6, Try.ntmps6
  go_wp2_with (first
    | (go_at_call 27; refine (H1.out _).mono ?_; rintro e w1 ⟨a1, c1, rfl, hi1, hb1⟩; obtain ⟨hc1, hf1⟩ := bcell hb1; have hz1 : w.heap.size + 1 < w1.heap.size := (by have := hb1.size; simp at this; omega); have hz1a : w.heap.size < w1.heap.size := (by omega))
    | (go_at_call 28; refine (H2.out _).mono ?_; rintro e w2 ⟨a2, c2, rfl, hi2, hb2⟩; obtain ⟨hc2, hf2⟩ := bcell hb2; have hz2 : w1.heap.size < w2.heap.size := (by have := hb2.size; simp at this; omega); have hz2a : w.heap.size < w2.heap.size := (by omega); have hz2b : w.heap.size + 1 < w2.heap.size := (by omega))
    | (go_at_call 29; refine (HN1.out _).mono ?_; rintro e w3 ⟨rfl, hb3⟩; obtain ⟨hc3, hf3⟩ := bcell hb3; have hz3 : w2.heap.size < w3.heap.size := (by have := hb3.size; simp at this; omega); have hz3a : w.heap.size < w3.heap.size := (by omega); have hz3b : w.heap.size + 1 < w3.heap.size := (by omega))
    | (go_at_call 30; refine (HN2.out _).mono ?_; rintro e w4 ⟨rfl, hb4⟩; have hz4 : w3.heap.size ≤ w4.heap.size := hb4.size)
    | (go_at_call 26; refine (equal_same _ _ _ _ L hL _ (hi1.below (w := w1) ?_) (hi2.below (w := w2) ?_)).mono ?_; (focus (first | (exact Below.refl _ _) | ((repeat (first | exact Below.refl _ _ | refine below_drewN ?_ _ | refine Below.drew ?_ | refine Below.alloc ?_ ?_ _ | refine Below.setCell ?_ ?_ _ | refine Below.trans ?_ (Below.mono (by assumption) ?_))); all_goals (first | omega | (simp; done) | (simp; omega))))); (focus (first | (exact Below.refl _ _) | ((repeat (first | exact Below.refl _ _ | refine below_drewN ?_ _ | refine Below.drew ?_ | refine Below.alloc ?_ ?_ _ | refine Below.setCell ?_ ?_ _ | refine Below.trans ?_ (Below.mono (by assumption) ?_))); all_goals (first | omega | (simp; done) | (simp; omega))))); rintro e w5 ⟨rfl, hb5⟩; have hz5 : w4.heap.size ≤ w5.heap.size := hb5.size; have bx : w5.heap[w1.heap.size]? = some (.cells #[.int .i64 X, .int .i64 Y] 25) := (by rw [hb5.block _ (by omega), hb4.block _ (by omega), hb3.block _ (by simp <;> omega), Below.heap_alloc _ _ _ (by omega), hb2.block _ (by simp)]; exact alloc_new_at _ _ _ rfl); have bz : w5.heap[w2.heap.size]? = some (.cells #[.int .i64 X, .int .i64 Y] 25) := (by rw [hb5.block _ (by omega), hb4.block _ (by omega), hb3.block _ (by simp)]; exact alloc_new_at _ _ _ rfl); obtain ⟨_, _, _, _⟩ := cells2 bx; obtain ⟨_, _, _, _⟩ := cells2 bz; clear bx bz)
    | (go_at_call 21; refine (works_any _).mono ?_; rintro e w6 ⟨rfl, hb6⟩))
  go_ret
  refine ⟨rfl, ?_⟩
  (focus (first | (exact Below.refl _ _) | ((repeat (first | exact Below.refl _ _ | refine below_drewN ?_ _ | refine Below.drew ?_ | refine Below.alloc ?_ ?_ _ | refine Below.setCell ?_ ?_ _ | refine Below.trans ?_ (Below.mono (by assumption) ?_))); all_goals (first | omega | (simp; done) | (simp; omega)))))

set_option maxRecDepth 100000 in
theorem lifted (os : Os) (started : os.Started) (H : Type) (enc : TypeId × Value → H) :
    ReturnsInHanded {} Try.checked os 6 .any (Rows.neuronSilencesSpec.pre6 enc Try.prog Try.f6 Rows.neuronSilencesRow.domain false) (Rows.neuronSilencesSpec.post enc Try.prog Try.f6 false true false false) := by
  refine returnsInHanded_of_change (C := Try.checked) own started (by kernel_rfl) Try.func6
    (ChangeSpec.witness6 (enc := enc) (C := Try.checked) false ⟨#[], #[.agg #[.int .i64 0, .int .i64 0, .int .i64 0, .int .i64 0, .int .i64 0, .int .i64 0, .int .i64 0, .int .i64 0], .agg #[.int .i64 0, .int .i64 0], .int .i64 0], []⟩ 8 (by kernel_rfl) (by kernel_rfl) (by kernel_rfl) (by kernel_rfl)) ?_
  intro W base args ds gs before hval0 hW hcnd hsz
  have hval : ∀ (j : Nat) t v, Try.f6.params[j]? = some t → args[j]? = some v → Value.okWide Try.prog W .any base t v := hval0
  have hW' := hW
  obtain ⟨p, q, hA0, hV, rfl, hfz, hnd⟩ := hW
  have hA : DataW.TrodAll enc Try.prog W 0 (fun _ => true) true Try.f6.params.toList args.toList ds p := hA0
  rw [Try.params6] at hA hval
  have hAll := hA
  obtain ⟨v0, vs0, d0, ds0, p0, q0, hargs, rfl, rfl, h0, r0⟩ := trodAll_cons hA
  obtain ⟨v1, vs1, d1, ds1, p1, q1, rfl, rfl, rfl, h1, r1⟩ := trodAll_cons r0
  obtain ⟨v2, vs2, d2, ds2, p2, q2, rfl, rfl, rfl, h2, r2⟩ := trodAll_cons r1
  obtain ⟨rfl, rfl, rfl⟩ := trodAll_nil r2
  obtain rfl : args = #[v0, v1, v2] := by cases args; simp_all
  obtain ⟨rfl, rfl⟩ := trodVars_none hV
  obtain ⟨x0, rfl⟩ := open_prm (hval 0 23 v0 rfl rfl) h0
  obtain ⟨V1, R1, rfl⟩ := open_st (hval 1 25 v1 rfl rfl) h1
  obtain ⟨a2, rfl, rfl, rfl, w2⟩ := open_int Try.underlying3 (hval 2 3 v2 rfl rfl) h2
  clear hA0 hval0
  refine (walk x0 V1 R1 a2 W ).mono fun e W' ⟨he, bel⟩ => ?_
  subst he
  have hback := trodAll_below bel [23, 25, 3] (by intro t ht; simp at ht; rcases ht with rfl | rfl | rfl <;> exact ⟨by kernel_rfl, of_decide_eq_true (by kernel_rfl)⟩) hAll
  exact ⟨_, rfl, _, _, _, [], _, [], hW', trodAll_mk1 (shut_bool Try.underlying4 _), hback, rfl, bel.frame _, fun h => by cases h⟩

theorem over : Rows.neuronSilencesRow.holds Try.pinned (OpenSpec.ofChange Rows.neuronSilencesSpec) :=
  OpenClaim.holds_of_wide 6 Try.f6 rfl rfl rfl rfl rfl rfl rfl ⟨rfl, rfl, rfl, rfl, rfl⟩ rfl rfl rfl rfl rfl (by kernel_rfl) Try.func6 (by kernel_rfl)
    (of_decide_eq_true (by kernel_rfl)) (by unfold Func.isWrapper; first | (rw [if_pos (by decide +kernel)]; kernel_rfl) | (rw [if_neg (by decide +kernel)]; exact ⟨rfl, rfl⟩))
    (fun os started H enc _ => lifted os started H enc)

theorem proved : Rows.NeuronSilencesSaid := over

end Go.Proofs.Ytkpabecnimakpaa.neuronSilences
