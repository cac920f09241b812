/- For every neuron, state and potential the law NeuronChecks returns true: Check, Valid and Leak return what the specification's do, and the examples hold. No condition. -/
import Derived.Test.YtkpabecnimakpaaL
import Derived.Test.YtkpabecnimakpaaM
namespace Go.Proofs.Ytkpabecnimakpaa.neuronChecks
open Go.ChangeShapes Go.WideShapes Go.ChangeAt Go.RowKit
set_option linter.unusedVariables false

set_option maxRecDepth 100000 in
set_option maxHeartbeats 2000000 in
theorem walk (p : Prm) (V R v : Int) (w : World) :
    Calls Try.prog 3 #[.agg #[.int .i64 p.lk, .int .i64 p.lv, .int .i64 p.bi, .int .i64 p.th, .int .i64 p.rk, .int .i64 p.rs, .int .i64 p.fl, .int .i64 p.re], .agg #[.int .i64 V, .int .i64 R], .int .i64 v] w fun e w' => e = .returned (.bool true) ∧ Below w.heap.size w w' := by
  go_enter Try.func3, Try.ntmps3
  go_wp2_with (first | (go_at_call 15; refine (Leak_any p v _).mono ?_; rintro e w1 ⟨rfl, hb1⟩; obtain ⟨hc1, hf1⟩ := bcell hb1; have hz1 : w.heap.size + 1 < w1.heap.size := (by have := hb1.size; simp at this; omega); have hz1a : w.heap.size < w1.heap.size := (by omega)) | (go_at_call 16; refine (rLeak_any p v _).mono ?_; rintro e w2 ⟨rfl, hb2⟩))
  have h01 : Below w.heap.size w w2 := (((Below.refl _ _).alloc (Nat.le_refl _) _).alloc (by simp) _ |>.trans (hb1.mono (by simp <;> omega))).trans (hb2.mono (by omega))
  have hz2 : w.heap.size + 1 < w2.heap.size := by have := hb2.size; omega
  have pA : PrmAt p w.heap.size w2 := by
    unfold PrmAt; rw [hb2.block _ (by omega), hb1.block _ (by simp <;> omega), Below.heap_alloc _ _ _ (by simp <;> omega)]; exact alloc_new_at _ _ _ rfl
  have sA : StAt V R (w.heap.size + 1) w2 := by
    unfold StAt; rw [hb2.block _ (by omega), hb1.block _ (by simp <;> omega)]; exact alloc_new_at _ _ _ (by simp)
  obtain ⟨_, _, _, _, _, _, _, _⟩ := cells8 pA
  obtain ⟨_, _, _, _⟩ := cells2 sA
  have PA := Lib.hid pA
  have SA := Lib.hid sA
  have H01 := Lib.hid h01
  clear hb1 hc1 hf1 hb2 pA sA h01
  go_region_held3 (fun w' => w'.cell? ⟨w.heap.size, 0, none⟩ = some (.int .i64 p.lk) ∧ w'.cell? ⟨w.heap.size, 1, none⟩ = some (.int .i64 p.lv) ∧ w'.cell? ⟨w.heap.size, 2, none⟩ = some (.int .i64 p.bi) ∧ w'.cell? ⟨w.heap.size, 3, none⟩ = some (.int .i64 p.th) ∧ w'.cell? ⟨w.heap.size, 4, none⟩ = some (.int .i64 p.rk) ∧ w'.cell? ⟨w.heap.size, 5, none⟩ = some (.int .i64 p.rs) ∧ w'.cell? ⟨w.heap.size, 6, none⟩ = some (.int .i64 p.fl) ∧ w'.cell? ⟨w.heap.size, 7, none⟩ = some (.int .i64 p.re) ∧ w'.cell? ⟨w.heap.size + 1, 0, none⟩ = some (.int .i64 V) ∧ w'.cell? ⟨w.heap.size + 1, 1, none⟩ = some (.int .i64 R)) (go_keep)
    (first | (go_at_call 17; refine (check_any p _).mono ?_; rintro e w3 ⟨rfl, hb3⟩; have q3 : Below w2.heap.size w2 w3 := ⟨hb3.os, hb3.tape, hb3.output, hb3.size, hb3.block⟩; obtain ⟨_, _, _, _, _, _, _, _⟩ := cells8 ((q3.block _ (by omega)).trans PA.out); obtain ⟨_, _, _, _⟩ := cells2 ((q3.block _ (by omega)).trans SA.out); have Q3 := Lib.hid q3; clear hb3 q3) | (go_at_call 18; refine (rcheck_any p _).mono ?_; rintro e w4 ⟨rfl, hb4⟩; have q4 : Below w2.heap.size w2 w4 := Q3.out.trans ((show Below w3.heap.size w3 w4 from ⟨hb4.os, hb4.tape, hb4.output, hb4.size, hb4.block⟩).mono Q3.out.size); obtain ⟨_, _, _, _, _, _, _, _⟩ := cells8 ((q4.block _ (by omega)).trans PA.out); obtain ⟨_, _, _, _⟩ := cells2 ((q4.block _ (by omega)).trans SA.out); have Q4 := Lib.hid q4; clear hb4 q4) | (go_at_call 19; refine (valid_any p V R _).mono ?_; rintro e w5 ⟨rfl, hb5⟩; have q5 : Below w2.heap.size w2 w5 := Q4.out.trans ((show Below w4.heap.size w4 w5 from ⟨hb5.os, hb5.tape, hb5.output, hb5.size, hb5.block⟩).mono Q4.out.size); obtain ⟨_, _, _, _, _, _, _, _⟩ := cells8 ((q5.block _ (by omega)).trans PA.out); obtain ⟨_, _, _, _⟩ := cells2 ((q5.block _ (by omega)).trans SA.out); have Q5 := Lib.hid q5; clear hb5 q5) | (go_at_call 20; refine (rvalid_any p V R _).mono ?_; rintro e w6 ⟨rfl, hb6⟩; have q6 : Below w2.heap.size w2 w6 := Q5.out.trans ((show Below w5.heap.size w5 w6 from ⟨hb6.os, hb6.tape, hb6.output, hb6.size, hb6.block⟩).mono Q5.out.size); obtain ⟨_, _, _, _, _, _, _, _⟩ := cells8 ((q6.block _ (by omega)).trans PA.out); obtain ⟨_, _, _, _⟩ := cells2 ((q6.block _ (by omega)).trans SA.out); have Q6 := Lib.hid q6; clear hb6 q6) | (go_at_call 21; refine (works_any _).mono ?_; rintro e w7 ⟨rfl, hb7⟩; have q7 : Below w2.heap.size w2 w7 := Q6.out.trans ((show Below w6.heap.size w6 w7 from ⟨hb7.os, hb7.tape, hb7.output, hb7.size, hb7.block⟩).mono Q6.out.size); obtain ⟨_, _, _, _, _, _, _, _⟩ := cells8 ((q7.block _ (by omega)).trans PA.out); obtain ⟨_, _, _, _⟩ := cells2 ((q7.block _ (by omega)).trans SA.out); have Q7 := Lib.hid q7; clear hb7 q7))
  go_wp2
  go_ret
  exact ⟨rfl, H01.out.trans (Q7.out.mono H01.out.size)⟩

set_option maxRecDepth 100000 in
theorem lifted (os : Os) (started : os.Started) (H : Type) (enc : TypeId × Value → H) :
    ReturnsInHanded {} Try.checked os 3 .any (Rows.neuronChecksSpec.pre6 enc Try.prog Try.f3 Rows.neuronChecksRow.domain false) (Rows.neuronChecksSpec.post enc Try.prog Try.f3 false true false false) := by
  refine returnsInHanded_of_change (C := Try.checked) own started (by kernel_rfl) Try.func3
    (ChangeSpec.witness6 (enc := enc) (C := Try.checked) false ⟨#[], #[.agg #[.int .i64 0, .int .i64 0, .int .i64 0, .int .i64 0, .int .i64 0, .int .i64 0, .int .i64 0, .int .i64 0], .agg #[.int .i64 0, .int .i64 0], .int .i64 0], []⟩ 8 (by kernel_rfl) (by kernel_rfl) (by kernel_rfl) (by kernel_rfl)) ?_
  intro W base args ds gs before hval0 hW hcnd hsz
  have hval : ∀ (j : Nat) t v, Try.f3.params[j]? = some t → args[j]? = some v → Value.okWide Try.prog W .any base t v := hval0
  have hW' := hW
  obtain ⟨p, q, hA0, hV, rfl, hfz, hnd⟩ := hW
  have hA : DataW.TrodAll enc Try.prog W 0 (fun _ => true) true Try.f3.params.toList args.toList ds p := hA0
  rw [Try.params3] at hA hval
  have hAll := hA
  obtain ⟨v0, vs0, d0, ds0, p0, q0, hargs, rfl, rfl, h0, r0⟩ := trodAll_cons hA
  obtain ⟨v1, vs1, d1, ds1, p1, q1, rfl, rfl, rfl, h1, r1⟩ := trodAll_cons r0
  obtain ⟨v2, vs2, d2, ds2, p2, q2, rfl, rfl, rfl, h2, r2⟩ := trodAll_cons r1
  obtain ⟨rfl, rfl, rfl⟩ := trodAll_nil r2
  obtain rfl : args = #[v0, v1, v2] := by cases args; simp_all
  obtain ⟨rfl, rfl⟩ := trodVars_none hV
  obtain ⟨x0, rfl⟩ := open_prm (hval 0 23 v0 rfl rfl) h0
  obtain ⟨V1, R1, rfl⟩ := open_st (hval 1 25 v1 rfl rfl) h1
  obtain ⟨a2, rfl, rfl, rfl, w2⟩ := open_int Try.underlying3 (hval 2 3 v2 rfl rfl) h2
  clear hA0 hval0
  refine (walk x0 V1 R1 a2 W ).mono fun e W' ⟨he, bel⟩ => ?_
  subst he
  have hback := trodAll_below bel [23, 25, 3] (by intro t ht; simp at ht; rcases ht with rfl | rfl | rfl <;> exact ⟨by kernel_rfl, of_decide_eq_true (by kernel_rfl)⟩) hAll
  exact ⟨_, rfl, _, _, _, [], _, [], hW', trodAll_mk1 (shut_bool Try.underlying4 _), hback, rfl, bel.frame _, fun h => by cases h⟩

theorem over : Rows.neuronChecksRow.holds Try.pinned (OpenSpec.ofChange Rows.neuronChecksSpec) :=
  OpenClaim.holds_of_wide 3 Try.f3 rfl rfl rfl rfl rfl rfl rfl ⟨rfl, rfl, rfl, rfl, rfl⟩ rfl rfl rfl rfl rfl (by kernel_rfl) Try.func3 (by kernel_rfl)
    (of_decide_eq_true (by kernel_rfl)) (by unfold Func.isWrapper; first | (rw [if_pos (by decide +kernel)]; kernel_rfl) | (rw [if_neg (by decide +kernel)]; exact ⟨rfl, rfl⟩))
    (fun os started H enc _ => lifted os started H enc)

theorem proved : Rows.NeuronChecksSaid := over

end Go.Proofs.Ytkpabecnimakpaa.neuronChecks
