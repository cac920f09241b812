/- For every network the law NetChecks returns true: net.Check returns what the specification's does, and the examples hold. No condition. -/
import Derived.Test.YtgbcdebnanejpaaNx
import Derived.Test.YtgbcdebnanejpaaNi
import Derived.Test.YtgbcdebnanejpaaWk
namespace Go.Proofs.Ytgbcdebnanejpaa.netChecks
open Go.ChangeShapes Go.WideShapes Go.ChangeAt Go.RowKit
set_option linter.unusedVariables false

set_option maxRecDepth 100000 in
set_option maxHeartbeats 2000000 in
theorem walk (n : NetM) (v : Value) (w : World) (hn : NetAt w v n) :
    Calls Try.prog 3 #[v] w fun e w' => e = .returned (.bool true) ∧ Below w.heap.size w w' := by
  obtain ⟨a1, c1, a2, c2, rfl, hp, hs⟩ := hn
  cases hf : fewB n.ps.length n.ss.length with
  | false =>
    go_enter Try.func3, Try.ntmps3
    go_wp2_with (first | (go_at_call 17; refine (few_any _ _ _ _ _ _ _ _).mono ?_; rintro e w1 ⟨rfl, hb1⟩; rw [hf]) | (go_at_call 18; refine (Lf.works_any _).mono ?_; rintro e w2 ⟨rfl, hb2⟩))
    go_ret
    exact ⟨rfl, (((Below.refl _ _).alloc (Nat.le_refl _) _).trans (hb1.mono (by simp))).trans (hb2.mono (by have := hb1.size; simp at this; omega))⟩
  | true =>
    go_enter Try.func3, Try.ntmps3
    go_wp2_with (go_at_call 17; refine (few_any _ _ _ _ _ _ _ _).mono ?_; rintro e w1 ⟨rfl, hb1⟩; rw [hf])
    have h01 : Below w.heap.size w w1 := ((Below.refl _ _).alloc (Nat.le_refl _) _).trans (hb1.mono (by simp))
    have hz1 : w.heap.size < w1.heap.size := by have := hb1.size; simp at this; omega
    have hbk : w1.heap[w.heap.size]? = _ := (hb1.block _ (by simp)).trans (alloc_new_at _ _ _ rfl)
    obtain ⟨_, _, _, _, _, _⟩ := cells3f hbk
    have hp1 := hp.below h01
    have hs1 := hs.below h01
    have HB := Lib.hid hbk
    have H01 := Lib.hid h01
    have HP := Lib.hid hp1
    have HS := Lib.hid hs1
    clear hb1 hbk h01 hp1 hs1 hp hs
    go_region_held3 (fun w' => w'.cell? ⟨w.heap.size, 0, none⟩ = some (.slice a1 n.ps.length c1) ∧ w'.cell? ⟨w.heap.size, 1, none⟩ = some (.int .i64 n.inp) ∧ w'.cell? ⟨w.heap.size, 2, none⟩ = some (.slice a2 n.ss.length c2)) (go_keep)
      (first | (go_at_call 19; refine (ncheck_any n a1 a2 c1 c2 _ (HP.out.below (Below.refl _ _).drew) (HS.out.below (Below.refl _ _).drew)).mono ?_; rintro e w3 ⟨rfl, hb3⟩; have q3 : Below w1.heap.size w1 w3 := ⟨hb3.os, hb3.tape, hb3.output, hb3.size, hb3.block⟩; obtain ⟨_, _, _, _, _, _⟩ := cells3f ((q3.block _ (by omega)).trans HB.out); have Q3 := Lib.hid q3; clear hb3 q3) | (go_at_call 20; refine (rncheck_any n a1 a2 c1 c2 _ (by first | exact HP.out.below Q3.out | exact HP.out.below Q3.out.drew) (by first | exact HS.out.below Q3.out | exact HS.out.below Q3.out.drew)).mono ?_; rintro e w4 ⟨rfl, hb4⟩; have q4 : Below w1.heap.size w1 w4 := Q3.out.trans ((show Below w3.heap.size w3 w4 from ⟨hb4.os, hb4.tape, hb4.output, hb4.size, hb4.block⟩).mono Q3.out.size); obtain ⟨_, _, _, _, _, _⟩ := cells3f ((q4.block _ (by omega)).trans HB.out); have Q4 := Lib.hid q4; clear hb4 q4) | (go_at_call 18; refine (Lf.works_any _).mono ?_; rintro e w5 ⟨rfl, hb5⟩; have q5 : Below w1.heap.size w1 w5 := Q4.out.trans ((show Below w4.heap.size w4 w5 from ⟨hb5.os, hb5.tape, hb5.output, hb5.size, hb5.block⟩).mono Q4.out.size); obtain ⟨_, _, _, _, _, _⟩ := cells3f ((q5.block _ (by omega)).trans HB.out); have Q5 := Lib.hid q5; clear hb5 q5))
    go_wp2
    go_ret
    exact ⟨rfl, H01.out.trans (Q5.out.mono H01.out.size)⟩

set_option maxRecDepth 100000 in
theorem lifted (os : Os) (started : os.Started) (H : Type) (enc : TypeId × Value → H) :
    ReturnsInHanded {} Try.checked os 3 .any (Rows.netChecksSpec.pre6 enc Try.prog Try.f3 Rows.netChecksRow.domain false) (Rows.netChecksSpec.post enc Try.prog Try.f3 false true false false) := by
  refine returnsInHanded_of_change (C := Try.checked) own started (by kernel_rfl) Try.func3
    (ChangeSpec.witness6 (enc := enc) (C := Try.checked) false ⟨#[], #[.agg #[.slice none 0 0, .int .i64 0, .slice none 0 0]], []⟩ 8 (by kernel_rfl) (by kernel_rfl) (by kernel_rfl) (by kernel_rfl)) ?_
  intro W base args ds gs before hval0 hW hcnd hsz
  have hval : ∀ (j : Nat) t v, Try.f3.params[j]? = some t → args[j]? = some v → Value.okWide Try.prog W .any base t v := hval0
  have hW' := hW
  obtain ⟨p, q, hA0, hV, rfl, hfz, hnd⟩ := hW
  have hA : DataW.TrodAll enc Try.prog W 0 (fun _ => true) true Try.f3.params.toList args.toList ds p := hA0
  rw [Try.params3] at hA hval
  have hAll := hA
  obtain ⟨v0, vs0, d0, ds0, p0, q0, hargs, rfl, rfl, h0, r0⟩ := trodAll_cons hA
  obtain ⟨rfl, rfl, rfl⟩ := trodAll_nil r0
  obtain rfl : args = #[v0] := by cases args; simp_all
  obtain ⟨rfl, rfl⟩ := trodVars_none hV
  obtain ⟨n0, k0, _, _⟩ := open_net (hval 0 25 v0 rfl rfl) h0
  clear hA0 hval0
  refine (walk n0 v0 W k0 ).mono fun e W' ⟨he, bel⟩ => ?_
  subst he
  have hback := trodAll_below bel [25] (by intro t ht; simp at ht; rcases ht with rfl <;> exact ⟨by kernel_rfl, of_decide_eq_true (by kernel_rfl)⟩) hAll
  exact ⟨_, rfl, _, _, _, [], _, [], hW', trodAll_mk1 (shut_bool Try.underlying4 _), hback, rfl, bel.frame _, fun h => by cases h⟩

theorem over : Rows.netChecksRow.holds Try.pinned (OpenSpec.ofChange Rows.netChecksSpec) :=
  OpenClaim.holds_of_wide 3 Try.f3 rfl rfl rfl rfl rfl rfl rfl ⟨rfl, rfl, rfl, rfl, rfl⟩ rfl rfl rfl rfl rfl (by kernel_rfl) Try.func3 (by kernel_rfl)
    (of_decide_eq_true (by kernel_rfl)) (by unfold Func.isWrapper; first | (rw [if_pos (by decide +kernel)]; kernel_rfl) | (rw [if_neg (by decide +kernel)]; exact ⟨rfl, rfl⟩))
    (fun os started H enc _ => lifted os started H enc)

theorem proved : Rows.NetChecksSaid := over

end Go.Proofs.Ytgbcdebnanejpaa.netChecks
