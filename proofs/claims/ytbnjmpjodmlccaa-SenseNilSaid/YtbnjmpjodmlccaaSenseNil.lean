/- For every event the law SenseNil returns true: a recorder that was not made by its package returns ErrNil and nothing else. No condition. (mk_nil.py wrote this.) -/
import Derived.Test.YtbnjmpjodmlccaaSb
import Derived.Test.YtbnjmpjodmlccaaSc
import Derived.Test.YtbnjmpjodmlccaaWk
namespace Go.Proofs.Ytbnjmpjodmlccaa.senseNil
open Go.ChangeShapes Go.WideShapes Go.ChangeAt Go.RowKit Go.Proofs.Ytbnjmpjodmlccaa.Lf
set_option linter.unusedVariables false

set_option maxRecDepth 100000 in
set_option maxHeartbeats 4000000 in
theorem walk (x y : Int) (w : World) :
    Calls Try.prog 7 #[.agg #[.int .i64 x, .int .i64 y]] w fun e w' => e = .returned (.bool true) ∧ Below w.heap.size w w' := by
  go_enter Try.func7, Try.ntmps7
  go_upto_region 3 with (fail)
  obtain ⟨W3, hW3⟩ : ∃ W3, ((w.alloc (.cells #[.int .i64 x, .int .i64 y] 63)).alloc (.cells #[.pointer none, .slice none 0 0] 70)).alloc (.cells #[.pointer none, .pointer (some ⟨w.heap.size + 1, 0, none⟩)] 60) = W3 := ⟨_, rfl⟩
  have hb3 : Below w.heap.size w W3 := by rw [← hW3]; exact (((Below.refl _ _).alloc (Nat.le_refl _) _).alloc (by simp) _).alloc (by simp <;> omega) _
  have he3 : W3.heap[w.heap.size]? = some (.cells #[.int .i64 x, .int .i64 y] 63) := by
    rw [← hW3, Below.heap_alloc _ _ _ (by simp <;> omega), Below.heap_alloc _ _ _ (by simp)]; exact alloc_new_at _ _ _ rfl
  have hu3 : Unmade W3 (.pointer (some ⟨w.heap.size + 1, 0, none⟩)) := .inr ⟨_, rfl, by
    rw [← hW3, Below.heap_alloc _ _ _ (by simp)]; exact alloc_new_at _ _ _ (by simp)⟩
  have hs3 : W3.heap[w.heap.size + 1 + 1]? = some (.cells #[.pointer none, .pointer (some ⟨w.heap.size + 1, 0, none⟩)] 60) := by
    rw [← hW3]; exact alloc_new_at _ _ _ (by simp)
  rw [hW3]
  clear hW3
  have HB := Lib.hid hb3
  have HE := Lib.hid he3
  have HU := Lib.hid hu3
  have HS := Lib.hid hs3
  clear hb3 he3 hu3 hs3
  go_loopw [13] (fun s wr => ∃ k : Nat, k ≤ 2 ∧ s = .int .i64 k ∧ Below W3.heap.size W3 wr) (fun s _ => 2 - (intOf s).toNat)
  case atStart => exact ⟨0, by omega, rfl, Below.refl _ _⟩
  case round =>
    obtain ⟨k, hk, rfl, hb⟩ := hrel
    have HBR := Lib.hid hb
    have he := (hb.block _ (lt_of_block HE.out)).trans HE.out
    have hs := (hb.block _ (lt_of_block HS.out)).trans HS.out
    clear hb
    have hel := lt_of_block he
    have hsl := lt_of_block hs
    obtain ⟨e0, e1, _, _⟩ := cells2 he
    obtain ⟨s0, s1, _, _⟩ := cells2 hs
    clear he hs
    by_cases hlt : k < 2
    · obtain ⟨r, hr, hur⟩ : ∃ r, wr.cell? ⟨w.heap.size + 1 + 1, k, none⟩ = some r ∧ Unmade wr r := by
        rcases (show k = 0 ∨ k = 1 by omega) with rfl | rfl
        · exact ⟨_, s0, .inl rfl⟩
        · exact ⟨_, s1, HU.out.below HBR.out⟩
      clear s0 s1
      have HUR := Lib.hid hur
      clear hur
      have hi0 : (0 : Int) ≤ (k : Int) := Int.natCast_nonneg _
      have hi1 : (k : Int) < 2 := by omega
      go_wp2_with (fail)
      go_at_call 39
      refine (bytes_un _ _ HUR.out).mono ?_
      rintro e w' ⟨rfl, rfl⟩
      go_wp2_with (fail)
      go_at_call 37
      refine (add_un _ _ _ _ HUR.out).mono ?_
      rintro e w4 ⟨rfl, hb4⟩
      have HB4 := Lib.hid hb4
      clear hb4
      go_wp2_with (fail)
      go_at_call 38
      refine (count_un _ _ (HUR.out.below HB4.out)).mono ?_
      rintro e w' ⟨rfl, rfl⟩
      go_wp2
      go_roundw
      case rel => exact ⟨k + 1, by omega, by go_num, HBR.out.trans (HB4.out.mono HBR.out.size)⟩
      case measure => simp [intOf]; omega
    · obtain rfl : k = 2 := by omega
      clear s0 s1 e0 e1
      go_wp2_with (go_at_call 13; refine (works_any _).mono ?_; rintro e w9 ⟨rfl, hb9⟩)
      go_ret
      exact ⟨rfl, (HB.out.trans (HBR.out.mono HB.out.size)).trans (hb9.mono (by have := HB.out.size; have := HBR.out.size; omega))⟩

set_option maxRecDepth 100000 in
theorem lifted (os : Os) (started : os.Started) (H : Type) (enc : TypeId × Value → H) :
    ReturnsInHanded {} Try.checked os 7 .any (Rows.senseNilSpec.pre6 enc Try.prog Try.f7 Rows.senseNilRow.domain false) (Rows.senseNilSpec.post enc Try.prog Try.f7 false true false false) := by
  refine returnsInHanded_of_change (C := Try.checked) own started (by kernel_rfl) Try.func7
    (ChangeSpec.witness6 (enc := enc) (C := Try.checked) false ⟨#[], #[.agg #[.int .i64 0, .int .i64 0]], []⟩ 8 (by kernel_rfl) (by kernel_rfl) (by kernel_rfl) (by kernel_rfl)) ?_
  intro W base args ds gs before hval0 hW hcnd hsz
  have hval : ∀ (j : Nat) t v, Try.f7.params[j]? = some t → args[j]? = some v → Value.okWide Try.prog W .any base t v := hval0
  have hW' := hW
  obtain ⟨p, q, hA0, hV, rfl, hfz, hnd⟩ := hW
  have hA : DataW.TrodAll enc Try.prog W 0 (fun _ => true) true Try.f7.params.toList args.toList ds p := hA0
  rw [Try.params7] at hA hval
  have hAll := hA
  obtain ⟨v0, vs0, d0, ds0, p0, q0, hargs, rfl, rfl, h0, r0⟩ := trodAll_cons hA
  obtain ⟨rfl, rfl, rfl⟩ := trodAll_nil r0
  obtain rfl : args = #[v0] := by cases args; simp_all
  obtain ⟨rfl, rfl⟩ := trodVars_none hV
  obtain ⟨x0, y0, rfl⟩ := open_twoev (hval 0 63 v0 rfl rfl) h0
  clear hA0 hval0
  refine (walk x0 y0 W ).mono fun e W' ⟨he, bel⟩ => ?_
  subst he
  have hback := trodAll_below bel [63] (by intro t ht; simp at ht; subst ht <;> exact ⟨by kernel_rfl, of_decide_eq_true (by kernel_rfl)⟩) hAll
  exact ⟨_, rfl, _, _, _, [], _, [], hW', trodAll_mk1 (shut_bool Try.underlying4 _), hback, rfl, bel.frame _, fun h => by cases h⟩

theorem over : Rows.senseNilRow.holds Try.pinned (OpenSpec.ofChange Rows.senseNilSpec) :=
  OpenClaim.holds_of_wide 7 Try.f7 rfl rfl rfl rfl rfl rfl rfl ⟨rfl, rfl, rfl, rfl, rfl⟩ rfl rfl rfl rfl rfl (by kernel_rfl) Try.func7 (by kernel_rfl)
    (of_decide_eq_true (by kernel_rfl)) (by unfold Func.isWrapper; first | (rw [if_pos (by decide +kernel)]; kernel_rfl) | (rw [if_neg (by decide +kernel)]; exact ⟨rfl, rfl⟩))
    (fun os started H enc _ => lifted os started H enc)

theorem proved : Rows.SenseNilSaid := over

end Go.Proofs.Ytbnjmpjodmlccaa.senseNil
