/- For every chip the law PlaceChips returns true: place.CheckChip returns what the specification's does, and the examples hold. No condition. -/
import Derived.Test.YtdfkbbcnioccfaaGreatPe
import Derived.Test.YtdfkbbcnioccfaaGreatWk
import Derived.Deep.RegionHeld3
namespace Go.Proofs.YtdfkbbcnioccfaaGreat.placeChips
open Go.ChangeShapes Go.WideShapes Go.ChangeAt Go.RowKit Go.Proofs.YtdfkbbcnioccfaaGreat.Lf
set_option linter.unusedVariables false

set_option maxRecDepth 100000 in
set_option maxHeartbeats 4000000 in
theorem walk (Wd Hg R N S E B : Int) (D : Value) (zs : List Int) (w : World) (hD : DeadAt w D zs) :
    Calls Tryz.prog 3 #[chipV Wd Hg R N S E B D] w fun e w' => e = .returned (.bool true) ∧ Below w.heap.size w w' := by
  have HD := Lib.hid hD
  obtain ⟨sa, db, off, cap, rfl, hsa, hcap, hI⟩ := hD
  obtain ⟨n, hn⟩ : ∃ n, zs.length = n := ⟨_, rfl⟩
  rw [hn] at HD hcap ⊢
  have hb0 : Below w.heap.size w (w.alloc (.cells #[.int .i64 Wd, .int .i64 Hg, .int .i64 R, .int .i64 N, .int .i64 S, .int .i64 E, .int .i64 B, .slice sa n cap] 26)) := (Below.refl _ _).alloc (Nat.le_refl _) _
  have hbx : BoxAt (w.alloc (.cells #[.int .i64 Wd, .int .i64 Hg, .int .i64 R, .int .i64 N, .int .i64 S, .int .i64 E, .int .i64 B, .slice sa n cap] 26)) w.heap.size 26 Wd Hg R N S E B (.slice sa n cap) := alloc_new_at _ _ _ rfl
  have HB0 := Lib.hid hb0
  have HBX := Lib.hid hbx
  have HN := Lib.hid hn
  clear hsa hI hb0 hbx hn
  by_cases hlt : 100 < n
  · have g1 : ((100 : Int) < (n : Int)) = True := by simp; omega
    clear hlt
    unfold chipV
    go_enter Tryz.func3, Tryz.ntmps3
    go_wp2_with (go_at_call 14; refine (works_any _).mono ?_; rintro e w2 ⟨rfl, hb2⟩)
    go_ret
    exact ⟨rfl, HB0.out.trans (hb2.mono HB0.out.size)⟩
  · have g1 : ((100 : Int) < (n : Int)) = False := by simp; omega
    have hl : zs.length ≤ 1000 := by have := HN.out; omega
    have HC := Lib.hid (fun W (h : DeadAt W (.slice sa n cap) zs) => checkChip_any Wd Hg R N S E B (.slice sa n cap) zs hl W h)
    have HR := Lib.hid (fun W (h : DeadAt W (.slice sa n cap) zs) => rcheckChip_any Wd Hg R N S E B (.slice sa n cap) zs hl W h)
    have HF := Lib.hid (fun W => ref_any Wd Hg R N S E B sa n cap W)
    clear hl hlt
    generalize chipE Wd Hg R N S E B zs = X at *
    have gX : (X == X) = true := by simp
    unfold chipV at HC HR HF ⊢
    go_enter Tryz.func3, Tryz.ntmps3
    go_upto_region 3 with (fail)
    generalize w.alloc (.cells #[.int .i64 Wd, .int .i64 Hg, .int .i64 R, .int .i64 N, .int .i64 S, .int .i64 E, .int .i64 B, .slice sa n cap] 26) = w1 at *
    have hz1 := lt_of_block HBX.out
    have HD1 := Lib.hid (HD.out.below HB0.out)
    obtain ⟨_, _, _, _, _, _, _, _⟩ := cells8 HBX.out
    go_region_held3 (fun w' => w'.cell? ⟨w.heap.size, 0, none⟩ = some (.int .i64 Wd) ∧ w'.cell? ⟨w.heap.size, 1, none⟩ = some (.int .i64 Hg) ∧ w'.cell? ⟨w.heap.size, 2, none⟩ = some (.int .i64 R) ∧ w'.cell? ⟨w.heap.size, 3, none⟩ = some (.int .i64 N) ∧ w'.cell? ⟨w.heap.size, 4, none⟩ = some (.int .i64 S) ∧ w'.cell? ⟨w.heap.size, 5, none⟩ = some (.int .i64 E) ∧ w'.cell? ⟨w.heap.size, 6, none⟩ = some (.int .i64 B) ∧ w'.cell? ⟨w.heap.size, 7, none⟩ = some (.slice sa n cap)) (first | (go_keep; done) | fail) (first
      | (go_at_call 15; refine (HC.out _ (HD1.out.below (show Below w1.heap.size w1 _ from by repeat (first | exact Below.refl _ _ | exact Q4.out | exact Q5.out | refine below_drewN ?_ _ | refine Below.drew ?_)))).mono ?_; rintro e w3 ⟨rfl, hb3⟩; have q3 : Below w1.heap.size w1 w3 := (show Below w1.heap.size w1 _ from by repeat (first | exact Below.refl _ _ | exact Q4.out | exact Q5.out | refine below_drewN ?_ _ | refine Below.drew ?_)).trans (hb3.mono (by first | exact Nat.le_refl _ | exact Q4.out.size | exact Q5.out.size)); obtain ⟨_, _, _, _, _, _, _, _⟩ := cells8 ((q3.block _ hz1).trans HBX.out); have Q3 := Lib.hid q3; clear hb3 q3)
      | (go_at_call 17; refine (HF.out _).mono ?_; rintro e w4 ⟨rfl, hb4⟩; have q4 : Below w1.heap.size w1 w4 := (show Below w1.heap.size w1 _ from by repeat (first | exact Below.refl _ _ | exact Q3.out | refine below_drewN ?_ _ | refine Below.drew ?_)).trans (hb4.mono (by first | exact Nat.le_refl _ | exact Q3.out.size)); obtain ⟨_, _, _, _, _, _, _, _⟩ := cells8 ((q4.block _ hz1).trans HBX.out); have Q4 := Lib.hid q4; clear hb4 q4)
      | (go_at_call 16; refine (HR.out _ (HD1.out.below (show Below w1.heap.size w1 _ from by repeat (first | exact Q4.out | refine below_drewN ?_ _ | refine Below.drew ?_)))).mono ?_; rintro e w5 ⟨rfl, hb5⟩; have q5 : Below w1.heap.size w1 w5 := (show Below w1.heap.size w1 _ from by repeat (first | exact Q4.out | refine below_drewN ?_ _ | refine Below.drew ?_)).trans (hb5.mono Q4.out.size); obtain ⟨_, _, _, _, _, _, _, _⟩ := cells8 ((q5.block _ hz1).trans HBX.out); have Q5 := Lib.hid q5; clear hb5 q5)
      | (go_at_call 14; refine (works_any _).mono ?_; rintro e w6 ⟨rfl, hb6⟩; have q6 : Below w1.heap.size w1 w6 := (show Below w1.heap.size w1 _ from by repeat (first | exact Q5.out | refine below_drewN ?_ _ | refine Below.drew ?_)).trans (hb6.mono Q5.out.size); obtain ⟨_, _, _, _, _, _, _, _⟩ := cells8 ((q6.block _ hz1).trans HBX.out); have Q6 := Lib.hid q6; clear hb6 q6))
    go_wp2
    go_ret
    exact ⟨rfl, HB0.out.trans (Q6.out.mono HB0.out.size)⟩

set_option maxRecDepth 100000 in
theorem lifted (os : Os) (started : os.Started) (H : Type) (enc : TypeId × Value → H) :
    ReturnsInHanded {} Tryz.checked os 3 .any (Rows.placeChipsSpec.pre6 enc Tryz.prog Tryz.f3 Rows.placeChipsRow.domain false) (Rows.placeChipsSpec.post enc Tryz.prog Tryz.f3 false true false false) := by
  refine returnsInHanded_of_change (C := Tryz.checked) own started (by kernel_rfl) Tryz.func3
    (ChangeSpec.witness6 (enc := enc) (C := Tryz.checked) false ⟨#[], #[.agg #[.int .i64 0, .int .i64 0, .int .i64 0, .int .i64 0, .int .i64 0, .int .i64 0, .int .i64 0, .slice none 0 0]], []⟩ 8 (by kernel_rfl) (by kernel_rfl) (by kernel_rfl) (by kernel_rfl)) ?_
  intro W base args ds gs before hval0 hW hcnd hsz
  have hval : ∀ (j : Nat) t v, Tryz.f3.params[j]? = some t → args[j]? = some v → Value.okWide Tryz.prog W .any base t v := hval0
  have hW' := hW
  obtain ⟨p, q, hA0, hV, rfl, hfz, hnd⟩ := hW
  have hA : DataW.TrodAll enc Tryz.prog W 0 (fun _ => true) true Tryz.f3.params.toList args.toList ds p := hA0
  rw [Tryz.params3] at hA hval
  have hAll := hA
  obtain ⟨v0, vs0, d0, ds0, p0, q0, hargs, rfl, rfl, h0, r0⟩ := trodAll_cons hA
  obtain ⟨rfl, rfl, rfl⟩ := trodAll_nil r0
  obtain rfl : args = #[v0] := by cases args; simp_all
  obtain ⟨rfl, rfl⟩ := trodVars_none hV
  obtain ⟨Wd, Hg, R, N, S, E, B, D, zs, rfl, hD⟩ := open_chip (hval 0 26 v0 rfl rfl) h0
  clear hA0 hval0
  refine (walk Wd Hg R N S E B D zs W hD).mono fun e W' ⟨he, bel⟩ => ?_
  subst he
  have hback := trodAll_below bel [26] (by intro t ht; simp at ht; rcases ht with rfl <;> exact ⟨by kernel_rfl, of_decide_eq_true (by kernel_rfl)⟩) hAll
  exact ⟨_, rfl, _, _, _, [], _, [], hW', trodAll_mk1 (shut_bool Tryz.underlying4 _), hback, rfl, bel.frame _, fun h => by cases h⟩

theorem over : Rows.placeChipsRow.holds Tryz.pinned (OpenSpec.ofChange Rows.placeChipsSpec) :=
  OpenClaim.holds_of_wide 3 Tryz.f3 rfl rfl rfl rfl rfl rfl rfl ⟨rfl, rfl, rfl, rfl, rfl⟩ rfl rfl rfl rfl rfl (by kernel_rfl) Tryz.func3 (by kernel_rfl)
    (of_decide_eq_true (by kernel_rfl)) (by unfold Func.isWrapper; first | (rw [if_pos (by decide +kernel)]; kernel_rfl) | (rw [if_neg (by decide +kernel)]; exact ⟨rfl, rfl⟩))
    (fun os started H enc _ => lifted os started H enc)

theorem proved : Rows.PlaceChipsSaid := over

end Go.Proofs.YtdfkbbcnioccfaaGreat.placeChips
