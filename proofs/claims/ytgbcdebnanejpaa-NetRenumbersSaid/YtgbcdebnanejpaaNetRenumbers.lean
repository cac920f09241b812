/- For every network and order the law NetRenumbers returns true: net.Renumber returns what the specification's does, and the examples hold. No condition. -/
import Derived.Test.YtgbcdebnanejpaaRh
import Derived.Test.YtgbcdebnanejpaaNx
import Derived.Test.YtgbcdebnanejpaaWk
namespace Go.Proofs.Ytgbcdebnanejpaa.netRenumbers
open Go.ChangeShapes Go.WideShapes Go.ChangeAt Go.RowKit Go.Proofs.Ytgbcdebnanejpaa.Rn
set_option linter.unusedVariables false

theorem renR_small (n : NetM) (l : List Int) (h1 : n.ps.length ≤ 100000) (h2 : n.ss.length ≤ 100000) : (renR n l).ps.length ≤ 100000 ∧ (renR n l).ss.length ≤ 100000 := by
  unfold renR
  split
  · simp only [renN, fillP_length, List.length_map]; exact ⟨h1, h2⟩
  · simp [netZ]
theorem fewB_small {k m : Nat} (h : fewB k m = true) : k ≤ 100000 ∧ m ≤ 100000 := by
  simp [fewB] at h; omega

set_option maxRecDepth 100000 in
set_option maxHeartbeats 4000000 in
theorem walk (n : NetM) (l : List Int) (a1 a2 al : Option Addr) (c1 c2 cl : Nat) (w : World) (hp : PsAt w (.slice a1 n.ps.length c1) n.ps) (hs : SsAt w (.slice a2 n.ss.length c2) n.ss) (hi : IntsAt w (.slice al l.length cl) l) :
    Calls Try.prog 7 #[.agg #[.slice a1 n.ps.length c1, .int .i64 n.inp, .slice a2 n.ss.length c2], .slice al l.length cl] w fun e w' => e = .returned (.bool true) ∧ Below w.heap.size w w' := by
  cases hf : fewB n.ps.length n.ss.length with
  | false =>
    go_enter Try.func7, Try.ntmps7
    go_wp2_with (first | (go_at_call 17; refine (few_any _ _ _ _ _ _ _ _).mono ?_; rintro e w1 ⟨rfl, hb1⟩; rw [hf]) | (go_at_call 18; refine (Lf.works_any _).mono ?_; rintro e w2 ⟨rfl, hb2⟩))
    go_ret
    exact ⟨rfl, (((Below.refl _ _).alloc (Nat.le_refl _) _).trans (hb1.mono (by simp))).trans (hb2.mono (by have := hb1.size; simp at this; omega))⟩
  | true =>
    obtain ⟨f1, f2⟩ := fewB_small hf
    by_cases hl : l.length ≤ 1100
    · have z : ((1100 : Int) < (l.length : Int)) = False := by simp; omega
      have hren : ∀ w1, Below w.heap.size w w1 → Calls Try.prog 30 #[.agg #[.slice a1 n.ps.length c1, .int .i64 n.inp, .slice a2 n.ss.length c2], .slice al l.length cl] w1 (RenOut (renE n l) (renR n l) w1) := fun w1 hb => ren_any n l a1 a2 al c1 c2 cl (by omega) w1 (hp.below hb) (hs.below hb) (hi.below' hb)
      have hrren : ∀ w1, Below w.heap.size w w1 → Calls Try.prog 31 #[.agg #[.slice a1 n.ps.length c1, .int .i64 n.inp, .slice a2 n.ss.length c2], .slice al l.length cl] w1 (RenOut (renE n l) (renR n l) w1) := fun w1 hb => rren_any n l a1 a2 al c1 c2 cl (by omega) w1 (hp.below hb) (hs.below hb) (hi.below' hb)
      obtain ⟨g1, g2⟩ := renR_small n l f1 f2
      generalize renR n l = N at *
      generalize renE n l = X at *
      have hxx : (X == X) = true := by simp
      have HREN := Lib.hid hren
      have HRREN := Lib.hid hrren
      clear hren hrren hp hs hi f1 f2
      go_enter Try.func7, Try.ntmps7
      go_upto_region 3 with (go_at_call 17; refine (few_any _ _ _ _ _ _ _ _).mono ?_; rintro e w1 ⟨rfl, hb1⟩; rw [hf])
      have h01 : Below w.heap.size w w1 := ((Below.refl _ _).alloc (Nat.le_refl _) _).trans (hb1.mono (by simp))
      have hbk : NetBox w1 w.heap.size (.slice a1 n.ps.length c1) n.inp (.slice a2 n.ss.length c2) := (hb1.block _ (by simp)).trans (alloc_new_at _ _ _ rfl)
      obtain ⟨_, _, _, _, _, _⟩ := cells3f hbk
      have hz1 : w.heap.size < w1.heap.size := lt_of_block hbk
      have HB := Lib.hid hbk
      have H01 := Lib.hid h01
      clear hb1 hbk h01 hf
      go_upto_region 4 with (go_at_call 30; refine (HREN.out _ (H01.out)).mono ?_; rintro e w3 ⟨v1, rfl, ⟨p1, q1, p2, q2, rfl, hp1, hs1⟩, hb3⟩)
      have hW3 : Below w1.heap.size w1 (w3.alloc (.cells #[.slice p1 N.ps.length q1, .int .i64 N.inp, .slice p2 N.ss.length q2] 25)) := hb3.alloc hb3.size _
      have hk3 : NetBox (w3.alloc (.cells #[.slice p1 N.ps.length q1, .int .i64 N.inp, .slice p2 N.ss.length q2] 25)) w3.heap.size (.slice p1 N.ps.length q1) N.inp (.slice p2 N.ss.length q2) := alloc_new_at _ _ _ rfl
      have hp3 := hp1.below ((Below.refl w3.heap.size w3).alloc (Nat.le_refl _) (.cells #[.slice p1 N.ps.length q1, .int .i64 N.inp, .slice p2 N.ss.length q2] 25))
      have hs3 := hs1.below ((Below.refl w3.heap.size w3).alloc (Nat.le_refl _) (.cells #[.slice p1 N.ps.length q1, .int .i64 N.inp, .slice p2 N.ss.length q2] 25))
      generalize w3.alloc (.cells #[.slice p1 N.ps.length q1, .int .i64 N.inp, .slice p2 N.ss.length q2] 25) = W3 at *
      generalize w3.heap.size = B3 at *
      have h03 : Below w.heap.size w W3 := H01.out.trans (hW3.mono (by omega))
      have hb0 : NetBox W3 w.heap.size (.slice a1 n.ps.length c1) n.inp (.slice a2 n.ss.length c2) := (hW3.block _ hz1).trans HB.out
      obtain ⟨_, _, _, _, _, _⟩ := cells3f hb0
      have HK3 := Lib.hid hk3
      have HP3 := Lib.hid hp3
      have HS3 := Lib.hid hs3
      have H03 := Lib.hid h03
      have hz3 : w.heap.size < W3.heap.size := lt_of_block hb0
      clear hW3 hk3 hp3 hs3 h03 hb0 hb3 hp1 hs1
      go_upto_region 5 with (go_at_call 31; refine (HRREN.out _ (H03.out)).mono ?_; rintro e w4 ⟨v2, rfl, ⟨p3, q3, p4, q4, rfl, hp4, hs4⟩, hb4⟩)
      have hW4 : Below W3.heap.size W3 (w4.alloc (.cells #[.slice p3 N.ps.length q3, .int .i64 N.inp, .slice p4 N.ss.length q4] 25)) := hb4.alloc hb4.size _
      have hk4 : NetBox (w4.alloc (.cells #[.slice p3 N.ps.length q3, .int .i64 N.inp, .slice p4 N.ss.length q4] 25)) w4.heap.size (.slice p3 N.ps.length q3) N.inp (.slice p4 N.ss.length q4) := alloc_new_at _ _ _ rfl
      have hp5 := hp4.below ((Below.refl w4.heap.size w4).alloc (Nat.le_refl _) (.cells #[.slice p3 N.ps.length q3, .int .i64 N.inp, .slice p4 N.ss.length q4] 25))
      have hs5 := hs4.below ((Below.refl w4.heap.size w4).alloc (Nat.le_refl _) (.cells #[.slice p3 N.ps.length q3, .int .i64 N.inp, .slice p4 N.ss.length q4] 25))
      generalize w4.alloc (.cells #[.slice p3 N.ps.length q3, .int .i64 N.inp, .slice p4 N.ss.length q4] 25) = W4 at *
      generalize w4.heap.size = B4 at *
      have h04 : Below w.heap.size w W4 := H03.out.trans (hW4.mono (by omega))
      have hk5 : NetBox W4 B3 (.slice p1 N.ps.length q1) N.inp (.slice p2 N.ss.length q2) := (hW4.block _ (lt_of_block HK3.out)).trans HK3.out
      have hp6 := HP3.out.below hW4
      have hs6 := HS3.out.below hW4
      have hsame := sameNet_any N.ps N.inp N.ss p1 p2 p3 p4 q1 q2 q3 q4 g1 g2 W4 hp6 hs6 hp5 hs5
      obtain ⟨_, _, _, _, _, _⟩ := cells3f hk4
      obtain ⟨_, _, _, _, _, _⟩ := cells3f hk5
      have hz4 : B4 < W4.heap.size := lt_of_block hk4
      have hz5 : B3 < W4.heap.size := lt_of_block hk5
      have hz6 : w.heap.size ≤ W4.heap.size := h04.size
      have HSM := Lib.hid hsame
      have H04 := Lib.hid h04
      clear hW4 hk4 hk5 hp4 hs4 hb4 hp5 hs5 hp6 hs6 hsame h04
      go_wp2_with (first | (go_at_call 29; refine HSM.out.mono ?_; rintro e w5 ⟨rfl, hb5⟩) | (go_at_call 18; refine (Lf.works_any _).mono ?_; rintro e w6 ⟨rfl, hb6⟩))
      go_ret
      exact ⟨rfl, (H04.out.trans (hb5.mono hz6)).trans (hb6.mono (by have := hb5.size; omega))⟩
    · have z : ((1100 : Int) < (l.length : Int)) = True := by simp; omega
      go_enter Try.func7, Try.ntmps7
      go_wp2_with (first | (go_at_call 17; refine (few_any _ _ _ _ _ _ _ _).mono ?_; rintro e w1 ⟨rfl, hb1⟩; rw [hf]) | (go_at_call 18; refine (Lf.works_any _).mono ?_; rintro e w2 ⟨rfl, hb2⟩))
      go_ret
      exact ⟨rfl, (((Below.refl _ _).alloc (Nat.le_refl _) _).trans (hb1.mono (by simp))).trans (hb2.mono (by have := hb1.size; simp at this; omega))⟩

section
variable {H : Type} {enc : TypeId × Value → H} {w : World} {base : Nat} {held : Bool}
set_option maxRecDepth 100000 in
theorem open_order {r : Reach} {b0 : Nat} {v : Value} {d : DataW H} {p : List MemPlace} (hv : Value.okWide Try.prog w r b0 44 v) (h : DataW.Trod enc Try.prog w base (fun _ => true) held 44 v d p) :
    ∃ l a c, v = .slice a l.length c ∧ IntsAt w v l := by
  have hv' : Cell.okWide Try.prog w r b0 44 v := by simpa only [Value.okWide, Try.underlying44] using hv
  obtain ⟨fuel, hfu⟩ := h
  rcases cellOkWide_slice Try.underlying44 hv' with rfl | ⟨b, off, n, cap, rfl, hl⟩
  · exact ⟨[], none, 0, rfl, Or.inl ⟨rfl, rfl⟩⟩
  · rcases open_ints Try.underlying44 Try.underlying3 (by kernel_rfl) hfu with ⟨h0, _⟩ | ⟨a', len, cap', zs, h1, _, hle, hm, hz, _, hcell, hwf⟩
    · simp [Value.cells] at h0
    · simp [Value.cells] at h1
      obtain ⟨rfl, rfl, rfl⟩ := h1
      simp at hz
      have hlen : (zs.take n).length = n := by simp; omega
      refine ⟨zs.take n, some ⟨b, off, none⟩, cap, by rw [hlen], Or.inr ⟨b, off, cap, by rw [hlen], fun k hk => ?_⟩⟩
      rw [hlen] at hk
      have := hcell k (by omega)
      have hadd : (⟨b, off, none⟩ : Addr).add k = ⟨b, off + k, none⟩ := by unfold Addr.add; split <;> simp_all
      rw [hadd] at this
      rw [this]
      have hjz : k < zs.length := by omega
      simp [hk, hjz]
end

set_option maxRecDepth 100000 in
theorem lifted (os : Os) (started : os.Started) (H : Type) (enc : TypeId × Value → H) :
    ReturnsInHanded {} Try.checked os 7 .any (Rows.netRenumbersSpec.pre6 enc Try.prog Try.f7 Rows.netRenumbersRow.domain false) (Rows.netRenumbersSpec.post enc Try.prog Try.f7 false true false false) := by
  refine returnsInHanded_of_change (C := Try.checked) own started (by kernel_rfl) Try.func7
    (ChangeSpec.witness6 (enc := enc) (C := Try.checked) false ⟨#[], #[.agg #[.slice none 0 0, .int .i64 0, .slice none 0 0], .slice none 0 0], []⟩ 8 (by kernel_rfl) (by kernel_rfl) (by kernel_rfl) (by kernel_rfl)) ?_
  intro W base args ds gs before hval0 hW hcnd hsz
  have hval : ∀ (j : Nat) t v, Try.f7.params[j]? = some t → args[j]? = some v → Value.okWide Try.prog W .any base t v := hval0
  have hW' := hW
  obtain ⟨p, q, hA0, hV, rfl, hfz, hnd⟩ := hW
  have hA : DataW.TrodAll enc Try.prog W 0 (fun _ => true) true Try.f7.params.toList args.toList ds p := hA0
  rw [Try.params7] at hA hval
  have hAll := hA
  obtain ⟨v0, vs0, d0, ds0, p0, q0, hargs, rfl, rfl, h0, r0⟩ := trodAll_cons hA
  obtain ⟨v1, vs1, d1, ds1, p1, q1, rfl, rfl, rfl, h1, r1⟩ := trodAll_cons r0
  obtain ⟨rfl, rfl, rfl⟩ := trodAll_nil r1
  obtain rfl : args = #[v0, v1] := by cases args; simp_all
  obtain ⟨rfl, rfl⟩ := trodVars_none hV
  obtain ⟨n0, ⟨a1, c1, a2, c2, rfl, hp, hs⟩, _, _⟩ := open_net (hval 0 25 v0 rfl rfl) h0
  obtain ⟨l, al, cl, rfl, hi⟩ := open_order (hval 1 44 v1 rfl rfl) h1
  clear hA0 hval0
  refine (walk n0 l a1 a2 al c1 c2 cl W hp hs hi).mono fun e W' ⟨he, bel⟩ => ?_
  subst he
  have hback := trodAll_below bel [25, 44] (by intro t ht; simp at ht; rcases ht with rfl | rfl <;> exact ⟨by kernel_rfl, of_decide_eq_true (by kernel_rfl)⟩) hAll
  exact ⟨_, rfl, _, _, _, [], _, [], hW', trodAll_mk1 (shut_bool Try.underlying4 _), hback, rfl, bel.frame _, fun h => by cases h⟩

theorem over : Rows.netRenumbersRow.holds Try.pinned (OpenSpec.ofChange Rows.netRenumbersSpec) :=
  OpenClaim.holds_of_wide 7 Try.f7 rfl rfl rfl rfl rfl rfl rfl ⟨rfl, rfl, rfl, rfl, rfl⟩ rfl rfl rfl rfl rfl (by kernel_rfl) Try.func7 (by kernel_rfl)
    (of_decide_eq_true (by kernel_rfl)) (by unfold Func.isWrapper; first | (rw [if_pos (by decide +kernel)]; kernel_rfl) | (rw [if_neg (by decide +kernel)]; exact ⟨rfl, rfl⟩))
    (fun os started H enc _ => lifted os started H enc)

theorem proved : Rows.NetRenumbersSaid := over

end Go.Proofs.Ytgbcdebnanejpaa.netRenumbers
