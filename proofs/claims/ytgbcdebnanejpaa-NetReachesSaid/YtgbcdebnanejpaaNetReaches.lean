/- For every network and list of sources the law NetReaches returns true: net.Reach returns what the specification's does, and the examples hold. No condition. -/
import Derived.Test.YtgbcdebnanejpaaVk
import Derived.Test.YtgbcdebnanejpaaRa
import Derived.Test.YtgbcdebnanejpaaNx
import Derived.Test.YtgbcdebnanejpaaWk
namespace Go.Proofs.Ytgbcdebnanejpaa.netReaches
open Go.ChangeShapes Go.WideShapes Go.ChangeAt Go.RowKit
set_option linter.unusedVariables false

theorem fewB_small {k m : Nat} (h : fewB k m = true) : k ≤ 100000 ∧ m ≤ 100000 := by
  simp [fewB] at h; omega
theorem rcN_small (n : NetM) (l : List Int) (h1 : n.ps.length ≤ 100000) : rcN n l ≤ 100000 := by
  unfold rcN; split <;> omega
theorem intsAt_below {w w1 : World} {v : Value} {l : List Int} (h : IntsAt w v l) (hb : Below w.heap.size w w1) : IntsAt w1 v l := h.below hb

set_option maxRecDepth 100000 in
set_option maxHeartbeats 4000000 in
theorem walk (n : NetM) (l : List Int) (a1 a2 al : Option Addr) (c1 c2 cl : Nat) (w : World) (hp : PsAt w (.slice a1 n.ps.length c1) n.ps) (hs : SsAt w (.slice a2 n.ss.length c2) n.ss) (hi : IntsAt w (.slice al l.length cl) l) :
    Calls Try.prog 8 #[.agg #[.slice a1 n.ps.length c1, .int .i64 n.inp, .slice a2 n.ss.length c2], .slice al l.length cl] w fun e w' => e = .returned (.bool true) ∧ Below w.heap.size w w' := by
  cases hf : fewB n.ps.length n.ss.length with
  | false =>
    go_enter Try.func8, Try.ntmps8
    go_wp2_with (first | (go_at_call 17; refine (few_any _ _ _ _ _ _ _ _).mono ?_; rintro e w1 ⟨rfl, hb1⟩; rw [hf]) | (go_at_call 18; refine (Lf.works_any _).mono ?_; rintro e w2 ⟨rfl, hb2⟩))
    go_ret
    exact ⟨rfl, (((Below.refl _ _).alloc (Nat.le_refl _) _).trans (hb1.mono (by simp))).trans (hb2.mono (by have := hb1.size; simp at this; omega))⟩
  | true =>
    obtain ⟨f1, f2⟩ := fewB_small hf
    by_cases hl : l.length ≤ 100
    · have z : ((100 : Int) < (l.length : Int)) = False := by simp; omega
      have hn1 : ∀ w1, Below w.heap.size w w1 → Calls Try.prog 32 #[.agg #[.slice a1 n.ps.length c1, .int .i64 n.inp, .slice a2 n.ss.length c2], .slice al l.length cl] w1 (RcOut n l w1) := fun w1 hb => nreach_any n l a1 a2 al c1 c2 cl hl w1 (hp.below hb) (hs.below hb) (intsAt_below hi hb)
      have hn2 : ∀ w1, Below w.heap.size w w1 → Calls Try.prog 33 #[.agg #[.slice a1 n.ps.length c1, .int .i64 n.inp, .slice a2 n.ss.length c2], .slice al l.length cl] w1 (RcOut n l w1) := fun w1 hb => rreach_any n l a1 a2 al c1 c2 cl hl w1 (hp.below hb) (hs.below hb) (intsAt_below hi hb)
      have g1 := rcN_small n l f1
      unfold RcOut at hn1 hn2
      generalize rcN n l = K at *
      generalize rcE n l = X at *
      generalize rchB n.ss l = FB at *
      have hxx : (X == X) = true := by simp
      have HN1 := Lib.hid hn1
      have HN2 := Lib.hid hn2
      clear hn1 hn2 hp hs hi f1 f2 hl
      go_enter Try.func8, Try.ntmps8
      go_upto_region 3 with (go_at_call 17; refine (few_any _ _ _ _ _ _ _ _).mono ?_; rintro e w1 ⟨rfl, hb1⟩; rw [hf])
      have h01 : Below w.heap.size w w1 := ((Below.refl _ _).alloc (Nat.le_refl _) _).trans (hb1.mono (by simp))
      have hbk : NetBox w1 w.heap.size (.slice a1 n.ps.length c1) n.inp (.slice a2 n.ss.length c2) := (hb1.block _ (by simp)).trans (alloc_new_at _ _ _ rfl)
      obtain ⟨_, _, _, _, _, _⟩ := cells3f hbk
      have hz1 : w.heap.size < w1.heap.size := lt_of_block hbk
      have HB := Lib.hid hbk
      have H01 := Lib.hid h01
      clear hb1 hbk h01 hf
      go_upto_region 4 with (go_at_call 32; refine (HN1.out _ (H01.out)).mono ?_; rintro e w3 ⟨ra, rfl, hra, hb3⟩; have HRA := Lib.hid hra; have hz3 : w1.heap.size ≤ w3.heap.size := hb3.size; have B3 := Lib.hid (H01.out.trans (hb3.mono (by omega)) : Below w.heap.size w w3); have hbk3 := (hb3.block _ hz1).trans HB.out; clear hra hb3)
      obtain ⟨_, _, _, _, _, _⟩ := cells3f hbk3
      clear hbk3
      go_upto_region 5 with (go_at_call 33; refine (HN2.out _ (B3.out)).mono ?_; rintro e w4 ⟨rb, rfl, hrb, hb4⟩; have HRB := Lib.hid hrb; have hz4 : w3.heap.size ≤ w4.heap.size := hb4.size; have B4 := Lib.hid (B3.out.trans (hb4.mono (by omega)) : Below w.heap.size w w4); have HRA4 : Hid (K = 0 ∨ ∃ g, ra = some ⟨g, 0, none⟩ ∧ BoolsAt w4 g K FB) := Lib.hid (HRA.out.imp id fun ⟨g, e, h⟩ => ⟨g, e, h.of_block (hb4.block _ h.lt)⟩); clear hrb hb4)
      have hzw : w.heap.size ≤ w4.heap.size := by omega
      go_wp2
      go_loopw [9] (fun s9 wr => ∃ j : Nat, j ≤ K ∧ s9 = .int .i64 j ∧ Below w4.heap.size w4 wr) (fun s9 _ => K - (intOf s9).toNat)
      case atStart => exact ⟨0, Nat.zero_le _, rfl, Below.refl _ _⟩
      case round =>
        obtain ⟨j, hj, rfl, hb⟩ := hrel
        have hj0 : (0 : Int) ≤ (j : Int) := Int.natCast_nonneg _
        have HBR := Lib.hid hb
        have hzr := hb.size
        by_cases hlt : j < K
        · have hj1 : ((j : Int) < (K : Int)) = True := by simp; omega
          rcases HRA4.out with h0 | ⟨g, rfl, hA⟩
          · omega
          rcases HRB.out with h0 | ⟨g', rfl, hB⟩
          · omega
          obtain ⟨_, _⟩ := (hA.of_block (hb.block _ hA.lt)).cell hlt
          obtain ⟨_, _⟩ := (hB.of_block (hb.block _ hB.lt)).cell hlt
          have hff : (FB j != FB j) = false := by simp
          have hff2 : (FB j == FB j) = true := by simp
          clear hb hA hB
          go_wp2
          go_quiet (fail)
          go_wp2
          go_roundw
          case rel => exact ⟨j + 1, hlt, by go_num, by first | exact HBR.out | exact below_drewN HBR.out _ | exact HBR.out.drew⟩
          case measure => simp [intOf]; omega
        · obtain rfl : K = j := by omega
          have hj1 : ((K : Int) < (K : Int)) = False := by simp
          clear hb hlt hj
          go_wp2_with (go_at_call 18; refine (Lf.works_any _).mono ?_; rintro e w6 ⟨rfl, hb6⟩)
          go_ret
          exact ⟨rfl, (B4.out.trans (HBR.out.mono (by omega))).trans (hb6.mono (by omega))⟩
    · have z : ((100 : Int) < (l.length : Int)) = True := by simp; omega
      go_enter Try.func8, Try.ntmps8
      go_wp2_with (first | (go_at_call 17; refine (few_any _ _ _ _ _ _ _ _).mono ?_; rintro e w1 ⟨rfl, hb1⟩; rw [hf]) | (go_at_call 18; refine (Lf.works_any _).mono ?_; rintro e w2 ⟨rfl, hb2⟩))
      go_ret
      exact ⟨rfl, (((Below.refl _ _).alloc (Nat.le_refl _) _).trans (hb1.mono (by simp))).trans (hb2.mono (by have := hb1.size; simp at this; omega))⟩

section
variable {H : Type} {enc : TypeId × Value → H} {w : World} {base : Nat} {held : Bool}
set_option maxRecDepth 100000 in
theorem open_order {r : Reach} {b0 : Nat} {v : Value} {d : DataW H} {p : List MemPlace} (hv : Value.okWide Try.prog w r b0 44 v) (h : DataW.Trod enc Try.prog w base (fun _ => true) held 44 v d p) :
    ∃ l a c, v = .slice a l.length c ∧ IntsAt w v l := by
  have hv' : Cell.okWide Try.prog w r b0 44 v := by simpa only [Value.okWide, Try.underlying44] using hv
  obtain ⟨fuel, hfu⟩ := h
  rcases cellOkWide_slice Try.underlying44 hv' with rfl | ⟨b, off, n, cap, rfl, hl⟩
  · exact ⟨[], none, 0, rfl, Or.inl ⟨rfl, rfl⟩⟩
  · rcases open_ints Try.underlying44 Try.underlying3 (by kernel_rfl) hfu with ⟨h0, _⟩ | ⟨a', len, cap', zs, h1, _, hle, hm, hz, _, hcell, hwf⟩
    · simp [Value.cells] at h0
    · simp [Value.cells] at h1
      obtain ⟨rfl, rfl, rfl⟩ := h1
      simp at hz
      have hlen : (zs.take n).length = n := by simp; omega
      refine ⟨zs.take n, some ⟨b, off, none⟩, cap, by rw [hlen], Or.inr ⟨b, off, cap, by rw [hlen], fun k hk => ?_⟩⟩
      rw [hlen] at hk
      have := hcell k (by omega)
      have hadd : (⟨b, off, none⟩ : Addr).add k = ⟨b, off + k, none⟩ := by unfold Addr.add; split <;> simp_all
      rw [hadd] at this
      rw [this]
      have hjz : k < zs.length := by omega
      simp [hk, hjz]
end

set_option maxRecDepth 100000 in
theorem lifted (os : Os) (started : os.Started) (H : Type) (enc : TypeId × Value → H) :
    ReturnsInHanded {} Try.checked os 8 .any (Rows.netReachesSpec.pre6 enc Try.prog Try.f8 Rows.netReachesRow.domain false) (Rows.netReachesSpec.post enc Try.prog Try.f8 false true false false) := by
  refine returnsInHanded_of_change (C := Try.checked) own started (by kernel_rfl) Try.func8
    (ChangeSpec.witness6 (enc := enc) (C := Try.checked) false ⟨#[], #[.agg #[.slice none 0 0, .int .i64 0, .slice none 0 0], .slice none 0 0], []⟩ 8 (by kernel_rfl) (by kernel_rfl) (by kernel_rfl) (by kernel_rfl)) ?_
  intro W base args ds gs before hval0 hW hcnd hsz
  have hval : ∀ (j : Nat) t v, Try.f8.params[j]? = some t → args[j]? = some v → Value.okWide Try.prog W .any base t v := hval0
  have hW' := hW
  obtain ⟨p, q, hA0, hV, rfl, hfz, hnd⟩ := hW
  have hA : DataW.TrodAll enc Try.prog W 0 (fun _ => true) true Try.f8.params.toList args.toList ds p := hA0
  rw [Try.params8] at hA hval
  have hAll := hA
  obtain ⟨v0, vs0, d0, ds0, p0, q0, hargs, rfl, rfl, h0, r0⟩ := trodAll_cons hA
  obtain ⟨v1, vs1, d1, ds1, p1, q1, rfl, rfl, rfl, h1, r1⟩ := trodAll_cons r0
  obtain ⟨rfl, rfl, rfl⟩ := trodAll_nil r1
  obtain rfl : args = #[v0, v1] := by cases args; simp_all
  obtain ⟨rfl, rfl⟩ := trodVars_none hV
  obtain ⟨n0, ⟨a1, c1, a2, c2, rfl, hp, hs⟩, _, _⟩ := open_net (hval 0 25 v0 rfl rfl) h0
  obtain ⟨l, al, cl, rfl, hi⟩ := open_order (hval 1 44 v1 rfl rfl) h1
  clear hA0 hval0
  refine (walk n0 l a1 a2 al c1 c2 cl W hp hs hi).mono fun e W' ⟨he, bel⟩ => ?_
  subst he
  have hback := trodAll_below bel [25, 44] (by intro t ht; simp at ht; rcases ht with rfl | rfl <;> exact ⟨by kernel_rfl, of_decide_eq_true (by kernel_rfl)⟩) hAll
  exact ⟨_, rfl, _, _, _, [], _, [], hW', trodAll_mk1 (shut_bool Try.underlying4 _), hback, rfl, bel.frame _, fun h => by cases h⟩

theorem over : Rows.netReachesRow.holds Try.pinned (OpenSpec.ofChange Rows.netReachesSpec) :=
  OpenClaim.holds_of_wide 8 Try.f8 rfl rfl rfl rfl rfl rfl rfl ⟨rfl, rfl, rfl, rfl, rfl⟩ rfl rfl rfl rfl rfl (by kernel_rfl) Try.func8 (by kernel_rfl)
    (of_decide_eq_true (by kernel_rfl)) (by unfold Func.isWrapper; first | (rw [if_pos (by decide +kernel)]; kernel_rfl) | (rw [if_neg (by decide +kernel)]; exact ⟨rfl, rfl⟩))
    (fun os started H enc _ => lifted os started H enc)

theorem proved : Rows.NetReachesSaid := over

end Go.Proofs.Ytgbcdebnanejpaa.netReaches
