/- For every network and events the law NetCauses returns true: later events, and events at inputs that do not reach a neuron, change none of its spikes; and the examples hold. No condition. -/
import Derived.Test.YtgbcdebnanejpaaCc
namespace Go.Proofs.Ytgbcdebnanejpaa.netCauses
open Go.ChangeShapes Go.WideShapes Go.ChangeAt Go.RowKit
set_option linter.unusedVariables false

/-- A slice's capacity. -/
theorem slice_cap {H : Type} {enc : TypeId × Value → H} {P : Program} {w : World} {base : Nat} {spare : Nat → Bool} {held : Bool} {t e fuel b off n cap : Nat} {x : DataW H × List MemPlace} (ht : P.underlying t = some (.slice e)) (h : DataW.trod enc P w base spare held fuel t [.slice (some ⟨b, off, none⟩) n cap] = some x) : n ≤ cap ∧ cap ≤ maxLen := by
  rcases DataW.trod_slice ht h with ⟨h0, _⟩ | ⟨a, len, cap', elems, rest, g, _, h1, _, _, hl, hmx, _⟩
  · simp at h0
  · simp at h1
    obtain ⟨rfl, rfl, rfl⟩ := h1
    exact ⟨hl, hmx⟩
theorem cells85 : Try.prog.cellsOf 85 = 2 := by kernel_rfl
section
variable {H : Type} {enc : TypeId × Value → H} {w : World} {base : Nat} {held : Bool}
set_option maxRecDepth 100000 in
theorem open_evs {r : Reach} {b0 : Nat} {v : Value} {d : DataW H} {p : List MemPlace} (hv : Value.okWide Try.prog w r b0 30 v) (h : DataW.Trod enc Try.prog w base (fun _ => true) held 30 v d p) :
    ∃ l a c, v = .slice a l.length c ∧ EvsC w v l := by
  have hv' : Cell.okWide Try.prog w r b0 30 v := by simpa only [Value.okWide, Try.underlying30] using hv
  obtain ⟨fuel, hfu⟩ := h
  rcases cellOkWide_slice Try.underlying30 hv' with rfl | ⟨b, off, n, cap, rfl, hl⟩
  · exact ⟨[], none, 0, rfl, Or.inl ⟨rfl, rfl⟩, none, 0, rfl, Nat.le_refl _, by unfold maxLen; omega⟩
  · have hfu' : DataW.trod enc Try.prog w base (fun _ => true) held fuel 30 [.slice (some ⟨b, off, none⟩) n cap] = some (d, p) := by simpa [Value.cells] using hfu
    obtain ⟨hm, hc⟩ := open_slice_rows (i0 := 3) (m := 2) Try.underlying30 Try.underlying85 Try.underlying3 (by
      intro i f hf
      match i, hf with
      | 0, hf | 1, hf => cases hf; exact ⟨rfl, rfl, by kernel_rfl⟩
      | n + 2, hf => simp at hf) (by rfl) cells85 hfu'
    obtain ⟨k1, k2⟩ := slice_cap Try.underlying30 hfu'
    refine ⟨(List.range n).map fun i => ⟨icell w b (off + i * 2 + 0), icell w b (off + i * 2 + 1)⟩, some ⟨b, off, none⟩, cap, by simp, Or.inr ⟨b, off, cap, by simp, hl, fun k e hk => ?_⟩, some ⟨b, off, none⟩, cap, by simp, by simpa using k1, k2⟩
    have hkn : k < n := by
      have := (List.getElem?_eq_some_iff.mp hk).1
      simpa using this
    obtain rfl : (⟨icell w b (off + k * 2 + 0), icell w b (off + k * 2 + 1)⟩ : Evt) = e := by simpa [hkn] using hk
    exact ⟨icell_at (hc k 0 hkn (by omega)), icell_at (hc k 1 hkn (by omega))⟩
end

set_option maxRecDepth 100000 in
theorem lifted (os : Os) (started : os.Started) (H : Type) (enc : TypeId × Value → H) :
    ReturnsInHanded {} Try.checked os 14 .any (Rows.netCausesSpec.pre6 enc Try.prog Try.f14 Rows.netCausesRow.domain false) (Rows.netCausesSpec.post enc Try.prog Try.f14 false true false false) := by
  refine returnsInHanded_of_change (C := Try.checked) own started (by kernel_rfl) Try.func14
    (ChangeSpec.witness6 (enc := enc) (C := Try.checked) false ⟨#[], #[.agg #[.slice none 0 0, .int .i64 0, .slice none 0 0], .slice none 0 0, .int .i64 0, .int .u16 0, .int .u8 0], []⟩ 8 (by kernel_rfl) (by kernel_rfl) (by kernel_rfl) (by kernel_rfl)) ?_
  intro W base args ds gs before hval0 hW hcnd hsz
  have hval : ∀ (j : Nat) t v, Try.f14.params[j]? = some t → args[j]? = some v → Value.okWide Try.prog W .any base t v := hval0
  have hW' := hW
  obtain ⟨p, q, hA0, hV, rfl, hfz, hnd⟩ := hW
  have hA : DataW.TrodAll enc Try.prog W 0 (fun _ => true) true Try.f14.params.toList args.toList ds p := hA0
  rw [Try.params14] at hA hval
  have hAll := hA
  obtain ⟨v0, vs0, d0, ds0, p0, q0, hargs, rfl, rfl, h0, r0⟩ := trodAll_cons hA
  obtain ⟨v1, vs1, d1, ds1, p1, q1, rfl, rfl, rfl, h1, r1⟩ := trodAll_cons r0
  obtain ⟨v2, vs2, d2, ds2, p2, q2, rfl, rfl, rfl, h2, r2⟩ := trodAll_cons r1
  obtain ⟨v3, vs3, d3, ds3, p3, q3, rfl, rfl, rfl, h3, r3⟩ := trodAll_cons r2
  obtain ⟨v4, vs4, d4, ds4, p4, q4, rfl, rfl, rfl, h4, r4⟩ := trodAll_cons r3
  obtain ⟨rfl, rfl, rfl⟩ := trodAll_nil r4
  obtain rfl : args = #[v0, v1, v2, v3, v4] := by cases args; simp_all
  obtain ⟨rfl, rfl⟩ := trodVars_none hV
  obtain ⟨n0, ⟨a1, c1, a2, c2, rfl, hp, hs⟩, _, _⟩ := open_net (hval 0 25 v0 rfl rfl) h0
  obtain ⟨l, al, cl, rfl, hi⟩ := open_evs (hval 1 30 v1 rfl rfl) h1
  obtain ⟨T, rfl, rfl, rfl, w2⟩ := open_int Try.underlying3 (hval 2 3 v2 rfl rfl) h2
  obtain ⟨fr, rfl, rfl, rfl, w3⟩ := open_int Try.underlying79 (hval 3 79 v3 rfl rfl) h3
  obtain ⟨xi, rfl, rfl, rfl, w4⟩ := open_int Try.underlying5 (hval 4 5 v4 rfl rfl) h4
  have hw3 : 0 ≤ fr ∧ fr ≤ 65535 := by
    simp only [Lit.wf, Bool.and_eq_true, decide_eq_true_eq] at w3
    exact w3
  have hw4 : 0 ≤ xi ∧ xi ≤ 255 := by
    simp only [Lit.wf, Bool.and_eq_true, decide_eq_true_eq] at w4
    exact w4
  clear hA0 hval0
  refine (walk n0 l a1 a2 al c1 c2 cl T fr xi hw3 hw4 W hp hs hi).mono fun e W' ⟨he, bel⟩ => ?_
  subst he
  have hback := trodAll_below bel [25, 30, 3, 79, 5] (by intro t ht; simp at ht; rcases ht with rfl | rfl | rfl | rfl | rfl <;> exact ⟨by kernel_rfl, of_decide_eq_true (by kernel_rfl)⟩) hAll
  exact ⟨_, rfl, _, _, _, [], _, [], hW', trodAll_mk1 (shut_bool Try.underlying4 _), hback, rfl, bel.frame _, fun h => by cases h⟩

theorem over : Rows.netCausesRow.holds Try.pinned (OpenSpec.ofChange Rows.netCausesSpec) :=
  OpenClaim.holds_of_wide 14 Try.f14 rfl rfl rfl rfl rfl rfl rfl ⟨rfl, rfl, rfl, rfl, rfl⟩ rfl rfl rfl rfl rfl (by kernel_rfl) Try.func14 (by kernel_rfl)
    (of_decide_eq_true (by kernel_rfl)) (by unfold Func.isWrapper; first | (rw [if_pos (by decide +kernel)]; kernel_rfl) | (rw [if_neg (by decide +kernel)]; exact ⟨rfl, rfl⟩))
    (fun os started H enc _ => lifted os started H enc)

theorem proved : Rows.NetCausesSaid := over

end Go.Proofs.Ytgbcdebnanejpaa.netCauses
