/- What arguments that are orders or events read as. Over this seat's program. (mk_Ox.py wrote this.) -/
import Derived.Test.YtgbcdebnanejpaaNx
import Derived.Test.YtgbcdebnanejpaaN3
namespace Go.Proofs.Ytgbcdebnanejpaa
open Go.ChangeShapes Go.WideShapes Go.ChangeAt Go.RowKit
set_option linter.unusedVariables false

/-- A slice's capacity. -/
theorem slice_cap {H : Type} {enc : TypeId × Value → H} {P : Program} {w : World} {base : Nat} {spare : Nat → Bool} {held : Bool} {t e fuel b off n cap : Nat} {x : DataW H × List MemPlace} (ht : P.underlying t = some (.slice e)) (h : DataW.trod enc P w base spare held fuel t [.slice (some ⟨b, off, none⟩) n cap] = some x) : n ≤ cap ∧ cap ≤ maxLen := by
  rcases DataW.trod_slice ht h with ⟨h0, _⟩ | ⟨a, len, cap', elems, rest, g, _, h1, _, _, hl, hmx, _⟩
  · simp at h0
  · simp at h1
    obtain ⟨rfl, rfl, rfl⟩ := h1
    exact ⟨hl, hmx⟩
theorem cells85 : Try.prog.cellsOf 85 = 2 := by kernel_rfl
section
variable {H : Type} {enc : TypeId × Value → H} {w : World} {base : Nat} {held : Bool}
set_option maxRecDepth 100000 in
theorem open_evs {r : Reach} {b0 : Nat} {v : Value} {d : DataW H} {p : List MemPlace} (hv : Value.okWide Try.prog w r b0 30 v) (h : DataW.Trod enc Try.prog w base (fun _ => true) held 30 v d p) :
    ∃ l a c, v = .slice a l.length c ∧ EvsC w v l := by
  have hv' : Cell.okWide Try.prog w r b0 30 v := by simpa only [Value.okWide, Try.underlying30] using hv
  obtain ⟨fuel, hfu⟩ := h
  rcases cellOkWide_slice Try.underlying30 hv' with rfl | ⟨b, off, n, cap, rfl, hl⟩
  · exact ⟨[], none, 0, rfl, Or.inl ⟨rfl, rfl⟩, none, 0, rfl, Nat.le_refl _, by unfold maxLen; omega⟩
  · have hfu' : DataW.trod enc Try.prog w base (fun _ => true) held fuel 30 [.slice (some ⟨b, off, none⟩) n cap] = some (d, p) := by simpa [Value.cells] using hfu
    obtain ⟨hm, hc⟩ := open_slice_rows (i0 := 3) (m := 2) Try.underlying30 Try.underlying85 Try.underlying3 (by
      intro i f hf
      match i, hf with
      | 0, hf | 1, hf => cases hf; exact ⟨rfl, rfl, by kernel_rfl⟩
      | n + 2, hf => simp at hf) (by rfl) cells85 hfu'
    obtain ⟨k1, k2⟩ := slice_cap Try.underlying30 hfu'
    refine ⟨(List.range n).map fun i => ⟨icell w b (off + i * 2 + 0), icell w b (off + i * 2 + 1)⟩, some ⟨b, off, none⟩, cap, by simp, Or.inr ⟨b, off, cap, by simp, hl, fun k e hk => ?_⟩, some ⟨b, off, none⟩, cap, by simp, by simpa using k1, k2⟩
    have hkn : k < n := by
      have := (List.getElem?_eq_some_iff.mp hk).1
      simpa using this
    obtain rfl : (⟨icell w b (off + k * 2 + 0), icell w b (off + k * 2 + 1)⟩ : Evt) = e := by simpa [hkn] using hk
    exact ⟨icell_at (hc k 0 hkn (by omega)), icell_at (hc k 1 hkn (by omega))⟩
end

section
variable {H : Type} {enc : TypeId × Value → H} {w : World} {base : Nat} {held : Bool}
set_option maxRecDepth 100000 in
theorem open_order {r : Reach} {b0 : Nat} {v : Value} {d : DataW H} {p : List MemPlace} (hv : Value.okWide Try.prog w r b0 44 v) (h : DataW.Trod enc Try.prog w base (fun _ => true) held 44 v d p) :
    ∃ l a c, v = .slice a l.length c ∧ IntsAt w v l := by
  have hv' : Cell.okWide Try.prog w r b0 44 v := by simpa only [Value.okWide, Try.underlying44] using hv
  obtain ⟨fuel, hfu⟩ := h
  rcases cellOkWide_slice Try.underlying44 hv' with rfl | ⟨b, off, n, cap, rfl, hl⟩
  · exact ⟨[], none, 0, rfl, Or.inl ⟨rfl, rfl⟩⟩
  · rcases open_ints Try.underlying44 Try.underlying3 (by kernel_rfl) hfu with ⟨h0, _⟩ | ⟨a', len, cap', zs, h1, _, hle, hm, hz, _, hcell, hwf⟩
    · simp [Value.cells] at h0
    · simp [Value.cells] at h1
      obtain ⟨rfl, rfl, rfl⟩ := h1
      simp at hz
      have hlen : (zs.take n).length = n := by simp; omega
      refine ⟨zs.take n, some ⟨b, off, none⟩, cap, by rw [hlen], Or.inr ⟨b, off, cap, by rw [hlen], fun k hk => ?_⟩⟩
      rw [hlen] at hk
      have := hcell k (by omega)
      have hadd : (⟨b, off, none⟩ : Addr).add k = ⟨b, off + k, none⟩ := by unfold Addr.add; split <;> simp_all
      rw [hadd] at this
      rw [this]
      have hjz : k < zs.length := by omega
      simp [hk, hjz]
end

end Go.Proofs.Ytgbcdebnanejpaa
