/- What rules that are a law's argument read as; the law's few. Over this seat's program. -/
import Derived.Test.YtipodippfddlpaaLs
import Derived.Test.YtipodippfddlpaaNx
namespace Go.Proofs.Ytipodippfddlpaa.Lrn
set_option linter.unusedVariables false
open Go.ChangeShapes Go.WideShapes Go.ChangeAt Go.RowKit

section
variable {H : Type} {enc : TypeId × Value → H} {P : Program} {w : World} {base : Nat} {spare : Nat → Bool} {held : Bool}
/-- A slice of structs whose fields are of one cell each: what each cell holds reads as its field's type. -/
theorem open_slice_cells {t e m : Nat} {fs : Array Field} {fuel b off n cap : Nat} {x : DataW H × List MemPlace} (ht : P.underlying t = some (.slice e)) (hs : P.underlying e = some (.struct fs))
    (hf : ∀ (i : Nat) (f : Field), fs[i]? = some f → f.offset = i ∧ P.cellsOf f.type = 1) (hm : fs.size = m) (hC : P.cellsOf e = m)
    (h : DataW.trod enc P w base spare held fuel t [.slice (some ⟨b, off, none⟩) n cap] = some x) :
    n ≤ maxLen ∧ ∀ (i j : Nat) (f : Field), i < n → fs[j]? = some f → ∃ c g y, w.cell? ⟨b, off + i * m + j, none⟩ = some c ∧ DataW.trod enc P w base spare held g f.type [c] = some y := by
  rcases DataW.trod_slice ht h with ⟨h0, _⟩ | ⟨a, len, cap', elems, rest, g, _, h1, _, _, hl, hmx, hlen, hel, _, _⟩
  · simp at h0
  · simp at h1
    obtain ⟨rfl, rfl, rfl⟩ := h1
    refine ⟨Nat.le_trans hl hmx, fun i j f hin hfj => ?_⟩
    have hj : j < m := by have := (Array.getElem?_eq_some_iff.1 hfj).1; omega
    have h2 := hel i hin
    rw [List.getElem?_eq_getElem (by omega), Option.bind_eq_some_iff] at h2
    obtain ⟨cs, h3, h4⟩ := h2
    obtain ⟨xs, g', _, _, hcl, hxl, hg⟩ := DataW.trod_struct hs h4
    obtain ⟨ho, hk⟩ := hf j f hfj
    have h5 := hg j f hfj
    rw [ho, hk, List.getElem?_eq_getElem (by omega)] at h5
    have hjl : j < cs.length := by omega
    have e5 : List.take 1 (List.drop j cs) = [cs[j]] := by rw [List.drop_eq_getElem_cons hjl]; rfl
    rw [e5] at h5
    refine ⟨cs[j], g', _, ?_, h5⟩
    unfold World.cells? at h3
    split at h3
    · have h8 := mapM_some_get h3 j j (by simp [hC, hj])
      rw [List.getElem?_eq_getElem hjl] at h8
      rw [hC] at h8
      rw [← h8]
      congr 1
      unfold Addr.add
      split <;> split <;> simp_all <;> omega
    · simp at h3
end
/-- The truth value that a cell holds. -/
def bcellV (W : World) (b o : Nat) : Bool := match W.cell? ⟨b, o, none⟩ with
  | some (.bool z) => z
  | _ => false
theorem bcellV_at {W : World} {b o : Nat} (h : ∃ z, W.cell? ⟨b, o, none⟩ = some (.bool z)) : W.cell? ⟨b, o, none⟩ = some (.bool (bcellV W b o)) := by
  obtain ⟨z, hz⟩ := h
  simp [bcellV, hz]
def rulOf (W : World) (b o : Nat) : Rul := ⟨icell W b (o + 0), icell W b (o + 1), icell W b (o + 2), icell W b (o + 3), icell W b (o + 4), icell W b (o + 5), icell W b (o + 6), icell W b (o + 7), icell W b (o + 8), bcellV W b (o + 9)⟩

section
variable {H : Type} {enc : TypeId × Value → H} {w : World} {base : Nat} {spare : Nat → Bool} {held : Bool}
theorem cells36 : Try.prog.cellsOf 36 = 10 := by kernel_rfl
set_option maxRecDepth 100000 in
set_option maxHeartbeats 1000000 in
theorem open_rules {r : Reach} {b0 : Nat} {v : Value} {d : DataW H} {p : List MemPlace} (hv : Value.okWide Try.prog w r b0 26 v) (h : DataW.Trod enc Try.prog w base spare held 26 v d p) :
    ∃ l a c, v = .slice a l.length c ∧ RlsAt w v l ∧ (∀ r ∈ l, (Lit.int .i64 r.kd).wf = true) ∧ l.length ≤ maxLen := by
  have hv' : Cell.okWide Try.prog w r b0 26 v := by simpa only [Value.okWide, Try.underlying26] using hv
  obtain ⟨fuel, hfu⟩ := h
  rcases cellOkWide_slice Try.underlying26 hv' with rfl | ⟨b, off, n, cap, rfl, hl⟩
  · exact ⟨[], none, 0, rfl, Or.inl ⟨rfl, rfl⟩, by simp, by simp⟩
  · obtain ⟨hm, hc⟩ := open_slice_cells (m := 10) Try.underlying26 Try.underlying36 (by
      intro i f hf
      match i, hf with
      | 0, hf | 1, hf | 2, hf | 3, hf | 4, hf | 5, hf | 6, hf | 7, hf | 8, hf | 9, hf => cases hf; exact ⟨rfl, by kernel_rfl⟩
      | n + 10, hf => simp at hf) (by rfl) cells36 hfu
    have hint : ∀ i j (f : Field), i < n → (Try.prog.fieldsOf 36)[j]? = some f → f.type = 3 → ∃ z, w.cell? ⟨b, off + i * 10 + j, none⟩ = some (.int .i64 z) ∧ (Lit.int .i64 z).wf = true := fun i j f hi hf ht => by
      obtain ⟨c, g, y, h1, h2⟩ := hc i j f hi hf
      rw [ht] at h2
      obtain ⟨z, h3, _, h4⟩ := DataW.trod_int Try.underlying3 h2
      have : c = .int .i64 z := by simpa using h3
      exact ⟨z, by rw [h1, this], h4⟩
    have hbool : ∀ i j (f : Field), i < n → (Try.prog.fieldsOf 36)[j]? = some f → f.type = 4 → ∃ z, w.cell? ⟨b, off + i * 10 + j, none⟩ = some (.bool z) := fun i j f hi hf ht => by
      obtain ⟨c, g, y, h1, h2⟩ := hc i j f hi hf
      rw [ht] at h2
      obtain ⟨z, h3, _⟩ := DataW.trod_bool Try.underlying4 h2
      have : c = .bool z := by simpa using h3
      exact ⟨z, by rw [h1, this]⟩
    have hcell : ∀ i, i < n → RlCells w b (off + i * 10) (rulOf w b (off + i * 10)) ∧ (Lit.int .i64 (rulOf w b (off + i * 10)).kd).wf = true := fun i hi => by
      have q := fun j f hf ht => hint i j f hi hf ht
      refine ⟨⟨icell_at ⟨_, (q 0 _ rfl rfl).choose_spec.1⟩, icell_at ⟨_, (q 1 _ rfl rfl).choose_spec.1⟩, icell_at ⟨_, (q 2 _ rfl rfl).choose_spec.1⟩, icell_at ⟨_, (q 3 _ rfl rfl).choose_spec.1⟩, icell_at ⟨_, (q 4 _ rfl rfl).choose_spec.1⟩, icell_at ⟨_, (q 5 _ rfl rfl).choose_spec.1⟩, icell_at ⟨_, (q 6 _ rfl rfl).choose_spec.1⟩, icell_at ⟨_, (q 7 _ rfl rfl).choose_spec.1⟩, icell_at ⟨_, (q 8 _ rfl rfl).choose_spec.1⟩, bcellV_at (hbool i 9 _ hi rfl rfl)⟩, ?_⟩
      obtain ⟨z, h1, h2⟩ := q 0 _ rfl rfl
      have : (rulOf w b (off + i * 10)).kd = z := by simp only [rulOf, icell, h1]
      rw [this]; exact h2
    refine ⟨(List.range n).map fun i => rulOf w b (off + i * 10), some ⟨b, off, none⟩, cap, by simp, Or.inr ⟨b, off, cap, by simp, hl, fun k p hk => ?_⟩, fun p hp => ?_, by simpa using hm⟩
    · have hkn : k < n := by
        have := (List.getElem?_eq_some_iff.mp hk).1
        simpa using this
      obtain rfl : rulOf w b (off + k * 10) = p := by simpa [hkn] using hk
      exact (hcell k hkn).1
    · obtain ⟨k, hk, rfl⟩ := List.mem_map.1 hp
      exact (hcell k (by simpa using hk)).2
set_option maxRecDepth 100000 in
theorem open_is {r : Reach} {b0 : Nat} {v : Value} {d : DataW H} {p : List MemPlace} (hv : Value.okWide Try.prog w r b0 27 v) (h : DataW.Trod enc Try.prog w base (fun _ => true) held 27 v d p) :
    ∃ l a c, v = .slice a l.length c ∧ IsAt w v l ∧ l.length ≤ maxLen := by
  have hv' : Cell.okWide Try.prog w r b0 27 v := by simpa only [Value.okWide, Try.underlying27] using hv
  obtain ⟨fuel, hfu⟩ := h
  rcases cellOkWide_slice Try.underlying27 hv' with rfl | ⟨b, off, n, cap, rfl, hl⟩
  · exact ⟨[], none, 0, rfl, Or.inl ⟨rfl, rfl⟩, by simp⟩
  · rcases open_ints Try.underlying27 Try.underlying3 (by kernel_rfl) hfu with ⟨h0, _⟩ | ⟨a', len, cap', zs, h1, _, hle, hm, hz, _, hcell, hwf⟩
    · simp [Value.cells] at h0
    · simp [Value.cells] at h1
      obtain ⟨rfl, rfl, rfl⟩ := h1
      simp at hz
      have hlen : (zs.take n).length = n := by simp; omega
      refine ⟨zs.take n, some ⟨b, off, none⟩, cap, by rw [hlen], Or.inr ⟨b, off, cap, by rw [hlen], hl, fun k z hk => ?_⟩, by rw [hlen]; unfold maxLen at hm ⊢; omega⟩
      have hkn : k < n := by have := (List.getElem?_eq_some_iff.1 hk).1; omega
      have := hcell k (by omega)
      have hadd : (⟨b, off, none⟩ : Addr).add k = ⟨b, off + k, none⟩ := by unfold Addr.add; split <;> simp_all
      rw [hadd] at this
      rw [this]
      rw [List.getElem?_take, if_pos hkn] at hk
      simp [hk]
end
end Go.Proofs.Ytipodippfddlpaa.Lrn
