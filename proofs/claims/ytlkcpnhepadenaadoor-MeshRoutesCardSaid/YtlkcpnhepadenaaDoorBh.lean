/- What the arguments of this layer's laws read as. Over this seat's program. -/
import Derived.Test.YtlkcpnhepadenaaDoorWk
import Derived.Test.YtlkcpnhepadenaaDoorBg
import Derived.ChangeSlices
namespace Go.Proofs.YtlkcpnhepadenaaDoor
set_option linter.unusedVariables false
open Go.ChangeShapes Go.WideShapes Go.ChangeAt Go.RowKit

section
variable {H : Type} {enc : TypeId × Value → H} {P : Program} {w : World} {base : Nat} {spare : Nat → Bool} {held : Bool}
/-- A struct by value whose fields are all ints. -/
theorem open_ints_struct {r : Reach} {b0 t e : Nat} {fs : Array Field} {v : Value} {d : DataW H} {p : List MemPlace} (he : P.underlying e = some (.int .i64)) (hs : P.underlying t = some (.struct fs))
    (hf : ∀ (i : Nat) (f : Field), fs[i]? = some f → f.offset = i ∧ f.type = e ∧ P.cellsOf f.type = 1) (hC : P.cellsOf t = fs.size)
    (hv : Value.okWide P w r b0 t v) (h : DataW.Trod enc P w base spare held t v d p) : ∃ l : List Int, v = .agg (l.map (Value.int .i64)).toArray ∧ l.length = fs.size := by
  obtain ⟨cs, rfl, hsz⟩ := okWide_struct hs hv
  obtain ⟨fuel, hfu⟩ := h
  obtain ⟨xs, n, _, hx, hcl, hlen, hg⟩ := DataW.trod_struct hs hfu
  have hsz2 : cs.size = fs.size := hsz.trans hC
  have key : ∀ (i : Nat) (hi : i < cs.size), ∃ a, cs[i] = .int .i64 a := by
    intro i hi
    have hfi : fs[i]? = some (fs[i]'(by omega)) := Array.getElem?_eq_getElem (by omega)
    obtain ⟨ho, ht, hk⟩ := hf i _ hfi
    have h1 := hg i _ hfi
    have hxi : xs[i]? = some (xs[i]'(by omega)) := List.getElem?_eq_getElem (by omega)
    rw [ho, hk, hxi, ht] at h1
    obtain ⟨a, e0, _, _⟩ := DataW.trod_int he h1
    refine ⟨a, ?_⟩
    have e1 : (Value.agg cs).cells.toList = cs.toList := by simp [Value.cells]
    rw [e1, List.drop_eq_getElem_cons (by simpa using hi)] at e0
    simpa using e0
  refine ⟨cs.toList.map intOf, ?_, by simpa using hsz2⟩
  congr 1
  apply Array.ext (by simp)
  intro i h1 h2
  obtain ⟨a, ha⟩ := key i h1
  simp [ha, intOf]

/-- The slice's elements, ints of one kind, lie at sv in W. -/
def KAt (k : IntKind) (W : World) (sv : Value) (zs : List Int) : Prop :=
  (sv = .slice none 0 0 ∧ zs = []) ∨ ∃ b off cap, sv = .slice (some ⟨b, off, none⟩) zs.length cap ∧ ∀ j, j < zs.length → W.cell? ⟨b, off + j, none⟩ = some (.int k (zs[j]?.getD 0))
theorem okWide_slice {r : Reach} {b0 t e : Nat} {v : Value} (ht : P.underlying t = some (.slice e)) (hv : Value.okWide P w r b0 t v) : v = .slice none 0 0 ∨ ∃ a n cap, v = .slice (some a) n cap ∧ a.spot = none := by
  simp only [Value.okWide, ht, Cell.okWide] at hv
  cases v <;> simp [Cell.ok, ht] at hv
  rename_i a n cap
  cases a with
  | none =>
    left
    cases n <;> cases cap <;> simp_all
  | some a =>
    right
    simp [World.has] at hv
    exact ⟨a, n, cap, rfl, hv.2.2.2.1⟩

theorem open_slice_k {r : Reach} {b0 t e : Nat} {k : IntKind} {v : Value} {d : DataW H} {p : List MemPlace} (ht : P.underlying t = some (.slice e)) (he : P.underlying e = some (.int k)) (hc : P.cellsOf e = 1)
    (hv : Value.okWide P w r b0 t v) (h : DataW.Trod enc P w base (fun _ => true) held t v d p) :
    ∃ (sa : Option Addr) (sn sc : Nat) (zs : List Int), v = .slice sa sn sc ∧ sn = zs.length ∧ KAt k w (.slice sa sn sc) zs ∧ zs.length ≤ 9223372036854775807 ∧ ∀ z ∈ zs, (Lit.int k z).wf = true := by
  rcases okWide_slice ht hv with rfl | ⟨a, n, cap, rfl, hs⟩
  · exact ⟨none, 0, 0, [], rfl, rfl, Or.inl ⟨rfl, rfl⟩, by simp, by simp⟩
  · obtain ⟨fuel, hf⟩ := h
    rcases open_ints ht he hc hf with ⟨h0, _⟩ | ⟨a', len, cap', zs, h1, _, hl, hm, hz, _, hcell, hwf⟩
    · simp [Value.cells] at h0
    · simp [Value.cells] at h1
      obtain ⟨rfl, rfl, rfl⟩ := h1
      simp at hz
      have hlen : (zs.take n).length = n := by simp; omega
      refine ⟨some a, n, cap, zs.take n, rfl, hlen.symm, Or.inr ⟨a.block, a.off, cap, ?_, ?_⟩, ?_, fun z hz' => hwf z (List.mem_of_mem_take hz')⟩
      · rw [hlen]; cases a; simp at hs; subst hs; rfl
      · intro j hj
        rw [hlen] at hj
        have := hcell j (by omega)
        have hadd : a.add j = ⟨a.block, a.off + j, none⟩ := by
          cases a; simp at hs; subst hs; unfold Addr.add; split <;> simp_all
        rw [hadd] at this
        rw [this]
        have hjz : j < zs.length := by omega
        simp [hj, hjz]
      · rw [hlen]; unfold maxLen at hm; omega
end

section
variable {H : Type} {enc : TypeId × Value → H} {w : World} {base : Nat} {spare : Nat → Bool} {held : Bool}
set_option maxRecDepth 100000 in
theorem open_slice_ints {r : Reach} {b0 : Nat} {v : Value} {d : DataW H} {p : List MemPlace} (hv : Value.okWide Tryd.prog w r b0 24 v) (h : DataW.Trod enc Tryd.prog w base (fun _ => true) held 24 v d p) :
    ∃ (sa : Option Addr) (sn sc : Nat) (zs : List Int), v = .slice sa sn sc ∧ sn = zs.length ∧ IntsAt w (.slice sa sn sc) zs ∧ zs.length ≤ 9223372036854775807 := by
  obtain ⟨sa, sn, sc, zs, h1, h2, h3, h4, _⟩ := open_slice_k Tryd.underlying24 Tryd.underlying3 (by kernel_rfl) hv h
  exact ⟨sa, sn, sc, zs, h1, h2, h3, h4⟩
theorem cells23 : Tryd.prog.cellsOf 23 = 3 := by kernel_rfl
set_option maxRecDepth 100000 in
theorem open_spec {r : Reach} {b0 : Nat} {v : Value} {d : DataW H} {p : List MemPlace} (hv : Value.okWide Tryd.prog w r b0 23 v) (h : DataW.Trod enc Tryd.prog w base spare held 23 v d p) :
    ∃ A H R : Int, v = .agg #[.int .i64 A, .int .i64 H, .int .i64 R] := by
  obtain ⟨l, rfl, hl⟩ := open_ints_struct (e := 3) Tryd.underlying3 Tryd.underlying23 (by
    intro i f hf
    match i, hf with
    | 0, hf | 1, hf | 2, hf => cases hf; exact ⟨rfl, rfl, by kernel_rfl⟩
    | n + 3, hf => simp at hf) cells23 hv h
  match l, hl with
  | [a0, a1, a2], _ => exact ⟨a0, a1, a2, rfl⟩
end
end Go.Proofs.YtlkcpnhepadenaaDoor
