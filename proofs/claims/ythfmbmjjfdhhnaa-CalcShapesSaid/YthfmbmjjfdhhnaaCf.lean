/- What the arguments of the laws read as: curves. -/
import Derived.Test.YthfmbmjjfdhhnaaCe
import Derived.Test.YthfmbmjjfdhhnaaWk
import Derived.ChangeSlices
namespace Go.Proofs.Ythfmbmjjfdhhnaa
set_option linter.unusedVariables false
open Go.ChangeShapes Go.WideShapes Go.ChangeAt Go.RowKit

theorem cells24 : Try.prog.cellsOf 24 = 2 := by kernel_rfl
section
variable {H : Type} {enc : TypeId × Value → H} {P : Program} {w : World} {base : Nat} {spare : Nat → Bool} {held : Bool}
/-- A struct by value whose fields are all ints. -/
theorem open_ints_struct {r : Reach} {b0 t e : Nat} {fs : Array Field} {v : Value} {d : DataW H} {p : List MemPlace} (he : P.underlying e = some (.int .i64)) (hs : P.underlying t = some (.struct fs))
    (hf : ∀ (i : Nat) (f : Field), fs[i]? = some f → f.offset = i ∧ f.type = e ∧ P.cellsOf f.type = 1) (hC : P.cellsOf t = fs.size)
    (hv : Value.okWide P w r b0 t v) (h : DataW.Trod enc P w base spare held t v d p) : ∃ l : List Int, v = .agg (l.map (Value.int .i64)).toArray ∧ l.length = fs.size := by
  obtain ⟨cs, rfl, hsz⟩ := okWide_struct hs hv
  obtain ⟨fuel, hfu⟩ := h
  obtain ⟨xs, n, _, hx, hcl, hlen, hg⟩ := DataW.trod_struct hs hfu
  have hsz2 : cs.size = fs.size := hsz.trans hC
  have key : ∀ (i : Nat) (hi : i < cs.size), ∃ a, cs[i] = .int .i64 a := by
    intro i hi
    have hfi : fs[i]? = some (fs[i]'(by omega)) := Array.getElem?_eq_getElem (by omega)
    obtain ⟨ho, ht, hk⟩ := hf i _ hfi
    have h1 := hg i _ hfi
    have hxi : xs[i]? = some (xs[i]'(by omega)) := List.getElem?_eq_getElem (by omega)
    rw [ho, hk, hxi, ht] at h1
    obtain ⟨a, e0, _, _⟩ := DataW.trod_int he h1
    refine ⟨a, ?_⟩
    have e1 : (Value.agg cs).cells.toList = cs.toList := by simp [Value.cells]
    rw [e1, List.drop_eq_getElem_cons (by simpa using hi)] at e0
    simpa using e0
  refine ⟨cs.toList.map intOf, ?_, by simpa using hsz2⟩
  congr 1
  apply Array.ext (by simp)
  intro i h1 h2
  obtain ⟨a, ha⟩ := key i h1
  simp [ha, intOf]
end
section
variable {H : Type} {enc : TypeId × Value → H} {P : Program} {w : World} {base : Nat} {spare : Nat → Bool} {held : Bool}
theorem has_lt {r : Reach} {b0 e n : Nat} {a : Addr} (h : w.has P r b0 a e n) : a.spot = none ∧ a.block < w.heap.size := by
  obtain ⟨_, hs, row, cells, hsh, _⟩ := h
  refine ⟨hs, ?_⟩
  unfold World.shape? at hsh
  cases hb : w.heap[a.block]? with
  | none => simp [hb] at hsh
  | some o => exact (Array.getElem?_eq_some_iff.mp hb).1
theorem cellOkWide_slice {r : Reach} {b0 t e : Nat} {v : Value} (ht : P.underlying t = some (.slice e)) (hv : Cell.okWide P w r b0 t v) : v = .slice none 0 0 ∨ ∃ b off n cap, v = .slice (some ⟨b, off, none⟩) n cap ∧ b < w.heap.size := by
  simp only [Cell.okWide, ht] at hv
  cases v <;> simp [Cell.ok, ht] at hv
  rename_i a n cap
  cases a with
  | none =>
    left
    cases n <;> cases cap <;> simp_all
  | some a =>
    right
    obtain ⟨_, _, hh⟩ := hv
    obtain ⟨hs, hl⟩ := has_lt hh
    obtain ⟨b, off, sp⟩ := a
    obtain rfl : sp = none := hs
    exact ⟨b, off, n, cap, rfl, hl⟩
/-- A slice of structs whose fields are all ints: each cell holds an int. -/
theorem open_slice_rows {t e i0 m : Nat} {fs : Array Field} {fuel b off n cap : Nat} {x : DataW H × List MemPlace} (ht : P.underlying t = some (.slice e)) (hs : P.underlying e = some (.struct fs)) (hi : P.underlying i0 = some (.int .i64))
    (hf : ∀ (i : Nat) (f : Field), fs[i]? = some f → f.offset = i ∧ f.type = i0 ∧ P.cellsOf f.type = 1) (hm : fs.size = m) (hC : P.cellsOf e = m)
    (h : DataW.trod enc P w base spare held fuel t [.slice (some ⟨b, off, none⟩) n cap] = some x) :
    n ≤ maxLen ∧ ∀ i j, i < n → j < m → ∃ z, w.cell? ⟨b, off + i * m + j, none⟩ = some (.int .i64 z) := by
  rcases DataW.trod_slice ht h with ⟨h0, _⟩ | ⟨a, len, cap', elems, rest, g, _, h1, _, _, hl, hmx, hlen, hel, _, _⟩
  · simp at h0
  · simp at h1
    obtain ⟨rfl, rfl, rfl⟩ := h1
    refine ⟨Nat.le_trans hl hmx, fun i j hin hj => ?_⟩
    have h2 := hel i hin
    rw [List.getElem?_eq_getElem (by omega), Option.bind_eq_some_iff] at h2
    obtain ⟨cs, h3, h4⟩ := h2
    obtain ⟨xs, g', _, _, hcl, hxl, hg⟩ := DataW.trod_struct hs h4
    have hfi : fs[j]? = some (fs[j]'(by omega)) := Array.getElem?_eq_getElem (by omega)
    obtain ⟨ho, hty, hk⟩ := hf j _ hfi
    have h5 := hg j _ hfi
    rw [ho, hk, List.getElem?_eq_getElem (by omega), hty] at h5
    obtain ⟨z, h6, _, _⟩ := DataW.trod_int hi h5
    refine ⟨z, ?_⟩
    have hjl : j < cs.length := by omega
    rw [List.drop_eq_getElem_cons hjl] at h6
    have h7 : cs[j] = .int .i64 z := (List.cons.inj h6).1
    unfold World.cells? at h3
    split at h3
    · have h8 := mapM_some_get h3 j j (by simp [hC, hj])
      rw [List.getElem?_eq_getElem hjl, h7] at h8
      rw [hC] at h8
      rw [← h8]
      congr 1
      unfold Addr.add
      split <;> split <;> simp_all <;> omega
    · simp at h3
end
theorem list2 {l : List Int} (h : l.length = 2) : ∃ a0 a1, l = [a0, a1] := by
  match l, h with
  | [a0, a1], _ => exact ⟨a0, a1, rfl⟩
/-- The int that a cell holds. -/
def icell (W : World) (b o : Nat) : Int := match W.cell? ⟨b, o, none⟩ with
  | some (.int _ z) => z
  | _ => 0
theorem icell_at {W : World} {b o : Nat} (h : ∃ z, W.cell? ⟨b, o, none⟩ = some (.int .i64 z)) : W.cell? ⟨b, o, none⟩ = some (.int .i64 (icell W b o)) := by
  obtain ⟨z, hz⟩ := h
  simp [icell, hz]
def cvOf (W : World) (b o : Nat) : Cv := ⟨icell W b (o + 0), icell W b (o + 1)⟩
section
variable {H : Type} {enc : TypeId × Value → H} {w : World} {base : Nat} {spare : Nat → Bool} {held : Bool}
set_option maxRecDepth 100000 in
theorem open_curve {r : Reach} {b0 : Nat} {v : Value} {d : DataW H} {p : List MemPlace} (hv : Value.okWide Try.prog w r b0 24 v) (h : DataW.Trod enc Try.prog w base spare held 24 v d p) :
    ∃ b r : Int, v = .agg #[.int .i64 b, .int .i64 r] := by
  obtain ⟨l, rfl, hl⟩ := open_ints_struct (e := 3) Try.underlying3 Try.underlying24 (by
    intro i f hf
    match i, hf with
    | 0, hf | 1, hf => cases hf; exact ⟨rfl, rfl, by kernel_rfl⟩
    | n + 2, hf => simp at hf) cells24 hv h
  obtain ⟨a0, a1, rfl⟩ := list2 hl
  exact ⟨a0, a1, rfl⟩
set_option maxRecDepth 100000 in
theorem open_curves {r : Reach} {b0 : Nat} {v : Value} {d : DataW H} {p : List MemPlace} (hv : Value.okWide Try.prog w r b0 22 v) (h : DataW.Trod enc Try.prog w base spare held 22 v d p) :
    ∃ l a c, v = .slice a l.length c ∧ CsAt w v l := by
  have hv' : Cell.okWide Try.prog w r b0 22 v := by simpa only [Value.okWide, Try.underlying22] using hv
  obtain ⟨fuel, hfu⟩ := h
  rcases cellOkWide_slice Try.underlying22 hv' with rfl | ⟨b, off, n, cap, rfl, hl⟩
  · exact ⟨[], none, 0, rfl, Or.inl ⟨rfl, rfl⟩⟩
  · obtain ⟨hm, hc⟩ := open_slice_rows (i0 := 3) (m := 2) Try.underlying22 Try.underlying24 Try.underlying3 (by
      intro i f hf
      match i, hf with
      | 0, hf | 1, hf => cases hf; exact ⟨rfl, rfl, by kernel_rfl⟩
      | n + 2, hf => simp at hf) (by rfl) cells24 hfu
    refine ⟨(List.range n).map fun i => cvOf w b (off + i * 2), some ⟨b, off, none⟩, cap, by simp, Or.inr ⟨b, off, cap, by simp, hl, fun k p hk => ?_⟩⟩
    have hkn : k < n := by
      have := (List.getElem?_eq_some_iff.mp hk).1
      simpa using this
    obtain rfl : cvOf w b (off + k * 2) = p := by simpa [hkn] using hk
    exact ⟨icell_at (hc k 0 hkn (by omega)), icell_at (hc k 1 hkn (by omega))⟩
end
/-- A curve of one's own. -/
def cvV (c : Cv) : List Value := [.int .i64 c.b, .int .i64 c.r]
def cvCs (l : List Cv) : List Value := l.flatMap cvV
theorem cvCs_length (l : List Cv) : (cvCs l).length = l.length * 2 := by
  induction l with
  | nil => rfl
  | cons s l ih => simp [cvCs, cvV] at *; omega
theorem cvCs_snoc (l : List Cv) (s : Cv) : cvCs (l ++ [s]) = cvCs l ++ cvV s := by simp [cvCs]
theorem cvCs_get : ∀ (l : List Cv) (i c : Nat) (s : Cv), c < 2 → l[i]? = some s → (cvCs l)[i * 2 + c]? = (cvV s)[c]?
  | [], i, c, r, _, h => by simp at h
  | x :: rs, 0, c, r, hc, h => by
    simp at h; subst h
    rw [cvCs, List.flatMap_cons, List.getElem?_append_left (by simp [cvV]; omega)]
    simp
  | x :: rs, i + 1, c, r, hc, h => by
    rw [cvCs, List.flatMap_cons, List.getElem?_append_right (by simp [cvV]; omega)]
    have := cvCs_get rs i c r hc (by simpa using h)
    rw [← this, cvCs]
    congr 1
    simp [cvV]; omega
theorem csAt_of_owns {W : World} {base : Nat} {e : TypeId} {v : Value} {l : List Cv} (h : W.ownsRow base e 2 v l.length (cvCs l)) : CsAt W v l := by
  rcases h.2 with ⟨rfl, h0⟩ | ⟨g, cap, cur, rfl, hb, hg, _, _, _, ht⟩
  · exact Or.inl ⟨rfl, List.eq_nil_of_length_eq_zero h0⟩
  · refine Or.inr ⟨g, 0, cap, rfl, (Array.getElem?_eq_some_iff.1 hg).1, fun k r hk => ?_⟩
    have key : ∀ c u, c < 2 → (cvV r)[c]? = some u → W.cell? ⟨g, 0 + k * 2 + c, none⟩ = some u := fun c u hc hu => by
      have h1 := h.cells (g := g) rfl (k * 2 + c) u (by rw [cvCs_get l k c r hc hk]; exact hu)
      have hadd : (⟨g, 0, none⟩ : Addr).add (k * 2 + c) = ⟨g, k * 2 + c, none⟩ := by unfold Addr.add; split <;> simp_all
      rw [hadd] at h1
      rw [show 0 + k * 2 + c = k * 2 + c by omega]; exact h1
    exact ⟨key 0 _ (by omega) rfl, key 1 _ (by omega) rfl⟩
theorem info27 : (Try.prog.info? 27).map (fun i => (i.zero, i.size, i.bytes)) = some (some (.agg #[.int .i64 0, .int .i64 0]), 2, 16) := by kernel_rfl
end Go.Proofs.Ythfmbmjjfdhhnaa
