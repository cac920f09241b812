/- What the arguments of the laws read as; the row's frame in a few lemmas. -/
import Derived.Test.YtgbcdebnanejpaaRows
import Derived.ProofKit
import Derived.OpenShut
import Derived.WalkKit
import Derived.Test.YtgbcdebnanejpaaE1
namespace Go.Proofs.Ytgbcdebnanejpaa
set_option linter.unusedVariables false
open Go.ChangeShapes Go.WideShapes Go.ChangeAt Go.RowKit

theorem own : ownKnob Try.prog.godebug = none := by kernel_rfl
theorem laidOut : laidOutB Try.prog = true := by kernel_rfl
theorem cells23 : Try.prog.cellsOf 39 = 8 := by kernel_rfl
theorem cells25 : Try.prog.cellsOf 98 = 2 := by kernel_rfl

section
variable {H : Type} {enc : TypeId × Value → H} {P : Program} {w : World} {base : Nat} {spare : Nat → Bool} {held : Bool}
/-- A struct by value whose fields are all ints. -/
theorem open_ints_struct {r : Reach} {b0 t e : Nat} {fs : Array Field} {v : Value} {d : DataW H} {p : List MemPlace} (he : P.underlying e = some (.int .i64)) (hs : P.underlying t = some (.struct fs))
    (hf : ∀ (i : Nat) (f : Field), fs[i]? = some f → f.offset = i ∧ f.type = e ∧ P.cellsOf f.type = 1) (hC : P.cellsOf t = fs.size)
    (hv : Value.okWide P w r b0 t v) (h : DataW.Trod enc P w base spare held t v d p) : ∃ l : List Int, v = .agg (l.map (Value.int .i64)).toArray ∧ l.length = fs.size := by
  obtain ⟨cs, rfl, hsz⟩ := okWide_struct hs hv
  obtain ⟨fuel, hfu⟩ := h
  obtain ⟨xs, n, _, hx, hcl, hlen, hg⟩ := DataW.trod_struct hs hfu
  have hsz2 : cs.size = fs.size := hsz.trans hC
  have key : ∀ (i : Nat) (hi : i < cs.size), ∃ a, cs[i] = .int .i64 a := by
    intro i hi
    have hfi : fs[i]? = some (fs[i]'(by omega)) := Array.getElem?_eq_getElem (by omega)
    obtain ⟨ho, ht, hk⟩ := hf i _ hfi
    have h1 := hg i _ hfi
    have hxi : xs[i]? = some (xs[i]'(by omega)) := List.getElem?_eq_getElem (by omega)
    rw [ho, hk, hxi, ht] at h1
    obtain ⟨a, e0, _, _⟩ := DataW.trod_int he h1
    refine ⟨a, ?_⟩
    have e1 : (Value.agg cs).cells.toList = cs.toList := by simp [Value.cells]
    rw [e1, List.drop_eq_getElem_cons (by simpa using hi)] at e0
    simpa using e0
  refine ⟨cs.toList.map intOf, ?_, by simpa using hsz2⟩
  congr 1
  apply Array.ext (by simp)
  intro i h1 h2
  obtain ⟨a, ha⟩ := key i h1
  simp [ha, intOf]
end

theorem list8 {l : List Int} (h : l.length = 8) : ∃ a0 a1 a2 a3 a4 a5 a6 a7, l = [a0, a1, a2, a3, a4, a5, a6, a7] := by
  match l, h with
  | [a0, a1, a2, a3, a4, a5, a6, a7], _ => exact ⟨a0, a1, a2, a3, a4, a5, a6, a7, rfl⟩
theorem list2 {l : List Int} (h : l.length = 2) : ∃ a0 a1, l = [a0, a1] := by
  match l, h with
  | [a0, a1], _ => exact ⟨a0, a1, rfl⟩

section
variable {H : Type} {enc : TypeId × Value → H} {w : World} {base : Nat} {spare : Nat → Bool} {held : Bool}
set_option maxRecDepth 100000 in
theorem open_prm {r : Reach} {b0 : Nat} {v : Value} {d : DataW H} {p : List MemPlace} (hv : Value.okWide Try.prog w r b0 39 v) (h : DataW.Trod enc Try.prog w base spare held 39 v d p) :
    ∃ q : Prm, v = .agg #[.int .i64 q.lk, .int .i64 q.lv, .int .i64 q.bi, .int .i64 q.th, .int .i64 q.rk, .int .i64 q.rs, .int .i64 q.fl, .int .i64 q.re] := by
  obtain ⟨l, rfl, hl⟩ := open_ints_struct (e := 3) Try.underlying3 Try.underlying39 (by
    intro i f hf
    match i, hf with
    | 0, hf | 1, hf | 2, hf | 3, hf | 4, hf | 5, hf | 6, hf | 7, hf => cases hf; exact ⟨rfl, rfl, by kernel_rfl⟩
    | n + 8, hf => simp at hf) cells23 hv h
  obtain ⟨a0, a1, a2, a3, a4, a5, a6, a7, rfl⟩ := list8 hl
  exact ⟨⟨a0, a1, a2, a3, a4, a5, a6, a7⟩, rfl⟩
set_option maxRecDepth 100000 in
theorem open_st {r : Reach} {b0 : Nat} {v : Value} {d : DataW H} {p : List MemPlace} (hv : Value.okWide Try.prog w r b0 98 v) (h : DataW.Trod enc Try.prog w base spare held 98 v d p) :
    ∃ V R : Int, v = .agg #[.int .i64 V, .int .i64 R] := by
  obtain ⟨l, rfl, hl⟩ := open_ints_struct (e := 3) Try.underlying3 Try.underlying98 (by
    intro i f hf
    match i, hf with
    | 0, hf | 1, hf => cases hf; exact ⟨rfl, rfl, by kernel_rfl⟩
    | n + 2, hf => simp at hf) cells25 hv h
  obtain ⟨a0, a1, rfl⟩ := list2 hl
  exact ⟨a0, a1, rfl⟩

/-- All arguments read as they did, where nothing below the old heap's end has turned. -/
theorem trodAll_below {W W' : World} (hb : Below W.heap.size W W') (ts : List TypeId) (hts : ∀ t ∈ ts, Try.prog.readableRec t = true ∧ t < Try.prog.types.size) :
    ∀ {vs : List Value} {ds : List (DataW H)} {p : List MemPlace}, DataW.TrodAll enc Try.prog W 0 (fun _ => true) true ts vs ds p →
      DataW.TrodAll enc Try.prog W' 0 (fun b => decide (b < W.heap.size)) true ts vs ds p := by
  induction ts with
  | nil =>
    intro vs ds p h
    obtain ⟨rfl, rfl, rfl⟩ := trodAll_nil h
    exact trodAll_mk0
  | cons t ts ih =>
    intro vs ds p h
    obtain ⟨v0, vs0, d0, ds0, p0, q0, rfl, rfl, rfl, h0, r0⟩ := trodAll_cons h
    have lt0 : ∀ x ∈ p0, x.block < W.heap.size := by obtain ⟨m, hm⟩ := h0; exact DataW.trod_lt m _ _ _ hm
    have ht := hts t (by simp)
    exact trodAll_cons_mk (Below.trod laidOut ht.1 ht.2 h0 hb lt0) (ih (fun t' h' => hts t' (by simp [h'])) r0)
end

end Go.Proofs.Ytgbcdebnanejpaa
