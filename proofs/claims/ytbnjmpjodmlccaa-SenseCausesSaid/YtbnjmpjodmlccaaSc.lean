/- Arguments of two ints. Over this seat's program. -/
import Derived.Test.YtbnjmpjodmlccaaSa
namespace Go.Proofs.Ytbnjmpjodmlccaa
set_option linter.unusedVariables false
open Go.RowKit Go.Shelf Go.ChangeShapes Go.WideShapes Go.ChangeAt

theorem list3 {l : List Int} (h : l.length = 3) : ∃ a0 a1 a2, l = [a0, a1, a2] := by
  match l, h with
  | [a0, a1, a2], _ => exact ⟨a0, a1, a2, rfl⟩
section
variable {H : Type} {enc : TypeId × Value → H} {w : World} {base : Nat} {spare : Nat → Bool} {held : Bool}
set_option maxRecDepth 100000 in
theorem open_twoev {r : Reach} {b0 : Nat} {v : Value} {d : DataW H} {p : List MemPlace} (hv : Value.okWide Try.prog w r b0 63 v) (h : DataW.Trod enc Try.prog w base spare held 63 v d p) : ∃ x y : Int, v = .agg #[.int .i64 x, .int .i64 y] := by
  obtain ⟨l, rfl, hl⟩ := open_ints_struct (e := 3) Try.underlying3 Try.underlying63 (by
    intro i f hf
    match i, hf with
    | 0, hf | 1, hf => cases hf; exact ⟨rfl, rfl, by kernel_rfl⟩
    | n + 2, hf => simp at hf) (by kernel_rfl) hv h
  obtain ⟨a0, a1, rfl⟩ := list2 hl
  exact ⟨a0, a1, rfl⟩
set_option maxRecDepth 100000 in
theorem open_tworear {r : Reach} {b0 : Nat} {v : Value} {d : DataW H} {p : List MemPlace} (hv : Value.okWide Try.prog w r b0 43 v) (h : DataW.Trod enc Try.prog w base spare held 43 v d p) : ∃ x y : Int, v = .agg #[.int .i64 x, .int .i64 y] := by
  obtain ⟨l, rfl, hl⟩ := open_ints_struct (e := 3) Try.underlying3 Try.underlying43 (by
    intro i f hf
    match i, hf with
    | 0, hf | 1, hf => cases hf; exact ⟨rfl, rfl, by kernel_rfl⟩
    | n + 2, hf => simp at hf) (by kernel_rfl) hv h
  obtain ⟨a0, a1, rfl⟩ := list2 hl
  exact ⟨a0, a1, rfl⟩
set_option maxRecDepth 100000 in
theorem open_tworwhi {r : Reach} {b0 : Nat} {v : Value} {d : DataW H} {p : List MemPlace} (hv : Value.okWide Try.prog w r b0 45 v) (h : DataW.Trod enc Try.prog w base spare held 45 v d p) : ∃ x y : Int, v = .agg #[.int .i64 x, .int .i64 y] := by
  obtain ⟨l, rfl, hl⟩ := open_ints_struct (e := 3) Try.underlying3 Try.underlying45 (by
    intro i f hf
    match i, hf with
    | 0, hf | 1, hf => cases hf; exact ⟨rfl, rfl, by kernel_rfl⟩
    | n + 2, hf => simp at hf) (by kernel_rfl) hv h
  obtain ⟨a0, a1, rfl⟩ := list2 hl
  exact ⟨a0, a1, rfl⟩
end
end Go.Proofs.Ytbnjmpjodmlccaa
