/- Recorders that no function made: nil, or an empty one. Over this seat's program. -/
import Derived.Test.YtbnjmpjodmlccaaSa
namespace Go.Proofs.Ytbnjmpjodmlccaa
set_option linter.unusedVariables false
open Go.RowKit Go.Shelf

theorem run_equalIn_nil_ptr {P : Program} (w : World) (d : Nat) (t : TypeId) (a : Addr) (h : P.underlying t = some (.pointer (P.pointee t))) :
    (Op.equalIn (d + 1) t (.pointer none) (.pointer (some a))).run P w = .ok false w := by
  simp [Op.equalIn, run_underlying h]
theorem run_equal_nil_ptr {P : Program} (w : World) (t : TypeId) (a : Addr) (h : P.underlying t = some (.pointer (P.pointee t))) :
    (Op.equal t (.pointer none) (.pointer (some a))).run P w = .ok false w := run_equalIn_nil_ptr w 9999 t a h
theorem run_eql_nil_ptr {P : Program} (w : World) (t : TypeId) (a : Addr) (h : P.underlying t = some (.pointer (P.pointee t))) :
    (binOp .eql t (.pointer none) (.pointer (some a))).run P w = .ok (.bool false) w := by
  simp only [binOp]
  simp [run_equal_nil_ptr w t a h]
attribute [local go_sem high] run_eql_nil_ptr
/-- A recorder that was not made by its package. -/
def Unmade (W : World) (r : Value) : Prop := r = .pointer none ∨ ∃ b : Nat, r = .pointer (some ⟨b, 0, none⟩) ∧ W.heap[b]? = some (.cells #[.pointer none, .slice none 0 0] 70)
theorem Unmade.below {W w1 : World} {r : Value} (h : Unmade W r) (hb : Below W.heap.size W w1) : Unmade w1 r := by
  rcases h with h | ⟨b, h1, h2⟩
  · exact .inl h
  · exact .inr ⟨b, h1, (hb.block b (lt_of_block h2)).trans h2⟩
set_option maxRecDepth 100000 in
set_option maxHeartbeats 400000 in
theorem made_un (r : Value) (w : World) (h : Unmade w r) :
    Calls Try.prog 77 #[r] w fun e w' => e = .returned (.bool false) ∧ w = w' := by
  rcases h with rfl | ⟨b, rfl, hb⟩
  · go_enter Try.func77, Try.ntmps77
    go_wp2
    go_ret
    exact ⟨rfl, rfl⟩
  · obtain ⟨c0, c1, _, _⟩ := cells2 hb
    clear hb
    go_enter Try.func77, Try.ntmps77
    go_wp2
    go_ret
    exact ⟨rfl, rfl⟩
set_option maxRecDepth 100000 in
set_option maxHeartbeats 400000 in
theorem add_un (r : Value) (x y : Int) (w : World) (h : Unmade w r) :
    Calls Try.prog 37 #[r, .agg #[.int .i64 x, .int .i64 y]] w fun e w' => e = .returned (.int .i64 1) ∧ Below w.heap.size w w' := by
  have HU := Lib.hid h
  clear h
  go_enter Try.func37, Try.ntmps37
  go_wp2_with (go_at_call 77; refine (made_un _ _ (HU.out.below ((Below.refl _ _).alloc (Nat.le_refl _) _))).mono ?_; rintro e w' ⟨rfl, rfl⟩)
  go_ret
  exact ⟨rfl, (Below.refl _ _).alloc (Nat.le_refl _) _⟩
theorem count_un (r : Value) (w : World) (h : Unmade w r) :
    Calls Try.prog 38 #[r] w fun e w' => e = .returned (.int .i64 0) ∧ w = w' := by
  have HU := Lib.hid h
  clear h
  go_enter Try.func38, Try.ntmps38
  go_wp2_with (go_at_call 77; refine (made_un _ _ HU.out).mono ?_; rintro e w' ⟨rfl, rfl⟩)
  go_ret
  exact ⟨rfl, rfl⟩
theorem bytes_un (r : Value) (w : World) (h : Unmade w r) :
    Calls Try.prog 39 #[r] w fun e w' => e = .returned (.tuple #[.slice none 0 0, .int .i64 1]) ∧ w = w' := by
  have HU := Lib.hid h
  clear h
  go_enter Try.func39, Try.ntmps39
  go_wp2_with (go_at_call 77; refine (made_un _ _ HU.out).mono ?_; rintro e w' ⟨rfl, rfl⟩)
  exact bodyPost_ret (v := .tuple #[.slice none 0 0, .int .i64 1]) (by simp [results, Try.results39, go_sem]) rfl ⟨rfl, rfl⟩
end Go.Proofs.Ytbnjmpjodmlccaa
