/- Chips: the small functions of a mesh and a chip. Over this seat's program. -/
import Derived.Test.YtdfkbbcnioccfaaGreatRows
import Derived.WalkKit
import Derived.RangeFuncRecord
import Derived.WalkSpells
import Derived.Laws.EntriesVeiled
import Derived.WalkLawsBesides
import Derived.Deep.QuietTactic
import Derived.BigQuiet
import Derived.WalkSmall
import Derived.Lib.Hide
import Derived.OwnWalkIn
import Derived.Deep.Cut
namespace Go.Proofs.YtdfkbbcnioccfaaGreat
set_option linter.unusedVariables false
open Go.RowKit

def inR (x a b : Int) : Bool := decide (a ≤ x) && decide (x ≤ b)
theorem inR_true {x a b : Int} : inR x a b = true ↔ a ≤ x ∧ x ≤ b := by simp [inR]
theorem inR_false {x a b : Int} : inR x a b = false ↔ x < a ∨ b < x := by
  rw [← Bool.not_eq_true, inR_true]; omega
/-- The error of a mesh. -/
def chkM (W H R : Int) : Int := if inR W 1 8 && inR H 1 8 && inR R 1 64 then 0 else 3
theorem chkM_ok {W H R : Int} (h : chkM W H R = 0) : (1 ≤ W ∧ W ≤ 8) ∧ (1 ≤ H ∧ H ≤ 8) ∧ 1 ≤ R ∧ R ≤ 64 := by
  unfold chkM at h
  by_cases hc : (inR W 1 8 && inR H 1 8 && inR R 1 64) = true
  · simp only [Bool.and_eq_true, inR_true] at hc; exact ⟨hc.1.1, hc.1.2, hc.2⟩
  · rw [if_neg hc] at h; cases h
theorem chkM_ne {W H R : Int} (h : chkM W H R ≠ 0) : chkM W H R = 3 := by
  unfold chkM at *; split at h <;> simp_all
theorem ret_int {k : IntKind} {a b : Int} (h : a = b) : Ending.returned (.int k a) = .returned (.int k b) := by rw [h]
theorem bcell {W w1 : World} (hb : Below W.heap.size W w1) : (∀ b o, b < W.heap.size → w1.cell? ⟨b, o, none⟩ = W.cell? ⟨b, o, none⟩) ∧ (∀ b o, b < W.heap.size → w1.frozen? ⟨b, o, none⟩ = W.frozen? ⟨b, o, none⟩) :=
  ⟨fun b o h => hb.cell (p := ⟨b, o, none⟩) h, fun b o h => hb.frozen (p := ⟨b, o, none⟩) h⟩
theorem alloc_new_at (W : World) (o : Obj) (k : Nat) (h : k = W.heap.size) : (W.alloc o).heap[k]? = some o := by subst h; exact World.alloc_heap_new W o
theorem lt_of_block {W : World} {b : Nat} {o : Obj} (h : W.heap[b]? = some o) : b < W.heap.size := (Array.getElem?_eq_some_iff.1 h).1
theorem cells8 {W : World} {b : Nat} {v0 v1 v2 v3 v4 v5 v6 v7 : Value} {t : TypeId} {m : Nat × Nat} (h : W.heap[b]? = some (.cells #[v0, v1, v2, v3, v4, v5, v6, v7] t m)) :
    W.cell? ⟨b, 0, none⟩ = some v0 ∧ W.cell? ⟨b, 1, none⟩ = some v1 ∧ W.cell? ⟨b, 2, none⟩ = some v2 ∧ W.cell? ⟨b, 3, none⟩ = some v3 ∧ W.cell? ⟨b, 4, none⟩ = some v4 ∧ W.cell? ⟨b, 5, none⟩ = some v5 ∧ W.cell? ⟨b, 6, none⟩ = some v6 ∧ W.cell? ⟨b, 7, none⟩ = some v7 := by simp [World.cell?, h]
theorem mul_le64 {W H : Int} (h1 : 1 ≤ W ∧ W ≤ 8) (h2 : 1 ≤ H ∧ H ≤ 8) : 1 ≤ W * H ∧ W * H ≤ 64 := by
  have a1 : 1 * 1 ≤ W * H := Int.mul_le_mul h1.1 h2.1 (by omega) (by omega)
  have a2 : W * H ≤ 8 * 8 := Int.mul_le_mul h1.2 h2.2 (by omega) (by omega)
  omega

set_option maxHeartbeats 400000 in
theorem mamong_any (x a b : Int) (w : World) :
    Calls Tryz.prog 85 #[.int .i64 x, .int .i64 a, .int .i64 b] w fun e w' => e = .returned (.bool (inR x a b)) ∧ w = w' := by
  by_cases h1 : a ≤ x
  · go_enter Tryz.func85, Tryz.ntmps85
    go_wp2
    go_ret
    exact ⟨by simp [inR, *], rfl⟩
  · go_enter Tryz.func85, Tryz.ntmps85
    go_wp2
    go_ret
    exact ⟨by simp [inR]; omega, rfl⟩
set_option maxHeartbeats 400000 in
theorem among_any (x a b : Int) (w : World) :
    Calls Tryz.prog 43 #[.int .i64 x, .int .i64 a, .int .i64 b] w fun e w' => e = .returned (.bool (inR x a b)) ∧ w = w' := by
  by_cases h1 : a ≤ x
  · go_enter Tryz.func43, Tryz.ntmps43
    go_wp2
    go_ret
    exact ⟨by simp [inR, *], rfl⟩
  · go_enter Tryz.func43, Tryz.ntmps43
    go_wp2
    go_ret
    exact ⟨by simp [inR]; omega, rfl⟩
set_option maxHeartbeats 400000 in
theorem within_any (x a b : Int) (w : World) :
    Calls Tryz.prog 47 #[.int .i64 x, .int .i64 a, .int .i64 b] w fun e w' => e = .returned (.bool (inR x a b)) ∧ w = w' := by
  by_cases h1 : a ≤ x
  · go_enter Tryz.func47, Tryz.ntmps47
    go_wp2
    go_ret
    exact ⟨by simp [inR, *], rfl⟩
  · go_enter Tryz.func47, Tryz.ntmps47
    go_wp2
    go_ret
    exact ⟨by simp [inR]; omega, rfl⟩

set_option maxHeartbeats 400000 in
theorem check_any (W H R : Int) (w : World) :
    Calls Tryz.prog 42 #[.agg #[.int .i64 W, .int .i64 H, .int .i64 R]] w fun e w' => e = .returned (.int .i64 (chkM W H R)) ∧ Below w.heap.size w w' := by
  obtain ⟨X, hX⟩ : ∃ X : Int, X = chkM W H R := ⟨_, rfl⟩
  rw [← hX]
  have HX := Lib.hid hX
  clear hX
  go_enter Tryz.func42, Tryz.ntmps42
  go_wp2_with (go_at_call 85; refine (mamong_any _ _ _ _).mono ?_; rintro e w' ⟨rfl, rfl⟩)
  all_goals go_ret
  all_goals refine ⟨ret_int ?_, ((Below.refl _ _).alloc (Nat.le_refl _) _)⟩
  all_goals rw [HX.out]
  all_goals clear HX
  all_goals simp_all [chkM]

set_option maxHeartbeats 400000 in
theorem rcheck_any (W H R : Int) (w : World) :
    Calls Tryz.prog 46 #[.agg #[.int .i64 W, .int .i64 H, .int .i64 R]] w fun e w' => e = .returned (.int .i64 (chkM W H R)) ∧ Below w.heap.size w w' := by
  obtain ⟨X, hX⟩ : ∃ X : Int, X = chkM W H R := ⟨_, rfl⟩
  rw [← hX]
  have HX := Lib.hid hX
  clear hX
  go_enter Tryz.func46, Tryz.ntmps46
  go_wp2
  all_goals go_ret
  all_goals refine ⟨ret_int ?_, ((Below.refl _ _).alloc (Nat.le_refl _) _)⟩
  all_goals rw [HX.out]
  all_goals clear HX
  all_goals (unfold chkM inR; simp only [Bool.and_eq_true, decide_eq_true_eq]; split <;> first | rfl | omega)

/-- A chip, as a value. -/
def chipV (W H R N S E B : Int) (D : Value) : Value := .agg #[.int .i64 W, .int .i64 H, .int .i64 R, .int .i64 N, .int .i64 S, .int .i64 E, .int .i64 B, D]
set_option maxHeartbeats 400000 in
theorem size_any (W H R N S E B : Int) (D : Value) (h1 : 1 ≤ W ∧ W ≤ 8) (h2 : 1 ≤ H ∧ H ≤ 8) (X : Int) (hX : W * H = X) (hx1 : 1 ≤ X) (hx2 : X ≤ 64) (w : World) :
    Calls Tryz.prog 86 #[chipV W H R N S E B D] w fun e w' => e = .returned (.int .i64 X) ∧ Below w.heap.size w w' := by
  unfold chipV
  go_enter Tryz.func86, Tryz.ntmps86
  go_wp2
  go_ret
  exact ⟨rfl, ((Below.refl _ _).alloc (Nat.le_refl _) _)⟩
set_option maxHeartbeats 400000 in
theorem exists_any (W H R N S E B x : Int) (D : Value) (h1 : 1 ≤ W ∧ W ≤ 8) (h2 : 1 ≤ H ∧ H ≤ 8) (X : Int) (hX : W * H = X) (hx1 : 1 ≤ X) (hx2 : X ≤ 64) (w : World) :
    Calls Tryz.prog 44 #[chipV W H R N S E B D, .int .i64 x] w fun e w' => e = .returned (.bool (inR x 0 (X - 1))) ∧ Below w.heap.size w w' := by
  have HS := Lib.hid (size_any W H R N S E B D h1 h2 X hX hx1 hx2)
  clear h1 h2 hX
  unfold chipV at HS ⊢
  go_enter Tryz.func44, Tryz.ntmps44
  go_wp2_with (first | (go_at_call 86; refine (HS.out _).mono ?_; rintro e w1 ⟨rfl, hb1⟩; have HB1 := Lib.hid hb1; clear hb1) | (go_at_call 43; refine (among_any _ _ _ _).mono ?_; rintro e w2 ⟨rfl, rfl⟩))
  go_ret
  exact ⟨rfl, ((Below.refl _ _).alloc (Nat.le_refl _) _).trans (HB1.out.mono (by simp))⟩
end Go.Proofs.YtdfkbbcnioccfaaGreat
