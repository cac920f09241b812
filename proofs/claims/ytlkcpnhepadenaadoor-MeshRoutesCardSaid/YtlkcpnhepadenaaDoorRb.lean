/- Routes: the small functions of a mesh, and the iterator over a route. Over this seat's program. -/
import Derived.Test.YtlkcpnhepadenaaDoorRa
import Derived.Test.YtlkcpnhepadenaaDoorBb
import Derived.Test.YtlkcpnhepadenaaDoorR
import Derived.OwnWalkIn
import Derived.TacticsInMore
import Derived.LoopNIn
import Derived.LoopIn
namespace Go.Proofs.YtlkcpnhepadenaaDoor
set_option linter.unusedVariables false
open Go.RowKit Go.Shelf
attribute [local go_sem] Oper.semAt_some

theorem lt_of_block {W : World} {b : Nat} {o : Obj} (h : W.heap[b]? = some o) : b < W.heap.size := (Array.getElem?_eq_some_iff.1 h).1
theorem cells1 {W : World} {b : Nat} {v0 : Value} {t : TypeId} (h : W.heap[b]? = some (.cells #[v0] t)) : W.cell? ⟨b, 0, none⟩ = some v0 ∧ W.frozen? ⟨b, 0, none⟩ = false := by simp [World.cell?, World.frozen?, h]

set_option maxHeartbeats 400000 in
theorem exists_any (W H R x X : Int) (h1 : 1 ≤ W ∧ W ≤ 8) (h2 : 1 ≤ H ∧ H ≤ 8) (hX : W * H = X) (hx1 : 1 ≤ X) (hx2 : X ≤ 64) (w : World) :
    Calls Tryd.prog 50 #[.agg #[.int .i64 W, .int .i64 H, .int .i64 R], .int .i64 x] w fun e w' => e = .returned (.bool (inR x 0 (X - 1))) ∧ Below w.heap.size w w' := by
  have HR := Lib.hid (routers_any W H R h1 h2 X hX hx1 hx2)
  clear h1 h2 hX
  go_enter Tryd.func50, Tryd.ntmps50
  go_wp2_with (first | (go_at_call 55; refine (HR.out _).mono ?_; rintro e w1 ⟨rfl, hb1⟩; have HB1 := Lib.hid hb1; clear hb1) | (go_at_call 49; refine (among_any _ _ _ _).mono ?_; rintro e w2 ⟨rfl, rfl⟩))
  go_ret
  exact ⟨rfl, ((Below.refl _ _).alloc (Nat.le_refl _) _).trans (HB1.out.mono (by simp))⟩

set_option maxHeartbeats 1000000 in
theorem toward_any (W a b : Nat) (H R : Int) (h1 : 1 ≤ W) (h2 : W ≤ 8) (ha : a ≤ 64) (hb : b ≤ 64) (w : World) :
    Calls Tryd.prog 81 #[.agg #[.int .i64 (W : Int), .int .i64 H, .int .i64 R], .int .i64 (a : Int), .int .i64 (b : Int)] w fun e w' => e = .returned (.int .i64 ((tw W a b : Nat) : Int)) ∧ Below w.heap.size w w' := by
  have hW0 : ((W : Int) == 0) = false := by simp; omega
  have hr := rem_nat (k := a) (W := W)
  have hq := quo_nat (k := a) (W := W)
  have hr2 := rem_nat (k := b) (W := W)
  have hq2 := quo_nat (k := b) (W := W)
  obtain ⟨m, hm⟩ : ∃ m, m = a % W := ⟨_, rfl⟩
  obtain ⟨d, hd⟩ : ∃ d, d = a / W := ⟨_, rfl⟩
  obtain ⟨m2, hm2⟩ : ∃ m, m = b % W := ⟨_, rfl⟩
  obtain ⟨d2, hd2⟩ : ∃ d, d = b / W := ⟨_, rfl⟩
  unfold tw
  rw [← hm] at hr
  rw [← hd] at hq
  rw [← hm2] at hr2
  rw [← hd2] at hq2
  rw [← hm, ← hd, ← hm2, ← hd2]
  have hdl : d ≤ 64 := by rw [hd]; exact Nat.le_trans (Nat.div_le_self _ _) ha
  have hdl2 : d2 ≤ 64 := by rw [hd2]; exact Nat.le_trans (Nat.div_le_self _ _) hb
  clear hm hd hm2 hd2
  by_cases c1 : m < m2
  · have g1 : ((m : Int) < (m2 : Int)) = True := by simp; omega
    rw [if_pos c1]
    clear c1
    go_enter Tryd.func81, Tryd.ntmps81
    go_wp2_with fail
    go_quiet (fail)
    go_wp2
    go_ret
    exact ⟨rfl, below_drewN ((Below.refl _ _).alloc (Nat.le_refl _) _) _⟩
  have g1 : ((m : Int) < (m2 : Int)) = False := by simp; omega
  rw [if_neg c1]
  by_cases c2 : m2 < m
  · have g2 : ((m2 : Int) < (m : Int)) = True := by simp; omega
    rw [if_pos c2]
    clear c1 c2
    go_enter Tryd.func81, Tryd.ntmps81
    go_wp2_with fail
    go_quiet (fail)
    go_wp2
    go_ret
    exact ⟨rfl, below_drewN ((Below.refl _ _).alloc (Nat.le_refl _) _) _⟩
  have g2 : ((m2 : Int) < (m : Int)) = False := by simp; omega
  rw [if_neg c2]
  by_cases c3 : d < d2
  · have g3 : ((d : Int) < (d2 : Int)) = True := by simp; omega
    rw [if_pos c3]
    clear c1 c2 c3
    go_enter Tryd.func81, Tryd.ntmps81
    go_wp2_with fail
    go_quiet (fail)
    go_wp2
    go_ret
    exact ⟨rfl, below_drewN ((Below.refl _ _).alloc (Nat.le_refl _) _) _⟩
  have g3 : ((d : Int) < (d2 : Int)) = False := by simp; omega
  rw [if_neg c3]
  by_cases c4 : d2 < d
  · have g4 : ((d2 : Int) < (d : Int)) = True := by simp; omega
    rw [if_pos c4]
    clear c1 c2 c3 c4
    go_enter Tryd.func81, Tryd.ntmps81
    go_wp2_with fail
    go_quiet (fail)
    go_wp2
    go_ret
    exact ⟨rfl, below_drewN ((Below.refl _ _).alloc (Nat.le_refl _) _) _⟩
  · have g4 : ((d2 : Int) < (d : Int)) = False := by simp; omega
    rw [if_neg c4]
    clear c1 c2 c3 c4
    go_enter Tryd.func81, Tryd.ntmps81
    go_wp2_with fail
    go_quiet (fail)
    go_wp2
    go_ret
    exact ⟨rfl, below_drewN ((Below.refl _ _).alloc (Nat.le_refl _) _) _⟩

theorem tw_cases {W a b : Nat} (hne : a ≠ b) : (tw W a b = 1 ∧ nx W a b = a + 1) ∨ (tw W a b = 4 ∧ nx W a b = a - 1 ∧ 1 ≤ a) ∨ (tw W a b = 2 ∧ nx W a b = a + W) ∨ (tw W a b = 8 ∧ nx W a b = a - W ∧ W ≤ a) := by
  unfold tw nx
  by_cases c1 : a % W < b % W
  · simp [c1]
  by_cases c2 : b % W < a % W
  · simp only [if_neg c1, if_pos c2]
    refine .inr (.inl ⟨trivial, trivial, ?_⟩)
    have := Nat.mod_le a W; omega
  by_cases c3 : a / W < b / W
  · simp only [if_neg c1, if_neg c2, if_pos c3]; exact .inr (.inr (.inl ⟨trivial, trivial⟩))
  by_cases c4 : b / W < a / W
  · simp only [if_neg c1, if_neg c2, if_neg c3, if_pos c4]
    refine .inr (.inr (.inr ⟨trivial, trivial, ?_⟩))
    have h1 := split_at W a
    have h2 : W * 1 ≤ W * (a / W) := Nat.mul_le_mul_left _ (Nat.lt_of_le_of_lt (Nat.zero_le _) c4)
    omega
  · exact absurd (same_of (W := W) (by omega) (Nat.le_antisymm (Nat.not_lt.1 c4) (Nat.not_lt.1 c3))) hne

set_option maxHeartbeats 1000000 in
theorem behind_any (W a b : Nat) (H R : Int) (h1 : 1 ≤ W) (h2 : W ≤ 8) (hH : 1 ≤ H ∧ H ≤ 8) (ha : a ≤ 64) (hne : a ≠ b) (w : World) :
    Calls Tryd.prog 82 #[.agg #[.int .i64 (W : Int), .int .i64 H, .int .i64 R], .int .i64 (a : Int), .int .i64 ((tw W a b : Nat) : Int)] w fun e w' => (∃ z, e = .returned (.tuple #[.int .i64 ((nx W a b : Nat) : Int), .bool z])) ∧ Below w.heap.size w w' := by
  have hW0 : ((W : Int) == 0) = false := by simp; omega
  have hr := rem_nat (k := a) (W := W)
  have hq := quo_nat (k := a) (W := W)
  obtain ⟨m, hm⟩ : ∃ m, m = a % W := ⟨_, rfl⟩
  obtain ⟨d, hd⟩ : ∃ d, d = a / W := ⟨_, rfl⟩
  rw [← hm] at hr
  rw [← hd] at hq
  have hdl : d ≤ 64 := by rw [hd]; exact Nat.le_trans (Nat.div_le_self _ _) ha
  have hml : m ≤ 64 := by rw [hm]; exact Nat.le_trans (Nat.mod_le _ _) ha
  rcases tw_cases (W := W) hne with ⟨e1, e2⟩ | ⟨e1, e2, e3⟩ | ⟨e1, e2⟩ | ⟨e1, e2, e3⟩
  · rw [e1, e2]
    have e : ((a + 1 : Nat) : Int) = (a : Int) + 1 := by omega
    rw [e]
    clear hm hd e1 e2 e
    go_enter Tryd.func82, Tryd.ntmps82
    go_wp2_with fail
    go_quiet (fail)
    go_wp2_with fail
    go_quiet (fail)
    go_wp2_with fail
    exact bodyPost_ret (v := .tuple #[.int .i64 ((a : Int) + 1), .bool (decide ((m : Int) + 1 < (W : Int)))]) (by simp [results, Tryd.results82, go_sem]) rfl ⟨⟨_, rfl⟩, below_drewN (below_drewN ((Below.refl _ _).alloc (Nat.le_refl _) _) _) _⟩
  · rw [e1, e2]
    have e : ((a - 1 : Nat) : Int) = (a : Int) - 1 := by omega
    rw [e]
    clear hm hd e1 e2 e
    go_enter Tryd.func82, Tryd.ntmps82
    go_wp2_with fail
    go_quiet (fail)
    go_wp2_with fail
    exact bodyPost_ret (v := .tuple #[.int .i64 ((a : Int) - 1), .bool (decide ((0 : Int) < (m : Int)))]) (by simp [results, Tryd.results82, go_sem]) rfl ⟨⟨_, rfl⟩, below_drewN ((Below.refl _ _).alloc (Nat.le_refl _) _) _⟩
  · rw [e1, e2]
    have e : ((a + W : Nat) : Int) = (a : Int) + W := by omega
    rw [e]
    clear hm hd e1 e2 e
    go_enter Tryd.func82, Tryd.ntmps82
    go_wp2_with fail
    go_quiet (fail)
    go_wp2_with fail
    go_quiet (fail)
    go_wp2_with fail
    exact bodyPost_ret (v := .tuple #[.int .i64 ((a : Int) + W), .bool (decide ((d : Int) + 1 < H))]) (by simp [results, Tryd.results82, go_sem]) rfl ⟨⟨_, rfl⟩, below_drewN (below_drewN ((Below.refl _ _).alloc (Nat.le_refl _) _) _) _⟩
  · rw [e1, e2]
    have e : ((a - W : Nat) : Int) = (a : Int) - W := by omega
    rw [e]
    clear hm hd e1 e2 e
    go_enter Tryd.func82, Tryd.ntmps82
    go_wp2_with fail
    go_quiet (fail)
    go_wp2_with fail
    exact bodyPost_ret (v := .tuple #[.int .i64 ((a : Int) - W), .bool (decide ((0 : Int) < (d : Int)))]) (by simp [results, Tryd.results82, go_sem]) rfl ⟨⟨_, rfl⟩, below_drewN ((Below.refl _ _).alloc (Nat.le_refl _) _) _⟩
end Go.Proofs.YtlkcpnhepadenaaDoor
