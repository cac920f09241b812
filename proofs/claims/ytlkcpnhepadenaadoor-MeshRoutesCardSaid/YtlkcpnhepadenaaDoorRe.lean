/- Routes: the specification's small functions of a mesh. Over this seat's program. -/
import Derived.Test.YtlkcpnhepadenaaDoorRf
import Derived.Test.YtlkcpnhepadenaaDoorDy
namespace Go.Proofs.YtlkcpnhepadenaaDoor
set_option linter.unusedVariables false
open Go.RowKit

set_option maxHeartbeats 1000000 in
theorem is_any (W H R x X : Int) (h1 : 1 ≤ W ∧ W ≤ 8) (h2 : 1 ≤ H ∧ H ≤ 8) (hX : W * H = X) (hx1 : 1 ≤ X) (hx2 : X ≤ 64) (w : World) :
    Calls Tryd.prog 56 #[.agg #[.int .i64 W, .int .i64 H, .int .i64 R], .int .i64 x] w fun e w' => e = .returned (.bool (inR x 0 (X - 1))) ∧ Below w.heap.size w w' := by
  by_cases c1 : 0 ≤ x
  · by_cases c2 : x < X
    · have g1 : (x < X) = True := by simp [c2]
      have e : inR x 0 (X - 1) = true := by rw [inR_true]; omega
      rw [e]; clear e
      go_enter Tryd.func56, Tryd.ntmps56
      go_wp2
      go_ret
      exact ⟨rfl, (Below.refl _ _).alloc (Nat.le_refl _) _⟩
    · have g1 : (x < X) = False := by simp; omega
      have e : inR x 0 (X - 1) = false := by rw [inR_false]; omega
      rw [e]; clear e
      go_enter Tryd.func56, Tryd.ntmps56
      go_wp2
      go_ret
      exact ⟨rfl, (Below.refl _ _).alloc (Nat.le_refl _) _⟩
  · have e : inR x 0 (X - 1) = false := by rw [inR_false]; omega
    rw [e]; clear e
    go_enter Tryd.func56, Tryd.ntmps56
    go_wp2
    go_ret
    exact ⟨rfl, (Below.refl _ _).alloc (Nat.le_refl _) _⟩

set_option maxHeartbeats 1000000 in
theorem two_any (W H R a b : Int) (w : World) :
    Calls Tryd.prog 52 #[.agg #[.int .i64 W, .int .i64 H, .int .i64 R], .int .i64 a, .int .i64 b] w fun e w' => e = .returned (.int .i64 (rerr W H R a b)) ∧ Below w.heap.size w w' := by
  have hck := rcheck_any W H R
  rcases rerr_cases (W := W) (H := H) (R := R) (a := a) (b := b) with ⟨hc, h2⟩ | ⟨hc, h2, h3⟩ | ⟨hc, h2, h3, h4⟩
  · rw [hc] at hck
    rw [h2]
    have HCK := Lib.hid hck
    clear hck hc h2
    go_enter Tryd.func52, Tryd.ntmps52
    go_wp2_with (go_at_call 18; refine (HCK.out _).mono ?_; rintro e w1 ⟨rfl, hb1⟩)
    go_ret
    exact ⟨rfl, ((Below.refl _ _).alloc (Nat.le_refl _) _).trans (hb1.mono (by simp))⟩
  all_goals rw [hc] at hck
  all_goals rw [h2]
  all_goals obtain ⟨k1, k2, _⟩ := chkM_ok hc
  all_goals obtain ⟨m1, m2⟩ := mul_le64 k1 k2
  all_goals have hea := is_any W H R a _ k1 k2 rfl m1 m2
  all_goals have heb := is_any W H R b _ k1 k2 rfl m1 m2
  all_goals have HCK := Lib.hid hck
  · rcases h3 with h3 | ⟨h3, h4⟩
    · rw [h3] at hea
      have HEA := Lib.hid hea
      clear hck hc h2 hea heb h3 m1 m2 k1 k2
      go_enter Tryd.func52, Tryd.ntmps52
      go_wp2_with (first | (go_at_call 18; refine (HCK.out _).mono ?_; rintro e w1 ⟨rfl, hb1⟩; have f1 : w1.heap[w.heap.size]? = _ := (hb1.block _ (by simp)).trans (alloc_new_at _ _ _ rfl); obtain ⟨_, _, _⟩ := cells3 f1; have z1 := lt_of_block f1; have B1 := Lib.hid (((Below.refl _ _).alloc (Nat.le_refl _) _).trans (hb1.mono (by simp)) : Below w.heap.size w w1); clear hb1 f1) | (go_at_call 56; refine (HEA.out _).mono ?_; rintro e w2 ⟨rfl, hb2⟩))
      go_ret
      exact ⟨rfl, B1.out.trans (hb2.mono (by omega))⟩
    · rw [h3] at hea
      rw [h4] at heb
      have HEA := Lib.hid hea
      have HEB := Lib.hid heb
      clear hck hc h2 hea heb h3 h4 m1 m2 k1 k2
      go_enter Tryd.func52, Tryd.ntmps52
      go_wp2_with (first | (go_at_call 18; refine (HCK.out _).mono ?_; rintro e w1 ⟨rfl, hb1⟩; have f1 : w1.heap[w.heap.size]? = _ := (hb1.block _ (by simp)).trans (alloc_new_at _ _ _ rfl); obtain ⟨_, _, _⟩ := cells3 f1; have z1 := lt_of_block f1; have F1 := Lib.hid f1; have B1 := Lib.hid (((Below.refl _ _).alloc (Nat.le_refl _) _).trans (hb1.mono (by simp)) : Below w.heap.size w w1); clear hb1 f1))
      go_wp2_with fail
      go_at_call 56
      refine (HEA.out _).mono ?_
      rintro e w2 ⟨rfl, hb2⟩
      have f2 := (hb2.block _ z1).trans F1.out
      obtain ⟨_, _, _⟩ := cells3 f2
      have z2 := lt_of_block f2
      have B2 := Lib.hid (B1.out.trans (hb2.mono (by omega)))
      clear f2 hb2
      go_wp2_with (go_at_call 56; refine (HEB.out _).mono ?_; rintro e w3 ⟨rfl, hb3⟩)
      go_ret
      exact ⟨rfl, B2.out.trans (hb3.mono (by omega))⟩
  · rw [h3] at hea
    rw [h4] at heb
    have HEA := Lib.hid hea
    have HEB := Lib.hid heb
    clear hck hc h2 hea heb h3 h4 m1 m2 k1 k2
    go_enter Tryd.func52, Tryd.ntmps52
    go_wp2_with (first | (go_at_call 18; refine (HCK.out _).mono ?_; rintro e w1 ⟨rfl, hb1⟩; have f1 : w1.heap[w.heap.size]? = _ := (hb1.block _ (by simp)).trans (alloc_new_at _ _ _ rfl); obtain ⟨_, _, _⟩ := cells3 f1; have z1 := lt_of_block f1; have F1 := Lib.hid f1; have B1 := Lib.hid (((Below.refl _ _).alloc (Nat.le_refl _) _).trans (hb1.mono (by simp)) : Below w.heap.size w w1); clear hb1 f1))
    go_wp2_with fail
    go_at_call 56
    refine (HEA.out _).mono ?_
    rintro e w2 ⟨rfl, hb2⟩
    have f2 := (hb2.block _ z1).trans F1.out
    obtain ⟨_, _, _⟩ := cells3 f2
    have z2 := lt_of_block f2
    have B2 := Lib.hid (B1.out.trans (hb2.mono (by omega)))
    clear f2 hb2
    go_wp2_with (go_at_call 56; refine (HEB.out _).mono ?_; rintro e w3 ⟨rfl, hb3⟩)
    go_ret
    exact ⟨rfl, B2.out.trans (hb3.mono (by omega))⟩

set_option maxHeartbeats 1000000 in
theorem towards_any (W a b : Nat) (H R : Int) (h1 : 1 ≤ W) (h2 : W ≤ 8) (ha : a ≤ 64) (hb : b ≤ 64) (w : World) :
    Calls Tryd.prog 54 #[.agg #[.int .i64 (W : Int), .int .i64 H, .int .i64 R], .int .i64 (a : Int), .int .i64 (b : Int)] w fun e w' => e = .returned (.int .i64 ((tw W a b : Nat) : Int)) ∧ Below w.heap.size w w' := by
  have hW0 : ((W : Int) == 0) = false := by simp; omega
  have hr := rem_nat (k := a) (W := W)
  have hq := quo_nat (k := a) (W := W)
  have hr2 := rem_nat (k := b) (W := W)
  have hq2 := quo_nat (k := b) (W := W)
  obtain ⟨m, hm⟩ : ∃ m, m = a % W := ⟨_, rfl⟩
  obtain ⟨d, hd⟩ : ∃ d, d = a / W := ⟨_, rfl⟩
  obtain ⟨m2, hm2⟩ : ∃ m, m = b % W := ⟨_, rfl⟩
  obtain ⟨d2, hd2⟩ : ∃ d, d = b / W := ⟨_, rfl⟩
  unfold tw
  rw [← hm] at hr
  rw [← hd] at hq
  rw [← hm2] at hr2
  rw [← hd2] at hq2
  rw [← hm, ← hd, ← hm2, ← hd2]
  have hdl : d ≤ 64 := by rw [hd]; exact Nat.le_trans (Nat.div_le_self _ _) ha
  have hdl2 : d2 ≤ 64 := by rw [hd2]; exact Nat.le_trans (Nat.div_le_self _ _) hb
  clear hm hd hm2 hd2
  by_cases c1 : m < m2
  · have g1 : ((m : Int) < (m2 : Int)) = True := by simp; omega
    rw [if_pos c1]
    clear c1
    go_enter Tryd.func54, Tryd.ntmps54
    go_wp2_with fail
    go_quiet (fail)
    go_wp2
    go_ret
    exact ⟨rfl, below_drewN ((Below.refl _ _).alloc (Nat.le_refl _) _) _⟩
  have g1 : ((m : Int) < (m2 : Int)) = False := by simp; omega
  rw [if_neg c1]
  by_cases c2 : m2 < m
  · have g2 : ((m2 : Int) < (m : Int)) = True := by simp; omega
    rw [if_pos c2]
    clear c1 c2
    go_enter Tryd.func54, Tryd.ntmps54
    go_wp2_with fail
    go_quiet (fail)
    go_wp2
    go_ret
    exact ⟨rfl, below_drewN ((Below.refl _ _).alloc (Nat.le_refl _) _) _⟩
  have g2 : ((m2 : Int) < (m : Int)) = False := by simp; omega
  rw [if_neg c2]
  by_cases c3 : d < d2
  · have g3 : ((d : Int) < (d2 : Int)) = True := by simp; omega
    rw [if_pos c3]
    clear c1 c2 c3
    go_enter Tryd.func54, Tryd.ntmps54
    go_wp2_with fail
    go_quiet (fail)
    go_wp2
    go_ret
    exact ⟨rfl, below_drewN ((Below.refl _ _).alloc (Nat.le_refl _) _) _⟩
  have g3 : ((d : Int) < (d2 : Int)) = False := by simp; omega
  rw [if_neg c3]
  by_cases c4 : d2 < d
  · have g4 : ((d2 : Int) < (d : Int)) = True := by simp; omega
    rw [if_pos c4]
    clear c1 c2 c3 c4
    go_enter Tryd.func54, Tryd.ntmps54
    go_wp2_with fail
    go_quiet (fail)
    go_wp2
    go_ret
    exact ⟨rfl, below_drewN ((Below.refl _ _).alloc (Nat.le_refl _) _) _⟩
  · have g4 : ((d2 : Int) < (d : Int)) = False := by simp; omega
    rw [if_neg c4]
    clear c1 c2 c3 c4
    go_enter Tryd.func54, Tryd.ntmps54
    go_wp2_with fail
    go_quiet (fail)
    go_wp2
    go_ret
    exact ⟨rfl, below_drewN ((Below.refl _ _).alloc (Nat.le_refl _) _) _⟩

theorem over_facts {W H a b : Nat} (hW : 0 < W) (ha : a < W * H) (hb : b < W * H) :
    (tw W a b = 1 → a % W + 1 < W) ∧ (tw W a b = 2 → a / W + 1 < H) ∧ (tw W a b = 4 → 0 < a % W) ∧ (tw W a b = 8 → 0 < a / W) := by
  have h2 := (in_iff hW).1 ha
  have h3 := (in_iff hW).1 hb
  have h4 := Nat.mod_lt b hW
  unfold tw
  generalize a / W = A at *; generalize b / W = B at *; generalize a % W = p at *; generalize b % W = q at *
  split
  · simp; omega
  split
  · simp; omega
  split
  · simp; omega
  split
  · simp; omega
  · simp

set_option maxHeartbeats 1000000 in
theorem over_any (W a b Hn : Nat) (R : Int) (h1 : 1 ≤ W) (h2 : W ≤ 8) (hH : 1 ≤ Hn) (hH2 : Hn ≤ 8) (ha : a < W * Hn) (hb : b < W * Hn) (hne : a ≠ b) (w : World) :
    Calls Tryd.prog 53 #[.agg #[.int .i64 (W : Int), .int .i64 (Hn : Int), .int .i64 R], .int .i64 (a : Int), .int .i64 ((tw W a b : Nat) : Int)] w fun e w' => e = .returned (.int .i64 ((nx W a b : Nat) : Int)) ∧ Below w.heap.size w w' := by
  have h64 : W * Hn ≤ 64 := Nat.mul_le_mul h2 hH2
  have hW0 : ((W : Int) == 0) = false := by simp; omega
  have hr := rem_nat (k := a) (W := W)
  have hq := quo_nat (k := a) (W := W)
  obtain ⟨f1, f2, f4, f8⟩ := over_facts (H := Hn) h1 ha hb
  obtain ⟨m, hm⟩ : ∃ m, m = a % W := ⟨_, rfl⟩
  obtain ⟨d, hd⟩ : ∃ d, d = a / W := ⟨_, rfl⟩
  have hdl : d ≤ 64 := by rw [hd]; exact Nat.le_trans (Nat.div_le_self _ _) (by omega)
  have hml : m ≤ 64 := by rw [hm]; exact Nat.le_trans (Nat.mod_le _ _) (by omega)
  rw [← hm] at hr f1 f4
  rw [← hd] at hq f2 f8
  have ha64 : a ≤ 64 := by omega
  clear hm hd
  rcases tw_cases (W := W) hne with ⟨e1, e2⟩ | ⟨e1, e2, e3⟩ | ⟨e1, e2⟩ | ⟨e1, e2, e3⟩
  · have g := f1 e1
    have g1 : ((m : Int) + 1 < (W : Int)) = True := by simp; omega
    rw [e1, e2]
    have e : ((a + 1 : Nat) : Int) = (a : Int) + 1 := by omega
    rw [e]
    clear e1 e2 e f1 f2 f4 f8 hne ha hb
    go_enter Tryd.func53, Tryd.ntmps53
    go_wp2_with fail
    go_quiet (fail)
    go_wp2
    go_ret
    exact ⟨rfl, below_drewN ((Below.refl _ _).alloc (Nat.le_refl _) _) _⟩
  · have g := f4 e1
    have g1 : ((0 : Int) < (m : Int)) = True := by simp; omega
    rw [e1, e2]
    have e : ((a - 1 : Nat) : Int) = (a : Int) - 1 := by omega
    rw [e]
    clear e1 e2 e f1 f2 f4 f8 hne ha hb
    go_enter Tryd.func53, Tryd.ntmps53
    go_wp2_with fail
    go_quiet (fail)
    go_wp2
    go_ret
    exact ⟨rfl, below_drewN ((Below.refl _ _).alloc (Nat.le_refl _) _) _⟩
  · have g := f2 e1
    have g1 : ((d : Int) + 1 < (Hn : Int)) = True := by simp; omega
    rw [e1, e2]
    have e : ((a + W : Nat) : Int) = (a : Int) + W := by omega
    rw [e]
    clear e1 e2 e f1 f2 f4 f8 hne ha hb
    go_enter Tryd.func53, Tryd.ntmps53
    go_wp2_with fail
    go_quiet (fail)
    go_wp2
    go_ret
    exact ⟨rfl, below_drewN ((Below.refl _ _).alloc (Nat.le_refl _) _) _⟩
  · have g := f8 e1
    have g1 : ((0 : Int) < (d : Int)) = True := by simp; omega
    rw [e1, e2]
    have e : ((a - W : Nat) : Int) = (a : Int) - W := by omega
    rw [e]
    clear e1 e2 e f1 f2 f4 f8 hne ha hb
    go_enter Tryd.func53, Tryd.ntmps53
    go_wp2_with fail
    go_quiet (fail)
    go_wp2
    go_ret
    exact ⟨rfl, below_drewN ((Below.refl _ _).alloc (Nat.le_refl _) _) _⟩
end Go.Proofs.YtlkcpnhepadenaaDoor
