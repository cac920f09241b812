/- Barriers: to which router one reports. Over this seat's program. -/
import Derived.Test.YtlkcpnhepadenaaDoorBa
import Derived.Deep.RegionHeld3
import Derived.Deep.RegionWith
import Derived.BigRegion
namespace Go.Proofs.YtlkcpnhepadenaaDoor
set_option linter.unusedVariables false
open Go.RowKit

theorem alloc_new_at (w : World) (o : Obj) (b : Nat) (h : b = w.heap.size) : (w.alloc o).heap[b]? = some o := by subst h; exact heap_alloc_new w o
theorem cells3 {W : World} {b : Nat} {x y z : Value} {t : TypeId} {m : Nat × Nat} (h : W.heap[b]? = some (.cells #[x, y, z] t m)) :
    W.cell? ⟨b, 0, none⟩ = some x ∧ W.cell? ⟨b, 1, none⟩ = some y ∧ W.cell? ⟨b, 2, none⟩ = some z := by
  simp [World.cell?, h]

set_option maxHeartbeats 1000000 in
theorem toward0_any (W k : Nat) (H R : Int) (h1 : 1 ≤ W) (h2 : W ≤ 8) (hk : 0 < k) (hk2 : k ≤ 64) (w : World) :
    Calls Tryd.prog 81 #[.agg #[.int .i64 (W : Int), .int .i64 H, .int .i64 R], .int .i64 (k : Int), .int .i64 0] w fun e w' => e = .returned (.int .i64 (if k % W = 0 then 8 else 4)) ∧ Below w.heap.size w w' := by
  have hW0 : ((W : Int) == 0) = false := by simp; omega
  have hr := rem_nat (k := k) (W := W)
  have hq := quo_nat (k := k) (W := W)
  have z1 : Int.tmod 0 (W : Int) = 0 := Int.zero_tmod _
  have z2 : Int.tdiv 0 (W : Int) = 0 := Int.zero_tdiv _
  obtain ⟨m, hm⟩ : ∃ m, m = k % W := ⟨_, rfl⟩
  obtain ⟨d, hd⟩ : ∃ d, d = k / W := ⟨_, rfl⟩
  have hdm : k = W * d + m := by rw [hm, hd]; exact (Nat.div_add_mod k W).symm
  rw [← hm] at hr
  rw [← hd] at hq
  rw [← hm]
  by_cases h0 : m = 0
  · rw [if_pos h0]
    subst h0
    have hd0 : 0 < d := by rcases Nat.eq_zero_or_pos d with h | h; · subst h; simp at hdm; omega
                           · exact h
    have hd64 : d ≤ 64 := by
      have : 1 * d ≤ W * d := Nat.mul_le_mul_right _ h1
      omega
    have g1 : (((0 : Nat) : Int) < 0) = False := by simp
    have g2 : ((0 : Int) < ((0 : Nat) : Int)) = False := by simp
    have g3 : ((d : Int) < 0) = False := by simp
    have g4 : ((0 : Int) < (d : Int)) = True := by simp; omega
    clear hm hd hdm
    go_enter Tryd.func81, Tryd.ntmps81
    go_wp2_with fail
    go_quiet (fail)
    go_wp2
    go_ret
    exact ⟨rfl, below_drewN ((Below.refl _ _).alloc (Nat.le_refl _) _) _⟩
  · rw [if_neg h0]
    have g1 : ((m : Int) < 0) = False := by simp
    have g2 : ((0 : Int) < (m : Int)) = True := by simp; omega
    clear hm hd hdm
    go_enter Tryd.func81, Tryd.ntmps81
    go_wp2_with fail
    go_quiet (fail)
    go_wp2
    go_ret
    exact ⟨rfl, below_drewN ((Below.refl _ _).alloc (Nat.le_refl _) _) _⟩

set_option maxHeartbeats 1000000 in
theorem behind4_any (W k : Nat) (H R : Int) (h1 : 1 ≤ W) (h2 : W ≤ 8) (hk : 0 < k) (hk2 : k ≤ 64) (w : World) :
    Calls Tryd.prog 82 #[.agg #[.int .i64 (W : Int), .int .i64 H, .int .i64 R], .int .i64 (k : Int), .int .i64 4] w fun e w' => (∃ b, e = .returned (.tuple #[.int .i64 ((k - 1 : Nat) : Int), .bool b])) ∧ Below w.heap.size w w' := by
  have hW0 : ((W : Int) == 0) = false := by simp; omega
  have hr := rem_nat (k := k) (W := W)
  have hq := quo_nat (k := k) (W := W)
  have e : ((k - 1 : Nat) : Int) = (k : Int) - 1 := by omega
  rw [e]
  clear e
  go_enter Tryd.func82, Tryd.ntmps82
  go_wp2_with fail
  go_quiet (fail)
  go_wp2_with fail
  exact bodyPost_ret (v := .tuple #[.int .i64 ((k : Int) - 1), .bool (decide (0 < (k : Int) % (W : Int)))]) (by simp [results, Tryd.results82, go_sem]) rfl ⟨⟨_, rfl⟩, below_drewN ((Below.refl _ _).alloc (Nat.le_refl _) _) _⟩

set_option maxHeartbeats 1000000 in
theorem behind8_any (W k : Nat) (H R : Int) (h1 : 1 ≤ W) (h2 : W ≤ 8) (hk : W ≤ k) (hk2 : k ≤ 64) (w : World) :
    Calls Tryd.prog 82 #[.agg #[.int .i64 (W : Int), .int .i64 H, .int .i64 R], .int .i64 (k : Int), .int .i64 8] w fun e w' => (∃ b, e = .returned (.tuple #[.int .i64 ((k - W : Nat) : Int), .bool b])) ∧ Below w.heap.size w w' := by
  have hW0 : ((W : Int) == 0) = false := by simp; omega
  have hr := rem_nat (k := k) (W := W)
  have hq := quo_nat (k := k) (W := W)
  have e : ((k - W : Nat) : Int) = (k : Int) - (W : Int) := by omega
  rw [e]
  clear e
  go_enter Tryd.func82, Tryd.ntmps82
  go_wp2_with fail
  go_quiet (fail)
  go_wp2_with fail
  exact bodyPost_ret (v := .tuple #[.int .i64 ((k : Int) - (W : Int)), .bool (decide (0 < wrap64 ((k : Int) / (W : Int))))]) (by simp [results, Tryd.results82, go_sem]) rfl ⟨⟨_, rfl⟩, below_drewN ((Below.refl _ _).alloc (Nat.le_refl _) _) _⟩

set_option maxHeartbeats 1000000 in
theorem reportsTo_any (W k : Nat) (H R : Int) (h1 : 1 ≤ W) (h2 : W ≤ 8) (hk : 0 < k) (hk2 : k ≤ 64) (w : World) :
    Calls Tryd.prog 75 #[.agg #[.int .i64 (W : Int), .int .i64 H, .int .i64 R], .int .i64 (k : Int)] w fun e w' => e = .returned (.int .i64 ((par W k : Nat) : Int)) ∧ Below w.heap.size w w' := by
  have ht := toward0_any W k H R h1 h2 hk hk2
  have hb : ∀ w, Calls Tryd.prog 82 #[.agg #[.int .i64 (W : Int), .int .i64 H, .int .i64 R], .int .i64 (k : Int), .int .i64 (if k % W = 0 then 8 else 4)] w fun e w' => (∃ b, e = .returned (.tuple #[.int .i64 ((par W k : Nat) : Int), .bool b])) ∧ Below w.heap.size w w' := by
    intro w
    by_cases hm : k % W = 0
    · rw [if_pos hm, par_of_zero hm]; exact behind8_any W k H R h1 h2 (mod_zero_ge hk hm) hk2 w
    · rw [if_neg hm, par_of_pos hm]; exact behind4_any W k H R h1 h2 hk hk2 w
  generalize (if k % W = 0 then (8 : Int) else 4) = o at ht hb
  generalize ((par W k : Nat) : Int) = P at hb ⊢
  have HT := Lib.hid ht
  have HB := Lib.hid hb
  clear ht hb
  go_enter Tryd.func75, Tryd.ntmps75
  go_wp2_with fail
  go_region_held3 (fun w' => w'.cell? ⟨w.heap.size, 0, none⟩ = some (.int .i64 W) ∧ w'.cell? ⟨w.heap.size, 1, none⟩ = some (.int .i64 H) ∧ w'.cell? ⟨w.heap.size, 2, none⟩ = some (.int .i64 R)) (first | (go_keep; done) | skip)
    (first | (go_at_call 81; refine (HT.out _).mono ?_; rintro e w1 ⟨rfl, hb1⟩; have hz1 : w.heap.size < w1.heap.size := (by have h9 := hb1.size; simp at h9; omega); have hx1 := (hb1.block w.heap.size (by simp)).trans (alloc_new_at _ _ _ rfl); obtain ⟨_, _, _⟩ := cells3 hx1; have HX1 := Lib.hid hx1; have HB1 := Lib.hid hb1; clear hb1 hx1) | (go_at_call 82; refine (HB.out _).mono ?_; rintro e w2 ⟨⟨b, rfl⟩, hb2⟩; obtain ⟨_, _, _⟩ := cells3 ((hb2.block w.heap.size hz1).trans HX1.out); have HB2 := Lib.hid hb2; clear hb2))
  go_wp2_with fail
  go_ret
  refine ⟨rfl, ?_⟩
  have h1 := HB1.out
  have h2 := HB2.out
  have h3 := h1.size
  simp at h3
  exact ((((Below.refl w.heap.size w).alloc (Nat.le_refl _) _).drew).trans (h1.mono (by simp))).trans (h2.mono (by omega))
end Go.Proofs.YtlkcpnhepadenaaDoor
