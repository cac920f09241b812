/- Barriers: lists compared; a mesh handed on. Over this seat's program. -/
import Derived.Test.YtlkcpnhepadenaaDoorBf
namespace Go.Proofs.YtlkcpnhepadenaaDoor
set_option linter.unusedVariables false
open Go.RowKit

set_option maxHeartbeats 1000000 in
theorem spec_any (A H R : Int) (w : World) :
    Calls Tryd.prog 14 #[.agg #[.int .i64 A, .int .i64 H, .int .i64 R]] w fun e w' => e = .returned (.agg #[.int .i64 A, .int .i64 H, .int .i64 R]) ∧ Below w.heap.size w w' := by
  go_enter Tryd.func14, Tryd.ntmps14
  go_wp2
  refine bodyPost_ret (v := .agg #[.int .i64 A, .int .i64 H, .int .i64 R]) ?_ rfl ⟨rfl, ?_⟩
  · simp [results, Tryd.results14, go_sem]
  · (repeat (first | exact Below.refl _ _ | refine below_drewN ?_ _ | refine Below.drew ?_ | refine Below.alloc ?_ ?_ _ | refine Below.setCell ?_ ?_ _ | refine Below.trans ?_ (Below.mono (by assumption) ?_)))
    all_goals (first | omega | (simp; done) | (simp; omega))

set_option maxRecDepth 100000 in
set_option maxHeartbeats 1000000 in
theorem numbers_same (a1 a2 : Option Addr) (c1 c2 : Nat) (xs : List Int) (hl : xs.length ≤ 9223372036854775806) (w : World) (h1 : IntsAt w (.slice a1 xs.length c1) xs) (h2 : IntsAt w (.slice a2 xs.length c2) xs) :
    Calls Tryd.prog 21 #[.slice a1 xs.length c1, .slice a2 xs.length c2] w fun e w' => e = .returned (.bool true) ∧ Below w.heap.size w w' := by
  obtain ⟨n, hn⟩ : ∃ n, n = xs.length := ⟨_, rfl⟩
  rw [← hn] at h1 h2 hl ⊢
  have hnb : ((n : Int) != (n : Int)) = false := by simp
  by_cases hz : n = 0
  · subst hz
    clear hn h1 h2
    go_enter Tryd.func21, Tryd.ntmps21
    go_wp2
    go_loop [5] (fun i => i = .int .i64 0) (fun _ => 0)
    case atStart => rfl
    case round =>
      subst hrel
      go_wp2
      go_ret
      exact ⟨rfl, Below.refl _ _⟩
  · obtain ⟨b1, o1, rfl, _⟩ := intsAt_cell h1 0 (by omega)
    obtain ⟨b2, o2, rfl, _⟩ := intsAt_cell h2 0 (by omega)
    have g1 : ∀ k, k < n → w.cell? ⟨b1, o1 + k, none⟩ = some (.int .i64 (xs[k]?.getD 0)) ∧ b1 < w.heap.size := fun k hk => by
      obtain ⟨b, o, e, hc⟩ := intsAt_cell h1 k (by omega)
      cases e; exact ⟨hc, World.block_lt_of_cell? w _ hc⟩
    have g2 : ∀ k, k < n → w.cell? ⟨b2, o2 + k, none⟩ = some (.int .i64 (xs[k]?.getD 0)) ∧ b2 < w.heap.size := fun k hk => by
      obtain ⟨b, o, e, hc⟩ := intsAt_cell h2 k (by omega)
      cases e; exact ⟨hc, World.block_lt_of_cell? w _ hc⟩
    have HN := Lib.hid hn
    have G1 := Lib.hid g1
    have G2 := Lib.hid g2
    clear hn h1 h2 g1 g2
    go_enter Tryd.func21, Tryd.ntmps21
    go_wp2
    go_loopw [5] (fun i wr => ∃ k : Nat, k ≤ n ∧ i = .int .i64 k ∧ Below w.heap.size w wr) (fun i _ => n - (intOf i).toNat)
    case atStart => exact ⟨0, Nat.zero_le _, rfl, Below.refl _ _⟩
    case round =>
      obtain ⟨k, hk, rfl, hb⟩ := hrel
      have HB := Lib.hid hb
      clear hb
      by_cases hlt : k < n
      · obtain ⟨x, hx⟩ : ∃ x, x = xs[k]?.getD 0 := ⟨_, rfl⟩
        have c1 : wr.cell? ⟨b1, o1 + k, none⟩ = some (.int .i64 x) := by rw [hx]; exact (HB.out.cell (p := ⟨b1, o1 + k, none⟩) (G1.out k hlt).2).trans (G1.out k hlt).1
        have c2 : wr.cell? ⟨b2, o2 + k, none⟩ = some (.int .i64 x) := by rw [hx]; exact (HB.out.cell (p := ⟨b2, o2 + k, none⟩) (G2.out k hlt).2).trans (G2.out k hlt).1
        clear hx
        have hi0 : (0 : Int) ≤ (k : Int) := Int.natCast_nonneg _
        have hi1 : (k : Int) < (n : Int) := by omega
        have hb1 : (x != x) = false := by simp
        go_wp2_with fail
        go_quiet (fail)
        go_wp2
        go_roundw
        case rel => exact ⟨k + 1, by omega, by go_num, below_drewN HB.out _⟩
        case measure => simp [intOf]; omega
      · obtain rfl : k = n := by omega
        clear hlt
        go_wp2
        go_ret
        exact ⟨rfl, HB.out⟩

/-- The error, and the list, that both Barriers return. -/
theorem barriers_any (A H R : Int) (a : Option Addr) (n cap : Nat) (zs : List Int) (hn : n = zs.length) (hl : n ≤ 80) (w : World) (hI : IntsAt w (.slice a n cap) zs) :
    ∃ L er, L.length ≤ 80 ∧ (∀ w1, Below w.heap.size w w1 → Calls Tryd.prog 39 #[.agg #[.int .i64 A, .int .i64 H, .int .i64 R], .slice a n cap] w1 (BarGot L er w1)) ∧
      ∀ w1, Below w.heap.size w w1 → Calls Tryd.prog 40 #[.agg #[.int .i64 A, .int .i64 H, .int .i64 R], .slice a n cap] w1 (BarGot L er w1) := by
  by_cases hc : chkM A H R = 0
  · by_cases hs : (n : Int) = A * H
    · obtain ⟨⟨a1, a2⟩, ⟨b1, b2⟩, _⟩ := chkM_ok hc
      obtain ⟨A, rfl⟩ : ∃ W : Nat, A = W := ⟨A.toNat, by omega⟩
      obtain ⟨H, rfl⟩ : ∃ W : Nat, H = W := ⟨H.toNat, by omega⟩
      have hs' : n = A * H := by exact_mod_cast hs
      by_cases hin : allIn zs
      · exact ⟨barL A zs, 0, by rw [barL_len]; omega, fun w1 hb => (barrier_ok A H R hc a n cap zs hn hs' w1 (hI.below hb)).mono fun e w' h => h.1 hin, fun w1 hb => (rbarrier_ok A H R hc a n cap zs hn hs' w1 (hI.below hb)).mono fun e w' h => h.1 hin⟩
      · exact ⟨[], 3, by simp, fun w1 hb => (barrier_ok A H R hc a n cap zs hn hs' w1 (hI.below hb)).mono fun e w' h => h.2 hin, fun w1 hb => (rbarrier_ok A H R hc a n cap zs hn hs' w1 (hI.below hb)).mono fun e w' h => h.2 hin⟩
    · exact ⟨[], 13, by simp, fun w1 _ => barrier_shape A H R hc a n cap (by omega) hs w1, fun w1 _ => rbarrier_shape A H R hc a n cap (by omega) hs w1⟩
  · exact ⟨[], chkM A H R, by simp, fun w1 _ => barrier_err A H R hc _ w1, fun w1 _ => rbarrier_err A H R hc _ w1⟩
end Go.Proofs.YtlkcpnhepadenaaDoor
