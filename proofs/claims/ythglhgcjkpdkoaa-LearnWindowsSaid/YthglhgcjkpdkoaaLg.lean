/- Window: the mathematics of a trace; the specification's power. -/
import Derived.Test.YthglhgcjkpdkoaaLe
namespace Go.Proofs.Ythglhgcjkpdkoaa
set_option linter.unusedVariables false
open Go.RowKit

/-- A trace behind n ticks. -/
def trK (ke : Int) : Nat → Int → Int
  | 0, x => x
  | n + 1, x => trK ke n x * ke / 256
theorem trK_bounds {ke x : Int} (k0 : 0 ≤ ke) (k1 : ke ≤ 255) (x0 : 0 ≤ x) (n : Nat) : 0 ≤ trK ke n x ∧ trK ke n x ≤ x := by
  induction n with
  | zero => exact ⟨x0, Int.le_refl _⟩
  | succ n ih =>
    obtain ⟨h0, h1⟩ := ih
    have h2 : 0 ≤ trK ke n x * ke := Int.mul_nonneg h0 k0
    have h3 : trK ke n x * ke ≤ trK ke n x * 255 := Int.mul_le_mul_of_nonneg_left k1 h0
    show 0 ≤ trK ke n x * ke / 256 ∧ trK ke n x * ke / 256 ≤ x
    omega
theorem mul_bounds {a b : Int} (a0 : 0 ≤ a) (a1 : a ≤ 255) (b0 : 0 ≤ b) (b1 : b ≤ 4096) : 0 ≤ a * b ∧ a * b ≤ 16711425 := by
  have h2 : 0 ≤ a * b := Int.mul_nonneg a0 b0
  have h3 : a * b ≤ 255 * b := Int.mul_le_mul_of_nonneg_right a1 b0
  omega
structure RulOk (r : Rul) : Prop where
  up0 : 0 ≤ r.up
  up1 : r.up ≤ 255
  dn0 : 0 ≤ r.dn
  dn1 : r.dn ≤ 255
  sh0 : 0 ≤ r.sh
  sh1 : r.sh ≤ 16
  ga0 : 1 ≤ r.ga
  ga1 : r.ga ≤ 4096
  ke0 : 0 ≤ r.ke
  ke1 : r.ke ≤ 255
theorem rulOk_of {r : Rul} (h : ruleE r = 0) : RulOk r := by
  unfold ruleE at h
  split at h
  · split at h
    · rename_i h2
      simp only [numR, Bool.and_eq_true, inR_true] at h2
      constructor <;> omega
    · cases h
  · cases h
/-- What a pair does, of a valid rule. -/
def winF (r : Rul) (gap : Int) : Int := if gap = 0 then 0 else if 0 < gap then r.up * trK r.ke gap.toNat r.ga / 2 ^ r.sh.toNat else -(r.dn * trK r.ke (-gap).toNat r.ga / 2 ^ r.sh.toNat)
def winE (r : Rul) (gap : Int) : Int := if ruleE r = 0 then (if inR gap (-10000) 10000 then 0 else 3) else ruleE r
def winR (r : Rul) (gap : Int) : Int := if winE r gap = 0 then winF r gap else 0

theorem pow_le16 {n : Nat} (h : n ≤ 16) : 1 ≤ (2 : Int) ^ n ∧ (2 : Int) ^ n ≤ 65536 := by
  have h1 : 2 ^ n ≤ 2 ^ 16 := Nat.pow_le_pow_right (by omega) h
  have h2 : 1 ≤ 2 ^ n := Nat.one_le_two_pow
  have e : ((2 ^ n : Nat) : Int) = (2 : Int) ^ n := by simp
  omega
set_option maxRecDepth 100000 in
set_option maxHeartbeats 4000000 in
theorem power_any (n : Nat) (hn : n ≤ 16) (w : World) :
    Calls Try.prog 51 #[.int .i64 n] w fun e w' => e = .returned (.int .i64 (2 ^ n)) ∧ w = w' := by
  go_enter Try.func51, Try.ntmps51
  go_wp2
  go_loopw [3, 4] (fun o i wr => ∃ j : Nat, j ≤ n ∧ i = .int .i64 j ∧ o = .int .i64 (2 ^ j) ∧ w = wr) (fun _ i _ => n - (intOf i).toNat)
  case atStart => exact ⟨0, by omega, rfl, rfl, rfl⟩
  case round =>
    obtain ⟨j, hj, rfl, rfl, rfl⟩ := hrel
    obtain ⟨p0, p1⟩ := pow_le16 (Nat.le_trans hj hn)
    by_cases hlt : j < n
    · have z0 : ((j : Int) < (n : Int)) = True := by simp <;> omega
      go_wp2
      go_roundw
      case rel => exact ⟨j + 1, by omega, by go_num, by first | (rw [Int.pow_succ, Int.mul_comm]; done) | (simp [Int.pow_succ, Int.mul_comm]; done), by first | trivial | rfl⟩
      case measure => simp [intOf]; omega
    · obtain rfl : j = n := by omega
      have z0 : ((j : Int) < (j : Int)) = False := by simp
      go_wp2
      go_ret
      exact ⟨rfl, rfl⟩
end Go.Proofs.Ythglhgcjkpdkoaa
