/- Shape: the mathematics. (mk_Ea.py wrote this.) -/
import Derived.Test.YthfmbmjjfdhhnaaDd
namespace Go.Proofs.Ythfmbmjjfdhhnaa
set_option linter.unusedVariables false
open Go.RowKit

/-- The first time that has room behind a time s with a level L. -/
def nxt (B r s L : Int) : Int := if L + 1024 - B ≤ 0 then s else if 0 < r then s + (L + 1024 - B + r - 1).tdiv r else s
def shS (t : Nat → Int) (B r : Int) : Nat → Int × Int
  | 0 => (max (t 0) 0, 1024 - r)
  | k + 1 => (max (t (k + 1)) (nxt B r (shS t B r k).1 (shS t B r k).2), max ((shS t B r k).2 - r * (max (t (k + 1)) (nxt B r (shS t B r k).1 (shS t B r k).2) - (shS t B r k).1)) (-r) + 1024)
def shp (t : Nat → Int) (B r : Int) (k : Nat) : Int := (shS t B r k).1
theorem lev_shp (t : Nat → Int) (B r : Int) : ∀ k, lev (shp t B r) r k = (shS t B r k).2
  | 0 => rfl
  | k + 1 => by
    rw [lev, lev_shp t B r k]
    rfl
def shN (t : Nat → Int) (B r : Int) : Nat → Int
  | 0 => 0
  | k + 1 => nxt B r (shp t B r k) (lev (shp t B r) r k)
theorem shp_max (t : Nat → Int) (B r : Int) : ∀ k, shp t B r k = max (t k) (shN t B r k)
  | 0 => rfl
  | k + 1 => by rw [shN, lev_shp]; rfl
theorem ceil_nonneg {o r : Int} (ho : 0 < o) (hr : 0 < r) : 0 ≤ (o + r - 1).tdiv r := Int.tdiv_nonneg (by omega) (by omega)
theorem ceil_ge {o r : Int} (ho : 0 < o) (hr : 0 < r) : o ≤ r * (o + r - 1).tdiv r := by
  rw [Int.tdiv_eq_ediv_of_nonneg (by omega)]
  have h1 := Int.emod_add_mul_ediv (o + r - 1) r
  have h2 := Int.emod_lt_of_pos (o + r - 1) hr
  omega
theorem ceil_le {o r d : Int} (ho : 0 < o) (hr : 0 < r) (h : o ≤ r * d) : (o + r - 1).tdiv r ≤ d := by
  rw [Int.tdiv_eq_ediv_of_nonneg (by omega)]
  have : (o + r - 1) / r < d + 1 := by
    rw [Int.ediv_lt_iff_lt_mul hr, Int.add_mul, Int.mul_comm d r]
    omega
  omega
theorem ceil_le_self {o r : Int} (ho : 0 < o) (hr : 0 < r) : (o + r - 1).tdiv r ≤ o := ceil_le ho hr (by
  have := Int.mul_le_mul_of_nonneg_right (show (1 : Int) ≤ r by omega) (show 0 ≤ o by omega)
  omega)
theorem nxt_ge (B r s L : Int) : s ≤ nxt B r s L := by
  unfold nxt
  split
  · exact Int.le_refl _
  · split
    · rename_i h1 h2
      have := ceil_nonneg (o := L + 1024 - B) (by omega) h2
      omega
    · exact Int.le_refl _
theorem nxt_le (B r s L : Int) (hB : 0 ≤ B) : nxt B r s L ≤ s + max (L + 1024) 0 := by
  have hm0 := Int.le_max_right (L + 1024) 0
  have hm1 := Int.le_max_left (L + 1024) 0
  unfold nxt
  split
  · omega
  · split
    · rename_i h1 h2
      have := ceil_le_self (o := L + 1024 - B) (by omega) h2
      omega
    · omega
section
variable {t : Nat → Int} {B r : Int}
theorem shp_ge (k : Nat) : t k ≤ shp t B r k := by rw [shp_max]; exact Int.le_max_left _ _
theorem shN_le (k : Nat) : shN t B r k ≤ shp t B r k := by rw [shp_max]; exact Int.le_max_right _ _
theorem shp_mono (k : Nat) : shp t B r k ≤ shp t B r (k + 1) := Int.le_trans (nxt_ge _ _ _ _) (shN_le (k + 1))
theorem shp_pos (ht : ∀ k, 0 ≤ t k) (k : Nat) : 0 ≤ shp t B r k := Int.le_trans (ht k) (shp_ge k)
theorem shp_lev (ht : ∀ k, 0 ≤ t k) (hr : 0 ≤ r ∧ r ≤ 1024) (k : Nat) : - r ≤ lev (shp t B r) r k ∧ lev (shp t B r) r k ≤ 1024 * ((k : Int) + 1) := lev_bounds _ r hr (shp_pos ht) shp_mono k
theorem shp_top (ht : ∀ k, 0 ≤ t k) (hr : 0 ≤ r ∧ r ≤ 1024) (hB : 0 ≤ B) (n : Nat) (hn : n ≤ 60) (htop : ∀ k, k < n → t k ≤ 10000) : ∀ k, k < n → shp t B r k ≤ 10000 + 70000 * (k : Int)
  | 0, h => by
    have := htop 0 h
    have := ht 0
    show max (t 0) 0 ≤ _
    omega
  | k + 1, h => by
    have h1 := shp_top ht hr hB n hn htop k (by omega)
    have h2 := htop (k + 1) h
    have h3 := nxt_le B r (shp t B r k) (lev (shp t B r) r k) hB
    have h4 := (shp_lev (B := B) ht hr k).2
    rw [shp_max]
    show max (t (k + 1)) (nxt B r (shp t B r k) (lev (shp t B r) r k)) ≤ _
    push_cast
    omega
/-- No bound is met up to n. -/
def shOk (t : Nat → Int) (B r : Int) (n : Nat) : Prop := ∀ j, j + 1 < n → lev (shp t B r) r j + 1024 - B ≤ 0 ∨ 0 < r
theorem shp_keeps (hr : 0 ≤ r) (hB : 1024 ≤ B + r) {n : Nat} (ho : shOk t B r n) : keepsP (shp t B r) n B r := by
  have key : ∀ k, k < n → lev (shp t B r) r k ≤ B := by
    intro k
    induction k with
    | zero => intro h; show 1024 - r ≤ B; omega
    | succ k ih =>
      intro h
      have h1 := ih (by omega)
      have h2 := shp_mono (t := t) (B := B) (r := r) k
      have h3 := shN_le (t := t) (B := B) (r := r) (k + 1)
      have h5 : lev (shp t B r) r k + 1024 - B ≤ r * (shp t B r (k + 1) - shp t B r k) := by
        have h0 : 0 ≤ r * (shp t B r (k + 1) - shp t B r k) := Int.mul_nonneg hr (by omega)
        by_cases ho1 : lev (shp t B r) r k + 1024 - B ≤ 0
        · omega
        · have hr0 : 0 < r := by rcases ho k h with h | h <;> omega
          have h6 : shp t B r k + (lev (shp t B r) r k + 1024 - B + r - 1).tdiv r ≤ shp t B r (k + 1) := by
            have e : shN t B r (k + 1) = shp t B r k + (lev (shp t B r) r k + 1024 - B + r - 1).tdiv r := by
              show nxt _ _ _ _ = _
              unfold nxt
              rw [if_neg ho1, if_pos hr0]
            omega
          have h7 := ceil_ge (o := lev (shp t B r) r k + 1024 - B) (by omega) hr0
          have h8 := Int.mul_le_mul_of_nonneg_left (show (lev (shp t B r) r k + 1024 - B + r - 1).tdiv r ≤ shp t B r (k + 1) - shp t B r k by omega) hr
          omega
      rw [lev]
      omega
  exact fun i k h1 h2 => Int.le_trans (lev_ge _ r k i h1) (key k h2)
theorem shp_least (hr : 0 ≤ r) {n : Nat} {q : Nat → Int} (hq0 : 0 < n → 0 ≤ q 0) (hqt : ∀ k, k < n → t k ≤ q k) (hqm : ∀ k, k + 1 < n → q k ≤ q (k + 1)) (hk : keepsP q n B r) : ∀ k, k < n → ∀ j, j ≤ k → shp t B r j ≤ q j
  | 0, h, j, hj => by
    obtain rfl : j = 0 := by omega
    have h1 := hq0 h
    have h2 := hqt 0 h
    show max (t 0) 0 ≤ q 0
    omega
  | k + 1, h, j, hj => by
    have ih := shp_least hr hq0 hqt hqm hk k (by omega)
    rcases Nat.lt_or_ge j (k + 1) with h1 | h1
    · exact ih j (by omega)
    · obtain rfl : j = k + 1 := by omega
      have h2 := hqt (k + 1) h
      have h3 := hqm k h
      have h4 := ih k (Nat.le_refl _)
      have h5 : shN t B r (k + 1) ≤ q (k + 1) := by
        show nxt B r (shp t B r k) (lev (shp t B r) r k) ≤ _
        unfold nxt
        split
        · omega
        · split
          · rename_i ho hr0
            obtain ⟨i, hi, he⟩ := lev_eq (shp t B r) r k
            have h6 := hk i (k + 1) (by omega) h
            have h7 := ih i hi
            have h8 := Int.mul_le_mul_of_nonneg_left h7 hr
            have h9 : (lev (shp t B r) r k + 1024 - B + r - 1).tdiv r ≤ q (k + 1) - shp t B r k := by
              refine ceil_le (by omega) hr0 ?_
              rw [he]
              unfold need at h6 ⊢
              rw [Int.mul_sub] at ⊢
              simp only [Int.mul_add, Int.mul_sub, Int.mul_one] at h6 ⊢
              push_cast at h6
              omega
            omega
          · omega
      rw [shp_max]
      omega
theorem shp_same (hr : 0 ≤ r) (ht : ∀ k, 0 ≤ t k) (hm : ∀ k, t k ≤ t (k + 1)) {n : Nat} (hk : keepsP t n B r) (k : Nat) (h : k < n) : shp t B r k = t k :=
  Int.le_antisymm (shp_least hr (fun _ => ht 0) (fun k _ => Int.le_refl _) (fun k _ => hm k) hk k h k (Nat.le_refl _)) (shp_ge k)
theorem lev_zero (T : Nat → Int) : ∀ k, lev T 0 k = 1024 * ((k : Int) + 1)
  | 0 => by simp [lev]
  | k + 1 => by
    rw [lev, lev_zero T k]
    push_cast
    omega
end
end Go.Proofs.Ythfmbmjjfdhhnaa
