/- Other times: their mathematics. (mk_Ed.py wrote this.) -/
import Derived.Test.YthfmbmjjfdhhnaaEa
namespace Go.Proofs.Ythfmbmjjfdhhnaa
set_option linter.unusedVariables false
open Go.RowKit

/-- Other times, the first i of them. -/
structure OsR (t : Nat → Int) (i : Nat) (q : List Int) : Prop where
  len : q.length = i
  ge : ∀ k, k < i → t k ≤ q.getD k 0
  top : ∀ k, k < i → q.getD k 0 ≤ 10008 + 40000 * ((k : Int) + 1)
  mono : ∀ j k, j ≤ k → k < i → q.getD j 0 ≤ q.getD k 0
/-- One more of them. -/
structure NewO (t : Nat → Int) (i : Nat) (q : List Int) (z : Int) : Prop where
  ge : t i ≤ z
  old : ∀ k, k < i → q.getD k 0 ≤ z
  top : z ≤ 10008 + 40000 * ((i : Int) + 1)
theorem OsR.nil (t : Nat → Int) : OsR t 0 [] := ⟨rfl, fun k h => absurd h (by omega), fun k h => absurd h (by omega), fun j k _ h => absurd h (by omega)⟩
theorem getD_snoc_lt {q : List Int} {z : Int} {k : Nat} (h : k < q.length) : (q ++ [z]).getD k 0 = q.getD k 0 := by simp [List.getD, List.getElem?_append_left h]
theorem getD_snoc_eq {q : List Int} {z : Int} {k : Nat} (h : q.length = k) : (q ++ [z]).getD k 0 = z := by subst h; simp [List.getD]
theorem OsR.snoc {t : Nat → Int} {i : Nat} {q : List Int} {z : Int} (h : OsR t i q) (hz : NewO t i q z) : OsR t (i + 1) (q ++ [z]) := by
  have hl := h.len
  refine ⟨by simp [hl], fun k hk => ?_, fun k hk => ?_, fun j k hjk hk => ?_⟩
  · rcases Nat.lt_or_ge k i with h1 | h1
    · rw [getD_snoc_lt (by omega)]; exact h.ge k h1
    · obtain rfl : k = i := by omega
      rw [getD_snoc_eq hl]; exact hz.ge
  · rcases Nat.lt_or_ge k i with h1 | h1
    · rw [getD_snoc_lt (by omega)]; exact h.top k h1
    · obtain rfl : k = i := by omega
      rw [getD_snoc_eq hl]; exact hz.top
  · rcases Nat.lt_or_ge k i with h1 | h1
    · rw [getD_snoc_lt (by omega), getD_snoc_lt (by omega)]; exact h.mono j k hjk h1
    · obtain rfl : k = i := by omega
      rw [getD_snoc_eq hl]
      rcases Nat.lt_or_ge j k with h2 | h2
      · rw [getD_snoc_lt (by omega)]; exact hz.old j h2
      · obtain rfl : j = k := by omega
        rw [getD_snoc_eq hl]; exact Int.le_refl _
theorem NewO.first {t : Nat → Int} {q : List Int} {e : Int} (he : 0 ≤ e ∧ e ≤ 8) (ht : t 0 ≤ 10000) : NewO t 0 q (t 0 + e) := ⟨by omega, fun k h => absurd h (by omega), by simp; omega⟩
theorem NewO.next {t : Nat → Int} {i : Nat} {q : List Int} {e : Int} (h : OsR t (i + 1) q) (he : 0 ≤ e ∧ e ≤ 8) (ht : t (i + 1) ≤ 10000) : NewO t (i + 1) q (max (t (i + 1) + e) (q.getD i 0)) := by
  have h1 := h.top i (by omega)
  refine ⟨by omega, fun k hk => ?_, by push_cast; omega⟩
  have h2 := h.mono k i (by omega) (by omega)
  omega
theorem NewO.raise {t : Nat → Int} {i k : Nat} {q : List Int} {z B r : Int} (h : OsR t i q) (hz : NewO t i q z) (hk : k < i) (hi : i ≤ 30) (hB : 0 ≤ B) (hr : 0 < r ∧ r ≤ 1024)
    (hc : B + r * (z - q.getD k 0 + 1) < 1024 * ((i : Int) - (k : Int) + 1)) :
    NewO t i q (q.getD k 0 - 1 + (1024 * ((i : Int) - (k : Int) + 1) - B + r - 1).tdiv r) ∧ 0 ≤ (1024 * ((i : Int) - (k : Int) + 1) - B + r - 1).tdiv r ∧ (1024 * ((i : Int) - (k : Int) + 1) - B + r - 1).tdiv r ≤ 40000 := by
  have h1 := hz.old k hk
  have h2 := h.top k hk
  have h3 : 0 ≤ r * (z - q.getD k 0 + 1) := Int.mul_nonneg (by omega) (by omega)
  have hn0 : 0 ≤ 1024 * ((i : Int) - (k : Int) + 1) - B + r - 1 := by omega
  have h4 := Int.tdiv_nonneg hn0 (show 0 ≤ r by omega)
  have h5 : (1024 * ((i : Int) - (k : Int) + 1) - B + r - 1).tdiv r ≤ 40000 := by
    rw [Int.tdiv_eq_ediv_of_nonneg hn0]
    have h6 := Int.ediv_le_self r hn0
    omega
  have h7 : z - q.getD k 0 + 2 ≤ (1024 * ((i : Int) - (k : Int) + 1) - B + r - 1).tdiv r := by
    rw [Int.tdiv_eq_ediv_of_nonneg hn0]
    have : z - q.getD k 0 + 2 ≤ (1024 * ((i : Int) - (k : Int) + 1) - B + r - 1) / r := by
      rw [Int.le_ediv_iff_mul_le hr.1]
      have e : (z - q.getD k 0 + 2) * r = r * (z - q.getD k 0 + 1) + r := by
        rw [Int.mul_comm, show z - q.getD k 0 + 2 = (z - q.getD k 0 + 1) + 1 by omega, Int.mul_add, Int.mul_one]
      omega
    exact this
  refine ⟨⟨?_, fun k' hk' => ?_, ?_⟩, h4, h5⟩
  · have := hz.ge; omega
  · have := hz.old k' hk'; omega
  · have : (k : Int) + 1 ≤ i := by omega
    omega
theorem ics_set {q : List Int} {z y : Int} {i : Nat} (h : q.length = i) : (iCs (q ++ [z])).set i (.int .i64 y) = iCs (q ++ [y]) := by
  subst h
  simp [iCs, List.set_append]
end Go.Proofs.Ythfmbmjjfdhhnaa
