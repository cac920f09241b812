/- The mathematics of NeuronRepeats: states repeat, and how many spikes are counted. -/
import Derived.Test.YtkpabecnimakpaaCm
namespace Go.Proofs.Ytkpabecnimakpaa
set_option linter.unusedVariables false

theorem stk_shift {p : Prm} {V R i : Int} {a b : Nat} (h : stk p V R i a = stk p V R i b) : ∀ n, stk p V R i (a + n) = stk p V R i (b + n)
  | 0 => h
  | n + 1 => by rw [← Nat.add_assoc, ← Nat.add_assoc, stk_succ, stk_succ, stk_shift h n]

/-- What the law asks of Cycle's answer. -/
theorem cyc_facts {p : Prm} {V R i : Int} {K j : Nat} (h : CycS p V R i K j) (hK : K ≤ 65536) :
    j < K ∧ stk p V R i K = stk p V R i j ∧ stk p V R i (K + (K - j)) = stk p V R i j ∧ (∀ t, j < t → t < K → stk p V R i t ≠ stk p V R i j) ∧ (0 < j → stk p V R i (j - 1) ≠ stk p V R i (K - 1)) := by
  obtain ⟨hjK, hs⟩ := h.hit hK
  refine ⟨hjK, hs.symm, ?_, fun t h1 h2 e => h.fresh j t h1 h2 e.symm, fun h0 => h.fresh (j - 1) (K - 1) (by omega) (by omega)⟩
  have := stk_shift hs (K - j)
  rw [show j + (K - j) = K from by omega] at this
  rw [← this, hs]

/-- The spikes that have been counted before tick t, of those from tick j to before tick K. -/
def cntS (p : Prm) (V R i : Int) (j K : Nat) : Nat → Nat
  | 0 => 0
  | t + 1 => cntS p V R i j K t + if sps p V R i t = true ∧ j ≤ t ∧ t < K then 1 else 0
theorem cntS_le (p : Prm) (V R i : Int) (j K t : Nat) : cntS p V R i j K t ≤ t := by
  induction t with
  | zero => exact Nat.le_refl _
  | succ t ih => unfold cntS; split <;> omega
theorem cntS_low (p : Prm) (V R i : Int) (j K : Nat) : ∀ t, t ≤ j → cntS p V R i j K t = 0
  | 0, _ => rfl
  | t + 1, h => by unfold cntS; rw [cntS_low p V R i j K t (by omega), if_neg (by omega)]
theorem cntS_mid (p : Prm) (V R i : Int) (j K : Nat) : ∀ t, j ≤ t → t ≤ K → cntS p V R i j K t + nsp p V R i j = nsp p V R i t := by
  intro t
  induction t with
  | zero => intro h _; obtain rfl : j = 0 := by omega
            rfl
  | succ t ih =>
    intro h1 h2
    by_cases e : j = t + 1
    · subst e; rw [cntS_low p V R i _ K _ (Nat.le_refl _)]; omega
    · have := ih (by omega) (by omega)
      have e1 : nsp p V R i (t + 1) = nsp p V R i t + if sps p V R i t then 1 else 0 := rfl
      have e2 : cntS p V R i j K (t + 1) = cntS p V R i j K t + if sps p V R i t = true ∧ j ≤ t ∧ t < K then 1 else 0 := rfl
      rw [e1, e2]
      by_cases hs : sps p V R i t = true
      · rw [if_pos ⟨hs, by omega, by omega⟩, if_pos hs]; omega
      · rw [if_neg (fun h => hs h.1), if_neg hs]; omega
theorem cntS_end (p : Prm) (V R i : Int) (j K : Nat) (hj : j ≤ K) : ∀ t, K ≤ t → cntS p V R i j K t + nsp p V R i j = nsp p V R i K := by
  intro t
  induction t with
  | zero => intro h; obtain rfl : K = 0 := by omega
            exact cntS_mid p V R i j 0 0 (by omega) (Nat.le_refl _)
  | succ t ih =>
    intro h
    by_cases e : K = t + 1
    · subst e; exact cntS_mid p V R i j _ _ hj (Nat.le_refl _)
    · have := ih (by omega)
      have e2 : cntS p V R i j K (t + 1) = cntS p V R i j K t + if sps p V R i t = true ∧ j ≤ t ∧ t < K then 1 else 0 := rfl
      rw [e2, if_neg (by omega)]; omega
end Go.Proofs.Ytkpabecnimakpaa
