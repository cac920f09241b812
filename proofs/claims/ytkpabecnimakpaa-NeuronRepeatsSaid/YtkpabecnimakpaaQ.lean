/- The mathematics of silence: behind at most 2097217 silent ticks a neuron spikes or stays as it is. -/
import Derived.Test.YtkpabecnimakpaaP
namespace Go.Proofs.Ytkpabecnimakpaa
set_option linter.unusedVariables false

theorem tdiv_256 (n : Int) : n.tdiv 256 = if 0 ≤ n then n / 256 else -((-n) / 256) := by
  split
  · rename_i h; exact Int.tdiv_eq_ediv_of_nonneg h
  · have := Int.tdiv_eq_ediv_of_nonneg (a := -n) (b := 256) (by omega)
    rw [Int.neg_tdiv] at this; omega
theorem leak_up {p : Prm} (h : Ok p) {a b : Int} (hab : a ≤ b) : leakP p a ≤ leakP p b := by
  obtain ⟨_, _, _, _, _, _, hl, hs, _, _, _, _, _, _, _, _, _, _, _⟩ := h
  unfold leakP
  by_cases e1 : p.lk = 1
  · rw [if_pos e1, if_pos e1]
    have := hl e1
    split <;> split <;> omega
  · rw [if_neg e1, if_neg e1]
    by_cases e2 : p.lk = 2
    · rw [if_pos e2, if_pos e2]
      obtain ⟨h1, h2⟩ := hs e2
      have k1 : (b - a) * p.lv ≤ (b - a) * 256 := Int.mul_le_mul_of_nonneg_left h2 (by omega)
      have k0 : 0 ≤ (b - a) * p.lv := Int.mul_nonneg (by omega) (by omega)
      rw [Int.sub_mul] at k1 k0
      rw [tdiv_256, tdiv_256]
      split <;> split <;> omega
    · rw [if_neg e2, if_neg e2]; exact hab
theorem next_up {p : Prm} (h : Ok p) {a b : Int} (i : Int) (hab : a ≤ b) : nextV p a i ≤ nextV p b i := by
  have := leak_up h hab
  unfold nextV; omega

/-- While it rests, its potential stays. -/
theorem sil_rest (p : Prm) (V : Int) (r k : Nat) (hk : k ≤ r) : sil p V r k = (V, (r : Int) - k) := by
  induction k with
  | zero => simp [sil, after]
  | succ k ih =>
    have := ih (by omega)
    rw [sil_succ, this]
    have h0 : (0 : Int) < (r : Int) - k := by omega
    simp only [tV, tR, if_pos h0]
    congr 1
    omega

/-- Behind the rest, as long as there is no spike. -/
theorem sil_low (p : Prm) (V : Int) (r m : Nat) (h : ∀ j, j < m → silS p V r (r + j) = false) : ∀ j, j ≤ m → (sil p V r (r + j)).2 = 0 := by
  intro j
  induction j with
  | zero => intro _; rw [Nat.add_zero, sil_rest p V r r (Nat.le_refl _)]; simp
  | succ j ih =>
    intro hj
    have h0 := ih (by omega)
    have hs := h j (by omega)
    unfold silS at hs
    rw [h0] at hs
    rw [← Nat.add_assoc, sil_succ, h0]
    have : nextV p (sil p V r (r + j)).1 0 < p.th := by simp [tS] at hs; omega
    simp [tR, this]
theorem sil_next (p : Prm) (V : Int) (r m : Nat) (h : ∀ j, j < m → silS p V r (r + j) = false) (j : Nat) (hj : j < m) : (sil p V r (r + (j + 1))).1 = nextV p (sil p V r (r + j)).1 0 ∧ nextV p (sil p V r (r + j)).1 0 < p.th := by
  have h0 := sil_low p V r m h j (by omega)
  have hs := h j hj
  unfold silS at hs
  rw [h0] at hs
  have : nextV p (sil p V r (r + j)).1 0 < p.th := by simp [tS] at hs; omega
  rw [← Nat.add_assoc, sil_succ, h0]
  exact ⟨by simp [tV, this], this⟩

theorem mono_walk (f : Int → Int) (hf : ∀ a b, a ≤ b → f a ≤ f b) (s : Nat → Int) (m : Nat) (hs : ∀ j, j < m → s (j + 1) = f (s j) ∧ s (j + 1) ≠ s j) :
    (∀ j, j ≤ m → s 0 + j ≤ s j) ∨ (∀ j, j ≤ m → s j ≤ s 0 - j) := by
  by_cases hm : m = 0
  · left; intro j hj; obtain rfl : j = 0 := by omega
    simp
  · have h0 := hs 0 (by omega)
    simp only [Nat.zero_add] at h0
    by_cases hup : s 0 < s 1
    · left
      have key : ∀ j, j < m → s j < s (j + 1) := by
        intro j
        induction j with
        | zero => intro _; exact hup
        | succ j ih =>
          intro hj
          have h1 := ih (by omega)
          have h2 := hs (j + 1) hj
          have h3 := hs j (by omega)
          have := hf (s j) (s (j + 1)) (by omega)
          omega
      intro j
      induction j with
      | zero => intro _; simp
      | succ j ih => intro hj; have := ih (by omega); have := key j (by omega); omega
    · right
      have key : ∀ j, j < m → s (j + 1) < s j := by
        intro j
        induction j with
        | zero => intro _; simp only [Nat.zero_add]; omega
        | succ j ih =>
          intro hj
          have h1 := ih (by omega)
          have h2 := hs (j + 1) hj
          have h3 := hs j (by omega)
          have := hf (s (j + 1)) (s j) (by omega)
          omega
      intro j
      induction j with
      | zero => intro _; simp
      | succ j ih => intro hj; have := ih (by omega); have := key j (by omega); omega

theorem stop_some (p : Prm) (hok : Ok p) (V R : Int) (hV : p.fl ≤ V) (hV' : V ≤ 1048576) (hR : 0 ≤ R) (hR' : R ≤ p.re) : ∃ k, k < 2097218 ∧ (silS p V R k = true ∨ sil p V R (k + 1) = sil p V R k) := by
  obtain ⟨r, rfl⟩ : ∃ r : Nat, R = r := ⟨R.toNat, by omega⟩
  have hr : r ≤ 64 := by have := hok.reM; omega
  apply Classical.byContradiction
  intro hno
  have h : ∀ k, k < 2097218 → silS p V r k = false ∧ sil p V r (k + 1) ≠ sil p V r k := by
    intro k hk
    refine ⟨?_, fun e => hno ⟨k, hk, Or.inr e⟩⟩
    cases e : silS p V r k with
    | false => rfl
    | true => exact absurd ⟨k, hk, Or.inl e⟩ hno
  obtain ⟨m, hm⟩ : ∃ m, m = 2097153 := ⟨_, rfl⟩
  have hns : ∀ j, j < m → silS p V r (r + j) = false := fun j hj => (h (r + j) (by omega)).1
  have hlow := sil_low p V r m hns
  have hnx := sil_next p V r m hns
  have hw := mono_walk (fun v => nextV p v 0) (fun a b hab => next_up hok 0 hab) (fun j => (sil p V r (r + j)).1) m (fun j hj => by
    refine ⟨(hnx j hj).1, fun e => (h (r + j) (by omega)).2 ?_⟩
    have e1 := hlow j (by omega)
    have e2 := hlow (j + 1) (by omega)
    rw [← Nat.add_assoc] at e2
    simp only [← Nat.add_assoc] at e
    exact Prod.ext e (e2.trans e1.symm))
  simp only [Nat.add_zero, sil_rest p V r r (Nat.le_refl _)] at hw
  have hb := next_bd hok (sil p V r (r + (m - 1))).1 0
  have hl := hnx (m - 1) (by omega)
  rw [show m - 1 + 1 = m by omega] at hl
  have := hok.fl0
  have := hok.thM
  rcases hw with hw | hw
  · have := hw m (Nat.le_refl _); omega
  · have := hw m (Nat.le_refl _); omega

theorem least {P : Nat → Prop} (n : Nat) (h : ∃ k, k < n ∧ P k) : ∃ k, k < n ∧ P k ∧ ∀ j, j < k → ¬ P j := by
  induction n with
  | zero => obtain ⟨k, hk, _⟩ := h; omega
  | succ n ih =>
    by_cases h' : ∃ k, k < n ∧ P k
    · obtain ⟨k, h1, h2, h3⟩ := ih h'
      exact ⟨k, by omega, h2, h3⟩
    · obtain ⟨k, hk, hp⟩ := h
      refine ⟨k, hk, hp, fun j hj hpj => h' ⟨j, by omega, hpj⟩⟩

theorem stop_at (p : Prm) (V R : Int) (hv : validP p V R = 0) : ∃ K, StopAt p V R K := by
  obtain ⟨hok, k1, k2, k3, k4⟩ := ok_of_valid hv
  obtain ⟨k, h1, h2, h3⟩ := least _ (stop_some p hok V R k1 k2 k3 k4)
  refine ⟨k, h1, fun j hj => ?_, h2⟩
  have := h3 j hj
  refine ⟨?_, fun e => this (Or.inr e)⟩
  cases e : silS p V R j with
  | false => rfl
  | true => exact absurd (Or.inl e) this

end Go.Proofs.Ytkpabecnimakpaa
