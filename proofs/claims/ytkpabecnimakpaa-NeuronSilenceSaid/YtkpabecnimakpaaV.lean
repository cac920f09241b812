/- The mathematics of NeuronSilence: silence divided at a tick; Next as the first spike; without a bias. -/
import Derived.Test.YtkpabecnimakpaaU
namespace Go.Proofs.Ytkpabecnimakpaa
set_option linter.unusedVariables false

theorem runL_append (p : Prm) (l1 l2 : List Int) : ∀ V R : Int, runL p V R (l1 ++ l2) = runL p V R l1 ++ runL p (after p V R l1).1 (after p V R l1).2 l2 := by
  induction l1 with
  | nil => intro V R; simp [runL, after]
  | cons i r ih => intro V R; simp only [List.cons_append, runL]; rw [ih, after_cons]

theorem after_append (p : Prm) (V R : Int) (l1 l2 : List Int) : after p V R (l1 ++ l2) = after p (after p V R l1).1 (after p V R l1).2 l2 := by
  simp [after]

theorem spkL_left (xs ys : List ((Int × Int) × Bool)) : ∀ k, k ≤ xs.length → spkL (xs ++ ys) k = spkL xs k := by
  intro k
  induction k with
  | zero => intro _; simp [spkL]
  | succ k ih =>
    intro hk
    obtain ⟨x, hx⟩ : ∃ x, xs[k]? = some x := ⟨_, List.getElem?_eq_getElem (by omega)⟩
    have hx' : (xs ++ ys)[k]? = some x := by rw [List.getElem?_append_left (by omega)]; exact hx
    rw [spkL_succ hx', spkL_succ hx, ih (by omega)]

theorem spkL_append (xs ys : List ((Int × Int) × Bool)) : ∀ d, d ≤ ys.length → spkL (xs ++ ys) (xs.length + d) = spkL xs xs.length ++ (spkL ys d).map (fun z : Int => z + (xs.length : Int)) := by
  intro d
  induction d with
  | zero =>
    intro _
    have : spkL ys 0 = [] := by simp [spkL]
    rw [this, List.map_nil, List.append_nil, Nat.add_zero]
    exact spkL_left xs ys _ (Nat.le_refl _)
  | succ d ih =>
    intro hd
    obtain ⟨x, hx⟩ : ∃ x, ys[d]? = some x := ⟨_, List.getElem?_eq_getElem (by omega)⟩
    have hx' : (xs ++ ys)[xs.length + d]? = some x := by rw [List.getElem?_append_right (by omega), show xs.length + d - xs.length = d by omega]; exact hx
    rw [← Nat.add_assoc, spkL_succ hx', ih (by omega), spkL_succ hx, List.map_append, List.append_assoc]
    congr 1
    split
    · simp; omega
    · simp

/-- Silence divided at tick n. -/
theorem sil_split (p : Prm) (V R : Int) (n m : Nat) :
    after p V R (List.replicate (n + m) 0) = after p (after p V R (List.replicate n 0)).1 (after p V R (List.replicate n 0)).2 (List.replicate m 0) ∧
    spkL (runL p V R (List.replicate (n + m) 0)) (n + m) = spkL (runL p V R (List.replicate n 0)) n ++ (spkL (runL p (after p V R (List.replicate n 0)).1 (after p V R (List.replicate n 0)).2 (List.replicate m 0)) m).map (fun z : Int => z + (n : Int)) := by
  rw [← List.replicate_append_replicate, after_append, runL_append]
  refine ⟨rfl, ?_⟩
  have := spkL_append (runL p V R (List.replicate n 0)) (runL p (after p V R (List.replicate n 0)).1 (after p V R (List.replicate n 0)).2 (List.replicate m 0)) m (by simp [runL_length])
  simp only [runL_length, List.length_replicate] at this
  exact this

/-- A state that stays is the state for ever. -/
theorem sil_stays (p : Prm) (V R : Int) (K : Nat) (h : sil p V R (K + 1) = sil p V R K) (d : Nat) : sil p V R (K + d) = sil p V R K := by
  induction d with
  | zero => rfl
  | succ d ih =>
    rw [← Nat.add_assoc, sil_succ, ih, ← sil_succ, h]

theorem spk_sil (p : Prm) (V R : Int) (N : Nat) : ∀ k, k ≤ N → (∀ j, j < k → silS p V R j = false) → spkL (runL p V R (List.replicate N 0)) k = [] := by
  intro k
  induction k with
  | zero => intro _ _; simp [spkL]
  | succ k ih =>
    intro hk h
    obtain ⟨x, hx⟩ : ∃ x, (runL p V R (List.replicate N 0))[k]? = some x := ⟨_, List.getElem?_eq_getElem (by rw [runL_length, List.length_replicate]; omega)⟩
    obtain ⟨_, rfl⟩ := runL_sil p V R N k x hx
    rw [spkL_succ hx, ih (by omega) (fun j hj => h j (by omega)), if_neg (by simp [h k (by omega)])]
    rfl

/-- Next is the first spike of silence. -/
theorem next_first (p : Prm) (V R : Int) (K : Nat) (hK : StopAt p V R K) (N : Nat) :
    -1 ≤ nextR p V R K ∧ ((spkL (runL p V R (List.replicate N 0)) N = [] ∧ (nextR p V R K < 0 ∨ (N : Int) ≤ nextR p V R K)) ∨ (spkL (runL p V R (List.replicate N 0)) N)[0]? = some (nextR p V R K)) := by
  unfold nextR
  cases hs : silS p V R K with
  | true =>
    simp only [if_true]
    refine ⟨by omega, ?_⟩
    by_cases hN : N ≤ K
    · left
      exact ⟨spk_sil p V R N N (Nat.le_refl _) (fun j hj => (hK.before j (by omega)).1), Or.inr (by omega)⟩
    · right
      obtain ⟨E, h1, _⟩ := spk_split (xs := runL p V R (List.replicate N 0)) (K + 1) (N - (K + 1)) (by rw [runL_length, List.length_replicate]; omega)
      rw [show K + 1 + (N - (K + 1)) = N by omega] at h1
      obtain ⟨x, hx⟩ : ∃ x, (runL p V R (List.replicate N 0))[K]? = some x := ⟨_, List.getElem?_eq_getElem (by rw [runL_length, List.length_replicate]; omega)⟩
      obtain ⟨_, rfl⟩ := runL_sil p V R N K x hx
      rw [h1, spkL_succ hx, spk_sil p V R N K (by omega) (fun j hj => (hK.before j hj).1), if_pos hs]
      simp
  | false =>
    simp only [Bool.false_eq_true, if_false]
    refine ⟨by omega, Or.inl ⟨spk_sil p V R N N (Nat.le_refl _) (fun j hj => ?_), Or.inl (by omega)⟩⟩
    by_cases hj' : j < K
    · exact (hK.before j hj').1
    · have hst : sil p V R (K + 1) = sil p V R K := by
        rcases hK.stop with h | h
        · rw [hs] at h; cases h
        · exact h
      have := sil_stays p V R K hst (j - K)
      rw [show K + (j - K) = j by omega] at this
      unfold silS at hs ⊢
      rw [this]; exact hs

/-- Without a bias, below the threshold: no spike, and the potential goes towards 0. -/
theorem sil_calm (p : Prm) (hok : Ok p) (V R : Int) (hb : p.bi = 0) (hV : V < p.th) (h1 : p.fl ≤ V) (h2 : V ≤ 1048576) (k : Nat) :
    (sil p V R k).1 < p.th ∧ p.fl ≤ (sil p V R k).1 ∧ (sil p V R k).1 ≤ 1048576 ∧ (sil p V R k).1 ≤ max V (-V) ∧ -(sil p V R k).1 ≤ max V (-V) := by
  induction k with
  | zero => simp only [sil, List.replicate_zero, after, List.foldl_nil]; omega
  | succ k ih =>
    rw [sil_succ]
    generalize (sil p V R k).1 = A at *
    generalize (sil p V R k).2 = B at *
    have hl := leak_bd hok A
    have hf := hok.flM
    have ht := hok.th0
    have hn : nextV p A 0 = leakP p A := by unfold nextV clampI; rw [hb]; omega
    simp only [tV]
    split
    · exact ih
    · rw [hn, if_pos (by omega)]; omega
theorem calm_never (p : Prm) (hok : Ok p) (V R : Int) (hb : p.bi = 0) (hV : V < p.th) (h1 : p.fl ≤ V) (h2 : V ≤ 1048576) (k : Nat) : silS p V R k = false := by
  obtain ⟨c1, c2, c3, _, _⟩ := sil_calm p hok V R hb hV h1 h2 k
  unfold silS
  generalize (sil p V R k).1 = A at *
  generalize (sil p V R k).2 = B at *
  have hl := leak_bd hok A
  have hf := hok.flM
  have ht := hok.th0
  have hn : nextV p A 0 = leakP p A := by unfold nextV clampI; rw [hb]; omega
  unfold tS
  split
  · rfl
  · rw [hn]; simp; omega

end Go.Proofs.Ytkpabecnimakpaa
