/- The mathematics of NeuronStates: where the spikes stand in Run's list, and what a state still rests behind the last of them. -/
import Derived.Test.YtkpabecnimakpaaO
namespace Go.Proofs.Ytkpabecnimakpaa
set_option linter.unusedVariables false

theorem spk_split {xs : List ((Int × Int) × Bool)} (t : Nat) (d : Nat) (h : t + d ≤ xs.length) : ∃ E, spkL xs (t + d) = spkL xs t ++ E ∧ ∀ z ∈ E, (t : Int) ≤ z := by
  induction d with
  | zero => exact ⟨[], by simp, by simp⟩
  | succ d ih =>
    obtain ⟨E, h1, h2⟩ := ih (by omega)
    obtain ⟨x, hx⟩ : ∃ x, xs[t + d]? = some x := ⟨_, List.getElem?_eq_getElem (by omega)⟩
    refine ⟨E ++ (if x.2 then [((t + d : Nat) : Int)] else []), ?_, ?_⟩
    · rw [show t + (d + 1) = (t + d) + 1 by omega, spkL_succ hx, h1, List.append_assoc]
    · intro z hz
      rcases List.mem_append.1 hz with h | h
      · exact h2 z h
      · split at h
        · simp at h; omega
        · simp at h

theorem spk_bd {xs : List ((Int × Int) × Bool)} (t : Nat) : ∀ z ∈ spkL xs t, 0 ≤ z ∧ z < t := by
  intro z hz
  unfold spkL at hz
  obtain ⟨j, hj, he⟩ := List.mem_filterMap.1 hz
  have := List.mem_range.1 hj
  split at he
  · cases he; omega
  · cases he

/-- Where the spike of tick t stands. -/
theorem spk_at {xs : List ((Int × Int) × Bool)} {t : Nat} {x : (Int × Int) × Bool} (hx : xs[t]? = some x) :
    (x.2 = true → (spkL xs xs.length)[(spkL xs t).length]? = some (t : Int)) ∧
    (x.2 = false → (spkL xs xs.length).length ≤ (spkL xs t).length ∨ ∃ z, (spkL xs xs.length)[(spkL xs t).length]? = some z ∧ z ≠ (t : Int)) ∧
    (∀ j, j < (spkL xs t).length → (spkL xs xs.length)[j]? = (spkL xs t)[j]?) := by
  have ht : t < xs.length := (List.getElem?_eq_some_iff.1 hx).1
  obtain ⟨E, h1, h2⟩ := spk_split (xs := xs) (t + 1) (xs.length - (t + 1)) (by omega)
  rw [show t + 1 + (xs.length - (t + 1)) = xs.length by omega, spkL_succ hx] at h1
  rw [h1]
  refine ⟨fun h => ?_, fun h => ?_, fun j hj => ?_⟩
  · rw [if_pos h]; simp
  · rw [if_neg (by simp [h])]
    cases E with
    | nil => left; simp
    | cons z E =>
      right
      refine ⟨z, by simp, ?_⟩
      have := h2 z (by simp)
      omega
  · rw [List.append_assoc, List.getElem?_append_left hj]

/-- Behind a spike the state rests: what is left of the rest, and the ticks gone since, are at least the neuron's rest. -/
theorem spk_rest (p : Prm) (hok : Ok p) (V R : Int) (zs : List Int) (hR : 0 ≤ R) (t : Nat) (ht : t ≤ zs.length) :
    ∀ l, (spkL (runL p V R zs) t).getLast? = some l → p.re + 1 + l ≤ (after p V R (zs.take t)).2 + t := by
  induction t with
  | zero => intro l h; simp [spkL] at h
  | succ t ih =>
    intro l h
    obtain ⟨i, hi⟩ : ∃ i, zs[t]? = some i := ⟨_, List.getElem?_eq_getElem (by omega)⟩
    have hrun := runL_get p V R zs t i hi
    rw [spkL_succ hrun] at h
    have hs : (after p V R (zs.take (t + 1))).2 = tR p (after p V R (zs.take t)).1 (after p V R (zs.take t)).2 i := by
      rw [take_snoc_of hi, after_snoc]
    rw [hs]
    generalize hA : (after p V R (zs.take t)).1 = A at *
    generalize hB : (after p V R (zs.take t)).2 = B at *
    simp only at h
    by_cases hsp : tS p A B i = true
    · rw [if_pos hsp] at h
      simp at h
      subst h
      unfold tS at hsp
      split at hsp
      · cases hsp
      · rename_i h0
        have : ¬ nextV p A i < p.th := by simp at hsp; omega
        simp [tR, h0, this]; omega
    · rw [if_neg hsp] at h
      simp at h
      have := ih (by omega) l h
      unfold tR
      unfold tS at hsp
      split
      · omega
      · rename_i h0
        rw [if_neg h0] at hsp
        have hlow : nextV p A i < p.th := by simp at hsp; omega
        rw [if_pos hlow]; omega

/-- All that a round of the law asks. k: the spikes before tick t. -/
theorem states_round (p : Prm) (V R : Int) (zs : List Int) (hv : validP p V R = 0) (t : Nat) (i : Int) (hi : zs[t]? = some i) :
    ∃ (A B : Int) (k : Nat) (L : List Int), after p V R (zs.take t) = (A, B) ∧ k = (spkL (runL p V R zs) t).length ∧ L = spkL (runL p V R zs) zs.length ∧ validP p A B = 0 ∧ validP p (tV p A B i) (tR p A B i) = 0 ∧ k ≤ t ∧
      after p V R (zs.take (t + 1)) = (tV p A B i, tR p A B i) ∧
      (tS p A B i = true ∧ ¬ 0 < B ∧ L[k]? = some (t : Int) ∧ (spkL (runL p V R zs) (t + 1)).length = k + 1 ∧ (k = 0 ∨ ∃ l, 0 < k ∧ L[k - 1]? = some l ∧ 0 ≤ l ∧ l < t ∧ p.re < t - l) ∨
       tS p A B i = false ∧ (spkL (runL p V R zs) (t + 1)).length = k ∧ (L.length ≤ k ∨ ∃ z, L[k]? = some z ∧ z ≠ (t : Int))) := by
  obtain ⟨hok, k1, k2, k3, k4⟩ := ok_of_valid hv
  have hck : checkP p = 0 := by
    unfold validP at hv; split at hv
    · assumption
    · omega
  have htl : t < zs.length := (List.getElem?_eq_some_iff.1 hi).1
  have hvs := after_valid hok k1 k2 k3 k4 (zs.take t)
  have hrun := runL_get p V R zs t i hi
  have hat := spk_at hrun
  rw [runL_length] at hat
  have hsucc := spkL_succ hrun
  have hrest := spk_rest p hok V R zs k3 t (by omega)
  have hnext : after p V R (zs.take (t + 1)) = (tV p (after p V R (zs.take t)).1 (after p V R (zs.take t)).2 i, tR p (after p V R (zs.take t)).1 (after p V R (zs.take t)).2 i) := by rw [take_snoc_of hi, after_snoc]
  obtain ⟨A, B, hAB⟩ : ∃ A B, after p V R (zs.take t) = (A, B) := ⟨_, _, rfl⟩
  rw [hAB] at hvs hat hsucc hrest hnext
  simp only at hvs hat hsucc hrest hnext
  obtain ⟨v0, v1, v2, v3⟩ := hvs
  have vok : ∀ {a b : Int}, p.fl ≤ a → a ≤ 1048576 → 0 ≤ b → b ≤ p.re → validP p a b = 0 := by
    intro a b h1 h2 h3 h4
    unfold validP; rw [if_pos hck, if_pos]; simp [inR, *]
  obtain ⟨u0, u1, u2, u3⟩ := tick_valid hok i v0 v1 v2 v3
  refine ⟨A, B, _, _, hAB, rfl, rfl, vok v0 v1 v2 v3, vok u0 u1 u2 u3, spkL_le _ _, hnext, ?_⟩
  by_cases hs : tS p A B i = true
  · left
    have hB : ¬ 0 < B := by unfold tS at hs; split at hs <;> simp_all
    refine ⟨hs, hB, hat.1 hs, by rw [hsucc, if_pos hs]; simp, ?_⟩
    by_cases hk : (spkL (runL p V R zs) t).length = 0
    · exact Or.inl hk
    · right
      obtain ⟨l, hl⟩ : ∃ l, (spkL (runL p V R zs) t).getLast? = some l := by
        cases h : (spkL (runL p V R zs) t).getLast? with
        | none => rw [List.getLast?_eq_none_iff] at h; simp [h] at hk
        | some l => exact ⟨l, rfl⟩
      have hmem := List.mem_of_getLast? hl
      have hb := spk_bd t l hmem
      have hr := hrest l hl
      refine ⟨l, by omega, ?_, hb.1, hb.2, by omega⟩
      rw [hat.2.2 _ (by omega), ← List.getLast?_eq_getElem?]; exact hl
  · right
    have hs' : tS p A B i = false := by simpa using hs
    exact ⟨hs', by rw [hsucc, if_neg hs]; simp, hat.2.1 hs'⟩

end Go.Proofs.Ytkpabecnimakpaa
