/- Sums that are due: the order in which they are added doesn't matter; sorted events. The mathematics. Over any program. -/
import Derived.Test.YtgbcdebnanejpaaC1
namespace Go.Proofs.Ytgbcdebnanejpaa
set_option linter.unusedVariables false
open Go.RowKit

theorem wrap_add (x y : Int) : wrap64 (wrap64 x + y) = wrap64 (x + y) := by unfold wrap64; omega
/-- What a list of synapses adds up to, at the tick a and the neuron i. -/
def sumP (t a i : Nat) (l : List Syn) : Int := (l.map fun s => if (a : Int) = t + s.dl ∧ (i : Int) = s.to then s.wt else 0).sum
theorem sumP_nil {t a i : Nat} : sumP t a i [] = 0 := rfl
theorem sumP_cons {t a i : Nat} {s : Syn} {l : List Syn} : sumP t a i (s :: l) = (if (a : Int) = t + s.dl ∧ (i : Int) = s.to then s.wt else 0) + sumP t a i l := by simp [sumP]
theorem foldP_sum {t a i : Nat} : ∀ (l : List Syn) {v : Int}, rng64 v → l.foldl (addP t a i) v = wrap64 (v + sumP t a i l)
  | [], v, h => by rw [sumP_nil, Int.add_zero, List.foldl_nil, wrap_id h]
  | s :: l, v, h => by
    rw [List.foldl_cons, foldP_sum l (addP_rng h), sumP_cons]
    unfold addP
    by_cases hc : (a : Int) = t + s.dl ∧ (i : Int) = s.to
    · rw [if_pos hc, if_pos hc, wrap_add, Int.add_assoc]
    · rw [if_neg hc, if_neg hc, Int.zero_add]
/-- What sources send, as one sum. -/
theorem sends_sum {ss : List Syn} {t a i : Nat} (X : List Int) {due : Due} (h : rng64 (due a i)) : X.foldl (sendM ss t) due a i = wrap64 (due a i + sumP t a i (X.flatMap (ofSrc ss))) := by
  rw [sends_at, ← List.foldl_flatMap, foldP_sum _ h]
theorem sumP_perm {t a i : Nat} {l l' : List Syn} (h : l.Perm l') : sumP t a i l = sumP t a i l' := by
  unfold sumP
  induction h with
  | nil => rfl
  | cons x _ ih => simp only [List.map_cons, List.sum_cons, ih]
  | swap x y l => simp only [List.map_cons, List.sum_cons]; omega
  | trans _ _ h1 h2 => rw [h1, h2]
theorem due_rng (n : NetM) (l : List Evt) : ∀ t a i, rng64 ((runS n l t).due a i)
  | 0, a, i => by show rng64 0; unfold rng64; omega
  | t + 1, a, i => by
    show rng64 ((_ ++ _ : List Int).foldl (sendM n.ss t) (runS n l t).due a i)
    rw [sends_at, ← List.foldl_flatMap]
    exact foldP_rng _ (due_rng n l t a i)

/-! ### sorted events -/
def evLe (x y : Evt) : Bool := decide (x.tk < y.tk) || (decide (x.tk = y.tk) && decide (x.id ≤ y.id))
/-- How many of the first k events stay ahead of x. -/
def stayN (out : List Evt) (x : Evt) : Nat → Nat
  | 0 => 0
  | k + 1 => if evLe (out[k]?.getD ⟨0, 0⟩) x = true then k + 1 else stayN out x k
def insE (out : List Evt) (x : Evt) : List Evt := out.take (stayN out x out.length) ++ x :: out.drop (stayN out x out.length)
def sortE (l : List Evt) : List Evt := l.foldl insE []
theorem stayN_le (out : List Evt) (x : Evt) : ∀ k, stayN out x k ≤ k
  | 0 => Nat.le_refl _
  | k + 1 => by unfold stayN; split; exact Nat.le_refl _; have := stayN_le out x k; omega
theorem insE_perm (out : List Evt) (x : Evt) : (insE out x).Perm (x :: out) := by
  unfold insE
  have h1 : (out.take (stayN out x out.length) ++ x :: out.drop (stayN out x out.length)).Perm (x :: (out.take (stayN out x out.length) ++ out.drop (stayN out x out.length))) := List.perm_middle
  rw [List.take_append_drop] at h1
  exact h1
theorem sortE_perm (l : List Evt) : (sortE l).Perm l := by
  have key : ∀ (l out : List Evt), (l.foldl insE out).Perm (out ++ l) := fun l => by
    induction l with
    | nil => intro out; simp
    | cons x l ih =>
      intro out
      rw [List.foldl_cons]
      refine (ih (insE out x)).trans (((insE_perm out x).append_right l).trans ?_)
      exact (List.perm_middle (l₁ := out)).symm
  exact key l []
theorem evLe_trans {a b c : Evt} (h1 : evLe a b = true) (h2 : evLe b c = true) : evLe a c = true := by simp [evLe] at *; omega
theorem evLe_total {a b : Evt} (h : ¬ evLe a b = true) : evLe b a = true := by simp [evLe] at *; omega
abbrev SrtE (l : List Evt) : Prop := l.Pairwise fun a b => evLe a b = true
theorem stayN_spec {out : List Evt} {x : Evt} (hs : SrtE out) : ∀ k, k ≤ out.length → (∀ j, j < stayN out x k → evLe (out[j]?.getD ⟨0, 0⟩) x = true) ∧ ∀ j, stayN out x k ≤ j → j < k → ¬ evLe (out[j]?.getD ⟨0, 0⟩) x = true
  | 0, _ => ⟨fun j h => by simp [stayN] at h, fun j _ h => by omega⟩
  | k + 1, hk => by
    unfold stayN
    by_cases h : evLe (out[k]?.getD ⟨0, 0⟩) x = true
    · rw [if_pos h]
      refine ⟨fun j hj => ?_, fun j h1 h2 => by omega⟩
      by_cases e : j = k
      · rw [e]; exact h
      · have h1 := List.pairwise_iff_getElem.1 hs j k (by omega) (by omega) (by omega)
        rw [List.getElem?_eq_getElem (by omega)] at h ⊢
        simp only [Option.getD_some] at h ⊢
        exact evLe_trans h1 h
    · rw [if_neg h]
      obtain ⟨i1, i2⟩ := stayN_spec hs k (by omega)
      refine ⟨i1, fun j h1 h2 => ?_⟩
      by_cases e : j = k
      · rw [e]; exact h
      · exact i2 j h1 (by omega)
theorem insE_sorted {out : List Evt} {x : Evt} (hs : SrtE out) : SrtE (insE out x) := by
  obtain ⟨h1, h2⟩ := stayN_spec (x := x) hs out.length (Nat.le_refl _)
  have hle := stayN_le out x out.length
  unfold insE
  generalize stayN out x out.length = k at *
  refine List.pairwise_append.2 ⟨hs.sublist (List.take_sublist _ _), List.pairwise_cons.2 ⟨fun y hy => ?_, hs.sublist (List.drop_sublist _ _)⟩, fun a ha b hb => ?_⟩
  · obtain ⟨j, hj, rfl⟩ := List.getElem_of_mem hy
    rw [List.getElem_drop]
    have h3 := h2 (k + j) (by omega) (by simp at hj; omega)
    rw [List.getElem?_eq_getElem (by simp at hj; omega), Option.getD_some] at h3
    exact evLe_total h3
  · obtain ⟨j, hj, rfl⟩ := List.getElem_of_mem ha
    have hjk : j < k := by simp at hj; omega
    have hjl : j < out.length := by simp at hj; omega
    have h3 := h1 j hjk
    rw [List.getElem?_eq_getElem hjl, Option.getD_some] at h3
    rw [List.getElem_take]
    rcases List.mem_cons.1 hb with rfl | hb
    · exact h3
    · obtain ⟨i, hi, rfl⟩ := List.getElem_of_mem hb
      rw [List.getElem_drop]
      exact List.pairwise_iff_getElem.1 hs j (k + i) hjl (by simp at hi; omega) (by omega)
theorem sortE_sorted (l : List Evt) : SrtE (sortE l) := by
  have key : ∀ (l out : List Evt), SrtE out → SrtE (l.foldl insE out) := fun l => by
    induction l with
    | nil => exact fun out h => h
    | cons x l ih => exact fun out h => ih _ (insE_sorted h)
  exact key l [] List.Pairwise.nil
theorem evLe_anti {a b : Evt} (h1 : evLe a b = true) (h2 : evLe b a = true) : a = b := by
  cases a; cases b
  simp [evLe] at *
  omega
/-- Sorted lists with the same events are equal. -/
theorem srt_unique : ∀ {l l' : List Evt}, SrtE l → SrtE l' → l.Perm l' → l = l'
  | [], l', _, _, h => (List.nil_perm.1 h).symm
  | x :: l, [], _, _, h => absurd h.length_eq (by simp)
  | x :: l, y :: l', h1, h2, h => by
    obtain ⟨a1, a2⟩ := List.pairwise_cons.1 h1
    obtain ⟨b1, b2⟩ := List.pairwise_cons.1 h2
    have hxy : x = y := by
      have hx : x ∈ y :: l' := h.subset (by simp)
      have hy : y ∈ x :: l := h.symm.subset (by simp)
      rcases List.mem_cons.1 hx with e | hx
      · exact e
      · rcases List.mem_cons.1 hy with e | hy
        · exact e.symm
        · exact evLe_anti (a1 y hy) (b1 x hx)
    subst hxy
    rw [srt_unique a2 b2 ((List.perm_cons x).1 h)]
theorem sortE_eq {l l' : List Evt} (h : SrtE l') (hp : l.Perm l') : sortE l = l' := srt_unique (sortE_sorted l) h ((sortE_perm l).trans hp)
/-- A run's spikes are sorted. -/
theorem runO_sorted (n : NetM) (l : List Evt) : ∀ T, SrtE (runO n l T) ∧ ∀ e ∈ runO n l T, 0 ≤ e.tk ∧ e.tk < (T : Int)
  | 0 => ⟨List.Pairwise.nil, fun e h => by simp [runO] at h⟩
  | T + 1 => by
    obtain ⟨h1, h2⟩ := runO_sorted n l T
    rw [runO_succ]
    refine ⟨List.pairwise_append.2 ⟨h1, ?_, fun a ha b hb => ?_⟩, fun e he => ?_⟩
    · unfold tickO spkN
      rw [List.map_map]
      refine List.pairwise_map.2 ((List.pairwise_lt_range.sublist List.filter_sublist).imp fun {a b} hab => ?_)
      simp [evLe, evI]; omega
    · obtain ⟨i, _, rfl⟩ := List.mem_map.1 hb
      show (decide (a.tk < ((T : Nat) : Int)) || _) = true
      rw [decide_eq_true (h2 a ha).2]; rfl
    · rcases List.mem_append.1 he with he | he
      · have := h2 e he; omega
      · obtain ⟨i, _, rfl⟩ := List.mem_map.1 he
        simp [evI]; omega
end Go.Proofs.Ytgbcdebnanejpaa
