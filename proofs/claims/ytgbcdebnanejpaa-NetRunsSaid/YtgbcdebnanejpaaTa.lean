/- The specification's tick: what is due, by one pass over the synapses. The mathematics. Over any program. -/
import Derived.Test.YtgbcdebnanejpaaSy
namespace Go.Proofs.Ytgbcdebnanejpaa
set_option linter.unusedVariables false
open Go.RowKit

/-- Whether a source fires in a tick. -/
def firedB (ps : List Prm) (st : List (Int × Int)) (row : Nat → Int) (ids : List Int) (x : Int) : Bool := decide (x ∈ spkN ps st row ps.length) || decide (x ∈ ids.map fun y => -1 - y)
/-- What is due once the synapses l have sent. -/
def dueF (due : Due) (t : Nat) (l : List Syn) : Due := fun a i => l.foldl (addP t a i) (due a i)
theorem sumP_flat {t a i : Nat} (ss : List Syn) : ∀ X : List Int, X.Nodup → sumP t a i (X.flatMap (ofSrc ss)) = sumP t a i (ss.filter fun s => decide (s.fr ∈ X))
  | [], _ => by
    have e : ss.filter (fun s => decide (s.fr ∈ ([] : List Int))) = [] := by rw [List.filter_eq_nil_iff]; intro s _; simp
    rw [e]; rfl
  | x :: X, h => by
    obtain ⟨h1, h2⟩ := List.nodup_cons.1 h
    rw [List.flatMap_cons, sumP_append, sumP_flat ss X h2]
    unfold ofSrc
    clear h2 h
    induction ss with
    | nil => simp [sumP_nil]
    | cons s ss ih =>
      by_cases q : s.fr = x
      · have q1 : ¬ s.fr ∈ X := by rw [q]; exact h1
        rw [List.filter_cons_of_pos (by simpa using q), List.filter_cons_of_neg (by simpa using q1), List.filter_cons_of_pos (by simp [q]), sumP_cons, sumP_cons, ← ih]
        omega
      · rw [List.filter_cons_of_neg (by simpa using q)]
        by_cases q1 : s.fr ∈ X
        · rw [List.filter_cons_of_pos (by simpa using q1), List.filter_cons_of_pos (by simp [q1]), sumP_cons, sumP_cons, ← ih]
          omega
        · rw [List.filter_cons_of_neg (by simpa using q1), List.filter_cons_of_neg (by simp [q, q1]), ← ih]
theorem dueF_tick {n : NetM} {t : Nat} {S : RunS} {ids : List Int} (hr : ∀ a i, rng64 (S.due a i)) (hd : ids.Nodup) (h0 : ∀ x ∈ ids, 0 ≤ x) :
    dueF S.due t (n.ss.filter fun s => firedB n.ps S.st (S.due t) ids s.fr) = (tickM n t S ids).due := by
  funext a i
  show _ = (spkN n.ps S.st (S.due t) n.ps.length ++ ids.map fun x => -1 - x).foldl (sendM n.ss t) S.due a i
  rw [sends_sum _ (hr a i)]
  unfold dueF
  rw [foldP_sum _ (hr a i), sumP_flat]
  · congr 2
    apply congrArg
    apply List.filter_congr
    intro s _
    unfold firedB
    simp only [List.mem_append, Bool.decide_or]
  · refine List.nodup_append.2 ⟨?_, ?_, ?_⟩
    · unfold spkN
      exact List.Pairwise.map _ (fun a b hab e => hab (by omega)) ((List.nodup_range (n := n.ps.length)).sublist List.filter_sublist)
    · exact List.Pairwise.map _ (fun a b hab e => hab (by omega)) hd
    · intro x hx y hy e
      have h1 := spkN_range hx
      obtain ⟨z, hz, rfl⟩ := List.mem_map.1 hy
      have := h0 z hz
      omega
theorem foldP_none {t a i : Nat} : ∀ (l : List Syn) (v : Int), (∀ s ∈ l, (a : Int) ≠ t + s.dl) → l.foldl (addP t a i) v = v
  | [], _, _ => rfl
  | s :: l, v, h => by
    have e : addP t a i v s = v := by unfold addP; rw [if_neg fun q => h s (by simp) q.1]
    rw [List.foldl_cons, e, foldP_none l v fun s' hs' => h s' (by simp [hs'])]
theorem due_zero {n : NetM} (hok : NetOk n) (l : List Evt) : ∀ t a i, t + 16 ≤ a → (runS n l t).due a i = 0
  | 0, a, i, _ => rfl
  | t + 1, a, i, h => by
    show (_ ++ _ : List Int).foldl (sendM n.ss t) (runS n l t).due a i = 0
    rw [sends_at, ← List.foldl_flatMap, due_zero hok l t a i (by omega)]
    refine foldP_none _ _ fun s hs => ?_
    obtain ⟨x, _, hs⟩ := List.mem_flatMap.1 hs
    have := hok.ss s (List.mem_filter.1 hs).1
    simp [synOk, inR] at this
    omega
theorem ids_nodup {l : List Evt} {inp most : Int} (h : evsErr l inp most = 0) (t : Nat) : (idsAt l t).Nodup := by
  obtain ⟨h1, _⟩ := evs_iff.1 h
  unfold idsAt
  refine List.pairwise_map.2 (List.Pairwise.imp_of_mem (fun {x y} hx hy hxy e => ?_) (h1.sublist (List.filter_sublist (p := fun e : Evt => decide (e.tk = (t : Int))))))
  have hx := (List.mem_filter.1 hx).2
  have hy := (List.mem_filter.1 hy).2
  simp at hx hy
  simp [evLt] at hxy
  omega
theorem ids_nonneg {l : List Evt} {inp most : Int} (h : evsErr l inp most = 0) (t : Nat) : ∀ x ∈ idsAt l t, 0 ≤ x ∧ x < inp := fun x hx => by
  obtain ⟨e, he, rfl⟩ := idsAt_mem hx
  have := ((evs_iff.1 h).2 e he).2
  omega
end Go.Proofs.Ytgbcdebnanejpaa
