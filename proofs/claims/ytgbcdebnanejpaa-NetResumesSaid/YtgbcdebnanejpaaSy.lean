/- Small lemmas of the runs' texts: sums, rows of one's own, what a region leaves. Over any program. -/
import Derived.Test.YtgbcdebnanejpaaSa
import Derived.Test.YtgbcdebnanejpaaDq
namespace Go.Proofs.Ytgbcdebnanejpaa
set_option linter.unusedVariables false
open Go.RowKit

section
variable {t : Nat}
theorem sumP_append {a' i : Nat} : ∀ l l' : List Syn, sumP t a' i (l ++ l') = sumP t a' i l + sumP t a' i l'
  | [], l' => by rw [List.nil_append, sumP_nil, Int.zero_add]
  | s :: l, l' => by rw [List.cons_append, sumP_cons, sumP_cons, sumP_append l l', Int.add_assoc]
theorem sumP_zero {a' i : Nat} : ∀ l : List Syn, (∀ s ∈ l, (i : Int) ≠ s.to) → sumP t a' i l = 0
  | [], _ => rfl
  | s :: l, h => by rw [sumP_cons, sumP_zero l fun s' hs => h s' (by simp [hs]), if_neg (fun q => h s (by simp) q.2), Int.add_zero]
end
theorem idsAt_mem {l : List Evt} {t : Nat} {x : Int} (h : x ∈ idsAt l t) : ∃ e ∈ l, e.id = x := by
  unfold idsAt at h
  obtain ⟨e, he, rfl⟩ := List.mem_map.1 h
  exact ⟨e, (List.mem_filter.1 he).1, rfl⟩
theorem own_base {W : World} {B B' : Nat} {e : TypeId} {sz n : Nat} {v : Value} {xs : List Value} (h : W.ownsRow B e sz v n xs) (hb : B' ≤ B) : W.ownsRow B' e sz v n xs := by
  refine ⟨h.1, ?_⟩
  rcases h.2 with hn | ⟨g, cap, cur, hv, hbg, rest⟩
  · exact .inl hn
  · exact .inr ⟨g, cap, cur, hv, by omega, rest⟩
theorem replT {N j : Nat} (h : j < N) : (Array.replicate N true).getD j false = true := by
  simp [Array.getD_eq_getD_getElem?, h]
theorem cells4q {W : World} {b : Nat} {v0 v1 v2 v3 : Value} {t : TypeId} (h : W.heap[b]? = some (.cells #[v0, v1, v2, v3] t)) :
    W.cell? ⟨b, 0, none⟩ = some v0 ∧ W.cell? ⟨b, 1, none⟩ = some v1 ∧ W.cell? ⟨b, 2, none⟩ = some v2 ∧ W.cell? ⟨b, 3, none⟩ = some v3 := by
  refine ⟨?_, ?_, ?_, ?_⟩ <;> simp [World.cell?, h]
end Go.Proofs.Ytgbcdebnanejpaa
