/- The iterators of package neuron: silence, a constant input, the ticks. -/
import Derived.Test.YtnbndciididpoaaGreatC
import Derived.Test.YtnbndciididpoaaGreatR
import Derived.OwnWalkIn
import Derived.TacticsInMore
import Derived.LoopNIn
import Derived.LoopIn
namespace Go.Proofs.YtnbndciididpoaaGreat
set_option linter.unusedVariables false
open Go.RowKit Go.Shelf
attribute [local go_sem] Oper.semAt_some

theorem RoundIn.inRound {F : Fence} {n : Nat} {P : Program} {l : Nat} {f : FuncId} {tmps : Array Value} {assign body : Code} {w : World} {R : Ending → World → Prop} (l' : Nat) (h : RoundIn F n P l f tmps assign body w R) : RoundIn (F.inRound l') n P l f tmps assign body w R := h

/-- The state behind the ticks with these inputs. -/
def after (p : Prm) (V R : Int) (l : List Int) : Int × Int := l.foldl (fun s i => (tV p s.1 s.2 i, tR p s.1 s.2 i)) (V, R)
/-- The states behind each of the ticks, and whether there was a spike in it. -/
def runL (p : Prm) (V R : Int) : List Int → List ((Int × Int) × Bool)
  | [] => []
  | i :: r => ((tV p V R i, tR p V R i), tS p V R i) :: runL p (tV p V R i) (tR p V R i) r
theorem runL_length (p : Prm) (V R : Int) (l : List Int) : (runL p V R l).length = l.length := by
  induction l generalizing V R with
  | nil => rfl
  | cons i r ih => simp [runL, ih]
theorem after_snoc (p : Prm) (V R : Int) (l : List Int) (i : Int) : after p V R (l ++ [i]) = (tV p (after p V R l).1 (after p V R l).2 i, tR p (after p V R l).1 (after p V R l).2 i) := by
  simp [after]
theorem after_cons (p : Prm) (V R : Int) (l : List Int) (i : Int) : after p V R (i :: l) = after p (tV p V R i) (tR p V R i) l := rfl
theorem runL_get (p : Prm) (V R : Int) (l : List Int) (k : Nat) (i : Int) (h : l[k]? = some i) :
    (runL p V R l)[k]? = some (after p V R (l.take (k + 1)), tS p (after p V R (l.take k)).1 (after p V R (l.take k)).2 i) := by
  induction l generalizing V R k with
  | nil => simp at h
  | cons j r ih =>
    cases k with
    | zero =>
      simp at h; subst h
      simp [runL, after]
    | succ k =>
      simp at h
      simp only [runL, List.getElem?_cons_succ, List.take_succ_cons, after_cons]
      exact ih _ _ _ h
theorem take_snoc_of {α : Type} {l : List α} {k : Nat} {x : α} (h : l[k]? = some x) : l.take (k + 1) = l.take k ++ [x] := by
  rw [List.take_add_one, h]; rfl
/-- A valid state stays valid. -/
theorem after_valid {p : Prm} (h : Ok p) {V R : Int} (hV : p.fl ≤ V) (hV' : V ≤ 1048576) (hR : 0 ≤ R) (hR' : R ≤ p.re) (l : List Int) :
    p.fl ≤ (after p V R l).1 ∧ (after p V R l).1 ≤ 1048576 ∧ 0 ≤ (after p V R l).2 ∧ (after p V R l).2 ≤ p.re := by
  induction l generalizing V R with
  | nil => exact ⟨hV, hV', hR, hR'⟩
  | cons i r ih =>
    rw [after_cons]
    obtain ⟨a, b, c, d⟩ := tick_valid h i hV hV' hR hR'
    exact ih a b c d

theorem cells1 {W : World} {b : Nat} {v0 : Value} {t : TypeId} (h : W.heap[b]? = some (.cells #[v0] t)) : W.cell? ⟨b, 0, none⟩ = some v0 ∧ W.frozen? ⟨b, 0, none⟩ = false := by simp [World.cell?, World.frozen?, h]
theorem cells2 {W : World} {b : Nat} {v0 v1 : Value} {t : TypeId} (h : W.heap[b]? = some (.cells #[v0, v1] t)) : W.cell? ⟨b, 0, none⟩ = some v0 ∧ W.cell? ⟨b, 1, none⟩ = some v1 ∧ W.frozen? ⟨b, 0, none⟩ = false ∧ W.frozen? ⟨b, 1, none⟩ = false := by simp [World.cell?, World.frozen?, h]
theorem cells3 {W : World} {b : Nat} {v0 v1 v2 : Value} {t : TypeId} (h : W.heap[b]? = some (.cells #[v0, v1, v2] t)) : W.cell? ⟨b, 0, none⟩ = some v0 ∧ W.cell? ⟨b, 1, none⟩ = some v1 ∧ W.cell? ⟨b, 2, none⟩ = some v2 := by simp [World.cell?, h]
theorem cells8 {W : World} {b : Nat} {v0 v1 v2 v3 v4 v5 v6 v7 : Value} {t : TypeId} (h : W.heap[b]? = some (.cells #[v0, v1, v2, v3, v4, v5, v6, v7] t)) :
    W.cell? ⟨b, 0, none⟩ = some v0 ∧ W.cell? ⟨b, 1, none⟩ = some v1 ∧ W.cell? ⟨b, 2, none⟩ = some v2 ∧ W.cell? ⟨b, 3, none⟩ = some v3 ∧ W.cell? ⟨b, 4, none⟩ = some v4 ∧ W.cell? ⟨b, 5, none⟩ = some v5 ∧ W.cell? ⟨b, 6, none⟩ = some v6 ∧ W.cell? ⟨b, 7, none⟩ = some v7 := by simp [World.cell?, h]
theorem lt_of_block {W : World} {b : Nat} {o : Obj} (h : W.heap[b]? = some o) : b < W.heap.size := (Array.getElem?_eq_some_iff.1 h).1

theorem set2_0 {W : World} {b : Nat} {v0 v1 : Value} {t : TypeId} {m : Nat × Nat} (h : W.heap[b]? = some (.cells #[v0, v1] t m)) (u : Value) : (W.setCell ⟨b, 0, none⟩ u).heap[b]? = some (.cells #[u, v1] t m) := by
  simp [World.setCell, Array.getElem?_modify, h]
theorem set2_1 {W : World} {b : Nat} {v0 v1 : Value} {t : TypeId} {m : Nat × Nat} (h : W.heap[b]? = some (.cells #[v0, v1] t m)) (u : Value) : (W.setCell ⟨b, 1, none⟩ u).heap[b]? = some (.cells #[v0, u] t m) := by
  simp [World.setCell, Array.getElem?_modify, h]
theorem set1_0 {W : World} {b : Nat} {v0 : Value} {t : TypeId} {m : Nat × Nat} (h : W.heap[b]? = some (.cells #[v0] t m)) (u : Value) : (W.setCell ⟨b, 0, none⟩ u).heap[b]? = some (.cells #[u] t m) := by
  simp [World.setCell, Array.getElem?_modify, h]

end Go.Proofs.YtnbndciididpoaaGreat
