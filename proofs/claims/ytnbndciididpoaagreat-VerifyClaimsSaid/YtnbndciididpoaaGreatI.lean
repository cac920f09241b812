/- neuron.Next. -/
import Derived.Test.YtnbndciididpoaaGreatH
namespace Go.Proofs.YtnbndciididpoaaGreat
set_option linter.unusedVariables false
open Go.RowKit Go.Shelf
attribute [local go_sem] Oper.semAt_some

/-- The state behind k silent ticks. -/
def sil (p : Prm) (V R : Int) (k : Nat) : Int × Int := after p V R (List.replicate k 0)
theorem sil_succ (p : Prm) (V R : Int) (k : Nat) : sil p V R (k + 1) = (tV p (sil p V R k).1 (sil p V R k).2 0, tR p (sil p V R k).1 (sil p V R k).2 0) := by
  unfold sil; rw [List.replicate_succ', after_snoc]
/-- In the silent tick number k there is a spike. -/
def silS (p : Prm) (V R : Int) (k : Nat) : Bool := tS p (sil p V R k).1 (sil p V R k).2 0
/-- k is the first silent tick with a spike, or behind which the state is as before it. -/
structure StopAt (p : Prm) (V R : Int) (k : Nat) : Prop where
  lt : k < 2097218
  before : ∀ j, j < k → silS p V R j = false ∧ sil p V R (j + 1) ≠ sil p V R j
  stop : silS p V R k = true ∨ sil p V R (k + 1) = sil p V R k

theorem runL_sil (p : Prm) (V R : Int) (n k : Nat) (x : (Int × Int) × Bool) (h : (runL p V R (List.replicate n 0))[k]? = some x) : k < n ∧ x = (sil p V R (k + 1), silS p V R k) := by
  have hk : k < n := by have := (List.getElem?_eq_some_iff.1 h).1; rw [runL_length] at this; simpa using this
  have := runL_get p V R (List.replicate n 0) k 0 (by simp [hk])
  rw [h] at this
  refine ⟨hk, ?_⟩
  have e1 : (List.replicate n (0 : Int)).take (k + 1) = List.replicate (k + 1) 0 := by rw [List.take_replicate]; congr 1; omega
  have e2 : (List.replicate n (0 : Int)).take k = List.replicate k 0 := by rw [List.take_replicate]; congr 1; omega
  rw [e1, e2] at this
  exact Option.some.inj this

/-- What Next returns. -/
def nextR (p : Prm) (V R : Int) (K : Nat) : Int := if silS p V R K then (K : Int) else -1

def NextI (p : Prm) (V R : Int) (K nb : Nat) (w : World) (k : Nat) (A : World) : Prop :=
  k ≤ K ∧ A.heap[w.heap.size + 1]? = some (.cells #[.int .i64 (sil p V R k).1, .int .i64 (sil p V R k).2] 190) ∧ A.heap[w.heap.size + 2]? = some (.cells #[.int .i64 0] 3) ∧ A.heap[w.heap.size + 3]? = some (.cells #[.int .i64 0] 34) ∧
  A.heap[nb]? = some (.cells #[.int .i64 (k : Int)] 3) ∧ Below w.heap.size w A
def NextX (p : Prm) (V R : Int) (K : Nat) (w : World) (c : Code) (A : World) : Prop :=
  (c = .ret ∧ silS p V R K = true ∧ A.heap[w.heap.size + 2]? = some (.cells #[.int .i64 (K : Int)] 3) ∧ A.heap[w.heap.size + 3]? = some (.cells #[.int .i64 0] 34) ∧ Below w.heap.size w A) ∨
  (c = .exit 0 ∧ silS p V R K = false ∧ A.heap[w.heap.size + 2]? = some (.cells #[.int .i64 0] 3) ∧ A.heap[w.heap.size + 3]? = some (.cells #[.int .i64 0] 34) ∧ Below w.heap.size w A)

end Go.Proofs.YtnbndciididpoaaGreat
