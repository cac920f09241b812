/- neuron.collect: the ticks with spikes, and the state behind them. -/
import Derived.Test.YtnbndciididpoaaGreatE
import Derived.Test.YtnbndciididpoaaGreatG
namespace Go.Proofs.YtnbndciididpoaaGreat
set_option linter.unusedVariables false
open Go.RowKit Go.Shelf
attribute [local go_sem] Oper.semAt_some

/-- The numbers, below k, of the ticks with a spike. -/
def spkL (xs : List ((Int × Int) × Bool)) (k : Nat) : List Int := (List.range k).filterMap fun j : Nat => if ((xs[j]?).map (fun x => x.2)).getD false then some (j : Int) else none
theorem spkL_succ {xs : List ((Int × Int) × Bool)} {k : Nat} {x : (Int × Int) × Bool} (h : xs[k]? = some x) : spkL xs (k + 1) = spkL xs k ++ if x.2 then [(k : Int)] else [] := by
  unfold spkL
  rw [List.range_succ, List.filterMap_append]
  congr 1
  by_cases hx : x.2 <;> simp [h, hx]
theorem spkL_le (xs : List ((Int × Int) × Bool)) (k : Nat) : (spkL xs k).length ≤ k := by
  unfold spkL
  have := List.length_filterMap_le (fun j : Nat => if ((xs[j]?).map (fun x => x.2)).getD false then some (j : Int) else none) (List.range k)
  simpa using this

theorem ownsRow_forms {W : World} {base : Nat} {e : TypeId} {size : Nat} {v : Value} {n : Nat} {xs : List Value} (h : W.ownsRow base e size v n xs) : (v = .slice none 0 0 ∧ n = 0) ∨ ∃ g cap, v = .slice (some ⟨g, 0, none⟩) n cap := by
  rcases h.2 with hn | ⟨g, cap, _, rfl, _⟩
  · exact Or.inl hn
  · exact Or.inr ⟨g, cap, rfl⟩

theorem alloc_new_at (W : World) (o : Obj) (k : Nat) (h : k = W.heap.size) : (W.alloc o).heap[k]? = some o := by subst h; exact World.alloc_heap_new W o

theorem Tryz.info3 : (Tryz.prog.info? 3).map (fun i => (i.zero, i.size, i.bytes)) = some (some (.int .i64 0), 1, 8) := by kernel_rfl

/-- What collect returns. -/
def Collected (p : Prm) (V R : Int) (ins : List Int) (w : World) (e : Ending) (w' : World) : Prop :=
  ∃ v, e = .returned (.tuple #[v, .agg #[.int .i64 (after p V R ins).1, .int .i64 (after p V R ins).2]]) ∧
    w'.ownsRow w.heap.size 3 1 v (spkL (runL p V R ins) ins.length).length ((spkL (runL p V R ins) ins.length).map (Value.int .i64)) ∧ Below w.heap.size w w'

/-- What the loop of collect holds: N: the heap's size when the call began. -/
def CollI (p : Prm) (V R : Int) (ins : List Int) (w : World) (G : Nat → Prop) (k : Nat) (A : World) : Prop :=
  A.heap[w.heap.size + 1]? = some (.cells #[.int .i64 (after p V R (ins.take k)).1, .int .i64 (after p V R (ins.take k)).2] 190) ∧
  A.heap[w.heap.size + 2]? = some (.cells #[.int .i64 0, .int .i64 0] 190) ∧
  A.heap[w.heap.size + 4]? = some (.cells #[.int .i64 (k : Int)] 3) ∧
  (∃ v, A.heap[w.heap.size + 3]? = some (.cells #[v] 26) ∧ A.ownsRow w.heap.size 3 1 v (spkL (runL p V R ins) k).length ((spkL (runL p V R ins) k).map (Value.int .i64)) ∧ ∀ g, v.ownBlock = some g → G g) ∧
  Below w.heap.size w A

theorem CollI.stab {p : Prm} {V R : Int} {ins : List Int} {w : World} {N : Nat} (hN : w.heap.size + 5 ≤ N) {G : Nat → Prop} {k : Nat} {A A' : World} (h : CollI p V R ins w G k A) (hb : Bel (fun b => N ≤ b ∧ ¬ G b) A.heap.size A A') : CollI p V R ins w G k A' := by
  obtain ⟨h1, h2, h3, ⟨v, h4, h5, h6⟩, h7⟩ := h
  refine ⟨(hb.block _ (lt_of_block h1) (by omega)).trans h1, (hb.block _ (lt_of_block h2) (by omega)).trans h2, (hb.block _ (lt_of_block h3) (by omega)).trans h3,
    ⟨v, (hb.block _ (lt_of_block h4) (by omega)).trans h4, ownsRow_of_block h5 fun g hg => hb.block g (h5.lt g hg).2 (fun h => h.2 (h6 g hg)), h6⟩, h7.trans (hb.below (by have := lt_of_block h1; omega) (fun b h => by omega))⟩

end Go.Proofs.YtnbndciididpoaaGreat
