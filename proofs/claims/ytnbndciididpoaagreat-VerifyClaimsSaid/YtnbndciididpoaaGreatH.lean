/- neuron.Run and Silent. -/
import Derived.Test.YtnbndciididpoaaGreatF
import Derived.Deep.RegionHeld3
import Derived.Deep.RegionWith
import Derived.Deep.Cut
import Derived.BigRegion
namespace Go.Proofs.YtnbndciididpoaaGreat
set_option linter.unusedVariables false
open Go.RowKit Go.Shelf

theorem alloc_old_new (W : World) (o o' : Obj) : ((W.alloc o).alloc o').heap[W.heap.size]? = some o := by rw [Below.heap_alloc _ _ _ (by simp)]; exact World.alloc_heap_new _ _

theorem IntsAt.below {w W : World} {sv : Value} {zs : List Int} (h : IntsAt w sv zs) (hb : Below w.heap.size w W) : IntsAt W sv zs := by
  rcases h with h | ⟨b, off, cap, e, hc⟩
  · exact Or.inl h
  · exact Or.inr ⟨b, off, cap, e, fun j hj => (hb.cell (p := ⟨b, off + j, none⟩) (World.block_lt_of_cell? w _ (hc j hj))).trans (hc j hj)⟩

/-- What Run returns where it returns no error: the ticks with spikes, the state, 0. -/
def RunDone (p : Prm) (V R : Int) (ins : List Int) (w : World) (e : Ending) (w' : World) : Prop :=
  ∃ v, e = .returned (.tuple #[v, .agg #[.int .i64 (after p V R ins).1, .int .i64 (after p V R ins).2], .int .i64 0]) ∧
    w'.ownsRow w.heap.size 3 1 v (spkL (runL p V R ins) ins.length).length ((spkL (runL p V R ins) ins.length).map (Value.int .i64)) ∧ Below w.heap.size w w'

theorem cell_two_far {W : World} {b o c : Nat} {x u u' : Value} (h : W.cell? ⟨b, o, none⟩ = some x) (hne : b ≠ c) : ((W.setCell ⟨c, 0, none⟩ u).setCell ⟨c, 1, none⟩ u').cell? ⟨b, o, none⟩ = some x := by
  rw [← h]; exact World.cell?_of_block (w := W) (by rw [Below.heap_setCell _ _ _ _ (by exact hne), Below.heap_setCell _ _ _ _ (by exact hne)])

/-- What a block of parameters, or of a state, reads as. -/
def PrmAt (p : Prm) (b : Nat) (W : World) : Prop := W.heap[b]? = some (.cells #[.int .i64 p.lk, .int .i64 p.lv, .int .i64 p.bi, .int .i64 p.th, .int .i64 p.rk, .int .i64 p.rs, .int .i64 p.fl, .int .i64 p.re] 128)
def StAt (V R : Int) (b : Nat) (W : World) : Prop := W.heap[b]? = some (.cells #[.int .i64 V, .int .i64 R] 190)

/-- What collect has left, for the caller whose world was w1. -/
def ColAt (p : Prm) (V R : Int) (ins : List Int) (w1 W : World) (e : Ending) (w2 : World) : Prop :=
  ∃ v, e = .returned (.tuple #[v, .agg #[.int .i64 (after p V R ins).1, .int .i64 (after p V R ins).2]]) ∧
    w2.ownsRow w1.heap.size 3 1 v (spkL (runL p V R ins) ins.length).length ((spkL (runL p V R ins) ins.length).map (Value.int .i64)) ∧ (∀ g, v.ownBlock = some g → W.heap.size ≤ g) ∧ Below W.heap.size W w2 ∧ Below w1.heap.size w1 w2

end Go.Proofs.YtnbndciididpoaaGreat
