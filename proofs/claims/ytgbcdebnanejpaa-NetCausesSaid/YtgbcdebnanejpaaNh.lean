/- The network of the examples; net.before. -/
import Derived.Test.YtgbcdebnanejpaaNg
namespace Go.Proofs.Ytgbcdebnanejpaa
set_option linter.unusedVariables false
open Go.RowKit Go.Shelf

theorem cells3f {W : World} {b : Nat} {v0 v1 v2 : Value} {t : TypeId} (h : W.heap[b]? = some (.cells #[v0, v1, v2] t)) : W.cell? ⟨b, 0, none⟩ = some v0 ∧ W.cell? ⟨b, 1, none⟩ = some v1 ∧ W.cell? ⟨b, 2, none⟩ = some v2 ∧ W.frozen? ⟨b, 0, none⟩ = false ∧ W.frozen? ⟨b, 1, none⟩ = false ∧ W.frozen? ⟨b, 2, none⟩ = false := by simp [World.cell?, World.frozen?, h]
def netE : NetM := ⟨[pA, pA], 1, [⟨-1, 0, 6, 1⟩, ⟨0, 1, 6, 3⟩]⟩
/-- A value that reads as a network. -/
def NetAt (W : World) (v : Value) (n : NetM) : Prop := ∃ a1 c1 a2 c2, v = .agg #[.slice a1 n.ps.length c1, .int .i64 n.inp, .slice a2 n.ss.length c2] ∧ PsAt W (.slice a1 n.ps.length c1) n.ps ∧ SsAt W (.slice a2 n.ss.length c2) n.ss
def EOut (w : World) (e : Ending) (w' : World) : Prop := ∃ v, e = .returned v ∧ NetAt w' v netE ∧ Below w.heap.size w w'

set_option maxRecDepth 100000 in
set_option maxHeartbeats 2000000 in
theorem E_any (w : World) : Calls Try.prog 51 #[] w (EOut w) := by
  go_enter Try.func51, Try.ntmps51
  go_upto_region 2 with (go_at_call 84; refine (A_any _).mono ?_; rintro e w1 ⟨rfl, hb1⟩; have hz1 : w.heap.size < w1.heap.size := (by have := hb1.size; simp at this; omega))
  have hbk : (w1.alloc (.cells #[.int .i64 1, .int .i64 1, .int .i64 0, .int .i64 5, .int .i64 0, .int .i64 0, .int .i64 (-4), .int .i64 1] 39)).heap[w.heap.size]? = some (.cells #[.slice none 0 0, .int .i64 0, .slice none 0 0] 25) := (Below.heap_alloc _ _ _ hz1).trans ((hb1.block _ (by simp)).trans (alloc_new_at _ _ _ rfl))
  have hbp : (w1.alloc (.cells #[.int .i64 1, .int .i64 1, .int .i64 0, .int .i64 5, .int .i64 0, .int .i64 0, .int .i64 (-4), .int .i64 1] 39)).heap[w1.heap.size]? = some (.cells #[.int .i64 1, .int .i64 1, .int .i64 0, .int .i64 5, .int .i64 0, .int .i64 0, .int .i64 (-4), .int .i64 1] 39) := alloc_new_at _ _ _ rfl
  have hbb : Below w.heap.size w (w1.alloc (.cells #[.int .i64 1, .int .i64 1, .int .i64 0, .int .i64 5, .int .i64 0, .int .i64 0, .int .i64 (-4), .int .i64 1] 39)) := (((Below.refl _ _).alloc (Nat.le_refl _) _).trans (hb1.mono (by simp))).alloc (by omega) _
  have hlp : w1.heap.size < (w1.alloc (.cells #[.int .i64 1, .int .i64 1, .int .i64 0, .int .i64 5, .int .i64 0, .int .i64 0, .int .i64 (-4), .int .i64 1] 39)).heap.size := by simp
  clear hb1
  generalize w1.alloc (.cells #[.int .i64 1, .int .i64 1, .int .i64 0, .int .i64 5, .int .i64 0, .int .i64 0, .int .i64 (-4), .int .i64 1] 39) = W2 at *
  generalize w1.heap.size = B1 at *
  obtain ⟨_, _, _, _, _, _⟩ := cells3f hbk
  obtain ⟨_, _, _, _, _, _, _, _⟩ := cells8 hbp
  have hl0 : w.heap.size < W2.heap.size := lt_of_block hbk
  go_wp2
  have hS : (((W2.setCell ⟨w.heap.size, 0, none⟩ (.slice (some ⟨W2.heap.size, 0, none⟩) 2 2)).setCell ⟨w.heap.size, 1, none⟩ (.int .i64 1)).setCell ⟨w.heap.size, 2, none⟩ (.slice (some ⟨W2.heap.size + 1, 0, none⟩) 2 2)).heap[w.heap.size]? = some (.cells #[.slice (some ⟨W2.heap.size, 0, none⟩) 2 2, .int .i64 1, .slice (some ⟨W2.heap.size + 1, 0, none⟩) 2 2] 25) := by
    simp [World.setCell, Array.getElem?_modify, hbk]
  have hSB : Below w.heap.size w (((W2.setCell ⟨w.heap.size, 0, none⟩ (.slice (some ⟨W2.heap.size, 0, none⟩) 2 2)).setCell ⟨w.heap.size, 1, none⟩ (.int .i64 1)).setCell ⟨w.heap.size, 2, none⟩ (.slice (some ⟨W2.heap.size + 1, 0, none⟩) 2 2)) :=
    ((hbb.setCell (p := ⟨w.heap.size, 0, none⟩) (by simp) _).setCell (p := ⟨w.heap.size, 1, none⟩) (by simp) _).setCell (p := ⟨w.heap.size, 2, none⟩) (by simp) _
  have hSZ : (((W2.setCell ⟨w.heap.size, 0, none⟩ (.slice (some ⟨W2.heap.size, 0, none⟩) 2 2)).setCell ⟨w.heap.size, 1, none⟩ (.int .i64 1)).setCell ⟨w.heap.size, 2, none⟩ (.slice (some ⟨W2.heap.size + 1, 0, none⟩) 2 2)).heap.size = W2.heap.size := by simp [World.setCell]
  generalize ((W2.setCell ⟨w.heap.size, 0, none⟩ (.slice (some ⟨W2.heap.size, 0, none⟩) 2 2)).setCell ⟨w.heap.size, 1, none⟩ (.int .i64 1)).setCell ⟨w.heap.size, 2, none⟩ (.slice (some ⟨W2.heap.size + 1, 0, none⟩) 2 2) = W3 at *
  have h1 : ((W3.alloc (.cells #[.int .i64 1, .int .i64 1, .int .i64 0, .int .i64 5, .int .i64 0, .int .i64 0, .int .i64 (-4), .int .i64 1, .int .i64 1, .int .i64 1, .int .i64 0, .int .i64 5, .int .i64 0, .int .i64 0, .int .i64 (-4), .int .i64 1] 39)).alloc (.cells #[.int .i64 (-1), .int .i64 0, .int .i64 6, .int .i64 1, .int .i64 0, .int .i64 1, .int .i64 6, .int .i64 3] 96)).heap[W2.heap.size]? = some (.cells #[.int .i64 1, .int .i64 1, .int .i64 0, .int .i64 5, .int .i64 0, .int .i64 0, .int .i64 (-4), .int .i64 1, .int .i64 1, .int .i64 1, .int .i64 0, .int .i64 5, .int .i64 0, .int .i64 0, .int .i64 (-4), .int .i64 1] 39) := (Below.heap_alloc _ _ _ (by simp; omega)).trans (alloc_new_at _ _ _ hSZ.symm)
  have h2 : ((W3.alloc (.cells #[.int .i64 1, .int .i64 1, .int .i64 0, .int .i64 5, .int .i64 0, .int .i64 0, .int .i64 (-4), .int .i64 1, .int .i64 1, .int .i64 1, .int .i64 0, .int .i64 5, .int .i64 0, .int .i64 0, .int .i64 (-4), .int .i64 1] 39)).alloc (.cells #[.int .i64 (-1), .int .i64 0, .int .i64 6, .int .i64 1, .int .i64 0, .int .i64 1, .int .i64 6, .int .i64 3] 96)).heap[W2.heap.size + 1]? = some (.cells #[.int .i64 (-1), .int .i64 0, .int .i64 6, .int .i64 1, .int .i64 0, .int .i64 1, .int .i64 6, .int .i64 3] 96) := alloc_new_at _ _ _ (by simp [hSZ])
  have h3 : ((W3.alloc (.cells #[.int .i64 1, .int .i64 1, .int .i64 0, .int .i64 5, .int .i64 0, .int .i64 0, .int .i64 (-4), .int .i64 1, .int .i64 1, .int .i64 1, .int .i64 0, .int .i64 5, .int .i64 0, .int .i64 0, .int .i64 (-4), .int .i64 1] 39)).alloc (.cells #[.int .i64 (-1), .int .i64 0, .int .i64 6, .int .i64 1, .int .i64 0, .int .i64 1, .int .i64 6, .int .i64 3] 96)).heap[w.heap.size]? = _ := ((Below.heap_alloc _ _ _ (by simp; omega)).trans (Below.heap_alloc _ _ _ (by omega))).trans hS
  have h4 : Below w.heap.size w ((W3.alloc (.cells #[.int .i64 1, .int .i64 1, .int .i64 0, .int .i64 5, .int .i64 0, .int .i64 0, .int .i64 (-4), .int .i64 1, .int .i64 1, .int .i64 1, .int .i64 0, .int .i64 5, .int .i64 0, .int .i64 0, .int .i64 (-4), .int .i64 1] 39)).alloc (.cells #[.int .i64 (-1), .int .i64 0, .int .i64 6, .int .i64 1, .int .i64 0, .int .i64 1, .int .i64 6, .int .i64 3] 96)) := (hSB.alloc (by omega) _).alloc (by simp; omega) _
  have h5 : W2.heap.size + 1 < ((W3.alloc (.cells #[.int .i64 1, .int .i64 1, .int .i64 0, .int .i64 5, .int .i64 0, .int .i64 0, .int .i64 (-4), .int .i64 1, .int .i64 1, .int .i64 1, .int .i64 0, .int .i64 5, .int .i64 0, .int .i64 0, .int .i64 (-4), .int .i64 1] 39)).alloc (.cells #[.int .i64 (-1), .int .i64 0, .int .i64 6, .int .i64 1, .int .i64 0, .int .i64 1, .int .i64 6, .int .i64 3] 96)).heap.size := by simp; omega
  generalize (W3.alloc (.cells #[.int .i64 1, .int .i64 1, .int .i64 0, .int .i64 5, .int .i64 0, .int .i64 0, .int .i64 (-4), .int .i64 1, .int .i64 1, .int .i64 1, .int .i64 0, .int .i64 5, .int .i64 0, .int .i64 0, .int .i64 (-4), .int .i64 1] 39)).alloc (.cells #[.int .i64 (-1), .int .i64 0, .int .i64 6, .int .i64 1, .int .i64 0, .int .i64 1, .int .i64 6, .int .i64 3] 96) = W4 at *
  obtain ⟨d0, d1, d2, _, _, _⟩ := cells3f h3
  refine bodyPost_ret (v := .agg #[.slice (some ⟨W2.heap.size, 0, none⟩) 2 2, .int .i64 1, .slice (some ⟨W2.heap.size + 1, 0, none⟩) 2 2]) (by simp [results, Try.results51, go_sem, d0, d1, d2]) rfl ⟨_, rfl, ⟨_, 2, _, 2, rfl, Or.inr ⟨W2.heap.size, 0, 2, rfl, by omega, fun k p hk => ?_⟩, Or.inr ⟨W2.heap.size + 1, 0, 2, rfl, h5, fun k p hk => ?_⟩⟩, h4⟩
  · match k, hk with
    | 0, hk => cases hk; constructor <;> simp [World.cell?, h1, pA]
    | 1, hk => cases hk; constructor <;> simp [World.cell?, h1, pA]
    | n + 2, hk => simp [netE] at hk
  · match k, hk with
    | 0, hk => cases hk; constructor <;> simp [World.cell?, h2]
    | 1, hk => cases hk; constructor <;> simp [World.cell?, h2]
    | n + 2, hk => simp [netE] at hk
end Go.Proofs.Ytgbcdebnanejpaa
