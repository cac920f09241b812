/- The specification's Cycle; both with an error. -/
import Derived.Test.YtkpabecnimakpaaCy
import Derived.Test.YtkpabecnimakpaaL
namespace Go.Proofs.Ytkpabecnimakpaa
set_option linter.unusedVariables false
open Go.RowKit Go.Shelf

/-- neuron.Cycle where the state is valid, as a plain call. -/
theorem cycle_ok (p : Prm) (V R i : Int) (hv : validP p V R = 0) (K j : Nat) (hK : CycS p V R i K j) (w : World) :
    Calls Try.prog 31 #[.agg #[.int .i64 p.lk, .int .i64 p.lv, .int .i64 p.bi, .int .i64 p.th, .int .i64 p.rk, .int .i64 p.rs, .int .i64 p.fl, .int .i64 p.re], .agg #[.int .i64 V, .int .i64 R], .int .i64 i] w fun e w' =>
      e = .returned (.tuple #[.int .i64 (cycR p V R i K j).1, .int .i64 (cycR p V R i K j).2.1, .int .i64 (cycR p V R i K j).2.2.1, .int .i64 (cycR p V R i K j).2.2.2]) ∧ Below w.heap.size w w' := callsIn_wide.1 (cycle_in p V R i hv K j hK w)

def VisI (p : Prm) (V R i : Int) (K mb B : Nat) (w1 : World) (k : Nat) (s12 : Value) (A : World) : Prop :=
  k < K ∧ A.heap[B + 1]? = some (.cells #[.int .i64 (stk p V R i k).1, .int .i64 (stk p V R i k).2] 25) ∧ True

set_option maxRecDepth 100000 in
set_option maxHeartbeats 2000000 in
theorem rcycle_err (p : Prm) (V R i : Int) (hv : validP p V R ≠ 0) (w : World) :
    Calls Try.prog 32 #[.agg #[.int .i64 p.lk, .int .i64 p.lv, .int .i64 p.bi, .int .i64 p.th, .int .i64 p.rk, .int .i64 p.rs, .int .i64 p.fl, .int .i64 p.re], .agg #[.int .i64 V, .int .i64 R], .int .i64 i] w fun e w' =>
      e = .returned (.tuple #[.int .i64 0, .int .i64 0, .int .i64 0, .int .i64 (validP p V R)]) ∧ Below w.heap.size w w' := by
  have g1 : (validP p V R != 0) = true := by simp [hv]
  clear hv
  go_enter Try.func32, Try.ntmps32
  go_wp2_with (go_at_call 20; refine (rvalid_any p V R _).mono ?_; rintro e w1 ⟨rfl, hb1⟩)
  exact bodyPost_ret (v := .tuple #[.int .i64 0, .int .i64 0, .int .i64 0, .int .i64 (validP p V R)]) (by simp [results, Try.results32, go_sem]) rfl ⟨rfl, (((Below.refl _ _).alloc (Nat.le_refl _) _).alloc (by simp) _).trans (hb1.mono (by simp <;> omega))⟩

/-- The results as they stand once the error has been laid: nothing that is still to be done changes them. -/
structure CyE (B : Nat) (ev : Int) (w W : World) : Prop where
  c2 : W.heap[B + 1 + 1]? = some (.cells #[.int .i64 0] 3)
  c3 : W.heap[B + 1 + 1 + 1]? = some (.cells #[.int .i64 0] 3)
  c4 : W.heap[B + 1 + 1 + 1 + 1]? = some (.cells #[.int .i64 0] 3)
  c5 : W.heap[B + 1 + 1 + 1 + 1 + 1]? = some (.cells #[.int .i64 ev] 26)
  bel : Below B w W
theorem CyE.set {B : Nat} {ev : Int} {w W : World} (h : CyE B ev w W) (b : Nat) (hb : b = B + 1 + 1 ∨ b = B + 1 + 1 + 1 ∨ b = B + 1 + 1 + 1 + 1) : CyE B ev w (W.setCell ⟨b, 0, none⟩ (.int .i64 0)) := by
  obtain ⟨h2, h3, h4, h5, h6⟩ := h
  rcases hb with rfl | rfl | rfl
  · exact ⟨set1_0 h2 _, (Below.heap_setCell _ _ _ _ (by simp)).trans h3, (Below.heap_setCell _ _ _ _ (by simp <;> omega)).trans h4, (Below.heap_setCell _ _ _ _ (by simp <;> omega)).trans h5, h6.setCell (by simp <;> omega) _⟩
  · exact ⟨(Below.heap_setCell _ _ _ _ (by simp <;> omega)).trans h2, set1_0 h3 _, (Below.heap_setCell _ _ _ _ (by simp <;> omega)).trans h4, (Below.heap_setCell _ _ _ _ (by simp <;> omega)).trans h5, h6.setCell (by simp <;> omega) _⟩
  · exact ⟨(Below.heap_setCell _ _ _ _ (by simp <;> omega)).trans h2, (Below.heap_setCell _ _ _ _ (by simp <;> omega)).trans h3, set1_0 h4 _, (Below.heap_setCell _ _ _ _ (by simp <;> omega)).trans h5, h6.setCell (by simp <;> omega) _⟩
theorem CyE.set5 {B : Nat} {ev : Int} {w W : World} (h : CyE B ev w W) : CyE B ev w (W.setCell ⟨B + 1 + 1 + 1 + 1 + 1, 0, none⟩ (.int .i64 ev)) := by
  obtain ⟨h2, h3, h4, h5, h6⟩ := h
  exact ⟨(Below.heap_setCell _ _ _ _ (by simp <;> omega)).trans h2, (Below.heap_setCell _ _ _ _ (by simp <;> omega)).trans h3, (Below.heap_setCell _ _ _ _ (by simp <;> omega)).trans h4, set1_0 h5 _, h6.setCell (by simp <;> omega) _⟩

set_option maxRecDepth 100000 in
set_option maxHeartbeats 2000000 in
theorem cycle_err_in (p : Prm) (V R i : Int) (hv : validP p V R ≠ 0) (w : World) :
    CallsIn Fence.wide 0 Try.prog 31 #[.agg #[.int .i64 p.lk, .int .i64 p.lv, .int .i64 p.bi, .int .i64 p.th, .int .i64 p.rk, .int .i64 p.rs, .int .i64 p.fl, .int .i64 p.re], .agg #[.int .i64 V, .int .i64 R], .int .i64 i] w fun e w' =>
      e = .returned (.tuple #[.int .i64 0, .int .i64 0, .int .i64 0, .int .i64 (validP p V R)]) ∧ Below w.heap.size w w' := by
  have g1 : (validP p V R != 0) = true := by simp [hv]
  clear hv
  obtain ⟨ev, hev⟩ : ∃ ev, ev = validP p V R := ⟨_, rfl⟩
  rw [← hev] at g1 ⊢
  have HEV := Lib.hid hev
  clear hev
  refine callsIn_of_wp_marks Try.func31 rfl trivial ?_ rfl
  simp only [Try.ntmps31, List.size_toArray, List.length_cons, List.length_nil, Nat.reduceAdd, Nat.reduceSub, Array.replicate_succ, Array.replicate_zero, List.push_toArray, List.append_toArray, List.nil_append, List.cons_append]
  gi_wp2_with (refine ⟨trivial, rfl, ?_⟩; gi_at_call 19; refine (callsIn_wide.2 (valid_any p V R _)).mono ?_; rintro e w1 ⟨rfl, hb1⟩; have hz1 : w.heap.size + 5 < w1.heap.size := (by have := hb1.size; simp at this; omega); rw [← HEV.out]; have r5 : w1.heap[w.heap.size + 1 + 1 + 1 + 1 + 1]? = some (.cells #[.int .i64 0] 26) := (by rw [hb1.block _ (by simp <;> omega)]; exact alloc_new_at _ _ _ (by simp)); obtain ⟨_, _⟩ := cells1 r5)
  have a2 : (w1.setCell ⟨w.heap.size + 1 + 1 + 1 + 1 + 1, 0, none⟩ (.int .i64 ev)).heap[w.heap.size + 1 + 1]? = some (.cells #[.int .i64 0] 3) := by
    rw [Below.heap_setCell _ _ _ _ (by simp <;> omega), hb1.block _ (by simp <;> omega), Below.heap_alloc _ _ _ (by simp <;> omega), Below.heap_alloc _ _ _ (by simp <;> omega), Below.heap_alloc _ _ _ (by simp <;> omega)]; exact alloc_new_at _ _ _ (by simp)
  have a3 : (w1.setCell ⟨w.heap.size + 1 + 1 + 1 + 1 + 1, 0, none⟩ (.int .i64 ev)).heap[w.heap.size + 1 + 1 + 1]? = some (.cells #[.int .i64 0] 3) := by
    rw [Below.heap_setCell _ _ _ _ (by simp <;> omega), hb1.block _ (by simp <;> omega), Below.heap_alloc _ _ _ (by simp <;> omega), Below.heap_alloc _ _ _ (by simp <;> omega)]; exact alloc_new_at _ _ _ (by simp)
  have a4 : (w1.setCell ⟨w.heap.size + 1 + 1 + 1 + 1 + 1, 0, none⟩ (.int .i64 ev)).heap[w.heap.size + 1 + 1 + 1 + 1]? = some (.cells #[.int .i64 0] 3) := by
    rw [Below.heap_setCell _ _ _ _ (by simp <;> omega), hb1.block _ (by simp <;> omega), Below.heap_alloc _ _ _ (by simp <;> omega)]; exact alloc_new_at _ _ _ (by simp)
  have a5 : (w1.setCell ⟨w.heap.size + 1 + 1 + 1 + 1 + 1, 0, none⟩ (.int .i64 ev)).heap[w.heap.size + 1 + 1 + 1 + 1 + 1]? = some (.cells #[.int .i64 ev] 26) := set1_0 r5 _
  have a6 : Below w.heap.size w (w1.setCell ⟨w.heap.size + 1 + 1 + 1 + 1 + 1, 0, none⟩ (.int .i64 ev)) :=
    Below.setCell (((((((Below.refl _ _).alloc (Nat.le_refl _) _).alloc (by simp) _).alloc (by simp <;> omega) _).alloc (by simp <;> omega) _).alloc (by simp <;> omega) _).alloc (by simp <;> omega) _ |>.trans (hb1.mono (by simp <;> omega))) (by simp <;> omega) _
  generalize w1.setCell ⟨w.heap.size + 1 + 1 + 1 + 1 + 1, 0, none⟩ (.int .i64 ev) = W0 at *
  have HA := Lib.hid (show CyE w.heap.size ev w W0 from ⟨a2, a3, a4, a5, a6⟩)
  clear a2 a3 a4 a5 a6 r5
  refine wpIn_region_vals' (fun n => match n with | 0 => .int .i64 ev | _ => undef) (fun _ W => CyE w.heap.size ev w W) (by kernel_rfl) (by kernel_rfl) (by kernel_rfl) (by kernel_rfl) ?ini ?stp ?dn
  case ini => exact ⟨HA.out.c2, HA.out.c3, HA.out.c4, HA.out.c5, ⟨HA.out.bel.os, HA.out.bel.tape, HA.out.bel.output, HA.out.bel.size, HA.out.bel.block⟩⟩
  case dn =>
    intro W b hI hh hbs
    have HI := Lib.hid hI
    obtain ⟨_, _⟩ := cells1 hI.c2
    obtain ⟨_, _⟩ := cells1 hI.c3
    obtain ⟨_, _⟩ := cells1 hI.c4
    obtain ⟨_, _⟩ := cells1 hI.c5
    clear hI
    have q6 := hh.kept 6 (by simp)
    have q7 := hh.kept 7 (by simp)
    have q8 := hh.kept 8 (by simp)
    have q9 := hh.kept 9 (by simp)
    have qd := hh.defers
    simp at q6 q7 q8 q9 qd
    clear hh
    gi_wp2
    have hI := HI.out
    show LeavesInM _ _ _ _ b.tmps _ b.defers .returning W
    rw [show b.defers = [] from qd]
    refine ⟨.tuple #[.int .i64 0, .int .i64 0, .int .i64 0, .int .i64 ev], ?_, rfl, hI.bel⟩
    have z2 := (cells1 hI.c2).1
    have z3 := (cells1 hI.c3).1
    have z4 := (cells1 hI.c4).1
    have z5 := (cells1 hI.c5).1
    clear hbs
    simp [results, Try.results31, go_sem, q6, q7, q8, q9, z2, z3, z4, z5]
  case stp =>
    intro L W i o b hs ho hI hh
    have hi := (List.getElem?_eq_some_iff.1 ho).1
    have hc : i = 0 ∨ i = 1 ∨ i = 2 ∨ i = 3 ∨ i = 4 := by simp at hi; omega
    obtain ⟨_, _⟩ := cells1 hI.c2
    obtain ⟨_, _⟩ := cells1 hI.c3
    obtain ⟨_, _⟩ := cells1 hI.c4
    obtain ⟨_, _⟩ := cells1 hI.c5
    have HI := Lib.hid hI
    clear hi hs hI
    rcases hc with rfl | rfl | rfl | rfl | rfl
    · simp only [List.getElem?_cons_zero, Option.some.injEq] at ho
      subst ho
      have k9 := hh.kept 9 (by simp)
      simp at k9
      go_simp
      exact HI.out
    · simp only [List.getElem?_cons_zero, List.getElem?_cons_succ, Option.some.injEq] at ho
      subst ho
      have k6 := hh.kept 6 (by simp)
      simp at k6
      go_simp
      exact HI.out.set _ (by omega)
    · simp only [List.getElem?_cons_zero, List.getElem?_cons_succ, Option.some.injEq] at ho
      subst ho
      have k7 := hh.kept 7 (by simp)
      simp at k7
      go_simp
      exact HI.out.set _ (by omega)
    · simp only [List.getElem?_cons_zero, List.getElem?_cons_succ, Option.some.injEq] at ho
      subst ho
      have k8 := hh.kept 8 (by simp)
      simp at k8
      go_simp
      exact HI.out.set _ (by omega)
    · simp only [List.getElem?_cons_zero, List.getElem?_cons_succ, Option.some.injEq] at ho
      subst ho
      have k9 := hh.kept 9 (by simp)
      have g0 := hh.got 0 _ 21 rfl rfl ⟨⟨0, .data⟩, by simp, rfl, rfl⟩ (by simp)
      simp at k9 g0
      go_simp
      exact HI.out.set5
end Go.Proofs.Ytkpabecnimakpaa
