/- Kinds of neurons. Over this seat's program. (mk_Gd.py wrote this.) -/
import Derived.Test.YtmgdildbngbibaaGc
namespace Go.Proofs.Ytmgdildbngbibaa
set_option linter.unusedVariables false
open Go.RowKit Go.Shelf

def prmA (p : Prm) : Value := .agg #[.int .i64 p.lk, .int .i64 p.lv, .int .i64 p.bi, .int .i64 p.th, .int .i64 p.rk, .int .i64 p.rs, .int .i64 p.fl, .int .i64 p.re]
def PAt (W : World) (b : Nat) (p : Prm) : Prop := W.heap[b]? = some (.cells #[.int .i64 p.lk, .int .i64 p.lv, .int .i64 p.bi, .int .i64 p.th, .int .i64 p.rk, .int .i64 p.rs, .int .i64 p.fl, .int .i64 p.re] 125)
theorem PAt.below {W W' : World} {b : Nat} {p : Prm} (h : PAt W b p) (hb : Below W.heap.size W W') : PAt W' b p := (hb.block b (lt_of_block h)).trans h
theorem like_any (p : Prm) (w : World) :
    Calls Try.prog 87 #[.agg #[.int .i64 p.lk, .int .i64 p.lv, .int .i64 p.bi, .int .i64 p.th, .int .i64 p.rk, .int .i64 p.rs, .int .i64 p.fl, .int .i64 p.re]] w fun e w' => e = .returned (.func (.func 104) #[] #[.pointer (some ⟨w.heap.size, 0, none⟩)]) ∧ w' = w.alloc (.cells #[.int .i64 p.lk, .int .i64 p.lv, .int .i64 p.bi, .int .i64 p.th, .int .i64 p.rk, .int .i64 p.rs, .int .i64 p.fl, .int .i64 p.re] 125) := by
  go_enter Try.func87, Try.ntmps87
  go_wp2
  go_ret
  exact ⟨rfl, rfl⟩
theorem adder_any (w : World) :
    Calls Try.prog 72 #[] w fun e w' => e = .returned (.func (.func 104) #[] #[.pointer (some ⟨w.heap.size, 0, none⟩)]) ∧ PAt w' w.heap.size ⟨0, 0, 0, 0, 1, 0, 0, 0⟩ ∧ Below w.heap.size w w' := by
  go_enter Try.func72, Try.ntmps72
  go_wp2_with (fail)
  go_at_call 87
  refine (like_any ⟨0, 0, 0, 0, 1, 0, 0, 0⟩ _).mono ?_
  rintro e w1 ⟨rfl, rfl⟩
  go_wp2
  go_ret
  exact ⟨rfl, alloc_new_at _ _ _ rfl, (Below.refl _ _).alloc (Nat.le_refl _) _⟩
theorem gate_any (w : World) :
    Calls Try.prog 50 #[] w fun e w' => e = .returned (.func (.func 104) #[] #[.pointer (some ⟨w.heap.size, 0, none⟩)]) ∧ PAt w' w.heap.size ⟨2, 256, 0, 0, 0, 0, 0, 0⟩ ∧ Below w.heap.size w w' := by
  go_enter Try.func50, Try.ntmps50
  go_wp2_with (fail)
  go_at_call 87
  refine (like_any ⟨2, 256, 0, 0, 0, 0, 0, 0⟩ _).mono ?_
  rintro e w1 ⟨rfl, rfl⟩
  go_wp2
  go_ret
  exact ⟨rfl, alloc_new_at _ _ _ rfl, (Below.refl _ _).alloc (Nat.le_refl _) _⟩
theorem once_any (w : World) :
    Calls Try.prog 62 #[] w fun e w' => e = .returned (.func (.func 104) #[] #[.pointer (some ⟨w.heap.size, 0, none⟩)]) ∧ PAt w' w.heap.size ⟨0, 0, 0, 0, 0, 0, (-1048576), 0⟩ ∧ Below w.heap.size w w' := by
  go_enter Try.func62, Try.ntmps62
  go_wp2_with (fail)
  go_at_call 87
  refine (like_any ⟨0, 0, 0, 0, 0, 0, (-1048576), 0⟩ _).mono ?_
  rintro e w1 ⟨rfl, rfl⟩
  go_wp2
  go_ret
  exact ⟨rfl, alloc_new_at _ _ _ rfl, (Below.refl _ _).alloc (Nat.le_refl _) _⟩
set_option maxRecDepth 100000 in
set_option maxHeartbeats 1000000 in
theorem like1_any (p : Prm) (b : Nat) (x : Int) (w : World) (h : PAt w b p) :
    Calls Try.prog 104 #[.int .i64 x, .pointer (some ⟨b, 0, none⟩)] w fun e w' => e = .returned (prmA { p with th := x }) ∧ Below w.heap.size w w' := by
  have hl := lt_of_block h
  obtain ⟨p0, p1, p2, p3, p4, p5, p6, p7⟩ := p
  obtain ⟨_, _, _, _, _, _, _, _⟩ := cells8 h
  go_enter Try.func104, Try.ntmps104
  go_wp2
  have hB : ((w.alloc (.cells #[.int .i64 p0, .int .i64 p1, .int .i64 p2, .int .i64 x, .int .i64 p4, .int .i64 p5, .int .i64 p6, .int .i64 p7] 125)).alloc (.cells #[.int .i64 p0, .int .i64 p1, .int .i64 p2, .int .i64 x, .int .i64 p4, .int .i64 p5, .int .i64 p6, .int .i64 p7] 125)).heap[w.heap.size]? = some (.cells #[.int .i64 p0, .int .i64 p1, .int .i64 p2, .int .i64 x, .int .i64 p4, .int .i64 p5, .int .i64 p6, .int .i64 p7] 125) := (Below.heap_alloc _ _ _ (by simp)).trans (alloc_new_at _ _ _ rfl)
  obtain ⟨d0, d1, d2, d3, d4, d5, d6, d7⟩ := cells8 hB
  exact bodyPost_ret (v := prmA ⟨p0, p1, p2, x, p4, p5, p6, p7⟩) (by simp [results, Try.results104, go_sem, prmA, d0, d1, d2, d3, d4, d5, d6, d7]) rfl ⟨rfl, ((Below.refl _ _).alloc (Nat.le_refl _) _).alloc (by simp) _⟩
theorem radder_any (x : Int) (w : World) :
    Calls Try.prog 73 #[.int .i64 x] w fun e w' => e = .returned (prmA ⟨0, 0, 0, x, 1, 0, 0, 0⟩) ∧ Below w.heap.size w w' := by
  have hB : (w.alloc (.cells #[.int .i64 0, .int .i64 0, .int .i64 0, .int .i64 x, .int .i64 1, .int .i64 0, .int .i64 0, .int .i64 0] 125)).heap[w.heap.size]? = some (.cells #[.int .i64 0, .int .i64 0, .int .i64 0, .int .i64 x, .int .i64 1, .int .i64 0, .int .i64 0, .int .i64 0] 125) := alloc_new_at _ _ _ rfl
  obtain ⟨d0, d1, d2, d3, d4, d5, d6, d7⟩ := cells8 hB
  go_enter Try.func73, Try.ntmps73
  go_wp2
  exact bodyPost_ret (v := prmA ⟨0, 0, 0, x, 1, 0, 0, 0⟩) (by simp [results, Try.results73, go_sem, prmA, d0, d1, d2, d3, d4, d5, d6, d7]) rfl ⟨rfl, (Below.refl _ _).alloc (Nat.le_refl _) _⟩
theorem rgate_any (x : Int) (w : World) :
    Calls Try.prog 55 #[.int .i64 x] w fun e w' => e = .returned (prmA ⟨2, 256, 0, x, 0, 0, 0, 0⟩) ∧ Below w.heap.size w w' := by
  have hB : (w.alloc (.cells #[.int .i64 2, .int .i64 256, .int .i64 0, .int .i64 x, .int .i64 0, .int .i64 0, .int .i64 0, .int .i64 0] 125)).heap[w.heap.size]? = some (.cells #[.int .i64 2, .int .i64 256, .int .i64 0, .int .i64 x, .int .i64 0, .int .i64 0, .int .i64 0, .int .i64 0] 125) := alloc_new_at _ _ _ rfl
  obtain ⟨d0, d1, d2, d3, d4, d5, d6, d7⟩ := cells8 hB
  go_enter Try.func55, Try.ntmps55
  go_wp2
  exact bodyPost_ret (v := prmA ⟨2, 256, 0, x, 0, 0, 0, 0⟩) (by simp [results, Try.results55, go_sem, prmA, d0, d1, d2, d3, d4, d5, d6, d7]) rfl ⟨rfl, (Below.refl _ _).alloc (Nat.le_refl _) _⟩
theorem ronce_any (x : Int) (w : World) :
    Calls Try.prog 64 #[.int .i64 x] w fun e w' => e = .returned (prmA ⟨0, 0, 0, x, 0, 0, (-1048576), 0⟩) ∧ Below w.heap.size w w' := by
  have hB : (w.alloc (.cells #[.int .i64 0, .int .i64 0, .int .i64 0, .int .i64 x, .int .i64 0, .int .i64 0, .int .i64 (-1048576), .int .i64 0] 125)).heap[w.heap.size]? = some (.cells #[.int .i64 0, .int .i64 0, .int .i64 0, .int .i64 x, .int .i64 0, .int .i64 0, .int .i64 (-1048576), .int .i64 0] 125) := alloc_new_at _ _ _ rfl
  obtain ⟨d0, d1, d2, d3, d4, d5, d6, d7⟩ := cells8 hB
  go_enter Try.func64, Try.ntmps64
  go_wp2
  exact bodyPost_ret (v := prmA ⟨0, 0, 0, x, 0, 0, (-1048576), 0⟩) (by simp [results, Try.results64, go_sem, prmA, d0, d1, d2, d3, d4, d5, d6, d7]) rfl ⟨rfl, (Below.refl _ _).alloc (Nat.le_refl _) _⟩
end Go.Proofs.Ytmgdildbngbibaa
