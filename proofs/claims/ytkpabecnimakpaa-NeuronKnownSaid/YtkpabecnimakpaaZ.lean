/- neuron.Unpack and the specification's. -/
import Derived.Test.YtkpabecnimakpaaY
import Derived.StillTailTactics
namespace Go.Proofs.Ytkpabecnimakpaa
set_option linter.unusedVariables false
open Go.RowKit

theorem frozen8 {W : World} {b : Nat} {v0 v1 v2 v3 v4 v5 v6 v7 : Value} {t : TypeId} (h : W.heap[b]? = some (.cells #[v0, v1, v2, v3, v4, v5, v6, v7] t)) :
    W.frozen? ⟨b, 0, none⟩ = false ∧ W.frozen? ⟨b, 1, none⟩ = false ∧ W.frozen? ⟨b, 2, none⟩ = false ∧ W.frozen? ⟨b, 3, none⟩ = false ∧ W.frozen? ⟨b, 4, none⟩ = false ∧ W.frozen? ⟨b, 5, none⟩ = false ∧ W.frozen? ⟨b, 6, none⟩ = false ∧ W.frozen? ⟨b, 7, none⟩ = false := by
  simp [World.frozen?, h]

/-- What get leaves. -/
structure GetW (bi : Nat) (k : Int) (w w' : World) : Prop where
  at_ : w'.heap[bi]? = some (.cells #[.int .i64 k] 3)
  other : ∀ g, g ≠ bi → w'.heap[g]? = w.heap[g]?
  size : w'.heap.size = w.heap.size
  os : w'.os = w.os
  tape : w'.tape = w.tape
  output : w'.output = w.output

theorem get_got (bs bi b cap : Nat) (k : Nat) (x y z : Int) (hn : k + 2 < 17) (hx : 0 ≤ x ∧ x ≤ 255) (hy : 0 ≤ y ∧ y ≤ 255) (hz : 0 ≤ z ∧ z ≤ 255) (off : Nat) (w : World) (hs : w.heap[bs]? = some (.cells #[.slice (some ⟨b, off, none⟩) 17 cap] 44)) (hi : w.heap[bi]? = some (.cells #[.int .i64 k] 3))
    (c0 : w.cell? ⟨b, off + k, none⟩ = some (.int .u8 x)) (c1 : w.cell? ⟨b, off + (k + 1), none⟩ = some (.int .u8 y)) (c2 : w.cell? ⟨b, off + (k + 2), none⟩ = some (.int .u8 z)) :
    Calls Try.prog 52 #[.pointer (some ⟨bs, 0, none⟩), .pointer (some ⟨bi, 0, none⟩)] w fun e w' => e = .returned (.int .i64 (num3 x y z)) ∧ GetW bi (k + 3) w w' := by
  refine (get_any bs bi b 0 cap k x y z hn hx hy hz off w hs hi c0 c1 c2).mono ?_
  rintro e w' ⟨rfl, q, rfl⟩
  refine ⟨rfl, ⟨set1_0 (show (w.drewN q).heap[bi]? = _ from hi) _, fun g hg => ?_, ?_, rfl, rfl, rfl⟩⟩
  · rw [Below.heap_setCell _ _ _ _ (by exact hg)]; rfl
  · simp [World.setCell]

def zero8 : Array Value := #[.int .i64 0, .int .i64 0, .int .i64 0, .int .i64 0, .int .i64 0, .int .i64 0, .int .i64 0, .int .i64 0]
/-- The world of Unpack, once its own cells stand. -/
structure UnI (w : World) (bx off cap bp : Nat) (k : Int) (vs : List Value) (W : World) : Prop where
  gt : w.heap.size + 2 < bp
  sl : W.heap[w.heap.size]? = some (.cells #[.slice (some ⟨bx, off, none⟩) 17 cap] 44)
  rs : W.heap[w.heap.size + 1]? = some (.cells zero8 23)
  at_ : W.heap[w.heap.size + 1 + 1]? = some (.cells #[.int .i64 k] 3)
  pr : W.heap[bp]? = some (.cells vs.toArray 23)
  bel : Below w.heap.size w W

theorem UnI.got {w : World} {bx off cap bp : Nat} {k k' : Int} {vs : List Value} {W W' : World} (h : UnI w bx off cap bp k vs W) (g : GetW (w.heap.size + 1 + 1) k' W W') : UnI w bx off cap bp k' vs W' :=
  have hg := h.gt
  ⟨hg, (g.other _ (by omega)).trans h.sl, (g.other _ (by omega)).trans h.rs, g.at_, (g.other _ (by omega)).trans h.pr,
    h.bel.trans (show Below w.heap.size W W' from ⟨g.os, g.tape, g.output, by rw [g.size]; exact Nat.le_refl _, fun b hb => g.other b (by omega)⟩)⟩
theorem UnI.set {w : World} {bx off cap bp : Nat} {k : Int} {vs : List Value} {W : World} (h : UnI w bx off cap bp k vs W) (j : Nat) (u : Value) : UnI w bx off cap bp k (vs.set j u) (W.setCell ⟨bp, j, none⟩ u) := by
  have hg := h.gt
  refine ⟨hg, (Below.heap_setCell _ _ _ _ (by simp; omega)).trans h.sl, (Below.heap_setCell _ _ _ _ (by simp; omega)).trans h.rs, (Below.heap_setCell _ _ _ _ (by simp; omega)).trans h.at_, ?_, h.bel.setCell (p := ⟨bp, j, none⟩) (by simp; omega) _⟩
  unfold World.setCell
  simp only [Array.getElem?_modify, if_true]
  rw [h.pr]
  simp
theorem un_get {w : World} {bx off cap bp : Nat} {k : Nat} {vs : List Value} {W : World} (I : UnI w bx off cap bp k vs W) {L : List Int} (hb : ∀ j, j < 17 → 0 ≤ L[j]?.getD 0 ∧ L[j]?.getD 0 ≤ 255) (hc : ∀ j, j < 17 → w.cell? ⟨bx, off + j, none⟩ = some (.int .u8 (L[j]?.getD 0)))
    (hbx : bx < w.heap.size) (hk : k + 2 < 17) {r : Int} (hr : r = num3 (L[k]?.getD 0) (L[k + 1]?.getD 0) (L[k + 2]?.getD 0)) :
    Calls Try.prog 52 #[.pointer (some ⟨w.heap.size, 0, none⟩), .pointer (some ⟨w.heap.size + 1 + 1, 0, none⟩)] W fun e w' => e = .returned (.int .i64 r) ∧ UnI w bx off cap bp (k + 3) vs w' := by
  have hcc : ∀ j, j < 17 → W.cell? ⟨bx, off + j, none⟩ = some (.int .u8 (L[j]?.getD 0)) := fun j hj => (I.bel.cell (p := ⟨bx, off + j, none⟩) hbx).trans (hc j hj)
  refine (get_got w.heap.size (w.heap.size + 1 + 1) bx cap k _ _ _ hk (hb k (by omega)) (hb (k + 1) (by omega)) (hb (k + 2) (by omega)) off W I.sl I.at_ (hcc k (by omega)) (hcc (k + 1) (by omega)) (hcc (k + 2) (by omega))).mono ?_
  rintro e w' ⟨rfl, g⟩
  subst hr
  exact ⟨rfl, I.got g⟩

theorem setL {W : World} {b : Nat} {l : List Value} {t : TypeId} (h : W.heap[b]? = some (.cells l.toArray t)) (j : Nat) (u : Value) : (W.setCell ⟨b, j, none⟩ u).heap[b]? = some (.cells (l.set j u).toArray t) := by
  unfold World.setCell
  simp only [Array.getElem?_modify, if_true]
  rw [h]
  simp
/-- Eight cells stored in turn. -/
theorem set8 {B : Nat} {w W : World} {b : Nat} {v0 v1 v2 v3 v4 v5 v6 v7 : Value} {t : TypeId} (h : W.heap[b]? = some (.cells #[v0, v1, v2, v3, v4, v5, v6, v7] t)) (hB : Below B w W) (hb : B ≤ b) (u0 u1 u2 u3 u4 u5 u6 u7 : Value) :
    ((((((((W.setCell ⟨b, 0, none⟩ u0).setCell ⟨b, 1, none⟩ u1).setCell ⟨b, 2, none⟩ u2).setCell ⟨b, 3, none⟩ u3).setCell ⟨b, 4, none⟩ u4).setCell ⟨b, 5, none⟩ u5).setCell ⟨b, 6, none⟩ u6).setCell ⟨b, 7, none⟩ u7).heap[b]? = some (.cells #[u0, u1, u2, u3, u4, u5, u6, u7] t) ∧
    Below B w ((((((((W.setCell ⟨b, 0, none⟩ u0).setCell ⟨b, 1, none⟩ u1).setCell ⟨b, 2, none⟩ u2).setCell ⟨b, 3, none⟩ u3).setCell ⟨b, 4, none⟩ u4).setCell ⟨b, 5, none⟩ u5).setCell ⟨b, 6, none⟩ u6).setCell ⟨b, 7, none⟩ u7) :=
  ⟨setL (setL (setL (setL (setL (setL (setL (setL (l := [v0, v1, v2, v3, v4, v5, v6, v7]) h 0 u0) 1 u1) 2 u2) 3 u3) 4 u4) 5 u5) 6 u6) 7 u7,
    (((((((hB.setCell (p := ⟨b, 0, none⟩) hb u0).setCell (p := ⟨b, 1, none⟩) hb u1).setCell (p := ⟨b, 2, none⟩) hb u2).setCell (p := ⟨b, 3, none⟩) hb u3).setCell (p := ⟨b, 4, none⟩) hb u4).setCell (p := ⟨b, 5, none⟩) hb u5).setCell (p := ⟨b, 6, none⟩) hb u6).setCell (p := ⟨b, 7, none⟩) hb u7⟩

/-- What 17 bytes say. -/
def unP (L : List Int) : Prm :=
  ⟨L[0]?.getD 0 % 4, num3 (L[1]?.getD 0) (L[2]?.getD 0) (L[3]?.getD 0), num3 (L[4]?.getD 0) (L[5]?.getD 0) (L[6]?.getD 0), num3 (L[7]?.getD 0) (L[8]?.getD 0) (L[9]?.getD 0), L[0]?.getD 0 / 4,
    num3 (L[10]?.getD 0) (L[11]?.getD 0) (L[12]?.getD 0), num3 (L[13]?.getD 0) (L[14]?.getD 0) (L[15]?.getD 0), L[16]?.getD 0⟩

def agP (q : Prm) : Value := .agg #[.int .i64 q.lk, .int .i64 q.lv, .int .i64 q.bi, .int .i64 q.th, .int .i64 q.rk, .int .i64 q.rs, .int .i64 q.fl, .int .i64 q.re]
def zeroP : Prm := ⟨0, 0, 0, 0, 0, 0, 0, 0⟩
/-- What Unpack returns. -/
def unF (L : List Int) : Prm × Int := if L.length < 17 then (zeroP, 19) else if 17 < L.length then (zeroP, 8) else if checkP (unP L) = 0 then (unP L, 0) else (zeroP, 7)
def Unp (L : List Int) (w : World) (e : Ending) (w' : World) : Prop := e = .returned (.tuple #[agP (unF L).1, .int .i64 (unF L).2]) ∧ Below w.heap.size w w'

set_option maxRecDepth 100000 in
set_option maxHeartbeats 1000000 in
theorem unpack_17 (bx off cap : Nat) (L : List Int) (hL : L.length = 17) (hb : ∀ j, j < 17 → 0 ≤ L[j]?.getD 0 ∧ L[j]?.getD 0 ≤ 255) (w : World) (hc : ∀ j, j < 17 → w.cell? ⟨bx, off + j, none⟩ = some (.int .u8 (L[j]?.getD 0))) :
    Calls Try.prog 35 #[.slice (some ⟨bx, off, none⟩) 17 cap] w (Unp L w) := by
  have HL := Lib.hid hL
  clear hL
  have hbx : bx < w.heap.size := World.block_lt_of_cell? w _ (hc 0 (by omega))
  obtain ⟨x, hx⟩ : ∃ x, x = L[0]?.getD 0 := ⟨_, rfl⟩
  have c0 := hc 0 (by omega)
  rw [← hx, Nat.add_zero] at c0
  have x0 := (hb 0 (by omega)).1
  have x1 := (hb 0 (by omega)).2
  rw [← hx] at x0 x1
  have HX := Lib.hid hx
  have HB := Lib.hid hb
  have HC := Lib.hid hc
  clear hx hb hc
  go_enter Try.func35, Try.ntmps35
  go_wp2_with fail
  have s0 : (((w.alloc (.cells #[.slice (some ⟨bx, off, none⟩) 17 cap] 44)).alloc (.cells zero8 23)).alloc (.cells #[.int .i64 1] 3)).heap[w.heap.size]? = some (.cells #[.slice (some ⟨bx, off, none⟩) 17 cap] 44) := by
    rw [Below.heap_alloc _ _ _ (by simp <;> omega), Below.heap_alloc _ _ _ (by simp <;> omega)]; exact alloc_new_at _ _ _ rfl
  have s1 : (((w.alloc (.cells #[.slice (some ⟨bx, off, none⟩) 17 cap] 44)).alloc (.cells zero8 23)).alloc (.cells #[.int .i64 1] 3)).heap[w.heap.size + 1]? = some (.cells zero8 23) := by
    rw [Below.heap_alloc _ _ _ (by simp <;> omega)]; exact alloc_new_at _ _ _ (by simp)
  have s2 : (((w.alloc (.cells #[.slice (some ⟨bx, off, none⟩) 17 cap] 44)).alloc (.cells zero8 23)).alloc (.cells #[.int .i64 1] 3)).heap[w.heap.size + 2]? = some (.cells #[.int .i64 1] 3) := alloc_new_at _ _ _ (by simp)
  have sB : Below w.heap.size w (((w.alloc (.cells #[.slice (some ⟨bx, off, none⟩) 17 cap] 44)).alloc (.cells zero8 23)).alloc (.cells #[.int .i64 1] 3)) := (((Below.refl _ _).alloc (Nat.le_refl _) _).alloc (by simp) _).alloc (by simp <;> omega) _
  have sz : (((w.alloc (.cells #[.slice (some ⟨bx, off, none⟩) 17 cap] 44)).alloc (.cells zero8 23)).alloc (.cells #[.int .i64 1] 3)).heap.size = w.heap.size + 3 := by simp
  unfold zero8 at s0 s1 s2 sB sz
  obtain ⟨W3, hW3⟩ : ∃ W3, W3 = (((w.alloc (.cells #[.slice (some ⟨bx, off, none⟩) 17 cap] 44)).alloc (.cells #[.int .i64 0, .int .i64 0, .int .i64 0, .int .i64 0, .int .i64 0, .int .i64 0, .int .i64 0, .int .i64 0] 23)).alloc (.cells #[.int .i64 1] 3)) := ⟨_, rfl⟩
  rw [← hW3] at s0 s1 s2 sB sz ⊢
  clear hW3
  have d0 := (sB.cell (p := ⟨bx, off, none⟩) hbx).trans c0
  obtain ⟨_, _⟩ := cells1 s0
  have z0 : bx < W3.heap.size := by omega
  have z1 : w.heap.size < W3.heap.size := by omega
  have S0 := Lib.hid s0
  have S1 := Lib.hid s1
  have S2 := Lib.hid s2
  have SB := Lib.hid sB
  have SZ := Lib.hid sz
  clear c0 s0 s1 s2 sB sz
  go_region
  go_wp2_with fail
  have k0 : UnI w bx off cap W3.heap.size 1 [.int .i64 (x % 4), .int .i64 0, .int .i64 0, .int .i64 0, .int .i64 (x / 4), .int .i64 0, .int .i64 0, .int .i64 0] ((W3.alloc (.cells #[.int .i64 (x % 4), .int .i64 0, .int .i64 0, .int .i64 0, .int .i64 (x / 4), .int .i64 0, .int .i64 0, .int .i64 0] 23)).drew) :=
    ⟨by have := SZ.out; omega, (Below.heap_alloc _ _ _ z1).trans S0.out, (Below.heap_alloc _ _ _ (by have := SZ.out; omega)).trans S1.out, (Below.heap_alloc _ _ _ (by have := SZ.out; omega)).trans S2.out, World.alloc_heap_new _ _, (SB.out.alloc (by omega) _).drew⟩
  generalize (W3.alloc (.cells #[.int .i64 (x % 4), .int .i64 0, .int .i64 0, .int .i64 0, .int .i64 (x / 4), .int .i64 0, .int .i64 0, .int .i64 0] 23)).drew = V at *
  have I0 := Lib.hid k0
  clear k0
  obtain ⟨r1, hr1⟩ : ∃ r, r = num3 (L[1]?.getD 0) (L[2]?.getD 0) (L[3]?.getD 0) := ⟨_, rfl⟩
  have Hr1 := Lib.hid hr1
  clear hr1
  obtain ⟨r2, hr2⟩ : ∃ r, r = num3 (L[4]?.getD 0) (L[5]?.getD 0) (L[6]?.getD 0) := ⟨_, rfl⟩
  have Hr2 := Lib.hid hr2
  clear hr2
  obtain ⟨r3, hr3⟩ : ∃ r, r = num3 (L[7]?.getD 0) (L[8]?.getD 0) (L[9]?.getD 0) := ⟨_, rfl⟩
  have Hr3 := Lib.hid hr3
  clear hr3
  obtain ⟨r5, hr5⟩ : ∃ r, r = num3 (L[10]?.getD 0) (L[11]?.getD 0) (L[12]?.getD 0) := ⟨_, rfl⟩
  have Hr5 := Lib.hid hr5
  clear hr5
  obtain ⟨r6, hr6⟩ : ∃ r, r = num3 (L[13]?.getD 0) (L[14]?.getD 0) (L[15]?.getD 0) := ⟨_, rfl⟩
  have Hr6 := Lib.hid hr6
  clear hr6
  go_at_call 52
  refine (un_get (k := 1) I0.out HB.out HC.out hbx (by omega) Hr1.out).mono ?_
  rintro e w4 ⟨rfl, J0⟩
  obtain ⟨_, _, _, _, _, _, _, _⟩ := cells8 J0.pr
  obtain ⟨_, _, _, _, _, _, _, _⟩ := frozen8 J0.pr
  obtain ⟨_, _⟩ := cells1 J0.sl
  obtain ⟨_, _⟩ := cells1 J0.at_
  have j0 := Lib.hid J0
  clear J0
  go_wp2_with fail
  have k0 : UnI w bx off cap W3.heap.size 4 [.int .i64 (x % 4), .int .i64 r1, .int .i64 0, .int .i64 0, .int .i64 (x / 4), .int .i64 0, .int .i64 0, .int .i64 0] (w4.setCell ⟨W3.heap.size, 1, none⟩ (.int .i64 r1)) := j0.out.set 1 _
  generalize w4.setCell ⟨W3.heap.size, 1, none⟩ (.int .i64 r1) = V0 at *
  have I1 := Lib.hid k0
  clear k0
  go_at_call 52
  refine (un_get (k := 4) I1.out HB.out HC.out hbx (by omega) Hr2.out).mono ?_
  rintro e w5 ⟨rfl, J1⟩
  obtain ⟨_, _, _, _, _, _, _, _⟩ := cells8 J1.pr
  obtain ⟨_, _, _, _, _, _, _, _⟩ := frozen8 J1.pr
  obtain ⟨_, _⟩ := cells1 J1.sl
  obtain ⟨_, _⟩ := cells1 J1.at_
  have j1 := Lib.hid J1
  clear J1
  go_wp2_with fail
  have k1 : UnI w bx off cap W3.heap.size 7 [.int .i64 (x % 4), .int .i64 r1, .int .i64 r2, .int .i64 0, .int .i64 (x / 4), .int .i64 0, .int .i64 0, .int .i64 0] (w5.setCell ⟨W3.heap.size, 2, none⟩ (.int .i64 r2)) := j1.out.set 2 _
  generalize w5.setCell ⟨W3.heap.size, 2, none⟩ (.int .i64 r2) = V1 at *
  have I2 := Lib.hid k1
  clear k1
  go_at_call 52
  refine (un_get (k := 7) I2.out HB.out HC.out hbx (by omega) Hr3.out).mono ?_
  rintro e w6 ⟨rfl, J2⟩
  obtain ⟨_, _, _, _, _, _, _, _⟩ := cells8 J2.pr
  obtain ⟨_, _, _, _, _, _, _, _⟩ := frozen8 J2.pr
  obtain ⟨_, _⟩ := cells1 J2.sl
  obtain ⟨_, _⟩ := cells1 J2.at_
  have j2 := Lib.hid J2
  clear J2
  go_wp2_with fail
  have k2 : UnI w bx off cap W3.heap.size 10 [.int .i64 (x % 4), .int .i64 r1, .int .i64 r2, .int .i64 r3, .int .i64 (x / 4), .int .i64 0, .int .i64 0, .int .i64 0] (w6.setCell ⟨W3.heap.size, 3, none⟩ (.int .i64 r3)) := j2.out.set 3 _
  generalize w6.setCell ⟨W3.heap.size, 3, none⟩ (.int .i64 r3) = V2 at *
  have I3 := Lib.hid k2
  clear k2
  go_at_call 52
  refine (un_get (k := 10) I3.out HB.out HC.out hbx (by omega) Hr5.out).mono ?_
  rintro e w7 ⟨rfl, J3⟩
  obtain ⟨_, _, _, _, _, _, _, _⟩ := cells8 J3.pr
  obtain ⟨_, _, _, _, _, _, _, _⟩ := frozen8 J3.pr
  obtain ⟨_, _⟩ := cells1 J3.sl
  obtain ⟨_, _⟩ := cells1 J3.at_
  have j3 := Lib.hid J3
  clear J3
  go_wp2_with fail
  have k3 : UnI w bx off cap W3.heap.size 13 [.int .i64 (x % 4), .int .i64 r1, .int .i64 r2, .int .i64 r3, .int .i64 (x / 4), .int .i64 r5, .int .i64 0, .int .i64 0] (w7.setCell ⟨W3.heap.size, 5, none⟩ (.int .i64 r5)) := j3.out.set 5 _
  generalize w7.setCell ⟨W3.heap.size, 5, none⟩ (.int .i64 r5) = V3 at *
  have I4 := Lib.hid k3
  clear k3
  go_at_call 52
  refine (un_get (k := 13) I4.out HB.out HC.out hbx (by omega) Hr6.out).mono ?_
  rintro e w8 ⟨rfl, J4⟩
  obtain ⟨_, _, _, _, _, _, _, _⟩ := cells8 J4.pr
  obtain ⟨_, _, _, _, _, _, _, _⟩ := frozen8 J4.pr
  obtain ⟨_, _⟩ := cells1 J4.sl
  obtain ⟨_, _⟩ := cells1 J4.at_
  obtain ⟨y, hy⟩ : ∃ y, y = L[16]?.getD 0 := ⟨_, rfl⟩
  have c16 := (J4.bel.cell (p := ⟨bx, off + 16, none⟩) hbx).trans (HC.out 16 (by omega))
  rw [← hy] at c16
  have y0 : 0 ≤ y := by rw [hy]; exact (HB.out 16 (by omega)).1
  have y1 : y ≤ 255 := by rw [hy]; exact (HB.out 16 (by omega)).2
  have HY := Lib.hid hy
  have j4 := Lib.hid J4
  clear J4 hy
  go_wp2_with fail
  have k4 : UnI w bx off cap W3.heap.size 16 [.int .i64 (x % 4), .int .i64 r1, .int .i64 r2, .int .i64 r3, .int .i64 (x / 4), .int .i64 r5, .int .i64 r6, .int .i64 y] ((w8.setCell ⟨W3.heap.size, 6, none⟩ (.int .i64 r6)).setCell ⟨W3.heap.size, 7, none⟩ (.int .i64 y)) := (j4.out.set 6 _).set 7 _
  generalize (w8.setCell ⟨W3.heap.size, 6, none⟩ (.int .i64 r6)).setCell ⟨W3.heap.size, 7, none⟩ (.int .i64 y) = V4 at *
  have hq : unP L = ⟨x % 4, r1, r2, r3, x / 4, r5, r6, y⟩ := by
    unfold unP; rw [← HX.out, ← Hr1.out, ← Hr2.out, ← Hr3.out, ← Hr5.out, ← Hr6.out, ← HY.out]
  obtain ⟨ce, hce⟩ : ∃ ce, ce = checkP (unP L) := ⟨_, rfl⟩
  have hce' : checkP ⟨x % 4, r1, r2, r3, x / 4, r5, r6, y⟩ = ce := by rw [hce, hq]
  have HQ := Lib.hid hq
  have HCE := Lib.hid hce
  have HCE' := Lib.hid hce'
  clear hq hce hce'
  go_at_call 17
  refine (check_any ⟨x % 4, r1, r2, r3, x / 4, r5, r6, y⟩ _).mono ?_
  rintro e w9 ⟨rfl, hb9⟩
  rw [HCE'.out]
  have hz9 := hb9.size
  obtain ⟨_, _, _, _, _, _, _, _⟩ := cells8 ((hb9.block _ (lt_of_block k4.pr)).trans k4.pr)
  have r9 := (hb9.block _ (lt_of_block k4.rs)).trans k4.rs
  obtain ⟨_, _, _, _, _, _, _, _⟩ := cells8 r9
  obtain ⟨_, _, _, _, _, _, _, _⟩ := frozen8 r9
  have B9 := Lib.hid (k4.bel.trans (hb9.mono k4.bel.size))
  have R9 := Lib.hid r9
  clear hb9 k4 r9
  by_cases hcz : ce = 0
  · have g1 : (ce != 0) = false := by simp [hcz]
    have hF : unF L = (unP L, 0) := by unfold unF; rw [if_neg (by rw [HL.out]; omega), if_neg (by rw [HL.out]; omega), if_pos (by rw [← HCE.out]; exact hcz)]
    have HF := Lib.hid hF
    clear hF hcz
    go_wp2_with fail
    obtain ⟨y8, b8⟩ := set8 R9.out B9.out (show w.heap.size ≤ w.heap.size + 1 by omega) (.int .i64 (x % 4)) (.int .i64 r1) (.int .i64 r2) (.int .i64 r3) (.int .i64 (x / 4)) (.int .i64 r5) (.int .i64 r6) (.int .i64 y)
    obtain ⟨z0, z1, z2, z3, z4, z5, z6, z7⟩ := cells8 y8
    refine bodyPost_ret (v := .tuple #[.agg #[.int .i64 (x % 4), .int .i64 r1, .int .i64 r2, .int .i64 r3, .int .i64 (x / 4), .int .i64 r5, .int .i64 r6, .int .i64 y], .int .i64 0]) (by simp [results, Try.results35, go_sem, z0, z1, z2, z3, z4, z5, z6, z7]) rfl ⟨?_, b8⟩
    rw [HF.out, HQ.out]; rfl
  · have g1 : (ce != 0) = true := by simp [hcz]
    have hF : unF L = (zeroP, 7) := by unfold unF; rw [if_neg (by rw [HL.out]; omega), if_neg (by rw [HL.out]; omega), if_neg (by rw [← HCE.out]; exact hcz)]
    have HF := Lib.hid hF
    clear hF hcz
    go_wp2_with fail
    obtain ⟨y8, b8⟩ := set8 R9.out B9.out (show w.heap.size ≤ w.heap.size + 1 by omega) (.int .i64 0) (.int .i64 0) (.int .i64 0) (.int .i64 0) (.int .i64 0) (.int .i64 0) (.int .i64 0) (.int .i64 0)
    obtain ⟨z0, z1, z2, z3, z4, z5, z6, z7⟩ := cells8 y8
    refine bodyPost_ret (v := .tuple #[.agg #[.int .i64 0, .int .i64 0, .int .i64 0, .int .i64 0, .int .i64 0, .int .i64 0, .int .i64 0, .int .i64 0], .int .i64 7]) (by simp [results, Try.results35, go_sem, z0, z1, z2, z3, z4, z5, z6, z7]) rfl ⟨?_, b8⟩
    rw [HF.out]; rfl
end Go.Proofs.Ytkpabecnimakpaa
