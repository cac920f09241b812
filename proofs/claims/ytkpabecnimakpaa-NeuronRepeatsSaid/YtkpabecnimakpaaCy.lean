/- neuron.Cycle. -/
import Derived.Test.YtkpabecnimakpaaCm
import Derived.Test.YtkpabecnimakpaaDt
import Derived.Maps.OwnIn
import Derived.BigRegion
import Derived.BigRegionIn
import Derived.BigFrameIn
namespace Go.Proofs.Ytkpabecnimakpaa
set_option linter.unusedVariables false
open Go.RowKit Go.Shelf
attribute [local go_sem] Oper.semAt_some

/-- What a round of Cycle finds: the results still 0, the counter, the map of the states so far. -/
def CyI (p : Prm) (V R i : Int) (K nb mb cb : Nat) (w : World) (k : Nat) (A : World) : Prop :=
  k < K ∧ A.heap[w.heap.size + 1 + 1]? = some (.cells #[.int .i64 0] 3) ∧ A.heap[w.heap.size + 1 + 1 + 1]? = some (.cells #[.int .i64 0] 3) ∧ A.heap[w.heap.size + 1 + 1 + 1 + 1]? = some (.cells #[.int .i64 0] 3) ∧ A.heap[w.heap.size + 1 + 1 + 1 + 1 + 1]? = some (.cells #[.int .i64 0] 26) ∧
  A.heap[nb]? = some (.cells #[.int .i64 (k : Int), .int .i64 (nsp p V R i k : Int)] 77) ∧ A.heap[cb]? = some (.cells #[.map (some mb)] 78) ∧ MapIs A mb (k + 1) (fS p V R i k) ∧ Below w.heap.size w A
def CyX (p : Prm) (V R i : Int) (K j : Nat) (w : World) (c : Code) (A : World) : Prop :=
  c = .ret ∧ K ≤ 65536 ∧ A.heap[w.heap.size + 1 + 1]? = some (.cells #[.int .i64 (j : Int)] 3) ∧ A.heap[w.heap.size + 1 + 1 + 1]? = some (.cells #[.int .i64 ((K : Int) - j)] 3) ∧ A.heap[w.heap.size + 1 + 1 + 1 + 1]? = some (.cells #[.int .i64 ((nsp p V R i K : Int) - nsp p V R i j)] 3) ∧ A.heap[w.heap.size + 1 + 1 + 1 + 1 + 1]? = some (.cells #[.int .i64 0] 26) ∧ Below w.heap.size w A

/-- The world inside the region that lays the four results: those laid so far, nothing else turned. -/
structure CyS (B : Nat) (r2 r3 r4 : Int) (W6 : World) (L : Array Bool) (W : World) : Prop where
  c2 : ∃ c, W.heap[B + 1 + 1]? = some (.cells #[c] 3) ∧ (L.getD 12 false = true → c = .int .i64 r2)
  c3 : ∃ c, W.heap[B + 1 + 1 + 1]? = some (.cells #[c] 3) ∧ (L.getD 13 false = true → c = .int .i64 r3)
  c4 : ∃ c, W.heap[B + 1 + 1 + 1 + 1]? = some (.cells #[c] 3) ∧ (L.getD 14 false = true → c = .int .i64 r4)
  c5 : ∃ c, W.heap[B + 1 + 1 + 1 + 1 + 1]? = some (.cells #[c] 26) ∧ (L.getD 15 false = true → c = .int .i64 0)
  other : ∀ b, b ≠ B + 2 → b ≠ B + 3 → b ≠ B + 4 → b ≠ B + 5 → W.heap[b]? = W6.heap[b]?
  size : W.heap.size = W6.heap.size
  os : W.os = W6.os
  tape : W.tape = W6.tape
  output : W.output = W6.output
theorem getD_set_ne' {L : Array Bool} {i j : Nat} (h : i ≠ j) : (L.setIfInBounds i true).getD j false = L.getD j false := by
  simp only [Array.getD_eq_getD_getElem?]; rw [Array.getElem?_setIfInBounds_ne h]
theorem CyS.skip {B : Nat} {r2 r3 r4 : Int} {W6 W : World} {L : Array Bool} (h : CyS B r2 r3 r4 W6 L W) (i : Nat) (hi : i < 12) : CyS B r2 r3 r4 W6 (L.setIfInBounds i true) W := by
  obtain ⟨h2, h3, h4, h5, h6, h7, h8, h9, h10⟩ := h
  refine ⟨?_, ?_, ?_, ?_, h6, h7, h8, h9, h10⟩ <;> (rw [getD_set_ne' (by omega)]; assumption)
theorem CyS.set2 {B : Nat} {r2 r3 r4 : Int} {W6 W : World} {L : Array Bool} (h : CyS B r2 r3 r4 W6 L W) : CyS B r2 r3 r4 W6 (L.setIfInBounds 12 true) (W.setCell ⟨B + 1 + 1, 0, none⟩ (.int .i64 r2)) := by
  obtain ⟨⟨c2, h2, _⟩, h3, h4, h5, h6, h7, h8, h9, h10⟩ := h
  refine ⟨⟨_, set1_0 h2 _, fun _ => rfl⟩, ?_, ?_, ?_, fun b a1 a2 a3 a4 => (Below.heap_setCell _ _ _ _ (by simp; omega)).trans (h6 b a1 a2 a3 a4), by simp [World.setCell, h7], h8, h9, h10⟩ <;> (rw [getD_set_ne' (by omega), Below.heap_setCell _ _ _ _ (by simp <;> omega)]; assumption)
theorem CyS.set3 {B : Nat} {r2 r3 r4 : Int} {W6 W : World} {L : Array Bool} (h : CyS B r2 r3 r4 W6 L W) : CyS B r2 r3 r4 W6 (L.setIfInBounds 13 true) (W.setCell ⟨B + 1 + 1 + 1, 0, none⟩ (.int .i64 r3)) := by
  obtain ⟨h2, ⟨c3, h3, _⟩, h4, h5, h6, h7, h8, h9, h10⟩ := h
  refine ⟨?_, ⟨_, set1_0 h3 _, fun _ => rfl⟩, ?_, ?_, fun b a1 a2 a3 a4 => (Below.heap_setCell _ _ _ _ (by simp; omega)).trans (h6 b a1 a2 a3 a4), by simp [World.setCell, h7], h8, h9, h10⟩ <;> (rw [getD_set_ne' (by omega), Below.heap_setCell _ _ _ _ (by simp <;> omega)]; assumption)
theorem CyS.set4 {B : Nat} {r2 r3 r4 : Int} {W6 W : World} {L : Array Bool} (h : CyS B r2 r3 r4 W6 L W) : CyS B r2 r3 r4 W6 (L.setIfInBounds 14 true) (W.setCell ⟨B + 1 + 1 + 1 + 1, 0, none⟩ (.int .i64 r4)) := by
  obtain ⟨h2, h3, ⟨c4, h4, _⟩, h5, h6, h7, h8, h9, h10⟩ := h
  refine ⟨?_, ?_, ⟨_, set1_0 h4 _, fun _ => rfl⟩, ?_, fun b a1 a2 a3 a4 => (Below.heap_setCell _ _ _ _ (by simp; omega)).trans (h6 b a1 a2 a3 a4), by simp [World.setCell, h7], h8, h9, h10⟩ <;> (rw [getD_set_ne' (by omega), Below.heap_setCell _ _ _ _ (by simp <;> omega)]; assumption)
theorem CyS.set5 {B : Nat} {r2 r3 r4 : Int} {W6 W : World} {L : Array Bool} (h : CyS B r2 r3 r4 W6 L W) : CyS B r2 r3 r4 W6 (L.setIfInBounds 15 true) (W.setCell ⟨B + 1 + 1 + 1 + 1 + 1, 0, none⟩ (.int .i64 0)) := by
  obtain ⟨h2, h3, h4, ⟨c5, h5, _⟩, h6, h7, h8, h9, h10⟩ := h
  refine ⟨?_, ?_, ?_, ⟨_, set1_0 h5 _, fun _ => rfl⟩, fun b a1 a2 a3 a4 => (Below.heap_setCell _ _ _ _ (by simp; omega)).trans (h6 b a1 a2 a3 a4), by simp [World.setCell, h7], h8, h9, h10⟩ <;> (rw [getD_set_ne' (by omega), Below.heap_setCell _ _ _ _ (by simp <;> omega)]; assumption)

def cyV (A N : Nat) (j k nn nj : Int) : Nat → Value
  | 0 => .pointer (some ⟨A, 0, none⟩)
  | 1 => .int .i64 j
  | 2 => .pointer (some ⟨N, 0, none⟩)
  | 3 => .int .i64 (k + 1)
  | 4 => .pointer (some ⟨A, 0, none⟩)
  | 5 => .int .i64 j
  | 6 => .int .i64 (k + 1 - j)
  | 7 => .pointer (some ⟨N, 1, none⟩)
  | 8 => .int .i64 nn
  | 9 => .pointer (some ⟨A, 1, none⟩)
  | 10 => .int .i64 nj
  | 11 => .int .i64 (nn - nj)
  | _ => undef

set_option maxRecDepth 100000 in
set_option maxHeartbeats 8000000 in
theorem cycle_in (p : Prm) (V R i : Int) (hv : validP p V R = 0) (K j : Nat) (hK : CycS p V R i K j) (w : World) :
    CallsIn Fence.wide 0 Try.prog 31 #[.agg #[.int .i64 p.lk, .int .i64 p.lv, .int .i64 p.bi, .int .i64 p.th, .int .i64 p.rk, .int .i64 p.rs, .int .i64 p.fl, .int .i64 p.re], .agg #[.int .i64 V, .int .i64 R], .int .i64 i] w fun e w' =>
      e = .returned (.tuple #[.int .i64 (cycR p V R i K j).1, .int .i64 (cycR p V R i K j).2.1, .int .i64 (cycR p V R i K j).2.2.1, .int .i64 (cycR p V R i K j).2.2.2]) ∧ Below w.heap.size w w' := by
  have hv' : (validP p V R != 0) = false := by simp [hv]
  have hv0 : validP p V R = 0 := hv
  obtain ⟨hok, k1, k2, k3, k4⟩ := ok_of_valid hv
  obtain ⟨lo, hi, fi, _, hk, _, hst⟩ := kinds hok
  have HK := Lib.hid hok
  have HV0 := Lib.hid hv0
  clear hv hok hv0
  refine callsIn_of_wp_marks Try.func31 rfl trivial ?_ rfl
  simp only [Try.ntmps31, List.size_toArray, List.length_cons, List.length_nil, Nat.reduceAdd, Nat.reduceSub, Array.replicate_succ, Array.replicate_zero, List.push_toArray, List.append_toArray, List.nil_append, List.cons_append]
  gi_wp2_with (refine ⟨trivial, rfl, ?_⟩; gi_at_call 19; refine (callsIn_wide.2 (valid_any p V R _)).mono ?_; rintro e w1 ⟨rfl, hb1⟩; have hz1 : w.heap.size + 5 < w1.heap.size := (by have := hb1.size; simp at this; omega); rw [HV0.out]; have pA : PrmAt p w.heap.size w1 := (by unfold PrmAt; rw [hb1.block _ (by simp <;> omega), Below.heap_alloc _ _ _ (by simp <;> omega), Below.heap_alloc _ _ _ (by simp <;> omega), Below.heap_alloc _ _ _ (by simp <;> omega), Below.heap_alloc _ _ _ (by simp <;> omega), Below.heap_alloc _ _ _ (by simp <;> omega)]; exact alloc_new_at _ _ _ rfl); have r5 : w1.heap[w.heap.size + 1 + 1 + 1 + 1 + 1]? = some (.cells #[.int .i64 0] 26) := (by rw [hb1.block _ (by simp <;> omega)]; exact alloc_new_at _ _ _ (by simp)); obtain ⟨_, _⟩ := cells1 r5)
  have hs0 : w1.heap.size < ((w1.setCell ⟨w.heap.size + 1 + 1 + 1 + 1 + 1, 0, none⟩ (.int .i64 0)).alloc (.cells #[.int .i64 0, .int .i64 0] 77)).heap.size := by simp [World.setCell]
  have hs1 : ((w1.setCell ⟨w.heap.size + 1 + 1 + 1 + 1 + 1, 0, none⟩ (.int .i64 0)).alloc (.cells #[.int .i64 0, .int .i64 0] 77)).heap.size = w1.heap.size + 1 := by simp [World.setCell]
  have eb : ∀ b, b < w1.heap.size → b ≠ w.heap.size + 5 → ((w1.setCell ⟨w.heap.size + 1 + 1 + 1 + 1 + 1, 0, none⟩ (.int .i64 0)).alloc (.cells #[.int .i64 0, .int .i64 0] 77)).heap[b]? = w1.heap[b]? := fun b hb hne => by
    rw [Below.heap_alloc _ _ _ (by simp [World.setCell]; exact hb), Below.heap_setCell _ _ _ _ (by simp; omega)]
  have pB := (eb w.heap.size (by omega) (by omega)).trans pA
  have sB : StAt V R (w.heap.size + 1) ((w1.setCell ⟨w.heap.size + 1 + 1 + 1 + 1 + 1, 0, none⟩ (.int .i64 0)).alloc (.cells #[.int .i64 0, .int .i64 0] 77)) := by
    refine (eb (w.heap.size + 1) (by omega) (by omega)).trans ?_
    rw [hb1.block _ (by simp <;> omega), Below.heap_alloc _ _ _ (by simp <;> omega), Below.heap_alloc _ _ _ (by simp <;> omega), Below.heap_alloc _ _ _ (by simp <;> omega), Below.heap_alloc _ _ _ (by simp <;> omega)]; exact alloc_new_at _ _ _ (by simp)
  have r2 : ((w1.setCell ⟨w.heap.size + 1 + 1 + 1 + 1 + 1, 0, none⟩ (.int .i64 0)).alloc (.cells #[.int .i64 0, .int .i64 0] 77)).heap[w.heap.size + 1 + 1]? = some (.cells #[.int .i64 0] 3) := by
    refine (eb _ (by omega) (by omega)).trans ?_
    rw [hb1.block _ (by simp <;> omega), Below.heap_alloc _ _ _ (by simp <;> omega), Below.heap_alloc _ _ _ (by simp <;> omega), Below.heap_alloc _ _ _ (by simp <;> omega)]; exact alloc_new_at _ _ _ (by simp)
  have r3 : ((w1.setCell ⟨w.heap.size + 1 + 1 + 1 + 1 + 1, 0, none⟩ (.int .i64 0)).alloc (.cells #[.int .i64 0, .int .i64 0] 77)).heap[w.heap.size + 1 + 1 + 1]? = some (.cells #[.int .i64 0] 3) := by
    refine (eb _ (by omega) (by omega)).trans ?_
    rw [hb1.block _ (by simp <;> omega), Below.heap_alloc _ _ _ (by simp <;> omega), Below.heap_alloc _ _ _ (by simp <;> omega)]; exact alloc_new_at _ _ _ (by simp)
  have r4 : ((w1.setCell ⟨w.heap.size + 1 + 1 + 1 + 1 + 1, 0, none⟩ (.int .i64 0)).alloc (.cells #[.int .i64 0, .int .i64 0] 77)).heap[w.heap.size + 1 + 1 + 1 + 1]? = some (.cells #[.int .i64 0] 3) := by
    refine (eb _ (by omega) (by omega)).trans ?_
    rw [hb1.block _ (by simp <;> omega), Below.heap_alloc _ _ _ (by simp <;> omega)]; exact alloc_new_at _ _ _ (by simp)
  have r5' : ((w1.setCell ⟨w.heap.size + 1 + 1 + 1 + 1 + 1, 0, none⟩ (.int .i64 0)).alloc (.cells #[.int .i64 0, .int .i64 0] 77)).heap[w.heap.size + 1 + 1 + 1 + 1 + 1]? = some (.cells #[.int .i64 0] 26) := by
    rw [Below.heap_alloc _ _ _ (by simp [World.setCell]; omega)]; exact set1_0 r5 _
  have nB : ((w1.setCell ⟨w.heap.size + 1 + 1 + 1 + 1 + 1, 0, none⟩ (.int .i64 0)).alloc (.cells #[.int .i64 0, .int .i64 0] 77)).heap[w1.heap.size]? = some (.cells #[.int .i64 0, .int .i64 0] 77) := alloc_new_at _ _ _ (by simp [World.setCell])
  have bB : Below w.heap.size w ((w1.setCell ⟨w.heap.size + 1 + 1 + 1 + 1 + 1, 0, none⟩ (.int .i64 0)).alloc (.cells #[.int .i64 0, .int .i64 0] 77)) :=
    ((((((((Below.refl _ _).alloc (Nat.le_refl _) _).alloc (by simp) _ |>.alloc (by simp <;> omega) _).alloc (by simp <;> omega) _).alloc (by simp <;> omega) _).alloc (by simp <;> omega) _).trans (hb1.mono (by simp <;> omega))).setCell (p := ⟨w.heap.size + 1 + 1 + 1 + 1 + 1, 0, none⟩) (by simp <;> omega) _).alloc (by simp [World.setCell] <;> omega) _
  clear eb hb1 pA r5
  generalize (w1.setCell ⟨w.heap.size + 1 + 1 + 1 + 1 + 1, 0, none⟩ (.int .i64 0)).alloc (.cells #[.int .i64 0, .int .i64 0] 77) = W0 at *
  have hmm := @run_makeMap Try.prog
  have wfV : (Lit.int .i64 V).wf = true := by
    have := HK.out.fl0
    have := HK.out.reM
    simp [Lit.wf, IntKind.min, IntKind.max, IntKind.signed, IntKind.bits] <;> omega
  have wfR : (Lit.int .i64 R).wf = true := by
    have := HK.out.fl0
    have := HK.out.reM
    simp [Lit.wf, IntKind.min, IntKind.max, IntKind.signed, IntKind.bits] <;> omega
  obtain ⟨W1, hup, hM1, hg1⟩ := (MapIs.made W0).update (by decide) Try.underlying78 V R wfV wfR (.agg #[.int .i64 0, .int .i64 0])
  obtain ⟨_, _, _, _⟩ := cells2 sB
  obtain ⟨_, _, _, _⟩ := cells2 nB
  have z1 : w.heap.size + 1 < W0.heap.size := by omega
  have HM1 := Lib.hid hM1
  have HG1 := Lib.hid hg1
  have HP := Lib.hid pB
  have HS := Lib.hid sB
  have HR2 := Lib.hid r2
  have HR3 := Lib.hid r3
  have HR4 := Lib.hid r4
  have HR5 := Lib.hid r5'
  have HN := Lib.hid nB
  have HB := Lib.hid bB
  have HS1 := Lib.hid hs1
  clear hM1 hg1 pB sB r2 r3 r4 r5' nB bB hs1
  go_simp
  gi_wp2
  have hg1 := HG1.out
  have hM1 := HM1.out
  have hlt1 : W0.heap.size < W1.heap.size := hM1.lt
  have eb : ∀ b, b < W0.heap.size → (W1.alloc (.cells #[.map (some W0.heap.size)] 78)).heap[b]? = W0.heap[b]? := fun b hb => by
    rw [Below.heap_alloc _ _ _ (by omega), hg1.block _ (by simp; omega) (by simp; omega), Below.heap_alloc _ _ _ hb]
  have hM2 : MapIs (W1.alloc (.cells #[.map (some W0.heap.size)] 78)) W0.heap.size 1 (fS p V R i 0) := by
    have := hM1.of_block (W' := W1.alloc (.cells #[.map (some W0.heap.size)] 78)) (Below.heap_alloc _ _ _ hlt1)
    exact this
  have cC : (W1.alloc (.cells #[.map (some W0.heap.size)] 78)).heap[W1.heap.size]? = some (.cells #[.map (some W0.heap.size)] 78) := World.alloc_heap_new _ _
  have pN := (eb _ (by omega)).trans HP.out
  have sN := (eb _ (by omega)).trans HS.out
  have r2 := (eb _ (by omega)).trans HR2.out
  have r3 := (eb _ (by omega)).trans HR3.out
  have r4 := (eb _ (by omega)).trans HR4.out
  have r5 := (eb _ (by omega)).trans HR5.out
  have nN := (eb _ (by omega)).trans HN.out
  have bN : Below w.heap.size w (W1.alloc (.cells #[.map (some W0.heap.size)] 78)) := by
    have h1 := hg1.size
    simp at h1
    exact ((HB.out.alloc (by omega) (.map #[] 0)).grown hg1 (by simp; omega) (fun j hj => by cases hj; omega)).alloc (by omega) _
  have hsN : W1.heap.size < (W1.alloc (.cells #[.map (some W0.heap.size)] 78)).heap.size := by simp
  clear hg1 hM1 eb hup HG1 HM1
  generalize (W1.alloc (.cells #[.map (some W0.heap.size)] 78)) = wn at *
  obtain ⟨q0, q1, q2, q3, q4, q5, q6, q7⟩ := cells8 pN
  obtain ⟨s0, s1, _, _⟩ := cells2 sN
  have hz0 : w.heap.size < wn.heap.size := by omega
  have hz1' : w.heap.size + 1 < wn.heap.size := by omega
  have PN := Lib.hid pN
  have SN := Lib.hid sN
  have R2 := Lib.hid r2
  have R3 := Lib.hid r3
  have R4 := Lib.hid r4
  have R5 := Lib.hid r5
  have NN := Lib.hid nN
  have CC := Lib.hid cC
  have MN := Lib.hid hM2
  have HB3 := Lib.hid bN
  clear pN sN r2 r3 r4 r5 nN cC hM2 bN
  refine wpIn_wide.2 ?_
  go_region_held3 (fun w' => w'.cell? ⟨w.heap.size, 0, none⟩ = some (.int .i64 p.lk) ∧ w'.cell? ⟨w.heap.size, 1, none⟩ = some (.int .i64 p.lv) ∧ w'.cell? ⟨w.heap.size, 2, none⟩ = some (.int .i64 p.bi) ∧ w'.cell? ⟨w.heap.size, 3, none⟩ = some (.int .i64 p.th) ∧ w'.cell? ⟨w.heap.size, 4, none⟩ = some (.int .i64 p.rk) ∧ w'.cell? ⟨w.heap.size, 5, none⟩ = some (.int .i64 p.rs) ∧ w'.cell? ⟨w.heap.size, 6, none⟩ = some (.int .i64 p.fl) ∧ w'.cell? ⟨w.heap.size, 7, none⟩ = some (.int .i64 p.re) ∧ w'.cell? ⟨w.heap.size + 1, 0, none⟩ = some (.int .i64 V) ∧ w'.cell? ⟨w.heap.size + 1, 1, none⟩ = some (.int .i64 R)) (go_keep)
    (first | (go_at_call 49; refine (again_any _ _ _).mono ?_; rintro e w' ⟨rfl, rfl⟩) | (go_at_call 48; refine (ticks_any p V R 60 _ lo hi fi hk _).mono ?_; rintro e w2 ⟨bs, bi, bp, bl, rfl, g1, g2, g3, g4, g5, g6, g7, g8, hb4⟩; have hb5 : Below wn.heap.size wn w2 := ((((Below.refl _ wn).alloc (Nat.le_refl _) _).alloc (by simp) _).drew.trans (hb4.mono (by simp <;> omega))); obtain ⟨v0, v1, v2, v3, v4, v5, v6, v7⟩ := cells8 ((hb5.block _ (by omega)).trans PN.out); obtain ⟨u0, u1, _, _⟩ := cells2 ((hb5.block _ (by omega)).trans SN.out); have HG := Lib.hid (And.intro g1 (And.intro g2 (And.intro g3 (And.intro g4 (And.intro g5 (And.intro g6 (And.intro g7 g8))))))); have HB4 := Lib.hid hb4; have HB5 := Lib.hid hb5; clear g1 g2 g3 g4 g5 g6 g7 g8 hb4 hb5))
  gi_wp2
  obtain ⟨g1, g2, g3, g4, g5, g6, g7, g8⟩ := HG.out
  simp at g1 g2 g3 g4
  have hb4 := HB4.out
  have hsz2 : wn.heap.size + 2 ≤ w2.heap.size := by have := hb4.size; simp at this; omega
  have hGi : Gives Try.prog 60 #[.pointer (some ⟨wn.heap.size + 1, 0, none⟩), .pointer (some ⟨wn.heap.size, 0, none⟩)] (fun x : Int => #[.int .i64 x]) (List.replicate 65536 i) (fun b => b = wn.heap.size + 1 ∨ b = wn.heap.size) w2 :=
    again1_gives (wn.heap.size + 1) wn.heap.size 65536 i w2 (by omega)
      (cells1 ((hb4.block _ (by simp <;> omega)).trans (alloc_new_at _ _ _ (by simp)))).1 (cells1 ((hb4.block _ (by simp <;> omega)).trans (alloc_old_new _ _ _))).1
  have hG := ticks1_gives p HK.out lo hi fi hst V R k1 k2 k3 k4 (List.replicate 65536 i) 60 _ enters60 bs bi bp bl w2 _ hGi (by rintro b (rfl | rfl) <;> omega) g5 g6 g7 g8
  have hI0 : CyI p V R i K w1.heap.size W0.heap.size W1.heap.size w 0 w2 := by
    have hb5 := HB5.out
    exact ⟨by have := hK.pos; omega, (hb5.block _ (by omega)).trans R2.out, (hb5.block _ (by omega)).trans R3.out, (hb5.block _ (by omega)).trans R4.out, (hb5.block _ (by omega)).trans R5.out, (hb5.block _ (by omega)).trans NN.out, (hb5.block _ (by omega)).trans CC.out, MN.out.of_block (hb5.block _ (by omega)), HB3.out.trans (hb5.mono HB3.out.size)⟩
  refine wp_range1 (gf := 59) rfl enters59 hG (Nat.le_refl _) (fun b hb => ⟨?hc, rfl⟩) (fun _ => rfl) (fun b => b = w.heap.size + 2 ∨ b = w.heap.size + 3 ∨ b = w.heap.size + 4 ∨ b = w.heap.size + 5 ∨ b = w1.heap.size ∨ b = W0.heap.size)
    (fun b hb => ⟨fun hc => ?ho, by omega⟩) (fun _ k A => CyI p V R i K w1.heap.size W0.heap.size W1.heap.size w k A) (fun c _ _ A => CyX p V R i K j w c A) ?hI ?hIx hI0 ?hround ?hdone ?hstop
  case hc =>
    rcases hb with rfl | rfl | rfl | rfl | rfl | rfl
    · exact lt_of_block g5
    · exact lt_of_block g6
    · exact lt_of_block g7
    · exact lt_of_block g8
    · omega
    · omega
  case ho =>
    rcases hc with rfl | rfl | rfl | rfl | rfl | rfl <;> omega
  case hI =>
    rintro G k A A' ⟨h0, h1, h2, h3, h4, h5, h6, h7, h8⟩ hb
    exact ⟨h0, (hb.block _ (lt_of_block h1) (by omega)).trans h1, (hb.block _ (lt_of_block h2) (by omega)).trans h2, (hb.block _ (lt_of_block h3) (by omega)).trans h3, (hb.block _ (lt_of_block h4) (by omega)).trans h4, (hb.block _ (lt_of_block h5) (by omega)).trans h5, (hb.block _ (lt_of_block h6) (by omega)).trans h6, h7.of_block (hb.block _ h7.lt (by omega)), h8.trans (hb.below (by have := lt_of_block h1; omega) (fun b h => by omega))⟩
  case hIx =>
    rintro c G k A A' ⟨h0, h1, h2, h3, h4, h5, h6⟩ hb
    exact ⟨h0, h1, (hb.block _ (lt_of_block h2) (by omega)).trans h2, (hb.block _ (lt_of_block h3) (by omega)).trans h3, (hb.block _ (lt_of_block h4) (by omega)).trans h4, (hb.block _ (lt_of_block h5) (by omega)).trans h5, h6.trans (hb.below (by have := lt_of_block h2; omega) (fun b h => by omega))⟩
  case hdone =>
    rintro D G W' hD hG hGb ⟨h0, h1, h2, h3, h4, h5, h6, h7, h8⟩ hK'
    rw [runL_length, List.length_replicate] at h0
    have hKe : K = 65537 := by have := hK.le; omega
    have hltD := lt_of_block hK'
    obtain ⟨_, _⟩ := cells1 h1
    obtain ⟨_, _⟩ := cells1 h2
    obtain ⟨_, _⟩ := cells1 h3
    obtain ⟨_, _⟩ := cells1 h4
    have H1 := Lib.hid h1
    have H2 := Lib.hid h2
    have H3 := Lib.hid h3
    have H4 := Lib.hid h4
    have H8 := Lib.hid h8
    have HKE := Lib.hid hKe
    have HKD := Lib.hid hK'
    clear h0 h1 h2 h3 h4 h5 h6 h7 h8 hKe hK'
    gi_wp2
    have eo2 : ∀ b, b ≠ w.heap.size + 2 → b ≠ w.heap.size + 3 → b ≠ w.heap.size + 4 → b ≠ w.heap.size + 5 → ((((W'.setCell ⟨w.heap.size + 1 + 1, 0, none⟩ (.int .i64 0)).setCell ⟨w.heap.size + 1 + 1 + 1, 0, none⟩ (.int .i64 0)).setCell ⟨w.heap.size + 1 + 1 + 1 + 1, 0, none⟩ (.int .i64 0)).setCell ⟨w.heap.size + 1 + 1 + 1 + 1 + 1, 0, none⟩ (.int .i64 8)).heap[b]? = W'.heap[b]? := fun b h2 h3 h4 h5 => by
      rw [Below.heap_setCell _ _ _ _ (by simp; omega), Below.heap_setCell _ _ _ _ (by simp; omega), Below.heap_setCell _ _ _ _ (by simp; omega), Below.heap_setCell _ _ _ _ (by simp; omega)]
    have x2 : ((((W'.setCell ⟨w.heap.size + 1 + 1, 0, none⟩ (.int .i64 0)).setCell ⟨w.heap.size + 1 + 1 + 1, 0, none⟩ (.int .i64 0)).setCell ⟨w.heap.size + 1 + 1 + 1 + 1, 0, none⟩ (.int .i64 0)).setCell ⟨w.heap.size + 1 + 1 + 1 + 1 + 1, 0, none⟩ (.int .i64 8)).heap[w.heap.size + 1 + 1]? = some (.cells #[.int .i64 0] 3) := by
      rw [Below.heap_setCell _ _ _ _ (by simp <;> omega), Below.heap_setCell _ _ _ _ (by simp <;> omega), Below.heap_setCell _ _ _ _ (by simp <;> omega)]; exact set1_0 H1.out _
    have x3 : ((((W'.setCell ⟨w.heap.size + 1 + 1, 0, none⟩ (.int .i64 0)).setCell ⟨w.heap.size + 1 + 1 + 1, 0, none⟩ (.int .i64 0)).setCell ⟨w.heap.size + 1 + 1 + 1 + 1, 0, none⟩ (.int .i64 0)).setCell ⟨w.heap.size + 1 + 1 + 1 + 1 + 1, 0, none⟩ (.int .i64 8)).heap[w.heap.size + 1 + 1 + 1]? = some (.cells #[.int .i64 0] 3) := by
      rw [Below.heap_setCell _ _ _ _ (by simp <;> omega), Below.heap_setCell _ _ _ _ (by simp <;> omega)]; exact set1_0 (by rw [Below.heap_setCell _ _ _ _ (by simp <;> omega)]; exact H2.out) _
    have x4 : ((((W'.setCell ⟨w.heap.size + 1 + 1, 0, none⟩ (.int .i64 0)).setCell ⟨w.heap.size + 1 + 1 + 1, 0, none⟩ (.int .i64 0)).setCell ⟨w.heap.size + 1 + 1 + 1 + 1, 0, none⟩ (.int .i64 0)).setCell ⟨w.heap.size + 1 + 1 + 1 + 1 + 1, 0, none⟩ (.int .i64 8)).heap[w.heap.size + 1 + 1 + 1 + 1]? = some (.cells #[.int .i64 0] 3) := by
      rw [Below.heap_setCell _ _ _ _ (by simp <;> omega)]; exact set1_0 (by rw [Below.heap_setCell _ _ _ _ (by simp <;> omega), Below.heap_setCell _ _ _ _ (by simp <;> omega)]; exact H3.out) _
    have x5 : ((((W'.setCell ⟨w.heap.size + 1 + 1, 0, none⟩ (.int .i64 0)).setCell ⟨w.heap.size + 1 + 1 + 1, 0, none⟩ (.int .i64 0)).setCell ⟨w.heap.size + 1 + 1 + 1 + 1, 0, none⟩ (.int .i64 0)).setCell ⟨w.heap.size + 1 + 1 + 1 + 1 + 1, 0, none⟩ (.int .i64 8)).heap[w.heap.size + 1 + 1 + 1 + 1 + 1]? = some (.cells #[.int .i64 8] 26) :=
      set1_0 (by rw [Below.heap_setCell _ _ _ _ (by simp <;> omega), Below.heap_setCell _ _ _ _ (by simp <;> omega), Below.heap_setCell _ _ _ _ (by simp <;> omega)]; exact H4.out) _
    have eB : Below w.heap.size w ((((W'.setCell ⟨w.heap.size + 1 + 1, 0, none⟩ (.int .i64 0)).setCell ⟨w.heap.size + 1 + 1 + 1, 0, none⟩ (.int .i64 0)).setCell ⟨w.heap.size + 1 + 1 + 1 + 1, 0, none⟩ (.int .i64 0)).setCell ⟨w.heap.size + 1 + 1 + 1 + 1 + 1, 0, none⟩ (.int .i64 8)) :=
      (((H8.out.setCell (p := ⟨w.heap.size + 1 + 1, 0, none⟩) (by simp <;> omega) _).setCell (p := ⟨w.heap.size + 1 + 1 + 1, 0, none⟩) (by simp <;> omega) _).setCell (p := ⟨w.heap.size + 1 + 1 + 1 + 1, 0, none⟩) (by simp <;> omega) _).setCell (p := ⟨w.heap.size + 1 + 1 + 1 + 1 + 1, 0, none⟩) (by simp <;> omega) _
    have eK := (eo2 D (by omega) (by omega) (by omega) (by omega)).trans HKD.out
    generalize (((W'.setCell ⟨w.heap.size + 1 + 1, 0, none⟩ (.int .i64 0)).setCell ⟨w.heap.size + 1 + 1 + 1, 0, none⟩ (.int .i64 0)).setCell ⟨w.heap.size + 1 + 1 + 1 + 1, 0, none⟩ (.int .i64 0)).setCell ⟨w.heap.size + 1 + 1 + 1 + 1 + 1, 0, none⟩ (.int .i64 8) = Wf at *
    have eo3 : ∀ b, b ≠ D → (Wf.putObj D (.deferred none)).heap[b]? = Wf.heap[b]? := fun b hb => World.putObj_heap_other hb
    obtain ⟨y2, _⟩ := cells1 ((eo3 _ (by omega)).trans x2)
    obtain ⟨y3, _⟩ := cells1 ((eo3 _ (by omega)).trans x3)
    obtain ⟨y4, _⟩ := cells1 ((eo3 _ (by omega)).trans x4)
    obtain ⟨y5, _⟩ := cells1 ((eo3 _ (by omega)).trans x5)
    refine ⟨by simp, .inl ⟨_, _, rfl, run_takeDeferred eK, .tuple #[.int .i64 0, .int .i64 0, .int .i64 0, .int .i64 8], ?_, ?_⟩⟩
    · simp [results, Try.results31, go_sem, y2, y3, y4, y5]
    · exact ⟨by rw [cycR, if_neg (by rw [HKE.out]; omega)], eB.trans ⟨rfl, rfl, rfl, by simp, fun b hb => eo3 b (by omega)⟩⟩
  case hstop =>
    rintro D c G k W' hD hnG hGb hk ⟨rfl, h1, h2, h3, h4, h5, h6⟩ hK'
    have hltD := lt_of_block hK'
    have hl2 := lt_of_block h2
    gi_wp2
    have eo2 : ∀ b, b ≠ D → (W'.putObj D (.deferred none)).heap[b]? = W'.heap[b]? := fun b hb => World.putObj_heap_other hb
    obtain ⟨y2, _⟩ := cells1 ((eo2 _ (by omega)).trans h2)
    obtain ⟨y3, _⟩ := cells1 ((eo2 _ (by omega)).trans h3)
    obtain ⟨y4, _⟩ := cells1 ((eo2 _ (by omega)).trans h4)
    obtain ⟨y5, _⟩ := cells1 ((eo2 _ (by omega)).trans h5)
    refine ⟨by simp, .inl ⟨_, _, rfl, run_takeDeferred hK', .tuple #[.int .i64 (j : Int), .int .i64 ((K : Int) - j), .int .i64 ((nsp p V R i K : Int) - nsp p V R i j), .int .i64 0], ?_, ?_⟩⟩
    · simp [results, Try.results31, go_sem, y2, y3, y4, y5]
    · exact ⟨by rw [cycR, if_pos h1], h6.trans ⟨rfl, rfl, rfl, by simp, fun b hb => eo2 b (by omega)⟩⟩
  case hround =>
    rintro l2 G k x A hl2 hGb hszA hIk hx
    obtain ⟨hkn, rfl⟩ := runL_stk p V R i _ k x hx
    obtain ⟨⟨X1, X2⟩, hX⟩ : ∃ X : Int × Int, X = stk p V R i (k + 1) := ⟨_, rfl⟩
    obtain ⟨sp, hsp⟩ : ∃ sp, sp = sps p V R i k := ⟨_, rfl⟩
    have hval := stk_valid HK.out i k1 k2 k3 k4 (k + 1)
    rw [← hX] at hval
    obtain ⟨wX1, wX2⟩ : (Lit.int .i64 X1).wf = true ∧ (Lit.int .i64 X2).wf = true := by
      have := HK.out.fl0
      have := HK.out.reM
      have hl := Lib.hid hval
      obtain ⟨v1, v2, v3, v4⟩ := hval
      constructor <;> simp [Lit.wf, IntKind.min, IntKind.max, IntKind.signed, IntKind.bits] <;> omega
    rw [← hX, ← hsp]
    have HX := Lib.hid hX
    have HSP := Lib.hid hsp
    clear hx hX hsp hval
    gi_wp2
    refine ⟨(Bel.refl _ _ _).alloc (Nat.le_refl _) _, ?_⟩
    rintro W2 hsW ⟨h0, h1, h2, h3, h4, h5, h6, h7, h8⟩
    have bA : W2.heap[A.heap.size]? = some (.cells #[.int .i64 X1, .int .i64 X2] 25) := (hsW.cells _ ⟨_, _, _, World.alloc_heap_new _ _⟩).trans (World.alloc_heap_new _ _)
    have hszA2 : A.heap.size < W2.heap.size := lt_of_block bA
    have nk1 := nsp_le p V R i k
    obtain ⟨nk, hnk⟩ : ∃ nk, nk = nsp p V R i k := ⟨_, rfl⟩
    rw [← hnk] at h5 nk1
    obtain ⟨a0, a1, _, _⟩ := cells2 bA
    obtain ⟨n0, n1, nf0, nf1⟩ := cells2 h5
    obtain ⟨c0, cf0⟩ := cells1 h6
    obtain ⟨_, _⟩ := cells1 h1
    obtain ⟨_, _⟩ := cells1 h2
    obtain ⟨_, _⟩ := cells1 h3
    obtain ⟨_, _⟩ := cells1 h4
    have hzz : ∀ W, (zeroValue 77).run Try.prog W = .ok (.agg #[.int .i64 0, .int .i64 0]) W := fun W => by kernel_rfl
    have e1 : ¬ w1.heap.size = W0.heap.size := by omega
    have e2 : ¬ A.heap.size = w1.heap.size := by omega
    have e3 : ¬ W1.heap.size = w1.heap.size := by omega
    have e4 : ¬ A.heap.size = W0.heap.size := by omega
    have e5 : W1.heap.size < W2.heap.size := by omega
    have e6 : w1.heap.size < W2.heap.size := by omega
    have e7 : w.heap.size + 1 + 1 + 1 + 1 + 1 < w1.heap.size := by omega
    have e8 : w1.heap.size < wn.heap.size := by omega
    have H1 := Lib.hid h1
    have H2 := Lib.hid h2
    have H3 := Lib.hid h3
    have H4 := Lib.hid h4
    have H5 := Lib.hid h5
    have H6 := Lib.hid h6
    have H7 := Lib.hid h7
    have H8 := Lib.hid h8
    have HNK := Lib.hid hnk
    have HGB := Lib.hid hGb
    have HBA := Lib.hid bA
    clear h1 h2 h3 h4 h5 h6 h7 h8 hsW bA hIk hGb hnk
    have hnsp : nsp p V R i (k + 1) = nk + if sp then 1 else 0 := by rw [HNK.out, HSP.out]; rfl
    have HNS := Lib.hid hnsp
    clear hnsp
    cases sp with
    | false =>
      have hns : nsp p V R i (k + 1) = nk := by rw [HNS.out]; simp
      have hM3 : MapIs (W2.setCell ⟨w1.heap.size, 0, none⟩ (.int .i64 ((k : Int) + 1))) W0.heap.size (k + 1) (fS p V R i k) := H7.out.of_block (Below.heap_setCell _ _ _ _ (by simp; omega))
      have hlk := hM3.look Try.underlying78 (hzz _) X1 X2 wX1 wX2
      have hn3 : (W2.setCell ⟨w1.heap.size, 0, none⟩ (.int .i64 ((k : Int) + 1))).heap[w1.heap.size]? = some (.cells #[.int .i64 ((k : Int) + 1), .int .i64 (nk : Int)] 77) := set2_0 H5.out _
      have ebb : ∀ b, b ≠ w1.heap.size → (W2.setCell ⟨w1.heap.size, 0, none⟩ (.int .i64 ((k : Int) + 1))).heap[b]? = W2.heap[b]? := fun b hb => Below.heap_setCell _ _ _ _ (by simpa using hb)
      have hs3 : (W2.setCell ⟨w1.heap.size, 0, none⟩ (.int .i64 ((k : Int) + 1))).heap.size = W2.heap.size := by simp [World.setCell]
      have hB3 : Bel (fun b => (b = w.heap.size + 2 ∨ b = w.heap.size + 3 ∨ b = w.heap.size + 4 ∨ b = w.heap.size + 5 ∨ b = w1.heap.size ∨ b = W0.heap.size) ∨ G b) A.heap.size W2 (W2.setCell ⟨w1.heap.size, 0, none⟩ (.int .i64 ((k : Int) + 1))) := (Bel.refl _ _ _).setCell (p := ⟨w1.heap.size, 0, none⟩) (Or.inl (Or.inl (Or.inr (Or.inr (Or.inr (Or.inr (Or.inl rfl))))))) _
      have hL3 : Below w.heap.size w (W2.setCell ⟨w1.heap.size, 0, none⟩ (.int .i64 ((k : Int) + 1))) := H8.out.setCell (p := ⟨w1.heap.size, 0, none⟩) (by simp; omega) _
      have HNS' := Lib.hid hns
      have HM3 := Lib.hid hM3
      have HN3 := Lib.hid hn3
      have EBB := Lib.hid ebb
      have HS3 := Lib.hid hs3
      have HB3' := Lib.hid hB3
      have HL3 := Lib.hid hL3
      clear hns hM3 hn3 ebb hs3 hB3 hL3
      by_cases hkK : k + 1 = K
      · have hf : fS p V R i k X1 X2 = some (.agg #[.int .i64 (j : Int), .int .i64 (nsp p V R i j : Int)]) := by
          obtain ⟨g1, g2⟩ := hK.hit (by omega)
          refine fS_some p V R i X1 X2 j (by rw [HX.out, hkK]; exact g2) k (by omega) fun a h1 h2 e => ?_
          exact hK.fresh j a h1 (by omega) (by rw [e, HX.out, hkK]; exact g2)
        rw [hf] at hlk
        simp only [Option.getD_some, Option.isSome_some] at hlk
        have hj := (hK.hit (by omega)).1
        have nj1 := nsp_mono p V R i (show j ≤ k by omega)
        rw [← HNK.out] at nj1
        obtain ⟨nj, hnj⟩ : ∃ nj, nj = nsp p V R i j := ⟨_, rfl⟩
        rw [← hnj] at hlk nj1
        have HNJ := Lib.hid hnj
        have HKK := Lib.hid hkK
        clear hf hnj hkK
        gi_wp2
        have v1 := (Below.heap_alloc (W2.setCell ⟨w1.heap.size, 0, none⟩ (.int .i64 ((k : Int) + 1))) (.cells #[.int .i64 (j : Int), .int .i64 (nj : Int)] 77) _ (by rw [HS3.out]; omega)).trans HN3.out
        have v0 : ((W2.setCell ⟨w1.heap.size, 0, none⟩ (.int .i64 ((k : Int) + 1))).alloc (.cells #[.int .i64 (j : Int), .int .i64 (nj : Int)] 77)).heap[W2.heap.size]? = some (.cells #[.int .i64 (j : Int), .int .i64 (nj : Int)] 77) := alloc_new_at _ _ _ HS3.out.symm
        have ev : ∀ b, b < w1.heap.size → ((W2.setCell ⟨w1.heap.size, 0, none⟩ (.int .i64 ((k : Int) + 1))).alloc (.cells #[.int .i64 (j : Int), .int .i64 (nj : Int)] 77)).heap[b]? = W2.heap[b]? := fun b hb => (Below.heap_alloc _ _ _ (by rw [HS3.out]; omega)).trans (EBB.out b (by omega))
        have v2 := (ev _ (by omega)).trans H1.out
        have v3 := (ev _ (by omega)).trans H2.out
        have v4 := (ev _ (by omega)).trans H3.out
        have v5 := (ev _ (by omega)).trans H4.out
        have vB : Bel (fun b => (b = w.heap.size + 2 ∨ b = w.heap.size + 3 ∨ b = w.heap.size + 4 ∨ b = w.heap.size + 5 ∨ b = w1.heap.size ∨ b = W0.heap.size) ∨ G b) A.heap.size W2 ((W2.setCell ⟨w1.heap.size, 0, none⟩ (.int .i64 ((k : Int) + 1))).alloc (.cells #[.int .i64 (j : Int), .int .i64 (nj : Int)] 77)) := HB3'.out.alloc (by rw [HS3.out]; omega) _
        have vL := HL3.out.alloc (by rw [HS3.out]; omega) (.cells #[.int .i64 (j : Int), .int .i64 (nj : Int)] 77)
        clear ev hlk
        generalize (W2.setCell ⟨w1.heap.size, 0, none⟩ (.int .i64 ((k : Int) + 1))).alloc (.cells #[.int .i64 (j : Int), .int .i64 (nj : Int)] 77) = W6 at *
        obtain ⟨_, _, _, _⟩ := cells2 v0
        obtain ⟨_, _, _, _⟩ := cells2 v1
        obtain ⟨_, _⟩ := cells1 v2
        obtain ⟨_, _⟩ := cells1 v3
        obtain ⟨_, _⟩ := cells1 v4
        obtain ⟨_, _⟩ := cells1 v5
        have V0 := Lib.hid v0
        have V1 := Lib.hid v1
        have V2 := Lib.hid v2
        have V3 := Lib.hid v3
        have V4 := Lib.hid v4
        have V5 := Lib.hid v5
        have VB := Lib.hid vB
        have VL := Lib.hid vL
        have VS := lt_of_block v0
        clear v0 v1 v2 v3 v4 v5 vB vL
        refine wpIn_region_vals' (cyV W2.heap.size w1.heap.size j k (nk : Int) nj) (CyS w.heap.size j ((k : Int) + 1 - j) ((nk : Int) - (nj : Int)) W6) (by kernel_rfl) (by kernel_rfl) (by kernel_rfl) (by kernel_rfl) ?ini ?stp ?dn
        case ini =>
          exact ⟨⟨_, V2.out, fun h => by simp at h⟩, ⟨_, V3.out, fun h => by simp at h⟩, ⟨_, V4.out, fun h => by simp at h⟩, ⟨_, V5.out, fun h => by simp at h⟩, fun _ _ _ _ _ => rfl, rfl, rfl, rfl, rfl⟩
        case dn =>
          intro W b hI hh hbs
          have HI := Lib.hid hI
          clear hI hh hbs
          gi_wp2
          have hI := HI.out
          obtain ⟨x2, y2, z2⟩ := hI.c2
          obtain ⟨x3, y3, z3⟩ := hI.c3
          obtain ⟨x4, y4, z4⟩ := hI.c4
          obtain ⟨x5, y5, z5⟩ := hI.c5
          rw [z2 (by simp)] at y2
          rw [z3 (by simp)] at y3
          rw [z4 (by simp)] at y4
          rw [z5 (by simp)] at y5
          have hWB : Bel (fun b => (b = w.heap.size + 2 ∨ b = w.heap.size + 3 ∨ b = w.heap.size + 4 ∨ b = w.heap.size + 5 ∨ b = w1.heap.size ∨ b = W0.heap.size) ∨ G b) A.heap.size W2 W :=
            ⟨hI.os.trans VB.out.os, hI.tape.trans VB.out.tape, hI.output.trans VB.out.output, by rw [hI.size]; exact VB.out.size, fun b hb hn => (hI.other b (by omega) (by omega) (by omega) (by omega)).trans (VB.out.block b hb hn)⟩
          have hWL : Below w.heap.size w W := VL.out.trans (show Below w.heap.size W6 W from ⟨hI.os, hI.tape, hI.output, by rw [hI.size]; exact Nat.le_refl _, fun b hb => hI.other b (by omega) (by omega) (by omega) (by omega)⟩)
          have hk2 : (k : Int) + 1 = K := by have := HKK.out; omega
          refine ⟨G, ⟨fun _ h => h, fun _ h => Or.inl h, fun b hb => by have := (HGB.out b hb).2; have := hWB.size; omega⟩, ⟨rfl, by have := HKK.out; omega, y2, by rw [← hk2]; exact y3, ?_, y5, hWL⟩, hWB⟩
          rw [← HKK.out, HNS'.out, ← HNJ.out]
          exact y4
        case stp =>
          intro L W i o b hs ho hI hh
          have hi := (List.getElem?_eq_some_iff.1 ho).1
          have hc : i = 0 ∨ i = 1 ∨ i = 2 ∨ i = 3 ∨ i = 4 ∨ i = 5 ∨ i = 6 ∨ i = 7 ∨ i = 8 ∨ i = 9 ∨ i = 10 ∨ i = 11 ∨ i = 12 ∨ i = 13 ∨ i = 14 ∨ i = 15 := by simp at hi; omega
          obtain ⟨_, _, _, _⟩ := cells2 ((hI.other _ (by omega) (by omega) (by omega) (by omega)).trans V0.out)
          obtain ⟨_, _, _, _⟩ := cells2 ((hI.other _ (by omega) (by omega) (by omega) (by omega)).trans V1.out)
          obtain ⟨x2, y2, _⟩ := hI.c2
          obtain ⟨_, _⟩ := cells1 y2
          obtain ⟨x3, y3, _⟩ := hI.c3
          obtain ⟨_, _⟩ := cells1 y3
          obtain ⟨x4, y4, _⟩ := hI.c4
          obtain ⟨_, _⟩ := cells1 y4
          obtain ⟨x5, y5, _⟩ := hI.c5
          obtain ⟨_, _⟩ := cells1 y5
          have HI := Lib.hid hI
          clear hi hs hI y2 y3 y4 y5
          have hjk : j ≤ k := by have := HKK.out; omega
          have ew1 : IntKind.i64.wrap ((k : Int) + 1 - (j : Int)) = (k : Int) + 1 - (j : Int) := by simp [IntKind.wrap, IntKind.bits, IntKind.signed]; split <;> omega
          have ew2 : IntKind.i64.wrap ((nk : Int) - (nj : Int)) = (nk : Int) - (nj : Int) := by simp [IntKind.wrap, IntKind.bits, IntKind.signed]; split <;> omega
          rcases hc with rfl | rfl | rfl | rfl | rfl | rfl | rfl | rfl | rfl | rfl | rfl | rfl | rfl | rfl | rfl | rfl
          · simp only [List.getElem?_cons_zero, Option.some.injEq] at ho
            subst ho
            have k14 := hh.kept 14 (by simp)
            simp at k14
            go_simp
            exact ⟨rfl, HI.out.skip 0 (by omega)⟩
          · simp only [List.getElem?_cons_zero, List.getElem?_cons_succ, Option.some.injEq] at ho
            subst ho
            have g0 := hh.got 0 _ 49 rfl rfl ⟨⟨0, .data⟩, by simp, rfl, rfl⟩ (by simp)
            simp [cyV] at g0
            go_simp
            exact ⟨rfl, HI.out.skip 1 (by omega)⟩
          · simp only [List.getElem?_cons_zero, List.getElem?_cons_succ, Option.some.injEq] at ho
            subst ho
            have k10 := hh.kept 10 (by simp)
            simp at k10
            go_simp
            exact ⟨rfl, HI.out.skip 2 (by omega)⟩
          · simp only [List.getElem?_cons_zero, List.getElem?_cons_succ, Option.some.injEq] at ho
            subst ho
            have g2 := hh.got 2 _ 51 rfl rfl ⟨⟨2, .data⟩, by simp, rfl, rfl⟩ (by simp)
            simp [cyV] at g2
            go_simp
            exact ⟨rfl, HI.out.skip 3 (by omega)⟩
          · simp only [List.getElem?_cons_zero, List.getElem?_cons_succ, Option.some.injEq] at ho
            subst ho
            have k14 := hh.kept 14 (by simp)
            simp at k14
            go_simp
            exact ⟨rfl, HI.out.skip 4 (by omega)⟩
          · simp only [List.getElem?_cons_zero, List.getElem?_cons_succ, Option.some.injEq] at ho
            subst ho
            have g4 := hh.got 4 _ 53 rfl rfl ⟨⟨4, .data⟩, by simp, rfl, rfl⟩ (by simp)
            simp [cyV] at g4
            go_simp
            exact ⟨rfl, HI.out.skip 5 (by omega)⟩
          · simp only [List.getElem?_cons_zero, List.getElem?_cons_succ, Option.some.injEq] at ho
            subst ho
            have g3 := hh.got 3 _ 52 rfl rfl ⟨⟨3, .data⟩, by simp, rfl, rfl⟩ (by simp)
            have g5 := hh.got 5 _ 54 rfl rfl ⟨⟨5, .data⟩, by simp, rfl, rfl⟩ (by simp)
            simp [cyV] at g3 g5
            go_simp
            exact ⟨rfl, HI.out.skip 6 (by omega)⟩
          · simp only [List.getElem?_cons_zero, List.getElem?_cons_succ, Option.some.injEq] at ho
            subst ho
            have k10 := hh.kept 10 (by simp)
            simp at k10
            go_simp
            exact ⟨rfl, HI.out.skip 7 (by omega)⟩
          · simp only [List.getElem?_cons_zero, List.getElem?_cons_succ, Option.some.injEq] at ho
            subst ho
            have g7 := hh.got 7 _ 56 rfl rfl ⟨⟨7, .data⟩, by simp, rfl, rfl⟩ (by simp)
            simp [cyV] at g7
            go_simp
            exact ⟨rfl, HI.out.skip 8 (by omega)⟩
          · simp only [List.getElem?_cons_zero, List.getElem?_cons_succ, Option.some.injEq] at ho
            subst ho
            have k14 := hh.kept 14 (by simp)
            simp at k14
            go_simp
            exact ⟨rfl, HI.out.skip 9 (by omega)⟩
          · simp only [List.getElem?_cons_zero, List.getElem?_cons_succ, Option.some.injEq] at ho
            subst ho
            have g9 := hh.got 9 _ 58 rfl rfl ⟨⟨9, .data⟩, by simp, rfl, rfl⟩ (by simp)
            simp [cyV] at g9
            go_simp
            exact ⟨rfl, HI.out.skip 10 (by omega)⟩
          · simp only [List.getElem?_cons_zero, List.getElem?_cons_succ, Option.some.injEq] at ho
            subst ho
            have g8 := hh.got 8 _ 57 rfl rfl ⟨⟨8, .data⟩, by simp, rfl, rfl⟩ (by simp)
            have g10 := hh.got 10 _ 59 rfl rfl ⟨⟨10, .data⟩, by simp, rfl, rfl⟩ (by simp)
            simp [cyV] at g8 g10
            go_simp
            exact ⟨rfl, HI.out.skip 11 (by omega)⟩
          · simp only [List.getElem?_cons_zero, List.getElem?_cons_succ, Option.some.injEq] at ho
            subst ho
            have k6 := hh.kept 6 (by simp)
            have g1 := hh.got 1 _ 50 rfl rfl ⟨⟨1, .data⟩, by simp, rfl, rfl⟩ (by simp)
            simp [cyV] at k6 g1
            go_simp
            exact HI.out.set2
          · simp only [List.getElem?_cons_zero, List.getElem?_cons_succ, Option.some.injEq] at ho
            subst ho
            have k7 := hh.kept 7 (by simp)
            have g6 := hh.got 6 _ 55 rfl rfl ⟨⟨6, .data⟩, by simp, rfl, rfl⟩ (by simp)
            simp [cyV] at k7 g6
            go_simp
            exact HI.out.set3
          · simp only [List.getElem?_cons_zero, List.getElem?_cons_succ, Option.some.injEq] at ho
            subst ho
            have k8 := hh.kept 8 (by simp)
            have g11 := hh.got 11 _ 60 rfl rfl ⟨⟨11, .data⟩, by simp, rfl, rfl⟩ (by simp)
            simp [cyV] at k8 g11
            go_simp
            exact HI.out.set4
          · simp only [List.getElem?_cons_zero, List.getElem?_cons_succ, Option.some.injEq] at ho
            subst ho
            have k9 := hh.kept 9 (by simp)
            simp at k9
            go_simp
            exact HI.out.set5
      · have hf : fS p V R i k X1 X2 = none := by
          refine fS_none p V R i X1 X2 k fun a ha e => ?_
          exact hK.fresh a (k + 1) (by omega) (by omega) (by rw [e, HX.out])
        rw [hf] at hlk
        simp only [Option.getD_none, Option.isSome_none] at hlk
        clear hf
        have hM4 : MapIs ((W2.setCell ⟨w1.heap.size, 0, none⟩ (.int .i64 ((k : Int) + 1))).alloc (.cells #[.int .i64 0, .int .i64 0] 77)) W0.heap.size (k + 1) (fS p V R i k) := HM3.out.of_block (Below.heap_alloc _ _ _ HM3.out.lt)
        obtain ⟨W5, hup, hM5, hg5⟩ := hM4.update (by unfold maxLen; omega) Try.underlying78 X1 X2 wX1 wX2 (.agg #[.int .i64 ((k : Int) + 1), .int .i64 (nk : Int)])
        have ew : ∀ b, b < W2.heap.size → b ≠ W0.heap.size → b ≠ w1.heap.size → W5.heap[b]? = W2.heap[b]? := fun b h1 h2 h3 => (hg5.block b (by simp [HS3.out]; omega) (by simpa using h2)).trans ((Below.heap_alloc _ _ _ (by rw [HS3.out]; omega)).trans (EBB.out b h3))
        have wn5 : W5.heap[w1.heap.size]? = some (.cells #[.int .i64 ((k : Int) + 1), .int .i64 (nk : Int)] 77) := (hg5.block _ (by simp [HS3.out]; omega) (by simp; omega)).trans ((Below.heap_alloc _ _ _ (by rw [HS3.out]; omega)).trans HN3.out)
        have wB : Bel (fun b => (b = w.heap.size + 2 ∨ b = w.heap.size + 3 ∨ b = w.heap.size + 4 ∨ b = w.heap.size + 5 ∨ b = w1.heap.size ∨ b = W0.heap.size) ∨ G b) A.heap.size W2 W5 := (HB3'.out.alloc (by rw [HS3.out]; omega) _).grown hg5 (by simp [HS3.out]; omega) (fun b e => by cases e; exact Or.inl (Or.inl (Or.inr (Or.inr (Or.inr (Or.inr (Or.inr rfl)))))))
        have wL : Below w.heap.size w W5 := (HL3.out.alloc (by rw [HS3.out]; omega) _).grown hg5 (by simp [HS3.out]; omega) (fun j hj => by cases hj; omega)
        have HM5 := Lib.hid hM5
        have EW := Lib.hid ew
        have WN5 := Lib.hid wn5
        have WB := Lib.hid wB
        have WL := Lib.hid wL
        clear hM4 hM5 hg5 ew wn5 wB wL
        gi_wp2
        refine ⟨G, ⟨fun _ h => h, fun _ h => Or.inl h, fun b hb => by have := (HGB.out b hb).2; have := WB.out.size; omega⟩, ⟨by omega, (EW.out _ (by omega) (by omega) (by omega)).trans H1.out, (EW.out _ (by omega) (by omega) (by omega)).trans H2.out, (EW.out _ (by omega) (by omega) (by omega)).trans H3.out, (EW.out _ (by omega) (by omega) (by omega)).trans H4.out, ?_, (EW.out _ (by omega) (by omega) (by omega)).trans H6.out, ?_, WL.out⟩, WB.out⟩
        · rw [HNS'.out]; exact WN5.out
        · have e : fS p V R i (k + 1) = upd (fS p V R i k) X1 X2 (.agg #[.int .i64 ((k : Int) + 1), .int .i64 (nk : Int)]) := by
            show upd (fS p V R i k) (stk p V R i (k + 1)).1 (stk p V R i (k + 1)).2 (vis p V R i (k + 1)) = _
            rw [← HX.out]; unfold vis; rw [HNS'.out]; rfl
          rw [e]; exact HM5.out
    | true =>
      have hns : nsp p V R i (k + 1) = nk + 1 := by rw [HNS.out]; simp
      have hM3 : MapIs ((W2.setCell ⟨w1.heap.size, 0, none⟩ (.int .i64 ((k : Int) + 1))).setCell ⟨w1.heap.size, 1, none⟩ (.int .i64 ((nk : Int) + 1))) W0.heap.size (k + 1) (fS p V R i k) := H7.out.of_block ((Below.heap_setCell _ _ _ _ (by simp; omega)).trans (Below.heap_setCell _ _ _ _ (by simp; omega)))
      have hlk := hM3.look Try.underlying78 (hzz _) X1 X2 wX1 wX2
      have hn3 : ((W2.setCell ⟨w1.heap.size, 0, none⟩ (.int .i64 ((k : Int) + 1))).setCell ⟨w1.heap.size, 1, none⟩ (.int .i64 ((nk : Int) + 1))).heap[w1.heap.size]? = some (.cells #[.int .i64 ((k : Int) + 1), .int .i64 ((nk : Int) + 1)] 77) := set2_1 (set2_0 H5.out _) _
      have ebb : ∀ b, b ≠ w1.heap.size → ((W2.setCell ⟨w1.heap.size, 0, none⟩ (.int .i64 ((k : Int) + 1))).setCell ⟨w1.heap.size, 1, none⟩ (.int .i64 ((nk : Int) + 1))).heap[b]? = W2.heap[b]? := fun b hb => (Below.heap_setCell _ _ _ _ (by simpa using hb)).trans (Below.heap_setCell _ _ _ _ (by simpa using hb))
      have hs3 : ((W2.setCell ⟨w1.heap.size, 0, none⟩ (.int .i64 ((k : Int) + 1))).setCell ⟨w1.heap.size, 1, none⟩ (.int .i64 ((nk : Int) + 1))).heap.size = W2.heap.size := by simp [World.setCell]
      have hB3 : Bel (fun b => (b = w.heap.size + 2 ∨ b = w.heap.size + 3 ∨ b = w.heap.size + 4 ∨ b = w.heap.size + 5 ∨ b = w1.heap.size ∨ b = W0.heap.size) ∨ G b) A.heap.size W2 ((W2.setCell ⟨w1.heap.size, 0, none⟩ (.int .i64 ((k : Int) + 1))).setCell ⟨w1.heap.size, 1, none⟩ (.int .i64 ((nk : Int) + 1))) := ((Bel.refl _ _ _).setCell (p := ⟨w1.heap.size, 0, none⟩) (Or.inl (Or.inl (Or.inr (Or.inr (Or.inr (Or.inr (Or.inl rfl))))))) _).setCell (p := ⟨w1.heap.size, 1, none⟩) (Or.inl (Or.inl (Or.inr (Or.inr (Or.inr (Or.inr (Or.inl rfl))))))) _
      have hL3 : Below w.heap.size w ((W2.setCell ⟨w1.heap.size, 0, none⟩ (.int .i64 ((k : Int) + 1))).setCell ⟨w1.heap.size, 1, none⟩ (.int .i64 ((nk : Int) + 1))) := (H8.out.setCell (p := ⟨w1.heap.size, 0, none⟩) (by simp; omega) _).setCell (p := ⟨w1.heap.size, 1, none⟩) (by simp; omega) _
      have HNS' := Lib.hid hns
      have HM3 := Lib.hid hM3
      have HN3 := Lib.hid hn3
      have EBB := Lib.hid ebb
      have HS3 := Lib.hid hs3
      have HB3' := Lib.hid hB3
      have HL3 := Lib.hid hL3
      clear hns hM3 hn3 ebb hs3 hB3 hL3
      by_cases hkK : k + 1 = K
      · have hf : fS p V R i k X1 X2 = some (.agg #[.int .i64 (j : Int), .int .i64 (nsp p V R i j : Int)]) := by
          obtain ⟨g1, g2⟩ := hK.hit (by omega)
          refine fS_some p V R i X1 X2 j (by rw [HX.out, hkK]; exact g2) k (by omega) fun a h1 h2 e => ?_
          exact hK.fresh j a h1 (by omega) (by rw [e, HX.out, hkK]; exact g2)
        rw [hf] at hlk
        simp only [Option.getD_some, Option.isSome_some] at hlk
        have hj := (hK.hit (by omega)).1
        have nj1 := nsp_mono p V R i (show j ≤ k by omega)
        rw [← HNK.out] at nj1
        obtain ⟨nj, hnj⟩ : ∃ nj, nj = nsp p V R i j := ⟨_, rfl⟩
        rw [← hnj] at hlk nj1
        have HNJ := Lib.hid hnj
        have HKK := Lib.hid hkK
        clear hf hnj hkK
        gi_wp2
        have v1 := (Below.heap_alloc ((W2.setCell ⟨w1.heap.size, 0, none⟩ (.int .i64 ((k : Int) + 1))).setCell ⟨w1.heap.size, 1, none⟩ (.int .i64 ((nk : Int) + 1))) (.cells #[.int .i64 (j : Int), .int .i64 (nj : Int)] 77) _ (by rw [HS3.out]; omega)).trans HN3.out
        have v0 : (((W2.setCell ⟨w1.heap.size, 0, none⟩ (.int .i64 ((k : Int) + 1))).setCell ⟨w1.heap.size, 1, none⟩ (.int .i64 ((nk : Int) + 1))).alloc (.cells #[.int .i64 (j : Int), .int .i64 (nj : Int)] 77)).heap[W2.heap.size]? = some (.cells #[.int .i64 (j : Int), .int .i64 (nj : Int)] 77) := alloc_new_at _ _ _ HS3.out.symm
        have ev : ∀ b, b < w1.heap.size → (((W2.setCell ⟨w1.heap.size, 0, none⟩ (.int .i64 ((k : Int) + 1))).setCell ⟨w1.heap.size, 1, none⟩ (.int .i64 ((nk : Int) + 1))).alloc (.cells #[.int .i64 (j : Int), .int .i64 (nj : Int)] 77)).heap[b]? = W2.heap[b]? := fun b hb => (Below.heap_alloc _ _ _ (by rw [HS3.out]; omega)).trans (EBB.out b (by omega))
        have v2 := (ev _ (by omega)).trans H1.out
        have v3 := (ev _ (by omega)).trans H2.out
        have v4 := (ev _ (by omega)).trans H3.out
        have v5 := (ev _ (by omega)).trans H4.out
        have vB : Bel (fun b => (b = w.heap.size + 2 ∨ b = w.heap.size + 3 ∨ b = w.heap.size + 4 ∨ b = w.heap.size + 5 ∨ b = w1.heap.size ∨ b = W0.heap.size) ∨ G b) A.heap.size W2 (((W2.setCell ⟨w1.heap.size, 0, none⟩ (.int .i64 ((k : Int) + 1))).setCell ⟨w1.heap.size, 1, none⟩ (.int .i64 ((nk : Int) + 1))).alloc (.cells #[.int .i64 (j : Int), .int .i64 (nj : Int)] 77)) := HB3'.out.alloc (by rw [HS3.out]; omega) _
        have vL := HL3.out.alloc (by rw [HS3.out]; omega) (.cells #[.int .i64 (j : Int), .int .i64 (nj : Int)] 77)
        clear ev hlk
        generalize ((W2.setCell ⟨w1.heap.size, 0, none⟩ (.int .i64 ((k : Int) + 1))).setCell ⟨w1.heap.size, 1, none⟩ (.int .i64 ((nk : Int) + 1))).alloc (.cells #[.int .i64 (j : Int), .int .i64 (nj : Int)] 77) = W6 at *
        obtain ⟨_, _, _, _⟩ := cells2 v0
        obtain ⟨_, _, _, _⟩ := cells2 v1
        obtain ⟨_, _⟩ := cells1 v2
        obtain ⟨_, _⟩ := cells1 v3
        obtain ⟨_, _⟩ := cells1 v4
        obtain ⟨_, _⟩ := cells1 v5
        have V0 := Lib.hid v0
        have V1 := Lib.hid v1
        have V2 := Lib.hid v2
        have V3 := Lib.hid v3
        have V4 := Lib.hid v4
        have V5 := Lib.hid v5
        have VB := Lib.hid vB
        have VL := Lib.hid vL
        have VS := lt_of_block v0
        clear v0 v1 v2 v3 v4 v5 vB vL
        refine wpIn_region_vals' (cyV W2.heap.size w1.heap.size j k ((nk : Int) + 1) nj) (CyS w.heap.size j ((k : Int) + 1 - j) (((nk : Int) + 1) - (nj : Int)) W6) (by kernel_rfl) (by kernel_rfl) (by kernel_rfl) (by kernel_rfl) ?ini ?stp ?dn
        case ini =>
          exact ⟨⟨_, V2.out, fun h => by simp at h⟩, ⟨_, V3.out, fun h => by simp at h⟩, ⟨_, V4.out, fun h => by simp at h⟩, ⟨_, V5.out, fun h => by simp at h⟩, fun _ _ _ _ _ => rfl, rfl, rfl, rfl, rfl⟩
        case dn =>
          intro W b hI hh hbs
          have HI := Lib.hid hI
          clear hI hh hbs
          gi_wp2
          have hI := HI.out
          obtain ⟨x2, y2, z2⟩ := hI.c2
          obtain ⟨x3, y3, z3⟩ := hI.c3
          obtain ⟨x4, y4, z4⟩ := hI.c4
          obtain ⟨x5, y5, z5⟩ := hI.c5
          rw [z2 (by simp)] at y2
          rw [z3 (by simp)] at y3
          rw [z4 (by simp)] at y4
          rw [z5 (by simp)] at y5
          have hWB : Bel (fun b => (b = w.heap.size + 2 ∨ b = w.heap.size + 3 ∨ b = w.heap.size + 4 ∨ b = w.heap.size + 5 ∨ b = w1.heap.size ∨ b = W0.heap.size) ∨ G b) A.heap.size W2 W :=
            ⟨hI.os.trans VB.out.os, hI.tape.trans VB.out.tape, hI.output.trans VB.out.output, by rw [hI.size]; exact VB.out.size, fun b hb hn => (hI.other b (by omega) (by omega) (by omega) (by omega)).trans (VB.out.block b hb hn)⟩
          have hWL : Below w.heap.size w W := VL.out.trans (show Below w.heap.size W6 W from ⟨hI.os, hI.tape, hI.output, by rw [hI.size]; exact Nat.le_refl _, fun b hb => hI.other b (by omega) (by omega) (by omega) (by omega)⟩)
          have hk2 : (k : Int) + 1 = K := by have := HKK.out; omega
          refine ⟨G, ⟨fun _ h => h, fun _ h => Or.inl h, fun b hb => by have := (HGB.out b hb).2; have := hWB.size; omega⟩, ⟨rfl, by have := HKK.out; omega, y2, by rw [← hk2]; exact y3, ?_, y5, hWL⟩, hWB⟩
          rw [← HKK.out, HNS'.out, ← HNJ.out]
          exact y4
        case stp =>
          intro L W i o b hs ho hI hh
          have hi := (List.getElem?_eq_some_iff.1 ho).1
          have hc : i = 0 ∨ i = 1 ∨ i = 2 ∨ i = 3 ∨ i = 4 ∨ i = 5 ∨ i = 6 ∨ i = 7 ∨ i = 8 ∨ i = 9 ∨ i = 10 ∨ i = 11 ∨ i = 12 ∨ i = 13 ∨ i = 14 ∨ i = 15 := by simp at hi; omega
          obtain ⟨_, _, _, _⟩ := cells2 ((hI.other _ (by omega) (by omega) (by omega) (by omega)).trans V0.out)
          obtain ⟨_, _, _, _⟩ := cells2 ((hI.other _ (by omega) (by omega) (by omega) (by omega)).trans V1.out)
          obtain ⟨x2, y2, _⟩ := hI.c2
          obtain ⟨_, _⟩ := cells1 y2
          obtain ⟨x3, y3, _⟩ := hI.c3
          obtain ⟨_, _⟩ := cells1 y3
          obtain ⟨x4, y4, _⟩ := hI.c4
          obtain ⟨_, _⟩ := cells1 y4
          obtain ⟨x5, y5, _⟩ := hI.c5
          obtain ⟨_, _⟩ := cells1 y5
          have HI := Lib.hid hI
          clear hi hs hI y2 y3 y4 y5
          have hjk : j ≤ k := by have := HKK.out; omega
          have ew1 : IntKind.i64.wrap ((k : Int) + 1 - (j : Int)) = (k : Int) + 1 - (j : Int) := by simp [IntKind.wrap, IntKind.bits, IntKind.signed]; split <;> omega
          have ew2 : IntKind.i64.wrap (((nk : Int) + 1) - (nj : Int)) = ((nk : Int) + 1) - (nj : Int) := by simp [IntKind.wrap, IntKind.bits, IntKind.signed]; split <;> omega
          rcases hc with rfl | rfl | rfl | rfl | rfl | rfl | rfl | rfl | rfl | rfl | rfl | rfl | rfl | rfl | rfl | rfl
          · simp only [List.getElem?_cons_zero, Option.some.injEq] at ho
            subst ho
            have k14 := hh.kept 14 (by simp)
            simp at k14
            go_simp
            exact ⟨rfl, HI.out.skip 0 (by omega)⟩
          · simp only [List.getElem?_cons_zero, List.getElem?_cons_succ, Option.some.injEq] at ho
            subst ho
            have g0 := hh.got 0 _ 49 rfl rfl ⟨⟨0, .data⟩, by simp, rfl, rfl⟩ (by simp)
            simp [cyV] at g0
            go_simp
            exact ⟨rfl, HI.out.skip 1 (by omega)⟩
          · simp only [List.getElem?_cons_zero, List.getElem?_cons_succ, Option.some.injEq] at ho
            subst ho
            have k10 := hh.kept 10 (by simp)
            simp at k10
            go_simp
            exact ⟨rfl, HI.out.skip 2 (by omega)⟩
          · simp only [List.getElem?_cons_zero, List.getElem?_cons_succ, Option.some.injEq] at ho
            subst ho
            have g2 := hh.got 2 _ 51 rfl rfl ⟨⟨2, .data⟩, by simp, rfl, rfl⟩ (by simp)
            simp [cyV] at g2
            go_simp
            exact ⟨rfl, HI.out.skip 3 (by omega)⟩
          · simp only [List.getElem?_cons_zero, List.getElem?_cons_succ, Option.some.injEq] at ho
            subst ho
            have k14 := hh.kept 14 (by simp)
            simp at k14
            go_simp
            exact ⟨rfl, HI.out.skip 4 (by omega)⟩
          · simp only [List.getElem?_cons_zero, List.getElem?_cons_succ, Option.some.injEq] at ho
            subst ho
            have g4 := hh.got 4 _ 53 rfl rfl ⟨⟨4, .data⟩, by simp, rfl, rfl⟩ (by simp)
            simp [cyV] at g4
            go_simp
            exact ⟨rfl, HI.out.skip 5 (by omega)⟩
          · simp only [List.getElem?_cons_zero, List.getElem?_cons_succ, Option.some.injEq] at ho
            subst ho
            have g3 := hh.got 3 _ 52 rfl rfl ⟨⟨3, .data⟩, by simp, rfl, rfl⟩ (by simp)
            have g5 := hh.got 5 _ 54 rfl rfl ⟨⟨5, .data⟩, by simp, rfl, rfl⟩ (by simp)
            simp [cyV] at g3 g5
            go_simp
            exact ⟨rfl, HI.out.skip 6 (by omega)⟩
          · simp only [List.getElem?_cons_zero, List.getElem?_cons_succ, Option.some.injEq] at ho
            subst ho
            have k10 := hh.kept 10 (by simp)
            simp at k10
            go_simp
            exact ⟨rfl, HI.out.skip 7 (by omega)⟩
          · simp only [List.getElem?_cons_zero, List.getElem?_cons_succ, Option.some.injEq] at ho
            subst ho
            have g7 := hh.got 7 _ 56 rfl rfl ⟨⟨7, .data⟩, by simp, rfl, rfl⟩ (by simp)
            simp [cyV] at g7
            go_simp
            exact ⟨rfl, HI.out.skip 8 (by omega)⟩
          · simp only [List.getElem?_cons_zero, List.getElem?_cons_succ, Option.some.injEq] at ho
            subst ho
            have k14 := hh.kept 14 (by simp)
            simp at k14
            go_simp
            exact ⟨rfl, HI.out.skip 9 (by omega)⟩
          · simp only [List.getElem?_cons_zero, List.getElem?_cons_succ, Option.some.injEq] at ho
            subst ho
            have g9 := hh.got 9 _ 58 rfl rfl ⟨⟨9, .data⟩, by simp, rfl, rfl⟩ (by simp)
            simp [cyV] at g9
            go_simp
            exact ⟨rfl, HI.out.skip 10 (by omega)⟩
          · simp only [List.getElem?_cons_zero, List.getElem?_cons_succ, Option.some.injEq] at ho
            subst ho
            have g8 := hh.got 8 _ 57 rfl rfl ⟨⟨8, .data⟩, by simp, rfl, rfl⟩ (by simp)
            have g10 := hh.got 10 _ 59 rfl rfl ⟨⟨10, .data⟩, by simp, rfl, rfl⟩ (by simp)
            simp [cyV] at g8 g10
            go_simp
            exact ⟨rfl, HI.out.skip 11 (by omega)⟩
          · simp only [List.getElem?_cons_zero, List.getElem?_cons_succ, Option.some.injEq] at ho
            subst ho
            have k6 := hh.kept 6 (by simp)
            have g1 := hh.got 1 _ 50 rfl rfl ⟨⟨1, .data⟩, by simp, rfl, rfl⟩ (by simp)
            simp [cyV] at k6 g1
            go_simp
            exact HI.out.set2
          · simp only [List.getElem?_cons_zero, List.getElem?_cons_succ, Option.some.injEq] at ho
            subst ho
            have k7 := hh.kept 7 (by simp)
            have g6 := hh.got 6 _ 55 rfl rfl ⟨⟨6, .data⟩, by simp, rfl, rfl⟩ (by simp)
            simp [cyV] at k7 g6
            go_simp
            exact HI.out.set3
          · simp only [List.getElem?_cons_zero, List.getElem?_cons_succ, Option.some.injEq] at ho
            subst ho
            have k8 := hh.kept 8 (by simp)
            have g11 := hh.got 11 _ 60 rfl rfl ⟨⟨11, .data⟩, by simp, rfl, rfl⟩ (by simp)
            simp [cyV] at k8 g11
            go_simp
            exact HI.out.set4
          · simp only [List.getElem?_cons_zero, List.getElem?_cons_succ, Option.some.injEq] at ho
            subst ho
            have k9 := hh.kept 9 (by simp)
            simp at k9
            go_simp
            exact HI.out.set5
      · have hf : fS p V R i k X1 X2 = none := by
          refine fS_none p V R i X1 X2 k fun a ha e => ?_
          exact hK.fresh a (k + 1) (by omega) (by omega) (by rw [e, HX.out])
        rw [hf] at hlk
        simp only [Option.getD_none, Option.isSome_none] at hlk
        clear hf
        have hM4 : MapIs (((W2.setCell ⟨w1.heap.size, 0, none⟩ (.int .i64 ((k : Int) + 1))).setCell ⟨w1.heap.size, 1, none⟩ (.int .i64 ((nk : Int) + 1))).alloc (.cells #[.int .i64 0, .int .i64 0] 77)) W0.heap.size (k + 1) (fS p V R i k) := HM3.out.of_block (Below.heap_alloc _ _ _ HM3.out.lt)
        obtain ⟨W5, hup, hM5, hg5⟩ := hM4.update (by unfold maxLen; omega) Try.underlying78 X1 X2 wX1 wX2 (.agg #[.int .i64 ((k : Int) + 1), .int .i64 ((nk : Int) + 1)])
        have ew : ∀ b, b < W2.heap.size → b ≠ W0.heap.size → b ≠ w1.heap.size → W5.heap[b]? = W2.heap[b]? := fun b h1 h2 h3 => (hg5.block b (by simp [HS3.out]; omega) (by simpa using h2)).trans ((Below.heap_alloc _ _ _ (by rw [HS3.out]; omega)).trans (EBB.out b h3))
        have wn5 : W5.heap[w1.heap.size]? = some (.cells #[.int .i64 ((k : Int) + 1), .int .i64 ((nk : Int) + 1)] 77) := (hg5.block _ (by simp [HS3.out]; omega) (by simp; omega)).trans ((Below.heap_alloc _ _ _ (by rw [HS3.out]; omega)).trans HN3.out)
        have wB : Bel (fun b => (b = w.heap.size + 2 ∨ b = w.heap.size + 3 ∨ b = w.heap.size + 4 ∨ b = w.heap.size + 5 ∨ b = w1.heap.size ∨ b = W0.heap.size) ∨ G b) A.heap.size W2 W5 := (HB3'.out.alloc (by rw [HS3.out]; omega) _).grown hg5 (by simp [HS3.out]; omega) (fun b e => by cases e; exact Or.inl (Or.inl (Or.inr (Or.inr (Or.inr (Or.inr (Or.inr rfl)))))))
        have wL : Below w.heap.size w W5 := (HL3.out.alloc (by rw [HS3.out]; omega) _).grown hg5 (by simp [HS3.out]; omega) (fun j hj => by cases hj; omega)
        have HM5 := Lib.hid hM5
        have EW := Lib.hid ew
        have WN5 := Lib.hid wn5
        have WB := Lib.hid wB
        have WL := Lib.hid wL
        clear hM4 hM5 hg5 ew wn5 wB wL
        gi_wp2
        refine ⟨G, ⟨fun _ h => h, fun _ h => Or.inl h, fun b hb => by have := (HGB.out b hb).2; have := WB.out.size; omega⟩, ⟨by omega, (EW.out _ (by omega) (by omega) (by omega)).trans H1.out, (EW.out _ (by omega) (by omega) (by omega)).trans H2.out, (EW.out _ (by omega) (by omega) (by omega)).trans H3.out, (EW.out _ (by omega) (by omega) (by omega)).trans H4.out, ?_, (EW.out _ (by omega) (by omega) (by omega)).trans H6.out, ?_, WL.out⟩, WB.out⟩
        · rw [HNS'.out]; exact WN5.out
        · have e : fS p V R i (k + 1) = upd (fS p V R i k) X1 X2 (.agg #[.int .i64 ((k : Int) + 1), .int .i64 ((nk : Int) + 1)]) := by
            show upd (fS p V R i k) (stk p V R i (k + 1)).1 (stk p V R i (k + 1)).2 (vis p V R i (k + 1)) = _
            rw [← HX.out]; unfold vis; rw [HNS'.out]; rfl
          rw [e]; exact HM5.out
end Go.Proofs.Ytkpabecnimakpaa
