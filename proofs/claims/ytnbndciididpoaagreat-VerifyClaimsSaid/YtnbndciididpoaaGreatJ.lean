/- neuron.Tick; the examples that every law asks for. -/
import Derived.Test.YtnbndciididpoaaGreatI
namespace Go.Proofs.YtnbndciididpoaaGreat
set_option linter.unusedVariables false
open Go.RowKit Go.Shelf

/-- What stands in a block of two cells behind two stores. -/
theorem zz {W : World} {b : Nat} {u v : Value} {t : TypeId} {m : Nat × Nat} (h : W.heap[b]? = some (.cells #[u, v] t m)) (A B : Value) :
    (W.setCell ⟨b, 0, none⟩ A).cell? ⟨b, 0, none⟩ = some A ∧ ((W.setCell ⟨b, 0, none⟩ A).setCell ⟨b, 1, none⟩ B).cell? ⟨b, 1, none⟩ = some B := by
  refine ⟨?_, ?_⟩
  · unfold World.cell?; rw [set2_0 h]; rfl
  · unfold World.cell?; rw [set2_1 (set2_0 h _)]; rfl

set_option maxHeartbeats 1000000 in
/-- neuron.Tick where the state is valid. -/
theorem tick_ok (p : Prm) (V R i : Int) (hv : validP p V R = 0) (w : World) :
    Calls Tryz.prog 138 #[.agg #[.int .i64 p.lk, .int .i64 p.lv, .int .i64 p.bi, .int .i64 p.th, .int .i64 p.rk, .int .i64 p.rs, .int .i64 p.fl, .int .i64 p.re], .agg #[.int .i64 V, .int .i64 R], .int .i64 i] w fun e w' =>
      e = .returned (.tuple #[.agg #[.int .i64 (tV p V R i), .int .i64 (tR p V R i)], .bool (tS p V R i), .int .i64 0]) ∧ Below w.heap.size w w' := by
  have hv' : (validP p V R != 0) = false := by simp [hv]
  obtain ⟨hok, k1, k2, k3, k4⟩ := ok_of_valid hv
  obtain ⟨lo, hi, fi, _, hk, _, hst⟩ := kinds hok
  clear hv hok
  go_enter Tryz.func138, Tryz.ntmps138
  go_wp2_with (first | (go_at_call 176; refine (valid_any p V R _).mono ?_; rintro e w1 ⟨rfl, hb1⟩; obtain ⟨hc1, hf1⟩ := bcell hb1; have hz1 : w.heap.size + 2 < w1.heap.size := (by have := hb1.size; simp at this; omega); have hz1a : w.heap.size < w1.heap.size := (by omega); have hz1b : w.heap.size + 1 < w1.heap.size := (by omega); have hz1c : w.heap.size + 1 + 1 < w1.heap.size := (by omega)) | (go_at_call 163; refine (hk _).mono ?_; rintro e w2 ⟨rfl, hb2⟩; obtain ⟨hc2, hf2⟩ := bcell hb2; have hz2 : w1.heap.size ≤ w2.heap.size := hb2.size; have hz2a : w.heap.size < w2.heap.size := (by omega); have hz2b : w.heap.size + 1 < w2.heap.size := (by omega); have hz2c : w.heap.size + 1 + 1 < w2.heap.size := (by omega)) | (go_at_call 177; refine (hst V R i _ k1 k2 k3 k4).mono ?_; rintro e w3 ⟨rfl, hb3⟩; obtain ⟨hc3, hf3⟩ := bcell hb3; have hz3 : w2.heap.size < w3.heap.size := (by have := hb3.size; simp at this; omega); have hz3c : w.heap.size + 1 + 1 < w3.heap.size := (by omega)))
  obtain ⟨z0, z1⟩ := zz (W := w3) (b := w.heap.size + 1 + 1) (by rw [hb3.block _ (by simp <;> omega), Below.heap_alloc _ _ _ (by omega), hb2.block _ (by omega), hb1.block _ (by simp <;> omega)]; exact alloc_new_at _ _ _ (by simp)) (.int .i64 (tV p V R i)) (.int .i64 (tR p V R i))
  refine bodyPost_ret (v := .tuple #[.agg #[.int .i64 (tV p V R i), .int .i64 (tR p V R i)], .bool (tS p V R i), .int .i64 0]) (by simp [results, Tryz.results138, go_sem, hz3c, z0, z1]) rfl ⟨rfl, ?_⟩
  repeat (first | exact Below.refl _ _ | refine below_drewN ?_ _ | refine Below.drew ?_ | refine Below.alloc ?_ ?_ _ | refine Below.setCell ?_ ?_ _ | refine Below.trans ?_ (Below.mono (by assumption) ?_))
  any_goals (first | omega | (simp; done) | (simp; omega))

set_option maxHeartbeats 1000000 in
/-- neuron.Tick where the state is not valid. -/
theorem tick_err (p : Prm) (V R i : Int) (hv : validP p V R ≠ 0) (w : World) :
    Calls Tryz.prog 138 #[.agg #[.int .i64 p.lk, .int .i64 p.lv, .int .i64 p.bi, .int .i64 p.th, .int .i64 p.rk, .int .i64 p.rs, .int .i64 p.fl, .int .i64 p.re], .agg #[.int .i64 V, .int .i64 R], .int .i64 i] w fun e w' =>
      e = .returned (.tuple #[.agg #[.int .i64 0, .int .i64 0], .bool false, .int .i64 (validP p V R)]) ∧ Below w.heap.size w w' := by
  have hv' : (validP p V R != 0) = true := by simp [hv]
  clear hv
  go_enter Tryz.func138, Tryz.ntmps138
  go_wp2_with (first | (go_at_call 176; refine (valid_any p V R _).mono ?_; rintro e w1 ⟨rfl, hb1⟩; obtain ⟨hc1, hf1⟩ := bcell hb1; have hz1 : w.heap.size + 2 < w1.heap.size := (by have := hb1.size; simp at this; omega); have hz1a : w.heap.size < w1.heap.size := (by omega); have hz1b : w.heap.size + 1 < w1.heap.size := (by omega); have hz1c : w.heap.size + 1 + 1 < w1.heap.size := (by omega)))
  refine bodyPost_ret (v := .tuple #[.agg #[.int .i64 0, .int .i64 0], .bool false, .int .i64 (validP p V R)]) (by simp [results, Tryz.results138, go_sem, hc1]) rfl ⟨rfl, ?_⟩
  repeat (first | exact Below.refl _ _ | refine below_drewN ?_ _ | refine Below.drew ?_ | refine Below.alloc ?_ ?_ _ | refine Below.setCell ?_ ?_ _ | refine Below.trans ?_ (Below.mono (by assumption) ?_))
  any_goals (first | omega | (simp; done) | (simp; omega))

set_option maxHeartbeats 400000 in
theorem A_any (w : World) : Calls Tryz.prog 88 #[] w fun e w' => e = .returned (.agg #[.int .i64 1, .int .i64 1, .int .i64 0, .int .i64 5, .int .i64 0, .int .i64 0, .int .i64 (-4), .int .i64 1]) ∧ Below w.heap.size w w' := by
  go_enter Tryz.func88, Tryz.ntmps88
  go_wp2
  exact bodyPost_ret (v := .agg #[.int .i64 1, .int .i64 1, .int .i64 0, .int .i64 5, .int .i64 0, .int .i64 0, .int .i64 (-4), .int .i64 1]) (by simp [results, Tryz.results88, go_sem]) rfl ⟨rfl, (Below.refl _ _).alloc (Nat.le_refl _) _⟩
theorem IntsAt.len {W : World} {sv : Value} {zs : List Int} (h : IntsAt W sv zs) : ∃ a cap, sv = .slice a zs.length cap := by
  rcases h with ⟨rfl, rfl⟩ | ⟨b, off, cap, rfl, _⟩
  · exact ⟨none, 0, rfl⟩
  · exact ⟨_, cap, rfl⟩

theorem intsAt_of_owns {W : World} {base : Nat} {v : Value} {L : List Int} (h : W.ownsRow base 3 1 v L.length (L.map (Value.int .i64))) : IntsAt W v L := by
  rcases h.2 with ⟨rfl, h0⟩ | ⟨g, cap, cur, rfl, hb, hg, _, _, _, ht⟩
  · exact Or.inl ⟨rfl, List.eq_nil_of_length_eq_zero h0⟩
  · refine Or.inr ⟨g, 0, cap, rfl, fun j hj => ?_⟩
    have := h.cells (g := g) rfl j (.int .i64 (L[j]?.getD 0)) (by simp [hj])
    have hadd : (⟨g, 0, none⟩ : Addr).add j = ⟨g, j, none⟩ := by unfold Addr.add; split <;> simp_all
    rw [hadd] at this
    rw [Nat.zero_add]; exact this

theorem intsAt_cell {W : World} {a : Option Addr} {n cap : Nat} {zs : List Int} (h : IntsAt W (.slice a n cap) zs) (k : Nat) (hk : k < zs.length) : ∃ b off, a = some ⟨b, off, none⟩ ∧ W.cell? ⟨b, off + k, none⟩ = some (.int .i64 (zs[k]?.getD 0)) := by
  rcases h with ⟨_, rfl⟩ | ⟨b, off, cap', e, hc⟩
  · simp at hk
  · cases e; exact ⟨b, off, rfl, hc k hk⟩

/-- The neurons of the examples. -/
def pA : Prm := ⟨1, 1, 0, 5, 0, 0, -4, 1⟩
def pB : Prm := ⟨0, 0, 2, 5, 1, 0, -4, 1⟩
theorem vA3 : validP pA 3 0 = 0 := by decide +kernel
theorem vA0 : validP pA 0 0 = 0 := by decide +kernel
theorem vB4 : validP pB 4 1 = 0 := by decide +kernel
theorem tA3 : tV pA 3 0 3 = 0 ∧ tR pA 3 0 3 = 1 ∧ tS pA 3 0 3 = true := by decide +kernel
theorem runA : after pA 0 0 [3, 3, 9, 4, 2, 2, 7] = (0, 1) ∧ spkL (runL pA 0 0 [3, 3, 9, 4, 2, 2, 7]) 7 = [1, 4, 6] := by decide +kernel
theorem silB0 : sil pB 4 1 0 = (4, 1) := rfl
theorem silB1 : sil pB 4 1 1 = (4, 0) := by decide +kernel
theorem stopB : StopAt pB 4 1 1 := by
  refine ⟨by omega, fun j hj => ?_, Or.inl (by decide +kernel)⟩
  obtain rfl : j = 0 := by omega
  exact ⟨by decide +kernel, by decide +kernel⟩
theorem nextB : nextR pB 4 1 1 = 1 := by decide +kernel

theorem tickA (w : World) : Calls Tryz.prog 138 #[.agg #[.int .i64 1, .int .i64 1, .int .i64 0, .int .i64 5, .int .i64 0, .int .i64 0, .int .i64 (-4), .int .i64 1], .agg #[.int .i64 3, .int .i64 0], .int .i64 3] w fun e w' =>
    e = .returned (.tuple #[.agg #[.int .i64 0, .int .i64 1], .bool true, .int .i64 0]) ∧ Below w.heap.size w w' := by
  refine (tick_ok pA 3 0 3 vA3 w).mono fun e w' ⟨he, hb⟩ => ⟨?_, hb⟩
  rw [he, tA3.1, tA3.2.1, tA3.2.2]

/-- What Run returns at the example. -/
def RanA (w : World) (e : Ending) (w' : World) : Prop := ∃ a cap, e = .returned (.tuple #[.slice a 3 cap, .agg #[.int .i64 0, .int .i64 1], .int .i64 0]) ∧ IntsAt w' (.slice a 3 cap) [1, 4, 6] ∧ Below w.heap.size w w'
theorem intsAt_block {W : World} {b cap : Nat} {L : List Int} {t : TypeId} {m : Nat × Nat} (h : W.heap[b]? = some (.cells (L.map (Value.int .i64)).toArray t m)) : IntsAt W (.slice (some ⟨b, 0, none⟩) L.length cap) L := by
  refine Or.inr ⟨b, 0, cap, rfl, fun j hj => ?_⟩
  simp [World.cell?, h, hj]

end Go.Proofs.YtnbndciididpoaaGreat
