/- neuron.Tick; the examples that every law asks for. -/
import Derived.Test.YtkpabecnimakpaaI
namespace Go.Proofs.Ytkpabecnimakpaa
set_option linter.unusedVariables false
open Go.RowKit Go.Shelf

/-- What stands in a block of two cells behind two stores. -/
theorem zz {W : World} {b : Nat} {u v : Value} {t : TypeId} {m : Nat × Nat} (h : W.heap[b]? = some (.cells #[u, v] t m)) (A B : Value) :
    (W.setCell ⟨b, 0, none⟩ A).cell? ⟨b, 0, none⟩ = some A ∧ ((W.setCell ⟨b, 0, none⟩ A).setCell ⟨b, 1, none⟩ B).cell? ⟨b, 1, none⟩ = some B := by
  refine ⟨?_, ?_⟩
  · unfold World.cell?; rw [set2_0 h]; rfl
  · unfold World.cell?; rw [set2_1 (set2_0 h _)]; rfl

set_option maxHeartbeats 1000000 in
/-- neuron.Tick where the state is valid. -/
theorem tick_ok (p : Prm) (V R i : Int) (hv : validP p V R = 0) (w : World) :
    Calls Try.prog 22 #[.agg #[.int .i64 p.lk, .int .i64 p.lv, .int .i64 p.bi, .int .i64 p.th, .int .i64 p.rk, .int .i64 p.rs, .int .i64 p.fl, .int .i64 p.re], .agg #[.int .i64 V, .int .i64 R], .int .i64 i] w fun e w' =>
      e = .returned (.tuple #[.agg #[.int .i64 (tV p V R i), .int .i64 (tR p V R i)], .bool (tS p V R i), .int .i64 0]) ∧ Below w.heap.size w w' := by
  have hv' : (validP p V R != 0) = false := by simp [hv]
  obtain ⟨hok, k1, k2, k3, k4⟩ := ok_of_valid hv
  obtain ⟨lo, hi, fi, _, hk, _, hst⟩ := kinds hok
  clear hv hok
  go_enter Try.func22, Try.ntmps22
  go_wp2_with (first | (go_at_call 19; refine (valid_any p V R _).mono ?_; rintro e w1 ⟨rfl, hb1⟩; obtain ⟨hc1, hf1⟩ := bcell hb1; have hz1 : w.heap.size + 2 < w1.heap.size := (by have := hb1.size; simp at this; omega); have hz1a : w.heap.size < w1.heap.size := (by omega); have hz1b : w.heap.size + 1 < w1.heap.size := (by omega); have hz1c : w.heap.size + 1 + 1 < w1.heap.size := (by omega)) | (go_at_call 40; refine (hk _).mono ?_; rintro e w2 ⟨rfl, hb2⟩; obtain ⟨hc2, hf2⟩ := bcell hb2; have hz2 : w1.heap.size ≤ w2.heap.size := hb2.size; have hz2a : w.heap.size < w2.heap.size := (by omega); have hz2b : w.heap.size + 1 < w2.heap.size := (by omega); have hz2c : w.heap.size + 1 + 1 < w2.heap.size := (by omega)) | (go_at_call 43; refine (hst V R i _ k1 k2 k3 k4).mono ?_; rintro e w3 ⟨rfl, hb3⟩; obtain ⟨hc3, hf3⟩ := bcell hb3; have hz3 : w2.heap.size < w3.heap.size := (by have := hb3.size; simp at this; omega); have hz3c : w.heap.size + 1 + 1 < w3.heap.size := (by omega)))
  obtain ⟨z0, z1⟩ := zz (W := w3) (b := w.heap.size + 1 + 1) (by rw [hb3.block _ (by simp <;> omega), Below.heap_alloc _ _ _ (by omega), hb2.block _ (by omega), hb1.block _ (by simp <;> omega)]; exact alloc_new_at _ _ _ (by simp)) (.int .i64 (tV p V R i)) (.int .i64 (tR p V R i))
  refine bodyPost_ret (v := .tuple #[.agg #[.int .i64 (tV p V R i), .int .i64 (tR p V R i)], .bool (tS p V R i), .int .i64 0]) (by simp [results, Try.results22, go_sem, hz3c, z0, z1]) rfl ⟨rfl, ?_⟩
  repeat (first | exact Below.refl _ _ | refine below_drewN ?_ _ | refine Below.drew ?_ | refine Below.alloc ?_ ?_ _ | refine Below.setCell ?_ ?_ _ | refine Below.trans ?_ (Below.mono (by assumption) ?_))
  any_goals (first | omega | (simp; done) | (simp; omega))

set_option maxHeartbeats 1000000 in
/-- neuron.Tick where the state is not valid. -/
theorem tick_err (p : Prm) (V R i : Int) (hv : validP p V R ≠ 0) (w : World) :
    Calls Try.prog 22 #[.agg #[.int .i64 p.lk, .int .i64 p.lv, .int .i64 p.bi, .int .i64 p.th, .int .i64 p.rk, .int .i64 p.rs, .int .i64 p.fl, .int .i64 p.re], .agg #[.int .i64 V, .int .i64 R], .int .i64 i] w fun e w' =>
      e = .returned (.tuple #[.agg #[.int .i64 0, .int .i64 0], .bool false, .int .i64 (validP p V R)]) ∧ Below w.heap.size w w' := by
  have hv' : (validP p V R != 0) = true := by simp [hv]
  clear hv
  go_enter Try.func22, Try.ntmps22
  go_wp2_with (first | (go_at_call 19; refine (valid_any p V R _).mono ?_; rintro e w1 ⟨rfl, hb1⟩; obtain ⟨hc1, hf1⟩ := bcell hb1; have hz1 : w.heap.size + 2 < w1.heap.size := (by have := hb1.size; simp at this; omega); have hz1a : w.heap.size < w1.heap.size := (by omega); have hz1b : w.heap.size + 1 < w1.heap.size := (by omega); have hz1c : w.heap.size + 1 + 1 < w1.heap.size := (by omega)))
  refine bodyPost_ret (v := .tuple #[.agg #[.int .i64 0, .int .i64 0], .bool false, .int .i64 (validP p V R)]) (by simp [results, Try.results22, go_sem, hc1]) rfl ⟨rfl, ?_⟩
  repeat (first | exact Below.refl _ _ | refine below_drewN ?_ _ | refine Below.drew ?_ | refine Below.alloc ?_ ?_ _ | refine Below.setCell ?_ ?_ _ | refine Below.trans ?_ (Below.mono (by assumption) ?_))
  any_goals (first | omega | (simp; done) | (simp; omega))

set_option maxHeartbeats 400000 in
theorem A_any (w : World) : Calls Try.prog 37 #[] w fun e w' => e = .returned (.agg #[.int .i64 1, .int .i64 1, .int .i64 0, .int .i64 5, .int .i64 0, .int .i64 0, .int .i64 (-4), .int .i64 1]) ∧ Below w.heap.size w w' := by
  go_enter Try.func37, Try.ntmps37
  go_wp2
  exact bodyPost_ret (v := .agg #[.int .i64 1, .int .i64 1, .int .i64 0, .int .i64 5, .int .i64 0, .int .i64 0, .int .i64 (-4), .int .i64 1]) (by simp [results, Try.results37, go_sem]) rfl ⟨rfl, (Below.refl _ _).alloc (Nat.le_refl _) _⟩
set_option maxHeartbeats 400000 in
theorem B_any (w : World) : Calls Try.prog 38 #[] w fun e w' => e = .returned (.agg #[.int .i64 0, .int .i64 0, .int .i64 2, .int .i64 5, .int .i64 1, .int .i64 0, .int .i64 (-4), .int .i64 1]) ∧ Below w.heap.size w w' := by
  go_enter Try.func38, Try.ntmps38
  go_wp2
  exact bodyPost_ret (v := .agg #[.int .i64 0, .int .i64 0, .int .i64 2, .int .i64 5, .int .i64 1, .int .i64 0, .int .i64 (-4), .int .i64 1]) (by simp [results, Try.results38, go_sem]) rfl ⟨rfl, (Below.refl _ _).alloc (Nat.le_refl _) _⟩

theorem IntsAt.len {W : World} {sv : Value} {zs : List Int} (h : IntsAt W sv zs) : ∃ a cap, sv = .slice a zs.length cap := by
  rcases h with ⟨rfl, rfl⟩ | ⟨b, off, cap, rfl, _⟩
  · exact ⟨none, 0, rfl⟩
  · exact ⟨_, cap, rfl⟩

theorem intsAt_of_owns {W : World} {base : Nat} {v : Value} {L : List Int} (h : W.ownsRow base 3 1 v L.length (L.map (Value.int .i64))) : IntsAt W v L := by
  rcases h.2 with ⟨rfl, h0⟩ | ⟨g, cap, cur, rfl, hb, hg, _, _, _, ht⟩
  · exact Or.inl ⟨rfl, List.eq_nil_of_length_eq_zero h0⟩
  · refine Or.inr ⟨g, 0, cap, rfl, fun j hj => ?_⟩
    have := h.cells (g := g) rfl j (.int .i64 (L[j]?.getD 0)) (by simp [hj])
    have hadd : (⟨g, 0, none⟩ : Addr).add j = ⟨g, j, none⟩ := by unfold Addr.add; split <;> simp_all
    rw [hadd] at this
    rw [Nat.zero_add]; exact this

theorem intsAt_cell {W : World} {a : Option Addr} {n cap : Nat} {zs : List Int} (h : IntsAt W (.slice a n cap) zs) (k : Nat) (hk : k < zs.length) : ∃ b off, a = some ⟨b, off, none⟩ ∧ W.cell? ⟨b, off + k, none⟩ = some (.int .i64 (zs[k]?.getD 0)) := by
  rcases h with ⟨_, rfl⟩ | ⟨b, off, cap', e, hc⟩
  · simp at hk
  · cases e; exact ⟨b, off, rfl, hc k hk⟩

set_option maxHeartbeats 1000000 in
/-- equal tells whether two lists are equal. -/
theorem equal_any (a1 a2 : Option Addr) (c1 c2 : Nat) (xs ys : List Int) (hl1 : xs.length ≤ 9223372036854775806) (hl2 : ys.length ≤ 9223372036854775806) (w : World) (h1 : IntsAt w (.slice a1 xs.length c1) xs) (h2 : IntsAt w (.slice a2 ys.length c2) ys) :
    Calls Try.prog 26 #[.slice a1 xs.length c1, .slice a2 ys.length c2] w fun e w' => e = .returned (.bool (decide (xs = ys))) ∧ Below w.heap.size w w' := by
  by_cases hne : xs.length = ys.length
  · have hnb : ((xs.length : Int) != (ys.length : Int)) = false := by simp [hne]
    obtain ⟨n, hn⟩ : ∃ n, n = xs.length := ⟨_, rfl⟩
    obtain ⟨m, hm⟩ : ∃ m, m = ys.length := ⟨_, rfl⟩
    rw [← hn] at h1 hl1 ⊢
    rw [← hm] at h2 hl2 ⊢
    have hnm : n = m := by omega
    subst hnm
    by_cases hz : n = 0
    · subst hz
      have hx : xs = [] := List.eq_nil_of_length_eq_zero hn.symm
      have hy : ys = [] := List.eq_nil_of_length_eq_zero hm.symm
      subst hx hy
      clear hn hm hne hnb h1 h2
      go_enter Try.func26, Try.ntmps26
      go_wp2
      go_loop [5] (fun i => i = .int .i64 0) (fun _ => 0)
      case atStart => rfl
      case round =>
        subst hrel
        go_wp2
        go_ret
        exact ⟨by simp, Below.refl _ _⟩
    · obtain ⟨b1, o1, rfl, _⟩ := intsAt_cell h1 0 (by omega)
      obtain ⟨b2, o2, rfl, _⟩ := intsAt_cell h2 0 (by omega)
      have g1 : ∀ k, k < n → w.cell? ⟨b1, o1 + k, none⟩ = some (.int .i64 (xs[k]?.getD 0)) ∧ b1 < w.heap.size := fun k hk => by
        obtain ⟨b, o, e, hc⟩ := intsAt_cell h1 k (by omega)
        cases e; exact ⟨hc, World.block_lt_of_cell? w _ hc⟩
      have g2 : ∀ k, k < n → w.cell? ⟨b2, o2 + k, none⟩ = some (.int .i64 (ys[k]?.getD 0)) ∧ b2 < w.heap.size := fun k hk => by
        obtain ⟨b, o, e, hc⟩ := intsAt_cell h2 k (by omega)
        cases e; exact ⟨hc, World.block_lt_of_cell? w _ hc⟩
      have HN := Lib.hid hn
      have HM := Lib.hid hm
      have G1 := Lib.hid g1
      have G2 := Lib.hid g2
      clear hn hm hne hnb h1 h2 g1 g2
      go_enter Try.func26, Try.ntmps26
      go_wp2
      go_loopw [5] (fun i wr => ∃ k : Nat, k ≤ n ∧ i = .int .i64 k ∧ Below w.heap.size w wr ∧ ∀ j, j < k → xs[j]?.getD 0 = ys[j]?.getD 0) (fun i _ => n - (intOf i).toNat)
      case atStart => exact ⟨0, Nat.zero_le _, rfl, Below.refl _ _, fun _ h => by omega⟩
      case round =>
        obtain ⟨k, hk, rfl, hb, heq⟩ := hrel
        have HEQ := Lib.hid heq
        have HB := Lib.hid hb
        clear heq hb
        by_cases hlt : k < n
        · obtain ⟨x, hx⟩ : ∃ x, x = xs[k]?.getD 0 := ⟨_, rfl⟩
          obtain ⟨y, hy⟩ : ∃ y, y = ys[k]?.getD 0 := ⟨_, rfl⟩
          have c1 : wr.cell? ⟨b1, o1 + k, none⟩ = some (.int .i64 x) := by rw [hx]; exact (HB.out.cell (p := ⟨b1, o1 + k, none⟩) (G1.out k hlt).2).trans (G1.out k hlt).1
          have c2 : wr.cell? ⟨b2, o2 + k, none⟩ = some (.int .i64 y) := by rw [hy]; exact (HB.out.cell (p := ⟨b2, o2 + k, none⟩) (G2.out k hlt).2).trans (G2.out k hlt).1
          have HX := Lib.hid hx
          have HY := Lib.hid hy
          clear hx hy
          have hi0 : (0 : Int) ≤ (k : Int) := Int.natCast_nonneg _
          have hi1 : (k : Int) < (n : Int) := by omega
          by_cases hxy : x = y
          · have hb1 : (x != y) = false := by simp [hxy]
            have HXY := Lib.hid hxy
            clear hxy
            go_wp2_with fail
            go_quiet (fail)
            go_wp2
            go_roundw
            case rel => exact ⟨k + 1, by omega, by go_num, below_drewN HB.out _, fun j hj => by
              by_cases e : j = k
              · subst e; rw [← HX.out, ← HY.out]; exact HXY.out
              · exact HEQ.out j (by omega)⟩
            case measure => simp [intOf]; omega
          · have hb1 : (x != y) = true := by simp [hxy]
            have HXY := Lib.hid hxy
            clear hxy
            go_wp2_with fail
            go_quiet (fail)
            go_wp2
            go_ret
            refine ⟨?_, below_drewN HB.out _⟩
            have : decide (xs = ys) = false := by
              simp; intro e; subst e; exact HXY.out (by rw [HX.out, HY.out])
            rw [this]; rfl
        · obtain rfl : k = n := by omega
          go_wp2
          go_ret
          refine ⟨?_, HB.out⟩
          have : decide (xs = ys) = true := by
            simp
            apply List.ext_getElem (by rw [← HN.out, ← HM.out])
            intro j h1 h2
            have := HEQ.out j (by rw [HN.out]; exact h1)
            simpa [h1, h2] using this
          rw [this]; rfl
  · have hnb : ((xs.length : Int) != (ys.length : Int)) = true := by simp; omega
    have hr : decide (xs = ys) = false := by simp; intro e; exact hne (by rw [e])
    rw [hr]
    clear hne hr
    go_enter Try.func26, Try.ntmps26
    go_wp2
    go_ret
    exact ⟨rfl, Below.refl _ _⟩

/-- The neurons of the examples. -/
def pA : Prm := ⟨1, 1, 0, 5, 0, 0, -4, 1⟩
def pB : Prm := ⟨0, 0, 2, 5, 1, 0, -4, 1⟩
theorem vA3 : validP pA 3 0 = 0 := by decide +kernel
theorem vA0 : validP pA 0 0 = 0 := by decide +kernel
theorem vB4 : validP pB 4 1 = 0 := by decide +kernel
theorem tA3 : tV pA 3 0 3 = 0 ∧ tR pA 3 0 3 = 1 ∧ tS pA 3 0 3 = true := by decide +kernel
theorem runA : after pA 0 0 [3, 3, 9, 4, 2, 2, 7] = (0, 1) ∧ spkL (runL pA 0 0 [3, 3, 9, 4, 2, 2, 7]) 7 = [1, 4, 6] := by decide +kernel
theorem silB0 : sil pB 4 1 0 = (4, 1) := rfl
theorem silB1 : sil pB 4 1 1 = (4, 0) := by decide +kernel
theorem stopB : StopAt pB 4 1 1 := by
  refine ⟨by omega, fun j hj => ?_, Or.inl (by decide +kernel)⟩
  obtain rfl : j = 0 := by omega
  exact ⟨by decide +kernel, by decide +kernel⟩
theorem nextB : nextR pB 4 1 1 = 1 := by decide +kernel

theorem tickA (w : World) : Calls Try.prog 22 #[.agg #[.int .i64 1, .int .i64 1, .int .i64 0, .int .i64 5, .int .i64 0, .int .i64 0, .int .i64 (-4), .int .i64 1], .agg #[.int .i64 3, .int .i64 0], .int .i64 3] w fun e w' =>
    e = .returned (.tuple #[.agg #[.int .i64 0, .int .i64 1], .bool true, .int .i64 0]) ∧ Below w.heap.size w w' := by
  refine (tick_ok pA 3 0 3 vA3 w).mono fun e w' ⟨he, hb⟩ => ⟨?_, hb⟩
  rw [he, tA3.1, tA3.2.1, tA3.2.2]

/-- What Run returns at the example. -/
def RanA (w : World) (e : Ending) (w' : World) : Prop := ∃ a cap, e = .returned (.tuple #[.slice a 3 cap, .agg #[.int .i64 0, .int .i64 1], .int .i64 0]) ∧ IntsAt w' (.slice a 3 cap) [1, 4, 6] ∧ Below w.heap.size w w'
theorem ranA (a : Option Addr) (cap : Nat) (w : World) (h : IntsAt w (.slice a 7 cap) [3, 3, 9, 4, 2, 2, 7]) :
    Calls Try.prog 24 #[.agg #[.int .i64 1, .int .i64 1, .int .i64 0, .int .i64 5, .int .i64 0, .int .i64 0, .int .i64 (-4), .int .i64 1], .agg #[.int .i64 0, .int .i64 0], .slice a 7 cap] w (RanA w) := by
  refine (run_ok pA 0 0 vA0 a cap [3, 3, 9, 4, 2, 2, 7] (by decide) w h).mono ?_
  rintro e w' ⟨v, he, ho, hb⟩
  have h7 : ([3, 3, 9, 4, 2, 2, 7] : List Int).length = 7 := rfl
  rw [h7, runA.2] at ho
  have hI := intsAt_of_owns ho
  obtain ⟨a', cap', e'⟩ := hI.len
  refine ⟨a', cap', ?_, ?_, hb⟩
  · rw [he, runA.1, e']; rfl
  · rw [e'] at hI; exact hI

theorem nextOfB (w : World) : Calls Try.prog 29 #[.agg #[.int .i64 0, .int .i64 0, .int .i64 2, .int .i64 5, .int .i64 1, .int .i64 0, .int .i64 (-4), .int .i64 1], .agg #[.int .i64 4, .int .i64 1]] w fun e w' =>
    e = .returned (.tuple #[.int .i64 1, .int .i64 0]) ∧ Below w.heap.size w w' := by
  refine (next_ok pB 4 1 vB4 1 stopB w).mono fun e w' ⟨he, hb⟩ => ⟨?_, hb⟩
  rw [he, nextB]

theorem equal_146 (a1 a2 : Option Addr) (c1 c2 : Nat) (w : World) (h1 : IntsAt w (.slice a1 3 c1) [1, 4, 6]) (h2 : IntsAt w (.slice a2 3 c2) [1, 4, 6]) :
    Calls Try.prog 26 #[.slice a1 3 c1, .slice a2 3 c2] w fun e w' => e = .returned (.bool true) ∧ Below w.heap.size w w' :=
  equal_any a1 a2 c1 c2 [1, 4, 6] [1, 4, 6] (by decide) (by decide) w h1 h2

theorem intsAt_block {W : World} {b cap : Nat} {L : List Int} {t : TypeId} {m : Nat × Nat} (h : W.heap[b]? = some (.cells (L.map (Value.int .i64)).toArray t m)) : IntsAt W (.slice (some ⟨b, 0, none⟩) L.length cap) L := by
  refine Or.inr ⟨b, 0, cap, rfl, fun j hj => ?_⟩
  simp [World.cell?, h, hj]

set_option maxHeartbeats 1000000 in
theorem works_any (w : World) : Calls Try.prog 21 #[] w fun e w' => e = .returned (.bool true) ∧ Below w.heap.size w w' := by
  go_enter Try.func21, Try.ntmps21
  go_wp2_with (first | (go_at_call 37; refine (A_any _).mono ?_; rintro e w1 ⟨rfl, hb1⟩; obtain ⟨hc1, hf1⟩ := bcell hb1; have hs1 := hb1.size) | (go_at_call 22; refine (tickA _).mono ?_; rintro e w2 ⟨rfl, hb2⟩; have hs2 := hb2.size))
  have hI := intsAt_block (cap := 7) (L := [3, 3, 9, 4, 2, 2, 7]) (World.alloc_heap_new w1 (.cells #[.int .i64 3, .int .i64 3, .int .i64 9, .int .i64 4, .int .i64 2, .int .i64 2, .int .i64 7] 3))
  refine (ranA _ _ _ hI).mono ?_
  rintro e w3 ⟨a3, cap3, rfl, hI3, hb3⟩
  have hs3 := hb3.size
  clear hI
  simp only [World.size_alloc] at hs1 hs2 hs3
  have t13 : w3.heap[w2.heap.size]? = some (.cells #[.int .i64 0, .int .i64 1] 25) := by
    rw [hb3.block _ (by simp <;> omega), Below.heap_alloc _ _ _ (by omega), hb1.block _ (by simp <;> omega)]; exact World.alloc_heap_new _ _
  have hw2 : Below w.heap.size w w2 := by
    have h0 : Below w.heap.size w _ := ‹Below w.heap.size w _›
    exact h0.trans (hb2.mono h0.size)
  have hw3 : Below w.heap.size w w3 := ((hw2.alloc hw2.size _).trans (hb1.mono (by have := hw2.size; simp; omega))).alloc (by have := hw2.size; omega) _ |>.trans (hb3.mono (by have := hw2.size; simp; omega))
  have hz3 := hw3.size
  have T13 := Lib.hid t13
  have HI3 := Lib.hid hI3
  have HW3 := Lib.hid hw3
  have hlt23 : w2.heap.size < w3.heap.size := by omega
  clear hI3 t13 hw2 hw3 hb1 hb2 hb3 hc1 hf1 hs1 hs2 hs3
  go_wp2_with (first | (go_at_call 38; refine (B_any _).mono ?_; rintro e w4 ⟨rfl, hb4⟩; have hs4 := hb4.size; simp only [World.size_alloc] at hs4) | (go_at_call 29; refine (nextOfB _).mono ?_; rintro e w5 ⟨rfl, hb5⟩; have hs5 := hb5.size; obtain ⟨x0, x1, _, _⟩ := cells2 (show w5.heap[w2.heap.size]? = some (.cells #[.int .i64 0, .int .i64 1] 25) from (by rw [hb5.block _ (by omega), hb4.block _ (by simp <;> omega), Below.heap_alloc _ _ _ (by omega)]; exact T13.out)); have t55 : w5.heap[w3.heap.size]? = some (.cells #[.int .i64 0, .int .i64 1] 25) := (by rw [hb5.block _ (by omega), hb4.block _ (by simp <;> omega)]; exact World.alloc_heap_new _ _); have h35 : Below w3.heap.size w3 w5 := ((((Below.refl _ w3).alloc (Nat.le_refl _) _).trans (hb4.mono (by simp <;> omega))).trans (hb5.mono (by omega))); have T55 := Lib.hid t55; have H35 := Lib.hid h35; clear t55 h35 hb4 hb5) | (go_at_call 26; refine (equal_146 _ _ _ _ _ (HI3.out.below (H35.out.alloc (by omega) _)) (intsAt_block (L := [1, 4, 6]) (World.alloc_heap_new w5 _))).mono ?_; rintro e w6 ⟨rfl, hb6⟩; have hs6 := hb6.size; obtain ⟨y0, y1, _, _⟩ := cells2 (show w6.heap[w3.heap.size]? = some (.cells #[.int .i64 0, .int .i64 1] 25) from (by rw [hb6.block _ (by simp <;> omega), Below.heap_alloc _ _ _ (by omega)]; exact T55.out)); have HB6 := Lib.hid hb6; clear hb6))
  go_ret
  refine ⟨rfl, ?_⟩
  have h6 := HB6.out
  exact ((HW3.out.trans (H35.out.mono hz3)).alloc (by omega) _).trans (h6.mono (by simp <;> omega))

end Go.Proofs.Ytkpabecnimakpaa
