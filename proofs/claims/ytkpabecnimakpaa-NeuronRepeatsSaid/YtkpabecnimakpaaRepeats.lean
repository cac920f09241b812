/- For every neuron, state and input the law NeuronRepeats returns true: what Cycle says is so. No condition. -/
import Derived.Test.YtkpabecnimakpaaCr
import Derived.Test.YtkpabecnimakpaaRp
import Derived.Test.YtkpabecnimakpaaM
import Derived.Deep.RegionHeld3
namespace Go.Proofs.Ytkpabecnimakpaa.neuronRepeats
open Go.ChangeShapes Go.WideShapes Go.ChangeAt Go.RowKit
set_option linter.unusedVariables false


theorem cycle_got (p : Prm) (V R i : Int) (hv : validP p V R = 0) (K j : Nat) (hK : CycS p V R i K j) (hle : K ≤ 65536) :
    ∃ d m : Nat, K = j + d ∧ 1 ≤ d ∧ nsp p V R i K = nsp p V R i j + m ∧ ∀ w, Calls Try.prog 31 #[.agg #[.int .i64 p.lk, .int .i64 p.lv, .int .i64 p.bi, .int .i64 p.th, .int .i64 p.rk, .int .i64 p.rs, .int .i64 p.fl, .int .i64 p.re], .agg #[.int .i64 V, .int .i64 R], .int .i64 i] w fun e w' => e = .returned (.tuple #[.int .i64 (j : Int), .int .i64 (d : Int), .int .i64 (m : Int), .int .i64 0]) ∧ Below w.heap.size w w' := by
  obtain ⟨h1, _⟩ := hK.hit hle
  have hm := nsp_mono p V R i (Nat.le_of_lt h1)
  refine ⟨K - j, nsp p V R i K - nsp p V R i j, by omega, by omega, by omega, fun w => (cycle_ok p V R i hv K j hK w).mono fun e w' ⟨he, hb⟩ => ⟨?_, hb⟩⟩
  rw [he, cycR, if_pos hle]
  have e1 : ((K - j : Nat) : Int) = (K : Int) - j := by omega
  have e2 : ((nsp p V R i K - nsp p V R i j : Nat) : Int) = (nsp p V R i K : Int) - nsp p V R i j := by omega
  rw [e1, e2]

set_option maxRecDepth 100000 in
set_option maxHeartbeats 2000000 in
theorem walk_err (p : Prm) (V R i : Int) (hv : validP p V R ≠ 0) (w : World) :
    Calls Try.prog 12 #[.agg #[.int .i64 p.lk, .int .i64 p.lv, .int .i64 p.bi, .int .i64 p.th, .int .i64 p.rk, .int .i64 p.rs, .int .i64 p.fl, .int .i64 p.re], .agg #[.int .i64 V, .int .i64 R], .int .i64 i] w fun e w' => e = .returned (.bool true) ∧ Below w.heap.size w w' := by
  have g1 : (validP p V R != 0) = true := by simp [hv]
  have H1 := Lib.hid (fun w => callsIn_wide.1 (cycle_err_in p V R i hv w))
  clear hv
  go_enter Try.func12, Try.ntmps12
  go_wp2_with (first
    | (go_at_call 31; refine (H1.out _).mono ?_; rintro e w1 ⟨rfl, hb1⟩; obtain ⟨hc1, hf1⟩ := bcell hb1; have hz1 : w.heap.size + 1 < w1.heap.size := (by have := hb1.size; simp at this; omega); have hz1a : w.heap.size < w1.heap.size := (by omega))
    | (go_at_call 19; refine (valid_any p V R _).mono ?_; rintro e w2 ⟨rfl, hb2⟩; have hz2 : w1.heap.size ≤ w2.heap.size := hb2.size)
    | (go_at_call 21; refine (works_any _).mono ?_; rintro e w6 ⟨rfl, hb6⟩))
  go_ret
  refine ⟨rfl, ?_⟩
  (focus (first | (exact Below.refl _ _) | ((repeat (first | exact Below.refl _ _ | refine below_drewN ?_ _ | refine Below.drew ?_ | refine Below.alloc ?_ ?_ _ | refine Below.setCell ?_ ?_ _ | refine Below.trans ?_ (Below.mono (by assumption) ?_))); all_goals (first | omega | (simp; done) | (simp; omega)))))

set_option maxRecDepth 100000 in
set_option maxHeartbeats 2000000 in
theorem walk_long (p : Prm) (V R i : Int) (hv : validP p V R = 0) (K j : Nat) (hK : CycS p V R i K j) (hle : ¬ K ≤ 65536) (w : World) :
    Calls Try.prog 12 #[.agg #[.int .i64 p.lk, .int .i64 p.lv, .int .i64 p.bi, .int .i64 p.th, .int .i64 p.rk, .int .i64 p.rs, .int .i64 p.fl, .int .i64 p.re], .agg #[.int .i64 V, .int .i64 R], .int .i64 i] w fun e w' => e = .returned (.bool true) ∧ Below w.heap.size w w' := by
  have H1 : Hid (∀ w, Calls Try.prog 31 #[.agg #[.int .i64 p.lk, .int .i64 p.lv, .int .i64 p.bi, .int .i64 p.th, .int .i64 p.rk, .int .i64 p.rs, .int .i64 p.fl, .int .i64 p.re], .agg #[.int .i64 V, .int .i64 R], .int .i64 i] w fun e w' => e = .returned (.tuple #[.int .i64 0, .int .i64 0, .int .i64 0, .int .i64 8]) ∧ Below w.heap.size w w') := Lib.hid (fun w => (cycle_ok p V R i hv K j hK w).mono fun e w' ⟨he, hb⟩ => ⟨by rw [he, cycR, if_neg hle], hb⟩)
  have HV := Lib.hid hv
  clear hv hK hle
  go_enter Try.func12, Try.ntmps12
  go_wp2_with (first
    | (go_at_call 31; refine (H1.out _).mono ?_; rintro e w1 ⟨rfl, hb1⟩; obtain ⟨hc1, hf1⟩ := bcell hb1; have hz1 : w.heap.size + 1 < w1.heap.size := (by have := hb1.size; simp at this; omega); have hz1a : w.heap.size < w1.heap.size := (by omega))
    | (go_at_call 19; refine (valid_any p V R _).mono ?_; rintro e w2 ⟨rfl, hb2⟩; rw [HV.out]; have hz2 : w1.heap.size ≤ w2.heap.size := hb2.size)
    | (go_at_call 21; refine (works_any _).mono ?_; rintro e w6 ⟨rfl, hb6⟩))
  go_ret
  refine ⟨rfl, ?_⟩
  (focus (first | (exact Below.refl _ _) | ((repeat (first | exact Below.refl _ _ | refine below_drewN ?_ _ | refine Below.drew ?_ | refine Below.alloc ?_ ?_ _ | refine Below.setCell ?_ ?_ _ | refine Below.trans ?_ (Below.mono (by assumption) ?_))); all_goals (first | omega | (simp; done) | (simp; omega)))))

set_option maxRecDepth 100000 in
set_option maxHeartbeats 2000000 in
theorem walk_big (p : Prm) (V R i : Int) (j d m : Nat) (hd : 1 ≤ d) (h1 : 3000 < j + d) (h2 : j + d ≤ 65536) (hm : m ≤ 65536) (H1 : Hid (∀ w, Calls Try.prog 31 #[.agg #[.int .i64 p.lk, .int .i64 p.lv, .int .i64 p.bi, .int .i64 p.th, .int .i64 p.rk, .int .i64 p.rs, .int .i64 p.fl, .int .i64 p.re], .agg #[.int .i64 V, .int .i64 R], .int .i64 i] w fun e w' => e = .returned (.tuple #[.int .i64 (j : Int), .int .i64 (d : Int), .int .i64 (m : Int), .int .i64 0]) ∧ Below w.heap.size w w')) (w : World) :
    Calls Try.prog 12 #[.agg #[.int .i64 p.lk, .int .i64 p.lv, .int .i64 p.bi, .int .i64 p.th, .int .i64 p.rk, .int .i64 p.rs, .int .i64 p.fl, .int .i64 p.re], .agg #[.int .i64 V, .int .i64 R], .int .i64 i] w fun e w' => e = .returned (.bool true) ∧ Below w.heap.size w w' := by
  have g1 : ((j : Int) < 0) = False := by simp <;> omega
  have g2 : ((d : Int) < 1) = False := by simp <;> omega
  have g3 : ((m : Int) < 0) = False := by simp <;> omega
  have g4 : ((65536 : Int) < (j : Int) + (d : Int)) = False := by simp <;> omega
  have g5 : ((3000 : Int) < (j : Int) + (d : Int)) = True := by simp <;> omega
  go_enter Try.func12, Try.ntmps12
  go_wp2_with (first
    | (go_at_call 31; refine (H1.out _).mono ?_; rintro e w1 ⟨rfl, hb1⟩; obtain ⟨hc1, hf1⟩ := bcell hb1; have hz1 : w.heap.size + 1 < w1.heap.size := (by have := hb1.size; simp at this; omega); have hz1a : w.heap.size < w1.heap.size := (by omega))
    | (go_at_call 21; refine (works_any _).mono ?_; rintro e w6 ⟨rfl, hb6⟩))
  go_ret
  refine ⟨rfl, ?_⟩
  (focus (first | (exact Below.refl _ _) | ((repeat (first | exact Below.refl _ _ | refine below_drewN ?_ _ | refine Below.drew ?_ | refine Below.alloc ?_ ?_ _ | refine Below.setCell ?_ ?_ _ | refine Below.trans ?_ (Below.mono (by assumption) ?_))); all_goals (first | omega | (simp; done) | (simp; omega)))))

theorem valid_st {p : Prm} {V R A B : Int} (hv : validP p V R = 0) (h1 : p.fl ≤ A) (h2 : A ≤ 1048576) (h3 : 0 ≤ B) (h4 : B ≤ p.re) : validP p A B = 0 := by
  have hck : checkP p = 0 := by
    by_cases h : checkP p = 0
    · exact h
    · unfold validP at hv; rw [if_neg h] at hv; exact absurd hv h
  unfold validP; rw [if_pos hck, if_pos]; simp [inR, *]

theorem cell_two_new (W : World) (u v : Value) (t : TypeId) : ∀ (j : Nat) (x : Value), [u, v][j]? = some x → (W.alloc (.cells #[u, v] t)).cell? ((⟨W.heap.size, 0, none⟩ : Addr).add j) = some x := by
  intro j x h
  match j, h with
  | 0, h => cases h; exact (cells2 (alloc_new_at W _ _ rfl)).1
  | 1, h => cases h; exact (cells2 (alloc_new_at W _ _ rfl)).2.1
  | n + 2, h => simp at h

theorem own_form {w : World} {base : Nat} {e : TypeId} {size : Nat} {v : Value} {n : Nat} {xs : List Value} (h : w.ownsRow base e size v n xs) (hn : 0 < n) : ∃ g cap, v = .slice (some ⟨g, 0, none⟩) n cap := by
  rcases h.2 with ⟨_, h0⟩ | ⟨g, cap, cur, hv, _⟩
  · omega
  · exact ⟨g, cap, hv⟩

def rowC (p : Prm) (V R i : Int) : Nat → List Value
  | 0 => []
  | k + 1 => rowC p V R i k ++ [.int .i64 (stk p V R i k).1, .int .i64 (stk p V R i k).2]
theorem rowC_length (p : Prm) (V R i : Int) (k : Nat) : (rowC p V R i k).length = k * 2 := by
  induction k with
  | zero => rfl
  | succ k ih => simp [rowC, ih]; omega
theorem rowC_at (p : Prm) (V R i : Int) : ∀ k t, t < k → (rowC p V R i k)[t * 2]? = some (.int .i64 (stk p V R i t).1) ∧ (rowC p V R i k)[t * 2 + 1]? = some (.int .i64 (stk p V R i t).2) := by
  intro k
  induction k with
  | zero => intro t h; omega
  | succ k ih =>
    intro t h
    have hl := rowC_length p V R i k
    by_cases e : t = k
    · subst e
      unfold rowC
      rw [List.getElem?_append_right (by omega), List.getElem?_append_right (by omega), hl]
      simp
    · have := ih t (by omega)
      unfold rowC
      rw [List.getElem?_append_left (by omega), List.getElem?_append_left (by omega)]
      exact this

theorem info25 : (Try.prog.info? 25).map (fun i => (i.zero, i.size, i.bytes)) = some (some (.agg #[.int .i64 0, .int .i64 0]), 2, 16) := by kernel_rfl

structure RepI (p : Prm) (V R i : Int) (w : World) (v : Value) (k : Nat) (A : World) : Prop where
  prm : PrmAt p w.heap.size A
  st : StAt (stk p V R i k).1 (stk p V R i k).2 (w.heap.size + 1) A
  row : A.ownsRow (w.heap.size + 2) 25 2 v k (rowC p V R i k)
  bel : Below w.heap.size w A

theorem rep_step {p : Prm} {V R i : Int} {w wr w3 w4 : World} {v v' : Value} {k : Nat} {o : Obj} (hI : RepI p V R i w v k wr) (A B X1 X2 : Int) (hA : (A, B) = stk p V R i k) (hX : (X1, X2) = stk p V R i (k + 1))
    (hown : w3.ownsRow (w.heap.size + 2) 25 2 v' (k + 1) (rowC p V R i k ++ [.int .i64 A, .int .i64 B])) (hg : (wr.alloc o).grownBy w3 v.ownBlock) (hb : Below w3.heap.size w3 w4) :
    RepI p V R i w v' (k + 1) (((w4.setCell ⟨w.heap.size + 1, 0, none⟩ (.int .i64 X1)).setCell ⟨w.heap.size + 1, 1, none⟩ (.int .i64 X2)).alloc (.cells #[.int .i64 X1, .int .i64 X2] 25)) := by
  have hl : w.heap.size + 1 < wr.heap.size := lt_of_block hI.st
  have hs3 := hg.size
  rw [World.size_alloc] at hs3
  have hs4 := hb.size
  have old : ∀ b, b < w.heap.size + 2 → w3.heap[b]? = wr.heap[b]? := fun b h => by
    rw [hg.block b (by rw [World.size_alloc]; omega) (fun e => by have := (hI.row.lt b e.symm).1; omega), Below.heap_alloc _ _ _ (by omega)]
  have new : ∀ b, b < w3.heap.size → b ≠ w.heap.size + 1 → (((w4.setCell ⟨w.heap.size + 1, 0, none⟩ (.int .i64 X1)).setCell ⟨w.heap.size + 1, 1, none⟩ (.int .i64 X2)).alloc (.cells #[.int .i64 X1, .int .i64 X2] 25)).heap[b]? = w3.heap[b]? := fun b h hn => by
    rw [Below.heap_alloc _ _ _ (by simp [World.setCell]; omega), Below.heap_setCell _ _ _ _ (by show b ≠ w.heap.size + 1; exact hn), Below.heap_setCell _ _ _ _ (by show b ≠ w.heap.size + 1; exact hn), hb.block _ h]
  have hst : w4.heap[w.heap.size + 1]? = some (.cells #[.int .i64 (stk p V R i k).1, .int .i64 (stk p V R i k).2] 25) := by
    rw [hb.block _ (by omega), old _ (by omega)]; exact hI.st
  refine ⟨?_, ?_, ?_, ?_⟩
  · exact (new _ (by omega) (by omega)).trans ((old _ (by omega)).trans hI.prm)
  · rw [← hX]
    exact (Below.heap_alloc _ _ _ (by simp [World.setCell]; omega)).trans (set2_1 (set2_0 hst _) _)
  · have e : rowC p V R i (k + 1) = rowC p V R i k ++ [.int .i64 A, .int .i64 B] := by show _ ++ [Value.int .i64 (stk p V R i k).1, Value.int .i64 (stk p V R i k).2] = _; rw [← hA]
    rw [e]
    exact ownsRow_of_block hown fun b h => new b (hown.lt b h).2 (by have := (hown.lt b h).1; omega)
  · have h3 : Below w.heap.size w w3 := ⟨hg.os.trans hI.bel.os, hg.tape.trans hI.bel.tape, hg.output.trans hI.bel.output, by have := hI.bel.size; omega, fun b h => (old b (by omega)).trans (hI.bel.block b h)⟩
    exact (((h3.trans (hb.mono (by omega))).setCell (p := ⟨w.heap.size + 1, 0, none⟩) (by simp) _).setCell (p := ⟨w.heap.size + 1, 1, none⟩) (by simp) _).alloc (by simp [World.setCell]; omega) _

set_option maxRecDepth 100000 in
set_option maxHeartbeats 4000000 in
theorem walk_main (p : Prm) (V R i : Int) (hv : validP p V R = 0) (K j d m : Nat) (hK : CycS p V R i K j) (hKd : K = j + d) (hd : 1 ≤ d) (h1 : j + d ≤ 3000) (hm : nsp p V R i K = nsp p V R i j + m) (hm1 : m ≤ 65536)
    (H1 : Hid (∀ w, Calls Try.prog 31 #[.agg #[.int .i64 p.lk, .int .i64 p.lv, .int .i64 p.bi, .int .i64 p.th, .int .i64 p.rk, .int .i64 p.rs, .int .i64 p.fl, .int .i64 p.re], .agg #[.int .i64 V, .int .i64 R], .int .i64 i] w fun e w' => e = .returned (.tuple #[.int .i64 (j : Int), .int .i64 (d : Int), .int .i64 (m : Int), .int .i64 0]) ∧ Below w.heap.size w w')) (w : World) :
    Calls Try.prog 12 #[.agg #[.int .i64 p.lk, .int .i64 p.lv, .int .i64 p.bi, .int .i64 p.th, .int .i64 p.rk, .int .i64 p.rs, .int .i64 p.fl, .int .i64 p.re], .agg #[.int .i64 V, .int .i64 R], .int .i64 i] w fun e w' => e = .returned (.bool true) ∧ Below w.heap.size w w' := by
  have g1 : ((j : Int) < 0) = False := by simp <;> omega
  have g2 : ((d : Int) < 1) = False := by simp <;> omega
  have g3 : ((m : Int) < 0) = False := by simp <;> omega
  have g4 : ((65536 : Int) < (j : Int) + (d : Int)) = False := by simp <;> omega
  have g5 : ((3000 : Int) < (j : Int) + (d : Int)) = False := by simp <;> omega
  have b1 : (j : Int) ≤ 3000 := by omega
  have b2 : (d : Int) ≤ 3000 := by omega
  obtain ⟨hok, k1, k2, k3, k4⟩ := ok_of_valid hv
  have HV := Lib.hid hv
  have HOK := Lib.hid hok
  have HC := Lib.hid hK
  have HM := Lib.hid hm
  have HKD := Lib.hid hKd
  clear hv hok hK hm hKd
  go_enter Try.func12, Try.ntmps12
  go_wp2_with (go_at_call 31; refine (H1.out _).mono ?_; rintro e w1 ⟨rfl, hb1⟩)
  have hI0 : RepI p V R i w (.slice none 0 0) 0 w1 := by
    refine ⟨?_, ?_, World.ownsRow_nil _ _ _ _, (((Below.refl _ _).alloc (Nat.le_refl _) _).alloc (by simp) _).trans (hb1.mono (by simp <;> omega))⟩
    · unfold PrmAt; rw [hb1.block _ (by simp <;> omega), Below.heap_alloc _ _ _ (by simp <;> omega)]; exact alloc_new_at _ _ _ rfl
    · unfold StAt; rw [hb1.block _ (by simp <;> omega)]; exact alloc_new_at _ _ _ (by simp)
  have HI0 := Lib.hid hI0
  clear hb1 hI0
  obtain ⟨i0, hi, hz0, hzz1, hzz2⟩ := info_parts info25
  go_loopw [11, 12, 13] (fun v n t wr => ∃ k : Nat, k ≤ j + 2 * d + 1 ∧ t = .int .i64 k ∧ n = .int .i64 (cntS p V R i j K k) ∧ RepI p V R i w v k wr) (fun _ _ t _ => 9002 - (intOf t).toNat)
  case atStart => exact ⟨0, Nat.zero_le _, rfl, rfl, HI0.out⟩
  case round =>
    obtain ⟨k, hk, rfl, rfl, hI⟩ := hrel
    have hval := stk_valid HOK.out i k1 k2 k3 k4 k
    obtain ⟨⟨A, B⟩, hAB⟩ : ∃ X : Int × Int, X = stk p V R i k := ⟨_, rfl⟩
    obtain ⟨⟨X1, X2⟩, hX⟩ : ∃ X : Int × Int, X = stk p V R i (k + 1) := ⟨_, rfl⟩
    obtain ⟨sp, hsp⟩ : ∃ sp, sp = sps p V R i k := ⟨_, rfl⟩
    obtain ⟨c, hc⟩ : ∃ c, c = cntS p V R i j K k := ⟨_, rfl⟩
    have hcl := cntS_le p V R i j K k
    rw [← hc] at hcl ⊢
    rw [← hAB] at hval
    obtain ⟨r1, r2, r3, r4⟩ := hI
    by_cases hlt : k ≤ j + 2 * d
    · have hle : ((k : Int) ≤ (j : Int) + 2 * (d : Int)) = True := by simp <;> omega
      have hgo := fun W => tick_ok p A B i (valid_st HV.out hval.1 hval.2.1 hval.2.2.1 hval.2.2.2) W
      have hx := stk_succ p V R i k
      rw [← hX, ← hAB] at hx
      have hsp' := hsp
      unfold sps at hsp'
      rw [← hAB] at hsp'
      simp only at hsp'
      obtain ⟨hx1, hx2⟩ : X1 = tV p A B i ∧ X2 = tR p A B i := by simpa using hx
      rw [← hx1, ← hx2, ← hsp'] at hgo
      have hc2 : cntS p V R i j K (k + 1) = c + if sp = true ∧ j ≤ k ∧ k < K then 1 else 0 := by rw [hc, hsp]; rfl
      rw [← hAB] at r2
      obtain ⟨_, _, _, _, _, _, _, _⟩ := cells8 r1
      obtain ⟨_, _, _, _⟩ := cells2 r2
      have hl1 : w.heap.size + 1 < wr.heap.size := lt_of_block r2
      have hc1 : (c : Int) ≤ 10000 := by omega
      have HR : Hid (RepI p V R i w u11 k wr) := Lib.hid ⟨r1, by rw [← hAB]; exact r2, r3, r4⟩
      have P1 := Lib.hid r1
      have P2 := Lib.hid r2
      have P3 := Lib.hid r3
      have P4 := Lib.hid r4
      have HGO := Lib.hid hgo
      have HAB := Lib.hid hAB
      have HX := Lib.hid hX
      have HSP := Lib.hid hsp
      have HC1 := Lib.hid hc
      have HC2 := Lib.hid hc2
      clear hgo hAB hX hsp hc hc2 r1 r2 r3 r4 hx hx1 hx2 hsp' hval
      go_wp2_with (at_builtin; refine wpList_append_own _ rfl _ _ 55 rfl (w.heap.size + 2) 25 i0 (.agg #[.int .i64 0, .int .i64 0]) 2 16 Try.underlying55 hi hz0 hzz1 hzz2 rfl (by decide) u11 k _ rfl (P3.out.alloc _) ⟨wr.heap.size, 0, none⟩ 1 1 [.int .i64 A, .int .i64 B] rfl rfl (cell_two_new _ _ _ _) (by simp [Value.oneCell']) (by unfold maxLen; omega) (by omega) (by simp; omega) ?_; intro v' w3 hown' hgrow _; have HO := Lib.hid hown'; have HG := Lib.hid hgrow; have hs3 := hgrow.size; rw [World.size_alloc] at hs3; have old : ∀ b, b < w.heap.size + 2 → w3.heap[b]? = wr.heap[b]? := (fun b h => by rw [hgrow.block b (by rw [World.size_alloc]; omega) (fun e => by have := (P3.out.lt b e.symm).1; omega), Below.heap_alloc _ _ _ (by omega)]); obtain ⟨_, _, _, _, _, _, _, _⟩ := cells8 ((old _ (by omega)).trans P1.out); have q2 := (old _ (by omega)).trans P2.out; obtain ⟨_, _, _, _⟩ := cells2 q2; have Q2 := Lib.hid q2; clear hown' hgrow old q2)
      go_wp2_with (go_at_call 22; refine (HGO.out _).mono ?_; rintro e w4 ⟨rfl, hb4⟩; have hs4 := hb4.size; have hl4 : w.heap.size + 1 < w4.heap.size := (by omega); obtain ⟨_, _, _, _⟩ := cells2 ((hb4.block _ (by omega)).trans Q2.out); have HB4 := Lib.hid hb4; clear hb4)
      all_goals
        go_roundw
        case rel =>
          refine ⟨k + 1, by omega, by go_num, ?_, rep_step HR.out A B X1 X2 HAB.out HX.out HO.out HG.out HB4.out⟩
          rw [HC2.out, HKD.out]
          first
            | (rw [if_pos ⟨by assumption, by omega, by omega⟩]; go_num)
            | (rw [if_neg (by rintro ⟨h1, h2, h3⟩; first | omega | (simp_all; done))]; go_num)
        case measure => simp [intOf]; omega
    · have hkk : k = j + 2 * d + 1 := by omega
      have hle : ((k : Int) ≤ (j : Int) + 2 * (d : Int)) = False := by simp <;> omega
      have hcm : c = m := by
        have h := cntS_end p V R i j K (by have := HKD.out; omega) k (by have := HKD.out; omega)
        rw [← hc, HM.out] at h
        omega
      obtain ⟨g, cap, hu⟩ := own_form r3 (by omega)
      have hcell : ∀ t, t < k → wr.cell? ⟨g, t * 2, none⟩ = some (.int .i64 (stk p V R i t).1) ∧ wr.cell? ⟨g, t * 2 + 1, none⟩ = some (.int .i64 (stk p V R i t).2) := fun t ht => by
        rw [hu] at r3
        obtain ⟨e1, e2⟩ := rowC_at p V R i k t ht
        exact ⟨by rw [r3.cellAt _ (by omega), e1], by rw [r3.cellAt _ (by omega), e2]⟩
      have hgl := r3.lt g (by rw [hu]; rfl)
      subst hu hcm
      obtain ⟨f1, f2, f3, f4, f5⟩ := cyc_facts HC.out (by have := HKD.out; omega)
      obtain ⟨wo, rfl⟩ : ∃ wo : World, wo = wr := ⟨_, rfl⟩
      have HCELL := Lib.hid hcell
      have P4 := Lib.hid r4
      have HKK := Lib.hid hkk
      have hk9 : k ≤ 9001 := by omega
      have hkj : j + 2 * d < k := by omega
      have F2 := Lib.hid f2
      have F3 := Lib.hid f3
      have F4 := Lib.hid f4
      have F5 := Lib.hid f5
      clear hcell r1 r2 r3 r4 hkk hAB hX hsp hc hval f2 f3 f4 f5 hlt hi hz0 hzz1 hzz2
      go_wp2
      go_loopw [17] (fun t wx => ∃ a : Nat, j + 1 ≤ a ∧ a ≤ j + d ∧ t = .int .i64 a ∧ wx.heap = wo.heap ∧ Below w.heap.size w wx) (fun t _ => j + d - (intOf t).toNat)
      case atStart => exact ⟨j + 1, by omega, by omega, by go_num, rfl, P4.out⟩
      case round =>
        obtain ⟨a, ha1, ha2, rfl, hh, hb⟩ := hrel
        have hcl : ∀ ad, wr.cell? ad = wo.cell? ad := fun ad => by unfold World.cell?; rw [hh]
        obtain ⟨j1, j2⟩ := HCELL.out j (by omega)
        rw [← hcl] at j1 j2
        obtain ⟨⟨J1, J2⟩, hJ⟩ : ∃ X : Int × Int, X = stk p V R i j := ⟨_, rfl⟩
        rw [← hJ] at j1 j2
        by_cases hlt : a < j + d
        · obtain ⟨a1, a2⟩ := HCELL.out a (by omega)
          rw [← hcl] at a1 a2
          have hne := F4.out a (by omega) (by rw [HKD.out]; omega)
          obtain ⟨⟨A1, A2⟩, hA⟩ : ∃ X : Int × Int, X = stk p V R i a := ⟨_, rfl⟩
          rw [← hA] at a1 a2 hne
          rw [← hJ] at hne
          have hi0 : (0 : Int) ≤ (a : Int) := Int.natCast_nonneg _
          have hi1 : (a : Int) < (k : Int) := by omega
          have hi2 : (0 : Int) ≤ (j : Int) := Int.natCast_nonneg _
          have hi3 : (j : Int) < (k : Int) := by omega
          have HNE := Lib.hid hne
          have HB := Lib.hid hb
          have HH := Lib.hid hh
          clear hcl hA hJ hne hb hh
          by_cases e1 : A1 = J1
          · subst e1
            have e2 : (A2 == J2) = false := by simp; intro e; exact HNE.out (by rw [e])
            go_wp2
            go_region_held3 (fun w' => w'.cell? ⟨g, a * 2, none⟩ = some (.int .i64 A1) ∧ w'.cell? ⟨g, a * 2 + 1, none⟩ = some (.int .i64 A2) ∧ w'.cell? ⟨g, j * 2, none⟩ = some (.int .i64 A1) ∧ w'.cell? ⟨g, j * 2 + 1, none⟩ = some (.int .i64 J2)) (go_keep) (fail)
            go_wp2
            go_roundw
            case rel => exact ⟨a + 1, by omega, by omega, by go_num, by first | exact HH.out | (show wr.heap = wo.heap; exact HH.out), by first | exact HB.out | exact below_drewN HB.out _ | exact HB.out.drew⟩
            case measure => simp [intOf]; omega
          · have e2 : (A1 == J1) = false := by simp [e1]
            clear e1
            go_wp2
            go_region_held3 (fun w' => w'.cell? ⟨g, a * 2, none⟩ = some (.int .i64 A1) ∧ w'.cell? ⟨g, a * 2 + 1, none⟩ = some (.int .i64 A2) ∧ w'.cell? ⟨g, j * 2, none⟩ = some (.int .i64 J1) ∧ w'.cell? ⟨g, j * 2 + 1, none⟩ = some (.int .i64 J2)) (go_keep) (fail)
            go_wp2
            go_roundw
            case rel => exact ⟨a + 1, by omega, by omega, by go_num, by first | exact HH.out | (show wr.heap = wo.heap; exact HH.out), by first | exact HB.out | exact below_drewN HB.out _ | exact HB.out.drew⟩
            case measure => simp [intOf]; omega
        · have haj : a = j + d := by omega
          have hlt2 : ((a : Int) < (j : Int) + (d : Int)) = False := by simp <;> omega
          obtain ⟨x1, x2⟩ := HCELL.out (j + d) (by omega)
          obtain ⟨y1, y2⟩ := HCELL.out (j + 2 * d) (by omega)
          have hKd := HKD.out
          have e1 : stk p V R i (j + d) = (J1, J2) := by rw [← hKd, F2.out, hJ]
          have e2 : stk p V R i (j + 2 * d) = (J1, J2) := by
            have h := F3.out
            rw [show K + (K - j) = j + 2 * d from by omega] at h
            rw [h, hJ]
          rw [e1, ← hcl] at x1 x2
          rw [e2, ← hcl] at y1 y2
          have hi0 : (0 : Int) ≤ (d : Int) := Int.natCast_nonneg _
          have hi2 : (0 : Int) ≤ (j : Int) := Int.natCast_nonneg _
          have hi3 : (j : Int) < (k : Int) := by omega
          have hi4 : (j : Int) + (d : Int) < (k : Int) := by omega
          have hi5 : (j : Int) + 2 * (d : Int) < (k : Int) := by omega
          have q1 : ((j : Int) + (d : Int)).toNat = j + d := by omega
          have q2 : ((j : Int) + 2 * (d : Int)).toNat = j + 2 * d := by omega
          have hgw : g < wr.heap.size := by rw [hh]; exact hgl.2
          have HB := Lib.hid hb
          have HH := Lib.hid hh
          have HHJ := Lib.hid hJ
          have HHA := Lib.hid haj
          have HHK := Lib.hid hKd
          have HCL := Lib.hid hcl
          clear e1 e2 hKd hJ haj hb hh hcl
          by_cases hj0 : j = 0
          · subst hj0
            simp only [Nat.zero_mul, Nat.zero_add] at j1 j2 x1 x2 y1 y2 q1 q2
            have n0 : 0 < k := by omega
            have n1 : (0 : Int) < (k : Int) := by omega
            have n2 : (d : Int) < (k : Int) := by omega
            have n3 : 2 * (d : Int) < (k : Int) := by omega
            have n4 : (2 * (d : Int)).toNat = 2 * d := by omega
            have n5 : (0 : Int) ≤ 2 * (d : Int) := by omega
            have r1 := Lib.hid (IntWalk.i64_in (2 * (d : Int)) (by omega))
            have r2 := Lib.hid (IntWalk.i64_in (d : Int) (by omega))
            go_wp2
            go_quiet (fail)
            go_wp2
            have s1 := r1.out
            have s2 := r2.out
            go_region_held3 (fun w' => w'.cell? ⟨g, 0, none⟩ = some (.int .i64 J1) ∧ w'.cell? ⟨g, 1, none⟩ = some (.int .i64 J2) ∧ w'.cell? ⟨g, d * 2, none⟩ = some (.int .i64 J1) ∧ w'.cell? ⟨g, d * 2 + 1, none⟩ = some (.int .i64 J2) ∧ w'.cell? ⟨g, 2 * d * 2, none⟩ = some (.int .i64 J1) ∧ w'.cell? ⟨g, 2 * d * 2 + 1, none⟩ = some (.int .i64 J2)) (first | (go_keep; done) | (refine ⟨?_, ?_, ?_, ?_, ?_, ?_⟩ <;> (refine (Below.cell (by assumption) ?_).trans ?_ <;> first | (simp; omega) | (go_keep; done)))) ((go_at_call 21; refine (works_any _).mono ?_; rintro e w6 ⟨rfl, hb6⟩))
            clear s1 s2
            go_wp2
            go_ret
            have hsz : w.heap.size ≤ wr.heap.size := HB.out.size
            refine ⟨rfl, ?_⟩
            (repeat (first | exact HB.out | refine below_drewN ?_ _ | refine Below.drew ?_ | refine Below.trans ?_ (Below.mono (by assumption) ?_)))
            all_goals (first | omega | (simp; done) | (simp; omega))
          · have hg0 : (0 : Int) < (j : Int) := by omega
            obtain ⟨z1, z2⟩ := HCELL.out (j - 1) (by omega)
            obtain ⟨v1, v2⟩ := HCELL.out (j + d - 1) (by omega)
            rw [← HCL.out] at z1 z2 v1 v2
            have hne := F5.out (by omega)
            rw [HHK.out] at hne
            obtain ⟨⟨Q1, Q2⟩, hQ⟩ : ∃ X : Int × Int, X = stk p V R i (j - 1) := ⟨_, rfl⟩
            obtain ⟨⟨T1, T2⟩, hT⟩ : ∃ X : Int × Int, X = stk p V R i (j + d - 1) := ⟨_, rfl⟩
            rw [← hQ] at z1 z2 hne
            rw [← hT] at v1 v2 hne
            have t1 : ((j : Int) - 1).toNat = j - 1 := by omega
            have t2 : ((j : Int) + (d : Int) - 1).toNat = j + d - 1 := by omega
            have hj1 : (0 : Int) ≤ (j : Int) - 1 := by omega
            have hj2 : (1 : Int) ≤ (j : Int) := by omega
            have hj3 : (j : Int) - 1 < (k : Int) := by omega
            have hj4 : (j : Int) + (d : Int) - 1 < (k : Int) := by omega
            have hj5 : (0 : Int) ≤ (j : Int) + (d : Int) - 1 := by omega
            have hj6 : (0 : Int) ≤ (j : Int) + (d : Int) := by omega
            have hj8 : (1 : Int) ≤ (j : Int) + (d : Int) := by omega
            have hn0 : 0 < j := by omega
            have hg1 : decide ((0 : Int) < (j : Int)) = true := by simp <;> omega
            have hj7 : (0 : Int) ≤ (j : Int) + 2 * (d : Int) := by omega
            have HNE := Lib.hid hne
            have r1 := Lib.hid (IntWalk.i64_in (2 * (d : Int)) (by omega))
            have r2 := Lib.hid (IntWalk.i64_in ((j : Int) + (d : Int)) (by omega))
            have r3 := Lib.hid (IntWalk.i64_in ((j : Int) - 1) (by omega))
            have r4 := Lib.hid (IntWalk.i64_in ((j : Int) + (d : Int) - 1) (by omega))
            have r5 := Lib.hid (IntWalk.i64_in ((j : Int) + 2 * (d : Int)) (by omega))
            clear hne hQ hT
            by_cases e1 : Q1 = T1
            · subst e1
              have e2 : (Q2 == T2) = false := by simp; intro e; exact HNE.out (by rw [e])
              go_wp2
              have s1 := r1.out
              have s2 := r2.out
              have s3 := r3.out
              have s4 := r4.out
              have s5 := r5.out
              go_region_held3 (fun w' => w'.cell? ⟨g, (j - 1) * 2, none⟩ = some (.int .i64 Q1) ∧ w'.cell? ⟨g, (j - 1) * 2 + 1, none⟩ = some (.int .i64 Q2) ∧ w'.cell? ⟨g, (j + d - 1) * 2, none⟩ = some (.int .i64 Q1) ∧ w'.cell? ⟨g, (j + d - 1) * 2 + 1, none⟩ = some (.int .i64 T2)) (go_keep) (fail)
              clear s1 s2 s3 s4 s5
              go_wp2
              have s1 := r1.out
              have s2 := r2.out
              have s3 := r3.out
              have s4 := r4.out
              have s5 := r5.out
              go_region_held3 (fun w' => w'.cell? ⟨g, j * 2, none⟩ = some (.int .i64 J1) ∧ w'.cell? ⟨g, j * 2 + 1, none⟩ = some (.int .i64 J2) ∧ w'.cell? ⟨g, (j + d) * 2, none⟩ = some (.int .i64 J1) ∧ w'.cell? ⟨g, (j + d) * 2 + 1, none⟩ = some (.int .i64 J2) ∧ w'.cell? ⟨g, (j + 2 * d) * 2, none⟩ = some (.int .i64 J1) ∧ w'.cell? ⟨g, (j + 2 * d) * 2 + 1, none⟩ = some (.int .i64 J2)) (first | (go_keep; done) | (refine ⟨?_, ?_, ?_, ?_, ?_, ?_⟩ <;> (refine (Below.cell (by assumption) ?_).trans ?_ <;> first | (simp; omega) | (go_keep; done)))) ((go_at_call 21; refine (works_any _).mono ?_; rintro e w6 ⟨rfl, hb6⟩))
              clear s1 s2 s3 s4 s5
              go_wp2
              go_ret
              have hsz : w.heap.size ≤ wr.heap.size := HB.out.size
              refine ⟨rfl, ?_⟩
              (repeat (first | exact HB.out | refine below_drewN ?_ _ | refine Below.drew ?_ | refine Below.trans ?_ (Below.mono (by assumption) ?_)))
              all_goals (first | omega | (simp; done) | (simp; omega))
            · have e2 : (Q1 == T1) = false := by simp [e1]
              clear e1
              go_wp2
              have s1 := r1.out
              have s2 := r2.out
              have s3 := r3.out
              have s4 := r4.out
              have s5 := r5.out
              go_region_held3 (fun w' => w'.cell? ⟨g, (j - 1) * 2, none⟩ = some (.int .i64 Q1) ∧ w'.cell? ⟨g, (j - 1) * 2 + 1, none⟩ = some (.int .i64 Q2) ∧ w'.cell? ⟨g, (j + d - 1) * 2, none⟩ = some (.int .i64 T1) ∧ w'.cell? ⟨g, (j + d - 1) * 2 + 1, none⟩ = some (.int .i64 T2)) (go_keep) (fail)
              clear s1 s2 s3 s4 s5
              go_wp2
              have s1 := r1.out
              have s2 := r2.out
              have s3 := r3.out
              have s4 := r4.out
              have s5 := r5.out
              go_region_held3 (fun w' => w'.cell? ⟨g, j * 2, none⟩ = some (.int .i64 J1) ∧ w'.cell? ⟨g, j * 2 + 1, none⟩ = some (.int .i64 J2) ∧ w'.cell? ⟨g, (j + d) * 2, none⟩ = some (.int .i64 J1) ∧ w'.cell? ⟨g, (j + d) * 2 + 1, none⟩ = some (.int .i64 J2) ∧ w'.cell? ⟨g, (j + 2 * d) * 2, none⟩ = some (.int .i64 J1) ∧ w'.cell? ⟨g, (j + 2 * d) * 2 + 1, none⟩ = some (.int .i64 J2)) (first | (go_keep; done) | (refine ⟨?_, ?_, ?_, ?_, ?_, ?_⟩ <;> (refine (Below.cell (by assumption) ?_).trans ?_ <;> first | (simp; omega) | (go_keep; done)))) ((go_at_call 21; refine (works_any _).mono ?_; rintro e w6 ⟨rfl, hb6⟩))
              clear s1 s2 s3 s4 s5
              go_wp2
              go_ret
              have hsz : w.heap.size ≤ wr.heap.size := HB.out.size
              refine ⟨rfl, ?_⟩
              (repeat (first | exact HB.out | refine below_drewN ?_ _ | refine Below.drew ?_ | refine Below.trans ?_ (Below.mono (by assumption) ?_)))
              all_goals (first | omega | (simp; done) | (simp; omega))

theorem walk (p : Prm) (V R i : Int) (w : World) :
    Calls Try.prog 12 #[.agg #[.int .i64 p.lk, .int .i64 p.lv, .int .i64 p.bi, .int .i64 p.th, .int .i64 p.rk, .int .i64 p.rs, .int .i64 p.fl, .int .i64 p.re], .agg #[.int .i64 V, .int .i64 R], .int .i64 i] w fun e w' => e = .returned (.bool true) ∧ Below w.heap.size w w' := by
  by_cases hv : validP p V R = 0
  · obtain ⟨K, j, hK⟩ := cyc_at p V R i
    by_cases hle : K ≤ 65536
    · obtain ⟨d, m, e1, e2, e3, h⟩ := cycle_got p V R i hv K j hK hle
      have hm := nsp_le p V R i K
      by_cases h3 : j + d ≤ 3000
      · exact walk_main p V R i hv K j d m hK e1 e2 h3 e3 (by omega) (Lib.hid h) w
      · exact walk_big p V R i j d m e2 (by omega) (by omega) (by omega) (Lib.hid h) w
    · exact walk_long p V R i hv K j hK hle w
  · exact walk_err p V R i hv w

set_option maxRecDepth 100000 in
theorem lifted (os : Os) (started : os.Started) (H : Type) (enc : TypeId × Value → H) :
    ReturnsInHanded {} Try.checked os 12 .any (Rows.neuronRepeatsSpec.pre6 enc Try.prog Try.f12 Rows.neuronRepeatsRow.domain false) (Rows.neuronRepeatsSpec.post enc Try.prog Try.f12 false true false false) := by
  refine returnsInHanded_of_change (C := Try.checked) own started (by kernel_rfl) Try.func12
    (ChangeSpec.witness6 (enc := enc) (C := Try.checked) false ⟨#[], #[.agg #[.int .i64 0, .int .i64 0, .int .i64 0, .int .i64 0, .int .i64 0, .int .i64 0, .int .i64 0, .int .i64 0], .agg #[.int .i64 0, .int .i64 0], .int .i64 0], []⟩ 8 (by kernel_rfl) (by kernel_rfl) (by kernel_rfl) (by kernel_rfl)) ?_
  intro W base args ds gs before hval0 hW hcnd hsz
  have hval : ∀ (j : Nat) t v, Try.f12.params[j]? = some t → args[j]? = some v → Value.okWide Try.prog W .any base t v := hval0
  have hW' := hW
  obtain ⟨p, q, hA0, hV, rfl, hfz, hnd⟩ := hW
  have hA : DataW.TrodAll enc Try.prog W 0 (fun _ => true) true Try.f12.params.toList args.toList ds p := hA0
  rw [Try.params12] at hA hval
  have hAll := hA
  obtain ⟨v0, vs0, d0, ds0, p0, q0, hargs, rfl, rfl, h0, r0⟩ := trodAll_cons hA
  obtain ⟨v1, vs1, d1, ds1, p1, q1, rfl, rfl, rfl, h1, r1⟩ := trodAll_cons r0
  obtain ⟨v2, vs2, d2, ds2, p2, q2, rfl, rfl, rfl, h2, r2⟩ := trodAll_cons r1
  obtain ⟨rfl, rfl, rfl⟩ := trodAll_nil r2
  obtain rfl : args = #[v0, v1, v2] := by cases args; simp_all
  obtain ⟨rfl, rfl⟩ := trodVars_none hV
  obtain ⟨x0, rfl⟩ := open_prm (hval 0 23 v0 rfl rfl) h0
  obtain ⟨V1, R1, rfl⟩ := open_st (hval 1 25 v1 rfl rfl) h1
  obtain ⟨a2, rfl, rfl, rfl, w2⟩ := open_int Try.underlying3 (hval 2 3 v2 rfl rfl) h2
  clear hA0 hval0
  refine (walk x0 V1 R1 a2 W ).mono fun e W' ⟨he, bel⟩ => ?_
  subst he
  have hback := trodAll_below bel [23, 25, 3] (by intro t ht; simp at ht; rcases ht with rfl | rfl | rfl <;> exact ⟨by kernel_rfl, of_decide_eq_true (by kernel_rfl)⟩) hAll
  exact ⟨_, rfl, _, _, _, [], _, [], hW', trodAll_mk1 (shut_bool Try.underlying4 _), hback, rfl, bel.frame _, fun h => by cases h⟩

theorem over : Rows.neuronRepeatsRow.holds Try.pinned (OpenSpec.ofChange Rows.neuronRepeatsSpec) :=
  OpenClaim.holds_of_wide 12 Try.f12 rfl rfl rfl rfl rfl rfl rfl ⟨rfl, rfl, rfl, rfl, rfl⟩ rfl rfl rfl rfl rfl (by kernel_rfl) Try.func12 (by kernel_rfl)
    (of_decide_eq_true (by kernel_rfl)) (by unfold Func.isWrapper; first | (rw [if_pos (by decide +kernel)]; kernel_rfl) | (rw [if_neg (by decide +kernel)]; exact ⟨rfl, rfl⟩))
    (fun os started H enc _ => lifted os started H enc)

theorem proved : Rows.NeuronRepeatsSaid := over

end Go.Proofs.Ytkpabecnimakpaa.neuronRepeats
