/- For every neuron, potential and lists of inputs the law NeuronMore returns true. No condition. -/
import Derived.Test.YtkpabecnimakpaaO
namespace Go.Proofs.Ytkpabecnimakpaa.neuronMore
open Go.ChangeShapes Go.WideShapes Go.ChangeAt Go.RowKit
set_option linter.unusedVariables false


theorem tdiv256 (n : Int) : n.tdiv 256 = if 0 ≤ n then n / 256 else -((-n) / 256) := by
  split
  · rename_i h; exact Int.tdiv_eq_ediv_of_nonneg h
  · have := Int.tdiv_eq_ediv_of_nonneg (a := -n) (b := 256) (by omega)
    rw [Int.neg_tdiv] at this; omega
theorem leak_mono {p : Prm} (h : Ok p) {a b : Int} (hab : a ≤ b) : leakP p a ≤ leakP p b := by
  obtain ⟨_, _, _, _, _, _, hl, hs, _, _, _, _, _, _, _, _, _, _, _⟩ := h
  unfold leakP
  by_cases e1 : p.lk = 1
  · rw [if_pos e1, if_pos e1]
    have := hl e1
    split <;> split <;> omega
  · rw [if_neg e1, if_neg e1]
    by_cases e2 : p.lk = 2
    · rw [if_pos e2, if_pos e2]
      obtain ⟨h1, h2⟩ := hs e2
      have k1 : (b - a) * p.lv ≤ (b - a) * 256 := Int.mul_le_mul_of_nonneg_left h2 (by omega)
      have k0 : 0 ≤ (b - a) * p.lv := Int.mul_nonneg (by omega) (by omega)
      rw [Int.sub_mul] at k1 k0
      rw [tdiv256, tdiv256]
      split <;> split <;> omega
    · rw [if_neg e2, if_neg e2]; exact hab
theorem next_mono {p : Prm} (h : Ok p) {a b i j : Int} (hab : a ≤ b) (hij : i ≤ j) : nextV p a i ≤ nextV p b j := by
  have := leak_mono h hab
  unfold nextV clampI; omega
theorem valid_of {p : Prm} {V R : Int} (h : checkP p = 0) (hV : p.fl ≤ V) (hV' : V ≤ 1048576) (hR : 0 ≤ R) (hR' : R ≤ p.re) : validP p V R = 0 := by
  unfold validP; rw [if_pos h, if_pos]; simp [inR, *]
theorem check_of_valid {p : Prm} {V R : Int} (h : validP p V R = 0) : checkP p = 0 := by
  unfold validP at h; split at h
  · assumption
  · omega

set_option maxRecDepth 100000 in
set_option maxHeartbeats 2000000 in
theorem out (p : Prm) (v ab : Int) (a3 a4 : Option Addr) (n c3 m c4 : Nat) (hs : 1000 < n ∨ n ≤ 1000 ∧ (1048576 < v ∨ v < -1048576)) (w : World) :
    Calls Try.prog 10 #[.agg #[.int .i64 p.lk, .int .i64 p.lv, .int .i64 p.bi, .int .i64 p.th, .int .i64 p.rk, .int .i64 p.rs, .int .i64 p.fl, .int .i64 p.re], .int .i64 v, .int .u16 ab, .slice a3 n c3, .slice a4 m c4] w fun e w' => e = .returned (.bool true) ∧ Below w.heap.size w w' := by
  have hcase : ((1000 : Int) < (n : Int)) = True ∨ ((1000 : Int) < (n : Int)) = False ∧ (((1048576 : Int) < v) = True ∨ ((1048576 : Int) < v) = False ∧ (v < (-1048576)) = True) := by
    rcases hs with h | ⟨h, h1 | h1⟩
    · left; simp; omega
    · right; refine ⟨?_, Or.inl ?_⟩ <;> simp <;> omega
    · right; refine ⟨?_, Or.inr ⟨?_, ?_⟩⟩ <;> simp <;> omega
  clear hs
  rcases hcase with g1 | ⟨g1, g2 | ⟨g2, g3⟩⟩
  all_goals
    go_enter Try.func10, Try.ntmps10
    go_wp2_with (go_at_call 21; refine (works_any _).mono ?_; rintro e w4 ⟨rfl, hb4⟩)
    go_ret
    refine ⟨rfl, ?_⟩
    (focus (first | (exact Below.refl _ _) | ((repeat (first | exact Below.refl _ _ | refine below_drewN ?_ _ | refine Below.drew ?_ | refine Below.alloc ?_ ?_ _ | refine Below.setCell ?_ ?_ _ | refine Below.trans ?_ (Below.mono (by assumption) ?_))); all_goals (first | omega | (simp; done) | (simp; omega)))))

set_option maxRecDepth 100000 in
set_option maxHeartbeats 2000000 in
theorem inv (p : Prm) (v ab : Int) (a3 a4 : Option Addr) (n c3 m c4 : Nat) (h1 : n ≤ 1000) (h2 : v ≤ 1048576) (h3 : -1048576 ≤ v) (h4 : 0 ≤ ab) (h5 : ab ≤ 65535) (hx : validP p v 0 ≠ 0 ∨ validP p v 0 = 0 ∧ validP p (v + ab) 0 ≠ 0) (w : World) :
    Calls Try.prog 10 #[.agg #[.int .i64 p.lk, .int .i64 p.lv, .int .i64 p.bi, .int .i64 p.th, .int .i64 p.rk, .int .i64 p.rs, .int .i64 p.fl, .int .i64 p.re], .int .i64 v, .int .u16 ab, .slice a3 n c3, .slice a4 m c4] w fun e w' => e = .returned (.bool true) ∧ Below w.heap.size w w' := by
  have g1 : ((1000 : Int) < (n : Int)) = False := by simp; omega
  have g2 : ((1048576 : Int) < v) = False := by simp; omega
  have g3 : (v < (-1048576)) = False := by simp; omega
  have hcase : (validP p v 0 != 0) = true ∨ (validP p v 0 != 0) = false ∧ (validP p (v + ab) 0 != 0) = true := by
    rcases hx with h | ⟨h, h'⟩
    · left; simp [h]
    · right; exact ⟨by simp [h], by simp [h']⟩
  clear hx
  rcases hcase with g4 | ⟨g4, g5⟩
  · go_enter Try.func10, Try.ntmps10
    go_wp2_with fail
    go_at_call 19
    refine (valid_any p (v) 0 _).mono ?_
    rintro e w1 ⟨rfl, hb1⟩
    obtain ⟨hc1, hf1⟩ := bcell hb1
    have hz1 : w.heap.size + 2 < w1.heap.size := by have := hb1.size; simp at this; omega
    have hz1a : w.heap.size < w1.heap.size := by omega
    have hz1b : w.heap.size + 1 < w1.heap.size := by omega
    have hz1c : w.heap.size + 1 + 1 < w1.heap.size := by omega
    go_wp2_with (go_at_call 21; refine (works_any _).mono ?_; rintro e w4 ⟨rfl, hb4⟩)
    go_ret
    refine ⟨rfl, ?_⟩
    (focus (first | (exact Below.refl _ _) | ((repeat (first | exact Below.refl _ _ | refine below_drewN ?_ _ | refine Below.drew ?_ | refine Below.alloc ?_ ?_ _ | refine Below.setCell ?_ ?_ _ | refine Below.trans ?_ (Below.mono (by assumption) ?_))); all_goals (first | omega | (simp; done) | (simp; omega)))))
  · go_enter Try.func10, Try.ntmps10
    go_wp2_with fail
    go_at_call 19
    refine (valid_any p (v) 0 _).mono ?_
    rintro e w1 ⟨rfl, hb1⟩
    obtain ⟨hc1, hf1⟩ := bcell hb1
    have hz1 : w.heap.size + 2 < w1.heap.size := by have := hb1.size; simp at this; omega
    have hz1a : w.heap.size < w1.heap.size := by omega
    have hz1b : w.heap.size + 1 < w1.heap.size := by omega
    have hz1c : w.heap.size + 1 + 1 < w1.heap.size := by omega
    go_wp2_with fail
    go_at_call 19
    refine (valid_any p (v + ab) 0 _).mono ?_
    rintro e w2 ⟨rfl, hb2⟩
    have hz2 : w.heap.size + 2 < w2.heap.size := by have := hb2.size; omega
    go_wp2_with (go_at_call 21; refine (works_any _).mono ?_; rintro e w4 ⟨rfl, hb4⟩)
    go_ret
    refine ⟨rfl, ?_⟩
    (focus (first | (exact Below.refl _ _) | ((repeat (first | exact Below.refl _ _ | refine below_drewN ?_ _ | refine Below.drew ?_ | refine Below.alloc ?_ ?_ _ | refine Below.setCell ?_ ?_ _ | refine Below.trans ?_ (Below.mono (by assumption) ?_))); all_goals (first | omega | (simp; done) | (simp; omega)))))

/-- What the loop holds: the neuron and the two states, neither at rest, the second's potential not below. -/
def MoreI (p : Prm) (w A : World) : Prop :=
  ∃ Va Vb : Int, PrmAt p w.heap.size A ∧ StAt Va 0 (w.heap.size + 1) A ∧ StAt Vb 0 (w.heap.size + 1 + 1) A ∧ Below w.heap.size w A ∧ p.fl ≤ Va ∧ Va ≤ Vb ∧ Vb ≤ 1048576

theorem tick_named {p : Prm} {V i T S : Int} {s : Bool} (hv : validP p V 0 = 0) (hT : tV p V 0 i = T) (hR : tR p V 0 i = S) (hs : tS p V 0 i = s) (w : World) :
    Calls Try.prog 22 #[.agg #[.int .i64 p.lk, .int .i64 p.lv, .int .i64 p.bi, .int .i64 p.th, .int .i64 p.rk, .int .i64 p.rs, .int .i64 p.fl, .int .i64 p.re], .agg #[.int .i64 V, .int .i64 0], .int .i64 i] w fun e w' =>
      e = .returned (.tuple #[.agg #[.int .i64 T, .int .i64 S], .bool s, .int .i64 0]) ∧ Below w.heap.size w w' := by
  have := tick_ok p V 0 i hv w
  rw [hT, hR, hs] at this
  exact this

theorem pair {p : Prm} (hok : Ok p) (hck : checkP p = 0) {Va Vb x j : Int} (h1 : p.fl ≤ Va) (h2 : Va ≤ Vb) (h3 : Vb ≤ 1048576) (hxj : x ≤ j) : ∃ (T1 S1 : Int) (s1 : Bool) (T2 S2 : Int) (s2 : Bool),
    (∀ w, Calls Try.prog 22 #[.agg #[.int .i64 p.lk, .int .i64 p.lv, .int .i64 p.bi, .int .i64 p.th, .int .i64 p.rk, .int .i64 p.rs, .int .i64 p.fl, .int .i64 p.re], .agg #[.int .i64 Va, .int .i64 0], .int .i64 x] w fun e w' => e = .returned (.tuple #[.agg #[.int .i64 T1, .int .i64 S1], .bool s1, .int .i64 0]) ∧ Below w.heap.size w w') ∧
    (∀ w, Calls Try.prog 22 #[.agg #[.int .i64 p.lk, .int .i64 p.lv, .int .i64 p.bi, .int .i64 p.th, .int .i64 p.rk, .int .i64 p.rs, .int .i64 p.fl, .int .i64 p.re], .agg #[.int .i64 Vb, .int .i64 0], .int .i64 j] w fun e w' => e = .returned (.tuple #[.agg #[.int .i64 T2, .int .i64 S2], .bool s2, .int .i64 0]) ∧ Below w.heap.size w w') ∧
    (s2 = true ∨ s1 = false ∧ s2 = false ∧ S1 = 0 ∧ S2 = 0 ∧ p.fl ≤ T1 ∧ T1 ≤ T2 ∧ T2 ≤ 1048576) := by
  have v1 : validP p Va 0 = 0 := valid_of hck h1 (by omega) (by omega) hok.re0
  have v2 : validP p Vb 0 = 0 := valid_of hck (by omega) h3 (by omega) hok.re0
  refine ⟨_, _, _, _, _, _, tick_named v1 rfl rfl rfl, tick_named v2 rfl rfl rfl, ?_⟩
  have hm := next_mono hok h2 hxj
  by_cases h : nextV p Vb j < p.th
  · right
    obtain ⟨a1, a2, a3⟩ := t_low (p := p) (V := Va) (i := x) rfl (by omega)
    obtain ⟨b1, b2, b3⟩ := t_low (p := p) (V := Vb) (i := j) rfl h
    have := next_bd hok Va x
    have := next_bd hok Vb j
    exact ⟨a3, b3, a2, b2, by omega, by omega, by omega⟩
  · left
    simp [tS]; omega

theorem moreI_of {p : Prm} {Va Vb T1 T2 : Int} {w W A : World} (r1 : PrmAt p w.heap.size W) (r2 : StAt Va 0 (w.heap.size + 1) W) (r3 : StAt Vb 0 (w.heap.size + 1 + 1) W) (r4 : Below w.heap.size w W) (b1 : p.fl ≤ T1) (b2 : T1 ≤ T2) (b3 : T2 ≤ 1048576)
    (h1 : A.heap = ((((W.setCell ⟨w.heap.size + 1, 0, none⟩ (.int .i64 T1)).setCell ⟨w.heap.size + 1, 1, none⟩ (.int .i64 0)).setCell ⟨w.heap.size + 1 + 1, 0, none⟩ (.int .i64 T2)).setCell ⟨w.heap.size + 1 + 1, 1, none⟩ (.int .i64 0)).heap) (h2 : A.os = W.os) (h3 : A.tape = W.tape) (h4 : A.output = W.output) : MoreI p w A := by
  have hsz : A.heap.size = W.heap.size := by rw [h1]; simp [World.setCell]
  have ho : ∀ b, b ≠ w.heap.size + 1 → b ≠ w.heap.size + 1 + 1 → A.heap[b]? = W.heap[b]? := fun b hb hb' => by
    rw [h1, Below.heap_setCell _ _ _ _ (by exact hb'), Below.heap_setCell _ _ _ _ (by exact hb'), Below.heap_setCell _ _ _ _ (by exact hb), Below.heap_setCell _ _ _ _ (by exact hb)]
  refine ⟨T1, T2, (ho _ (by omega) (by omega)).trans r1, ?_, ?_, ⟨h2.trans r4.os, h3.trans r4.tape, h4.trans r4.output, by have := r4.size; omega, fun b hb => (ho b (by omega) (by omega)).trans (r4.block b hb)⟩, b1, b2, b3⟩
  · unfold StAt
    rw [h1, Below.heap_setCell _ _ _ _ (by show w.heap.size + 1 ≠ w.heap.size + 1 + 1; omega), Below.heap_setCell _ _ _ _ (by show w.heap.size + 1 ≠ w.heap.size + 1 + 1; omega)]
    exact set2_1 (set2_0 r2 _) _
  · unfold StAt
    rw [h1]
    refine set2_1 (set2_0 (show ((W.setCell ⟨w.heap.size + 1, 0, none⟩ (.int .i64 T1)).setCell ⟨w.heap.size + 1, 1, none⟩ (.int .i64 0)).heap[w.heap.size + 1 + 1]? = some (.cells #[.int .i64 Vb, .int .i64 0] 25) from ?_) _) _
    rw [Below.heap_setCell _ _ _ _ (by show w.heap.size + 1 + 1 ≠ w.heap.size + 1; omega), Below.heap_setCell _ _ _ _ (by show w.heap.size + 1 + 1 ≠ w.heap.size + 1; omega)]
    exact r3

theorem kat_cell {k : IntKind} {W : World} {a : Option Addr} {n cap : Nat} {zs : List Int} (h : KAt k W (.slice a n cap) zs) (j : Nat) (hj : j < zs.length) : ∃ b off, a = some ⟨b, off, none⟩ ∧ W.cell? ⟨b, off + j, none⟩ = some (.int k (zs[j]?.getD 0)) := by
  rcases h with ⟨_, rfl⟩ | ⟨b, off, cap', e, hc⟩
  · simp at hj
  · cases e; exact ⟨b, off, rfl, hc j hj⟩

set_option maxRecDepth 100000 in
set_option maxHeartbeats 2000000 in
theorem ok (p : Prm) (v ab : Int) (a3 a4 : Option Addr) (n c3 m c4 : Nat) (xs ys : List Int) (hxl : n = xs.length) (hyl : m = ys.length) (hx : ∀ z ∈ xs, -2147483648 ≤ z ∧ z ≤ 2147483647) (hy : ∀ z ∈ ys, 0 ≤ z ∧ z ≤ 65535)
    (h1 : n ≤ 1000) (hm : m ≤ 9223372036854775807) (h2 : v ≤ 1048576) (h3 : -1048576 ≤ v) (h4 : 0 ≤ ab) (h5 : ab ≤ 65535) (hv1 : validP p v 0 = 0) (hv2 : validP p (v + ab) 0 = 0) (w : World)
    (hI : KAt .i32 w (.slice a3 n c3) xs) (hJ : KAt .u16 w (.slice a4 m c4) ys) :
    Calls Try.prog 10 #[.agg #[.int .i64 p.lk, .int .i64 p.lv, .int .i64 p.bi, .int .i64 p.th, .int .i64 p.rk, .int .i64 p.rs, .int .i64 p.fl, .int .i64 p.re], .int .i64 v, .int .u16 ab, .slice a3 n c3, .slice a4 m c4] w fun e w' => e = .returned (.bool true) ∧ Below w.heap.size w w' := by
  have g1 : ((1000 : Int) < (n : Int)) = False := by simp; omega
  have g2 : ((1048576 : Int) < v) = False := by simp; omega
  have g3 : (v < (-1048576)) = False := by simp; omega
  have g4 : (validP p v 0 != 0) = false := by simp [hv1]
  have g5 : (validP p (v + ab) 0 != 0) = false := by simp [hv2]
  obtain ⟨hok, k1, k2, k3, k4⟩ := ok_of_valid hv1
  obtain ⟨_, k5, k6, _, _⟩ := ok_of_valid hv2
  have hck := check_of_valid hv1
  have HOK := Lib.hid hok
  have HCK := Lib.hid hck
  have HI := Lib.hid hI
  have HJ := Lib.hid hJ
  have HXL := Lib.hid hxl
  have HYL := Lib.hid hyl
  have HX := Lib.hid hx
  have HY := Lib.hid hy
  have HV := Lib.hid (And.intro k1 (And.intro k5 k6))
  clear hv1 hv2 hok hck hI hJ hxl hyl hx hy k1 k2 k3 k4 k5 k6
  · go_enter Try.func10, Try.ntmps10
    go_wp2_with fail
    go_at_call 19
    refine (valid_any p (v) 0 _).mono ?_
    rintro e w1 ⟨rfl, hb1⟩
    obtain ⟨hc1, hf1⟩ := bcell hb1
    have hz1 : w.heap.size + 2 < w1.heap.size := by have := hb1.size; simp at this; omega
    have hz1a : w.heap.size < w1.heap.size := by omega
    have hz1b : w.heap.size + 1 < w1.heap.size := by omega
    have hz1c : w.heap.size + 1 + 1 < w1.heap.size := by omega
    go_wp2_with fail
    go_at_call 19
    refine (valid_any p (v + ab) 0 _).mono ?_
    rintro e w2 ⟨rfl, hb2⟩
    have hz2 : w.heap.size + 2 < w2.heap.size := by have := hb2.size; omega
    have pA : PrmAt p w.heap.size w2 := by
      unfold PrmAt; rw [hb2.block _ (by omega), hb1.block _ (by simp <;> omega), Below.heap_alloc _ _ _ (by simp <;> omega), Below.heap_alloc _ _ _ (by simp <;> omega)]; exact alloc_new_at _ _ _ rfl
    have sA : StAt v 0 (w.heap.size + 1) w2 := by
      unfold StAt; rw [hb2.block _ (by omega), hb1.block _ (by simp <;> omega), Below.heap_alloc _ _ _ (by simp <;> omega)]; exact alloc_new_at _ _ _ (by simp)
    have sB : StAt (v + ab) 0 (w.heap.size + 1 + 1) w2 := by
      unfold StAt; rw [hb2.block _ (by omega), hb1.block _ (by simp <;> omega)]; exact alloc_new_at _ _ _ (by simp)
    have hbb : Below w.heap.size w w2 := ((((Below.refl _ _).alloc (Nat.le_refl _) _).alloc (by simp) _ |>.alloc (by simp <;> omega) _).trans (hb1.mono (by simp <;> omega))).trans (hb2.mono (by omega))
    have HR0 := Lib.hid (show MoreI p w w2 from ⟨v, v + ab, pA, sA, sB, hbb, HV.out.1, by omega, HV.out.2.2⟩)
    clear hb1 hb2 hc1 hf1 pA sA sB hbb
    go_wp2_with fail
    clear g4 g5
    go_loopw [13] (fun i wr => ∃ k : Nat, k ≤ n ∧ i = .int .i64 k ∧ MoreI p w wr) (fun i _ => n - (intOf i).toNat)
    case atStart => exact ⟨0, Nat.zero_le _, rfl, HR0.out⟩
    case round =>
      obtain ⟨k, hk, rfl, hR⟩ := hrel
      have HR := Lib.hid hR
      clear hR
      by_cases hlt : k < n
      · obtain ⟨Va, Vb, r1, r2, r3, r4, r5, r6, r7⟩ := HR.out
        obtain ⟨bx, ox, rfl, hcx⟩ := kat_cell HI.out k (by rw [← HXL.out]; exact hlt)
        obtain ⟨x, hxx⟩ : ∃ x, x = xs[k]?.getD 0 := ⟨_, rfl⟩
        have hxm := HX.out x (by rw [hxx]; have : k < xs.length := by rw [← HXL.out]; exact hlt
                                 simp [this])
        rw [← hxx] at hcx
        have hcx' : wr.cell? ⟨bx, ox + k, none⟩ = some (.int .i32 x) := (r4.cell (p := ⟨bx, ox + k, none⟩) (World.block_lt_of_cell? w _ hcx)).trans hcx
        have hi0 : (0 : Int) ≤ (k : Int) := Int.natCast_nonneg _
        have hi1 : (k : Int) < (n : Int) := by omega
        obtain ⟨x1, x2⟩ := hxm
        have hB : ∀ y : Int, x ≤ y → y ≤ x + 65535 → ∃ Na Nb, tV p Va 0 x = Na ∧ True := fun y _ _ => ⟨_, 0, rfl, trivial⟩
        clear hB
        obtain ⟨q0, q1, q2, q3, q4, q5, q6, q7⟩ := cells8 r1
        obtain ⟨u0, u1, _, _⟩ := cells2 r2
        obtain ⟨y0, y1, _, _⟩ := cells2 r3
        have R1 := Lib.hid r1
        have R2 := Lib.hid r2
        have R3 := Lib.hid r3
        have R4 := Lib.hid r4
        have HXX := Lib.hid hxx
        have HVV := Lib.hid (And.intro r5 (And.intro r6 r7))
        have hl3 : w.heap.size + 1 + 1 < wr.heap.size := lt_of_block r3
        have hl2 : w.heap.size + 1 < wr.heap.size := by omega
        have hl1 : w.heap.size < wr.heap.size := by omega
        clear r1 r2 r3 r4 r5 r6 r7 hxx hcx
        by_cases hkm : k < m
        · have hkm' : ((k : Int) < (m : Int)) = True := by simp; omega
          obtain ⟨by', oy, rfl, hcy⟩ := kat_cell HJ.out k (by rw [← HYL.out]; exact hkm)
          obtain ⟨y, hyy⟩ : ∃ y, y = ys[k]?.getD 0 := ⟨_, rfl⟩
          have hym := HY.out y (by rw [hyy]; have : k < ys.length := by rw [← HYL.out]; exact hkm
                                   simp [this])
          rw [← hyy] at hcy
          have hcy' : wr.cell? ⟨by', oy + k, none⟩ = some (.int .u16 y) := (R4.out.cell (p := ⟨by', oy + k, none⟩) (World.block_lt_of_cell? w _ hcy)).trans hcy
          have hj1 : (k : Int) < (m : Int) := by omega
          obtain ⟨y1', y2'⟩ := hym
          clear hyy hcy
          obtain ⟨T1, S1, s1, T2, S2, s2, hk1, hk2, hor⟩ := pair HOK.out HCK.out HVV.out.1 HVV.out.2.1 HVV.out.2.2 (x := x) (j := x + y) (by omega)
          have K1 := Lib.hid hk1
          have K2 := Lib.hid hk2
          clear hk1 hk2
          rcases hor with rfl | ⟨rfl, rfl, rfl, rfl, b1, b2, b3⟩
          · cases s1
            all_goals
              go_wp2_with fail
              go_at_call 22
              refine (K1.out _).mono ?_
              rintro e w3 ⟨rfl, hb3⟩
              obtain ⟨hc3, hf3⟩ := bcell hb3
              have hz3 : wr.heap.size ≤ w3.heap.size := hb3.size
              have z1 : w.heap.size < w3.heap.size := by omega
              have z2 : w.heap.size + 1 < w3.heap.size := by omega
              have z3 : w.heap.size + 1 + 1 < w3.heap.size := by omega
              go_wp2_with fail
              go_at_call 22
              refine (K2.out _).mono ?_
              rintro e w4 ⟨rfl, hb4⟩
              obtain ⟨hc4, hf4⟩ := bcell hb4
              have hz4 : w3.heap.size < w4.heap.size := by have := hb4.size; simp at this; omega
              go_wp2_with (go_at_call 21; refine (works_any _).mono ?_; rintro e w5 ⟨rfl, hb5⟩)
              go_ret
              refine ⟨rfl, R4.out.trans (Below.mono (B := wr.heap.size) ?_ R4.out.size)⟩
              (focus (first | (exact Below.refl _ _) | ((repeat (first | exact Below.refl _ _ | refine below_drewN ?_ _ | refine Below.drew ?_ | refine Below.alloc ?_ ?_ _ | refine Below.setCell ?_ ?_ _ | refine Below.trans ?_ (Below.mono (by assumption) ?_))); all_goals (first | omega | (simp; done) | (simp; omega)))))
          ·
            go_wp2_with fail
            go_at_call 22
            refine (K1.out _).mono ?_
            rintro e w3 ⟨rfl, hb3⟩
            obtain ⟨hc3, hf3⟩ := bcell hb3
            have hz3 : wr.heap.size ≤ w3.heap.size := hb3.size
            have z1 : w.heap.size < w3.heap.size := by omega
            have z2 : w.heap.size + 1 < w3.heap.size := by omega
            have z3 : w.heap.size + 1 + 1 < w3.heap.size := by omega
            go_wp2_with fail
            go_at_call 22
            refine (K2.out _).mono ?_
            rintro e w4 ⟨rfl, hb4⟩
            obtain ⟨hc4, hf4⟩ := bcell hb4
            have hz4 : w3.heap.size < w4.heap.size := by have := hb4.size; simp at this; omega
            have hle : (T2 < T1) = False := by simp; omega
            go_wp2_with fail
            have c16 : (w4.alloc (.cells #[.int .i64 T2, .int .i64 0] 25)).heap[w3.heap.size]? = some (.cells #[.int .i64 T1, .int .i64 0] 25) := by rw [Below.heap_alloc _ _ _ (by omega), hb4.block _ (by simp)]; exact alloc_new_at _ _ _ rfl
            have c19 : (w4.alloc (.cells #[.int .i64 T2, .int .i64 0] 25)).heap[w4.heap.size]? = some (.cells #[.int .i64 T2, .int .i64 0] 25) := alloc_new_at _ _ _ rfl
            have old : ∀ b, b < wr.heap.size → (w4.alloc (.cells #[.int .i64 T2, .int .i64 0] 25)).heap[b]? = wr.heap[b]? := fun b hb => by rw [Below.heap_alloc _ _ _ (by omega), hb4.block _ (by simp; omega), Below.heap_alloc _ _ _ (by omega), hb3.block _ hb]
            have c11 : StAt Va 0 (w.heap.size + 1) (w4.alloc (.cells #[.int .i64 T2, .int .i64 0] 25)) := (old _ hl2).trans R2.out
            have c12 : StAt Vb 0 (w.heap.size + 1 + 1) (w4.alloc (.cells #[.int .i64 T2, .int .i64 0] 25)) := (old _ hl3).trans R3.out
            have cP : PrmAt p w.heap.size (w4.alloc (.cells #[.int .i64 T2, .int .i64 0] 25)) := (old _ hl1).trans R1.out
            have cB : Below w.heap.size w (w4.alloc (.cells #[.int .i64 T2, .int .i64 0] 25)) := by
              refine R4.out.trans (Below.mono (B := wr.heap.size) ?_ R4.out.size)
              (focus (first | (exact Below.refl _ _) | ((repeat (first | exact Below.refl _ _ | refine below_drewN ?_ _ | refine Below.drew ?_ | refine Below.alloc ?_ ?_ _ | refine Below.setCell ?_ ?_ _ | refine Below.trans ?_ (Below.mono (by assumption) ?_))); all_goals (first | omega | (simp; done) | (simp; omega)))))
            clear hb3 hc3 hf3 hb4 hc4 hf4 old
            generalize w4.alloc (.cells #[.int .i64 T2, .int .i64 0] 25) = W5 at *
            obtain ⟨_, _, _, _⟩ := cells2 c16
            obtain ⟨_, _, _, _⟩ := cells2 c19
            obtain ⟨_, _, _, _⟩ := cells2 c11
            obtain ⟨_, _, _, _⟩ := cells2 c12
            have n1 : ¬ w3.heap.size = w.heap.size + 1 := by omega
            have n2 : ¬ w3.heap.size = w.heap.size + 1 + 1 := by omega
            have n3 : ¬ w4.heap.size = w.heap.size + 1 := by omega
            have n4 : ¬ w4.heap.size = w.heap.size + 1 + 1 := by omega
            have C11 := Lib.hid c11
            have C12 := Lib.hid c12
            have CP := Lib.hid cP
            have CB := Lib.hid cB
            clear c16 c19 c11 c12 cP cB
            go_region
            go_wp2
            go_roundw
            case rel => exact ⟨k + 1, by omega, by go_num, moreI_of CP.out C11.out C12.out CB.out b1 b2 b3 rfl rfl rfl rfl⟩
            case measure => simp [intOf]; omega
        · have hkm' : ((k : Int) < (m : Int)) = False := by simp; omega
          obtain ⟨T1, S1, s1, T2, S2, s2, hk1, hk2, hor⟩ := pair HOK.out HCK.out HVV.out.1 HVV.out.2.1 HVV.out.2.2 (x := x) (j := x) (by omega)
          have K1 := Lib.hid hk1
          have K2 := Lib.hid hk2
          clear hk1 hk2
          rcases hor with rfl | ⟨rfl, rfl, rfl, rfl, b1, b2, b3⟩
          · cases s1
            all_goals
              go_wp2_with fail
              go_at_call 22
              refine (K1.out _).mono ?_
              rintro e w3 ⟨rfl, hb3⟩
              obtain ⟨hc3, hf3⟩ := bcell hb3
              have hz3 : wr.heap.size ≤ w3.heap.size := hb3.size
              have z1 : w.heap.size < w3.heap.size := by omega
              have z2 : w.heap.size + 1 < w3.heap.size := by omega
              have z3 : w.heap.size + 1 + 1 < w3.heap.size := by omega
              go_wp2_with fail
              go_at_call 22
              refine (K2.out _).mono ?_
              rintro e w4 ⟨rfl, hb4⟩
              obtain ⟨hc4, hf4⟩ := bcell hb4
              have hz4 : w3.heap.size < w4.heap.size := by have := hb4.size; simp at this; omega
              go_wp2_with (go_at_call 21; refine (works_any _).mono ?_; rintro e w5 ⟨rfl, hb5⟩)
              go_ret
              refine ⟨rfl, R4.out.trans (Below.mono (B := wr.heap.size) ?_ R4.out.size)⟩
              (focus (first | (exact Below.refl _ _) | ((repeat (first | exact Below.refl _ _ | refine below_drewN ?_ _ | refine Below.drew ?_ | refine Below.alloc ?_ ?_ _ | refine Below.setCell ?_ ?_ _ | refine Below.trans ?_ (Below.mono (by assumption) ?_))); all_goals (first | omega | (simp; done) | (simp; omega)))))
          ·
            go_wp2_with fail
            go_at_call 22
            refine (K1.out _).mono ?_
            rintro e w3 ⟨rfl, hb3⟩
            obtain ⟨hc3, hf3⟩ := bcell hb3
            have hz3 : wr.heap.size ≤ w3.heap.size := hb3.size
            have z1 : w.heap.size < w3.heap.size := by omega
            have z2 : w.heap.size + 1 < w3.heap.size := by omega
            have z3 : w.heap.size + 1 + 1 < w3.heap.size := by omega
            go_wp2_with fail
            go_at_call 22
            refine (K2.out _).mono ?_
            rintro e w4 ⟨rfl, hb4⟩
            obtain ⟨hc4, hf4⟩ := bcell hb4
            have hz4 : w3.heap.size < w4.heap.size := by have := hb4.size; simp at this; omega
            have hle : (T2 < T1) = False := by simp; omega
            go_wp2_with fail
            have c16 : (w4.alloc (.cells #[.int .i64 T2, .int .i64 0] 25)).heap[w3.heap.size]? = some (.cells #[.int .i64 T1, .int .i64 0] 25) := by rw [Below.heap_alloc _ _ _ (by omega), hb4.block _ (by simp)]; exact alloc_new_at _ _ _ rfl
            have c19 : (w4.alloc (.cells #[.int .i64 T2, .int .i64 0] 25)).heap[w4.heap.size]? = some (.cells #[.int .i64 T2, .int .i64 0] 25) := alloc_new_at _ _ _ rfl
            have old : ∀ b, b < wr.heap.size → (w4.alloc (.cells #[.int .i64 T2, .int .i64 0] 25)).heap[b]? = wr.heap[b]? := fun b hb => by rw [Below.heap_alloc _ _ _ (by omega), hb4.block _ (by simp; omega), Below.heap_alloc _ _ _ (by omega), hb3.block _ hb]
            have c11 : StAt Va 0 (w.heap.size + 1) (w4.alloc (.cells #[.int .i64 T2, .int .i64 0] 25)) := (old _ hl2).trans R2.out
            have c12 : StAt Vb 0 (w.heap.size + 1 + 1) (w4.alloc (.cells #[.int .i64 T2, .int .i64 0] 25)) := (old _ hl3).trans R3.out
            have cP : PrmAt p w.heap.size (w4.alloc (.cells #[.int .i64 T2, .int .i64 0] 25)) := (old _ hl1).trans R1.out
            have cB : Below w.heap.size w (w4.alloc (.cells #[.int .i64 T2, .int .i64 0] 25)) := by
              refine R4.out.trans (Below.mono (B := wr.heap.size) ?_ R4.out.size)
              (focus (first | (exact Below.refl _ _) | ((repeat (first | exact Below.refl _ _ | refine below_drewN ?_ _ | refine Below.drew ?_ | refine Below.alloc ?_ ?_ _ | refine Below.setCell ?_ ?_ _ | refine Below.trans ?_ (Below.mono (by assumption) ?_))); all_goals (first | omega | (simp; done) | (simp; omega)))))
            clear hb3 hc3 hf3 hb4 hc4 hf4 old
            generalize w4.alloc (.cells #[.int .i64 T2, .int .i64 0] 25) = W5 at *
            obtain ⟨_, _, _, _⟩ := cells2 c16
            obtain ⟨_, _, _, _⟩ := cells2 c19
            obtain ⟨_, _, _, _⟩ := cells2 c11
            obtain ⟨_, _, _, _⟩ := cells2 c12
            have n1 : ¬ w3.heap.size = w.heap.size + 1 := by omega
            have n2 : ¬ w3.heap.size = w.heap.size + 1 + 1 := by omega
            have n3 : ¬ w4.heap.size = w.heap.size + 1 := by omega
            have n4 : ¬ w4.heap.size = w.heap.size + 1 + 1 := by omega
            have C11 := Lib.hid c11
            have C12 := Lib.hid c12
            have CP := Lib.hid cP
            have CB := Lib.hid cB
            clear c16 c19 c11 c12 cP cB
            go_region
            go_wp2
            go_roundw
            case rel => exact ⟨k + 1, by omega, by go_num, moreI_of CP.out C11.out C12.out CB.out b1 b2 b3 rfl rfl rfl rfl⟩
            case measure => simp [intOf]; omega
      · obtain rfl : k = n := by omega
        obtain ⟨_, _, r1, r2, r3, r4, _⟩ := HR.out
        go_wp2_with (go_at_call 21; refine (works_any _).mono ?_; rintro e w4 ⟨rfl, hb4⟩)
        go_ret
        exact ⟨rfl, r4.trans (hb4.mono r4.size)⟩

theorem walk (p : Prm) (v ab : Int) (hv : (Lit.int .i64 v).wf = true) (hab : (Lit.int .u16 ab).wf = true) (a3 : Option Addr) (c3 : Nat) (xs : List Int) (hm3 : xs.length ≤ 9223372036854775807) (hx : ∀ z ∈ xs, (Lit.int .i32 z).wf = true) (a4 : Option Addr) (c4 : Nat) (ys : List Int) (hm4 : ys.length ≤ 9223372036854775807) (hy : ∀ z ∈ ys, (Lit.int .u16 z).wf = true) (w : World)
    (hI : KAt .i32 w (.slice a3 xs.length c3) xs) (hJ : KAt .u16 w (.slice a4 ys.length c4) ys) :
    Calls Try.prog 10 #[.agg #[.int .i64 p.lk, .int .i64 p.lv, .int .i64 p.bi, .int .i64 p.th, .int .i64 p.rk, .int .i64 p.rs, .int .i64 p.fl, .int .i64 p.re], .int .i64 v, .int .u16 ab, .slice a3 xs.length c3, .slice a4 ys.length c4] w fun e w' => e = .returned (.bool true) ∧ Below w.heap.size w w' := by
  have hab' : 0 ≤ ab ∧ ab ≤ 65535 := by
    simp only [Lit.wf, Bool.and_eq_true, decide_eq_true_eq] at hab; exact hab
  by_cases h1 : 1000 < xs.length
  · exact out p v ab a3 a4 _ c3 _ c4 (Or.inl h1) w
  by_cases h2 : 1048576 < v ∨ v < -1048576
  · exact out p v ab a3 a4 _ c3 _ c4 (Or.inr ⟨by omega, h2⟩) w
  by_cases h3 : validP p v 0 = 0 ∧ validP p (v + ab) 0 = 0
  · exact ok p v ab a3 a4 _ c3 _ c4 xs ys rfl rfl (fun z hz => by have := hx z hz; simp only [Lit.wf, Bool.and_eq_true, decide_eq_true_eq] at this; exact this) (fun z hz => by have := hy z hz; simp only [Lit.wf, Bool.and_eq_true, decide_eq_true_eq] at this; exact this) (by omega) hm4 (by omega) (by omega) hab'.1 hab'.2 h3.1 h3.2 w hI hJ
  · refine inv p v ab a3 a4 _ c3 _ c4 (by omega) (by omega) (by omega) hab'.1 hab'.2 ?_ w
    by_cases h4 : validP p v 0 = 0
    · right; exact ⟨h4, fun h5 => h3 ⟨h4, h5⟩⟩
    · left; exact h4

set_option maxRecDepth 100000 in
theorem lifted (os : Os) (started : os.Started) (H : Type) (enc : TypeId × Value → H) :
    ReturnsInHanded {} Try.checked os 10 .any (Rows.neuronMoreSpec.pre6 enc Try.prog Try.f10 Rows.neuronMoreRow.domain false) (Rows.neuronMoreSpec.post enc Try.prog Try.f10 false true false false) := by
  refine returnsInHanded_of_change (C := Try.checked) own started (by kernel_rfl) Try.func10
    (ChangeSpec.witness6 (enc := enc) (C := Try.checked) false ⟨#[], #[.agg #[.int .i64 0, .int .i64 0, .int .i64 0, .int .i64 0, .int .i64 0, .int .i64 0, .int .i64 0, .int .i64 0], .int .i64 0, .int .u16 0, .slice none 0 0, .slice none 0 0], []⟩ 8 (by kernel_rfl) (by kernel_rfl) (by kernel_rfl) (by kernel_rfl)) ?_
  intro W base args ds gs before hval0 hW hcnd hsz
  have hval : ∀ (j : Nat) t v, Try.f10.params[j]? = some t → args[j]? = some v → Value.okWide Try.prog W .any base t v := hval0
  have hW' := hW
  obtain ⟨p, q, hA0, hV, rfl, hfz, hnd⟩ := hW
  have hA : DataW.TrodAll enc Try.prog W 0 (fun _ => true) true Try.f10.params.toList args.toList ds p := hA0
  rw [Try.params10] at hA hval
  have hAll := hA
  obtain ⟨v0, vs0, d0, ds0, p0, q0, hargs, rfl, rfl, h0, r0⟩ := trodAll_cons hA
  obtain ⟨v1, vs1, d1, ds1, p1, q1, rfl, rfl, rfl, h1, r1⟩ := trodAll_cons r0
  obtain ⟨v2, vs2, d2, ds2, p2, q2, rfl, rfl, rfl, h2, r2⟩ := trodAll_cons r1
  obtain ⟨v3, vs3, d3, ds3, p3, q3, rfl, rfl, rfl, h3, r3⟩ := trodAll_cons r2
  obtain ⟨v4, vs4, d4, ds4, p4, q4, rfl, rfl, rfl, h4, r4⟩ := trodAll_cons r3
  obtain ⟨rfl, rfl, rfl⟩ := trodAll_nil r4
  obtain rfl : args = #[v0, v1, v2, v3, v4] := by cases args; simp_all
  obtain ⟨rfl, rfl⟩ := trodVars_none hV
  obtain ⟨x0, rfl⟩ := open_prm (hval 0 23 v0 rfl rfl) h0
  obtain ⟨a1, rfl, rfl, rfl, w1⟩ := open_int Try.underlying3 (hval 1 3 v1 rfl rfl) h1
  obtain ⟨a2, rfl, rfl, rfl, w2⟩ := open_int Try.underlying50 (hval 2 50 v2 rfl rfl) h2
  obtain ⟨sa3, sn3, sc3, zs3, rfl, hl3, hi3, hm3, hw3⟩ := open_slice_k Try.underlying51 Try.underlying21 (by kernel_rfl) (hval 3 51 v3 rfl rfl) h3
  subst hl3
  obtain ⟨sa4, sn4, sc4, zs4, rfl, hl4, hi4, hm4, hw4⟩ := open_slice_k Try.underlying52 Try.underlying50 (by kernel_rfl) (hval 4 52 v4 rfl rfl) h4
  subst hl4
  clear hA0 hval0
  refine (walk x0 a1 a2 w1 w2 sa3 sc3 zs3 hm3 hw3 sa4 sc4 zs4 hm4 hw4 W hi3 hi4).mono fun e W' ⟨he, bel⟩ => ?_
  subst he
  have hback := trodAll_below bel [23, 3, 50, 51, 52] (by intro t ht; simp at ht; rcases ht with rfl | rfl | rfl | rfl | rfl <;> exact ⟨by kernel_rfl, of_decide_eq_true (by kernel_rfl)⟩) hAll
  exact ⟨_, rfl, _, _, _, [], _, [], hW', trodAll_mk1 (shut_bool Try.underlying4 _), hback, rfl, bel.frame _, fun h => by cases h⟩

theorem over : Rows.neuronMoreRow.holds Try.pinned (OpenSpec.ofChange Rows.neuronMoreSpec) :=
  OpenClaim.holds_of_wide 10 Try.f10 rfl rfl rfl rfl rfl rfl rfl ⟨rfl, rfl, rfl, rfl, rfl⟩ rfl rfl rfl rfl rfl (by kernel_rfl) Try.func10 (by kernel_rfl)
    (of_decide_eq_true (by kernel_rfl)) (by unfold Func.isWrapper; first | (rw [if_pos (by decide +kernel)]; kernel_rfl) | (rw [if_neg (by decide +kernel)]; exact ⟨rfl, rfl⟩))
    (fun os started H enc _ => lifted os started H enc)

theorem proved : Rows.NeuronMoreSaid := over

end Go.Proofs.Ytkpabecnimakpaa.neuronMore
