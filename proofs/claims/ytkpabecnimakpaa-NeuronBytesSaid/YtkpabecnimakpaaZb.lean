/- The specification's Unpack; both with an error. -/
import Derived.Test.YtkpabecnimakpaaZm
import Derived.Test.YtkpabecnimakpaaDw
namespace Go.Proofs.Ytkpabecnimakpaa
set_option linter.unusedVariables false
open Go.RowKit

theorem getD_set_ne'' {L : Array Bool} {i j : Nat} (h : i ≠ j) : (L.setIfInBounds i true).getD j false = L.getD j false := by
  simp only [Array.getD_eq_getD_getElem?]; rw [Array.getElem?_setIfInBounds_ne h]

theorem cons_of {α : Type} {l : List α} {n : Nat} (h : l.length = n + 1) : ∃ a r, l = a :: r ∧ r.length = n := by
  cases l with
  | nil => simp at h
  | cons a r => exact ⟨a, r, rfl, by simpa using h⟩
theorem arr48 {L : Array Value} (h : L.size = 48) : ∃ t0 t1 t2 t3 t4 t5 t6 t7 t8 t9 t10 t11 t12 t13 t14 t15 t16 t17 t18 t19 t20 t21 t22 t23 t24 t25 t26 t27 t28 t29 t30 t31 t32 t33 t34 t35 t36 t37 t38 t39 t40 t41 t42 t43 t44 t45 t46 t47, L = #[t0, t1, t2, t3, t4, t5, t6, t7, t8, t9, t10, t11, t12, t13, t14, t15, t16, t17, t18, t19, t20, t21, t22, t23, t24, t25, t26, t27, t28, t29, t30, t31, t32, t33, t34, t35, t36, t37, t38, t39, t40, t41, t42, t43, t44, t45, t46, t47] := by
  obtain ⟨l⟩ := L
  have h0 : l.length = 48 := h
  clear h
  obtain ⟨t0, l0, rfl, g0⟩ := cons_of h0
  obtain ⟨t1, l1, rfl, g1⟩ := cons_of g0
  obtain ⟨t2, l2, rfl, g2⟩ := cons_of g1
  obtain ⟨t3, l3, rfl, g3⟩ := cons_of g2
  obtain ⟨t4, l4, rfl, g4⟩ := cons_of g3
  obtain ⟨t5, l5, rfl, g5⟩ := cons_of g4
  obtain ⟨t6, l6, rfl, g6⟩ := cons_of g5
  obtain ⟨t7, l7, rfl, g7⟩ := cons_of g6
  obtain ⟨t8, l8, rfl, g8⟩ := cons_of g7
  obtain ⟨t9, l9, rfl, g9⟩ := cons_of g8
  obtain ⟨t10, l10, rfl, g10⟩ := cons_of g9
  obtain ⟨t11, l11, rfl, g11⟩ := cons_of g10
  obtain ⟨t12, l12, rfl, g12⟩ := cons_of g11
  obtain ⟨t13, l13, rfl, g13⟩ := cons_of g12
  obtain ⟨t14, l14, rfl, g14⟩ := cons_of g13
  obtain ⟨t15, l15, rfl, g15⟩ := cons_of g14
  obtain ⟨t16, l16, rfl, g16⟩ := cons_of g15
  obtain ⟨t17, l17, rfl, g17⟩ := cons_of g16
  obtain ⟨t18, l18, rfl, g18⟩ := cons_of g17
  obtain ⟨t19, l19, rfl, g19⟩ := cons_of g18
  obtain ⟨t20, l20, rfl, g20⟩ := cons_of g19
  obtain ⟨t21, l21, rfl, g21⟩ := cons_of g20
  obtain ⟨t22, l22, rfl, g22⟩ := cons_of g21
  obtain ⟨t23, l23, rfl, g23⟩ := cons_of g22
  obtain ⟨t24, l24, rfl, g24⟩ := cons_of g23
  obtain ⟨t25, l25, rfl, g25⟩ := cons_of g24
  obtain ⟨t26, l26, rfl, g26⟩ := cons_of g25
  obtain ⟨t27, l27, rfl, g27⟩ := cons_of g26
  obtain ⟨t28, l28, rfl, g28⟩ := cons_of g27
  obtain ⟨t29, l29, rfl, g29⟩ := cons_of g28
  obtain ⟨t30, l30, rfl, g30⟩ := cons_of g29
  obtain ⟨t31, l31, rfl, g31⟩ := cons_of g30
  obtain ⟨t32, l32, rfl, g32⟩ := cons_of g31
  obtain ⟨t33, l33, rfl, g33⟩ := cons_of g32
  obtain ⟨t34, l34, rfl, g34⟩ := cons_of g33
  obtain ⟨t35, l35, rfl, g35⟩ := cons_of g34
  obtain ⟨t36, l36, rfl, g36⟩ := cons_of g35
  obtain ⟨t37, l37, rfl, g37⟩ := cons_of g36
  obtain ⟨t38, l38, rfl, g38⟩ := cons_of g37
  obtain ⟨t39, l39, rfl, g39⟩ := cons_of g38
  obtain ⟨t40, l40, rfl, g40⟩ := cons_of g39
  obtain ⟨t41, l41, rfl, g41⟩ := cons_of g40
  obtain ⟨t42, l42, rfl, g42⟩ := cons_of g41
  obtain ⟨t43, l43, rfl, g43⟩ := cons_of g42
  obtain ⟨t44, l44, rfl, g44⟩ := cons_of g43
  obtain ⟨t45, l45, rfl, g45⟩ := cons_of g44
  obtain ⟨t46, l46, rfl, g46⟩ := cons_of g45
  obtain ⟨t47, l47, rfl, g47⟩ := cons_of g46
  obtain rfl : l47 = [] := List.eq_nil_of_length_eq_zero g47
  exact ⟨t0, t1, t2, t3, t4, t5, t6, t7, t8, t9, t10, t11, t12, t13, t14, t15, t16, t17, t18, t19, t20, t21, t22, t23, t24, t25, t26, t27, t28, t29, t30, t31, t32, t33, t34, t35, t36, t37, t38, t39, t40, t41, t42, t43, t44, t45, t46, t47, rfl⟩

/-- The values of the region that reads a neuron out of 17 bytes. -/
def upV (S : Value) (bx off cap N : Nat) (x y r1 r2 r3 r5 r6 : Int) : Nat → Value
  | 0 => S
  | 1 => .pointer (some ⟨bx, off, none⟩)
  | 2 => .int .u8 x
  | 3 => .int .i64 x
  | 4 => .int .i64 (x % 4)
  | 5 => S
  | 6 => .slice (some ⟨bx, off + 1, none⟩) 16 (cap - 1)
  | 7 => .int .i64 r1
  | 8 => S
  | 9 => .slice (some ⟨bx, off + 4, none⟩) 13 (cap - 4)
  | 10 => .int .i64 r2
  | 11 => S
  | 12 => .slice (some ⟨bx, off + 7, none⟩) 10 (cap - 7)
  | 13 => .int .i64 r3
  | 14 => S
  | 15 => .pointer (some ⟨bx, off, none⟩)
  | 16 => .int .u8 x
  | 17 => .int .i64 x
  | 18 => .int .i64 (x / 4)
  | 19 => S
  | 20 => .slice (some ⟨bx, off + 10, none⟩) 7 (cap - 10)
  | 21 => .int .i64 r5
  | 22 => S
  | 23 => .slice (some ⟨bx, off + 13, none⟩) 4 (cap - 13)
  | 24 => .int .i64 r6
  | 25 => S
  | 26 => .pointer (some ⟨bx, off + 16, none⟩)
  | 27 => .int .u8 y
  | 28 => .int .i64 y
  | 29 => .agg #[.int .i64 (x % 4), .int .i64 r1, .int .i64 r2, .int .i64 r3, .int .i64 (x / 4), .int .i64 r5, .int .i64 r6, .int .i64 y]
  | 30 => .pointer (some ⟨N, 0, none⟩)
  | _ => undef
/-- The world inside that region. -/
structure UpS (W0 : World) (cs : Array Value) (L : Array Bool) (W : World) : Prop where
  other : ∀ b, b < W0.heap.size → W.heap[b]? = W0.heap[b]?
  size : W.heap.size = if L.getD 30 false = true then W0.heap.size + 1 else W0.heap.size
  blk : L.getD 30 false = true → W.heap[W0.heap.size]? = some (.cells (if L.getD 31 false = true then cs else zero8) 23)
  os : W.os = W0.os
  tape : W.tape = W0.tape
  output : W.output = W0.output
  dep : L.getD 31 false = true → L.getD 30 false = true
theorem UpS.skip {W0 W : World} {cs : Array Value} {L : Array Bool} (h : UpS W0 cs L W) (i : Nat) (hi : i < 30) (q : Nat) : UpS W0 cs (L.setIfInBounds i true) (W.drewN q) := by
  obtain ⟨h1, h2, h3, h4, h5, h6, h7⟩ := h
  exact ⟨h1, by rw [getD_set_ne'' (by omega)]; exact h2, by rw [getD_set_ne'' (by omega), getD_set_ne'' (by omega)]; exact h3, h4, h5, h6, by rw [getD_set_ne'' (by omega), getD_set_ne'' (by omega)]; exact h7⟩

set_option maxRecDepth 100000 in
set_option maxHeartbeats 1000000 in
theorem runpack_17 (bx off cap : Nat) (L : List Int) (hL : L.length = 17) (hcap : 17 ≤ cap) (hb : ∀ j, j < 17 → 0 ≤ L[j]?.getD 0 ∧ L[j]?.getD 0 ≤ 255) (w : World) (hc : ∀ j, j < 17 → w.cell? ⟨bx, off + j, none⟩ = some (.int .u8 (L[j]?.getD 0))) :
    Calls Try.prog 36 #[.slice (some ⟨bx, off, none⟩) 17 cap] w (Unp L w) := by
  have hbx : bx < w.heap.size := World.block_lt_of_cell? w _ (hc 0 (by omega))
  obtain ⟨x, hx⟩ : ∃ x, x = L[0]?.getD 0 := ⟨_, rfl⟩
  have c0 := hc 0 (by omega)
  rw [← hx, Nat.add_zero] at c0
  have x0 := (hb 0 (by omega)).1
  have x1 := (hb 0 (by omega)).2
  rw [← hx] at x0 x1
  obtain ⟨y, hy⟩ : ∃ y, y = L[16]?.getD 0 := ⟨_, rfl⟩
  have c16 := hc 16 (by omega)
  rw [← hy] at c16
  have y0 : 0 ≤ y := by rw [hy]; exact (hb 16 (by omega)).1
  have y1 : y ≤ 255 := by rw [hy]; exact (hb 16 (by omega)).2
  have HX := Lib.hid hx
  have HY := Lib.hid hy
  have HB := Lib.hid hb
  have HC := Lib.hid hc
  have HL := Lib.hid hL
  have n1 : (cap = 1) = False := by simp; omega
  have n4 : (cap = 4) = False := by simp; omega
  have n7 : (cap = 7) = False := by simp; omega
  have n10 : (cap = 10) = False := by simp; omega
  have n13 : (cap = 13) = False := by simp; omega
  have n17 : 17 ≤ cap := hcap
  clear hx hb hc hy hL
  go_enter Try.func36, Try.ntmps36
  go_wp2_with fail
  have N0 : w.heap.size < (w.alloc (.cells zero8 23)).heap.size := by simp
  generalize hW0 : w.alloc (.cells #[.int .i64 0, .int .i64 0, .int .i64 0, .int .i64 0, .int .i64 0, .int .i64 0, .int .i64 0, .int .i64 0] 23) = W0
  have HW0 := Lib.hid hW0
  clear hW0
  obtain ⟨r1, hr1⟩ : ∃ r, r = num3 (L[1]?.getD 0) (L[2]?.getD 0) (L[3]?.getD 0) := ⟨_, rfl⟩
  have Hr1 := Lib.hid hr1
  clear hr1
  obtain ⟨r2, hr2⟩ : ∃ r, r = num3 (L[4]?.getD 0) (L[5]?.getD 0) (L[6]?.getD 0) := ⟨_, rfl⟩
  have Hr2 := Lib.hid hr2
  clear hr2
  obtain ⟨r3, hr3⟩ : ∃ r, r = num3 (L[7]?.getD 0) (L[8]?.getD 0) (L[9]?.getD 0) := ⟨_, rfl⟩
  have Hr3 := Lib.hid hr3
  clear hr3
  obtain ⟨r5, hr5⟩ : ∃ r, r = num3 (L[10]?.getD 0) (L[11]?.getD 0) (L[12]?.getD 0) := ⟨_, rfl⟩
  have Hr5 := Lib.hid hr5
  clear hr5
  obtain ⟨r6, hr6⟩ : ∃ r, r = num3 (L[13]?.getD 0) (L[14]?.getD 0) (L[15]?.getD 0) := ⟨_, rfl⟩
  have Hr6 := Lib.hid hr6
  clear hr6
  refine wp_region_vals' (upV (.slice (some ⟨bx, off, none⟩) 17 cap) bx off cap W0.heap.size x y r1 r2 r3 r5 r6) (UpS W0 #[.int .i64 (x % 4), .int .i64 r1, .int .i64 r2, .int .i64 r3, .int .i64 (x / 4), .int .i64 r5, .int .i64 r6, .int .i64 y]) (by kernel_rfl) (by kernel_rfl) (by kernel_rfl) (by kernel_rfl) ?ini ?stp ?dn
  case ini => exact ⟨fun _ _ => rfl, by simp, fun h => by simp at h, rfl, rfl, rfl, fun h => by simp at h⟩
  case dn =>
    intro W b hI hh hbs
    obtain ⟨tm, df⟩ := b
    have hdf := hh.defers
    simp only at hdf hbs
    subst hdf
    have q4 := hh.got 30 _ 4 rfl rfl trivial (by simp)
    have q2 := hh.kept 2 (by simp)
    simp [upV] at q4 q2
    have hsz : W.heap.size = W0.heap.size + 1 := by rw [hI.size]; simp
    have hblk := hI.blk (by simp)
    rw [if_pos (by simp)] at hblk
    have hBW : Below w.heap.size w W := by
      have h0 : Below w.heap.size w W0 := by rw [← HW0.out]; exact (Below.refl _ _).alloc (Nat.le_refl _) _
      exact h0.trans (show Below w.heap.size W0 W from ⟨hI.os, hI.tape, hI.output, by omega, fun b hb => hI.other b (by rw [← HW0.out]; simp; omega)⟩)
    have r0 : W.heap[w.heap.size]? = some (.cells #[.int .i64 0, .int .i64 0, .int .i64 0, .int .i64 0, .int .i64 0, .int .i64 0, .int .i64 0, .int .i64 0] 23) := by
      rw [hI.other _ (by rw [← HW0.out]; simp), ← HW0.out]; exact World.alloc_heap_new _ _
    clear hI hh
    obtain ⟨t0, t1, t2, t3, t4, t5, t6, t7, t8, t9, t10, t11, t12, t13, t14, t15, t16, t17, t18, t19, t20, t21, t22, t23, t24, t25, t26, t27, t28, t29, t30, t31, t32, t33, t34, t35, t36, t37, t38, t39, t40, t41, t42, t43, t44, t45, t46, t47, rfl⟩ := arr48 (by simpa using hbs)
    simp at q4 q2
    subst q4 q2
    clear hbs
    obtain ⟨_, _, _, _, _, _, _, _⟩ := cells8 hblk
    have hq : unP L = ⟨x % 4, r1, r2, r3, x / 4, r5, r6, y⟩ := by
      unfold unP; rw [← HX.out, ← Hr1.out, ← Hr2.out, ← Hr3.out, ← Hr5.out, ← Hr6.out, ← HY.out]
    obtain ⟨ce, hce⟩ : ∃ ce, ce = checkP (unP L) := ⟨_, rfl⟩
    have hce' : checkP ⟨x % 4, r1, r2, r3, x / 4, r5, r6, y⟩ = ce := by rw [hce, hq]
    have HQ := Lib.hid hq
    have HCE := Lib.hid hce
    have HCE' := Lib.hid hce'
    have HBW := Lib.hid hBW
    have R0 := Lib.hid r0
    have HBK := Lib.hid hblk
    have hzW : w.heap.size < W.heap.size := lt_of_block r0
    clear hq hce hce' hBW r0 hblk c0 c16 hsz
    go_wp2_with fail
    go_at_call 18
    refine (rcheck_any ⟨x % 4, r1, r2, r3, x / 4, r5, r6, y⟩ _).mono ?_
    rintro e w9 ⟨rfl, hb9⟩
    rw [HCE'.out]
    have hz9 := hb9.size
    obtain ⟨_, _, _, _, _, _, _, _⟩ := cells8 ((hb9.block _ (lt_of_block HBK.out)).trans HBK.out)
    have r9 := (hb9.block _ hzW).trans R0.out
    obtain ⟨_, _, _, _, _, _, _, _⟩ := cells8 r9
    obtain ⟨_, _, _, _, _, _, _, _⟩ := frozen8 r9
    have B9 := Lib.hid (HBW.out.trans (hb9.mono HBW.out.size))
    have R9 := Lib.hid r9
    clear hb9 r9
    by_cases hcz : ce = 0
    · have g1 : (ce != 0) = false := by simp [hcz]
      have hF : unF L = (unP L, 0) := by unfold unF; rw [if_neg (by rw [HL.out]; omega), if_neg (by rw [HL.out]; omega), if_pos (by rw [← HCE.out]; exact hcz)]
      have HF := Lib.hid hF
      clear hF hcz
      go_wp2_with fail
      obtain ⟨y8, b8⟩ := set8 R9.out B9.out (Nat.le_refl _) (.int .i64 (x % 4)) (.int .i64 r1) (.int .i64 r2) (.int .i64 r3) (.int .i64 (x / 4)) (.int .i64 r5) (.int .i64 r6) (.int .i64 y)
      obtain ⟨z0, z1, z2, z3, z4, z5, z6, z7⟩ := cells8 y8
      refine bodyPost_ret (v := .tuple #[.agg #[.int .i64 (x % 4), .int .i64 r1, .int .i64 r2, .int .i64 r3, .int .i64 (x / 4), .int .i64 r5, .int .i64 r6, .int .i64 y], .int .i64 0]) (by simp [results, Try.results36, go_sem, z0, z1, z2, z3, z4, z5, z6, z7]) rfl ⟨?_, b8⟩
      rw [HF.out, HQ.out]; rfl
    · have g1 : (ce != 0) = true := by simp [hcz]
      have hF : unF L = (zeroP, 7) := by unfold unF; rw [if_neg (by rw [HL.out]; omega), if_neg (by rw [HL.out]; omega), if_neg (by rw [← HCE.out]; exact hcz)]
      have HF := Lib.hid hF
      clear hF hcz
      go_wp2_with fail
      obtain ⟨y8, b8⟩ := set8 R9.out B9.out (Nat.le_refl _) (.int .i64 0) (.int .i64 0) (.int .i64 0) (.int .i64 0) (.int .i64 0) (.int .i64 0) (.int .i64 0) (.int .i64 0)
      obtain ⟨z0, z1, z2, z3, z4, z5, z6, z7⟩ := cells8 y8
      refine bodyPost_ret (v := .tuple #[.agg #[.int .i64 0, .int .i64 0, .int .i64 0, .int .i64 0, .int .i64 0, .int .i64 0, .int .i64 0, .int .i64 0], .int .i64 7]) (by simp [results, Try.results36, go_sem, z0, z1, z2, z3, z4, z5, z6, z7]) rfl ⟨?_, b8⟩
      rw [HF.out]; rfl
  case stp =>
    intro L' W i o b hs ho hlF hd hI hh
    have hi := (List.getElem?_eq_some_iff.1 ho).1
    have hc : i = 0 ∨ i = 1 ∨ i = 2 ∨ i = 3 ∨ i = 4 ∨ i = 5 ∨ i = 6 ∨ i = 7 ∨ i = 8 ∨ i = 9 ∨ i = 10 ∨ i = 11 ∨ i = 12 ∨ i = 13 ∨ i = 14 ∨ i = 15 ∨ i = 16 ∨ i = 17 ∨ i = 18 ∨ i = 19 ∨ i = 20 ∨ i = 21 ∨ i = 22 ∨ i = 23 ∨ i = 24 ∨ i = 25 ∨ i = 26 ∨ i = 27 ∨ i = 28 ∨ i = 29 ∨ i = 30 ∨ i = 31 := by simp at hi; omega
    have hcc : ∀ j, j < 17 → W.cell? ⟨bx, off + j, none⟩ = some (.int .u8 (L[j]?.getD 0)) := fun j hj => by
      rw [← HC.out j hj]
      have := (hI.other bx (by rw [← HW0.out]; simp; omega))
      rw [← HW0.out] at this
      exact World.cell?_of_block (this.trans (Below.heap_alloc _ _ _ hbx))
    have d0 : W.cell? ⟨bx, off, none⟩ = some (.int .u8 x) := by have := hcc 0 (by omega); rw [← HX.out] at this; exact this
    have d16 : W.cell? ⟨bx, off + 16, none⟩ = some (.int .u8 y) := by have := hcc 16 (by omega); rw [← HY.out] at this; exact this
    have ew1 : x.tmod 4 = x % 4 := Int.tmod_eq_emod_of_nonneg x0
    have ew2 : x.tdiv 4 = x / 4 := Int.tdiv_eq_ediv_of_nonneg x0
    have ew3 : IntKind.i64.wrap x = x := by simp [IntKind.wrap, IntKind.bits, IntKind.signed]; split <;> omega
    have ew4 : IntKind.i64.wrap y = y := by simp [IntKind.wrap, IntKind.bits, IntKind.signed]; split <;> omega
    have ew5 : IntKind.i64.wrap (x / 4) = x / 4 := by simp [IntKind.wrap, IntKind.bits, IntKind.signed]; split <;> omega
    have HCC := Lib.hid hcc
    have HI := Lib.hid hI
    have HLF := Lib.hid hlF
    have HD := Lib.hid hd
    have hs' : 31 < L'.size := by simp at hs; omega
    clear hi hs hI hcc hlF hd c0 c16
    rcases hc with rfl | rfl | rfl | rfl | rfl | rfl | rfl | rfl | rfl | rfl | rfl | rfl | rfl | rfl | rfl | rfl | rfl | rfl | rfl | rfl | rfl | rfl | rfl | rfl | rfl | rfl | rfl | rfl | rfl | rfl | rfl | rfl
    · simp only [List.getElem?_cons_zero, Option.some.injEq] at ho
      subst ho
      have k0 := hh.kept 0 (by simp)
      simp at k0
      go_simp
      exact ⟨rfl, HI.out.skip 0 (by omega) 0⟩
    · simp only [List.getElem?_cons_zero, List.getElem?_cons_succ, Option.some.injEq] at ho
      subst ho
      have g0 := hh.got 0 _ 13 rfl rfl ⟨⟨0, .data⟩, by simp, rfl, rfl⟩ (by simp)
      simp [upV] at g0
      go_simp
      exact ⟨rfl, HI.out.skip 1 (by omega) 0⟩
    · simp only [List.getElem?_cons_zero, List.getElem?_cons_succ, Option.some.injEq] at ho
      subst ho
      have g1 := hh.got 1 _ 14 rfl rfl ⟨⟨1, .data⟩, by simp, rfl, rfl⟩ (by simp)
      simp [upV] at g1
      go_simp
      exact ⟨rfl, HI.out.skip 2 (by omega) 0⟩
    · simp only [List.getElem?_cons_zero, List.getElem?_cons_succ, Option.some.injEq] at ho
      subst ho
      have g2 := hh.got 2 _ 15 rfl rfl ⟨⟨2, .data⟩, by simp, rfl, rfl⟩ (by simp)
      simp [upV] at g2
      go_simp
      exact ⟨rfl, HI.out.skip 3 (by omega) 0⟩
    · simp only [List.getElem?_cons_zero, List.getElem?_cons_succ, Option.some.injEq] at ho
      subst ho
      have g3 := hh.got 3 _ 16 rfl rfl ⟨⟨3, .data⟩, by simp, rfl, rfl⟩ (by simp)
      simp [upV] at g3
      go_simp
      exact ⟨rfl, HI.out.skip 4 (by omega) 0⟩
    · simp only [List.getElem?_cons_zero, List.getElem?_cons_succ, Option.some.injEq] at ho
      subst ho
      have k0 := hh.kept 0 (by simp)
      simp at k0
      go_simp
      exact ⟨rfl, HI.out.skip 5 (by omega) 0⟩
    · simp only [List.getElem?_cons_zero, List.getElem?_cons_succ, Option.some.injEq] at ho
      subst ho
      have g5 := hh.got 5 _ 18 rfl rfl ⟨⟨5, .data⟩, by simp, rfl, rfl⟩ (by simp)
      simp [upV] at g5
      go_simp
      exact ⟨rfl, HI.out.skip 6 (by omega) 0⟩
    · simp only [List.getElem?_cons_zero, List.getElem?_cons_succ, Option.some.injEq] at ho
      subst ho
      have g6 := hh.got 6 _ 19 rfl rfl ⟨⟨6, .data⟩, by simp, rfl, rfl⟩ (by simp)
      simp [upV] at g6
      go_simp
      refine (number_any bx (off + 1) 16 (cap - 1) _ _ _ (by omega) (HB.out 1 (by omega)) (HB.out 2 (by omega)) (HB.out 3 (by omega)) W (HCC.out 1 (by omega)) (HCC.out 2 (by omega)) (HCC.out 3 (by omega))).mono ?_
      rintro e w' ⟨rfl, q, rfl⟩
      exact ⟨by rw [← Hr1.out]; rfl, HI.out.skip 7 (by omega) q⟩
    · simp only [List.getElem?_cons_zero, List.getElem?_cons_succ, Option.some.injEq] at ho
      subst ho
      have k0 := hh.kept 0 (by simp)
      simp at k0
      go_simp
      exact ⟨rfl, HI.out.skip 8 (by omega) 0⟩
    · simp only [List.getElem?_cons_zero, List.getElem?_cons_succ, Option.some.injEq] at ho
      subst ho
      have g8 := hh.got 8 _ 21 rfl rfl ⟨⟨8, .data⟩, by simp, rfl, rfl⟩ (by simp)
      simp [upV] at g8
      go_simp
      exact ⟨rfl, HI.out.skip 9 (by omega) 0⟩
    · simp only [List.getElem?_cons_zero, List.getElem?_cons_succ, Option.some.injEq] at ho
      subst ho
      have g9 := hh.got 9 _ 22 rfl rfl ⟨⟨9, .data⟩, by simp, rfl, rfl⟩ (by simp)
      simp [upV] at g9
      go_simp
      refine (number_any bx (off + 4) 13 (cap - 4) _ _ _ (by omega) (HB.out 4 (by omega)) (HB.out 5 (by omega)) (HB.out 6 (by omega)) W (HCC.out 4 (by omega)) (HCC.out 5 (by omega)) (HCC.out 6 (by omega))).mono ?_
      rintro e w' ⟨rfl, q, rfl⟩
      exact ⟨by rw [← Hr2.out]; rfl, HI.out.skip 10 (by omega) q⟩
    · simp only [List.getElem?_cons_zero, List.getElem?_cons_succ, Option.some.injEq] at ho
      subst ho
      have k0 := hh.kept 0 (by simp)
      simp at k0
      go_simp
      exact ⟨rfl, HI.out.skip 11 (by omega) 0⟩
    · simp only [List.getElem?_cons_zero, List.getElem?_cons_succ, Option.some.injEq] at ho
      subst ho
      have g11 := hh.got 11 _ 24 rfl rfl ⟨⟨11, .data⟩, by simp, rfl, rfl⟩ (by simp)
      simp [upV] at g11
      go_simp
      exact ⟨rfl, HI.out.skip 12 (by omega) 0⟩
    · simp only [List.getElem?_cons_zero, List.getElem?_cons_succ, Option.some.injEq] at ho
      subst ho
      have g12 := hh.got 12 _ 25 rfl rfl ⟨⟨12, .data⟩, by simp, rfl, rfl⟩ (by simp)
      simp [upV] at g12
      go_simp
      refine (number_any bx (off + 7) 10 (cap - 7) _ _ _ (by omega) (HB.out 7 (by omega)) (HB.out 8 (by omega)) (HB.out 9 (by omega)) W (HCC.out 7 (by omega)) (HCC.out 8 (by omega)) (HCC.out 9 (by omega))).mono ?_
      rintro e w' ⟨rfl, q, rfl⟩
      exact ⟨by rw [← Hr3.out]; rfl, HI.out.skip 13 (by omega) q⟩
    · simp only [List.getElem?_cons_zero, List.getElem?_cons_succ, Option.some.injEq] at ho
      subst ho
      have k0 := hh.kept 0 (by simp)
      simp at k0
      go_simp
      exact ⟨rfl, HI.out.skip 14 (by omega) 0⟩
    · simp only [List.getElem?_cons_zero, List.getElem?_cons_succ, Option.some.injEq] at ho
      subst ho
      have g14 := hh.got 14 _ 27 rfl rfl ⟨⟨14, .data⟩, by simp, rfl, rfl⟩ (by simp)
      simp [upV] at g14
      go_simp
      exact ⟨rfl, HI.out.skip 15 (by omega) 0⟩
    · simp only [List.getElem?_cons_zero, List.getElem?_cons_succ, Option.some.injEq] at ho
      subst ho
      have g15 := hh.got 15 _ 28 rfl rfl ⟨⟨15, .data⟩, by simp, rfl, rfl⟩ (by simp)
      simp [upV] at g15
      go_simp
      exact ⟨rfl, HI.out.skip 16 (by omega) 0⟩
    · simp only [List.getElem?_cons_zero, List.getElem?_cons_succ, Option.some.injEq] at ho
      subst ho
      have g16 := hh.got 16 _ 29 rfl rfl ⟨⟨16, .data⟩, by simp, rfl, rfl⟩ (by simp)
      simp [upV] at g16
      go_simp
      exact ⟨rfl, HI.out.skip 17 (by omega) 0⟩
    · simp only [List.getElem?_cons_zero, List.getElem?_cons_succ, Option.some.injEq] at ho
      subst ho
      have g17 := hh.got 17 _ 30 rfl rfl ⟨⟨17, .data⟩, by simp, rfl, rfl⟩ (by simp)
      simp [upV] at g17
      go_simp
      exact ⟨rfl, HI.out.skip 18 (by omega) 0⟩
    · simp only [List.getElem?_cons_zero, List.getElem?_cons_succ, Option.some.injEq] at ho
      subst ho
      have k0 := hh.kept 0 (by simp)
      simp at k0
      go_simp
      exact ⟨rfl, HI.out.skip 19 (by omega) 0⟩
    · simp only [List.getElem?_cons_zero, List.getElem?_cons_succ, Option.some.injEq] at ho
      subst ho
      have g19 := hh.got 19 _ 32 rfl rfl ⟨⟨19, .data⟩, by simp, rfl, rfl⟩ (by simp)
      simp [upV] at g19
      go_simp
      exact ⟨rfl, HI.out.skip 20 (by omega) 0⟩
    · simp only [List.getElem?_cons_zero, List.getElem?_cons_succ, Option.some.injEq] at ho
      subst ho
      have g20 := hh.got 20 _ 33 rfl rfl ⟨⟨20, .data⟩, by simp, rfl, rfl⟩ (by simp)
      simp [upV] at g20
      go_simp
      refine (number_any bx (off + 10) 7 (cap - 10) _ _ _ (by omega) (HB.out 10 (by omega)) (HB.out 11 (by omega)) (HB.out 12 (by omega)) W (HCC.out 10 (by omega)) (HCC.out 11 (by omega)) (HCC.out 12 (by omega))).mono ?_
      rintro e w' ⟨rfl, q, rfl⟩
      exact ⟨by rw [← Hr5.out]; rfl, HI.out.skip 21 (by omega) q⟩
    · simp only [List.getElem?_cons_zero, List.getElem?_cons_succ, Option.some.injEq] at ho
      subst ho
      have k0 := hh.kept 0 (by simp)
      simp at k0
      go_simp
      exact ⟨rfl, HI.out.skip 22 (by omega) 0⟩
    · simp only [List.getElem?_cons_zero, List.getElem?_cons_succ, Option.some.injEq] at ho
      subst ho
      have g22 := hh.got 22 _ 35 rfl rfl ⟨⟨22, .data⟩, by simp, rfl, rfl⟩ (by simp)
      simp [upV] at g22
      go_simp
      exact ⟨rfl, HI.out.skip 23 (by omega) 0⟩
    · simp only [List.getElem?_cons_zero, List.getElem?_cons_succ, Option.some.injEq] at ho
      subst ho
      have g23 := hh.got 23 _ 36 rfl rfl ⟨⟨23, .data⟩, by simp, rfl, rfl⟩ (by simp)
      simp [upV] at g23
      go_simp
      refine (number_any bx (off + 13) 4 (cap - 13) _ _ _ (by omega) (HB.out 13 (by omega)) (HB.out 14 (by omega)) (HB.out 15 (by omega)) W (HCC.out 13 (by omega)) (HCC.out 14 (by omega)) (HCC.out 15 (by omega))).mono ?_
      rintro e w' ⟨rfl, q, rfl⟩
      exact ⟨by rw [← Hr6.out]; rfl, HI.out.skip 24 (by omega) q⟩
    · simp only [List.getElem?_cons_zero, List.getElem?_cons_succ, Option.some.injEq] at ho
      subst ho
      have k0 := hh.kept 0 (by simp)
      simp at k0
      go_simp
      exact ⟨rfl, HI.out.skip 25 (by omega) 0⟩
    · simp only [List.getElem?_cons_zero, List.getElem?_cons_succ, Option.some.injEq] at ho
      subst ho
      have g25 := hh.got 25 _ 38 rfl rfl ⟨⟨25, .data⟩, by simp, rfl, rfl⟩ (by simp)
      simp [upV] at g25
      go_simp
      exact ⟨rfl, HI.out.skip 26 (by omega) 0⟩
    · simp only [List.getElem?_cons_zero, List.getElem?_cons_succ, Option.some.injEq] at ho
      subst ho
      have g26 := hh.got 26 _ 39 rfl rfl ⟨⟨26, .data⟩, by simp, rfl, rfl⟩ (by simp)
      simp [upV] at g26
      go_simp
      exact ⟨rfl, HI.out.skip 27 (by omega) 0⟩
    · simp only [List.getElem?_cons_zero, List.getElem?_cons_succ, Option.some.injEq] at ho
      subst ho
      have g27 := hh.got 27 _ 40 rfl rfl ⟨⟨27, .data⟩, by simp, rfl, rfl⟩ (by simp)
      simp [upV] at g27
      go_simp
      exact ⟨rfl, HI.out.skip 28 (by omega) 0⟩
    · simp only [List.getElem?_cons_zero, List.getElem?_cons_succ, Option.some.injEq] at ho
      subst ho
      have g4 := hh.got 4 _ 17 rfl rfl ⟨⟨4, .data⟩, by simp, rfl, rfl⟩ (by simp)
      have g7 := hh.got 7 _ 20 rfl rfl ⟨⟨7, .data⟩, by simp, rfl, rfl⟩ (by simp)
      have g10 := hh.got 10 _ 23 rfl rfl ⟨⟨10, .data⟩, by simp, rfl, rfl⟩ (by simp)
      have g13 := hh.got 13 _ 26 rfl rfl ⟨⟨13, .data⟩, by simp, rfl, rfl⟩ (by simp)
      have g18 := hh.got 18 _ 31 rfl rfl ⟨⟨18, .data⟩, by simp, rfl, rfl⟩ (by simp)
      have g21 := hh.got 21 _ 34 rfl rfl ⟨⟨21, .data⟩, by simp, rfl, rfl⟩ (by simp)
      have g24 := hh.got 24 _ 37 rfl rfl ⟨⟨24, .data⟩, by simp, rfl, rfl⟩ (by simp)
      have g28 := hh.got 28 _ 41 rfl rfl ⟨⟨28, .data⟩, by simp, rfl, rfl⟩ (by simp)
      simp [upV] at g4 g7 g10 g13 g18 g21 g24 g28
      go_simp
      exact ⟨rfl, HI.out.skip 29 (by omega) 0⟩
    · simp only [List.getElem?_cons_zero, List.getElem?_cons_succ, Option.some.injEq] at ho
      subst ho
      have hI := HI.out
      have hN : W.heap.size = W0.heap.size := by rw [hI.size, if_neg (by rw [HLF.out]; simp)]
      go_simp
      refine ⟨rfl, ⟨fun b hb => (Below.heap_alloc _ _ _ (by omega)).trans (hI.other b hb), ?_, fun _ => ?_, hI.os, hI.tape, hI.output, fun _ => by simp; omega⟩⟩
      · have hs30 : 30 < L'.size := by omega
        simp [hN, hs30]
      · have h31 : (L'.setIfInBounds 30 true).getD 31 false = false := by
          rw [getD_set_ne'' (by omega)]
          by_cases h : L'.getD 31 false = true
          · exact absurd (hI.dep h) (by rw [HLF.out]; simp)
          · simpa using h
        rw [h31]
        exact alloc_new_at _ _ _ hN.symm
    · simp only [List.getElem?_cons_zero, List.getElem?_cons_succ, Option.some.injEq] at ho
      subst ho
      have g30 := hh.got 30 _ 4 rfl rfl ⟨⟨30, .data⟩, by simp, rfl, rfl⟩ (by simp)
      have g29 := hh.got 29 _ 42 rfl rfl ⟨⟨29, .data⟩, by simp, rfl, rfl⟩ (by simp)
      simp [upV] at g30 g29
      have hI := HI.out
      have h30 : L'.getD 30 false = true := HD.out ⟨30, .data⟩ (by simp) rfl
      have hb := hI.blk h30
      rw [HLF.out] at hb
      simp only [Bool.false_eq_true, if_false] at hb
      unfold zero8 at hb
      obtain ⟨_, _, _, _, _, _, _, _⟩ := cells8 hb
      obtain ⟨_, _, _, _, _, _, _, _⟩ := frozen8 hb
      obtain ⟨S8, B8⟩ := set8 (B := W0.heap.size) hb (Below.refl _ _) (Nat.le_refl _) (.int .i64 (x % 4)) (.int .i64 r1) (.int .i64 r2) (.int .i64 r3) (.int .i64 (x / 4)) (.int .i64 r5) (.int .i64 r6) (.int .i64 y)
      have S8 := Lib.hid S8
      have B8 := Lib.hid B8
      go_simp
      have hs31 : 31 < L'.size := by omega
      refine ⟨fun b hb => (B8.out.block b hb).trans (hI.other b hb), ?_, fun _ => ?_, B8.out.os.trans hI.os, B8.out.tape.trans hI.tape, B8.out.output.trans hI.output, fun _ => by rw [getD_set_ne'' (by omega)]; exact h30⟩
      · rw [getD_set_ne'' (by omega)]; simp [World.setCell]; simpa using hI.size
      · rw [S8.out]; simp [hs31]

set_option maxRecDepth 100000 in
set_option maxHeartbeats 1000000 in
theorem runpack_torn (a : Option Addr) (n cap : Nat) (hn : n < 17) (w : World) :
    Calls Try.prog 36 #[.slice a n cap] w fun e w' => e = .returned (.tuple #[agP zeroP, .int .i64 19]) ∧ Below w.heap.size w w' := by
  have g1 : ((n : Int) < 17) = True := by simp; omega
  go_enter Try.func36, Try.ntmps36
  go_wp2_with fail
  exact bodyPost_ret (v := .tuple #[.agg #[.int .i64 0, .int .i64 0, .int .i64 0, .int .i64 0, .int .i64 0, .int .i64 0, .int .i64 0, .int .i64 0], .int .i64 19]) (by simp [results, Try.results36, go_sem]) rfl ⟨rfl, (Below.refl _ _).alloc (Nat.le_refl _) _⟩
set_option maxRecDepth 100000 in
set_option maxHeartbeats 1000000 in
theorem runpack_long (a : Option Addr) (n cap : Nat) (hn : 17 < n) (w : World) :
    Calls Try.prog 36 #[.slice a n cap] w fun e w' => e = .returned (.tuple #[agP zeroP, .int .i64 8]) ∧ Below w.heap.size w w' := by
  have g1 : ((n : Int) < 17) = False := by simp; omega
  have g2 : ((17 : Int) < (n : Int)) = True := by simp; omega
  go_enter Try.func36, Try.ntmps36
  go_wp2_with fail
  exact bodyPost_ret (v := .tuple #[.agg #[.int .i64 0, .int .i64 0, .int .i64 0, .int .i64 0, .int .i64 0, .int .i64 0, .int .i64 0, .int .i64 0], .int .i64 8]) (by simp [results, Try.results36, go_sem]) rfl ⟨rfl, (Below.refl _ _).alloc (Nat.le_refl _) _⟩

theorem runpack_any (a : Option Addr) (cap : Nat) (L : List Int) (hb : ∀ z ∈ L, 0 ≤ z ∧ z ≤ 255) (hcap : L.length ≤ cap) (w : World) (h : KAt .u8 w (.slice a L.length cap) L) :
    Calls Try.prog 36 #[.slice a L.length cap] w (Unp L w) := by
  by_cases h1 : L.length < 17
  · refine (runpack_torn a _ cap h1 w).mono fun e w' ⟨he, hb⟩ => ⟨?_, hb⟩
    rw [he]; unfold unF; rw [if_pos h1]
  by_cases h2 : 17 < L.length
  · refine (runpack_long a _ cap h2 w).mono fun e w' ⟨he, hb⟩ => ⟨?_, hb⟩
    rw [he]; unfold unF; rw [if_neg h1, if_pos h2]
  have hL : L.length = 17 := by omega
  rcases h with ⟨_, rfl⟩ | ⟨b, off, cap', e, hc⟩
  · simp at hL
  · cases e
    rw [hL]
    refine runpack_17 b off cap L hL (by omega) (fun j hj => ?_) w (fun j hj => hc j (by omega))
    rw [List.getElem?_eq_getElem (by omega)]
    exact hb _ (List.getElem_mem _)
end Go.Proofs.Ytkpabecnimakpaa
