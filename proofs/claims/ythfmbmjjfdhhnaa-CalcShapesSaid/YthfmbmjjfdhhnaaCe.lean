/- Both Afters. (mk_Ce.py wrote this.) -/
import Derived.Test.YthfmbmjjfdhhnaaCd
namespace Go.Proofs.Ythfmbmjjfdhhnaa
set_option linter.unusedVariables false
open Go.RowKit

def afE (b r x : Int) : Int := if cE b r ≠ 0 then 3 else if inR x 0 1048576 = false then 3 else cE (b + r * x) r
def afB (b r x : Int) : Int := if afE b r x = 0 then b + r * x else 0
def afR (b r x : Int) : Int := if afE b r x = 0 then r else 0
theorem afE_or (b r x : Int) : afE b r x = 0 ∨ (afE b r x = 3 ∧ afB b r x = 0 ∧ afR b r x = 0) := by
  have h : afE b r x = 0 ∨ afE b r x = 3 := by
    unfold afE
    split
    · exact Or.inr rfl
    · split
      · exact Or.inr rfl
      · exact cE_or _ _
  rcases h with h | h
  · exact Or.inl h
  · exact Or.inr ⟨h, by simp [afB, h], by simp [afR, h]⟩
def AfterOut (b r x : Int) (w : World) (e : Ending) (w' : World) : Prop := e = .returned (.tuple #[.agg #[.int .i64 (afB b r x), .int .i64 (afR b r x)], .int .i64 (afE b r x)]) ∧ Below w.heap.size w w'
theorem after_bad {b r x : Int} (h : afE b r x = 3) {w w' : World} (hb : Below w.heap.size w w') : AfterOut b r x w (.returned (.tuple #[.agg #[.int .i64 0, .int .i64 0], .int .i64 3])) w' := by
  refine ⟨?_, hb⟩
  simp [afB, afR, h]
theorem after_all {b r x : Int} (h : afE b r x = 0) {w w' : World} (hb : Below w.heap.size w w') : AfterOut b r x w (.returned (.tuple #[.agg #[.int .i64 (b + r * x), .int .i64 r], .int .i64 0])) w' := by
  refine ⟨?_, hb⟩
  simp [afB, afR, h]
theorem after_good {b r x : Int} (h : afE b r x = cE (b + r * x) r) {w w' : World} (hb : Below w.heap.size w w') : AfterOut b r x w (.returned (.tuple #[.agg #[.int .i64 (ckB (b + r * x) r), .int .i64 (ckR (b + r * x) r)], .int .i64 (cE (b + r * x) r)])) w' := by
  refine ⟨?_, hb⟩
  simp only [afB, afR, h, ckB, ckR]

set_option maxRecDepth 100000 in
set_option maxHeartbeats 4000000 in
theorem after_any (b r x : Int) (w : World) : Calls Try.prog 12 #[.agg #[.int .i64 b, .int .i64 r], .int .i64 x] w (AfterOut b r x w) := by
  have hc1 : ∀ W, Calls Try.prog 24 #[.agg #[.int .i64 b, .int .i64 r]] W fun e w' => e = .returned (.int .i64 (cE b r)) ∧ Below W.heap.size W w' := fun W => check_any _ _ W
  rcases cE_or b r with h1 | h1
  · have k1 := cE_zero h1
    rw [h1] at hc1
    have H1 := Lib.hid hc1
    clear hc1
    cases hx : inR x 0 1048576 with
    | false =>
      have hE : afE b r x = 3 := by unfold afE; rw [if_neg (by omega), if_pos hx]
      have HE := Lib.hid hE
      clear hE
      go_enter Try.func12, Try.ntmps12
      go_wp2_with (first | (go_at_call 24; refine (H1.out _).mono ?_; rintro e w1 ⟨rfl, hb1⟩; have hx1 : CBox w1 (w.heap.size + 1) 27 0 0 := (hb1.block _ (by simp)).trans (blk2b _ _ _); have hx0 : CBox w1 w.heap.size 27 b r := (hb1.block _ (by simp <;> omega)).trans (blk2a _ _ _); obtain ⟨_, _, _, _⟩ := cells2 hx1; obtain ⟨_, _, _, _⟩ := cells2 hx0; have hz1 : w.heap.size + 1 < w1.heap.size := lt_of_block hx1; have hz10 : w.heap.size < w1.heap.size := by omega) | (go_at_call 28; refine (camong_any _ _ _ _).mono ?_; rintro e w9 ⟨rfl, rfl⟩; rw [hx]))
      have hS := cbox_set (a := 0) (b := 0) hx1
      have hB := (((below2 w _ _).trans (hb1.mono (by simp; omega))).setCell (p := ⟨w.heap.size + 1, 0, none⟩) (by simp) (.int .i64 (0))).setCell (p := ⟨w.heap.size + 1, 1, none⟩) (by simp) (.int .i64 (0))
      generalize (w1.setCell ⟨w.heap.size + 1, 0, none⟩ (.int .i64 (0))).setCell ⟨w.heap.size + 1, 1, none⟩ (.int .i64 (0)) = S at *
      obtain ⟨d0, d1, _, _⟩ := cells2 hS
      exact bodyPost_ret (v := .tuple #[.agg #[.int .i64 (0), .int .i64 (0)], .int .i64 3]) (by simp [results, Try.results12, go_sem, d0, d1]) rfl (after_bad HE.out hB)
    | true =>
      have hxr : 0 ≤ x ∧ x ≤ 1048576 := by simpa [inR] using hx
      have hm0 : 0 ≤ r * x := Int.mul_nonneg k1.2.2.1 hxr.1
      have hm1 : r * x ≤ 1073741824 := by
        have := Int.mul_le_mul k1.2.2.2 hxr.2 hxr.1 (by omega : (0 : Int) ≤ 1024)
        omega
      have hE : afE b r x = cE (b + r * x) r := by unfold afE; rw [if_neg (by omega), if_neg (by rw [hx]; simp)]
      have w1 : wrap64 (r * x) = r * x := by unfold wrap64; omega
      have w2 : wrap64 (b + r * x) = b + r * x := by unfold wrap64; omega
      have z1 : (x < 0) = False := by simp; omega
      have z2 : (1048576 < x) = False := by simp; omega
      have HE := Lib.hid hE
      clear hE
      have hadd : ∀ W g, W.heap[g]? = some (.cells #[.int .i64 b, .int .i64 r, .int .i64 (r * x), .int .i64 0] 27) → Calls Try.prog 26 #[.slice (some ⟨g, 0, none⟩) 2 2] W fun e w' => e = .returned (.agg #[.int .i64 (b + r * x), .int .i64 r]) ∧ Below W.heap.size W w' := fun W g hg => by
        have := add_any [⟨b, r⟩, ⟨r * x, 0⟩] (some ⟨g, 0, none⟩) 2 (by simp) (by intro c hc; simp at hc; rcases hc with rfl | rfl <;> simp <;> omega) W (Or.inr ⟨g, 0, 2, rfl, lt_of_block hg, fun k c hk => by
          match k, hk with
          | 0, hk => cases hk; exact ⟨by simp [World.cell?, hg], by simp [World.cell?, hg]⟩
          | 1, hk => cases hk; exact ⟨by simp [World.cell?, hg], by simp [World.cell?, hg]⟩
          | n + 2, hk => simp at hk⟩)
        simpa [sumB, sumR] using this
      have hchk : ∀ W, Calls Try.prog 25 #[.agg #[.int .i64 (b + r * x), .int .i64 r]] W fun e w' => e = .returned (.tuple #[.agg #[.int .i64 (ckB (b + r * x) r), .int .i64 (ckR (b + r * x) r)], .int .i64 (cE (b + r * x) r)]) ∧ Below W.heap.size W w' := fun W => checked_any _ _ W
      have hfin : ∀ w', Below w.heap.size w w' → AfterOut b r x w (.returned (.tuple #[.agg #[.int .i64 (ckB (b + r * x) r), .int .i64 (ckR (b + r * x) r)], .int .i64 (cE (b + r * x) r)])) w' := fun w' hb => after_good HE.out hb
      generalize ckB (b + r * x) r = X at *
      generalize ckR (b + r * x) r = Y at *
      generalize cE (b + r * x) r = Z at *
      have HA := Lib.hid hadd
      have HC := Lib.hid hchk
      have HF := Lib.hid hfin
      clear hadd hchk hfin HE
      go_enter Try.func12, Try.ntmps12
      go_upto_region 6 with (first | (go_at_call 24; refine (H1.out _).mono ?_; rintro e w1 ⟨rfl, hb1⟩; have hx1 : CBox w1 (w.heap.size + 1) 27 0 0 := (hb1.block _ (by simp)).trans (blk2b _ _ _); have hx0 : CBox w1 w.heap.size 27 b r := (hb1.block _ (by simp <;> omega)).trans (blk2a _ _ _); obtain ⟨_, _, _, _⟩ := cells2 hx1; obtain ⟨_, _, _, _⟩ := cells2 hx0; have hz1 : w.heap.size + 1 < w1.heap.size := lt_of_block hx1; have hz10 : w.heap.size < w1.heap.size := by omega) | (go_at_call 28; refine (camong_any _ _ _ _).mono ?_; rintro e w9 ⟨rfl, rfl⟩; rw [hx]))
      have hsl : (w1.alloc (.cells #[.int .i64 b, .int .i64 r, .int .i64 (r * x), .int .i64 0] 27)).heap[w1.heap.size]? = some (.cells #[.int .i64 b, .int .i64 r, .int .i64 (r * x), .int .i64 0] 27) := alloc_new_at _ _ _ rfl
      have hB1 : Below w.heap.size w w1 := (below2 w _ _).trans (hb1.mono (by simp; omega))
      clear hb1
      go_wp2_with (first | (go_at_call 26; refine (HA.out _ _ hsl).mono ?_; rintro e w3 ⟨rfl, hb3⟩) | (go_at_call 25; refine (HC.out _).mono ?_; rintro e w4 ⟨rfl, hb4⟩; have hB4 : Below w1.heap.size w1 w4 := ((Below.refl _ _).alloc (Nat.le_refl _) _).trans ((hb3.mono (by simp)).trans (hb4.mono (by have := hb3.size; simp at this; omega))); have hx4 : CBox w4 (w.heap.size + 1) 27 0 0 := (hB4.block _ hz1).trans hx1; obtain ⟨_, _, _, _⟩ := cells2 hx4; have hz4 : w.heap.size + 1 < w4.heap.size := lt_of_block hx4))
      have hS := cbox_set (a := X) (b := Y) hx4
      have hB := ((hB1.trans (hB4.mono (by omega))).setCell (p := ⟨w.heap.size + 1, 0, none⟩) (by simp) (.int .i64 (X))).setCell (p := ⟨w.heap.size + 1, 1, none⟩) (by simp) (.int .i64 (Y))
      generalize (w4.setCell ⟨w.heap.size + 1, 0, none⟩ (.int .i64 (X))).setCell ⟨w.heap.size + 1, 1, none⟩ (.int .i64 (Y)) = S at *
      obtain ⟨d0, d1, _, _⟩ := cells2 hS
      exact bodyPost_ret (v := .tuple #[.agg #[.int .i64 (X), .int .i64 (Y)], .int .i64 Z]) (by simp [results, Try.results12, go_sem, d0, d1]) rfl (HF.out _ hB)
  · rw [h1] at hc1
    have hE : afE b r x = 3 := by unfold afE; rw [if_pos (by omega)]
    have HE := Lib.hid hE
    have H1 := Lib.hid hc1
    clear hc1 hE h1
    go_enter Try.func12, Try.ntmps12
    go_wp2_with ((go_at_call 24; refine (H1.out _).mono ?_; rintro e w1 ⟨rfl, hb1⟩; have hx1 : CBox w1 (w.heap.size + 1) 27 0 0 := (hb1.block _ (by simp)).trans (blk2b _ _ _); have hx0 : CBox w1 w.heap.size 27 b r := (hb1.block _ (by simp <;> omega)).trans (blk2a _ _ _); obtain ⟨_, _, _, _⟩ := cells2 hx1; obtain ⟨_, _, _, _⟩ := cells2 hx0; have hz1 : w.heap.size + 1 < w1.heap.size := lt_of_block hx1; have hz10 : w.heap.size < w1.heap.size := by omega))
    have hS := cbox_set (a := 0) (b := 0) hx1
    have hB := (((below2 w _ _).trans (hb1.mono (by simp; omega))).setCell (p := ⟨w.heap.size + 1, 0, none⟩) (by simp) (.int .i64 (0))).setCell (p := ⟨w.heap.size + 1, 1, none⟩) (by simp) (.int .i64 (0))
    generalize (w1.setCell ⟨w.heap.size + 1, 0, none⟩ (.int .i64 (0))).setCell ⟨w.heap.size + 1, 1, none⟩ (.int .i64 (0)) = S at *
    obtain ⟨d0, d1, _, _⟩ := cells2 hS
    exact bodyPost_ret (v := .tuple #[.agg #[.int .i64 (0), .int .i64 (0)], .int .i64 3]) (by simp [results, Try.results12, go_sem, d0, d1]) rfl (after_bad HE.out hB)
set_option maxRecDepth 100000 in
set_option maxHeartbeats 4000000 in
theorem rafter_any (b r x : Int) (w : World) : Calls Try.prog 13 #[.agg #[.int .i64 b, .int .i64 r], .int .i64 x] w (AfterOut b r x w) := by
  have hc1 : ∀ W, Calls Try.prog 27 #[.agg #[.int .i64 b, .int .i64 r]] W fun e w' => e = .returned (.int .i64 (cE b r)) ∧ Below W.heap.size W w' := fun W => rcheck_any _ _ W
  rcases cE_or b r with h1 | h1
  · have k1 := cE_zero h1
    rw [h1] at hc1
    have H1 := Lib.hid hc1
    clear hc1
    cases hx : inR x 0 1048576 with
    | false =>
      have hE : afE b r x = 3 := by unfold afE; rw [if_neg (by omega), if_pos hx]
      have HE := Lib.hid hE
      clear hE
      have zx0 : (x < 0) = True ∨ ((x < 0) = False ∧ (1048576 < x) = True) := by
        simp [inR] at hx
        by_cases h : x < 0
        · left; simp [h]
        · right; exact ⟨by simp; omega, by simp; omega⟩
      clear hx
      rcases zx0 with z1 | ⟨z1, z2⟩
      · go_enter Try.func13, Try.ntmps13
        go_wp2_with ((go_at_call 27; refine (H1.out _).mono ?_; rintro e w1 ⟨rfl, hb1⟩; have hx1 : CBox w1 (w.heap.size + 1) 24 0 0 := (hb1.block _ (by simp)).trans (blk2b _ _ _); have hx0 : CBox w1 w.heap.size 24 b r := (hb1.block _ (by simp <;> omega)).trans (blk2a _ _ _); obtain ⟨_, _, _, _⟩ := cells2 hx1; obtain ⟨_, _, _, _⟩ := cells2 hx0; have hz1 : w.heap.size + 1 < w1.heap.size := lt_of_block hx1; have hz10 : w.heap.size < w1.heap.size := by omega))
        have hS := cbox_set (a := 0) (b := 0) hx1
        have hB := (((below2 w _ _).trans (hb1.mono (by simp; omega))).setCell (p := ⟨w.heap.size + 1, 0, none⟩) (by simp) (.int .i64 (0))).setCell (p := ⟨w.heap.size + 1, 1, none⟩) (by simp) (.int .i64 (0))
        generalize (w1.setCell ⟨w.heap.size + 1, 0, none⟩ (.int .i64 (0))).setCell ⟨w.heap.size + 1, 1, none⟩ (.int .i64 (0)) = S at *
        obtain ⟨d0, d1, _, _⟩ := cells2 hS
        exact bodyPost_ret (v := .tuple #[.agg #[.int .i64 (0), .int .i64 (0)], .int .i64 3]) (by simp [results, Try.results13, go_sem, d0, d1]) rfl (after_bad HE.out hB)
      · go_enter Try.func13, Try.ntmps13
        go_wp2_with ((go_at_call 27; refine (H1.out _).mono ?_; rintro e w1 ⟨rfl, hb1⟩; have hx1 : CBox w1 (w.heap.size + 1) 24 0 0 := (hb1.block _ (by simp)).trans (blk2b _ _ _); have hx0 : CBox w1 w.heap.size 24 b r := (hb1.block _ (by simp <;> omega)).trans (blk2a _ _ _); obtain ⟨_, _, _, _⟩ := cells2 hx1; obtain ⟨_, _, _, _⟩ := cells2 hx0; have hz1 : w.heap.size + 1 < w1.heap.size := lt_of_block hx1; have hz10 : w.heap.size < w1.heap.size := by omega))
        have hS := cbox_set (a := 0) (b := 0) hx1
        have hB := (((below2 w _ _).trans (hb1.mono (by simp; omega))).setCell (p := ⟨w.heap.size + 1, 0, none⟩) (by simp) (.int .i64 (0))).setCell (p := ⟨w.heap.size + 1, 1, none⟩) (by simp) (.int .i64 (0))
        generalize (w1.setCell ⟨w.heap.size + 1, 0, none⟩ (.int .i64 (0))).setCell ⟨w.heap.size + 1, 1, none⟩ (.int .i64 (0)) = S at *
        obtain ⟨d0, d1, _, _⟩ := cells2 hS
        exact bodyPost_ret (v := .tuple #[.agg #[.int .i64 (0), .int .i64 (0)], .int .i64 3]) (by simp [results, Try.results13, go_sem, d0, d1]) rfl (after_bad HE.out hB)
    | true =>
      have hxr : 0 ≤ x ∧ x ≤ 1048576 := by simpa [inR] using hx
      have hm0 : 0 ≤ r * x := Int.mul_nonneg k1.2.2.1 hxr.1
      have hm1 : r * x ≤ 1073741824 := by
        have := Int.mul_le_mul k1.2.2.2 hxr.2 hxr.1 (by omega : (0 : Int) ≤ 1024)
        omega
      have hE : afE b r x = cE (b + r * x) r := by unfold afE; rw [if_neg (by omega), if_neg (by rw [hx]; simp)]
      have w1 : wrap64 (r * x) = r * x := by unfold wrap64; omega
      have w2 : wrap64 (b + r * x) = b + r * x := by unfold wrap64; omega
      have z1 : (x < 0) = False := by simp; omega
      have z2 : (1048576 < x) = False := by simp; omega
      have HE := Lib.hid hE
      clear hE
      have hc2 : ∀ W, Calls Try.prog 27 #[.agg #[.int .i64 (b + r * x), .int .i64 r]] W fun e w' => e = .returned (.int .i64 (cE (b + r * x) r)) ∧ Below W.heap.size W w' := fun W => rcheck_any _ _ W
      rcases cE_or (b + r * x) r with h2 | h2
      · rw [h2] at hc2
        have H2 := Lib.hid hc2
        have hh2 := Lib.hid h2
        clear hc2 h2 hx
        go_enter Try.func13, Try.ntmps13
        go_upto_region 6 with ((go_at_call 27; refine (H1.out _).mono ?_; rintro e w1 ⟨rfl, hb1⟩; have hx1 : CBox w1 (w.heap.size + 1) 24 0 0 := (hb1.block _ (by simp)).trans (blk2b _ _ _); have hx0 : CBox w1 w.heap.size 24 b r := (hb1.block _ (by simp <;> omega)).trans (blk2a _ _ _); obtain ⟨_, _, _, _⟩ := cells2 hx1; obtain ⟨_, _, _, _⟩ := cells2 hx0; have hz1 : w.heap.size + 1 < w1.heap.size := lt_of_block hx1; have hz10 : w.heap.size < w1.heap.size := by omega))
        have hB1 : Below w.heap.size w w1 := (below2 w _ _).trans (hb1.mono (by simp; omega))
        clear hb1
        go_upto_region 7 with (fail)
        have hx7 : CBox (w1.alloc (.cells #[.int .i64 (b + r * x), .int .i64 r] 24)) w1.heap.size 24 (b + r * x) r := alloc_new_at _ _ _ rfl
        have hB7 : Below w1.heap.size w1 (w1.alloc (.cells #[.int .i64 (b + r * x), .int .i64 r] 24)) := (Below.refl _ _).alloc (Nat.le_refl _) _
        generalize w1.alloc (.cells #[.int .i64 (b + r * x), .int .i64 r] 24) = W7 at *
        generalize hg7 : w1.heap.size = g7 at *
        have hy7 : CBox W7 (w.heap.size + 1) 24 0 0 := (hB7.block _ (by omega)).trans hx1
        obtain ⟨_, _, _, _⟩ := cells2 hx7
        go_wp2_with (go_at_call 27; refine (H2.out _).mono ?_; rintro e w8 ⟨rfl, hb8⟩; have hx8 : CBox w8 (w.heap.size + 1) 24 0 0 := (hb8.block _ (lt_of_block hy7)).trans hy7; have hy8 : CBox w8 g7 24 (b + r * x) r := (hb8.block _ (lt_of_block hx7)).trans hx7; obtain ⟨_, _, _, _⟩ := cells2 hx8; obtain ⟨_, _, _, _⟩ := cells2 hy8; have hz8 : w.heap.size + 1 < w8.heap.size := lt_of_block hx8; have hz88 : g7 < w8.heap.size := lt_of_block hy8)
        have h2 := hh2.out
        have hS := cbox_set (a := b + r * x) (b := r) hx8
        have hB := (((hB1.trans (hB7.mono (by omega))).trans (hb8.mono (by have := hB7.size; omega))).setCell (p := ⟨w.heap.size + 1, 0, none⟩) (by simp) (.int .i64 (b + r * x))).setCell (p := ⟨w.heap.size + 1, 1, none⟩) (by simp) (.int .i64 (r))
        generalize (w8.setCell ⟨w.heap.size + 1, 0, none⟩ (.int .i64 (b + r * x))).setCell ⟨w.heap.size + 1, 1, none⟩ (.int .i64 (r)) = S at *
        obtain ⟨d0, d1, _, _⟩ := cells2 hS
        exact bodyPost_ret (v := .tuple #[.agg #[.int .i64 (b + r * x), .int .i64 (r)], .int .i64 0]) (by simp [results, Try.results13, go_sem, d0, d1]) rfl (after_all (HE.out.trans h2) hB)
      · rw [h2] at hc2
        have H2 := Lib.hid hc2
        have hh2 := Lib.hid h2
        clear hc2 h2 hx
        go_enter Try.func13, Try.ntmps13
        go_upto_region 6 with ((go_at_call 27; refine (H1.out _).mono ?_; rintro e w1 ⟨rfl, hb1⟩; have hx1 : CBox w1 (w.heap.size + 1) 24 0 0 := (hb1.block _ (by simp)).trans (blk2b _ _ _); have hx0 : CBox w1 w.heap.size 24 b r := (hb1.block _ (by simp <;> omega)).trans (blk2a _ _ _); obtain ⟨_, _, _, _⟩ := cells2 hx1; obtain ⟨_, _, _, _⟩ := cells2 hx0; have hz1 : w.heap.size + 1 < w1.heap.size := lt_of_block hx1; have hz10 : w.heap.size < w1.heap.size := by omega))
        have hB1 : Below w.heap.size w w1 := (below2 w _ _).trans (hb1.mono (by simp; omega))
        clear hb1
        go_upto_region 7 with (fail)
        have hx7 : CBox (w1.alloc (.cells #[.int .i64 (b + r * x), .int .i64 r] 24)) w1.heap.size 24 (b + r * x) r := alloc_new_at _ _ _ rfl
        have hB7 : Below w1.heap.size w1 (w1.alloc (.cells #[.int .i64 (b + r * x), .int .i64 r] 24)) := (Below.refl _ _).alloc (Nat.le_refl _) _
        generalize w1.alloc (.cells #[.int .i64 (b + r * x), .int .i64 r] 24) = W7 at *
        generalize hg7 : w1.heap.size = g7 at *
        have hy7 : CBox W7 (w.heap.size + 1) 24 0 0 := (hB7.block _ (by omega)).trans hx1
        obtain ⟨_, _, _, _⟩ := cells2 hx7
        go_wp2_with (go_at_call 27; refine (H2.out _).mono ?_; rintro e w8 ⟨rfl, hb8⟩; have hx8 : CBox w8 (w.heap.size + 1) 24 0 0 := (hb8.block _ (lt_of_block hy7)).trans hy7; have hy8 : CBox w8 g7 24 (b + r * x) r := (hb8.block _ (lt_of_block hx7)).trans hx7; obtain ⟨_, _, _, _⟩ := cells2 hx8; obtain ⟨_, _, _, _⟩ := cells2 hy8; have hz8 : w.heap.size + 1 < w8.heap.size := lt_of_block hx8; have hz88 : g7 < w8.heap.size := lt_of_block hy8)
        have h2 := hh2.out
        have hS := cbox_set (a := 0) (b := 0) hx8
        have hB := (((hB1.trans (hB7.mono (by omega))).trans (hb8.mono (by have := hB7.size; omega))).setCell (p := ⟨w.heap.size + 1, 0, none⟩) (by simp) (.int .i64 (0))).setCell (p := ⟨w.heap.size + 1, 1, none⟩) (by simp) (.int .i64 (0))
        generalize (w8.setCell ⟨w.heap.size + 1, 0, none⟩ (.int .i64 (0))).setCell ⟨w.heap.size + 1, 1, none⟩ (.int .i64 (0)) = S at *
        obtain ⟨d0, d1, _, _⟩ := cells2 hS
        exact bodyPost_ret (v := .tuple #[.agg #[.int .i64 (0), .int .i64 (0)], .int .i64 3]) (by simp [results, Try.results13, go_sem, d0, d1]) rfl (after_bad (HE.out.trans h2) hB)
  · rw [h1] at hc1
    have hE : afE b r x = 3 := by unfold afE; rw [if_pos (by omega)]
    have HE := Lib.hid hE
    have H1 := Lib.hid hc1
    clear hc1 hE h1
    go_enter Try.func13, Try.ntmps13
    go_wp2_with ((go_at_call 27; refine (H1.out _).mono ?_; rintro e w1 ⟨rfl, hb1⟩; have hx1 : CBox w1 (w.heap.size + 1) 24 0 0 := (hb1.block _ (by simp)).trans (blk2b _ _ _); have hx0 : CBox w1 w.heap.size 24 b r := (hb1.block _ (by simp <;> omega)).trans (blk2a _ _ _); obtain ⟨_, _, _, _⟩ := cells2 hx1; obtain ⟨_, _, _, _⟩ := cells2 hx0; have hz1 : w.heap.size + 1 < w1.heap.size := lt_of_block hx1; have hz10 : w.heap.size < w1.heap.size := by omega))
    have hS := cbox_set (a := 0) (b := 0) hx1
    have hB := (((below2 w _ _).trans (hb1.mono (by simp; omega))).setCell (p := ⟨w.heap.size + 1, 0, none⟩) (by simp) (.int .i64 (0))).setCell (p := ⟨w.heap.size + 1, 1, none⟩) (by simp) (.int .i64 (0))
    generalize (w1.setCell ⟨w.heap.size + 1, 0, none⟩ (.int .i64 (0))).setCell ⟨w.heap.size + 1, 1, none⟩ (.int .i64 (0)) = S at *
    obtain ⟨d0, d1, _, _⟩ := cells2 hS
    exact bodyPost_ret (v := .tuple #[.agg #[.int .i64 (0), .int .i64 (0)], .int .i64 3]) (by simp [results, Try.results13, go_sem, d0, d1]) rfl (after_bad HE.out hB)
end Go.Proofs.Ythfmbmjjfdhhnaa
