/- Both Waits. (mk_Cd.py wrote this.) -/
import Derived.Test.YthfmbmjjfdhhnaaCc
namespace Go.Proofs.Ythfmbmjjfdhhnaa
set_option linter.unusedVariables false
open Go.RowKit

theorem tdiv_le_self' {a d : Int} (ha : 0 ≤ a) (hd : 0 < d) : a.tdiv d ≤ a := by
  rw [Int.tdiv_eq_ediv_of_nonneg ha]
  exact Int.ediv_le_self _ ha
def wtE (ob or' hb hr : Int) : Int := if cE ob or' ≠ 0 then 3 else if cE hb hr ≠ 0 then 3 else if 1024 < or' + hr ∨ hr = 1024 then 21 else 0
def wtW (ob or' hb hr : Int) : Int := if cE ob or' ≠ 0 then 0 else if cE hb hr ≠ 0 then 0 else if 1024 < or' + hr ∨ hr = 1024 then 0 else if ob + or' < 1024 then 0 else (ob + hb + or' - 1024).tdiv (1024 - hr)
def wtP (ob or' hb hr : Int) : Int := if cE ob or' ≠ 0 then 0 else if cE hb hr ≠ 0 then 0 else if 1024 < or' + hr ∨ hr = 1024 then 0 else if ob + or' < 1024 then 0 else (ob + hb + or' + hr).tdiv 1024
def WaitOut (ob or' hb hr : Int) (w : World) (e : Ending) (w' : World) : Prop := e = .returned (.tuple #[.int .i64 (wtW ob or' hb hr), .int .i64 (wtP ob or' hb hr), .int .i64 (wtE ob or' hb hr)]) ∧ Below w.heap.size w w'

set_option maxRecDepth 100000 in
set_option maxHeartbeats 4000000 in
theorem wait_any (ob or' hb hr : Int) (w : World) :
    Calls Try.prog 10 #[.agg #[.int .i64 ob, .int .i64 or'], .agg #[.int .i64 hb, .int .i64 hr]] w (WaitOut ob or' hb hr w) := by
  have hc1 : ∀ W, Calls Try.prog 24 #[.agg #[.int .i64 ob, .int .i64 or']] W fun e w' => e = .returned (.int .i64 (cE ob or')) ∧ Below W.heap.size W w' := fun W => check_any _ _ W
  have hc2 : ∀ W, Calls Try.prog 24 #[.agg #[.int .i64 hb, .int .i64 hr]] W fun e w' => e = .returned (.int .i64 (cE hb hr)) ∧ Below W.heap.size W w' := fun W => check_any _ _ W
  unfold WaitOut wtW wtP wtE
  rcases cE_or ob or' with h1 | h1
  · rcases cE_or hb hr with h2 | h2
    · have k1 := cE_zero h1
      have k2 := cE_zero h2
      rw [h1] at hc1 ⊢
      rw [h2] at hc2 ⊢
      have H1 := Lib.hid hc1
      have H2 := Lib.hid hc2
      clear hc1 hc2
      simp only [show ((0 : Int) ≠ 0) = False by simp, if_false]
      have w1 : wrap64 (or' + hr) = or' + hr := by unfold wrap64; omega
      have w2 : wrap64 (ob + or') = ob + or' := by unfold wrap64; omega
      have hadd : ∀ W g, W.heap[g]? = some (.cells #[.int .i64 ob, .int .i64 or', .int .i64 hb, .int .i64 hr] 27) → Calls Try.prog 26 #[.slice (some ⟨g, 0, none⟩) 2 2] W fun e w' => e = .returned (.agg #[.int .i64 (ob + hb), .int .i64 (or' + hr)]) ∧ Below W.heap.size W w' := fun W g hg => by
        have := add_any [⟨ob, or'⟩, ⟨hb, hr⟩] (some ⟨g, 0, none⟩) 2 (by simp) (by intro c hc; simp at hc; rcases hc with rfl | rfl <;> simp <;> omega) W (Or.inr ⟨g, 0, 2, rfl, lt_of_block hg, fun k c hk => by
          match k, hk with
          | 0, hk => cases hk; exact ⟨by simp [World.cell?, hg], by simp [World.cell?, hg]⟩
          | 1, hk => cases hk; exact ⟨by simp [World.cell?, hg], by simp [World.cell?, hg]⟩
          | n + 2, hk => simp at hk⟩)
        simpa [sumB, sumR] using this
      by_cases h3 : 1024 < or' + hr ∨ hr = 1024
      · rw [if_pos h3, if_pos h3, if_pos h3]
        have z1 : (or' + hr > 1024) = True ∨ ((or' + hr > 1024) = False ∧ hr = 1024) := by
          by_cases h : or' + hr > 1024
          · left; simp [h]
          · right; exact ⟨by simp; omega, by omega⟩
        rcases z1 with z1 | ⟨z1, rfl⟩
        · go_enter Try.func10, Try.ntmps10
          go_upto_region 4 with (go_at_call 24; refine (H1.out _).mono ?_; rintro e w1 ⟨rfl, hb1⟩)
          have hx1 : CBox w1 (w.heap.size + 1) 27 hb hr := (hb1.block _ (by simp)).trans (blk2b _ _ _)
          have hx0 : CBox w1 w.heap.size 27 ob or' := (hb1.block _ (by simp <;> omega)).trans (blk2a _ _ _)
          obtain ⟨_, _, _, _⟩ := cells2 hx1
          have hz1 : w.heap.size + 1 < w1.heap.size := lt_of_block hx1
          have hB1 : Below w.heap.size w w1 := (below2 w _ _).trans (hb1.mono (by simp; omega))
          have hz10 : w.heap.size < w1.heap.size := by omega
          obtain ⟨_, _, _, _⟩ := cells2 hx0
          clear hb1
          go_upto_region 7 with (go_at_call 24; refine (H2.out _).mono ?_; rintro e w2 ⟨rfl, hb2⟩)
          have hy1 : CBox w2 (w.heap.size + 1) 27 hb hr := (hb2.block _ hz1).trans hx1
          have hy0 : CBox w2 w.heap.size 27 ob or' := (hb2.block _ (by omega)).trans hx0
          have hz2 : w.heap.size + 1 < w2.heap.size := lt_of_block hy1
          have hz20 : w.heap.size < w2.heap.size := by omega
          have hB2 : Below w.heap.size w w2 := hB1.trans (hb2.mono (by omega))
          clear hb2 hx0 hx1 hB1 hz1 hz10
          obtain ⟨_, _, _, _⟩ := cells2 hy0
          obtain ⟨_, _, _, _⟩ := cells2 hy1
          have HA := Lib.hid hadd
          have hsl : (w2.alloc (.cells #[.int .i64 ob, .int .i64 or', .int .i64 hb, .int .i64 hr] 27)).heap[w2.heap.size]? = some (.cells #[.int .i64 ob, .int .i64 or', .int .i64 hb, .int .i64 hr] 27) := alloc_new_at _ _ _ rfl
          clear hadd
          go_upto_region 8 with (go_at_call 26; refine (HA.out _ _ hsl).mono ?_; rintro e w3 ⟨rfl, hb3⟩)
          have hB3 : Below w2.heap.size w2 (w3.alloc (.cells #[.int .i64 (ob + hb), .int .i64 (or' + hr)] 27)) := (((Below.refl _ _).alloc (Nat.le_refl _) _).trans (hb3.mono (by simp))).alloc (by have := hb3.size; simp at this; omega) _
          have hx9 : CBox (w3.alloc (.cells #[.int .i64 (ob + hb), .int .i64 (or' + hr)] 27)) w3.heap.size 27 (ob + hb) (or' + hr) := alloc_new_at _ _ _ rfl
          generalize w3.alloc (.cells #[.int .i64 (ob + hb), .int .i64 (or' + hr)] 27) = W4 at *
          generalize w3.heap.size = g9 at *
          have hu1 := (hB3.block _ hz2).trans hy1
          have hu0 := (hB3.block _ hz20).trans hy0
          have hz4 : w.heap.size + 1 < W4.heap.size := lt_of_block hu1
          have hz40 : w.heap.size < W4.heap.size := by omega
          have hz49 : g9 < W4.heap.size := lt_of_block hx9
          have hB4 : Below w.heap.size w W4 := hB2.trans (hB3.mono (by omega))
          clear hsl hb3 hB3 hy0 hy1 hB2 hz2 hz20
          obtain ⟨_, _, _, _⟩ := cells2 hu0
          obtain ⟨_, _, _, _⟩ := cells2 hu1
          obtain ⟨_, _, _, _⟩ := cells2 hx9
          go_wp2
          exact bodyPost_ret (v := .tuple #[.int .i64 0, .int .i64 0, .int .i64 21]) (by simp [results, Try.results10, go_sem]) rfl ⟨rfl, hB4⟩
        · go_enter Try.func10, Try.ntmps10
          go_upto_region 4 with (go_at_call 24; refine (H1.out _).mono ?_; rintro e w1 ⟨rfl, hb1⟩)
          have hx1 : CBox w1 (w.heap.size + 1) 27 hb 1024 := (hb1.block _ (by simp)).trans (blk2b _ _ _)
          have hx0 : CBox w1 w.heap.size 27 ob or' := (hb1.block _ (by simp <;> omega)).trans (blk2a _ _ _)
          obtain ⟨_, _, _, _⟩ := cells2 hx1
          have hz1 : w.heap.size + 1 < w1.heap.size := lt_of_block hx1
          have hB1 : Below w.heap.size w w1 := (below2 w _ _).trans (hb1.mono (by simp; omega))
          have hz10 : w.heap.size < w1.heap.size := by omega
          obtain ⟨_, _, _, _⟩ := cells2 hx0
          clear hb1
          go_upto_region 7 with (go_at_call 24; refine (H2.out _).mono ?_; rintro e w2 ⟨rfl, hb2⟩)
          have hy1 : CBox w2 (w.heap.size + 1) 27 hb 1024 := (hb2.block _ hz1).trans hx1
          have hy0 : CBox w2 w.heap.size 27 ob or' := (hb2.block _ (by omega)).trans hx0
          have hz2 : w.heap.size + 1 < w2.heap.size := lt_of_block hy1
          have hz20 : w.heap.size < w2.heap.size := by omega
          have hB2 : Below w.heap.size w w2 := hB1.trans (hb2.mono (by omega))
          clear hb2 hx0 hx1 hB1 hz1 hz10
          obtain ⟨_, _, _, _⟩ := cells2 hy0
          obtain ⟨_, _, _, _⟩ := cells2 hy1
          have HA := Lib.hid hadd
          have hsl : (w2.alloc (.cells #[.int .i64 ob, .int .i64 or', .int .i64 hb, .int .i64 1024] 27)).heap[w2.heap.size]? = some (.cells #[.int .i64 ob, .int .i64 or', .int .i64 hb, .int .i64 1024] 27) := alloc_new_at _ _ _ rfl
          clear hadd
          go_upto_region 8 with (go_at_call 26; refine (HA.out _ _ hsl).mono ?_; rintro e w3 ⟨rfl, hb3⟩)
          have hB3 : Below w2.heap.size w2 (w3.alloc (.cells #[.int .i64 (ob + hb), .int .i64 (or' + 1024)] 27)) := (((Below.refl _ _).alloc (Nat.le_refl _) _).trans (hb3.mono (by simp))).alloc (by have := hb3.size; simp at this; omega) _
          have hx9 : CBox (w3.alloc (.cells #[.int .i64 (ob + hb), .int .i64 (or' + 1024)] 27)) w3.heap.size 27 (ob + hb) (or' + 1024) := alloc_new_at _ _ _ rfl
          generalize w3.alloc (.cells #[.int .i64 (ob + hb), .int .i64 (or' + 1024)] 27) = W4 at *
          generalize w3.heap.size = g9 at *
          have hu1 := (hB3.block _ hz2).trans hy1
          have hu0 := (hB3.block _ hz20).trans hy0
          have hz4 : w.heap.size + 1 < W4.heap.size := lt_of_block hu1
          have hz40 : w.heap.size < W4.heap.size := by omega
          have hz49 : g9 < W4.heap.size := lt_of_block hx9
          have hB4 : Below w.heap.size w W4 := hB2.trans (hB3.mono (by omega))
          clear hsl hb3 hB3 hy0 hy1 hB2 hz2 hz20
          obtain ⟨_, _, _, _⟩ := cells2 hu0
          obtain ⟨_, _, _, _⟩ := cells2 hu1
          obtain ⟨_, _, _, _⟩ := cells2 hx9
          go_wp2
          exact bodyPost_ret (v := .tuple #[.int .i64 0, .int .i64 0, .int .i64 21]) (by simp [results, Try.results10, go_sem]) rfl ⟨rfl, hB4⟩
      · rw [if_neg h3, if_neg h3, if_neg h3]
        have z1 : (or' + hr > 1024) = False := by simp; omega
        have z2 : (hr == 1024) = false := by simp; omega
        have z2' : (hr ≥ 1024) = False := by simp; omega
        by_cases h4 : ob + or' < 1024
        · rw [if_pos h4, if_pos h4]
          have z3 : (ob + or' < 1024) = True := by simp [h4]
          go_enter Try.func10, Try.ntmps10
          go_upto_region 4 with (go_at_call 24; refine (H1.out _).mono ?_; rintro e w1 ⟨rfl, hb1⟩)
          have hx1 : CBox w1 (w.heap.size + 1) 27 hb hr := (hb1.block _ (by simp)).trans (blk2b _ _ _)
          have hx0 : CBox w1 w.heap.size 27 ob or' := (hb1.block _ (by simp <;> omega)).trans (blk2a _ _ _)
          obtain ⟨_, _, _, _⟩ := cells2 hx1
          have hz1 : w.heap.size + 1 < w1.heap.size := lt_of_block hx1
          have hB1 : Below w.heap.size w w1 := (below2 w _ _).trans (hb1.mono (by simp; omega))
          have hz10 : w.heap.size < w1.heap.size := by omega
          obtain ⟨_, _, _, _⟩ := cells2 hx0
          clear hb1
          go_upto_region 7 with (go_at_call 24; refine (H2.out _).mono ?_; rintro e w2 ⟨rfl, hb2⟩)
          have hy1 : CBox w2 (w.heap.size + 1) 27 hb hr := (hb2.block _ hz1).trans hx1
          have hy0 : CBox w2 w.heap.size 27 ob or' := (hb2.block _ (by omega)).trans hx0
          have hz2 : w.heap.size + 1 < w2.heap.size := lt_of_block hy1
          have hz20 : w.heap.size < w2.heap.size := by omega
          have hB2 : Below w.heap.size w w2 := hB1.trans (hb2.mono (by omega))
          clear hb2 hx0 hx1 hB1 hz1 hz10
          obtain ⟨_, _, _, _⟩ := cells2 hy0
          obtain ⟨_, _, _, _⟩ := cells2 hy1
          have HA := Lib.hid hadd
          have hsl : (w2.alloc (.cells #[.int .i64 ob, .int .i64 or', .int .i64 hb, .int .i64 hr] 27)).heap[w2.heap.size]? = some (.cells #[.int .i64 ob, .int .i64 or', .int .i64 hb, .int .i64 hr] 27) := alloc_new_at _ _ _ rfl
          clear hadd
          go_upto_region 8 with (go_at_call 26; refine (HA.out _ _ hsl).mono ?_; rintro e w3 ⟨rfl, hb3⟩)
          have hB3 : Below w2.heap.size w2 (w3.alloc (.cells #[.int .i64 (ob + hb), .int .i64 (or' + hr)] 27)) := (((Below.refl _ _).alloc (Nat.le_refl _) _).trans (hb3.mono (by simp))).alloc (by have := hb3.size; simp at this; omega) _
          have hx9 : CBox (w3.alloc (.cells #[.int .i64 (ob + hb), .int .i64 (or' + hr)] 27)) w3.heap.size 27 (ob + hb) (or' + hr) := alloc_new_at _ _ _ rfl
          generalize w3.alloc (.cells #[.int .i64 (ob + hb), .int .i64 (or' + hr)] 27) = W4 at *
          generalize w3.heap.size = g9 at *
          have hu1 := (hB3.block _ hz2).trans hy1
          have hu0 := (hB3.block _ hz20).trans hy0
          have hz4 : w.heap.size + 1 < W4.heap.size := lt_of_block hu1
          have hz40 : w.heap.size < W4.heap.size := by omega
          have hz49 : g9 < W4.heap.size := lt_of_block hx9
          have hB4 : Below w.heap.size w W4 := hB2.trans (hB3.mono (by omega))
          clear hsl hb3 hB3 hy0 hy1 hB2 hz2 hz20
          obtain ⟨_, _, _, _⟩ := cells2 hu0
          obtain ⟨_, _, _, _⟩ := cells2 hu1
          obtain ⟨_, _, _, _⟩ := cells2 hx9
          go_wp2
          exact bodyPost_ret (v := .tuple #[.int .i64 0, .int .i64 0, .int .i64 0]) (by simp [results, Try.results10, go_sem]) rfl ⟨rfl, hB4⟩
        · rw [if_neg h4, if_neg h4]
          have z3 : (ob + or' < 1024) = False := by simp [h4]
          have hd0 : 0 < 1024 - hr := by omega
          have hn0 : 0 ≤ ob + hb + or' - 1024 := by omega
          have t1 := Int.tdiv_nonneg hn0 (Int.le_of_lt hd0)
          have t2 := tdiv_le_self' hn0 hd0
          have t3 : 0 ≤ (ob + hb + or' + hr).tdiv 1024 := Int.tdiv_nonneg (by omega) (by omega)
          have t4 : (ob + hb + or' + hr).tdiv 1024 ≤ ob + hb + or' + hr := tdiv_le_self' (by omega) (by omega)
          have w3 : wrap64 (ob + hb) = ob + hb := by unfold wrap64; omega
          have w4 : wrap64 (ob + hb + or') = ob + hb + or' := by unfold wrap64; omega
          have w5 : wrap64 (ob + hb + or' - 1024) = ob + hb + or' - 1024 := by unfold wrap64; omega
          have w6 : wrap64 (1024 - hr) = 1024 - hr := by unfold wrap64; omega
          have w7 : wrap64 (ob + hb + or' + hr) = ob + hb + or' + hr := by unfold wrap64; omega
          have w7' : wrap64 (ob + hb + (or' + hr)) = ob + hb + or' + hr := by unfold wrap64; omega
          have zd : (1024 - hr == 0) = false := by simp; omega
          have zd' : (1024 - hr = 0) = False := by simp; omega
          generalize hW : (ob + hb + or' - 1024).tdiv (1024 - hr) = Wt at *
          generalize hP : (ob + hb + or' + hr).tdiv 1024 = Pt at *
          have w8 : wrap64 Wt = Wt := by unfold wrap64; omega
          have w9 : wrap64 Pt = Pt := by unfold wrap64; omega
          have hPe : (ob + hb + (or' + hr)) / 1024 = Pt := by rw [← hP, Int.tdiv_eq_ediv_of_nonneg (by omega)]; congr 1; omega
          have hPe2 : (ob + hb + or' + hr) / 1024 = Pt := by rw [← hP, Int.tdiv_eq_ediv_of_nonneg (by omega)]
          clear t1 t2 t3 t4
          go_enter Try.func10, Try.ntmps10
          go_upto_region 4 with (go_at_call 24; refine (H1.out _).mono ?_; rintro e w1 ⟨rfl, hb1⟩)
          have hx1 : CBox w1 (w.heap.size + 1) 27 hb hr := (hb1.block _ (by simp)).trans (blk2b _ _ _)
          have hx0 : CBox w1 w.heap.size 27 ob or' := (hb1.block _ (by simp <;> omega)).trans (blk2a _ _ _)
          obtain ⟨_, _, _, _⟩ := cells2 hx1
          have hz1 : w.heap.size + 1 < w1.heap.size := lt_of_block hx1
          have hB1 : Below w.heap.size w w1 := (below2 w _ _).trans (hb1.mono (by simp; omega))
          have hz10 : w.heap.size < w1.heap.size := by omega
          obtain ⟨_, _, _, _⟩ := cells2 hx0
          clear hb1
          go_upto_region 7 with (go_at_call 24; refine (H2.out _).mono ?_; rintro e w2 ⟨rfl, hb2⟩)
          have hy1 : CBox w2 (w.heap.size + 1) 27 hb hr := (hb2.block _ hz1).trans hx1
          have hy0 : CBox w2 w.heap.size 27 ob or' := (hb2.block _ (by omega)).trans hx0
          have hz2 : w.heap.size + 1 < w2.heap.size := lt_of_block hy1
          have hz20 : w.heap.size < w2.heap.size := by omega
          have hB2 : Below w.heap.size w w2 := hB1.trans (hb2.mono (by omega))
          clear hb2 hx0 hx1 hB1 hz1 hz10
          obtain ⟨_, _, _, _⟩ := cells2 hy0
          obtain ⟨_, _, _, _⟩ := cells2 hy1
          have HA := Lib.hid hadd
          have hsl : (w2.alloc (.cells #[.int .i64 ob, .int .i64 or', .int .i64 hb, .int .i64 hr] 27)).heap[w2.heap.size]? = some (.cells #[.int .i64 ob, .int .i64 or', .int .i64 hb, .int .i64 hr] 27) := alloc_new_at _ _ _ rfl
          clear hadd
          go_upto_region 8 with (go_at_call 26; refine (HA.out _ _ hsl).mono ?_; rintro e w3 ⟨rfl, hb3⟩)
          have hB3 : Below w2.heap.size w2 (w3.alloc (.cells #[.int .i64 (ob + hb), .int .i64 (or' + hr)] 27)) := (((Below.refl _ _).alloc (Nat.le_refl _) _).trans (hb3.mono (by simp))).alloc (by have := hb3.size; simp at this; omega) _
          have hx9 : CBox (w3.alloc (.cells #[.int .i64 (ob + hb), .int .i64 (or' + hr)] 27)) w3.heap.size 27 (ob + hb) (or' + hr) := alloc_new_at _ _ _ rfl
          generalize w3.alloc (.cells #[.int .i64 (ob + hb), .int .i64 (or' + hr)] 27) = W4 at *
          generalize w3.heap.size = g9 at *
          have hu1 := (hB3.block _ hz2).trans hy1
          have hu0 := (hB3.block _ hz20).trans hy0
          have hz4 : w.heap.size + 1 < W4.heap.size := lt_of_block hu1
          have hz40 : w.heap.size < W4.heap.size := by omega
          have hz49 : g9 < W4.heap.size := lt_of_block hx9
          have hB4 : Below w.heap.size w W4 := hB2.trans (hB3.mono (by omega))
          clear hsl hb3 hB3 hy0 hy1 hB2 hz2 hz20
          obtain ⟨_, _, _, _⟩ := cells2 hu0
          obtain ⟨_, _, _, _⟩ := cells2 hu1
          obtain ⟨_, _, _, _⟩ := cells2 hx9
          go_wp2
          exact bodyPost_ret (v := .tuple #[.int .i64 Wt, .int .i64 Pt, .int .i64 0]) (by simp [results, Try.results10, go_sem, w8, w9, hPe, hPe2]) rfl ⟨rfl, hB4⟩
    · rw [h1] at hc1 ⊢
      rw [h2] at hc2 ⊢
      have H1 := Lib.hid hc1
      have H2 := Lib.hid hc2
      clear hc1 hc2
      simp only [show ((0 : Int) ≠ 0) = False by simp, show ((3 : Int) ≠ 0) = True by simp, if_false, if_true]
      go_enter Try.func10, Try.ntmps10
      go_upto_region 4 with (go_at_call 24; refine (H1.out _).mono ?_; rintro e w1 ⟨rfl, hb1⟩)
      have hx1 : CBox w1 (w.heap.size + 1) 27 hb hr := (hb1.block _ (by simp)).trans (blk2b _ _ _)
      have hx0 : CBox w1 w.heap.size 27 ob or' := (hb1.block _ (by simp <;> omega)).trans (blk2a _ _ _)
      obtain ⟨_, _, _, _⟩ := cells2 hx1
      have hz1 : w.heap.size + 1 < w1.heap.size := lt_of_block hx1
      have hB1 : Below w.heap.size w w1 := (below2 w _ _).trans (hb1.mono (by simp; omega))
      have hz10 : w.heap.size < w1.heap.size := by omega
      obtain ⟨_, _, _, _⟩ := cells2 hx0
      clear hb1
      go_wp2_with (go_at_call 24; refine (H2.out _).mono ?_; rintro e w2 ⟨rfl, hb2⟩)
      exact bodyPost_ret (v := .tuple #[.int .i64 0, .int .i64 0, .int .i64 3]) (by simp [results, Try.results10, go_sem]) rfl ⟨rfl, hB1.trans (hb2.mono (by omega))⟩
  · rw [h1] at hc1 ⊢
    have H1 := Lib.hid hc1
    clear hc1 hc2
    simp only [show ((3 : Int) ≠ 0) = True by simp, if_true]
    go_enter Try.func10, Try.ntmps10
    go_wp2_with (go_at_call 24; refine (H1.out _).mono ?_; rintro e w1 ⟨rfl, hb1⟩)
    exact bodyPost_ret (v := .tuple #[.int .i64 0, .int .i64 0, .int .i64 3]) (by simp [results, Try.results10, go_sem]) rfl ⟨rfl, (below2 w _ _).trans (hb1.mono (by simp; omega))⟩
set_option maxRecDepth 100000 in
set_option maxHeartbeats 4000000 in
theorem rwait_any (ob or' hb hr : Int) (w : World) :
    Calls Try.prog 11 #[.agg #[.int .i64 ob, .int .i64 or'], .agg #[.int .i64 hb, .int .i64 hr]] w (WaitOut ob or' hb hr w) := by
  have hc1 : ∀ W, Calls Try.prog 27 #[.agg #[.int .i64 ob, .int .i64 or']] W fun e w' => e = .returned (.int .i64 (cE ob or')) ∧ Below W.heap.size W w' := fun W => rcheck_any _ _ W
  have hc2 : ∀ W, Calls Try.prog 27 #[.agg #[.int .i64 hb, .int .i64 hr]] W fun e w' => e = .returned (.int .i64 (cE hb hr)) ∧ Below W.heap.size W w' := fun W => rcheck_any _ _ W
  unfold WaitOut wtW wtP wtE
  rcases cE_or ob or' with h1 | h1
  · rcases cE_or hb hr with h2 | h2
    · have k1 := cE_zero h1
      have k2 := cE_zero h2
      rw [h1] at hc1 ⊢
      rw [h2] at hc2 ⊢
      have H1 := Lib.hid hc1
      have H2 := Lib.hid hc2
      clear hc1 hc2
      simp only [show ((0 : Int) ≠ 0) = False by simp, if_false]
      have w1 : wrap64 (or' + hr) = or' + hr := by unfold wrap64; omega
      have w2 : wrap64 (ob + or') = ob + or' := by unfold wrap64; omega
      by_cases h3 : 1024 < or' + hr ∨ hr = 1024
      · rw [if_pos h3, if_pos h3, if_pos h3]
        have z1 : (or' + hr > 1024) = True ∨ ((or' + hr > 1024) = False ∧ hr = 1024) := by
          by_cases h : or' + hr > 1024
          · left; simp [h]
          · right; exact ⟨by simp; omega, by omega⟩
        rcases z1 with z1 | ⟨z1, rfl⟩
        · go_enter Try.func11, Try.ntmps11
          go_upto_region 3 with (go_at_call 27; refine (H1.out _).mono ?_; rintro e w1 ⟨rfl, hb1⟩)
          have hx1 : CBox w1 (w.heap.size + 1) 24 hb hr := (hb1.block _ (by simp)).trans (blk2b _ _ _)
          have hx0 : CBox w1 w.heap.size 24 ob or' := (hb1.block _ (by simp <;> omega)).trans (blk2a _ _ _)
          obtain ⟨_, _, _, _⟩ := cells2 hx1
          have hz1 : w.heap.size + 1 < w1.heap.size := lt_of_block hx1
          have hB1 : Below w.heap.size w w1 := (below2 w _ _).trans (hb1.mono (by simp; omega))
          have hz10 : w.heap.size < w1.heap.size := by omega
          obtain ⟨_, _, _, _⟩ := cells2 hx0
          clear hb1
          go_upto_region 6 with (go_at_call 27; refine (H2.out _).mono ?_; rintro e w2 ⟨rfl, hb2⟩)
          have hy1 : CBox w2 (w.heap.size + 1) 24 hb hr := (hb2.block _ hz1).trans hx1
          have hy0 : CBox w2 w.heap.size 24 ob or' := (hb2.block _ (by omega)).trans hx0
          have hz2 : w.heap.size + 1 < w2.heap.size := lt_of_block hy1
          have hz20 : w.heap.size < w2.heap.size := by omega
          have hB2 : Below w.heap.size w w2 := hB1.trans (hb2.mono (by omega))
          clear hb2 hx0 hx1 hB1 hz1 hz10
          obtain ⟨_, _, _, _⟩ := cells2 hy0
          obtain ⟨_, _, _, _⟩ := cells2 hy1
          go_wp2
          exact bodyPost_ret (v := .tuple #[.int .i64 0, .int .i64 0, .int .i64 21]) (by simp [results, Try.results11, go_sem]) rfl ⟨rfl, hB2⟩
        · go_enter Try.func11, Try.ntmps11
          go_upto_region 3 with (go_at_call 27; refine (H1.out _).mono ?_; rintro e w1 ⟨rfl, hb1⟩)
          have hx1 : CBox w1 (w.heap.size + 1) 24 hb 1024 := (hb1.block _ (by simp)).trans (blk2b _ _ _)
          have hx0 : CBox w1 w.heap.size 24 ob or' := (hb1.block _ (by simp <;> omega)).trans (blk2a _ _ _)
          obtain ⟨_, _, _, _⟩ := cells2 hx1
          have hz1 : w.heap.size + 1 < w1.heap.size := lt_of_block hx1
          have hB1 : Below w.heap.size w w1 := (below2 w _ _).trans (hb1.mono (by simp; omega))
          have hz10 : w.heap.size < w1.heap.size := by omega
          obtain ⟨_, _, _, _⟩ := cells2 hx0
          clear hb1
          go_upto_region 6 with (go_at_call 27; refine (H2.out _).mono ?_; rintro e w2 ⟨rfl, hb2⟩)
          have hy1 : CBox w2 (w.heap.size + 1) 24 hb 1024 := (hb2.block _ hz1).trans hx1
          have hy0 : CBox w2 w.heap.size 24 ob or' := (hb2.block _ (by omega)).trans hx0
          have hz2 : w.heap.size + 1 < w2.heap.size := lt_of_block hy1
          have hz20 : w.heap.size < w2.heap.size := by omega
          have hB2 : Below w.heap.size w w2 := hB1.trans (hb2.mono (by omega))
          clear hb2 hx0 hx1 hB1 hz1 hz10
          obtain ⟨_, _, _, _⟩ := cells2 hy0
          obtain ⟨_, _, _, _⟩ := cells2 hy1
          go_wp2
          exact bodyPost_ret (v := .tuple #[.int .i64 0, .int .i64 0, .int .i64 21]) (by simp [results, Try.results11, go_sem]) rfl ⟨rfl, hB2⟩
      · rw [if_neg h3, if_neg h3, if_neg h3]
        have z1 : (or' + hr > 1024) = False := by simp; omega
        have z2 : (hr == 1024) = false := by simp; omega
        have z2' : (hr ≥ 1024) = False := by simp; omega
        by_cases h4 : ob + or' < 1024
        · rw [if_pos h4, if_pos h4]
          have z3 : (ob + or' < 1024) = True := by simp [h4]
          go_enter Try.func11, Try.ntmps11
          go_upto_region 3 with (go_at_call 27; refine (H1.out _).mono ?_; rintro e w1 ⟨rfl, hb1⟩)
          have hx1 : CBox w1 (w.heap.size + 1) 24 hb hr := (hb1.block _ (by simp)).trans (blk2b _ _ _)
          have hx0 : CBox w1 w.heap.size 24 ob or' := (hb1.block _ (by simp <;> omega)).trans (blk2a _ _ _)
          obtain ⟨_, _, _, _⟩ := cells2 hx1
          have hz1 : w.heap.size + 1 < w1.heap.size := lt_of_block hx1
          have hB1 : Below w.heap.size w w1 := (below2 w _ _).trans (hb1.mono (by simp; omega))
          have hz10 : w.heap.size < w1.heap.size := by omega
          obtain ⟨_, _, _, _⟩ := cells2 hx0
          clear hb1
          go_upto_region 6 with (go_at_call 27; refine (H2.out _).mono ?_; rintro e w2 ⟨rfl, hb2⟩)
          have hy1 : CBox w2 (w.heap.size + 1) 24 hb hr := (hb2.block _ hz1).trans hx1
          have hy0 : CBox w2 w.heap.size 24 ob or' := (hb2.block _ (by omega)).trans hx0
          have hz2 : w.heap.size + 1 < w2.heap.size := lt_of_block hy1
          have hz20 : w.heap.size < w2.heap.size := by omega
          have hB2 : Below w.heap.size w w2 := hB1.trans (hb2.mono (by omega))
          clear hb2 hx0 hx1 hB1 hz1 hz10
          obtain ⟨_, _, _, _⟩ := cells2 hy0
          obtain ⟨_, _, _, _⟩ := cells2 hy1
          go_wp2
          exact bodyPost_ret (v := .tuple #[.int .i64 0, .int .i64 0, .int .i64 0]) (by simp [results, Try.results11, go_sem]) rfl ⟨rfl, hB2⟩
        · rw [if_neg h4, if_neg h4]
          have z3 : (ob + or' < 1024) = False := by simp [h4]
          have hd0 : 0 < 1024 - hr := by omega
          have hn0 : 0 ≤ ob + hb + or' - 1024 := by omega
          have t1 := Int.tdiv_nonneg hn0 (Int.le_of_lt hd0)
          have t2 := tdiv_le_self' hn0 hd0
          have t3 : 0 ≤ (ob + hb + or' + hr).tdiv 1024 := Int.tdiv_nonneg (by omega) (by omega)
          have t4 : (ob + hb + or' + hr).tdiv 1024 ≤ ob + hb + or' + hr := tdiv_le_self' (by omega) (by omega)
          have w3 : wrap64 (ob + hb) = ob + hb := by unfold wrap64; omega
          have w4 : wrap64 (ob + hb + or') = ob + hb + or' := by unfold wrap64; omega
          have w5 : wrap64 (ob + hb + or' - 1024) = ob + hb + or' - 1024 := by unfold wrap64; omega
          have w6 : wrap64 (1024 - hr) = 1024 - hr := by unfold wrap64; omega
          have w7 : wrap64 (ob + hb + or' + hr) = ob + hb + or' + hr := by unfold wrap64; omega
          have w7' : wrap64 (ob + hb + (or' + hr)) = ob + hb + or' + hr := by unfold wrap64; omega
          have zd : (1024 - hr == 0) = false := by simp; omega
          have zd' : (1024 - hr = 0) = False := by simp; omega
          generalize hW : (ob + hb + or' - 1024).tdiv (1024 - hr) = Wt at *
          generalize hP : (ob + hb + or' + hr).tdiv 1024 = Pt at *
          have w8 : wrap64 Wt = Wt := by unfold wrap64; omega
          have w9 : wrap64 Pt = Pt := by unfold wrap64; omega
          have hPe : (ob + hb + (or' + hr)) / 1024 = Pt := by rw [← hP, Int.tdiv_eq_ediv_of_nonneg (by omega)]; congr 1; omega
          have hPe2 : (ob + hb + or' + hr) / 1024 = Pt := by rw [← hP, Int.tdiv_eq_ediv_of_nonneg (by omega)]
          clear t1 t2 t3 t4
          go_enter Try.func11, Try.ntmps11
          go_upto_region 3 with (go_at_call 27; refine (H1.out _).mono ?_; rintro e w1 ⟨rfl, hb1⟩)
          have hx1 : CBox w1 (w.heap.size + 1) 24 hb hr := (hb1.block _ (by simp)).trans (blk2b _ _ _)
          have hx0 : CBox w1 w.heap.size 24 ob or' := (hb1.block _ (by simp <;> omega)).trans (blk2a _ _ _)
          obtain ⟨_, _, _, _⟩ := cells2 hx1
          have hz1 : w.heap.size + 1 < w1.heap.size := lt_of_block hx1
          have hB1 : Below w.heap.size w w1 := (below2 w _ _).trans (hb1.mono (by simp; omega))
          have hz10 : w.heap.size < w1.heap.size := by omega
          obtain ⟨_, _, _, _⟩ := cells2 hx0
          clear hb1
          go_upto_region 6 with (go_at_call 27; refine (H2.out _).mono ?_; rintro e w2 ⟨rfl, hb2⟩)
          have hy1 : CBox w2 (w.heap.size + 1) 24 hb hr := (hb2.block _ hz1).trans hx1
          have hy0 : CBox w2 w.heap.size 24 ob or' := (hb2.block _ (by omega)).trans hx0
          have hz2 : w.heap.size + 1 < w2.heap.size := lt_of_block hy1
          have hz20 : w.heap.size < w2.heap.size := by omega
          have hB2 : Below w.heap.size w w2 := hB1.trans (hb2.mono (by omega))
          clear hb2 hx0 hx1 hB1 hz1 hz10
          obtain ⟨_, _, _, _⟩ := cells2 hy0
          obtain ⟨_, _, _, _⟩ := cells2 hy1
          go_wp2
          go_quiet (fail)
          go_wp2
          exact bodyPost_ret (v := .tuple #[.int .i64 Wt, .int .i64 Pt, .int .i64 0]) (by simp [results, Try.results11, go_sem, w8, w9, hPe, hPe2]) rfl ⟨rfl, by first | exact hB2 | exact below_drewN hB2 _ | exact hB2.drew⟩
    · rw [h1] at hc1 ⊢
      rw [h2] at hc2 ⊢
      have H1 := Lib.hid hc1
      have H2 := Lib.hid hc2
      clear hc1 hc2
      simp only [show ((0 : Int) ≠ 0) = False by simp, show ((3 : Int) ≠ 0) = True by simp, if_false, if_true]
      go_enter Try.func11, Try.ntmps11
      go_upto_region 3 with (go_at_call 27; refine (H1.out _).mono ?_; rintro e w1 ⟨rfl, hb1⟩)
      have hx1 : CBox w1 (w.heap.size + 1) 24 hb hr := (hb1.block _ (by simp)).trans (blk2b _ _ _)
      have hx0 : CBox w1 w.heap.size 24 ob or' := (hb1.block _ (by simp <;> omega)).trans (blk2a _ _ _)
      obtain ⟨_, _, _, _⟩ := cells2 hx1
      have hz1 : w.heap.size + 1 < w1.heap.size := lt_of_block hx1
      have hB1 : Below w.heap.size w w1 := (below2 w _ _).trans (hb1.mono (by simp; omega))
      have hz10 : w.heap.size < w1.heap.size := by omega
      obtain ⟨_, _, _, _⟩ := cells2 hx0
      clear hb1
      go_wp2_with (go_at_call 27; refine (H2.out _).mono ?_; rintro e w2 ⟨rfl, hb2⟩)
      exact bodyPost_ret (v := .tuple #[.int .i64 0, .int .i64 0, .int .i64 3]) (by simp [results, Try.results11, go_sem]) rfl ⟨rfl, hB1.trans (hb2.mono (by omega))⟩
  · rw [h1] at hc1 ⊢
    have H1 := Lib.hid hc1
    clear hc1 hc2
    simp only [show ((3 : Int) ≠ 0) = True by simp, if_true]
    go_enter Try.func11, Try.ntmps11
    go_wp2_with (go_at_call 27; refine (H1.out _).mono ?_; rintro e w1 ⟨rfl, hb1⟩)
    exact bodyPost_ret (v := .tuple #[.int .i64 0, .int .i64 0, .int .i64 3]) (by simp [results, Try.results11, go_sem]) rfl ⟨rfl, (below2 w _ _).trans (hb1.mono (by simp; omega))⟩
end Go.Proofs.Ythfmbmjjfdhhnaa
