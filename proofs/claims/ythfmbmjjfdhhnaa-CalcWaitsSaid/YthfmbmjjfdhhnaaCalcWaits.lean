/- For every list of curves, two curves and a wait the law CalcWaits returns true: the program's sums, waits and curves behind a queue are the specification's, and the examples hold. No condition. -/
import Derived.Test.YthfmbmjjfdhhnaaCf
import Derived.Test.YthfmbmjjfdhhnaaDv
import Derived.Lib.SmallJoins
namespace Go.Proofs.Ythfmbmjjfdhhnaa.calcWaits
open Go.ChangeShapes Go.WideShapes Go.ChangeAt Go.RowKit
set_option linter.unusedVariables false

set_option maxRecDepth 100000 in
set_option maxHeartbeats 4000000 in
theorem walk (l : List Cv) (ob or' hb hr x : Int) (a : Option Addr) (cap : Nat) (w : World) (hc : CsAt w (.slice a l.length cap) l) :
    Calls Try.prog 3 #[.slice a l.length cap, .agg #[.int .i64 ob, .int .i64 or'], .agg #[.int .i64 hb, .int .i64 hr], .int .i64 x] w fun e w' => e = .returned (.bool true) ∧ Below w.heap.size w w' := by
  by_cases hl : 100 < l.length
  · have z : ((l.length : Int) > 100) = True := by simp; omega
    clear hc
    go_enter Try.func3, Try.ntmps3
    go_wp2_with (go_at_call 6; refine (Lf.works_any _).mono ?_; rintro e w1 ⟨rfl, hb1⟩)
    go_ret
    exact ⟨rfl, (below2 w _ _).trans (hb1.mono (by simp; omega))⟩
  · obtain ⟨n, hn⟩ : ∃ n, n = l.length := ⟨_, rfl⟩
    rw [← hn] at hc hl ⊢
    have z : ((n : Int) > 100) = False := by simp; omega
    obtain ⟨i0, hi, hz0, hzz1, hzz2⟩ := info_parts info27
    have HN := Lib.hid hn
    have HC := Lib.hid hc
    clear hn hc
    have hb0 := below2 w (.cells #[.int .i64 ob, .int .i64 or'] 24) (.cells #[.int .i64 hb, .int .i64 hr] 24)
    have hx0 : CBox ((w.alloc (.cells #[.int .i64 ob, .int .i64 or'] 24)).alloc (.cells #[.int .i64 hb, .int .i64 hr] 24)) w.heap.size 24 ob or' := blk2a _ _ _
    have hx1 : CBox ((w.alloc (.cells #[.int .i64 ob, .int .i64 or'] 24)).alloc (.cells #[.int .i64 hb, .int .i64 hr] 24)) (w.heap.size + 1) 24 hb hr := blk2b _ _ _
    go_enter Try.func3, Try.ntmps3
    go_wp2
    generalize (w.alloc (.cells #[.int .i64 ob, .int .i64 or'] 24)).alloc (.cells #[.int .i64 hb, .int .i64 hr] 24) = W0 at *
    have HC0 := Lib.hid (HC.out.below hb0)
    have HB0 := Lib.hid hb0
    have HX0 := Lib.hid hx0
    have HX1 := Lib.hid hx1
    have hzW : w.heap.size + 1 < W0.heap.size := lt_of_block hx1
    clear hb0 hx0 hx1 HC
    go_loopw [9, 10] (fun s9 s10 wr => ∃ j : Nat, j ≤ n ∧ s10 = .int .i64 j ∧ wr.ownsRow W0.heap.size 27 2 s9 j (cvCs (l.take j)) ∧ Below W0.heap.size W0 wr) (fun _ s10 _ => n - (intOf s10).toNat)
    case atStart => exact ⟨0, Nat.zero_le _, rfl, World.ownsRow_nil _ _ _ _, Below.refl _ _⟩
    case round =>
      obtain ⟨j, hj, rfl, ho, hb'⟩ := hrel
      have HO := Lib.hid ho
      have HB := Lib.hid hb'
      have hzr := hb'.size
      clear ho hb'
      by_cases hlt : j < n
      · obtain ⟨c, hcj⟩ : ∃ c, l[j]? = some c := ⟨_, List.getElem?_eq_getElem (by rw [← HN.out]; exact hlt)⟩
        obtain ⟨g, off, rfl, hgl, hcc⟩ := (HC0.out.below HB.out).at hcj
        obtain ⟨_, _⟩ := hcc
        have htk := take_snoc hcj
        have HTK := Lib.hid htk
        have hi0 : (0 : Int) ≤ (j : Int) := Int.natCast_nonneg _
        have hi1 : (j : Int) < (n : Int) := by omega
        clear hcj htk
        go_wp2_with (first | (go_at_call 7; go_must (refine (bend_any _ _ _).mono ?_); rintro e w1 ⟨rfl, hb1⟩; have hO1 := ownsRow_of_block HO.out fun g hg => hb1.block g (HO.out.lt g hg).2; have HO1 := Lib.hid hO1; have HNEW := Lib.hid (show (w1.alloc (.cells #[.int .i64 c.b, .int .i64 c.r] 27)).heap[w1.heap.size]? = some (.cells ⟨cvV c⟩ 27) from alloc_new_at _ _ _ rfl); have hz1 := hb1.size; clear hO1) | (at_builtin; go_must (refine wpList_append_own _ rfl _ _ 26 rfl W0.heap.size 27 i0 _ 2 16 Try.underlying26 hi hz0 hzz1 hzz2 rfl (by decide) _ _ _ rfl (HO1.out.alloc _) ⟨w1.heap.size, 0, none⟩ 1 1 (cvV c) rfl rfl (cells_new HNEW.out) (by simp [cvV, Value.oneCell']) (by unfold maxLen; omega) (by omega) (by simp; omega) ?_); intro v' W8 hown' hgrow _))
        go_roundw
        case rel =>
          refine ⟨j + 1, by omega, by go_num, ?_, ?_⟩
          · rw [HTK.out, cvCs_snoc]; exact hown'
          · have hsz := hgrow.size
            rw [World.size_alloc] at hsz
            refine HB.out.trans ⟨hgrow.os.trans hb1.os, hgrow.tape.trans hb1.tape, hgrow.output.trans hb1.output, by omega, fun q hq => ?_⟩
            rw [hgrow.block q (by rw [World.size_alloc]; omega) (fun e => by have := (HO1.out.lt q e.symm).1; omega), Below.heap_alloc _ _ _ (by omega)]
            exact hb1.block q (by omega)
        case measure => simp [intOf]; omega
      · obtain rfl : n = j := by omega
        have hlt' : l.take n = l := by rw [HN.out]; simp
        have hown : wr.ownsRow W0.heap.size 27 2 u9 l.length (cvCs l) := by have := HO.out; rwa [hlt', HN.out] at this
        have hf : ∃ a' c', u9 = .slice a' n c' := by
          rcases Go.Joins.ownsRow_forms hown with ⟨e, h0⟩ | ⟨g, c, e⟩
          · exact ⟨none, 0, by rw [e, HN.out, h0]⟩
          · exact ⟨_, _, by rw [e, HN.out]⟩
        obtain ⟨a', c', rfl⟩ := hf
        have hcs : CsAt wr (.slice a' n c') l := csAt_of_owns hown
        have hs1 : Calls Try.prog 8 #[.slice a' n c'] wr (SumOut l wr) := by
          rw [HN.out]
          rw [HN.out] at hcs
          exact sum_any l a' c' (by rw [← HN.out]; omega) wr hcs
        have hs2 : ∀ W, Below W0.heap.size W0 W → Calls Try.prog 9 #[.slice a n cap] W (SumOut l W) := fun W hb => by
          have h0 := HC0.out.below hb
          rw [HN.out] at h0 ⊢
          exact rsum_any l a cap (by rw [← HN.out]; omega) W h0
        unfold SumOut at hs1 hs2
        generalize sB l = SB at *
        generalize sR l = SR at *
        generalize sumE l = SE at *
        have HS1 := Lib.hid hs1
        have HS2 := Lib.hid hs2
        clear hs1 hs2 hcs hown hlt' HO
        go_upto_region 9 with (go_at_call 8; refine HS1.out.mono ?_; rintro e w1 ⟨rfl, hb1⟩)
        have hB2 : Below W0.heap.size W0 (w1.alloc (.cells #[.int .i64 SB, .int .i64 SR] 27)) := (HB.out.trans (hb1.mono hzr)).alloc (by have := hb1.size; omega) _
        have hx2 : CBox (w1.alloc (.cells #[.int .i64 SB, .int .i64 SR] 27)) w1.heap.size 27 SB SR := alloc_new_at _ _ _ rfl
        have hg2 : W0.heap.size ≤ w1.heap.size := by have := hb1.size; omega
        generalize w1.alloc (.cells #[.int .i64 SB, .int .i64 SR] 27) = W2 at *
        generalize w1.heap.size = g2 at *
        clear hb1
        go_upto_region 10 with (go_at_call 9; refine (HS2.out _ hB2).mono ?_; rintro e w3 ⟨rfl, hb3⟩)
        have hB4 : Below W0.heap.size W0 (w3.alloc (.cells #[.int .i64 SB, .int .i64 SR] 24)) := (hB2.trans (hb3.mono hB2.size)).alloc (by have := hb3.size; have := hB2.size; omega) _
        have hx4 : CBox (w3.alloc (.cells #[.int .i64 SB, .int .i64 SR] 24)) w3.heap.size 24 SB SR := alloc_new_at _ _ _ rfl
        have hx42 : CBox (w3.alloc (.cells #[.int .i64 SB, .int .i64 SR] 24)) g2 27 SB SR := (Below.heap_alloc _ _ _ (by have := hb3.size; have := lt_of_block hx2; omega)).trans ((hb3.block _ (lt_of_block hx2)).trans hx2)
        have hg4 : g2 < w3.heap.size := by have := hb3.size; have := lt_of_block hx2; omega
        generalize w3.alloc (.cells #[.int .i64 SB, .int .i64 SR] 24) = W4 at *
        generalize w3.heap.size = g4 at *
        clear hb3 hx2 hB2 HS1 HS2
        have hne : g2 ≠ g4 := by omega
        have hxa : CBox W4 w.heap.size 24 ob or' := (hB4.block _ (by omega)).trans HX0.out
        have hxb : CBox W4 (w.heap.size + 1) 24 hb hr := (hB4.block _ hzW).trans HX1.out
        have HB4 := Lib.hid hB4
        have HX4 := Lib.hid hx4
        have HX42 := Lib.hid hx42
        have HXA := Lib.hid hxa
        have HXB := Lib.hid hxb
        have hl2 : g2 < W4.heap.size := lt_of_block hx42
        have hl4 : g4 < W4.heap.size := lt_of_block hx4
        clear hB4 hxa hxb HX0 HX1 HC0 HB
        obtain ⟨_, _, _, _⟩ := cells2 hx4
        obtain ⟨_, _, _, _⟩ := cells2 hx42
        clear hx4 hx42
        have hlA4 : w.heap.size < W4.heap.size := lt_of_block HXA.out
        have hlB4 : w.heap.size + 1 < W4.heap.size := lt_of_block HXB.out
        go_region_held3 (fun w' => w'.cell? ⟨g2, 0, none⟩ = some (.int .i64 SB) ∧ w'.cell? ⟨g2, 1, none⟩ = some (.int .i64 SR) ∧ w'.cell? ⟨g4, 0, none⟩ = some (.int .i64 SB) ∧ w'.cell? ⟨g4, 1, none⟩ = some (.int .i64 SR)) (go_keep)
          (first | (go_at_call 7; refine (bend_any _ _ _).mono ?_; rintro e w5 ⟨rfl, hb5⟩; have q5 : Below W4.heap.size W4 w5 := ⟨hb5.os, hb5.tape, hb5.output, hb5.size, hb5.block⟩; obtain ⟨_, _, _, _⟩ := cells2 ((q5.block _ hl4).trans HX4.out); obtain ⟨_, _, _, _⟩ := cells2 ((q5.block _ hl2).trans HX42.out); have Q5 := Lib.hid q5; clear hb5 q5))
        have hb05 : Below w.heap.size w w5 := (HB0.out.trans (HB4.out.mono (by omega))).trans (Q5.out.mono (by omega))
        have hxa5 := (Q5.out.block _ hlA4).trans HXA.out
        have hxb5 := (Q5.out.block _ hlB4).trans HXB.out
        have hx25 := (Q5.out.block _ hl2).trans HX42.out
        have hx45 := (Q5.out.block _ hl4).trans HX4.out
        have hwt : ∀ W, Calls Try.prog 10 #[.agg #[.int .i64 ob, .int .i64 or'], .agg #[.int .i64 hb, .int .i64 hr]] W (WaitOut ob or' hb hr W) := fun W => wait_any _ _ _ _ W
        have hrwt : ∀ W, Calls Try.prog 11 #[.agg #[.int .i64 ob, .int .i64 or'], .agg #[.int .i64 hb, .int .i64 hr]] W (WaitOut ob or' hb hr W) := fun W => rwait_any _ _ _ _ W
        unfold WaitOut at hwt hrwt
        generalize wtW ob or' hb hr = A1 at *
        generalize wtP ob or' hb hr = A2 at *
        generalize wtE ob or' hb hr = A3 at *
        have HWT := Lib.hid hwt
        have HRWT := Lib.hid hrwt
        have HXA5 := Lib.hid hxa5
        have HXB5 := Lib.hid hxb5
        have HX25 := Lib.hid hx25
        have HX45 := Lib.hid hx45
        have HB05 := Lib.hid hb05
        have hlA : w.heap.size < w5.heap.size := lt_of_block hxa5
        have hlB : w.heap.size + 1 < w5.heap.size := lt_of_block hxb5
        have hl25 : g2 < w5.heap.size := lt_of_block hx25
        have hl45 : g4 < w5.heap.size := lt_of_block hx45
        have hg22 : w.heap.size + 1 < g2 := by omega
        obtain ⟨_, _, _, _⟩ := cells2 hxa5
        obtain ⟨_, _, _, _⟩ := cells2 hxb5
        clear hwt hrwt hxa5 hxb5 hx25 hx45 hb05 Q5 HX4 HX42 HXA HXB HB4 HB0
        go_wp2
        go_region_held3 (fun w' => w'.cell? ⟨w.heap.size, 0, none⟩ = some (.int .i64 ob) ∧ w'.cell? ⟨w.heap.size, 1, none⟩ = some (.int .i64 or') ∧ w'.cell? ⟨w.heap.size + 1, 0, none⟩ = some (.int .i64 hb) ∧ w'.cell? ⟨w.heap.size + 1, 1, none⟩ = some (.int .i64 hr)) (go_keep)
          (first | (go_at_call 7; refine (bend_any _ _ _).mono ?_; rintro e w6 ⟨rfl, hb6⟩; have q6 : Below w5.heap.size w5 w6 := ⟨hb6.os, hb6.tape, hb6.output, hb6.size, hb6.block⟩; obtain ⟨_, _, _, _⟩ := cells2 ((q6.block _ hlA).trans HXA5.out); obtain ⟨_, _, _, _⟩ := cells2 ((q6.block _ hlB).trans HXB5.out); have Q6 := Lib.hid q6; clear hb6 q6) | (go_at_call 7; refine (bend_any _ _ _).mono ?_; rintro e w7 ⟨rfl, hb7⟩; have q7 : Below w5.heap.size w5 w7 := Q6.out.trans ((show Below w6.heap.size w6 w7 from ⟨hb7.os, hb7.tape, hb7.output, hb7.size, hb7.block⟩).mono Q6.out.size); obtain ⟨_, _, _, _⟩ := cells2 ((q7.block _ hlA).trans HXA5.out); obtain ⟨_, _, _, _⟩ := cells2 ((q7.block _ hlB).trans HXB5.out); have Q7 := Lib.hid q7; clear hb7 q7) | (go_at_call 10; refine (HWT.out _).mono ?_; rintro e w8 ⟨rfl, hb8⟩; have q8 : Below w5.heap.size w5 w8 := Q7.out.trans ((show Below w7.heap.size w7 w8 from ⟨hb8.os, hb8.tape, hb8.output, hb8.size, hb8.block⟩).mono Q7.out.size); obtain ⟨_, _, _, _⟩ := cells2 ((q8.block _ hlA).trans HXA5.out); obtain ⟨_, _, _, _⟩ := cells2 ((q8.block _ hlB).trans HXB5.out); have Q8 := Lib.hid q8; clear hb8 q8))
        go_upto_region 16 with (first | (go_at_call 11; refine (HRWT.out _).mono ?_; rintro e w9 ⟨rfl, hb9⟩))
        have q9 : Below w5.heap.size w5 w9 := Q8.out.trans ((show Below w8.heap.size w8 w9 from ⟨hb9.os, hb9.tape, hb9.output, hb9.size, hb9.block⟩).mono Q8.out.size)
        have haf : ∀ W, Calls Try.prog 12 #[.agg #[.int .i64 ob, .int .i64 or'], .int .i64 x] W (AfterOut ob or' x W) := fun W => after_any _ _ _ W
        have hraf : ∀ W, Calls Try.prog 13 #[.agg #[.int .i64 ob, .int .i64 or'], .int .i64 x] W (AfterOut ob or' x W) := fun W => rafter_any _ _ _ W
        have hor := afE_or ob or' x
        unfold AfterOut at haf hraf
        generalize afB ob or' x = AB at *
        generalize afR ob or' x = AR at *
        generalize afE ob or' x = AE at *
        have HAF := Lib.hid haf
        have HRAF := Lib.hid hraf
        have HOR := Lib.hid hor
        have hxa9 := (q9.block _ hlA).trans HXA5.out
        have hx29 := (q9.block _ hl25).trans HX25.out
        have hx49 := (q9.block _ hl45).trans HX45.out
        have hb09 : Below w.heap.size w w9 := HB05.out.trans (q9.mono (by omega))
        have HXA9 := Lib.hid hxa9
        have HX29 := Lib.hid hx29
        have HX49 := Lib.hid hx49
        have HB09 := Lib.hid hb09
        have hl9 : w.heap.size < w9.heap.size := lt_of_block hxa9
        have hl29 : g2 < w9.heap.size := lt_of_block hx29
        have hl49 : g4 < w9.heap.size := lt_of_block hx49
        obtain ⟨_, _, _, _⟩ := cells2 hxa9
        clear haf hraf hor hxa9 hx29 hx49 hb09 hb9 q9 Q6 Q7 Q8 HXA5 HXB5 HX25 HX45 HB05 HWT HRWT
        go_upto_region 17 with (first | (go_at_call 7; refine (bend_any _ _ _).mono ?_; rintro e w10 ⟨rfl, hb10⟩) | (go_at_call 12; refine (HAF.out _).mono ?_; rintro e w11 ⟨rfl, hb11⟩; have q11 : Below w9.heap.size w9 w11 := hb10.trans (hb11.mono hb10.size); have hx211 : CBox w11 g2 27 SB SR := (q11.block _ hl29).trans HX29.out; obtain ⟨_, _, _, _⟩ := cells2 hx211; have hl211 : g2 < w11.heap.size := lt_of_block hx211))
        have e11 : ∀ b, b ≠ g2 → ((w11.setCell ⟨g2, 0, none⟩ (.int .i64 AB)).setCell ⟨g2, 1, none⟩ (.int .i64 AR)).heap[b]? = w11.heap[b]? := fun b hb => by simp [World.setCell, Array.getElem?_modify, Ne.symm hb]
        have hs2 : CBox ((w11.setCell ⟨g2, 0, none⟩ (.int .i64 AB)).setCell ⟨g2, 1, none⟩ (.int .i64 AR)) g2 27 AB AR := cbox_set hx211
        have hb12 : Below w.heap.size w ((w11.setCell ⟨g2, 0, none⟩ (.int .i64 AB)).setCell ⟨g2, 1, none⟩ (.int .i64 AR)) := ((HB09.out.trans (q11.mono (by omega))).setCell (p := ⟨g2, 0, none⟩) (by show w.heap.size ≤ g2; omega) _).setCell (p := ⟨g2, 1, none⟩) (by show w.heap.size ≤ g2; omega) _
        generalize (w11.setCell ⟨g2, 0, none⟩ (.int .i64 AB)).setCell ⟨g2, 1, none⟩ (.int .i64 AR) = S1 at *
        have hxa1 := (e11 w.heap.size (by omega)).trans ((q11.block _ hl9).trans HXA9.out)
        have hx41 := (e11 g4 (by omega)).trans ((q11.block _ hl49).trans HX49.out)
        have HS2 := Lib.hid hs2
        have HB12 := Lib.hid hb12
        have HX41 := Lib.hid hx41
        have hl1 : w.heap.size < S1.heap.size := lt_of_block hxa1
        have hl12 : g2 < S1.heap.size := lt_of_block hs2
        have hl14 : g4 < S1.heap.size := lt_of_block hx41
        obtain ⟨_, _, _, _⟩ := cells2 hxa1
        clear hb10 hb11 q11 hx211 hl211 e11 hs2 hb12 hxa1 hx41 HXA9 HX29 HX49 HB09
        go_upto_region 18 with (first | (go_at_call 13; refine (HRAF.out _).mono ?_; rintro e w13 ⟨rfl, hb13⟩; have hx413 : CBox w13 g4 24 SB SR := (hb13.block _ hl14).trans HX41.out; obtain ⟨_, _, _, _⟩ := cells2 hx413; have hl413 : g4 < w13.heap.size := lt_of_block hx413))
        have e13 : ∀ b, b ≠ g4 → ((w13.setCell ⟨g4, 0, none⟩ (.int .i64 AB)).setCell ⟨g4, 1, none⟩ (.int .i64 AR)).heap[b]? = w13.heap[b]? := fun b hb => by simp [World.setCell, Array.getElem?_modify, Ne.symm hb]
        have hs4 : CBox ((w13.setCell ⟨g4, 0, none⟩ (.int .i64 AB)).setCell ⟨g4, 1, none⟩ (.int .i64 AR)) g4 24 AB AR := cbox_set hx413
        have hb14 : Below w.heap.size w ((w13.setCell ⟨g4, 0, none⟩ (.int .i64 AB)).setCell ⟨g4, 1, none⟩ (.int .i64 AR)) := ((HB12.out.trans (hb13.mono (by omega))).setCell (p := ⟨g4, 0, none⟩) (by show w.heap.size ≤ g4; omega) _).setCell (p := ⟨g4, 1, none⟩) (by show w.heap.size ≤ g4; omega) _
        generalize (w13.setCell ⟨g4, 0, none⟩ (.int .i64 AB)).setCell ⟨g4, 1, none⟩ (.int .i64 AR) = S2 at *
        have hs22 := (e13 g2 (by omega)).trans ((hb13.block _ hl12).trans HS2.out)
        have HS4 := Lib.hid hs4
        have HS22 := Lib.hid hs22
        have HB14 := Lib.hid hb14
        have hl2 : g2 < S2.heap.size := lt_of_block hs22
        have hl4' : g4 < S2.heap.size := lt_of_block hs4
        obtain ⟨_, _, _, _⟩ := cells2 hs4
        obtain ⟨_, _, _, _⟩ := cells2 hs22
        clear hb13 hx413 hl413 e13 hs4 hb14 hs22 HS2 HB12 HX41
        rcases HOR.out with hz | ⟨hz, hz1, hz2⟩
        · subst hz
          go_wp2
          go_region_held3 (fun w' => w'.cell? ⟨g2, 0, none⟩ = some (.int .i64 AB) ∧ w'.cell? ⟨g2, 1, none⟩ = some (.int .i64 AR) ∧ w'.cell? ⟨g4, 0, none⟩ = some (.int .i64 AB) ∧ w'.cell? ⟨g4, 1, none⟩ = some (.int .i64 AR)) (go_keep)
            (first | (go_at_call 7; refine (bend_any _ _ _).mono ?_; rintro e w20 ⟨rfl, hb20⟩; have q20 : Below S2.heap.size S2 w20 := ⟨hb20.os, hb20.tape, hb20.output, hb20.size, hb20.block⟩; obtain ⟨_, _, _, _⟩ := cells2 ((q20.block _ hl4').trans HS4.out); obtain ⟨_, _, _, _⟩ := cells2 ((q20.block _ hl2).trans HS22.out); have Q20 := Lib.hid q20; clear hb20 q20) | (go_at_call 6; refine (Lf.works_any _).mono ?_; rintro e w21 ⟨rfl, hb21⟩; have q21 : Below S2.heap.size S2 w21 := Q20.out.trans ((show Below w20.heap.size w20 w21 from ⟨hb21.os, hb21.tape, hb21.output, hb21.size, hb21.block⟩).mono Q20.out.size); obtain ⟨_, _, _, _⟩ := cells2 ((q21.block _ hl4').trans HS4.out); obtain ⟨_, _, _, _⟩ := cells2 ((q21.block _ hl2).trans HS22.out); have Q21 := Lib.hid q21; clear hb21 q21))
          go_wp2
          go_ret
          exact ⟨rfl, HB14.out.trans (Q21.out.mono HB14.out.size)⟩
        · subst hz hz1 hz2
          go_upto_region 20 with (fail)
          have e15 : ∀ b, b ≠ g4 → ((S2.setCell ⟨g4, 0, none⟩ (.int .i64 0)).setCell ⟨g4, 1, none⟩ (.int .i64 0)).heap[b]? = S2.heap[b]? := fun b hb => by simp [World.setCell, Array.getElem?_modify, Ne.symm hb]
          have hs5 : CBox ((S2.setCell ⟨g4, 0, none⟩ (.int .i64 0)).setCell ⟨g4, 1, none⟩ (.int .i64 0)) g4 24 0 0 := cbox_set HS4.out
          have hb15 : Below w.heap.size w ((S2.setCell ⟨g4, 0, none⟩ (.int .i64 0)).setCell ⟨g4, 1, none⟩ (.int .i64 0)) := (HB14.out.setCell (p := ⟨g4, 0, none⟩) (by show w.heap.size ≤ g4; omega) _).setCell (p := ⟨g4, 1, none⟩) (by show w.heap.size ≤ g4; omega) _
          generalize (S2.setCell ⟨g4, 0, none⟩ (.int .i64 0)).setCell ⟨g4, 1, none⟩ (.int .i64 0) = S3 at *
          have hs25 := (e15 g2 (by omega)).trans HS22.out
          have HS5 := Lib.hid hs5
          have HS25 := Lib.hid hs25
          have HB15 := Lib.hid hb15
          have hl25' : g2 < S3.heap.size := lt_of_block hs25
          have hl45' : g4 < S3.heap.size := lt_of_block hs5
          obtain ⟨_, _, _, _⟩ := cells2 hs5
          obtain ⟨_, _, _, _⟩ := cells2 hs25
          clear e15 hs5 hb15 hs25
          go_region_held3 (fun w' => w'.cell? ⟨g2, 0, none⟩ = some (.int .i64 0) ∧ w'.cell? ⟨g2, 1, none⟩ = some (.int .i64 0) ∧ w'.cell? ⟨g4, 0, none⟩ = some (.int .i64 0) ∧ w'.cell? ⟨g4, 1, none⟩ = some (.int .i64 0)) (go_keep)
            (first | (go_at_call 7; refine (bend_any _ _ _).mono ?_; rintro e w20 ⟨rfl, hb20⟩; have q20 : Below S3.heap.size S3 w20 := ⟨hb20.os, hb20.tape, hb20.output, hb20.size, hb20.block⟩; obtain ⟨_, _, _, _⟩ := cells2 ((q20.block _ hl45').trans HS5.out); obtain ⟨_, _, _, _⟩ := cells2 ((q20.block _ hl25').trans HS25.out); have Q20 := Lib.hid q20; clear hb20 q20) | (go_at_call 6; refine (Lf.works_any _).mono ?_; rintro e w21 ⟨rfl, hb21⟩; have q21 : Below S3.heap.size S3 w21 := Q20.out.trans ((show Below w20.heap.size w20 w21 from ⟨hb21.os, hb21.tape, hb21.output, hb21.size, hb21.block⟩).mono Q20.out.size); obtain ⟨_, _, _, _⟩ := cells2 ((q21.block _ hl45').trans HS5.out); obtain ⟨_, _, _, _⟩ := cells2 ((q21.block _ hl25').trans HS25.out); have Q21 := Lib.hid q21; clear hb21 q21))
          go_wp2
          go_ret
          exact ⟨rfl, HB15.out.trans (Q21.out.mono HB15.out.size)⟩

set_option maxRecDepth 100000 in
theorem lifted (os : Os) (started : os.Started) (H : Type) (enc : TypeId × Value → H) :
    ReturnsInHanded {} Try.checked os 3 .any (Rows.calcWaitsSpec.pre6 enc Try.prog Try.f3 Rows.calcWaitsRow.domain false) (Rows.calcWaitsSpec.post enc Try.prog Try.f3 false true false false) := by
  refine returnsInHanded_of_change (C := Try.checked) Lf.own started (by kernel_rfl) Try.func3
    (ChangeSpec.witness6 (enc := enc) (C := Try.checked) false ⟨#[], #[.slice none 0 0, .agg #[.int .i64 0, .int .i64 0], .agg #[.int .i64 0, .int .i64 0], .int .i64 0], []⟩ 8 (by kernel_rfl) (by kernel_rfl) (by kernel_rfl) (by kernel_rfl)) ?_
  intro W base args ds gs before hval0 hW hcnd hsz
  have hval : ∀ (j : Nat) t v, Try.f3.params[j]? = some t → args[j]? = some v → Value.okWide Try.prog W .any base t v := hval0
  have hW' := hW
  obtain ⟨p, q, hA0, hV, rfl, hfz, hnd⟩ := hW
  have hA : DataW.TrodAll enc Try.prog W 0 (fun _ => true) true Try.f3.params.toList args.toList ds p := hA0
  rw [Try.params3] at hA hval
  have hAll := hA
  obtain ⟨v0, vs0, d0, ds0, p0, q0, hargs, rfl, rfl, h0, r0⟩ := trodAll_cons hA
  obtain ⟨v1, vs1, d1, ds1, p1, q1, rfl, rfl, rfl, h1, r1⟩ := trodAll_cons r0
  obtain ⟨v2, vs2, d2, ds2, p2, q2, rfl, rfl, rfl, h2, r2⟩ := trodAll_cons r1
  obtain ⟨v3, vs3, d3, ds3, p3, q3, rfl, rfl, rfl, h3, r3⟩ := trodAll_cons r2
  obtain ⟨rfl, rfl, rfl⟩ := trodAll_nil r3
  obtain rfl : args = #[v0, v1, v2, v3] := by cases args; simp_all
  obtain ⟨rfl, rfl⟩ := trodVars_none hV
  obtain ⟨l0, a0, c0, rfl, hc0⟩ := open_curves (hval 0 22 v0 rfl rfl) h0
  obtain ⟨b1, r1', rfl⟩ := open_curve (hval 1 24 v1 rfl rfl) h1
  obtain ⟨b2, r2', rfl⟩ := open_curve (hval 2 24 v2 rfl rfl) h2
  obtain ⟨a3, rfl, rfl, rfl, w3⟩ := open_int Try.underlying3 (hval 3 3 v3 rfl rfl) h3
  clear hA0 hval0
  refine (walk l0 b1 r1' b2 r2' a3 a0 c0 W hc0).mono fun e W' ⟨he, bel⟩ => ?_
  subst he
  have hback := Lf.trodAll_below bel [22, 24, 24, 3] (by intro t ht; simp at ht; rcases ht with rfl | rfl | rfl | rfl <;> exact ⟨by kernel_rfl, of_decide_eq_true (by kernel_rfl)⟩) hAll
  exact ⟨_, rfl, _, _, _, [], _, [], hW', trodAll_mk1 (shut_bool Try.underlying4 _), hback, rfl, bel.frame _, fun h => by cases h⟩

theorem over : Rows.calcWaitsRow.holds Try.pinned (OpenSpec.ofChange Rows.calcWaitsSpec) :=
  OpenClaim.holds_of_wide 3 Try.f3 rfl rfl rfl rfl rfl rfl rfl ⟨rfl, rfl, rfl, rfl, rfl⟩ rfl rfl rfl rfl rfl (by kernel_rfl) Try.func3 (by kernel_rfl)
    (of_decide_eq_true (by kernel_rfl)) (by unfold Func.isWrapper; first | (rw [if_pos (by decide +kernel)]; kernel_rfl) | (rw [if_neg (by decide +kernel)]; exact ⟨rfl, rfl⟩))
    (fun os started H enc _ => lifted os started H enc)

theorem proved : Rows.CalcWaitsSaid := over

end Go.Proofs.Ythfmbmjjfdhhnaa.calcWaits
