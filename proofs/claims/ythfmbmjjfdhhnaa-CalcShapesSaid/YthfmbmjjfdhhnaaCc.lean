/- Both Sums. -/
import Derived.Test.YthfmbmjjfdhhnaaCb
namespace Go.Proofs.Ythfmbmjjfdhhnaa
set_option linter.unusedVariables false
open Go.RowKit

def allOk (l : List Cv) : Prop := ∀ c ∈ l, cE c.b c.r = 0
open Classical in
noncomputable def sumE (l : List Cv) : Int := if allOk l then cE (sumB l) (sumR l) else 3
noncomputable def sB (l : List Cv) : Int := if sumE l = 0 then sumB l else 0
noncomputable def sR (l : List Cv) : Int := if sumE l = 0 then sumR l else 0
theorem sumE_ok {l : List Cv} (h : allOk l) : sumE l = cE (sumB l) (sumR l) := if_pos h
theorem sumE_bad {l : List Cv} {j : Nat} {c : Cv} (h : l[j]? = some c) (hc : cE c.b c.r ≠ 0) : sumE l = 3 := if_neg fun ha => hc (ha c (List.mem_of_getElem? h))
theorem allOk_small {l : List Cv} (h : allOk l) : Small l := fun c hc => by have := cE_zero (h c hc); omega
theorem allOk_of {l : List Cv} {n : Nat} (hn : n = l.length) (h : ∀ k c, k < n → l[k]? = some c → cE c.b c.r = 0) : allOk l := fun c hc => by
  obtain ⟨k, hk⟩ := List.getElem?_of_mem hc
  exact h k c (by rw [hn]; exact (List.getElem?_eq_some_iff.1 hk).1) hk
theorem sum_append (a b : List Cv) : sumB (a ++ b) = sumB a + sumB b ∧ sumR (a ++ b) = sumR a + sumR b := by simp [sumB, sumR]
theorem sum_split (l : List Cv) (j : Nat) : sumB l = sumB (l.take j) + sumB (l.drop j) ∧ sumR l = sumR (l.take j) + sumR (l.drop j) := by
  have h := sum_append (l.take j) (l.drop j)
  rwa [List.take_append_drop] at h
theorem part_bad {l : List Cv} (h : allOk l) {j : Nat} (hb : cE (sumB (l.take j)) (sumR (l.take j)) ≠ 0) : cE (sumB l) (sumR l) = 3 := by
  have h1 := small_sum (l := l.take j) (small_take (allOk_small h) j)
  have h2 := small_sum (l := l.drop j) fun c hc => allOk_small h c (List.mem_of_mem_drop hc)
  obtain ⟨e1, e2⟩ := sum_split l j
  rcases cE_or (sumB l) (sumR l) with h0 | h0
  · exfalso
    have h3 := cE_zero h0
    apply hb
    unfold cE
    rw [if_pos]
    omega
  · exact h0
def SumOut (l : List Cv) (w : World) (e : Ending) (w' : World) : Prop := e = .returned (.tuple #[.agg #[.int .i64 (sB l), .int .i64 (sR l)], .int .i64 (sumE l)]) ∧ Below w.heap.size w w'
theorem sumOut_bad {l : List Cv} (h : sumE l = 3) {w w' : World} (hb : Below w.heap.size w w') : SumOut l w (.returned (.tuple #[.agg #[.int .i64 0, .int .i64 0], .int .i64 3])) w' := by
  refine ⟨?_, hb⟩
  simp [sB, sR, h]
theorem sumOut_all {l : List Cv} (h : allOk l) {w w' : World} (hb : Below w.heap.size w w') : SumOut l w (.returned (.tuple #[.agg #[.int .i64 (ckB (sumB l) (sumR l)), .int .i64 (ckR (sumB l) (sumR l))], .int .i64 (cE (sumB l) (sumR l))])) w' := by
  refine ⟨?_, hb⟩
  simp only [sB, sR, sumE_ok h, ckB, ckR]

set_option maxRecDepth 100000 in
set_option maxHeartbeats 2000000 in
theorem sum_any (l : List Cv) (a : Option Addr) (cap : Nat) (hl : l.length ≤ 1000) (w : World) (hc : CsAt w (.slice a l.length cap) l) :
    Calls Try.prog 8 #[.slice a l.length cap] w (SumOut l w) := by
  have hadd : allOk l → ∀ W, Below w.heap.size w W → Calls Try.prog 26 #[.slice a l.length cap] W fun e w' => e = .returned (.agg #[.int .i64 (sumB l), .int .i64 (sumR l)]) ∧ Below W.heap.size W w' := fun h W hb => add_any l a cap hl (allOk_small h) W (hc.below hb)
  obtain ⟨n, hn⟩ : ∃ n, n = l.length := ⟨_, rfl⟩
  rw [← hn] at hl hc hadd ⊢
  have HADD := Lib.hid hadd
  have HC := Lib.hid hc
  have HN := Lib.hid hn
  clear hc hn hadd
  have hb0 : Below w.heap.size w (w.alloc (.cells #[.int .i64 0, .int .i64 0] 27)) := (Below.refl _ _).alloc (Nat.le_refl _) _
  have hx0 : CBox (w.alloc (.cells #[.int .i64 0, .int .i64 0] 27)) w.heap.size 27 0 0 := alloc_new_at _ _ _ rfl
  go_enter Try.func8, Try.ntmps8
  go_wp2
  generalize w.alloc (.cells #[.int .i64 0, .int .i64 0] 27) = W0 at *
  go_loopw [9] (fun i wr => ∃ j : Nat, j ≤ n ∧ i = .int .i64 j ∧ Below w.heap.size w wr ∧ CBox wr w.heap.size 27 0 0 ∧ ∀ k c, k < j → l[k]? = some c → cE c.b c.r = 0) (fun i _ => n - (intOf i).toNat)
  case atStart => exact ⟨0, Nat.zero_le _, rfl, hb0, hx0, fun k c h => absurd h (by omega)⟩
  case round =>
    obtain ⟨j, hj, rfl, hb, hx, hall⟩ := hrel
    have HB := Lib.hid hb
    have HX := Lib.hid hx
    have HALL := Lib.hid hall
    have hz : w.heap.size < wr.heap.size := lt_of_block hx
    obtain ⟨_, _, _, _⟩ := cells2 hx
    clear hb hx hall hb0 hx0
    by_cases hlt : j < n
    · obtain ⟨c, hcj⟩ : ∃ c, l[j]? = some c := ⟨_, List.getElem?_eq_getElem (by rw [← HN.out]; exact hlt)⟩
      obtain ⟨g, off, rfl, hgl, hcc⟩ := (HC.out.below HB.out).at hcj
      obtain ⟨_, _⟩ := hcc
      have hi0 : (0 : Int) ≤ (j : Int) := Int.natCast_nonneg _
      have hi1 : (j : Int) < (n : Int) := by omega
      have HCJ := Lib.hid hcj
      have hbx : CBox (wr.alloc (.cells #[.int .i64 c.b, .int .i64 c.r] 27)) w.heap.size 27 0 0 := (Below.heap_alloc _ _ _ hz).trans HX.out
      have hbb : Below w.heap.size w (wr.alloc (.cells #[.int .i64 c.b, .int .i64 c.r] 27)) := HB.out.alloc (by omega) _
      have hck : Calls Try.prog 24 #[.agg #[.int .i64 c.b, .int .i64 c.r]] (wr.alloc (.cells #[.int .i64 c.b, .int .i64 c.r] 27)) fun e w' => e = .returned (.int .i64 (cE c.b c.r)) ∧ Below (wr.alloc (.cells #[.int .i64 c.b, .int .i64 c.r] 27)).heap.size (wr.alloc (.cells #[.int .i64 c.b, .int .i64 c.r] 27)) w' := check_any _ _ _
      clear hcj
      rcases cE_or c.b c.r with h0 | h0
      · rw [h0] at hck
        have HCK := Lib.hid hck
        clear hck
        go_wp2_with (go_at_call 24; refine HCK.out.mono ?_; rintro e w1 ⟨rfl, hb1⟩)
        go_roundw
        case rel =>
          refine ⟨j + 1, by omega, by go_num, hbb.trans (hb1.mono hbb.size), (hb1.block _ (lt_of_block hbx)).trans hbx, fun k c' hk hc' => ?_⟩
          by_cases hkj : k < j
          · exact HALL.out k c' hkj hc'
          · obtain rfl : k = j := by omega
            rw [HCJ.out] at hc'; cases hc'; exact h0
        case measure => simp [intOf]; omega
      · rw [h0] at hck
        have HCK := Lib.hid hck
        have hS3 : sumE l = 3 := sumE_bad HCJ.out (by omega)
        have HS3 := Lib.hid hS3
        clear hck hS3
        go_wp2_with (go_at_call 24; refine HCK.out.mono ?_; rintro e w1 ⟨rfl, hb1⟩; have hx1 : CBox w1 w.heap.size 27 0 0 := (hb1.block _ (lt_of_block hbx)).trans hbx; obtain ⟨_, _, _, _⟩ := cells2 hx1; have hz1 : w.heap.size < w1.heap.size := lt_of_block hx1)
        have hS := cbox_set (a := 0) (b := 0) hx1
        have hB := ((hbb.trans (hb1.mono hbb.size)).setCell (p := ⟨w.heap.size, 0, none⟩) (Nat.le_refl _) (.int .i64 0)).setCell (p := ⟨w.heap.size, 1, none⟩) (Nat.le_refl _) (.int .i64 0)
        generalize (w1.setCell ⟨w.heap.size, 0, none⟩ (.int .i64 0)).setCell ⟨w.heap.size, 1, none⟩ (.int .i64 0) = S at *
        obtain ⟨d0, d1, _, _⟩ := cells2 hS
        exact bodyPost_ret (v := .tuple #[.agg #[.int .i64 0, .int .i64 0], .int .i64 3]) (by simp [results, Try.results8, go_sem, d0, d1]) rfl (sumOut_bad HS3.out hB)
    · obtain rfl : n = j := by omega
      have hok := allOk_of HN.out HALL.out
      have HOK := Lib.hid hok
      have ha := HADD.out hok wr HB.out
      have hchk : ∀ W, Calls Try.prog 25 #[.agg #[.int .i64 (sumB l), .int .i64 (sumR l)]] W fun e w' => e = .returned (.tuple #[.agg #[.int .i64 (ckB (sumB l) (sumR l)), .int .i64 (ckR (sumB l) (sumR l))], .int .i64 (cE (sumB l) (sumR l))]) ∧ Below W.heap.size W w' := fun W => checked_any _ _ W
      generalize hb' : ckB (sumB l) (sumR l) = X at *
      generalize hr' : ckR (sumB l) (sumR l) = Y at *
      generalize he' : cE (sumB l) (sumR l) = Z at *
      have HA := Lib.hid ha
      have HCH := Lib.hid hchk
      have HXX := Lib.hid hb'
      have HYY := Lib.hid hr'
      have HZZ := Lib.hid he'
      clear ha hchk hok hb' hr' he'
      go_wp2_with (first | (go_at_call 26; refine HA.out.mono ?_; rintro e w1 ⟨rfl, hb1⟩; have hx1 : CBox w1 w.heap.size 27 0 0 := (hb1.block _ hz).trans HX.out) | (go_at_call 25; refine (HCH.out _).mono ?_; rintro e w2 ⟨rfl, hb2⟩; have hx2 : CBox w2 w.heap.size 27 0 0 := (hb2.block _ (lt_of_block hx1)).trans hx1; obtain ⟨_, _, _, _⟩ := cells2 hx2; have hz2 : w.heap.size < w2.heap.size := lt_of_block hx2))
      have hS := cbox_set (a := X) (b := Y) hx2
      have hB := (((HB.out.trans (hb1.mono HB.out.size)).trans (hb2.mono (by have := hb1.size; omega))).setCell (p := ⟨w.heap.size, 0, none⟩) (Nat.le_refl _) (.int .i64 X)).setCell (p := ⟨w.heap.size, 1, none⟩) (Nat.le_refl _) (.int .i64 Y)
      generalize (w2.setCell ⟨w.heap.size, 0, none⟩ (.int .i64 X)).setCell ⟨w.heap.size, 1, none⟩ (.int .i64 Y) = S at *
      obtain ⟨d0, d1, _, _⟩ := cells2 hS
      refine bodyPost_ret (v := .tuple #[.agg #[.int .i64 X, .int .i64 Y], .int .i64 Z]) (by simp [results, Try.results8, go_sem, d0, d1]) rfl ?_
      rw [← HXX.out, ← HYY.out, ← HZZ.out]
      exact sumOut_all HOK.out hB
set_option maxRecDepth 100000 in
set_option maxHeartbeats 2000000 in
theorem rsum_any (l : List Cv) (a : Option Addr) (cap : Nat) (hl : l.length ≤ 1000) (w : World) (hc : CsAt w (.slice a l.length cap) l) :
    Calls Try.prog 9 #[.slice a l.length cap] w (SumOut l w) := by
  obtain ⟨n, hn⟩ : ∃ n, n = l.length := ⟨_, rfl⟩
  rw [← hn] at hl hc ⊢
  have HC := Lib.hid hc
  have HN := Lib.hid hn
  clear hc hn
  have hb0 : Below w.heap.size w ((w.alloc (.cells #[.int .i64 0, .int .i64 0] 24)).alloc (.cells #[.int .i64 0, .int .i64 0] 24)) := below2 w _ _
  have hx0 : CBox ((w.alloc (.cells #[.int .i64 0, .int .i64 0] 24)).alloc (.cells #[.int .i64 0, .int .i64 0] 24)) w.heap.size 24 0 0 := blk2a _ _ _
  have hx1 : CBox ((w.alloc (.cells #[.int .i64 0, .int .i64 0] 24)).alloc (.cells #[.int .i64 0, .int .i64 0] 24)) (w.heap.size + 1) 24 0 0 := blk2b _ _ _
  go_enter Try.func9, Try.ntmps9
  go_wp2
  generalize (w.alloc (.cells #[.int .i64 0, .int .i64 0] 24)).alloc (.cells #[.int .i64 0, .int .i64 0] 24) = W0 at *
  go_loopw [5] (fun i wr => ∃ j : Nat, j ≤ n ∧ i = .int .i64 j ∧ Below w.heap.size w wr ∧ CBox wr w.heap.size 24 0 0 ∧ CBox wr (w.heap.size + 1) 24 0 0 ∧ ∀ k c, k < j → l[k]? = some c → cE c.b c.r = 0) (fun i _ => n - (intOf i).toNat)
  case atStart => exact ⟨0, Nat.zero_le _, rfl, hb0, hx0, hx1, fun k c h => absurd h (by omega)⟩
  case round =>
    obtain ⟨j, hj, rfl, hb, hx, hy, hall⟩ := hrel
    have HB := Lib.hid hb
    have HX := Lib.hid hx
    have HY := Lib.hid hy
    have HALL := Lib.hid hall
    have hz : w.heap.size + 1 < wr.heap.size := lt_of_block hy
    obtain ⟨_, _, _, _⟩ := cells2 hx
    obtain ⟨_, _, _, _⟩ := cells2 hy
    clear hb hx hall hb0 hx0 hx1 hy
    by_cases hlt : j < n
    · obtain ⟨c, hcj⟩ : ∃ c, l[j]? = some c := ⟨_, List.getElem?_eq_getElem (by rw [← HN.out]; exact hlt)⟩
      obtain ⟨g, off, rfl, hgl, hcc⟩ := (HC.out.below HB.out).at hcj
      obtain ⟨_, _⟩ := hcc
      have hi0 : (0 : Int) ≤ (j : Int) := Int.natCast_nonneg _
      have hi1 : (j : Int) < (n : Int) := by omega
      have HCJ := Lib.hid hcj
      have hck : Calls Try.prog 27 #[.agg #[.int .i64 c.b, .int .i64 c.r]] wr fun e w' => e = .returned (.int .i64 (cE c.b c.r)) ∧ Below wr.heap.size wr w' := rcheck_any _ _ _
      clear hcj
      rcases cE_or c.b c.r with h0 | h0
      · rw [h0] at hck
        have HCK := Lib.hid hck
        clear hck
        go_wp2_with (go_at_call 27; refine HCK.out.mono ?_; rintro e w1 ⟨rfl, hb1⟩)
        go_roundw
        case rel =>
          refine ⟨j + 1, by omega, by go_num, HB.out.trans (hb1.mono HB.out.size), (hb1.block _ (by omega)).trans HX.out, (hb1.block _ hz).trans HY.out, fun k c' hk hc' => ?_⟩
          by_cases hkj : k < j
          · exact HALL.out k c' hkj hc'
          · obtain rfl : k = j := by omega
            rw [HCJ.out] at hc'; cases hc'; exact h0
        case measure => simp [intOf]; omega
      · rw [h0] at hck
        have HCK := Lib.hid hck
        have hS3 : sumE l = 3 := sumE_bad HCJ.out (by omega)
        have HS3 := Lib.hid hS3
        clear hck hS3
        go_wp2_with (go_at_call 27; refine HCK.out.mono ?_; rintro e w1 ⟨rfl, hb1⟩; have hx1 : CBox w1 w.heap.size 24 0 0 := (hb1.block _ (by omega)).trans HX.out; obtain ⟨_, _, _, _⟩ := cells2 hx1; have hz1 : w.heap.size < w1.heap.size := lt_of_block hx1)
        have hS := cbox_set (a := 0) (b := 0) hx1
        have hB := ((HB.out.trans (hb1.mono HB.out.size)).setCell (p := ⟨w.heap.size, 0, none⟩) (Nat.le_refl _) (.int .i64 0)).setCell (p := ⟨w.heap.size, 1, none⟩) (Nat.le_refl _) (.int .i64 0)
        generalize (w1.setCell ⟨w.heap.size, 0, none⟩ (.int .i64 0)).setCell ⟨w.heap.size, 1, none⟩ (.int .i64 0) = S at *
        obtain ⟨d0, d1, _, _⟩ := cells2 hS
        exact bodyPost_ret (v := .tuple #[.agg #[.int .i64 0, .int .i64 0], .int .i64 3]) (by simp [results, Try.results9, go_sem, d0, d1]) rfl (sumOut_bad HS3.out hB)
    · obtain rfl : n = j := by omega
      have hok := allOk_of HN.out HALL.out
      have HOK := Lib.hid hok
      have HSM := Lib.hid (allOk_small hok)
      clear hok
      go_wp2
      go_loopw [7] (fun i wr => ∃ j : Nat, j ≤ n ∧ i = .int .i64 j ∧ Below w.heap.size w wr ∧ CBox wr w.heap.size 24 0 0 ∧ CBox wr (w.heap.size + 1) 24 (sumB (l.take j)) (sumR (l.take j)) ∧ cE (sumB (l.take j)) (sumR (l.take j)) = 0) (fun i _ => n - (intOf i).toNat)
      case atStart => exact ⟨0, Nat.zero_le _, rfl, HB.out, HX.out, HY.out, by simp [sumB, sumR, cE]⟩
      case round =>
        clear hz
        obtain ⟨j, hj, rfl, hb, hx, hy, hce⟩ := hrel
        have HB2 := Lib.hid hb
        have HX2 := Lib.hid hx
        have HY2 := Lib.hid hy
        have HCE := Lib.hid hce
        have hz : w.heap.size + 1 < wr.heap.size := lt_of_block hy
        obtain ⟨_, _, _, _⟩ := cells2 hx
        obtain ⟨_, _, _, _⟩ := cells2 hy
        have hy7 : CBox wr.drew (w.heap.size + 1) 24 (sumB (l.take j)) (sumR (l.take j)) := hy
        have hx7 : CBox wr.drew w.heap.size 24 0 0 := hx
        have hb7 : Below w.heap.size w wr.drew := hb.drew
        clear hb hx hy hce
        by_cases hlt : j < n
        · obtain ⟨c, hcj⟩ : ∃ c, l[j]? = some c := ⟨_, List.getElem?_eq_getElem (by rw [← HN.out]; exact hlt)⟩
          obtain ⟨g, off, rfl, hgl, hcc⟩ := (HC.out.below HB2.out).at hcj
          obtain ⟨_, _⟩ := hcc
          have hsn := sum_snoc (l.take j) c
          have hq := small_sum (small_take HSM.out (j + 1))
          have hq0 := small_sum (small_take HSM.out j)
          rw [take_snoc hcj, hsn.1, hsn.2] at hq
          have hln : (l.take j ++ [c]).length ≤ 1001 := by simp; omega
          have w1 : wrap64 (sumB (l.take j) + c.b) = sumB (l.take j) + c.b := by unfold wrap64; omega
          have w2 : wrap64 (sumR (l.take j) + c.r) = sumR (l.take j) + c.r := by unfold wrap64; omega
          have ht1 : sumB (l.take (j + 1)) = sumB (l.take j) + c.b := by rw [take_snoc hcj, hsn.1]
          have ht2 : sumR (l.take (j + 1)) = sumR (l.take j) + c.r := by rw [take_snoc hcj, hsn.2]
          have HT1 := Lib.hid ht1
          have HT2 := Lib.hid ht2
          have hi0 : (0 : Int) ≤ (j : Int) := Int.natCast_nonneg _
          have hi1 : (j : Int) < (n : Int) := by omega
          have hck : ∀ W, Calls Try.prog 27 #[.agg #[.int .i64 (sumB (l.take j) + c.b), .int .i64 (sumR (l.take j) + c.r)]] W fun e w' => e = .returned (.int .i64 (cE (sumB (l.take j) + c.b) (sumR (l.take j) + c.r))) ∧ Below W.heap.size W w' := fun W => rcheck_any _ _ _
          clear hcj hsn hq hq0 hln ht1 ht2
          have hS7 : CBox ((wr.drew.setCell ⟨w.heap.size + 1, 0, none⟩ (.int .i64 (sumB (l.take j) + c.b))).setCell ⟨w.heap.size + 1, 1, none⟩ (.int .i64 (sumR (l.take j) + c.r))) (w.heap.size + 1) 24 (sumB (l.take j) + c.b) (sumR (l.take j) + c.r) := cbox_set hy7
          have hX7 : CBox ((wr.drew.setCell ⟨w.heap.size + 1, 0, none⟩ (.int .i64 (sumB (l.take j) + c.b))).setCell ⟨w.heap.size + 1, 1, none⟩ (.int .i64 (sumR (l.take j) + c.r))) w.heap.size 24 0 0 := by
            unfold CBox at *
            simp [World.setCell, Array.getElem?_modify, hx7]
          have hB7 : Below w.heap.size w ((wr.drew.setCell ⟨w.heap.size + 1, 0, none⟩ (.int .i64 (sumB (l.take j) + c.b))).setCell ⟨w.heap.size + 1, 1, none⟩ (.int .i64 (sumR (l.take j) + c.r))) := (hb7.setCell (p := ⟨w.heap.size + 1, 0, none⟩) (by simp) _).setCell (p := ⟨w.heap.size + 1, 1, none⟩) (by simp) _
          go_upto_region 11 with (fail)
          go_still_tail 17, (by kernel_rfl)
          change wpList _ _ _ _ _ wr.drew
          generalize wr.drew = W7 at *
          obtain ⟨_, _, _, _⟩ := cells2 hy7
          go_upto_region 12 with (fail)
          rw [w1, w2]
          generalize (W7.setCell ⟨w.heap.size + 1, 0, none⟩ (.int .i64 (sumB (l.take j) + c.b))).setCell ⟨w.heap.size + 1, 1, none⟩ (.int .i64 (sumR (l.take j) + c.r)) = W8 at *
          obtain ⟨_, _, _, _⟩ := cells2 hS7
          rcases cE_or (sumB (l.take j) + c.b) (sumR (l.take j) + c.r) with h0 | h0
          · rw [h0] at hck
            have HCK := Lib.hid hck
            clear hck
            go_wp2_with (go_at_call 27; refine (HCK.out _).mono ?_; rintro e w3 ⟨rfl, hb3⟩)
            go_roundw
            case rel =>
              refine ⟨j + 1, by omega, by go_num, hB7.trans (hb3.mono hB7.size), (hb3.block _ (lt_of_block hX7)).trans hX7, ?_, ?_⟩
              · rw [HT1.out, HT2.out]; exact (hb3.block _ (lt_of_block hS7)).trans hS7
              · rw [HT1.out, HT2.out]; exact h0
            case measure => simp [intOf]; omega
          · rw [h0] at hck
            have HCK := Lib.hid hck
            have hS3 : sumE l = 3 := by
              rw [sumE_ok HOK.out]
              exact part_bad (j := j + 1) HOK.out (by rw [HT1.out, HT2.out, h0]; omega)
            have HS3 := Lib.hid hS3
            clear hck hS3
            go_wp2_with (go_at_call 27; refine (HCK.out _).mono ?_; rintro e w3 ⟨rfl, hb3⟩; have hx3 : CBox w3 w.heap.size 24 0 0 := (hb3.block _ (lt_of_block hX7)).trans hX7; obtain ⟨_, _, _, _⟩ := cells2 hx3; have hz3 : w.heap.size < w3.heap.size := lt_of_block hx3)
            have hS := cbox_set (a := 0) (b := 0) hx3
            have hB := ((hB7.trans (hb3.mono hB7.size)).setCell (p := ⟨w.heap.size, 0, none⟩) (Nat.le_refl _) (.int .i64 0)).setCell (p := ⟨w.heap.size, 1, none⟩) (Nat.le_refl _) (.int .i64 0)
            generalize (w3.setCell ⟨w.heap.size, 0, none⟩ (.int .i64 0)).setCell ⟨w.heap.size, 1, none⟩ (.int .i64 0) = S at *
            obtain ⟨d0, d1, _, _⟩ := cells2 hS
            exact bodyPost_ret (v := .tuple #[.agg #[.int .i64 0, .int .i64 0], .int .i64 3]) (by simp [results, Try.results9, go_sem, d0, d1]) rfl (sumOut_bad HS3.out hB)
        · obtain rfl : n = j := by omega
          have hlt' : l.take n = l := by rw [HN.out]; simp
          have hce := HCE.out
          rw [hlt'] at hce
          have HCE2 := Lib.hid hce
          clear hce hy7 hx7 hb7
          go_wp2
          have hS := cbox_set (a := sumB l) (b := sumR l) HX2.out
          have hB := (HB2.out.setCell (p := ⟨w.heap.size, 0, none⟩) (Nat.le_refl _) (.int .i64 (sumB l))).setCell (p := ⟨w.heap.size, 1, none⟩) (Nat.le_refl _) (.int .i64 (sumR l))
          generalize (wr.setCell ⟨w.heap.size, 0, none⟩ (.int .i64 (sumB l))).setCell ⟨w.heap.size, 1, none⟩ (.int .i64 (sumR l)) = S at *
          obtain ⟨d0, d1, _, _⟩ := cells2 hS
          refine bodyPost_ret (v := .tuple #[.agg #[.int .i64 (sumB l), .int .i64 (sumR l)], .int .i64 0]) (by simp [results, Try.results9, go_sem, d0, d1]) rfl ?_
          have := sumOut_all HOK.out hB
          simpa only [ckB, ckR, HCE2.out, if_true] using this
end Go.Proofs.Ythfmbmjjfdhhnaa
