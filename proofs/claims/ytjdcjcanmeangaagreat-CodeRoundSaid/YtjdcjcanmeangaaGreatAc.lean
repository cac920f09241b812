/- Codes: Rate of both packages. Over this seat's program; the conditions are named in each. (mk_Ac.py wrote this.) -/
import Derived.Test.YtjdcjcanmeangaaGreatAb
namespace Go.Proofs.YtjdcjcanmeangaaGreat
set_option linter.unusedVariables false
open Go.RowKit

/-- What a function returns that returns a list and an error. -/
def RateGot (L : List Int) (er : Int) (w : World) (e : Ending) (w' : World) : Prop :=
  ∃ sv, e = .returned (.tuple #[sv, .int .i64 er]) ∧ w'.ownsRow w.heap.size 3 1 sv L.length (iCs L) ∧ Below w.heap.size w w'
theorem spikes_at (v m t : Nat) (T : Int) (hT : T = (t : Int)) (hm : 0 < m) (ht : t ≤ 4096) (hv : v ≤ 1024) (w : World) :
    Calls Tryz.prog 53 #[.int .i64 (v : Int), .int .i64 (m : Int), .int .i64 T] w fun e w' => e = .returned (.int .i64 ((t * v / m : Nat) : Int)) ∧ w = w' := hT ▸ spikes_any v m t hm ht hv w

set_option maxRecDepth 100000 in
set_option maxHeartbeats 4000000 in
theorem rate_ok (v m n : Nat) (hm : 1 ≤ m ∧ m ≤ 1024) (hn : 1 ≤ n ∧ n ≤ 4096) (hv : v ≤ m) (w : World) :
    Calls Tryz.prog 13 #[.int .i64 (v : Int), .int .i64 (m : Int), .int .i64 (n : Int)] w (RateGot (rtL v m n) 0 w) := by
  obtain ⟨i0, hi, hz0, hzz1, hzz2⟩ := info_parts info3
  have hm1 := hm.1
  have hm2 := hm.2
  have hn1 := hn.1
  have hn2 := hn.2
  have r1 : inR (m : Int) 1 1024 = true := inR_true.2 ⟨by omega, by omega⟩
  have r2 : inR (n : Int) 1 4096 = true := inR_true.2 ⟨by omega, by omega⟩
  have r3 : inR (v : Int) 0 (m : Int) = true := inR_true.2 ⟨by omega, by omega⟩
  have r12 : (inR (m : Int) 1 1024 && inR (n : Int) 1 4096) = true := by rw [r1, r2]; rfl
  have R1 := Lib.hid r1
  have R2 := Lib.hid r2
  have R3 := Lib.hid r3
  have R12 := Lib.hid r12
  clear r1 r2 r3 r12 hm hn
  go_enter Tryz.func13, Tryz.ntmps13
  go_wp2_with (fail)
  go_at_call 51
  refine (rated_any _ _ _).mono ?_
  rintro e w1 ⟨rfl, hb1⟩
  rw [R12.out]
  have B1 := Lib.hid hb1
  clear hb1
  go_wp2_with (fail)
  go_at_call 52
  refine (within_new _ _ _ _).mono ?_
  rintro e w2 ⟨rfl, hb2⟩
  rw [R3.out]
  have B0 := Lib.hid (B1.out.trans (hb2.mono B1.out.size))
  clear hb2
  go_wp2
  go_loopw [8, 22] (fun s8 s22 wr => ∃ j : Nat, j ≤ n ∧ s22 = .int .i64 j ∧ wr.ownsRow w.heap.size 3 1 s8 (rtL v m j).length (iCs (rtL v m j)) ∧ Below w.heap.size w wr) (fun _ s22 _ => n - (intOf s22).toNat)
  case atStart => exact ⟨0, Nat.zero_le _, rfl, World.ownsRow_nil _ _ _ _, B0.out⟩
  case round =>
    obtain ⟨j, hj, rfl, ho, hb⟩ := hrel
    have HO := Lib.hid ho
    have HB := Lib.hid hb
    have hzr := hb.size
    have hlen := rtL_le v m j
    clear ho hb
    by_cases hlt : j < n
    · have hi0 : (0 : Int) ≤ (j : Int) := Int.natCast_nonneg _
      have hi1 : (j : Int) < (n : Int) := by omega
      obtain ⟨q1, hq1⟩ : ∃ q, q = (j + 1) * v / m := ⟨_, rfl⟩
      obtain ⟨q0, hq0⟩ : ∃ q, q = j * v / m := ⟨_, rfl⟩
      have S1 := Lib.hid (fun W => spikes_at v m (j + 1) ((j : Int) + 1) (by push_cast; rfl) (by omega) (by omega) (by omega) W)
      have S0 := Lib.hid (fun W => spikes_at v m j (j : Int) rfl (by omega) (by omega) (by omega) W)
      rw [← hq1] at S1
      rw [← hq0] at S0
      cases hbt : rtB v m j with
      | true =>
        have g : ((q1 : Int) != (q0 : Int)) = true := by rw [hq1, hq0]; simp only [rtB, bne_iff_ne, ne_eq] at hbt ⊢; omega
        have HBT := Lib.hid hbt
        clear hbt hq1 hq0
        go_wp2_with (fail)
        go_at_call 53
        refine (S1.out _).mono ?_
        rintro e w' ⟨rfl, rfl⟩
        go_wp2_with (fail)
        go_at_call 53
        refine (S0.out _).mono ?_
        rintro e w' ⟨rfl, rfl⟩
        have HNEW := Lib.hid (show (wr.alloc (.cells #[.int .i64 (j : Int)] 3)).heap[wr.heap.size]? = some (.cells ⟨[.int .i64 (j : Int)]⟩ 3) from alloc_new_at _ _ _ rfl)
        go_wp2_with (at_builtin; go_must (refine wpList_append_own _ rfl _ _ 22 rfl w.heap.size 3 i0 _ 1 8 Tryz.underlying22 hi hz0 hzz1 hzz2 rfl (by decide) _ _ _ rfl (HO.out.alloc _) ⟨wr.heap.size, 0, none⟩ 1 1 [.int .i64 (j : Int)] rfl rfl (cells_new HNEW.out) (by simp [Value.oneCell']) (by unfold maxLen; omega) (by omega) (by simp; omega) ?_); intro v' W8 hown' hgrow _)
        go_roundw
        case rel =>
          refine ⟨j + 1, by omega, by go_num, ?_, ?_⟩
          · rw [rtL_succ, HBT.out, if_pos rfl, iCs, List.map_append, List.length_append]; exact hown'
          · have hsz := hgrow.size
            rw [World.size_alloc] at hsz
            refine HB.out.trans ⟨hgrow.os, hgrow.tape, hgrow.output, by omega, fun q hq => ?_⟩
            rw [hgrow.block q (by rw [World.size_alloc]; omega) (fun e => by have := (HO.out.lt q e.symm).1; omega), Below.heap_alloc _ _ _ (by omega)]
        case measure => simp [intOf]; omega
      | false =>
        have g : ((q1 : Int) != (q0 : Int)) = false := by rw [hq1, hq0]; simp only [rtB, bne_eq_false_iff_eq] at hbt ⊢; omega
        have HBT := Lib.hid hbt
        clear hbt hq1 hq0
        go_wp2_with (fail)
        go_at_call 53
        refine (S1.out _).mono ?_
        rintro e w' ⟨rfl, rfl⟩
        go_wp2_with (fail)
        go_at_call 53
        refine (S0.out _).mono ?_
        rintro e w' ⟨rfl, rfl⟩
        go_wp2
        go_roundw
        case rel => exact ⟨j + 1, by omega, by go_num, by rw [rtL_succ, HBT.out, if_neg (by simp), List.append_nil]; exact HO.out, HB.out⟩
        case measure => simp [intOf]; omega
    · obtain rfl : n = j := by omega
      go_wp2
      exact bodyPost_ret (v := .tuple #[_, .int .i64 0]) (by simp [results, Tryz.results13, go_sem]) rfl ⟨_, rfl, HO.out, HB.out⟩

set_option maxRecDepth 100000 in
set_option maxHeartbeats 4000000 in
theorem rrate_ok (v m n : Nat) (hm : 1 ≤ m ∧ m ≤ 1024) (hn : 1 ≤ n ∧ n ≤ 4096) (hv : v ≤ m) (w : World) :
    Calls Tryz.prog 14 #[.int .i64 (v : Int), .int .i64 (m : Int), .int .i64 (n : Int)] w (RateGot (rtL v m n) 0 w) := by
  obtain ⟨i0, hi, hz0, hzz1, hzz2⟩ := info_parts info3
  have hm1 := hm.1
  have hm2 := hm.2
  have hn1 := hn.1
  have hn2 := hn.2
  have r1 : inR (m : Int) 1 1024 = true := inR_true.2 ⟨by omega, by omega⟩
  have r2 : inR (n : Int) 1 4096 = true := inR_true.2 ⟨by omega, by omega⟩
  have r3 : inR (v : Int) 0 (m : Int) = true := inR_true.2 ⟨by omega, by omega⟩
  have r12 : (inR (m : Int) 1 1024 && inR (n : Int) 1 4096) = true := by rw [r1, r2]; rfl
  have R1 := Lib.hid r1
  have R2 := Lib.hid r2
  have R3 := Lib.hid r3
  have R12 := Lib.hid r12
  clear r1 r2 r3 r12 hm hn
  go_enter Tryz.func14, Tryz.ntmps14
  go_wp2_with (fail)
  go_at_call 54
  refine (rwithin_any _ _ _ _).mono ?_
  rintro e w' ⟨rfl, rfl⟩
  rw [R1.out]
  go_wp2_with (fail)
  go_at_call 54
  refine (rwithin_any _ _ _ _).mono ?_
  rintro e w' ⟨rfl, rfl⟩
  rw [R2.out]
  go_wp2_with (fail)
  go_at_call 54
  refine (rwithin_any _ _ _ _).mono ?_
  rintro e w' ⟨rfl, rfl⟩
  rw [R3.out]
  have B0 := Lib.hid (Below.refl w.heap.size w)
  go_wp2
  go_loopw [8, 9] (fun s8 s9 wr => ∃ j : Nat, j ≤ n ∧ s9 = .int .i64 j ∧ wr.ownsRow w.heap.size 3 1 s8 (rtL v m j).length (iCs (rtL v m j)) ∧ Below w.heap.size w wr) (fun _ s9 _ => n - (intOf s9).toNat)
  case atStart => exact ⟨0, Nat.zero_le _, rfl, World.ownsRow_nil _ _ _ _, B0.out⟩
  case round =>
    obtain ⟨j, hj, rfl, ho, hb⟩ := hrel
    have HO := Lib.hid ho
    have HB := Lib.hid hb
    have hzr := hb.size
    have hlen := rtL_le v m j
    clear ho hb
    by_cases hlt : j < n
    · have hi0 : (0 : Int) ≤ (j : Int) := Int.natCast_nonneg _
      have hi1 : (j : Int) < (n : Int) := by omega
      obtain ⟨p1, hp1⟩ : ∃ p, p = (j + 1) * v := ⟨_, rfl⟩
      obtain ⟨p0, hp0⟩ : ∃ p, p = j * v := ⟨_, rfl⟩
      have l1 : p1 ≤ 4194304 := hp1 ▸ mul_le_rt (by omega) (by omega)
      have l0 : p0 ≤ 4194304 := hp0 ▸ mul_le_rt (by omega) (by omega)
      have e1 : ((j : Int) + 1) * (v : Int) = (p1 : Int) := by rw [hp1]; push_cast; rfl
      have e0 : (j : Int) * (v : Int) = (p0 : Int) := by rw [hp0]; push_cast; rfl
      obtain ⟨q1, hq1⟩ : ∃ q, q = p1 / m := ⟨_, rfl⟩
      obtain ⟨q0, hq0⟩ : ∃ q, q = p0 / m := ⟨_, rfl⟩
      have k1 : q1 ≤ 4194304 := hq1 ▸ Nat.le_trans (Nat.div_le_self _ _) l1
      have k0 : q0 ≤ 4194304 := hq0 ▸ Nat.le_trans (Nat.div_le_self _ _) l0
      have f1 : (p1 : Int).tdiv (m : Int) = (q1 : Int) := by rw [hq1]; rfl
      have f0 : (p0 : Int).tdiv (m : Int) = (q0 : Int) := by rw [hq0]; rfl
      have hm0 : ((m : Int) == 0) = false := by simp; omega
      cases hbt : rtB v m j with
      | true =>
        have g : ((q1 : Int) != (q0 : Int)) = true := by rw [hq1, hq0, hp1, hp0]; simp only [rtB, bne_iff_ne, ne_eq] at hbt ⊢; omega
        have HBT := Lib.hid hbt
        clear hbt hq1 hq0 hp1 hp0
        go_wp2
        go_quiet (fail)
        have HO := Lib.hid (show (wr.drewN nq).ownsRow w.heap.size 3 1 _ (rtL v m j).length (iCs (rtL v m j)) from HO.out)
        have HB := Lib.hid (below_drewN HB.out nq)
        have hzr : w.heap.size ≤ (wr.drewN nq).heap.size := hzr
        generalize wr.drewN nq = wr at *
        have HNEW := Lib.hid (show (wr.alloc (.cells #[.int .i64 (j : Int)] 3)).heap[wr.heap.size]? = some (.cells ⟨[.int .i64 (j : Int)]⟩ 3) from alloc_new_at _ _ _ rfl)
        go_wp2_with (at_builtin; go_must (refine wpList_append_own _ rfl _ _ 22 rfl w.heap.size 3 i0 _ 1 8 Tryz.underlying22 hi hz0 hzz1 hzz2 rfl (by decide) _ _ _ rfl (HO.out.alloc _) ⟨wr.heap.size, 0, none⟩ 1 1 [.int .i64 (j : Int)] rfl rfl (cells_new HNEW.out) (by simp [Value.oneCell']) (by unfold maxLen; omega) (by omega) (by simp; omega) ?_); intro v' W8 hown' hgrow _)
        go_roundw
        case rel =>
          refine ⟨j + 1, by omega, by go_num, ?_, ?_⟩
          · rw [rtL_succ, HBT.out, if_pos rfl, iCs, List.map_append, List.length_append]; exact hown'
          · have hsz := hgrow.size
            rw [World.size_alloc] at hsz
            refine HB.out.trans ⟨hgrow.os, hgrow.tape, hgrow.output, by omega, fun q hq => ?_⟩
            rw [hgrow.block q (by rw [World.size_alloc]; omega) (fun e => by have := (HO.out.lt q e.symm).1; omega), Below.heap_alloc _ _ _ (by omega)]
        case measure => simp [intOf]; omega
      | false =>
        have g : ((q1 : Int) != (q0 : Int)) = false := by rw [hq1, hq0, hp1, hp0]; simp only [rtB, bne_eq_false_iff_eq] at hbt ⊢; omega
        have HBT := Lib.hid hbt
        clear hbt hq1 hq0 hp1 hp0
        go_wp2
        go_quiet (fail)
        go_wp2
        go_roundw
        case rel => exact ⟨j + 1, by omega, by go_num, by rw [rtL_succ, HBT.out, if_neg (by simp), List.append_nil]; exact HO.out, below_drewN HB.out _⟩
        case measure => simp [intOf]; omega
    · obtain rfl : n = j := by omega
      go_wp2
      exact bodyPost_ret (v := .tuple #[_, .int .i64 0]) (by simp [results, Tryz.results14, go_sem]) rfl ⟨_, rfl, HO.out, HB.out⟩

/-- What Rate says of arguments that are not valid. -/
def rateV (v m n : Int) : Bool := (inR m 1 1024 && inR n 1 4096) && inR v 0 m
set_option maxRecDepth 100000 in
set_option maxHeartbeats 1000000 in
theorem rate_err (v m n : Int) (h : rateV v m n = false) (w : World) :
    Calls Tryz.prog 13 #[.int .i64 v, .int .i64 m, .int .i64 n] w (RateGot [] 3 w) := by
  unfold rateV at h
  cases h1 : (inR m 1 1024 && inR n 1 4096) with
  | false =>
    clear h
    go_enter Tryz.func13, Tryz.ntmps13
    go_wp2_with (go_at_call 51; refine (rated_any _ _ _).mono ?_; rintro e w1 ⟨rfl, hb1⟩; rw [h1])
    exact bodyPost_ret (v := .tuple #[.slice none 0 0, .int .i64 3]) (by simp [results, Tryz.results13, go_sem]) rfl ⟨_, rfl, World.ownsRow_nil _ _ _ _, hb1⟩
  | true =>
    rw [h1] at h
    simp only [Bool.true_and] at h
    have H1 := Lib.hid h1
    have H := Lib.hid h
    clear h1 h
    go_enter Tryz.func13, Tryz.ntmps13
    go_wp2_with (fail)
    go_at_call 51
    refine (rated_any _ _ _).mono ?_
    rintro e w1 ⟨rfl, hb1⟩
    rw [H1.out]
    have B1 := Lib.hid hb1
    clear hb1
    go_wp2_with (go_at_call 52; refine (within_new _ _ _ _).mono ?_; rintro e w2 ⟨rfl, hb2⟩; rw [H.out])
    exact bodyPost_ret (v := .tuple #[.slice none 0 0, .int .i64 3]) (by simp [results, Tryz.results13, go_sem]) rfl ⟨_, rfl, World.ownsRow_nil _ _ _ _, B1.out.trans (hb2.mono B1.out.size)⟩
set_option maxRecDepth 100000 in
set_option maxHeartbeats 1000000 in
theorem rrate_err (v m n : Int) (h : rateV v m n = false) (w : World) :
    Calls Tryz.prog 14 #[.int .i64 v, .int .i64 m, .int .i64 n] w (RateGot [] 3 w) := by
  unfold rateV at h
  cases h1 : inR m 1 1024 with
  | false =>
    clear h
    go_enter Tryz.func14, Tryz.ntmps14
    go_wp2_with (go_at_call 54; refine (rwithin_any _ _ _ _).mono ?_; rintro e w' ⟨rfl, rfl⟩; rw [h1])
    exact bodyPost_ret (v := .tuple #[.slice none 0 0, .int .i64 3]) (by simp [results, Tryz.results14, go_sem]) rfl ⟨_, rfl, World.ownsRow_nil _ _ _ _, Below.refl _ _⟩
  | true =>
    cases h2 : inR n 1 4096 with
    | false =>
      clear h
      go_enter Tryz.func14, Tryz.ntmps14
      go_wp2_with (go_at_call 54; refine (rwithin_any _ _ _ _).mono ?_; rintro e w' ⟨rfl, rfl⟩; first | rw [h1] | rw [h2])
      exact bodyPost_ret (v := .tuple #[.slice none 0 0, .int .i64 3]) (by simp [results, Tryz.results14, go_sem]) rfl ⟨_, rfl, World.ownsRow_nil _ _ _ _, Below.refl _ _⟩
    | true =>
      rw [h1, h2] at h
      simp only [Bool.true_and] at h
      go_enter Tryz.func14, Tryz.ntmps14
      go_wp2_with (go_at_call 54; refine (rwithin_any _ _ _ _).mono ?_; rintro e w' ⟨rfl, rfl⟩; first | rw [h1] | rw [h2] | rw [h])
      exact bodyPost_ret (v := .tuple #[.slice none 0 0, .int .i64 3]) (by simp [results, Tryz.results14, go_sem]) rfl ⟨_, rfl, World.ownsRow_nil _ _ _ _, Below.refl _ _⟩
/-- Both Rates return the same. -/
theorem rates_any (v m n : Int) : ∃ L er, L.length ≤ 4096 ∧ (∀ w, Calls Tryz.prog 13 #[.int .i64 v, .int .i64 m, .int .i64 n] w (RateGot L er w)) ∧ ∀ w, Calls Tryz.prog 14 #[.int .i64 v, .int .i64 m, .int .i64 n] w (RateGot L er w) := by
  cases h : rateV v m n with
  | false => exact ⟨[], 3, by simp, rate_err v m n h, rrate_err v m n h⟩
  | true =>
    simp only [rateV, Bool.and_eq_true, inR_true] at h
    obtain ⟨⟨⟨h1, h2⟩, h3, h4⟩, h5, h6⟩ := h
    obtain ⟨v', rfl⟩ := Int.eq_ofNat_of_zero_le h5
    obtain ⟨m', rfl⟩ := Int.eq_ofNat_of_zero_le (a := m) (by omega)
    obtain ⟨n', rfl⟩ := Int.eq_ofNat_of_zero_le (a := n) (by omega)
    exact ⟨rtL v' m' n', 0, by have := rtL_le v' m' n'; omega, rate_ok v' m' n' (by omega) (by omega) (by omega), rrate_ok v' m' n' (by omega) (by omega) (by omega)⟩
end Go.Proofs.YtjdcjcanmeangaaGreat
