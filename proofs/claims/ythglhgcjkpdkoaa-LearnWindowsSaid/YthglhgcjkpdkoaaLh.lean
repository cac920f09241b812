/- learn.Window. -/
import Derived.Test.YthglhgcjkpdkoaaLg
namespace Go.Proofs.Ythglhgcjkpdkoaa
set_option linter.unusedVariables false
open Go.RowKit

set_option maxRecDepth 100000 in
set_option maxHeartbeats 1000000 in
theorem window_err (r : Rul) (gap : Int) (hw : (Lit.int .i64 r.kd).wf = true) (he : ¬ ruleE r = 0) (w : World) :
    Calls Try.prog 18 #[.agg #[.int .i64 r.kd, .int .i64 r.up, .int .i64 r.dn, .int .i64 r.sh, .int .i64 r.ga, .int .i64 r.ke, .int .i64 r.fa, .int .i64 r.lo, .int .i64 r.hi, .bool r.sm], .int .i64 gap] w fun e w' => e = .returned (.tuple #[.int .i64 0, .int .i64 (ruleE r)]) ∧ Below w.heap.size w w' := by
  have heb : (ruleE r != 0) = true := by simp [he]
  go_enter Try.func18, Try.ntmps18
  go_wp2_with (go_at_call 43; refine (checkRule_any r hw _).mono ?_; rintro e w1 ⟨rfl, hb1⟩; have hz1 : w.heap.size < w1.heap.size := (by have := hb1.size; simp at this; omega); have hbx : RuleBox w1 w.heap.size r := (hb1.block _ (by simp)).trans (alloc_new_at _ _ _ rfl); have h01 : Below w.heap.size w w1 := ((Below.refl _ _).alloc (Nat.le_refl _) _).trans (hb1.mono (by simp)); clear hb1)
  exact bodyPost_ret (v := .tuple #[.int .i64 0, .int .i64 (ruleE r)]) (by simp [results, Try.results18, go_sem]) rfl ⟨rfl, h01⟩
set_option maxRecDepth 100000 in
set_option maxHeartbeats 1000000 in
theorem window_range (r : Rul) (gap : Int) (hw : (Lit.int .i64 r.kd).wf = true) (he : ruleE r = 0) (hg : inR gap (-10000) 10000 = false) (w : World) :
    Calls Try.prog 18 #[.agg #[.int .i64 r.kd, .int .i64 r.up, .int .i64 r.dn, .int .i64 r.sh, .int .i64 r.ga, .int .i64 r.ke, .int .i64 r.fa, .int .i64 r.lo, .int .i64 r.hi, .bool r.sm], .int .i64 gap] w fun e w' => e = .returned (.tuple #[.int .i64 0, .int .i64 3]) ∧ Below w.heap.size w w' := by
  go_enter Try.func18, Try.ntmps18
  go_wp2_with (first | (go_at_call 43; refine (checkRule_any r hw _).mono ?_; rintro e w1 ⟨rfl, hb1⟩; have hz1 : w.heap.size < w1.heap.size := (by have := hb1.size; simp at this; omega); have hbx : RuleBox w1 w.heap.size r := (hb1.block _ (by simp)).trans (alloc_new_at _ _ _ rfl); have h01 : Below w.heap.size w w1 := ((Below.refl _ _).alloc (Nat.le_refl _) _).trans (hb1.mono (by simp)); clear hb1; rw [he]) | (go_at_call 44; refine (lamong_any _ _ _ _).mono ?_; rintro e w2 ⟨rfl, rfl⟩; rw [hg]))
  exact bodyPost_ret (v := .tuple #[.int .i64 0, .int .i64 3]) (by simp [results, Try.results18, go_sem]) rfl ⟨rfl, h01⟩
set_option maxRecDepth 100000 in
set_option maxHeartbeats 1000000 in
theorem window_pos (r : Rul) (G : Nat) (hw : (Lit.int .i64 r.kd).wf = true) (he : ruleE r = 0) (g0 : 0 < G) (g1 : G ≤ 10000) (w : World) :
    Calls Try.prog 18 #[.agg #[.int .i64 r.kd, .int .i64 r.up, .int .i64 r.dn, .int .i64 r.sh, .int .i64 r.ga, .int .i64 r.ke, .int .i64 r.fa, .int .i64 r.lo, .int .i64 r.hi, .bool r.sm], .int .i64 G] w fun e w' => e = .returned (.tuple #[.int .i64 (r.up * trK r.ke G r.ga / 2 ^ r.sh.toNat), .int .i64 0]) ∧ Below w.heap.size w w' := by
  have hg : inR (G : Int) (-10000) 10000 = true := by rw [inR_true]; omega
  obtain ⟨up0, up1, dn0, dn1, sh0, sh1, ga0, ga1, ke0, ke1⟩ := rulOk_of he
  have zn : ((G : Int) != 0) = true := by simp <;> omega
  have zp : (0 < (G : Int)) = True := by simp <;> omega
  have zm : ((G : Int) < 0) = False := by simp <;> omega
  have zl : ((G : Int) ≤ 0) = False := by simp <;> omega
  have zg : (0 ≤ (G : Int)) = True := by simp
  have zq : (G = 0) = False := by simp <;> omega
  have gi : (G : Int) ≤ 10000 := by omega
  have gj : (0 : Int) ≤ G := by omega
  go_enter Try.func18, Try.ntmps18
  go_wp2_with (first | (go_at_call 43; refine (checkRule_any r hw _).mono ?_; rintro e w1 ⟨rfl, hb1⟩; have hz1 : w.heap.size < w1.heap.size := (by have := hb1.size; simp at this; omega); have hbx : RuleBox w1 w.heap.size r := (hb1.block _ (by simp)).trans (alloc_new_at _ _ _ rfl); have h01 : Below w.heap.size w w1 := ((Below.refl _ _).alloc (Nat.le_refl _) _).trans (hb1.mono (by simp)); clear hb1; rw [he]) | (go_at_call 44; refine (lamong_any _ _ _ _).mono ?_; rintro e w2 ⟨rfl, rfl⟩; rw [hg]) | (go_at_call 48; refine (leave_pos r w.heap.size w1.heap.size _ ((Below.heap_alloc _ _ _ (by omega)).trans hbx) (alloc_new_at _ _ _ rfl) hz1 ga0 ga1).mono ?_; rintro e w2 ⟨rfl, hb2, hm2⟩; have hbx2 : RuleBox w2 w.heap.size r := (hb2.block _ hz1).trans ((Below.heap_alloc _ _ _ (by omega)).trans hbx); have h02 : Below w.heap.size w w2 := (h01.alloc (Nat.le_of_lt hz1) _).trans (hb2.mono (Nat.le_of_lt hz1))))
  generalize w1.heap.size = B at *
  go_loopw [27] (fun i wr => ∃ j : Nat, j ≤ G ∧ i = .int .i64 j ∧ Below w.heap.size w wr ∧ RuleBox wr w.heap.size r ∧ MarkBox wr B 0 (trK r.ke j r.ga) 0 0) (fun i _ => G - (intOf i).toNat)
  case atStart => exact ⟨0, by omega, rfl, h02, hbx2, hm2⟩
  case round =>
    obtain ⟨j, hj, rfl, hb, hbox, hmk⟩ := hrel
    obtain ⟨t0, t1⟩ := trK_bounds ke0 ke1 (x := r.ga) (by omega) j
    obtain ⟨m0, m1⟩ := mul_bounds ke0 ke1 t0 (Int.le_trans t1 ga1)
    rw [Int.mul_comm] at m0 m1
    obtain ⟨c0, c1⟩ := mul_bounds up0 up1 t0 (Int.le_trans t1 ga1)
    have hlr : w.heap.size < wr.heap.size := (Array.getElem?_eq_some_iff.1 hbox).1
    obtain ⟨_, _, _, _, _, _, _⟩ := cells4m hmk
    have HB := Lib.hid hb
    have HBX := Lib.hid hbox
    have HMK := Lib.hid hmk
    clear hb hbox hmk
    by_cases hlt : j < G
    · have z0 : ((j : Int) < (G : Int)) = True := by simp <;> omega
      go_wp2_with (go_at_call 49; refine (fade_any r w.heap.size B 0 (trK r.ke j r.ga) 0 _ HBX.out HMK.out hz1 m0 m1 (by simp) (by simp)).mono ?_; rintro e w3 ⟨rfl, hb3, hm3⟩)
      go_roundw
      case rel => exact ⟨j + 1, by omega, by go_num, HB.out.trans (hb3.mono (Nat.le_of_lt hz1)), (hb3.block _ hz1).trans HBX.out, by simpa [trK] using hm3⟩
      case measure => simp [intOf]; omega
    · obtain rfl : j = G := by omega
      have z0 : ((j : Int) < (j : Int)) = False := by simp
      go_wp2_with (go_at_call 50; refine (change_up r w.heap.size (trK r.ke j r.ga) 0 _ HBX.out hlr c0 c1 sh0 sh1).mono ?_; rintro e w3 ⟨rfl, hb3⟩)
      exact bodyPost_ret (v := .tuple #[.int .i64 (r.up * trK r.ke j r.ga / 2 ^ r.sh.toNat), .int .i64 0]) (by simp [results, Try.results18, go_sem]) rfl ⟨rfl, HB.out.trans (hb3.mono HB.out.size)⟩
set_option maxRecDepth 100000 in
set_option maxHeartbeats 1000000 in
theorem window_neg (r : Rul) (G : Nat) (hw : (Lit.int .i64 r.kd).wf = true) (he : ruleE r = 0) (g0 : 0 < G) (g1 : G ≤ 10000) (w : World) :
    Calls Try.prog 18 #[.agg #[.int .i64 r.kd, .int .i64 r.up, .int .i64 r.dn, .int .i64 r.sh, .int .i64 r.ga, .int .i64 r.ke, .int .i64 r.fa, .int .i64 r.lo, .int .i64 r.hi, .bool r.sm], .int .i64 (-(G : Int))] w fun e w' => e = .returned (.tuple #[.int .i64 (-(r.dn * trK r.ke G r.ga / 2 ^ r.sh.toNat)), .int .i64 0]) ∧ Below w.heap.size w w' := by
  have hg : inR (-(G : Int)) (-10000) 10000 = true := by rw [inR_true]; omega
  obtain ⟨up0, up1, dn0, dn1, sh0, sh1, ga0, ga1, ke0, ke1⟩ := rulOk_of he
  have zn : ((-(G : Int)) != 0) = true := by simp <;> omega
  have zp : (0 < -(G : Int)) = False := by simp <;> omega
  have zm : (-(G : Int) < 0) = True := by simp <;> omega
  have zl : (-(G : Int) ≤ 0) = True := by simp <;> omega
  have zg : (0 ≤ -(G : Int)) = False := by simp <;> omega
  have zq : (G = 0) = False := by simp <;> omega
  have gi : (G : Int) ≤ 10000 := by omega
  have gj : (0 : Int) ≤ G := by omega
  go_enter Try.func18, Try.ntmps18
  go_wp2_with (first | (go_at_call 43; refine (checkRule_any r hw _).mono ?_; rintro e w1 ⟨rfl, hb1⟩; have hz1 : w.heap.size < w1.heap.size := (by have := hb1.size; simp at this; omega); have hbx : RuleBox w1 w.heap.size r := (hb1.block _ (by simp)).trans (alloc_new_at _ _ _ rfl); have h01 : Below w.heap.size w w1 := ((Below.refl _ _).alloc (Nat.le_refl _) _).trans (hb1.mono (by simp)); clear hb1; rw [he]) | (go_at_call 44; refine (lamong_any _ _ _ _).mono ?_; rintro e w2 ⟨rfl, rfl⟩; rw [hg]) | (go_at_call 48; refine (leave_neg r w.heap.size w1.heap.size _ ((Below.heap_alloc _ _ _ (by omega)).trans hbx) (alloc_new_at _ _ _ rfl) hz1 ga0 ga1).mono ?_; rintro e w2 ⟨rfl, hb2, hm2⟩; have hbx2 : RuleBox w2 w.heap.size r := (hb2.block _ hz1).trans ((Below.heap_alloc _ _ _ (by omega)).trans hbx); have h02 : Below w.heap.size w w2 := (h01.alloc (Nat.le_of_lt hz1) _).trans (hb2.mono (Nat.le_of_lt hz1))))
  generalize w1.heap.size = B at *
  go_loopw [27] (fun i wr => ∃ j : Nat, j ≤ G ∧ i = .int .i64 j ∧ Below w.heap.size w wr ∧ RuleBox wr w.heap.size r ∧ MarkBox wr B 0 0 (trK r.ke j r.ga) 0) (fun i _ => G - (intOf i).toNat)
  case atStart => exact ⟨0, by omega, rfl, h02, hbx2, hm2⟩
  case round =>
    obtain ⟨j, hj, rfl, hb, hbox, hmk⟩ := hrel
    obtain ⟨t0, t1⟩ := trK_bounds ke0 ke1 (x := r.ga) (by omega) j
    obtain ⟨m0, m1⟩ := mul_bounds ke0 ke1 t0 (Int.le_trans t1 ga1)
    rw [Int.mul_comm] at m0 m1
    obtain ⟨c0, c1⟩ := mul_bounds dn0 dn1 t0 (Int.le_trans t1 ga1)
    have hlr : w.heap.size < wr.heap.size := (Array.getElem?_eq_some_iff.1 hbox).1
    obtain ⟨_, _, _, _, _, _, _⟩ := cells4m hmk
    have HB := Lib.hid hb
    have HBX := Lib.hid hbox
    have HMK := Lib.hid hmk
    clear hb hbox hmk
    by_cases hlt : j < G
    · have z0 : ((j : Int) < (G : Int)) = True := by simp <;> omega
      go_wp2_with (go_at_call 49; refine (fade_any r w.heap.size B 0 0 (trK r.ke j r.ga) _ HBX.out HMK.out hz1 (by simp) (by simp) m0 m1).mono ?_; rintro e w3 ⟨rfl, hb3, hm3⟩)
      go_roundw
      case rel => exact ⟨j + 1, by omega, by go_num, HB.out.trans (hb3.mono (Nat.le_of_lt hz1)), (hb3.block _ hz1).trans HBX.out, by simpa [trK] using hm3⟩
      case measure => simp [intOf]; omega
    · obtain rfl : j = G := by omega
      have z0 : ((j : Int) < (j : Int)) = False := by simp
      go_wp2_with (go_at_call 50; refine (change_dn r w.heap.size 0 (trK r.ke j r.ga) _ HBX.out hlr c0 c1 sh0 sh1).mono ?_; rintro e w3 ⟨rfl, hb3⟩)
      exact bodyPost_ret (v := .tuple #[.int .i64 (-(r.dn * trK r.ke j r.ga / 2 ^ r.sh.toNat)), .int .i64 0]) (by simp [results, Try.results18, go_sem]) rfl ⟨rfl, HB.out.trans (hb3.mono HB.out.size)⟩
end Go.Proofs.Ythglhgcjkpdkoaa
