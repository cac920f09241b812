/- The specification's Window. -/
import Derived.Test.YthglhgcjkpdkoaaLi
import Derived.IntWalk
namespace Go.Proofs.Ythglhgcjkpdkoaa
set_option linter.unusedVariables false
set_option linter.unusedSimpArgs false
open Go.RowKit

def SpecBox (W : World) (b : Nat) (r : Rul) : Prop := W.heap[b]? = some (.cells #[.int .i64 r.kd, .int .i64 r.up, .int .i64 r.dn, .int .i64 r.sh, .int .i64 r.ga, .int .i64 r.ke, .int .i64 r.fa, .int .i64 r.lo, .int .i64 r.hi, .bool r.sm] 40)
theorem power_int (s : Int) (s0 : 0 ≤ s) (s1 : s ≤ 16) (w : World) :
    Calls Try.prog 51 #[.int .i64 s] w fun e w' => e = .returned (.int .i64 (2 ^ s.toNat)) ∧ w = w' := by
  obtain ⟨n, rfl⟩ := Int.eq_ofNat_of_zero_le s0
  exact power_any n (by omega) w
set_option maxRecDepth 100000 in
set_option maxHeartbeats 1000000 in
theorem rwindow_err (r : Rul) (gap : Int) (he : ¬ ruleE r = 0) (w : World) :
    Calls Try.prog 19 #[.agg #[.int .i64 r.kd, .int .i64 r.up, .int .i64 r.dn, .int .i64 r.sh, .int .i64 r.ga, .int .i64 r.ke, .int .i64 r.fa, .int .i64 r.lo, .int .i64 r.hi, .bool r.sm], .int .i64 gap] w fun e w' => e = .returned (.tuple #[.int .i64 0, .int .i64 (ruleE r)]) ∧ Below w.heap.size w w' := by
  have heb : (ruleE r != 0) = true := by simp [he]
  go_enter Try.func19, Try.ntmps19
  go_wp2_with (go_at_call 46; refine (rrule_any r _).mono ?_; rintro e w1 ⟨rfl, hb1⟩; have hz1 : w.heap.size < w1.heap.size := (by have := hb1.size; simp at this; omega); have hbx : SpecBox w1 w.heap.size r := (hb1.block _ (by simp)).trans (alloc_new_at _ _ _ rfl); have h01 : Below w.heap.size w w1 := ((Below.refl _ _).alloc (Nat.le_refl _) _).trans (hb1.mono (by simp)); obtain ⟨_, _, _, _, _, _, _, _, _, _⟩ := cells10 hbx; clear hb1)
  exact bodyPost_ret (v := .tuple #[.int .i64 0, .int .i64 (ruleE r)]) (by simp [results, Try.results19, go_sem]) rfl ⟨rfl, h01⟩
set_option maxRecDepth 100000 in
set_option maxHeartbeats 1000000 in
theorem rwindow_range (r : Rul) (gap : Int) (he : ruleE r = 0) (hg : inR gap (-10000) 10000 = false) (w : World) :
    Calls Try.prog 19 #[.agg #[.int .i64 r.kd, .int .i64 r.up, .int .i64 r.dn, .int .i64 r.sh, .int .i64 r.ga, .int .i64 r.ke, .int .i64 r.fa, .int .i64 r.lo, .int .i64 r.hi, .bool r.sm], .int .i64 gap] w fun e w' => e = .returned (.tuple #[.int .i64 0, .int .i64 3]) ∧ Below w.heap.size w w' := by
  go_enter Try.func19, Try.ntmps19
  go_wp2_with (first | (go_at_call 46; refine (rrule_any r _).mono ?_; rintro e w1 ⟨rfl, hb1⟩; have hz1 : w.heap.size < w1.heap.size := (by have := hb1.size; simp at this; omega); have hbx : SpecBox w1 w.heap.size r := (hb1.block _ (by simp)).trans (alloc_new_at _ _ _ rfl); have h01 : Below w.heap.size w w1 := ((Below.refl _ _).alloc (Nat.le_refl _) _).trans (hb1.mono (by simp)); obtain ⟨_, _, _, _, _, _, _, _, _, _⟩ := cells10 hbx; clear hb1; rw [he]) | (go_at_call 47; refine (lwithin_any _ _ _ _).mono ?_; rintro e w2 ⟨rfl, rfl⟩; rw [hg]))
  exact bodyPost_ret (v := .tuple #[.int .i64 0, .int .i64 3]) (by simp [results, Try.results19, go_sem]) rfl ⟨rfl, h01⟩
set_option maxRecDepth 100000 in
set_option maxHeartbeats 1000000 in
theorem rwindow_zero (r : Rul) (he : ruleE r = 0) (w : World) :
    Calls Try.prog 19 #[.agg #[.int .i64 r.kd, .int .i64 r.up, .int .i64 r.dn, .int .i64 r.sh, .int .i64 r.ga, .int .i64 r.ke, .int .i64 r.fa, .int .i64 r.lo, .int .i64 r.hi, .bool r.sm], .int .i64 0] w fun e w' => e = .returned (.tuple #[.int .i64 0, .int .i64 0]) ∧ Below w.heap.size w w' := by
  have hg : inR 0 (-10000) 10000 = true := by rfl
  go_enter Try.func19, Try.ntmps19
  go_wp2_with (first | (go_at_call 46; refine (rrule_any r _).mono ?_; rintro e w1 ⟨rfl, hb1⟩; have hz1 : w.heap.size < w1.heap.size := (by have := hb1.size; simp at this; omega); have hbx : SpecBox w1 w.heap.size r := (hb1.block _ (by simp)).trans (alloc_new_at _ _ _ rfl); have h01 : Below w.heap.size w w1 := ((Below.refl _ _).alloc (Nat.le_refl _) _).trans (hb1.mono (by simp)); obtain ⟨_, _, _, _, _, _, _, _, _, _⟩ := cells10 hbx; clear hb1; rw [he]) | (go_at_call 47; refine (lwithin_any _ _ _ _).mono ?_; rintro e w2 ⟨rfl, rfl⟩; rw [hg]))
  exact bodyPost_ret (v := .tuple #[.int .i64 0, .int .i64 0]) (by simp [results, Try.results19, go_sem]) rfl ⟨rfl, h01⟩
set_option maxRecDepth 100000 in
set_option maxHeartbeats 1000000 in
theorem rwindow_pos (r : Rul) (G : Nat) (he : ruleE r = 0) (g0 : 0 < G) (g1 : G ≤ 10000) (w : World) :
    Calls Try.prog 19 #[.agg #[.int .i64 r.kd, .int .i64 r.up, .int .i64 r.dn, .int .i64 r.sh, .int .i64 r.ga, .int .i64 r.ke, .int .i64 r.fa, .int .i64 r.lo, .int .i64 r.hi, .bool r.sm], .int .i64 (G : Int)] w fun e w' => e = .returned (.tuple #[.int .i64 (r.up * trK r.ke G r.ga / 2 ^ r.sh.toNat), .int .i64 0]) ∧ Below w.heap.size w w' := by
  have hg : inR (G : Int) (-10000) 10000 = true := by rw [inR_true]; omega
  obtain ⟨up0, up1, dn0, dn1, sh0, sh1, ga0, ga1, ke0, ke1⟩ := rulOk_of he
  have zn : ((G : Int) == 0) = false := by simp <;> omega
  have zp : (0 < (G : Int)) = True := by simp <;> omega
  have zq : (G = 0) = False := by simp <;> omega
  have zr : (0 < G) = True := by simp <;> omega
  have gi : (G : Int) ≤ 10000 := by omega
  have gj : (0 : Int) ≤ G := by omega
  go_enter Try.func19, Try.ntmps19
  go_wp2_with (first | (go_at_call 46; refine (rrule_any r _).mono ?_; rintro e w1 ⟨rfl, hb1⟩; have hz1 : w.heap.size < w1.heap.size := (by have := hb1.size; simp at this; omega); have hbx : SpecBox w1 w.heap.size r := (hb1.block _ (by simp)).trans (alloc_new_at _ _ _ rfl); have h01 : Below w.heap.size w w1 := ((Below.refl _ _).alloc (Nat.le_refl _) _).trans (hb1.mono (by simp)); obtain ⟨_, _, _, _, _, _, _, _, _, _⟩ := cells10 hbx; clear hb1; rw [he]) | (go_at_call 47; refine (lwithin_any _ _ _ _).mono ?_; rintro e w2 ⟨rfl, rfl⟩; rw [hg]))
  go_loopw [7, 8] (fun o i wr => ∃ j : Nat, j ≤ G ∧ i = .int .i64 j ∧ o = .int .i64 (trK r.ke j r.ga) ∧ w1 = wr) (fun _ i _ => G - (intOf i).toNat)
  case atStart => exact ⟨0, by omega, rfl, rfl, rfl⟩
  case round =>
    obtain ⟨j, hj, rfl, rfl, rfl⟩ := hrel
    obtain ⟨t0, t1⟩ := trK_bounds ke0 ke1 (x := r.ga) (by omega) j
    obtain ⟨m0, m1⟩ := mul_bounds ke0 ke1 t0 (Int.le_trans t1 ga1)
    rw [Int.mul_comm] at m0 m1
    obtain ⟨c0, c1⟩ := mul_bounds up0 up1 t0 (Int.le_trans t1 ga1)
    obtain ⟨q0, q1⟩ := shr_bounds (s := r.sh) c0 c1
    obtain ⟨p0, p1⟩ := pow_le16 (n := r.sh.toNat) (by omega)
    by_cases hlt : j < G
    · have z0 : ((j : Int) < (G : Int)) = True := by simp <;> omega
      go_wp2
      go_roundw
      case rel => exact ⟨j + 1, by omega, by go_num, by first | rfl | simp [trK], by first | trivial | rfl⟩
      case measure => simp [intOf]; omega
    · obtain rfl : j = G := by omega
      have z0 : ((j : Int) < (j : Int)) = False := by simp
      have hz0 : (2 : Int) ^ r.sh.toNat ≠ 0 := by omega
      have hz1 : ((2 : Int) ^ r.sh.toNat = 0) = False := eq_false hz0
      have hz2 : ((2 : Int) ^ r.sh.toNat == 0) = false := beq_eq_false_iff_ne.2 hz0
      have hwp : IntKind.i64.wrap (r.up * trK r.ke j r.ga) = r.up * trK r.ke j r.ga := IntWalk.i64_in _ ⟨by omega, by omega⟩
      have htd : Int.tdiv (r.up * trK r.ke j r.ga) (2 ^ r.sh.toNat) = r.up * trK r.ke j r.ga / 2 ^ r.sh.toNat := Int.tdiv_eq_ediv_of_nonneg c0
      have hwq : IntKind.i64.wrap (r.up * trK r.ke j r.ga / 2 ^ r.sh.toNat) = r.up * trK r.ke j r.ga / 2 ^ r.sh.toNat := IntWalk.i64_in _ ⟨by omega, by omega⟩
      have HB := Lib.hid hbx
      have H1 := Lib.hid h01
      clear hbx h01
      go_wp2
      go_region_held3 (fun w' => w'.cell? ⟨w.heap.size, 1, none⟩ = some (.int .i64 r.up) ∧ w'.cell? ⟨w.heap.size, 2, none⟩ = some (.int .i64 r.dn) ∧ w'.cell? ⟨w.heap.size, 3, none⟩ = some (.int .i64 r.sh)) (go_keep) (first | (go_at_call 51; refine (power_int r.sh sh0 sh1 _).mono ?_; rintro e w3 ⟨rfl, hw3⟩; subst hw3))
      go_wp2
      exact bodyPost_ret (v := .tuple #[.int .i64 (r.up * trK r.ke j r.ga / 2 ^ r.sh.toNat), .int .i64 0]) (by simp [results, Try.results19, go_sem, hwp, htd, hwq]) rfl ⟨rfl, H1.out.drew⟩
set_option maxRecDepth 100000 in
set_option maxHeartbeats 1000000 in
theorem rwindow_neg (r : Rul) (G : Nat) (he : ruleE r = 0) (g0 : 0 < G) (g1 : G ≤ 10000) (w : World) :
    Calls Try.prog 19 #[.agg #[.int .i64 r.kd, .int .i64 r.up, .int .i64 r.dn, .int .i64 r.sh, .int .i64 r.ga, .int .i64 r.ke, .int .i64 r.fa, .int .i64 r.lo, .int .i64 r.hi, .bool r.sm], .int .i64 (-(G : Int))] w fun e w' => e = .returned (.tuple #[.int .i64 (-(r.dn * trK r.ke G r.ga / 2 ^ r.sh.toNat)), .int .i64 0]) ∧ Below w.heap.size w w' := by
  have hg : inR (-(G : Int)) (-10000) 10000 = true := by rw [inR_true]; omega
  obtain ⟨up0, up1, dn0, dn1, sh0, sh1, ga0, ga1, ke0, ke1⟩ := rulOk_of he
  have zn : ((-(G : Int)) == 0) = false := by simp <;> omega
  have zp : (0 < -(G : Int)) = False := by simp <;> omega
  have zq : (G = 0) = False := by simp <;> omega
  have zr : (0 < G) = True := by simp <;> omega
  have gi : (G : Int) ≤ 10000 := by omega
  have gj : (0 : Int) ≤ G := by omega
  go_enter Try.func19, Try.ntmps19
  go_wp2_with (first | (go_at_call 46; refine (rrule_any r _).mono ?_; rintro e w1 ⟨rfl, hb1⟩; have hz1 : w.heap.size < w1.heap.size := (by have := hb1.size; simp at this; omega); have hbx : SpecBox w1 w.heap.size r := (hb1.block _ (by simp)).trans (alloc_new_at _ _ _ rfl); have h01 : Below w.heap.size w w1 := ((Below.refl _ _).alloc (Nat.le_refl _) _).trans (hb1.mono (by simp)); obtain ⟨_, _, _, _, _, _, _, _, _, _⟩ := cells10 hbx; clear hb1; rw [he]) | (go_at_call 47; refine (lwithin_any _ _ _ _).mono ?_; rintro e w2 ⟨rfl, rfl⟩; rw [hg]))
  go_loopw [7, 8] (fun o i wr => ∃ j : Nat, j ≤ G ∧ i = .int .i64 j ∧ o = .int .i64 (trK r.ke j r.ga) ∧ w1 = wr) (fun _ i _ => G - (intOf i).toNat)
  case atStart => exact ⟨0, by omega, rfl, rfl, rfl⟩
  case round =>
    obtain ⟨j, hj, rfl, rfl, rfl⟩ := hrel
    obtain ⟨t0, t1⟩ := trK_bounds ke0 ke1 (x := r.ga) (by omega) j
    obtain ⟨m0, m1⟩ := mul_bounds ke0 ke1 t0 (Int.le_trans t1 ga1)
    rw [Int.mul_comm] at m0 m1
    obtain ⟨c0, c1⟩ := mul_bounds dn0 dn1 t0 (Int.le_trans t1 ga1)
    obtain ⟨q0, q1⟩ := shr_bounds (s := r.sh) c0 c1
    obtain ⟨p0, p1⟩ := pow_le16 (n := r.sh.toNat) (by omega)
    by_cases hlt : j < G
    · have z0 : ((j : Int) < (G : Int)) = True := by simp <;> omega
      go_wp2
      go_roundw
      case rel => exact ⟨j + 1, by omega, by go_num, by first | rfl | simp [trK], by first | trivial | rfl⟩
      case measure => simp [intOf]; omega
    · obtain rfl : j = G := by omega
      have z0 : ((j : Int) < (j : Int)) = False := by simp
      have hz0 : (2 : Int) ^ r.sh.toNat ≠ 0 := by omega
      have hz1 : ((2 : Int) ^ r.sh.toNat = 0) = False := eq_false hz0
      have hz2 : ((2 : Int) ^ r.sh.toNat == 0) = false := beq_eq_false_iff_ne.2 hz0
      have hwp : IntKind.i64.wrap (r.dn * trK r.ke j r.ga) = r.dn * trK r.ke j r.ga := IntWalk.i64_in _ ⟨by omega, by omega⟩
      have htd : Int.tdiv (r.dn * trK r.ke j r.ga) (2 ^ r.sh.toNat) = r.dn * trK r.ke j r.ga / 2 ^ r.sh.toNat := Int.tdiv_eq_ediv_of_nonneg c0
      have hwq : IntKind.i64.wrap (r.dn * trK r.ke j r.ga / 2 ^ r.sh.toNat) = r.dn * trK r.ke j r.ga / 2 ^ r.sh.toNat := IntWalk.i64_in _ ⟨by omega, by omega⟩
      have hwn : IntKind.i64.wrap (-(r.dn * trK r.ke j r.ga / 2 ^ r.sh.toNat)) = -(r.dn * trK r.ke j r.ga / 2 ^ r.sh.toNat) := IntWalk.i64_in _ ⟨by omega, by omega⟩
      have HB := Lib.hid hbx
      have H1 := Lib.hid h01
      clear hbx h01
      go_wp2
      go_region_held3 (fun w' => w'.cell? ⟨w.heap.size, 1, none⟩ = some (.int .i64 r.up) ∧ w'.cell? ⟨w.heap.size, 2, none⟩ = some (.int .i64 r.dn) ∧ w'.cell? ⟨w.heap.size, 3, none⟩ = some (.int .i64 r.sh)) (go_keep) (first | (go_at_call 51; refine (power_int r.sh sh0 sh1 _).mono ?_; rintro e w3 ⟨rfl, hw3⟩; subst hw3))
      go_wp2
      exact bodyPost_ret (v := .tuple #[.int .i64 (-(r.dn * trK r.ke j r.ga / 2 ^ r.sh.toNat)), .int .i64 0]) (by simp [results, Try.results19, go_sem, hwp, htd, hwq, hwn]) rfl ⟨rfl, H1.out.drew⟩
theorem rwindow_any (r : Rul) (gap : Int) (w : World) :
    Calls Try.prog 19 #[.agg #[.int .i64 r.kd, .int .i64 r.up, .int .i64 r.dn, .int .i64 r.sh, .int .i64 r.ga, .int .i64 r.ke, .int .i64 r.fa, .int .i64 r.lo, .int .i64 r.hi, .bool r.sm], .int .i64 gap] w fun e w' => e = .returned (.tuple #[.int .i64 (winR r gap), .int .i64 (winE r gap)]) ∧ Below w.heap.size w w' := by
  by_cases he : ruleE r = 0
  · cases hg : inR gap (-10000) 10000 with
    | false =>
      have e1 : winE r gap = 3 := by simp [winE, he, hg]
      have e2 : winR r gap = 0 := by simp [winR, e1]
      rw [e1, e2]; exact rwindow_range r gap he hg w
    | true =>
      have e1 : winE r gap = 0 := by simp [winE, he, hg]
      have e2 : winR r gap = winF r gap := by simp [winR, e1]
      rw [e1, e2]
      have hg' := inR_true.1 hg
      by_cases h0 : gap = 0
      · subst h0
        have e3 : winF r 0 = 0 := by simp [winF]
        rw [e3]; exact rwindow_zero r he w
      · by_cases hp : 0 < gap
        · obtain ⟨G, rfl⟩ := Int.eq_ofNat_of_zero_le (Int.le_of_lt hp)
          have e3 : winF r (G : Int) = r.up * trK r.ke G r.ga / 2 ^ r.sh.toNat := by unfold winF; rw [if_neg h0, if_pos hp]; simp
          rw [e3]; exact rwindow_pos r G he (by omega) (by omega) w
        · obtain ⟨G, hG⟩ := Int.eq_ofNat_of_zero_le (show 0 ≤ -gap by omega)
          obtain rfl : gap = -(G : Int) := by omega
          have e3 : winF r (-(G : Int)) = -(r.dn * trK r.ke G r.ga / 2 ^ r.sh.toNat) := by
            unfold winF; rw [if_neg h0, if_neg hp]; simp
          rw [e3]; exact rwindow_neg r G he (by omega) (by omega) w
  · have e1 : winE r gap = ruleE r := by simp [winE, he]
    have e2 : winR r gap = 0 := by simp [winR, e1, he]
    rw [e1, e2]; exact rwindow_err r gap he w
end Go.Proofs.Ythglhgcjkpdkoaa
