/- The specification's division rounded down. Over this seat's program; the conditions are named. -/
import Derived.Test.YtbnjmpjodmlccaaSk
namespace Go.Proofs.Ytbnjmpjodmlccaa
set_option linter.unusedVariables false
open Go.RowKit Go.Shelf

theorem down_eq (a b : Int) (hb : 0 < b) : a / b = if a.tmod b < 0 then a.tdiv b - 1 else a.tdiv b := by
  have h1 := Int.mul_tdiv_add_tmod a b
  have h2 := Int.tmod_lt_of_pos a hb
  have h3 := Int.lt_tmod_of_pos a hb
  generalize a.tdiv b = q at *
  generalize a.tmod b = r at *
  split
  · exact ((Int.ediv_emod_unique hb (q := q - 1) (r := r + b)).2 ⟨by rw [Int.mul_sub]; omega, by omega, by omega⟩).1
  · exact ((Int.ediv_emod_unique hb (q := q) (r := r)).2 ⟨by omega, by omega, by omega⟩).1
set_option maxRecDepth 100000 in
set_option maxHeartbeats 1000000 in
theorem down_any (a b D : Int) (hb : 0 < b) (h1 : -1000000000 ≤ a) (h2 : a ≤ 1000000000) (hD : a / b = D) (w : World) :
    Calls Try.prog 61 #[.int .i64 a, .int .i64 b] w fun e w' => e = .returned (.int .i64 D) ∧ w' = w := by
  have h3 := down_eq a b hb
  have hq1 : -1000000000 ≤ a.tdiv b ∧ a.tdiv b ≤ 1000000000 := by
    have h4 := Int.mul_tdiv_add_tmod a b
    have h5 := Int.natAbs_tdiv_le_natAbs a b
    omega
  obtain ⟨Q, hQ⟩ : ∃ Q, a.tdiv b = Q := ⟨_, rfl⟩
  obtain ⟨R, hR⟩ : ∃ R, a.tmod b = R := ⟨_, rfl⟩
  rw [hQ, hR, hD] at h3
  rw [hQ] at hq1
  obtain ⟨q1, q2⟩ := hq1
  have hm0 : (b == 0) = false := by simp; omega
  have H3 := Lib.hid h3
  have hw : IntKind.i64.wrap Q = Q := by rw [IntKind.wrap_i64]; omega
  clear h3 hD
  by_cases c : R < 0
  · have g1 : (R < 0) = True := by simp [c]
    go_enter Try.func61, Try.ntmps61
    go_wp2
    go_ret
    have h3 := H3.out
    rw [if_pos c] at h3
    exact ⟨by rw [h3]; rfl, rfl⟩
  · have g1 : (R < 0) = False := by simp; omega
    go_enter Try.func61, Try.ntmps61
    go_wp2
    go_ret
    have h3 := H3.out
    rw [if_neg (by omega)] at h3
    exact ⟨by rw [h3]; rfl, rfl⟩
end Go.Proofs.Ytbnjmpjodmlccaa
