/- learn.Window, of any rule and gap. -/
import Derived.Test.YthglhgcjkpdkoaaLh
namespace Go.Proofs.Ythglhgcjkpdkoaa
set_option linter.unusedVariables false
open Go.RowKit

set_option maxRecDepth 100000 in
set_option maxHeartbeats 1000000 in
theorem window_zero (r : Rul) (hw : (Lit.int .i64 r.kd).wf = true) (he : ruleE r = 0) (w : World) :
    Calls Try.prog 18 #[.agg #[.int .i64 r.kd, .int .i64 r.up, .int .i64 r.dn, .int .i64 r.sh, .int .i64 r.ga, .int .i64 r.ke, .int .i64 r.fa, .int .i64 r.lo, .int .i64 r.hi, .bool r.sm], .int .i64 0] w fun e w' => e = .returned (.tuple #[.int .i64 0, .int .i64 0]) ∧ Below w.heap.size w w' := by
  have hg : inR 0 (-10000) 10000 = true := by rfl
  obtain ⟨up0, up1, dn0, dn1, sh0, sh1, ga0, ga1, ke0, ke1⟩ := rulOk_of he
  go_enter Try.func18, Try.ntmps18
  go_wp2_with (first | (go_at_call 43; refine (checkRule_any r hw _).mono ?_; rintro e w1 ⟨rfl, hb1⟩; have hz1 : w.heap.size < w1.heap.size := (by have := hb1.size; simp at this; omega); have hbx : RuleBox w1 w.heap.size r := (hb1.block _ (by simp)).trans (alloc_new_at _ _ _ rfl); have h01 : Below w.heap.size w w1 := ((Below.refl _ _).alloc (Nat.le_refl _) _).trans (hb1.mono (by simp)); clear hb1; rw [he]) | (go_at_call 44; refine (lamong_any _ _ _ _).mono ?_; rintro e w2 ⟨rfl, rfl⟩; rw [hg]))
  have h02 : Below w.heap.size w (w1.alloc (.cells #[.int .i64 0, .int .i64 0, .int .i64 0, .int .i64 0] 98)) := h01.alloc (Nat.le_of_lt hz1) _
  have hbx2 : RuleBox (w1.alloc (.cells #[.int .i64 0, .int .i64 0, .int .i64 0, .int .i64 0] 98)) w.heap.size r := (Below.heap_alloc _ _ _ (by omega)).trans hbx
  have hm2 : MarkBox (w1.alloc (.cells #[.int .i64 0, .int .i64 0, .int .i64 0, .int .i64 0] 98)) w1.heap.size 0 0 0 0 := alloc_new_at _ _ _ rfl
  generalize w1.heap.size = B at *
  go_loopw [27] (fun i wr => i = .int .i64 0 ∧ Below w.heap.size w wr ∧ RuleBox wr w.heap.size r ∧ MarkBox wr B 0 0 0 0) (fun i _ => 0)
  case atStart => exact ⟨rfl, h02, hbx2, hm2⟩
  case round =>
    obtain ⟨rfl, hb, hbox, hmk⟩ := hrel
    have hlr : w.heap.size < wr.heap.size := (Array.getElem?_eq_some_iff.1 hbox).1
    obtain ⟨_, _, _, _, _, _, _⟩ := cells4m hmk
    have HB := Lib.hid hb
    have HBX := Lib.hid hbox
    clear hb hbox hmk
    go_wp2_with (go_at_call 50; refine (change_no r w.heap.size 0 0 _ HBX.out hlr sh0 sh1).mono ?_; rintro e w3 ⟨rfl, hb3⟩)
    exact bodyPost_ret (v := .tuple #[.int .i64 0, .int .i64 0]) (by simp [results, Try.results18, go_sem]) rfl ⟨rfl, HB.out.trans (hb3.mono HB.out.size)⟩
theorem window_any (r : Rul) (gap : Int) (hw : (Lit.int .i64 r.kd).wf = true) (w : World) :
    Calls Try.prog 18 #[.agg #[.int .i64 r.kd, .int .i64 r.up, .int .i64 r.dn, .int .i64 r.sh, .int .i64 r.ga, .int .i64 r.ke, .int .i64 r.fa, .int .i64 r.lo, .int .i64 r.hi, .bool r.sm], .int .i64 gap] w fun e w' => e = .returned (.tuple #[.int .i64 (winR r gap), .int .i64 (winE r gap)]) ∧ Below w.heap.size w w' := by
  by_cases he : ruleE r = 0
  · cases hg : inR gap (-10000) 10000 with
    | false =>
      have e1 : winE r gap = 3 := by simp [winE, he, hg]
      have e2 : winR r gap = 0 := by simp [winR, e1]
      rw [e1, e2]; exact window_range r gap hw he hg w
    | true =>
      have e1 : winE r gap = 0 := by simp [winE, he, hg]
      have e2 : winR r gap = winF r gap := by simp [winR, e1]
      rw [e1, e2]
      have hg' := inR_true.1 hg
      by_cases h0 : gap = 0
      · subst h0
        have e3 : winF r 0 = 0 := by simp [winF]
        rw [e3]; exact window_zero r hw he w
      · by_cases hp : 0 < gap
        · obtain ⟨G, rfl⟩ := Int.eq_ofNat_of_zero_le (Int.le_of_lt hp)
          have e3 : winF r (G : Int) = r.up * trK r.ke G r.ga / 2 ^ r.sh.toNat := by unfold winF; rw [if_neg h0, if_pos hp]; simp
          rw [e3]; exact window_pos r G hw he (by omega) (by omega) w
        · obtain ⟨G, hG⟩ := Int.eq_ofNat_of_zero_le (show 0 ≤ -gap by omega)
          obtain rfl : gap = -(G : Int) := by omega
          have e3 : winF r (-(G : Int)) = -(r.dn * trK r.ke G r.ga / 2 ^ r.sh.toNat) := by
            unfold winF; rw [if_neg h0, if_neg hp]; simp
          rw [e3]; exact window_neg r G hw he (by omega) (by omega) w
  · have e1 : winE r gap = ruleE r := by simp [winE, he]
    have e2 : winR r gap = 0 := by simp [winR, e1, he]
    rw [e1, e2]; exact window_err r gap hw he w
end Go.Proofs.Ythglhgcjkpdkoaa
