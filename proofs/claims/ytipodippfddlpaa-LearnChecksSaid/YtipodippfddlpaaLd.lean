/- learn.checkRule, of a rule of a known kind. -/
import Derived.Test.YtipodippfddlpaaLc
namespace Go.Proofs.Ytipodippfddlpaa.Lrn
set_option linter.unusedVariables false
open Go.RowKit

def RuleBox (W : World) (b : Nat) (r : Rul) : Prop := W.heap[b]? = some (.cells #[.int .i64 r.kd, .int .i64 r.up, .int .i64 r.dn, .int .i64 r.sh, .int .i64 r.ga, .int .i64 r.ke, .int .i64 r.fa, .int .i64 r.lo, .int .i64 r.hi, .bool r.sm] 36)
def FourOk (r : Rul) (j : Nat) : Prop := (0 < j → inR r.up 0 255 = true) ∧ (1 < j → inR r.dn 0 255 = true) ∧ (2 < j → inR r.ke 0 255 = true) ∧ (3 < j → inR r.fa 0 255 = true)
set_option maxRecDepth 100000 in
theorem idx4_0 (a b c d : Value) (W : World) : (Instr.index 146 (.agg #[a, b, c, d]) (.int .i64 0)).run Try.prog W = .ok a W := by kernel_rfl
set_option maxRecDepth 100000 in
theorem idx4_1 (a b c d : Value) (W : World) : (Instr.index 146 (.agg #[a, b, c, d]) (.int .i64 1)).run Try.prog W = .ok b W := by kernel_rfl
set_option maxRecDepth 100000 in
theorem idx4_2 (a b c d : Value) (W : World) : (Instr.index 146 (.agg #[a, b, c, d]) (.int .i64 2)).run Try.prog W = .ok c W := by kernel_rfl
set_option maxRecDepth 100000 in
theorem idx4_3 (a b c d : Value) (W : World) : (Instr.index 146 (.agg #[a, b, c, d]) (.int .i64 3)).run Try.prog W = .ok d W := by kernel_rfl
set_option maxRecDepth 100000 in
set_option maxHeartbeats 4000000 in
theorem checkRule_known (r : Rul) (hk : (r.kd = 1 ∨ r.kd = 2) = True) (hw : (Lit.int .i64 r.kd).wf = true) (w : World) :
    Calls Try.prog 43 #[.agg #[.int .i64 r.kd, .int .i64 r.up, .int .i64 r.dn, .int .i64 r.sh, .int .i64 r.ga, .int .i64 r.ke, .int .i64 r.fa, .int .i64 r.lo, .int .i64 r.hi, .bool r.sm]] w fun e w' => e = .returned (.int .i64 (if numR r then 0 else 3)) ∧ Below w.heap.size w w' := by
  obtain ⟨X, hX⟩ : ∃ X : Int, X = if numR r then 0 else 3 := ⟨_, rfl⟩
  rw [← hX]
  have HX := Lib.hid hX
  clear hX
  go_enter Try.func43, Try.ntmps43
  go_wp2
  have hbk : (w.alloc (.cells #[.int .i64 r.kd, .int .i64 r.up, .int .i64 r.dn, .int .i64 r.sh, .int .i64 r.ga, .int .i64 r.ke, .int .i64 r.fa, .int .i64 r.lo, .int .i64 r.hi, .bool r.sm] 36)).heap[w.heap.size]? = _ := alloc_new_at _ _ _ rfl
  have hb0 : Below w.heap.size w (w.alloc (.cells #[.int .i64 r.kd, .int .i64 r.up, .int .i64 r.dn, .int .i64 r.sh, .int .i64 r.ga, .int .i64 r.ke, .int .i64 r.fa, .int .i64 r.lo, .int .i64 r.hi, .bool r.sm] 36)) := (Below.refl _ _).alloc (Nat.le_refl _) _
  have hz0 : w.heap.size < (w.alloc (.cells #[.int .i64 r.kd, .int .i64 r.up, .int .i64 r.dn, .int .i64 r.sh, .int .i64 r.ga, .int .i64 r.ke, .int .i64 r.fa, .int .i64 r.lo, .int .i64 r.hi, .bool r.sm] 36)).heap.size := by simp
  generalize w.alloc (.cells #[.int .i64 r.kd, .int .i64 r.up, .int .i64 r.dn, .int .i64 r.sh, .int .i64 r.ga, .int .i64 r.ke, .int .i64 r.fa, .int .i64 r.lo, .int .i64 r.hi, .bool r.sm] 36) = W at *
  obtain ⟨_, _, _, _, _, _, _, _, _, _⟩ := cells10 hbk
  have HB := Lib.hid hbk
  have H0 := Lib.hid hb0
  clear hbk hb0
  go_region_held3 (fun w' => w'.cell? ⟨w.heap.size, 0, none⟩ = some (.int .i64 r.kd)) (go_keep)
    (first | (go_at_call 73; refine (kinds_any _).mono ?_; rintro e w1 ⟨rfl, hm, hb⟩; have q1 : Below W.heap.size W w1 := ⟨hb.os, hb.tape, hb.output, hb.size, hb.block⟩; obtain ⟨_, _, _, _, _, _, _, _, _, _⟩ := cells10 ((q1.block _ (by omega)).trans HB.out); have hm : MapIs w1 W.heap.size 2 kindT := hm; have hlk0 := kind_look hm r.kd hw w1 rfl; have hlk1 := kind_look hm r.kd hw w1.drew rfl; have Q1 := Lib.hid q1; have HM := Lib.hid hm; clear hb q1 hm))
  have hbx : RuleBox w1 w.heap.size r := (Q1.out.block _ (by omega)).trans HB.out
  have hb1 : Below w.heap.size w w1 := H0.out.trans (Q1.out.mono (Nat.le_of_lt hz0))
  have BX := Lib.hid hbx
  have B1 := Lib.hid hb1
  clear hbx hb1
  go_wp2
  go_loopw [25] (fun i wr => ∃ j : Nat, j ≤ 4 ∧ i = .int .i64 j ∧ Below w.heap.size w wr ∧ RuleBox wr w.heap.size r ∧ FourOk r j) (fun i _ => 4 - (intOf i).toNat)
  case atStart => exact ⟨0, by omega, rfl, B1.out, BX.out, by simp [FourOk]⟩
  case round =>
    obtain ⟨j, hj, hij, hb, hbox, hgood⟩ := hrel
    have HBr := Lib.hid hb
    have HBX := Lib.hid hbox
    have HG := Lib.hid hgood
    obtain ⟨_, _, _, _, _, _, _, _, _, _⟩ := cells10 hbox
    clear hb hbox hgood
    rcases (by omega : j = 0 ∨ j = 1 ∨ j = 2 ∨ j = 3 ∨ j = 4) with rfl | rfl | rfl | rfl | rfl
    · have hij : _ = Value.int .i64 0 := hij
      subst hij
      have hix := idx4_0 (.int .i64 r.up) (.int .i64 r.dn) (.int .i64 r.ke) (.int .i64 r.fa)
      cases hx : inR r.up 0 255 with
      | false =>
        go_wp2_with (go_at_call 44; refine (lamong_any _ _ _ _).mono ?_; rintro e w2 ⟨rfl, rfl⟩; rw [hx])
        go_ret
        exact ⟨ret_int (by rw [HX.out]; simp [numR, hx]), HBr.out⟩
      | true =>
        go_wp2_with (go_at_call 44; refine (lamong_any _ _ _ _).mono ?_; rintro e w2 ⟨rfl, rfl⟩; rw [hx])
        go_roundw
        case rel => exact ⟨1, by omega, by go_num, HBr.out, HBX.out, by have := HG.out; simp_all [FourOk]⟩
        case measure => simp [intOf]
    · have hij : _ = Value.int .i64 1 := hij
      subst hij
      have hix := idx4_1 (.int .i64 r.up) (.int .i64 r.dn) (.int .i64 r.ke) (.int .i64 r.fa)
      cases hx : inR r.dn 0 255 with
      | false =>
        go_wp2_with (go_at_call 44; refine (lamong_any _ _ _ _).mono ?_; rintro e w2 ⟨rfl, rfl⟩; rw [hx])
        go_ret
        exact ⟨ret_int (by rw [HX.out]; simp [numR, hx]), HBr.out⟩
      | true =>
        go_wp2_with (go_at_call 44; refine (lamong_any _ _ _ _).mono ?_; rintro e w2 ⟨rfl, rfl⟩; rw [hx])
        go_roundw
        case rel => exact ⟨2, by omega, by go_num, HBr.out, HBX.out, by have := HG.out; simp_all [FourOk]⟩
        case measure => simp [intOf]
    · have hij : _ = Value.int .i64 2 := hij
      subst hij
      have hix := idx4_2 (.int .i64 r.up) (.int .i64 r.dn) (.int .i64 r.ke) (.int .i64 r.fa)
      cases hx : inR r.ke 0 255 with
      | false =>
        go_wp2_with (go_at_call 44; refine (lamong_any _ _ _ _).mono ?_; rintro e w2 ⟨rfl, rfl⟩; rw [hx])
        go_ret
        exact ⟨ret_int (by rw [HX.out]; simp [numR, hx]), HBr.out⟩
      | true =>
        go_wp2_with (go_at_call 44; refine (lamong_any _ _ _ _).mono ?_; rintro e w2 ⟨rfl, rfl⟩; rw [hx])
        go_roundw
        case rel => exact ⟨3, by omega, by go_num, HBr.out, HBX.out, by have := HG.out; simp_all [FourOk]⟩
        case measure => simp [intOf]
    · have hij : _ = Value.int .i64 3 := hij
      subst hij
      have hix := idx4_3 (.int .i64 r.up) (.int .i64 r.dn) (.int .i64 r.ke) (.int .i64 r.fa)
      cases hx : inR r.fa 0 255 with
      | false =>
        go_wp2_with (go_at_call 44; refine (lamong_any _ _ _ _).mono ?_; rintro e w2 ⟨rfl, rfl⟩; rw [hx])
        go_ret
        exact ⟨ret_int (by rw [HX.out]; simp [numR, hx]), HBr.out⟩
      | true =>
        go_wp2_with (go_at_call 44; refine (lamong_any _ _ _ _).mono ?_; rintro e w2 ⟨rfl, rfl⟩; rw [hx])
        go_roundw
        case rel => exact ⟨4, by omega, by go_num, HBr.out, HBX.out, by have := HG.out; simp_all [FourOk]⟩
        case measure => simp [intOf]
    · have hij : _ = Value.int .i64 4 := hij
      subst hij
      obtain ⟨q0, q1, q2, q3⟩ := HG.out
      have q0 := q0 (by omega)
      have q1 := q1 (by omega)
      have q2 := q2 (by omega)
      have q3 := q3 (by omega)
      go_wp2_with (go_at_call 44; refine (lamong_any _ _ _ _).mono ?_; rintro e w2 ⟨rfl, rfl⟩)
      all_goals go_ret
      all_goals refine ⟨ret_int ?_, HBr.out⟩
      all_goals rw [HX.out]
      all_goals first | (simp_all [numR]; done) | (have hh : r.hi < r.lo := (by omega); simp [numR, hh]; done) | (have hh : ¬ r.hi < r.lo := (by omega); simp_all [numR]; done) | (have hh : 255 < r.hi := (by omega); simp [numR, hh]; done)
theorem checkRule_any (r : Rul) (hw : (Lit.int .i64 r.kd).wf = true) (w : World) :
    Calls Try.prog 43 #[.agg #[.int .i64 r.kd, .int .i64 r.up, .int .i64 r.dn, .int .i64 r.sh, .int .i64 r.ga, .int .i64 r.ke, .int .i64 r.fa, .int .i64 r.lo, .int .i64 r.hi, .bool r.sm]] w fun e w' => e = .returned (.int .i64 (ruleE r)) ∧ Below w.heap.size w w' := by
  by_cases hk : r.kd = 1 ∨ r.kd = 2
  · have := checkRule_known r (eq_true hk) hw w
    rw [ruleE, if_pos hk]
    exact this
  · have := checkRule_other r hk hw w
    rw [ruleE, if_neg hk]
    exact this
end Go.Proofs.Ytipodippfddlpaa.Lrn
