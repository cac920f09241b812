/- Rules of learning: what a rule's check says; contracts of the small functions. -/
import Derived.Test.YtipodippfddlpaaRows
import Derived.WalkKit
import Derived.WalkSpells
import Derived.Laws.EntriesVeiled
import Derived.WalkLawsBesides
import Derived.Deep.QuietTactic
import Derived.BigQuiet
import Derived.WalkSmall
import Derived.Lib.Hide
import Derived.Test.YtipodippfddlpaaA
namespace Go.Proofs.Ytipodippfddlpaa.Lrn
set_option linter.unusedVariables false
open Go.RowKit

structure Rul where
  kd : Int
  up : Int
  dn : Int
  sh : Int
  ga : Int
  ke : Int
  fa : Int
  lo : Int
  hi : Int
  sm : Bool
def Rul.val (r : Rul) : Value := .agg #[.int .i64 r.kd, .int .i64 r.up, .int .i64 r.dn, .int .i64 r.sh, .int .i64 r.ga, .int .i64 r.ke, .int .i64 r.fa, .int .i64 r.lo, .int .i64 r.hi, .bool r.sm]
/-- The numbers of a rule are within their bounds. -/
def numR (r : Rul) : Bool := inR r.up 0 255 && inR r.dn 0 255 && inR r.sh 0 16 && inR r.ga 1 4096 && inR r.ke 0 255 && inR r.fa 0 255 && !(r.kd == 1 && r.fa != 0) && !decide (r.lo < -255) && !decide (255 < r.hi) && !decide (r.hi < r.lo)
def ruleE (r : Rul) : Int := if r.kd = 1 ∨ r.kd = 2 then (if numR r then 0 else 3) else 2

set_option maxHeartbeats 400000 in
theorem lamong_any (x a b : Int) (w : World) :
    Calls Try.prog 44 #[.int .i64 x, .int .i64 a, .int .i64 b] w fun e w' => e = .returned (.bool (inR x a b)) ∧ w = w' := by
  by_cases h1 : a ≤ x
  · go_enter Try.func44, Try.ntmps44
    go_wp2
    go_ret
    exact ⟨by simp [inR, *], rfl⟩
  · go_enter Try.func44, Try.ntmps44
    go_wp2
    go_ret
    exact ⟨by simp [inR]; omega, rfl⟩
set_option maxHeartbeats 400000 in
theorem lwithin_any (x a b : Int) (w : World) :
    Calls Try.prog 47 #[.int .i64 x, .int .i64 a, .int .i64 b] w fun e w' => e = .returned (.bool (inR x a b)) ∧ w = w' := by
  by_cases h1 : a ≤ x
  · go_enter Try.func47, Try.ntmps47
    go_wp2
    go_ret
    exact ⟨by simp [inR, *], rfl⟩
  · go_enter Try.func47, Try.ntmps47
    go_wp2
    go_ret
    exact ⟨by simp [inR]; omega, rfl⟩

theorem ret_int {k : IntKind} {a b : Int} (h : a = b) : Ending.returned (.int k a) = .returned (.int k b) := by rw [h]
set_option maxRecDepth 100000 in
set_option maxHeartbeats 4000000 in
theorem rrule_any (r : Rul) (w : World) :
    Calls Try.prog 46 #[.agg #[.int .i64 r.kd, .int .i64 r.up, .int .i64 r.dn, .int .i64 r.sh, .int .i64 r.ga, .int .i64 r.ke, .int .i64 r.fa, .int .i64 r.lo, .int .i64 r.hi, .bool r.sm]] w fun e w' => e = .returned (.int .i64 (ruleE r)) ∧ Below w.heap.size w w' := by
  obtain ⟨X, hX⟩ : ∃ X : Int, X = ruleE r := ⟨_, rfl⟩
  rw [← hX]
  have HX := Lib.hid hX
  clear hX
  go_enter Try.func46, Try.ntmps46
  go_wp2_with (go_at_call 47; refine (lwithin_any _ _ _ _).mono ?_; rintro e w' ⟨rfl, rfl⟩)
  all_goals go_ret
  all_goals refine ⟨ret_int ?_, ((Below.refl _ _).alloc (Nat.le_refl _) _)⟩
  all_goals rw [HX.out]
  all_goals clear HX
  all_goals first | (simp_all [ruleE, numR]; done) | (have hh : r.hi < r.lo := (by omega); have hk : r.kd = 1 ∨ r.kd = 2 := (by simp_all); simp [ruleE, numR, hk, hh]; done)
end Go.Proofs.Ytipodippfddlpaa.Lrn
