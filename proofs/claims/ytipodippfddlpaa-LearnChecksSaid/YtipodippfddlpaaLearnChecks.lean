/- For every network, rules and numbers of rules the law LearnChecks returns true: learn.Check returns what the specification's does, and the examples hold. No condition. -/
import Derived.Test.YtipodippfddlpaaLt
import Derived.Test.YtipodippfddlpaaWk
namespace Go.Proofs.Ytipodippfddlpaa.learnChecks
open Go.ChangeShapes Go.WideShapes Go.ChangeAt Go.RowKit Go.Proofs.Ytipodippfddlpaa.Lf Go.Proofs.Ytipodippfddlpaa.Lrn
set_option linter.unusedVariables false

def fewL (a b c d : Nat) : Bool := decide (a ≤ 24) && decide (b ≤ 100) && decide (c ≤ 17) && decide (d ≤ 110)
theorem ret_bool {a b : Bool} (h : a = b) : Ending.returned (.bool a) = .returned (.bool b) := by rw [h]
set_option maxRecDepth 100000 in
set_option maxHeartbeats 2000000 in
theorem few_any (a1 a2 a3 a4 : Option Addr) (k m r p c1 c2 c3 c4 : Nat) (inp : Int) (w : World) :
    Calls Try.prog 13 #[.agg #[.slice a1 k c1, .int .i64 inp, .slice a2 m c2], .slice a3 r c3, .slice a4 p c4] w fun e w' => e = .returned (.bool (fewL k m r p)) ∧ Below w.heap.size w w' := by
  obtain ⟨X, hX⟩ : ∃ X, X = fewL k m r p := ⟨_, rfl⟩
  rw [← hX]
  have HX := Lib.hid hX
  clear hX
  go_enter Try.func13, Try.ntmps13
  go_wp2
  all_goals go_ret
  all_goals refine ⟨ret_bool ?_, (Below.refl _ _).alloc (Nat.le_refl _) _⟩
  all_goals rw [HX.out]
  all_goals clear HX
  all_goals (rw [Bool.eq_iff_iff]; simp [fewL]; omega)

set_option maxRecDepth 100000 in
set_option maxHeartbeats 2000000 in
theorem walk (n : NetM) (rs : List Rul) (pl : List Int) (a1 a2 ar ap : Option Addr) (c1 c2 cr cp : Nat) (hw : ∀ r ∈ rs, (Lit.int .i64 r.kd).wf = true)
    (w : World) (hp : PsAt w (.slice a1 n.ps.length c1) n.ps) (hs : SsAt w (.slice a2 n.ss.length c2) n.ss) (hr : RlsAt w (.slice ar rs.length cr) rs) (hi : IsAt w (.slice ap pl.length cp) pl) :
    Calls Try.prog 3 #[.agg #[.slice a1 n.ps.length c1, .int .i64 n.inp, .slice a2 n.ss.length c2], .slice ar rs.length cr, .slice ap pl.length cp] w fun e w' => e = .returned (.bool true) ∧ Below w.heap.size w w' := by
  cases hf : fewL n.ps.length n.ss.length rs.length pl.length with
  | false =>
    go_enter Try.func3, Try.ntmps3
    go_wp2_with (first | (go_at_call 13; refine (few_any _ _ _ _ _ _ _ _ _ _ _ _ _ _).mono ?_; rintro e w1 ⟨rfl, hb1⟩; rw [hf]) | (go_at_call 14; refine (works_any _).mono ?_; rintro e w2 ⟨rfl, hb2⟩))
    go_ret
    exact ⟨rfl, (((Below.refl _ _).alloc (Nat.le_refl _) _).trans (hb1.mono (by simp))).trans (hb2.mono (by have := hb1.size; simp at this; omega))⟩
  | true =>
    have hb9 : n.ps.length ≤ 24 ∧ n.ss.length ≤ 100 ∧ rs.length ≤ 17 ∧ pl.length ≤ 110 := by
      simp [fewL] at hf; omega
    obtain ⟨_, f2, f3, f4⟩ := hb9
    have hck : ∀ w1, Below w.heap.size w w1 → Calls Try.prog 15 #[.agg #[.slice a1 n.ps.length c1, .int .i64 n.inp, .slice a2 n.ss.length c2], .slice ar rs.length cr, .slice ap pl.length cp] w1 (LGot (lcheck n rs pl) w1) := fun w1 hb =>
      lcheck_any n rs pl a1 a2 ar ap c1 c2 cr cp f3 f4 f2 hw w1 (hp.below hb) (hs.below hb) (hr.below hb) (hi.below hb)
    have hrk : ∀ (w1 w2 : World) a c, Below w.heap.size w w1 → RlsAt w1 (.slice a rs.length c) rs → Calls Try.prog 16 #[.agg #[.slice a1 n.ps.length c1, .int .i64 n.inp, .slice a2 n.ss.length c2], .slice a rs.length c, .slice ap pl.length cp] w1 (LGot (lcheck n rs pl) w1) := fun w1 _ a c hb h =>
      rlcheck_any n rs pl a1 a2 a ap c1 c2 c cp f3 f4 f2 hw w1 (hp.below hb) (hs.below hb) h (hi.below hb)
    have hrf : ∀ w1, Below w.heap.size w w1 → Calls Try.prog 17 #[.slice ar rs.length cr] w1 (RefGot rs w1) := fun w1 hb => ref_any rs ar cr f3 w1 (hr.below hb)
    obtain ⟨X, hX⟩ : ∃ X, X = lcheck n rs pl := ⟨_, rfl⟩
    rw [← hX] at hck hrk
    have hxx : (X == X) = true := by simp
    have HCK := Lib.hid hck
    have HRK := Lib.hid hrk
    have HRF := Lib.hid hrf
    clear hck hrk hrf hX hp hs hr hi hw f2 f3 f4
    go_enter Try.func3, Try.ntmps3
    go_wp2_with (go_at_call 13; refine (few_any _ _ _ _ _ _ _ _ _ _ _ _ _ _).mono ?_; rintro e w1 ⟨rfl, hb1⟩; rw [hf])
    have h01 : Below w.heap.size w w1 := ((Below.refl _ _).alloc (Nat.le_refl _) _).trans (hb1.mono (by simp))
    have hz1 : w.heap.size < w1.heap.size := by have := hb1.size; simp at this; omega
    have hbk : w1.heap[w.heap.size]? = _ := (hb1.block _ (by simp)).trans (alloc_new_at _ _ _ rfl)
    obtain ⟨_, _, _, _, _, _⟩ := cells3f hbk
    have HB := Lib.hid hbk
    have H01 := Lib.hid h01
    clear hb1 hbk h01 hf
    go_region_held3 (fun w' => w'.cell? ⟨w.heap.size, 0, none⟩ = some (.slice a1 n.ps.length c1) ∧ w'.cell? ⟨w.heap.size, 1, none⟩ = some (.int .i64 n.inp) ∧ w'.cell? ⟨w.heap.size, 2, none⟩ = some (.slice a2 n.ss.length c2)) (go_keep)
      (first | (go_at_call 15; refine (HCK.out _ (by first | exact H01.out.drew | exact Q4.out)).mono ?_; rintro e w3 ⟨rfl, hb3⟩; have q3 : Below w.heap.size w w3 := (by first | exact H01.out.drew.trans (hb3.mono (Nat.le_of_lt hz1)) | exact Q4.out.trans (hb3.mono (by omega))); have hz3 : w.heap.size < w3.heap.size := (by have h9 := hb3.size; first | omega | (simp at h9; omega)); obtain ⟨_, _, _, _, _, _⟩ := cells3f ((hb3.block _ (by first | exact hz1 | omega)).trans (by first | exact HB.out | exact HB4.out)); have hk3 := (hb3.block w.heap.size (by first | exact hz1 | omega)).trans (by first | exact HB.out | exact HB4.out); have HB3 := Lib.hid hk3; have Q3 := Lib.hid q3; clear hb3 q3 hk3)
               | (go_at_call 17; refine (HRF.out _ (by first | exact Q3.out | exact H01.out.drew)).mono ?_; rintro e w4 ⟨a9, c9, rfl, hr9, hb4⟩; have q4 : Below w.heap.size w w4 := (by first | exact Q3.out.trans (hb4.mono (Nat.le_of_lt hz3)) | exact H01.out.drew.trans (hb4.mono (Nat.le_of_lt hz1))); have hz4 : w.heap.size < w4.heap.size := (by have h9 := hb4.size; first | omega | (simp at h9; omega)); have hk4 := (hb4.block w.heap.size (by first | exact hz3 | exact hz1)).trans (by first | exact HB3.out | exact HB.out); obtain ⟨_, _, _, _, _, _⟩ := cells3f hk4; have HB4 := Lib.hid hk4; have HR9 := Lib.hid hr9; have Q4 := Lib.hid q4; clear hb4 q4 hk4 hr9)
               | (go_at_call 16; refine (HRK.out _ w _ _ (by first | exact Q4.out | exact Q3.out) (by first | exact HR9.out)).mono ?_; rintro e w5 ⟨rfl, hb5⟩; have q5 : Below w.heap.size w w5 := (by first | exact Q4.out.trans (hb5.mono (Nat.le_of_lt hz4)) | exact Q3.out.trans (hb5.mono (Nat.le_of_lt hz3))); have hk5 := (hb5.block w.heap.size (by first | exact hz4 | exact hz3)).trans (by first | exact HB4.out | exact HB3.out); obtain ⟨_, _, _, _, _, _⟩ := cells3f hk5; have hz5 : w.heap.size < w5.heap.size := (by have h9 := hb5.size; first | omega | (simp at h9; omega)); have HB5 := Lib.hid hk5; have Q5 := Lib.hid q5; clear hb5 q5 hk5)
               | (go_at_call 14; refine (works_any _).mono ?_; rintro e w6 ⟨rfl, hb6⟩; have q6 : Below w.heap.size w w6 := Q5.out.trans (hb6.mono (Nat.le_of_lt hz5)); obtain ⟨_, _, _, _, _, _⟩ := cells3f ((hb6.block w.heap.size hz5).trans HB5.out); have Q6 := Lib.hid q6; clear hb6 q6))
    go_wp2
    go_ret
    exact ⟨rfl, Q6.out⟩

set_option maxRecDepth 100000 in
theorem lifted (os : Os) (started : os.Started) (H : Type) (enc : TypeId × Value → H) :
    ReturnsInHanded {} Try.checked os 3 .any (Rows.learnChecksSpec.pre6 enc Try.prog Try.f3 Rows.learnChecksRow.domain false) (Rows.learnChecksSpec.post enc Try.prog Try.f3 false true false false) := by
  refine returnsInHanded_of_change (C := Try.checked) own started (by kernel_rfl) Try.func3
    (ChangeSpec.witness6 (enc := enc) (C := Try.checked) false ⟨#[], #[.agg #[.slice none 0 0, .int .i64 0, .slice none 0 0], .slice none 0 0, .slice none 0 0], []⟩ 8 (by kernel_rfl) (by kernel_rfl) (by kernel_rfl) (by kernel_rfl)) ?_
  intro W base args ds gs before hval0 hW hcnd hsz
  have hval : ∀ (j : Nat) t v, Try.f3.params[j]? = some t → args[j]? = some v → Value.okWide Try.prog W .any base t v := hval0
  have hW' := hW
  obtain ⟨p, q, hA0, hV, rfl, hfz, hnd⟩ := hW
  have hA : DataW.TrodAll enc Try.prog W 0 (fun _ => true) true Try.f3.params.toList args.toList ds p := hA0
  rw [Try.params3] at hA hval
  have hAll := hA
  obtain ⟨v0, vs0, d0, ds0, p0, q0, hargs, rfl, rfl, h0, r0⟩ := trodAll_cons hA
  obtain ⟨v1, vs1, d1, ds1, p1, q1, rfl, rfl, rfl, h1, r1⟩ := trodAll_cons r0
  obtain ⟨v2, vs2, d2, ds2, p2, q2, rfl, rfl, rfl, h2, r2⟩ := trodAll_cons r1
  obtain ⟨rfl, rfl, rfl⟩ := trodAll_nil r2
  obtain rfl : args = #[v0, v1, v2] := by cases args; simp_all
  obtain ⟨rfl, rfl⟩ := trodVars_none hV
  obtain ⟨n0, ⟨a1, c1, a2, c2, rfl, hp, hs⟩, _, _⟩ := open_net (hval 0 25 v0 rfl rfl) h0
  obtain ⟨rs, ar, cr, rfl, hr, hw, _⟩ := open_rules (hval 1 26 v1 rfl rfl) h1
  obtain ⟨pl, ap, cp, rfl, hi, _⟩ := open_is (hval 2 27 v2 rfl rfl) h2
  clear hA0 hval0
  refine (walk n0 rs pl a1 a2 ar ap c1 c2 cr cp hw W hp hs hr hi).mono fun e W' ⟨he, bel⟩ => ?_
  subst he
  have hback := Lf.trodAll_below bel [25, 26, 27] (by intro t ht; simp at ht; rcases ht with rfl | rfl | rfl <;> exact ⟨by kernel_rfl, of_decide_eq_true (by kernel_rfl)⟩) hAll
  exact ⟨_, rfl, _, _, _, [], _, [], hW', trodAll_mk1 (shut_bool Try.underlying4 _), hback, rfl, bel.frame _, fun h => by cases h⟩

theorem over : Rows.learnChecksRow.holds Try.pinned (OpenSpec.ofChange Rows.learnChecksSpec) :=
  OpenClaim.holds_of_wide 3 Try.f3 rfl rfl rfl rfl rfl rfl rfl ⟨rfl, rfl, rfl, rfl, rfl⟩ rfl rfl rfl rfl rfl (by kernel_rfl) Try.func3 (by kernel_rfl)
    (of_decide_eq_true (by kernel_rfl)) (by unfold Func.isWrapper; first | (rw [if_pos (by decide +kernel)]; kernel_rfl) | (rw [if_neg (by decide +kernel)]; exact ⟨rfl, rfl⟩))
    (fun os started H enc _ => lifted os started H enc)

theorem proved : Rows.LearnChecksSaid := over

end Go.Proofs.Ytipodippfddlpaa.learnChecks
