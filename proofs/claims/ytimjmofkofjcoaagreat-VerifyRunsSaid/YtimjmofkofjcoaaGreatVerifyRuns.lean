/- For all events, jitters and losses the law VerifyRuns returns true: Runs returns what the specification's does. No condition. (mk_runs.py wrote this.) -/
import Derived.Test.YtimjmofkofjcoaaGreatVh
import Derived.Test.YtimjmofkofjcoaaGreatWk
namespace Go.Proofs.YtimjmofkofjcoaaGreat.verifyRuns
open Go.ChangeShapes Go.WideShapes Go.ChangeAt Go.RowKit Go.Proofs.YtimjmofkofjcoaaGreat.Lf
set_option linter.unusedVariables false

set_option maxRecDepth 100000 in
set_option maxHeartbeats 4000000 in
theorem walk (l : List Evx) (a : Option Addr) (cap : Nat) (j s : Int) (w : World) (hS : EvxsAt w (.slice a l.length cap) l) :
    Calls Tryz.prog 7 #[.slice a l.length cap, .int .i64 j, .int .i64 s] w fun e w' => e = .returned (.bool true) ∧ Below w.heap.size w w' := by
  by_cases h70 : 70 < l.length
  · obtain ⟨n, hn⟩ : ∃ n, n = l.length := ⟨_, rfl⟩
    rw [← hn] at h70 ⊢
    have g1 : ((70 : Int) < (n : Int)) = True := by simp only [eq_iff_iff, iff_true]; omega
    clear hS hn
    go_enter Tryz.func7, Tryz.ntmps7
    go_wp2_with (go_at_call 17; refine (works_any _).mono ?_; rintro e w9 ⟨rfl, hb9⟩)
    go_ret
    exact ⟨rfl, hb9⟩
  · have hl : l.length ≤ 70 := by omega
    have HV := Lib.hid (fun W (hb : Below w.heap.size w W) => vruns_any j s l hl a cap W (hS.below hb))
    have HR := Lib.hid (fun W (hb : Below w.heap.size w W) => rRuns_any j s l hl a cap W (hS.below hb))
    obtain ⟨n, hn⟩ : ∃ n, n = l.length := ⟨_, rfl⟩
    rw [← hn] at HV HR h70 ⊢
    have g1 : ((70 : Int) < (n : Int)) = False := by simp only [eq_iff_iff, iff_false]; omega
    clear hS hn hl
    go_enter Tryz.func7, Tryz.ntmps7
    go_wp2_with (fail)
    go_at_call 32
    refine (HV.out _ (Below.refl _ _)).mono ?_
    rintro e w1 ⟨rfl, hb1⟩
    have HB1 := Lib.hid hb1
    clear hb1
    obtain ⟨A, hA⟩ : ∃ A, A = (runsR l j s).1 := ⟨_, rfl⟩
    obtain ⟨B, hB⟩ : ∃ B, B = (runsR l j s).2 := ⟨_, rfl⟩
    have HA := Lib.hid hA
    have HBB := Lib.hid hB
    rw [← hA, ← hB]
    clear hA hB
    go_wp2_with (fail)
    go_at_call 33
    refine (HR.out _ HB1.out).mono ?_
    rintro e w2 ⟨rfl, hb2⟩
    have HB2 := Lib.hid (HB1.out.trans (hb2.mono HB1.out.size))
    clear hb2
    rw [← HA.out, ← HBB.out]
    go_wp2_with (go_at_call 17; refine (works_any _).mono ?_; rintro e w9 ⟨rfl, hb9⟩)
    go_ret
    exact ⟨rfl, HB2.out.trans (hb9.mono HB2.out.size)⟩

set_option maxRecDepth 100000 in
theorem lifted (os : Os) (started : os.Started) (H : Type) (enc : TypeId × Value → H) :
    ReturnsInHanded {} Tryz.checked os 7 .any (Rows.verifyRunsSpec.pre6 enc Tryz.prog Tryz.f7 Rows.verifyRunsRow.domain false) (Rows.verifyRunsSpec.post enc Tryz.prog Tryz.f7 false true false false) := by
  refine returnsInHanded_of_change (C := Tryz.checked) own started (by kernel_rfl) Tryz.func7
    (ChangeSpec.witness6 (enc := enc) (C := Tryz.checked) false ⟨#[], #[.slice none 0 0, .int .i64 0, .int .i64 0], []⟩ 8 (by kernel_rfl) (by kernel_rfl) (by kernel_rfl) (by kernel_rfl)) ?_
  intro W base args ds gs before hval0 hW hcnd hsz
  have hval : ∀ (j : Nat) t v, Tryz.f7.params[j]? = some t → args[j]? = some v → Value.okWide Tryz.prog W .any base t v := hval0
  have hW' := hW
  obtain ⟨p, q, hA0, hV, rfl, hfz, hnd⟩ := hW
  have hA : DataW.TrodAll enc Tryz.prog W 0 (fun _ => true) true Tryz.f7.params.toList args.toList ds p := hA0
  rw [Tryz.params7] at hA hval
  have hAll := hA
  obtain ⟨v0, vs0, d0, ds0, p0, q0, hargs, rfl, rfl, h0, r0⟩ := trodAll_cons hA
  obtain ⟨v1, vs1, d1, ds1, p1, q1, rfl, rfl, rfl, h1, r1⟩ := trodAll_cons r0
  obtain ⟨v2, vs2, d2, ds2, p2, q2, rfl, rfl, rfl, h2, r2⟩ := trodAll_cons r1
  obtain ⟨rfl, rfl, rfl⟩ := trodAll_nil r2
  obtain rfl : args = #[v0, v1, v2] := by cases args; simp_all
  obtain ⟨rfl, rfl⟩ := trodVars_none hV
  obtain ⟨l0, a0, c0, rfl, hS0, _, _⟩ := open_Evxs (hval 0 27 v0 rfl rfl) h0
  obtain ⟨a1, rfl, rfl, rfl, w1⟩ := open_int Tryz.underlying3 (hval 1 3 v1 rfl rfl) h1
  obtain ⟨a2, rfl, rfl, rfl, w2⟩ := open_int Tryz.underlying3 (hval 2 3 v2 rfl rfl) h2
  clear hA0 hval0
  refine (walk l0 a0 c0 a1 a2 W hS0).mono fun e W' ⟨he, bel⟩ => ?_
  subst he
  have hback := trodAll_below bel [27, 3, 3] (by intro t ht; simp at ht; rcases ht with rfl | rfl | rfl <;> exact ⟨by kernel_rfl, of_decide_eq_true (by kernel_rfl)⟩) hAll
  exact ⟨_, rfl, _, _, _, [], _, [], hW', trodAll_mk1 (shut_bool Tryz.underlying4 _), hback, rfl, bel.frame _, fun h => by cases h⟩

theorem over : Rows.verifyRunsRow.holds Tryz.pinned (OpenSpec.ofChange Rows.verifyRunsSpec) :=
  OpenClaim.holds_of_wide 7 Tryz.f7 rfl rfl rfl rfl rfl rfl rfl ⟨rfl, rfl, rfl, rfl, rfl⟩ rfl rfl rfl rfl rfl (by kernel_rfl) Tryz.func7 (by kernel_rfl)
    (of_decide_eq_true (by kernel_rfl)) (by unfold Func.isWrapper; first | (rw [if_pos (by decide +kernel)]; kernel_rfl) | (rw [if_neg (by decide +kernel)]; exact ⟨rfl, rfl⟩))
    (fun os started H enc _ => lifted os started H enc)

theorem proved : Rows.VerifyRunsSaid := over

end Go.Proofs.YtimjmofkofjcoaaGreat.verifyRuns
