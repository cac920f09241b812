/- For every network, claim and spikes the law VerifyClaims returns true: Check and Holds return what the specification's do. No condition. (mk_claims.py wrote this.) -/
import Derived.Test.YtnbndciididpoaaGreatVw
import Derived.Test.YtnbndciididpoaaGreatVx
namespace Go.Proofs.YtnbndciididpoaaGreat.verifyClaims
open Go.ChangeShapes Go.WideShapes Go.ChangeAt Go.RowKit Go.Proofs.YtnbndciididpoaaGreat.Lf
set_option linter.unusedVariables false

set_option maxRecDepth 100000 in
theorem lifted (os : Os) (started : os.Started) (H : Type) (enc : TypeId × Value → H) :
    ReturnsInHanded {} Tryz.checked os 5 .any (Rows.verifyClaimsSpec.pre6 enc Tryz.prog Tryz.f5 Rows.verifyClaimsRow.domain false) (Rows.verifyClaimsSpec.post enc Tryz.prog Tryz.f5 false true false false) := by
  refine returnsInHanded_of_change (C := Tryz.checked) own started (by kernel_rfl) Tryz.func5
    (ChangeSpec.witness6 (enc := enc) (C := Tryz.checked) false ⟨#[], #[.agg #[.slice none 0 0, .int .i64 0, .slice none 0 0], .agg #[.int .i64 0, .slice none 0 0, .int .i64 0, .int .i64 0, .int .i64 0, .int .i64 0], .slice none 0 0], []⟩ 8 (by kernel_rfl) (by kernel_rfl) (by kernel_rfl) (by kernel_rfl)) ?_
  intro W base args ds gs before hval0 hW hcnd hsz
  have hval : ∀ (j : Nat) t v, Tryz.f5.params[j]? = some t → args[j]? = some v → Value.okWide Tryz.prog W .any base t v := hval0
  have hW' := hW
  obtain ⟨p, q, hA0, hV, rfl, hfz, hnd⟩ := hW
  have hA : DataW.TrodAll enc Tryz.prog W 0 (fun _ => true) true Tryz.f5.params.toList args.toList ds p := hA0
  rw [Tryz.params5] at hA hval
  have hAll := hA
  obtain ⟨v0, vs0, d0, ds0, p0, q0, hargs, rfl, rfl, h0, r0⟩ := trodAll_cons hA
  obtain ⟨v1, vs1, d1, ds1, p1, q1, rfl, rfl, rfl, h1, r1⟩ := trodAll_cons r0
  obtain ⟨v2, vs2, d2, ds2, p2, q2, rfl, rfl, rfl, h2, r2⟩ := trodAll_cons r1
  obtain ⟨rfl, rfl, rfl⟩ := trodAll_nil r2
  obtain rfl : args = #[v0, v1, v2] := by cases args; simp_all
  obtain ⟨rfl, rfl⟩ := trodVars_none hV
  obtain ⟨n0, ⟨a1, c1, a2, c2, rfl, hp, hs⟩, _, _⟩ := open_net (hval 0 25 v0 rfl rfl) h0
  obtain ⟨c0, na, nc, rfl, hK, hcap, hkw, _⟩ := open_clm (hval 1 50 v1 rfl rfl) h1
  obtain ⟨l0, sa, sc, rfl, hS0, _, hv⟩ := open_Evxs (hval 2 27 v2 rfl rfl) h2
  clear hA0 hval0
  refine (walk n0 c0 l0 a1 a2 na sa c1 c2 nc sc hkw hcap (fun x hx => (hv x hx).2) W hp hs hK hS0).mono fun e W' ⟨he, bel⟩ => ?_
  subst he
  have hback := trodAll_below bel [25, 50, 27] (by intro t ht; simp at ht; rcases ht with rfl | rfl | rfl <;> exact ⟨by kernel_rfl, of_decide_eq_true (by kernel_rfl)⟩) hAll
  exact ⟨_, rfl, _, _, _, [], _, [], hW', trodAll_mk1 (shut_bool Tryz.underlying4 _), hback, rfl, bel.frame _, fun h => by cases h⟩

set_option maxHeartbeats 40000000 in
/-- What the row says of the program: each fact apart, or the kernel's memory runs over. -/
theorem closed : joinedFacts Tryz.pinned.checked.prog 5 Tryz.f5 Rows.verifyClaimsSpec Rows.verifyClaimsRow = true := by
  unfold joinedFacts
  simp only [Bool.and_eq_true]
  repeat' apply And.intro
  all_goals as_aux_lemma => kernel_rfl

theorem over : Rows.verifyClaimsRow.holds Tryz.pinned (OpenSpec.ofChange Rows.verifyClaimsSpec) :=
  OpenClaim.holds_of_wide 5 Tryz.f5 rfl rfl rfl rfl rfl rfl rfl ⟨rfl, rfl, rfl, rfl, rfl⟩ rfl rfl rfl rfl rfl (by kernel_rfl) Tryz.func5 closed
    (of_decide_eq_true (by kernel_rfl)) (by unfold Func.isWrapper; first | (rw [if_pos (by decide +kernel)]; kernel_rfl) | (rw [if_neg (by decide +kernel)]; exact ⟨rfl, rfl⟩))
    (fun os started H enc _ => lifted os started H enc)

theorem proved : Rows.VerifyClaimsSaid := over

end Go.Proofs.YtnbndciididpoaaGreat.verifyClaims
