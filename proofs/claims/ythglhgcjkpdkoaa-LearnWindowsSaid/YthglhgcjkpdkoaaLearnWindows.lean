/- For every rule and gap the law LearnWindows returns true: Window returns what the specification's does, and the examples hold. No condition. -/
import Derived.Test.YthglhgcjkpdkoaaLj
import Derived.Test.YthglhgcjkpdkoaaWk
namespace Go.Proofs.Ythglhgcjkpdkoaa.learnWindows
open Go.ChangeShapes Go.WideShapes Go.ChangeAt Go.RowKit Go.Proofs.Ythglhgcjkpdkoaa.Lf
set_option linter.unusedVariables false

section
variable {H : Type} {enc : TypeId × Value → H} {w : World} {base : Nat} {spare : Nat → Bool} {held : Bool}
set_option maxRecDepth 100000 in
/-- A rule by value. -/
theorem open_rul {rr : Reach} {b0 : Nat} {v : Value} {d : DataW H} {p : List MemPlace} (hv : Value.okWide Try.prog w rr b0 36 v) (h : DataW.Trod enc Try.prog w base spare held 36 v d p) :
    ∃ r : Rul, v = .agg #[.int .i64 r.kd, .int .i64 r.up, .int .i64 r.dn, .int .i64 r.sh, .int .i64 r.ga, .int .i64 r.ke, .int .i64 r.fa, .int .i64 r.lo, .int .i64 r.hi, .bool r.sm] ∧ (Lit.int .i64 r.kd).wf = true := by
  obtain ⟨cs, rfl, hsz⟩ := okWide_struct Try.underlying36 hv
  have hc : Try.prog.cellsOf 36 = 10 := by kernel_rfl
  have h3 : Try.prog.cellsOf 3 = 1 := by kernel_rfl
  have h4 : Try.prog.cellsOf 4 = 1 := by kernel_rfl
  rw [hc] at hsz
  obtain ⟨cl⟩ := cs
  match cl, hsz with
  | [v0, v1, v2, v3, v4, v5, v6, v7, v8, v9], _ =>
    obtain ⟨fuel, hfu⟩ := h
    obtain ⟨xs, g, _, _, hcl, hxl, hg⟩ := DataW.trod_struct Try.underlying36 hfu
    have hxl' : xs.length = 10 := hxl
    match xs, hxl' with
    | [x0, x1, x2, x3, x4, x5, x6, x7, x8, x9], _ =>
      have g0 := hg 0 _ rfl
      have g1 := hg 1 _ rfl
      have g2 := hg 2 _ rfl
      have g3 := hg 3 _ rfl
      have g4 := hg 4 _ rfl
      have g5 := hg 5 _ rfl
      have g6 := hg 6 _ rfl
      have g7 := hg 7 _ rfl
      have g8 := hg 8 _ rfl
      have g9 := hg 9 _ rfl
      simp [Value.cells, h3, h4] at g0 g1 g2 g3 g4 g5 g6 g7 g8 g9
      obtain ⟨z0, e0, _, k0⟩ := DataW.trod_int Try.underlying3 g0
      obtain ⟨z1, e1, _, _⟩ := DataW.trod_int Try.underlying3 g1
      obtain ⟨z2, e2, _, _⟩ := DataW.trod_int Try.underlying3 g2
      obtain ⟨z3, e3, _, _⟩ := DataW.trod_int Try.underlying3 g3
      obtain ⟨z4, e4, _, _⟩ := DataW.trod_int Try.underlying3 g4
      obtain ⟨z5, e5, _, _⟩ := DataW.trod_int Try.underlying3 g5
      obtain ⟨z6, e6, _, _⟩ := DataW.trod_int Try.underlying3 g6
      obtain ⟨z7, e7, _, _⟩ := DataW.trod_int Try.underlying3 g7
      obtain ⟨z8, e8, _, _⟩ := DataW.trod_int Try.underlying3 g8
      obtain ⟨b9, e9, _⟩ := DataW.trod_bool Try.underlying4 g9
      simp at e0 e1 e2 e3 e4 e5 e6 e7 e8 e9
      subst e0 e1 e2 e3 e4 e5 e6 e7 e8 e9
      exact ⟨⟨z0, z1, z2, z3, z4, z5, z6, z7, z8, b9⟩, rfl, k0⟩
end

set_option maxRecDepth 100000 in
set_option maxHeartbeats 1000000 in
theorem walk (r : Rul) (gap : Int) (hw : (Lit.int .i64 r.kd).wf = true) (w : World) :
    Calls Try.prog 4 #[.agg #[.int .i64 r.kd, .int .i64 r.up, .int .i64 r.dn, .int .i64 r.sh, .int .i64 r.ga, .int .i64 r.ke, .int .i64 r.fa, .int .i64 r.lo, .int .i64 r.hi, .bool r.sm], .int .i64 gap] w fun e w' => e = .returned (.bool true) ∧ Below w.heap.size w w' := by
  go_enter Try.func4, Try.ntmps4
  go_wp2_with (first | (go_at_call 18; refine (window_any r gap hw _).mono ?_; rintro e w1 ⟨rfl, hb1⟩; have hz1 : w.heap.size < w1.heap.size := (by have := hb1.size; simp at this; omega); have hbx : RuleBox w1 w.heap.size r := (hb1.block _ (by simp)).trans (alloc_new_at _ _ _ rfl); have h01 : Below w.heap.size w w1 := ((Below.refl _ _).alloc (Nat.le_refl _) _).trans (hb1.mono (by simp)); obtain ⟨_, _, _, _, _, _, _, _, _, _⟩ := cells10 hbx; clear hb1) | (go_at_call 19; refine (rwindow_any r gap _).mono ?_; rintro e w2 ⟨rfl, hb2⟩) | (go_at_call 14; refine (works_any _).mono ?_; rintro e w3 ⟨rfl, hb3⟩))
  go_ret
  exact ⟨rfl, (h01.trans (hb2.mono (Nat.le_of_lt hz1))).trans (hb3.mono (Nat.le_trans (Nat.le_of_lt hz1) hb2.size))⟩
set_option maxRecDepth 100000 in
theorem lifted (os : Os) (started : os.Started) (H : Type) (enc : TypeId × Value → H) :
    ReturnsInHanded {} Try.checked os 4 .any (Rows.learnWindowsSpec.pre6 enc Try.prog Try.f4 Rows.learnWindowsRow.domain false) (Rows.learnWindowsSpec.post enc Try.prog Try.f4 false true false false) := by
  refine returnsInHanded_of_change (C := Try.checked) own started (by kernel_rfl) Try.func4
    (ChangeSpec.witness6 (enc := enc) (C := Try.checked) false ⟨#[], #[.agg #[.int .i64 0, .int .i64 0, .int .i64 0, .int .i64 0, .int .i64 0, .int .i64 0, .int .i64 0, .int .i64 0, .int .i64 0, .bool false], .int .i64 0], []⟩ 8 (by kernel_rfl) (by kernel_rfl) (by kernel_rfl) (by kernel_rfl)) ?_
  intro W base args ds gs before hval0 hW hcnd hsz
  have hval : ∀ (j : Nat) t v, Try.f4.params[j]? = some t → args[j]? = some v → Value.okWide Try.prog W .any base t v := hval0
  have hW' := hW
  obtain ⟨p, q, hA0, hV, rfl, hfz, hnd⟩ := hW
  have hA : DataW.TrodAll enc Try.prog W 0 (fun _ => true) true Try.f4.params.toList args.toList ds p := hA0
  rw [Try.params4] at hA hval
  have hAll := hA
  obtain ⟨v0, vs0, d0, ds0, p0, q0, hargs, rfl, rfl, h0, r0⟩ := trodAll_cons hA
  obtain ⟨v1, vs1, d1, ds1, p1, q1, rfl, rfl, rfl, h1, r1⟩ := trodAll_cons r0
  obtain ⟨rfl, rfl, rfl⟩ := trodAll_nil r1
  obtain rfl : args = #[v0, v1] := by cases args; simp_all
  obtain ⟨rfl, rfl⟩ := trodVars_none hV
  obtain ⟨x0, hx0, wk0⟩ := open_rul (hval 0 36 v0 rfl rfl) h0
  subst hx0
  obtain ⟨a1, rfl, rfl, rfl, w1⟩ := open_int Try.underlying3 (hval 1 3 v1 rfl rfl) h1
  clear hA0 hval0
  refine (walk x0 a1 wk0 W).mono fun e W' ⟨he, bel⟩ => ?_
  subst he
  have hback := trodAll_below bel [36, 3] (by intro t ht; simp at ht; rcases ht with rfl | rfl <;> exact ⟨by kernel_rfl, of_decide_eq_true (by kernel_rfl)⟩) hAll
  exact ⟨_, rfl, _, _, _, [], _, [], hW', trodAll_mk1 (shut_bool Try.underlying4 _), hback, rfl, bel.frame _, fun h => by cases h⟩

theorem over : Rows.learnWindowsRow.holds Try.pinned (OpenSpec.ofChange Rows.learnWindowsSpec) :=
  OpenClaim.holds_of_wide 4 Try.f4 rfl rfl rfl rfl rfl rfl rfl ⟨rfl, rfl, rfl, rfl, rfl⟩ rfl rfl rfl rfl rfl (by kernel_rfl) Try.func4 (by kernel_rfl)
    (of_decide_eq_true (by kernel_rfl)) (by unfold Func.isWrapper; first | (rw [if_pos (by decide +kernel)]; kernel_rfl) | (rw [if_neg (by decide +kernel)]; exact ⟨rfl, rfl⟩))
    (fun os started H enc _ => lifted os started H enc)

theorem proved : Rows.LearnWindowsSaid := over

end Go.Proofs.Ythglhgcjkpdkoaa.learnWindows
