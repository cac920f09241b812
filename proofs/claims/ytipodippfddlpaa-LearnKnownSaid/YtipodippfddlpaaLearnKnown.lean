/- The law LearnKnown returns true: the chapter's examples, carried out: its great calls each by itself, from the memory that they name alone. No condition. -/
import Derived.Test.YtipodippfddlpaaLf
namespace Go.Proofs.Ytipodippfddlpaa.learnKnown
open Go.ChangeShapes Go.WideShapes Go.ChangeAt Go.RowKit Go.Proofs.Ytipodippfddlpaa.Lf
set_option linter.unusedVariables false

noncomputable def ent0 : Ev.Ent :=
  ⟨39, [.agg #[.slice (some ⟨67, 0, some 0⟩) 2 2, .int .i64 (2), .slice (some ⟨68, 0, some 0⟩) 3 3], .agg #[.int .i64 (2), .int .i64 (16), .int .i64 (8), .int .i64 (4), .int .i64 (64), .int .i64 (128), .int .i64 (128), .int .i64 (0), .int .i64 (9), .bool false], .slice (some ⟨792, 0, some 0⟩) 1 1, .slice none 0 0, .slice (some ⟨793, 0, some 0⟩) 1 1], [⟨67, [.int .i64 (0), .int .i64 (0), .int .i64 (0), .int .i64 (5), .int .i64 (0), .int .i64 (0), .int .i64 (0), .int .i64 (0), .int .i64 (0), .int .i64 (0), .int .i64 (0), .int .i64 (5), .int .i64 (0), .int .i64 (0), .int .i64 (0), .int .i64 (0)], 88, 0⟩, ⟨68, [.int .i64 (-1), .int .i64 (0), .int .i64 (5), .int .i64 (1), .int .i64 (-2), .int .i64 (1), .int .i64 (5), .int .i64 (1), .int .i64 (0), .int .i64 (1), .int .i64 (2), .int .i64 (1)], 76, 0⟩, ⟨792, [.int .i64 (3), .int .i64 (0), .int .i64 (16)], 70, 0⟩, ⟨793, [.int .i64 (4)], 3, 0⟩], 794, .bool true, 78140794135310792274373263172514739810290136589639548754643646231609811380675375838141783603963526844643709889766795786475259394384211309535508078738251914602677627884929858106989198663029070602292558782842421116972938896286035049785065472⟩
set_option maxRecDepth 100000 in
theorem ent0_ok : Ev.entOk Try.prog 100000 ent0 = true := by kernel_rfl
noncomputable def ent1 : Ev.Ent :=
  ⟨39, [.agg #[.slice (some ⟨67, 0, some 0⟩) 2 2, .int .i64 (2), .slice (some ⟨68, 0, some 0⟩) 3 3], .agg #[.int .i64 (2), .int .i64 (16), .int .i64 (8), .int .i64 (4), .int .i64 (64), .int .i64 (128), .int .i64 (128), .int .i64 (0), .int .i64 (9), .bool false], .slice (some ⟨794, 0, some 0⟩) 1 1, .slice none 0 0, .slice (some ⟨795, 0, some 0⟩) 1 1], [⟨67, [.int .i64 (0), .int .i64 (0), .int .i64 (0), .int .i64 (5), .int .i64 (0), .int .i64 (0), .int .i64 (0), .int .i64 (0), .int .i64 (0), .int .i64 (0), .int .i64 (0), .int .i64 (5), .int .i64 (0), .int .i64 (0), .int .i64 (0), .int .i64 (0)], 88, 0⟩, ⟨68, [.int .i64 (-1), .int .i64 (0), .int .i64 (5), .int .i64 (1), .int .i64 (-2), .int .i64 (1), .int .i64 (5), .int .i64 (1), .int .i64 (0), .int .i64 (1), .int .i64 (2), .int .i64 (1)], 76, 0⟩, ⟨794, [.int .i64 (4), .int .i64 (0), .int .i64 (16)], 70, 0⟩, ⟨795, [.int .i64 (3)], 3, 0⟩], 796, .bool true, 312563176541243169097493052690058959241160546358558195018574584926439245522701503352567134415854107378574839559067183145901037577536845238142032314953007658410710511539719432427956794652116282409170235131369684467891754256978566892052545536⟩
set_option maxRecDepth 100000 in
theorem ent1_ok : Ev.entOk Try.prog 100000 ent1 = true := by kernel_rfl
noncomputable def ent2 : Ev.Ent :=
  ⟨39, [.agg #[.slice (some ⟨67, 0, some 0⟩) 2 2, .int .i64 (2), .slice (some ⟨68, 0, some 0⟩) 3 3], .agg #[.int .i64 (2), .int .i64 (16), .int .i64 (8), .int .i64 (4), .int .i64 (64), .int .i64 (128), .int .i64 (128), .int .i64 (0), .int .i64 (9), .bool false], .slice (some ⟨796, 0, some 0⟩) 1 1, .slice none 0 0, .slice (some ⟨797, 0, some 0⟩) 1 1], [⟨67, [.int .i64 (0), .int .i64 (0), .int .i64 (0), .int .i64 (5), .int .i64 (0), .int .i64 (0), .int .i64 (0), .int .i64 (0), .int .i64 (0), .int .i64 (0), .int .i64 (0), .int .i64 (5), .int .i64 (0), .int .i64 (0), .int .i64 (0), .int .i64 (0)], 88, 0⟩, ⟨68, [.int .i64 (-1), .int .i64 (0), .int .i64 (5), .int .i64 (1), .int .i64 (-2), .int .i64 (1), .int .i64 (5), .int .i64 (1), .int .i64 (0), .int .i64 (1), .int .i64 (2), .int .i64 (1)], 76, 0⟩, ⟨796, [.int .i64 (4), .int .i64 (0), .int .i64 (-16)], 70, 0⟩, ⟨797, [.int .i64 (1)], 3, 0⟩], 798, .bool true, 1250252706164972676389972210760235836964642185434232780074298339705756982090806013410268537663416429514299358236268732583604150310147380952568129259812030633642842046158877729711827178608465129636680940525478737871567015699748694261122465792⟩
set_option maxRecDepth 100000 in
theorem ent2_ok : Ev.entOk Try.prog 100000 ent2 = true := by kernel_rfl
noncomputable def ent3 : Ev.Ent :=
  ⟨39, [.agg #[.slice (some ⟨67, 0, some 0⟩) 2 2, .int .i64 (2), .slice (some ⟨68, 0, some 0⟩) 3 3], .agg #[.int .i64 (2), .int .i64 (16), .int .i64 (8), .int .i64 (4), .int .i64 (64), .int .i64 (128), .int .i64 (128), .int .i64 (0), .int .i64 (9), .bool false], .slice none 0 0, .slice none 0 0, .slice (some ⟨798, 0, some 0⟩) 1 1], [⟨67, [.int .i64 (0), .int .i64 (0), .int .i64 (0), .int .i64 (5), .int .i64 (0), .int .i64 (0), .int .i64 (0), .int .i64 (0), .int .i64 (0), .int .i64 (0), .int .i64 (0), .int .i64 (5), .int .i64 (0), .int .i64 (0), .int .i64 (0), .int .i64 (0)], 88, 0⟩, ⟨68, [.int .i64 (-1), .int .i64 (0), .int .i64 (5), .int .i64 (1), .int .i64 (-2), .int .i64 (1), .int .i64 (5), .int .i64 (1), .int .i64 (0), .int .i64 (1), .int .i64 (2), .int .i64 (1)], 76, 0⟩, ⟨798, [.int .i64 (2)], 3, 0⟩], 799, .bool true, 1667003608219963568519962947680314449286189580578977040099064452941009309454408017880358050217888572685732477648358310111472200413529841270090839013082707511523789394878503639615769571477953506182241254033971650495422687452090973091820208128⟩
set_option maxRecDepth 100000 in
theorem ent3_ok : Ev.entOk Try.prog 100000 ent3 = true := by kernel_rfl
noncomputable def ent4 : Ev.Ent :=
  ⟨39, [.agg #[.slice (some ⟨67, 0, some 0⟩) 2 2, .int .i64 (2), .slice (some ⟨804, 0, some 4⟩) 4 4], .agg #[.int .i64 (1), .int .i64 (16), .int .i64 (8), .int .i64 (8), .int .i64 (64), .int .i64 (128), .int .i64 (0), .int .i64 (0), .int .i64 (9), .bool true], .slice none 0 0, .slice (some ⟨805, 0, some 0⟩) 1 1, .slice (some ⟨806, 0, some 0⟩) 2 2], [⟨67, [.int .i64 (0), .int .i64 (0), .int .i64 (0), .int .i64 (5), .int .i64 (0), .int .i64 (0), .int .i64 (0), .int .i64 (0), .int .i64 (0), .int .i64 (0), .int .i64 (0), .int .i64 (5), .int .i64 (0), .int .i64 (0), .int .i64 (0), .int .i64 (0)], 88, 0⟩, ⟨804, [.int .i64 (-1), .int .i64 (0), .int .i64 (5), .int .i64 (1), .int .i64 (-2), .int .i64 (1), .int .i64 (5), .int .i64 (1), .int .i64 (0), .int .i64 (1), .int .i64 (2), .int .i64 (1), .int .i64 (-1), .int .i64 (1), .int .i64 (3), .int .i64 (16)], 76, 4⟩, ⟨805, [.int .i64 (0)], 3, 0⟩, ⟨806, [.int .i64 (3), .int .i64 (2)], 3, 0⟩], 807, .bool true, 746817616482543678696943400560780873280212932099381713964380874917572170635574792010400406497614080563208149986464522929939545785261368889000695877861052965162657648905569630547864768022123170769644081807219299421949363780344937617200030679040⟩
set_option maxRecDepth 100000 in
theorem ent4_ok : Ev.entOk Try.prog 100000 ent4 = true := by kernel_rfl
noncomputable def ent5 : Ev.Ent :=
  ⟨14, [], [], 899, .bool true, 0⟩
set_option maxRecDepth 100000 in
theorem ent5_ok : Ev.entOk Try.prog 100000 ent5 = true := by kernel_rfl
noncomputable def ents : List Ev.Ent := [ent0, ent1, ent2, ent3, ent4, ent5]
theorem ents_ok : ∀ e ∈ ents, Ev.entOk Try.prog 100000 e = true := by
  intro e he
  simp only [ents, List.mem_cons, List.not_mem_nil, or_false] at he
  rcases he with rfl | rfl | rfl | rfl | rfl | rfl
  · exact ent0_ok
  · exact ent1_ok
  · exact ent2_ok
  · exact ent3_ok
  · exact ent4_ok
  · exact ent5_ok
set_option maxRecDepth 100000 in
theorem ran : Ev.runO Try.prog (Ev.orcOf ents) 100000 12 .leaf = some (.bool true) := by kernel_rfl
theorem walk (w : World) : Calls Try.prog 12 #[] w fun e w' => e = .returned (.bool true) ∧ Below w.heap.size w w' := Ev.runO_calls (k := 1) (Ev.orc_ok mixed ents_ok) mixed rfl ran w (Ev.GlobIn.none w)

set_option maxRecDepth 100000 in
theorem lifted (os : Os) (started : os.Started) (H : Type) (enc : TypeId × Value → H) :
    ReturnsInHanded {} Try.checked os 12 .any (Rows.learnKnownSpec.pre6 enc Try.prog Try.f12 Rows.learnKnownRow.domain false) (Rows.learnKnownSpec.post enc Try.prog Try.f12 false true false false) := by
  refine returnsInHanded_of_change (C := Try.checked) own started (by kernel_rfl) Try.func12
    (ChangeSpec.witness6 (enc := enc) (C := Try.checked) false ⟨#[], #[], []⟩ 8 (by kernel_rfl) (by kernel_rfl) (by kernel_rfl) (by kernel_rfl)) ?_
  intro W base args ds gs before hval0 hW hcnd hsz
  have hval : ∀ (j : Nat) t v, Try.f12.params[j]? = some t → args[j]? = some v → Value.okWide Try.prog W .any base t v := hval0
  have hW' := hW
  obtain ⟨p, q, hA0, hV, rfl, hfz, hnd⟩ := hW
  have hA : DataW.TrodAll enc Try.prog W 0 (fun _ => true) true Try.f12.params.toList args.toList ds p := hA0
  rw [Try.params12] at hA hval
  have hAll := hA
  obtain ⟨hargs, rfl, rfl⟩ := trodAll_nil hA
  obtain rfl : args = #[] := by cases args; simp_all
  obtain ⟨rfl, rfl⟩ := trodVars_none hV
  clear hA0 hval0
  refine (walk  W ).mono fun e W' ⟨he, bel⟩ => ?_
  subst he
  have hback := trodAll_below bel [] (by intro t ht; simp at ht) hAll
  exact ⟨_, rfl, _, _, _, [], _, [], hW', trodAll_mk1 (shut_bool Try.underlying4 _), hback, rfl, bel.frame _, fun h => by cases h⟩

theorem over : Rows.learnKnownRow.holds Try.pinned (OpenSpec.ofChange Rows.learnKnownSpec) :=
  OpenClaim.holds_of_wide 12 Try.f12 rfl rfl rfl rfl rfl rfl rfl ⟨rfl, rfl, rfl, rfl, rfl⟩ rfl rfl rfl rfl rfl (by kernel_rfl) Try.func12 (by kernel_rfl)
    (of_decide_eq_true (by kernel_rfl)) (by unfold Func.isWrapper; first | (rw [if_pos (by decide +kernel)]; kernel_rfl) | (rw [if_neg (by decide +kernel)]; exact ⟨rfl, rfl⟩))
    (fun os started H enc _ => lifted os started H enc)

theorem proved : Rows.LearnKnownSaid := over

end Go.Proofs.Ytipodippfddlpaa.learnKnown
