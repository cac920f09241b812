/- For every mesh and list of at most 80 ticks (and every longer list) the law MeshBarriers returns true: Barrier returns what the specification's does, and the examples hold. The condition: the package-level tables hold what their initialisers lay (the card ties it to the program's text). -/
import Derived.Test.YtlkcpnhepadenaaDoorBh
import Derived.Test.YtlkcpnhepadenaaDoorCards
import Derived.Test.YtlkcpnhepadenaaDoorTie
import Derived.SevenTiedAt
namespace Go.Proofs.YtlkcpnhepadenaaDoor.meshBarriers
set_option linter.unusedVariables false
open Go.ChangeShapes Go.WideShapes Go.ChangeAt Go.RowKit Go.Proofs.YtlkcpnhepadenaaDoor.Lf

set_option maxRecDepth 100000 in
set_option maxHeartbeats 1000000 in
theorem walk_few (A H R : Int) (a : Option Addr) (cap : Nat) (zs : List Int) (hl : zs.length ≤ 80) (w : World) (hg : Ev.GlobIn tables w) (hI : IntsAt w (.slice a zs.length cap) zs) :
    Calls Tryd.prog 7 #[.agg #[.int .i64 A, .int .i64 H, .int .i64 R], .slice a zs.length cap] w fun e w' => e = .returned (.bool true) ∧ Below w.heap.size w w' := by
  obtain ⟨n, hn⟩ : ∃ n, n = zs.length := ⟨_, rfl⟩
  rw [← hn] at hl hI ⊢
  obtain ⟨L, er, hL, h1, h2⟩ := barriers_any A H R a n cap zs hn hl w hI
  have H1 := Lib.hid h1
  have H2 := Lib.hid h2
  have HL := Lib.hid hL
  have HG := Lib.hid hg
  have herr : (er == er) = true := by simp
  clear h1 h2 hL hg hI hn
  go_enter Tryd.func7, Tryd.ntmps7
  go_wp2_with (first | (go_at_call 14; refine (spec_any A H R _).mono ?_; rintro e w1 ⟨rfl, hb1⟩; have hz1 : w.heap.size < w1.heap.size := (by have h9 := hb1.size; simp at h9; omega); have hx1 := (hb1.block w.heap.size (by simp)).trans (alloc_new_at _ _ _ rfl); obtain ⟨_, _, _⟩ := cells3 hx1; have q1 : Below w.heap.size w w1 := (((Below.refl _ _).alloc (Nat.le_refl _) _).trans (hb1.mono (by simp))); have HX1 := Lib.hid hx1; have Q1 := Lib.hid q1; clear hb1 hx1 q1) | (go_at_call 39; refine (H1.out _ Q1.out).mono ?_; rintro e w2 ⟨a2, c2, rfl, hi2, hb2⟩; have hz2 : w1.heap.size ≤ w2.heap.size := hb2.size; obtain ⟨_, _, _⟩ := cells3 ((hb2.block w.heap.size hz1).trans HX1.out); have q2 : Below w.heap.size w w2 := Q1.out.trans (hb2.mono (Nat.le_of_lt hz1)); have HI2 := Lib.hid hi2; have Q2 := Lib.hid q2; clear hi2 hb2 q2) | (go_at_call 40; refine (H2.out _ Q2.out).mono ?_; rintro e w3 ⟨a3, c3, rfl, hi3, hb3⟩; have hz3 : w2.heap.size ≤ w3.heap.size := hb3.size; have q3 : Below w.heap.size w w3 := Q2.out.trans (hb3.mono (by omega)); have j3 := HI2.out.below hb3; have HI3 := Lib.hid hi3; have J3 := Lib.hid j3; have Q3 := Lib.hid q3; clear hi3 hb3 q3 j3) | (go_at_call 21; refine (numbers_same _ _ _ _ L (by have := HL.out; omega) _ J3.out HI3.out).mono ?_; rintro e w4 ⟨rfl, hb4⟩; have q4 : Below w.heap.size w w4 := Q3.out.trans (hb4.mono (by omega)); have Q4 := Lib.hid q4; clear hb4 q4) | (go_at_call 13; refine (works_any _ (HG.out.below Q4.out)).mono ?_; rintro e w5 ⟨rfl, hb5⟩; have q5 : Below w.heap.size w w5 := Q4.out.trans (hb5.mono Q4.out.size); have Q5 := Lib.hid q5; clear hb5 q5))
  go_ret
  exact ⟨rfl, Q5.out⟩

set_option maxRecDepth 100000 in
set_option maxHeartbeats 1000000 in
theorem walk_many (v : Value) (a : Option Addr) (n cap : Nat) (hl : 80 < n) (hm : n ≤ 9223372036854775807) (w : World) (hg : Ev.GlobIn tables w) :
    Calls Tryd.prog 7 #[v, .slice a n cap] w fun e w' => e = .returned (.bool true) ∧ Below w.heap.size w w' := by
  have g1 : ((80 : Int) < (n : Int)) = True := by simp; omega
  have HG := Lib.hid hg
  have b1 : Below w.heap.size w (w.alloc (.cells v.cells 23)) := (Below.refl _ _).alloc (Nat.le_refl _) _
  have B1 := Lib.hid b1
  clear hg b1
  go_enter Tryd.func7, Tryd.ntmps7
  go_wp2_with (go_at_call 13; refine (works_any _ (HG.out.below B1.out)).mono ?_; rintro e w5 ⟨rfl, hb5⟩)
  go_ret
  exact ⟨rfl, B1.out.trans (hb5.mono B1.out.size)⟩

theorem walk (A H R : Int) (a : Option Addr) (cap : Nat) (zs : List Int) (hm : zs.length ≤ 9223372036854775807) (w : World) (hg : Ev.GlobIn tables w) (hI : IntsAt w (.slice a zs.length cap) zs) :
    Calls Tryd.prog 7 #[.agg #[.int .i64 A, .int .i64 H, .int .i64 R], .slice a zs.length cap] w fun e w' => e = .returned (.bool true) ∧ Below w.heap.size w w' := by
  by_cases hl : zs.length ≤ 80
  · exact walk_few A H R a cap zs hl w hg hI
  · exact walk_many _ a zs.length cap (by omega) hm w hg

set_option maxRecDepth 100000 in
theorem lifted (os : Os) (started : os.Started) (H : Type) (enc : TypeId × Value → H) :
    ReturnsInHanded {} Tryd.checked os 7 .any (fun w args => (Rows.meshBarriersSpec.pre enc Tryd.prog Tryd.f7 [] false w args ∧ laidMetH Tryd.prog laid2 w) ∧ sizedMet enc Tryd.prog Tryd.f7 (OpenSpec.ofChange Rows.meshBarriersSpec) false w args)
      (Rows.meshBarriersSpec.post enc Tryd.prog Tryd.f7 false true false false) := by
  refine returnsInHanded_of_change_and (C := Tryd.checked) (X := fun w _ => laidMetH Tryd.prog laid2 w) (fun _ _ _ hh h => h.of_heap hh) own started (by kernel_rfl) Tryd.func7
    (ChangeSpec.witness_shaped (enc := enc) (C := Tryd.checked) (os := os) (X := fun w _ => laidMetH Tryd.prog laid2 w) false (World.doorLaid Tryd.prog 19 os) #[.agg #[.int .i64 0, .int .i64 0, .int .i64 0], .slice none 0 0] 8 rfl (World.shaped_of_RefB (by kernel_rfl) (by kernel_rfl)) (by kernel_rfl) (by kernel_rfl) (by kernel_rfl) (door_met os _)) ?_
  intro W base args ds gs before hval0 hW _ _ hL _
  have hval : ∀ (j : Nat) t v, Tryd.f7.params[j]? = some t → args[j]? = some v → Value.okWide Tryd.prog W .any base t v := hval0
  have hW' := hW
  obtain ⟨p, q, hA0, hV, rfl, hfz, hnd⟩ := hW
  have hA : DataW.TrodAll enc Tryd.prog W 0 (fun _ => true) true Tryd.f7.params.toList args.toList ds p := hA0
  rw [Tryd.params7] at hA hval
  have hAll := hA
  obtain ⟨v0, vs0, d0, ds0, p0, q0, hargs, rfl, rfl, h0, r0⟩ := trodAll_cons hA
  obtain ⟨v1, vs1, d1, ds1, p1, q1, rfl, rfl, rfl, h1, r1⟩ := trodAll_cons r0
  obtain ⟨rfl, rfl, rfl⟩ := trodAll_nil r1
  obtain rfl : args = #[v0, v1] := by cases args; simp_all
  obtain ⟨rfl, rfl⟩ := trodVars_none hV
  obtain ⟨A0, H0, R0, rfl⟩ := open_spec (hval 0 23 v0 rfl rfl) h0
  obtain ⟨sa1, sn1, sc1, zs1, rfl, hl1, hi1, hm1⟩ := open_slice_ints (hval 1 24 v1 rfl rfl) h1
  subst hl1
  have hG := tables_of_laid hL
  clear hA0 hval0 hL
  refine (walk A0 H0 R0 sa1 sc1 zs1 hm1 W hG hi1).mono fun e W' ⟨he, bel⟩ => ?_
  subst he
  have hback := trodAll_below bel [23, 24] (by intro t ht; simp at ht; rcases ht with rfl | rfl <;> exact ⟨by kernel_rfl, of_decide_eq_true (by kernel_rfl)⟩) hAll
  exact ⟨_, rfl, _, _, _, [], _, [], hW', trodAll_mk1 (shut_bool Tryd.underlying4 _), hback, rfl, bel.frame _, fun h => by cases h⟩

theorem over : Rows.meshBarriersRow.holds Tryd.pinned (OpenSpec.ofChange Rows.meshBarriersSpec) :=
  OpenClaim.holds_of_wide 7 Tryd.f7 rfl rfl rfl rfl rfl rfl rfl ⟨rfl, rfl, rfl, rfl, rfl⟩ rfl rfl rfl rfl rfl (by kernel_rfl) Tryd.func7 (by kernel_rfl)
    (of_decide_eq_true (by kernel_rfl)) (by unfold Func.isWrapper; first | (rw [if_pos (by decide +kernel)]; kernel_rfl) | (rw [if_neg (by decide +kernel)]; exact ⟨rfl, rfl⟩))
    (fun os started H enc _ => lifted os started H enc)

theorem proved : Rows.MeshBarriersCardSaid :=
  Claim7.holds_tied_plain_at .later [] [.data, .data] true (true, "b59ee36b3a81e410288fb087d07f6e24e760e63666c234228ef18b30e2139d21") false
    over (fun _ h => by cases h) (by kernel_rfl) (fun _ h => by cases h) meshBarriers_row_tie rfl ⟨rfl, rfl⟩ (by kernel_rfl) rfl
    (fun f fn hf hfn => by
      obtain rfl : f = 7 := Option.some.inj ((show Tryd.prog.funcNamed "ganglion/ganglionlaw04.MeshBarriers" = some 7 by kernel_rfl).symm.trans hf) |>.symm
      obtain rfl : fn = Tryd.f7 := (Option.some.inj (Tryd.func7.symm.trans hfn)).symm
      exact ⟨by kernel_rfl, fun j t ht => by
        rw [Tryd.params7] at ht
        have hm : t ∈ [23, 24] := by simpa using Array.mem_of_getElem? ht
        have hall : ([23, 24].all fun u => !Tryd.prog.wantsStandIn u) = true := by kernel_rfl
        exact (show Tryd.prog.wantsStandIn t = false by simpa using List.all_eq_true.1 hall t hm)⟩)
    (by kernel_rfl)

end Go.Proofs.YtlkcpnhepadenaaDoor.meshBarriers
