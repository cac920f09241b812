/- The walk of the law NetRuns. Over this seat's program. (mk_nru.py wrote this.) -/
import Derived.Test.YtgbcdebnanejpaaTg
import Derived.Test.YtgbcdebnanejpaaOx
import Derived.Test.YtgbcdebnanejpaaWk
namespace Go.Proofs.Ytgbcdebnanejpaa.netRuns
open Go.ChangeShapes Go.WideShapes Go.ChangeAt Go.RowKit
set_option linter.unusedVariables false

theorem short_run {n : NetM} {l : List Evt} {T : Int} (h : runE n l T = 0) : (runO n l T.toNat).length ≤ 65536 := by
  have hc := check_of_runE h
  unfold runE at h
  rw [if_neg (by simp [hc])] at h
  by_cases q : 65536 < (runO n l T.toNat).length
  · rw [if_pos q] at h; cases h
  · omega
theorem runR_short (n : NetM) (l : List Evt) (T : Int) : (runR n l T).length ≤ 65536 := by
  unfold runR
  by_cases h : runE n l T = 0
  · rw [if_pos h]; exact short_run h
  · rw [if_neg h]; simp
set_option maxRecDepth 100000 in
set_option maxHeartbeats 8000000 in
theorem walk (n : NetM) (l : List Evt) (a1 a2 al : Option Addr) (c1 c2 cl : Nat) (T : Int) (w : World) (hp : PsAt w (.slice a1 n.ps.length c1) n.ps) (hs : SsAt w (.slice a2 n.ss.length c2) n.ss) (hi : EvsC w (.slice al l.length cl) l) :
    Calls Try.prog 4 #[.agg #[.slice a1 n.ps.length c1, .int .i64 n.inp, .slice a2 n.ss.length c2], .slice al l.length cl, .int .i64 T] w fun e w' => e = .returned (.bool true) ∧ Below w.heap.size w w' := by
  have hrun := fun W (hb : Below w.heap.size w W) => run_any n l a1 a2 al c1 c2 cl T W (hp.below hb) (hs.below hb) (hi.below hb)
  have hrrun := fun W (hb : Below w.heap.size w W) => rrun_any n l a1 a2 al c1 c2 cl T W (hp.below hb) (hs.below hb) (hi.below hb)
  have hfew := few_any a1 a2 n.ps.length n.ss.length c1 c2 n.inp
  have hsome := some_any al l.length cl
  have hsh := runR_short n l T
  unfold NRunOut at hrun hrrun
  generalize runR n l T = R at *
  generalize runE n l T = X at *
  generalize fewB n.ps.length n.ss.length = FB at *
  generalize someB l.length = SB at *
  generalize n.ps.length = k at *
  generalize n.ss.length = m at *
  generalize n.inp = I at *
  generalize l.length = q at *
  have HRUN := Lib.hid hrun
  have HRRUN := Lib.hid hrrun
  have HFEW := Lib.hid hfew
  have HSOME := Lib.hid hsome
  have HSH := Lib.hid hsh
  clear hrun hrrun hfew hsome hsh hp hs hi
  cases FB with
  | false =>
    go_enter Try.func4, Try.ntmps4
    go_wp2_with (first | (go_at_call 17; refine (HFEW.out _).mono ?_; rintro e w1 ⟨rfl, hb1⟩; have hbx1 : NetBox w1 w.heap.size (.slice a1 k c1) I (.slice a2 m c2) := (hb1.block _ (by simp)).trans (alloc_new_at _ _ _ rfl); obtain ⟨_, _, _⟩ := cells3 hbx1; have HBX := Lib.hid hbx1; have hzb := lt_of_block hbx1; have B1 := Lib.hid (((Below.refl _ _).alloc (Nat.le_refl _) _).trans (hb1.mono (by simp)) : Below w.heap.size w w1); clear hb1 hbx1) | (go_at_call 18; refine (Lf.works_any _).mono ?_; rintro e w9 ⟨rfl, hb9⟩))
    go_ret
    exact ⟨rfl, B1.out.trans (hb9.mono B1.out.size)⟩
  | true =>
    cases SB with
    | false =>
      go_enter Try.func4, Try.ntmps4
      go_wp2_with (first | (go_at_call 17; refine (HFEW.out _).mono ?_; rintro e w1 ⟨rfl, hb1⟩; have hbx1 : NetBox w1 w.heap.size (.slice a1 k c1) I (.slice a2 m c2) := (hb1.block _ (by simp)).trans (alloc_new_at _ _ _ rfl); obtain ⟨_, _, _⟩ := cells3 hbx1; have HBX := Lib.hid hbx1; have hzb := lt_of_block hbx1; have B1 := Lib.hid (((Below.refl _ _).alloc (Nat.le_refl _) _).trans (hb1.mono (by simp)) : Below w.heap.size w w1); clear hb1 hbx1) | (go_at_call 21; refine (HSOME.out _).mono ?_; rintro e w2 ⟨rfl, hb2⟩; have hbx2 : NetBox w2 w.heap.size (.slice a1 k c1) I (.slice a2 m c2) := (hb2.block _ hzb).trans HBX.out; obtain ⟨_, _, _⟩ := cells3 hbx2; have HBX2 := Lib.hid hbx2; have hzb2 := lt_of_block hbx2; have B2 := Lib.hid (B1.out.trans (hb2.mono B1.out.size) : Below w.heap.size w w2); clear hb2 hbx2) | (go_at_call 18; refine (Lf.works_any _).mono ?_; rintro e w9 ⟨rfl, hb9⟩))
      go_ret
      exact ⟨rfl, B2.out.trans (hb9.mono B2.out.size)⟩
    | true =>
      by_cases h1 : T ≤ 300
      · have z1 : (300 < T) = False := eq_false (by omega)
        go_enter Try.func4, Try.ntmps4
        go_upto_region 3 with (first | (go_at_call 17; refine (HFEW.out _).mono ?_; rintro e w1 ⟨rfl, hb1⟩; have hbx1 : NetBox w1 w.heap.size (.slice a1 k c1) I (.slice a2 m c2) := (hb1.block _ (by simp)).trans (alloc_new_at _ _ _ rfl); obtain ⟨_, _, _⟩ := cells3 hbx1; have HBX := Lib.hid hbx1; have hzb := lt_of_block hbx1; have B1 := Lib.hid (((Below.refl _ _).alloc (Nat.le_refl _) _).trans (hb1.mono (by simp)) : Below w.heap.size w w1); clear hb1 hbx1) | (go_at_call 21; refine (HSOME.out _).mono ?_; rintro e w2 ⟨rfl, hb2⟩; have hbx2 : NetBox w2 w.heap.size (.slice a1 k c1) I (.slice a2 m c2) := (hb2.block _ hzb).trans HBX.out; obtain ⟨_, _, _⟩ := cells3 hbx2; have HBX2 := Lib.hid hbx2; have hzb2 := lt_of_block hbx2; have B2 := Lib.hid (B1.out.trans (hb2.mono B1.out.size) : Below w.heap.size w w2); clear hb2 hbx2))
        go_upto_region 4 with (go_at_call 22; refine (HRUN.out _ B2.out).mono ?_; rintro e w3 ⟨v7, rfl, hv7, hb3⟩; have hbx3 : NetBox w3 w.heap.size (.slice a1 k c1) I (.slice a2 m c2) := (hb3.block _ hzb2).trans HBX2.out; obtain ⟨_, _, _⟩ := cells3 hbx3; have HV7 := Lib.hid hv7; have B3 := Lib.hid (B2.out.trans (hb3.mono B2.out.size) : Below w.heap.size w w3); clear hb3 hbx3 hv7)
        go_upto_region 5 with (go_at_call 23; refine (HRRUN.out _ B3.out).mono ?_; rintro e w4 ⟨v9, rfl, hv9, hb4⟩; have HV9 := Lib.hid hv9; have HB4 := Lib.hid hb4; have B4 := Lib.hid (B3.out.trans (hb4.mono B3.out.size) : Below w.heap.size w w4); clear hb4 hv9)
        obtain ⟨a7, c7, hf7⟩ := HV7.out.form
        obtain ⟨a9, c9, hf9⟩ := HV9.out.form
        subst hf7 hf9
        have hsame := same_eq R a7 a9 c7 c9 (by have := HSH.out; omega) w4 (HV7.out.below HB4.out) HV9.out
        have HSM := Lib.hid hsame
        have hxx : (X == X) = true := by simp
        clear hsame
        go_wp2_with (fail)
        refine HSM.out.mono ?_
        rintro e w6 ⟨rfl, hb6⟩
        have B6 := Lib.hid (B4.out.trans (hb6.mono B4.out.size) : Below w.heap.size w w6)
        clear hb6
        go_wp2_with (fail)
        refine (Lf.works_any _).mono ?_
        rintro e w7 ⟨rfl, hb7⟩
        have BF := Lib.hid (B6.out.trans (hb7.mono B6.out.size) : Below w.heap.size w w7)
        clear hb7
        go_wp2
        go_ret
        exact ⟨rfl, BF.out⟩
      · have z1 : (300 < T) = True := eq_true (by omega)
        by_cases h2 : T ≤ 10000
        · have z2 : (T ≤ 10000) = True := eq_true h2
          go_enter Try.func4, Try.ntmps4
          go_wp2_with (first | (go_at_call 17; refine (HFEW.out _).mono ?_; rintro e w1 ⟨rfl, hb1⟩; have hbx1 : NetBox w1 w.heap.size (.slice a1 k c1) I (.slice a2 m c2) := (hb1.block _ (by simp)).trans (alloc_new_at _ _ _ rfl); obtain ⟨_, _, _⟩ := cells3 hbx1; have HBX := Lib.hid hbx1; have hzb := lt_of_block hbx1; have B1 := Lib.hid (((Below.refl _ _).alloc (Nat.le_refl _) _).trans (hb1.mono (by simp)) : Below w.heap.size w w1); clear hb1 hbx1) | (go_at_call 21; refine (HSOME.out _).mono ?_; rintro e w2 ⟨rfl, hb2⟩; have hbx2 : NetBox w2 w.heap.size (.slice a1 k c1) I (.slice a2 m c2) := (hb2.block _ hzb).trans HBX.out; obtain ⟨_, _, _⟩ := cells3 hbx2; have HBX2 := Lib.hid hbx2; have hzb2 := lt_of_block hbx2; have B2 := Lib.hid (B1.out.trans (hb2.mono B1.out.size) : Below w.heap.size w w2); clear hb2 hbx2) | (go_at_call 18; refine (Lf.works_any _).mono ?_; rintro e w9 ⟨rfl, hb9⟩))
          go_ret
          exact ⟨rfl, B2.out.trans (hb9.mono B2.out.size)⟩
        · have z2 : (T ≤ 10000) = False := eq_false h2
          go_enter Try.func4, Try.ntmps4
          go_upto_region 3 with (first | (go_at_call 17; refine (HFEW.out _).mono ?_; rintro e w1 ⟨rfl, hb1⟩; have hbx1 : NetBox w1 w.heap.size (.slice a1 k c1) I (.slice a2 m c2) := (hb1.block _ (by simp)).trans (alloc_new_at _ _ _ rfl); obtain ⟨_, _, _⟩ := cells3 hbx1; have HBX := Lib.hid hbx1; have hzb := lt_of_block hbx1; have B1 := Lib.hid (((Below.refl _ _).alloc (Nat.le_refl _) _).trans (hb1.mono (by simp)) : Below w.heap.size w w1); clear hb1 hbx1) | (go_at_call 21; refine (HSOME.out _).mono ?_; rintro e w2 ⟨rfl, hb2⟩; have hbx2 : NetBox w2 w.heap.size (.slice a1 k c1) I (.slice a2 m c2) := (hb2.block _ hzb).trans HBX.out; obtain ⟨_, _, _⟩ := cells3 hbx2; have HBX2 := Lib.hid hbx2; have hzb2 := lt_of_block hbx2; have B2 := Lib.hid (B1.out.trans (hb2.mono B1.out.size) : Below w.heap.size w w2); clear hb2 hbx2))
          go_upto_region 4 with (go_at_call 22; refine (HRUN.out _ B2.out).mono ?_; rintro e w3 ⟨v7, rfl, hv7, hb3⟩; have hbx3 : NetBox w3 w.heap.size (.slice a1 k c1) I (.slice a2 m c2) := (hb3.block _ hzb2).trans HBX2.out; obtain ⟨_, _, _⟩ := cells3 hbx3; have HV7 := Lib.hid hv7; have B3 := Lib.hid (B2.out.trans (hb3.mono B2.out.size) : Below w.heap.size w w3); clear hb3 hbx3 hv7)
          go_upto_region 5 with (go_at_call 23; refine (HRRUN.out _ B3.out).mono ?_; rintro e w4 ⟨v9, rfl, hv9, hb4⟩; have HV9 := Lib.hid hv9; have HB4 := Lib.hid hb4; have B4 := Lib.hid (B3.out.trans (hb4.mono B3.out.size) : Below w.heap.size w w4); clear hb4 hv9)
          obtain ⟨a7, c7, hf7⟩ := HV7.out.form
          obtain ⟨a9, c9, hf9⟩ := HV9.out.form
          subst hf7 hf9
          have hsame := same_eq R a7 a9 c7 c9 (by have := HSH.out; omega) w4 (HV7.out.below HB4.out) HV9.out
          have HSM := Lib.hid hsame
          have hxx : (X == X) = true := by simp
          clear hsame
          go_wp2_with (fail)
          refine HSM.out.mono ?_
          rintro e w6 ⟨rfl, hb6⟩
          have B6 := Lib.hid (B4.out.trans (hb6.mono B4.out.size) : Below w.heap.size w w6)
          clear hb6
          go_wp2_with (fail)
          refine (Lf.works_any _).mono ?_
          rintro e w7 ⟨rfl, hb7⟩
          have BF := Lib.hid (B6.out.trans (hb7.mono B6.out.size) : Below w.heap.size w w7)
          clear hb7
          go_wp2
          go_ret
          exact ⟨rfl, BF.out⟩
end Go.Proofs.Ytgbcdebnanejpaa.netRuns
