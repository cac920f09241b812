/- The specification's Run, with its errors; the law's some. Over this seat's program. -/
import Derived.Test.YtgbcdebnanejpaaTf
namespace Go.Proofs.Ytgbcdebnanejpaa
set_option linter.unusedVariables false
open Go.RowKit Go.Shelf

set_option maxRecDepth 100000 in
set_option maxHeartbeats 2000000 in
theorem rrun_bad (n : NetM) (l : List Evt) (a1 a2 a3 : Option Addr) (c1 c2 c3 : Nat) (ticks : Int) (hne : checkRunM n l ticks 10000 ≠ 0) (w : World) (hp : PsAt w (.slice a1 n.ps.length c1) n.ps) (hs : SsAt w (.slice a2 n.ss.length c2) n.ss) (he : EvsAt w (.slice a3 l.length c3) l) :
    Calls Try.prog 23 #[.agg #[.slice a1 n.ps.length c1, .int .i64 n.inp, .slice a2 n.ss.length c2], .slice a3 l.length c3, .int .i64 ticks] w (NRunOut n l ticks w) := by
  have hck := fun W (hb : Below w.heap.size w W) => rncheck_any n a1 a2 c1 c2 W (hp.below hb) (hs.below hb)
  have hevs := fun W (hb : Below w.heap.size w W) => revents_any a1 a2 n.ps.length c1 n.ss.length c2 n.inp 10000 l a3 c3 W (he.below hb)
  have hE : runE n l ticks = checkRunM n l ticks 10000 := by unfold runE; rw [if_pos hne]
  have hR : runR n l ticks = [] := by unfold runR; rw [hE, if_neg hne]
  unfold NRunOut
  rw [hE, hR]
  by_cases h1 : ncheck n ≠ 0
  · have hX : checkRunM n l ticks 10000 = ncheck n := by unfold checkRunM; rw [if_pos h1]
    rw [hX]
    generalize ncheck n = X at *
    have e1 : (X == 0) = false := by simp [h1]
    have e2 : (X != 0) = true := by simp [h1]
    have HCK := Lib.hid hck
    clear hck hevs hp hs he hE hR hne hX h1
    go_enter Try.func23, Try.ntmps23
    go_wp2_with (go_at_call 20; refine (HCK.out _ ((Below.refl _ _).alloc (Nat.le_refl _) _)).mono ?_; rintro e w1 ⟨rfl, hb1⟩)
    go_ret2
    exact ⟨_, rfl, Or.inl ⟨rfl, rfl⟩, ((Below.refl _ _).alloc (Nat.le_refl _) _).trans (hb1.mono (by simp))⟩
  · have h0 : ncheck n = 0 := by omega
    rw [h0] at hck
    by_cases h2 : inR ticks 0 10000 = false
    · have hX : checkRunM n l ticks 10000 = 3 := by unfold checkRunM; rw [if_neg h1, if_pos h2]
      rw [hX]
      have hr : ticks < 0 ∨ 10000 < ticks := by simp [inR] at h2; omega
      have HCK := Lib.hid hck
      clear hck hevs hp hs he hE hR hne hX h1 h0 h2
      by_cases hn : ticks < 0
      · have z1 : (ticks < 0) = True := eq_true hn
        clear hr
        go_enter Try.func23, Try.ntmps23
        go_wp2_with (go_at_call 20; refine (HCK.out _ ((Below.refl _ _).alloc (Nat.le_refl _) _)).mono ?_; rintro e w1 ⟨rfl, hb1⟩)
        go_ret2
        exact ⟨_, rfl, Or.inl ⟨rfl, rfl⟩, ((Below.refl _ _).alloc (Nat.le_refl _) _).trans (hb1.mono (by simp))⟩
      · have z1 : (ticks < 0) = False := eq_false hn
        have z2 : (10000 < ticks) = True := eq_true (by omega)
        clear hr
        go_enter Try.func23, Try.ntmps23
        go_wp2_with (go_at_call 20; refine (HCK.out _ ((Below.refl _ _).alloc (Nat.le_refl _) _)).mono ?_; rintro e w1 ⟨rfl, hb1⟩)
        go_ret2
        exact ⟨_, rfl, Or.inl ⟨rfl, rfl⟩, ((Below.refl _ _).alloc (Nat.le_refl _) _).trans (hb1.mono (by simp))⟩
    · have hX : checkRunM n l ticks 10000 = evsR l n.inp 10000 := by unfold checkRunM evsR; rw [if_neg h1, if_neg h2]
      rw [hX] at hne ⊢
      have hr : 0 ≤ ticks ∧ ticks ≤ 10000 := by simp [inR] at h2; omega
      have z1 : (ticks < 0) = False := eq_false (by omega)
      have z2 : (10000 < ticks) = False := eq_false (by omega)
      generalize evsR l n.inp 10000 = X at *
      have e1 : (X == 0) = false := by simp [hne]
      have e2 : (X != 0) = true := by simp [hne]
      have HCK := Lib.hid hck
      have HEVS := Lib.hid hevs
      clear hck hevs hp hs he hE hR hne hX h1 h0 h2 hr
      go_enter Try.func23, Try.ntmps23
      go_upto_region 6 with (go_at_call 20; refine (HCK.out _ ((Below.refl _ _).alloc (Nat.le_refl _) _)).mono ?_; rintro e w1 ⟨rfl, hb1⟩; have hbx1 : NetBox w1 w.heap.size (.slice a1 n.ps.length c1) n.inp (.slice a2 n.ss.length c2) := (hb1.block _ (by simp)).trans (alloc_new_at _ _ _ rfl); obtain ⟨_, _, _⟩ := cells3 hbx1; have hzb := lt_of_block hbx1; have B1 := Lib.hid (((Below.refl _ _).alloc (Nat.le_refl _) _).trans (hb1.mono (by simp)) : Below w.heap.size w w1); clear hb1 hbx1)
      go_wp2_with (go_at_call 62; refine (HEVS.out _ B1.out).mono ?_; rintro e w2 ⟨rfl, hb2⟩)
      go_ret2
      exact ⟨_, rfl, Or.inl ⟨rfl, rfl⟩, B1.out.trans (hb2.mono B1.out.size)⟩
theorem rrun_any (n : NetM) (l : List Evt) (a1 a2 a3 : Option Addr) (c1 c2 c3 : Nat) (ticks : Int) (w : World) (hp : PsAt w (.slice a1 n.ps.length c1) n.ps) (hs : SsAt w (.slice a2 n.ss.length c2) n.ss) (he : EvsC w (.slice a3 l.length c3) l) :
    Calls Try.prog 23 #[.agg #[.slice a1 n.ps.length c1, .int .i64 n.inp, .slice a2 n.ss.length c2], .slice a3 l.length c3, .int .i64 ticks] w (NRunOut n l ticks w) := by
  by_cases h : checkRunM n l ticks 10000 = 0
  · exact rrun_good n l a1 a2 a3 c1 c2 c3 ticks h w hp hs he.1
  · exact rrun_bad n l a1 a2 a3 c1 c2 c3 ticks h w hp hs he.1
def someB (k : Nat) : Bool := decide (k ≤ 300) || (decide (65536 < k) && decide (k ≤ 65546))
set_option maxRecDepth 100000 in
set_option maxHeartbeats 1000000 in
theorem some_any (a : Option Addr) (k c : Nat) (w : World) : Calls Try.prog 21 #[.slice a k c] w fun e w' => e = .returned (.bool (someB k)) ∧ Below w.heap.size w w' := by
  have hk0 : (0 : Int) ≤ (k : Int) := Int.natCast_nonneg _
  by_cases h1 : k ≤ 300
  · have z1 : ((k : Int) ≤ 300) = True := eq_true (by omega)
    have hb : someB k = true := by simp [someB, h1]
    rw [hb]
    clear h1 hb
    go_enter Try.func21, Try.ntmps21
    go_wp2
    go_ret
    exact ⟨rfl, Below.refl _ _⟩
  · have z1 : ((k : Int) ≤ 300) = False := eq_false (by omega)
    by_cases h2 : 65536 < k
    · have z2 : ((65536 : Int) < (k : Int)) = True := eq_true (by omega)
      by_cases h3 : k ≤ 65546
      · have z3 : ((k : Int) ≤ 65546) = True := eq_true (by omega)
        have hb : someB k = true := by simp [someB, h2, h3]
        rw [hb]
        clear h1 h2 h3 hb
        go_enter Try.func21, Try.ntmps21
        go_wp2
        go_ret
        exact ⟨rfl, Below.refl _ _⟩
      · have z3 : ((k : Int) ≤ 65546) = False := eq_false (by omega)
        have hb : someB k = false := by simp [someB, h1, h2, h3]
        rw [hb]
        clear h1 h2 h3 hb
        go_enter Try.func21, Try.ntmps21
        go_wp2
        go_ret
        exact ⟨rfl, Below.refl _ _⟩
    · have z2 : ((65536 : Int) < (k : Int)) = False := eq_false (by omega)
      have hb : someB k = false := by simp [someB, h1, h2]
      rw [hb]
      clear h1 h2 hb
      go_enter Try.func21, Try.ntmps21
      go_wp2
      go_ret
      exact ⟨rfl, Below.refl _ _⟩
end Go.Proofs.Ytgbcdebnanejpaa
