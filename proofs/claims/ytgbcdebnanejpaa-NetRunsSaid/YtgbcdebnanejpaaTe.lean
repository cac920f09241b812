/- The specification's check of events. Over this seat's program. (mk_Te.py wrote this.) -/
import Derived.Test.YtgbcdebnanejpaaTc
import Derived.BigQuiet
namespace Go.Proofs.Ytgbcdebnanejpaa
set_option linter.unusedVariables false
open Go.RowKit Go.Shelf

def evsR (l : List Evt) (inp most : Int) : Int := if 65536 < l.length then 9 else evsErr l inp most
theorem evErr3 {l : List Evt} {inp most : Int} {i : Nat} {x : Evt} (hx : l[i]? = some x) (h : x.tk < 0 ∨ most ≤ x.tk ∨ x.id < 0 ∨ inp ≤ x.id) : evErrAt l inp most i = 3 := by
  unfold evErrAt
  rw [hx, Option.getD_some, if_neg]
  simp [inR]
  omega
theorem evErr0 {l : List Evt} {inp most : Int} {i : Nat} {x : Evt} (hx : l[i]? = some x) (h : 0 ≤ x.tk ∧ x.tk < most ∧ 0 ≤ x.id ∧ x.id < inp) (h0 : i = 0 ∨ evLt (l[i - 1]?.getD ⟨0, 0⟩) x = true) : evErrAt l inp most i = 0 := by
  unfold evErrAt
  rw [hx, Option.getD_some, if_pos (by simp [inR]; omega), if_neg]
  rintro ⟨q1, q2⟩
  rcases h0 with h0 | h0
  · omega
  · rw [h0] at q2; cases q2
theorem evErr2 {l : List Evt} {inp most : Int} {i : Nat} {x : Evt} (hx : l[i]? = some x) (h : 0 ≤ x.tk ∧ x.tk < most ∧ 0 ≤ x.id ∧ x.id < inp) (h0 : 0 < i) (h1 : evLt (l[i - 1]?.getD ⟨0, 0⟩) x = false) : evErrAt l inp most i = 2 := by
  unfold evErrAt
  rw [hx, Option.getD_some, if_pos (by simp [inR]; omega), if_pos ⟨h0, h1⟩]

set_option maxRecDepth 100000 in
set_option maxHeartbeats 8000000 in
theorem revents_any (a1 a2 : Option Addr) (k1 c1 k2 c2 : Nat) (inp most : Int) (l : List Evt) (a : Option Addr) (c : Nat) (w : World) (he : EvsAt w (.slice a l.length c) l) :
    Calls Try.prog 62 #[.agg #[.slice a1 k1 c1, .int .i64 inp, .slice a2 k2 c2], .slice a l.length c, .int .i64 most] w fun e w' => e = .returned (.int .i64 (evsR l inp most)) ∧ Below w.heap.size w w' := by
  obtain ⟨m, hm⟩ : ∃ m, l.length = m := ⟨_, rfl⟩
  have hm0 : (0 : Int) ≤ (m : Int) := Int.natCast_nonneg _
  have hbx : NetBox (w.alloc (.cells #[.slice a1 k1 c1, .int .i64 inp, .slice a2 k2 c2] 25)) w.heap.size (.slice a1 k1 c1) inp (.slice a2 k2 c2) := alloc_new_at _ _ _ rfl
  by_cases hmany : 65536 < m
  · have z1 : ((65536 : Int) < (m : Int)) = True := by simp; omega
    have hE : evsR l inp most = 9 := by unfold evsR; rw [hm, if_pos hmany]
    rw [hE, hm]
    clear he hmany hbx
    go_enter Try.func62, Try.ntmps62
    go_wp2
    go_ret
    exact ⟨rfl, (Below.refl _ _).alloc (Nat.le_refl _) _⟩
  · have z1 : ((65536 : Int) < (m : Int)) = False := by simp; omega
    have hE : evsR l inp most = firstNz (evErrAt l inp most) m := by unfold evsR; rw [hm, if_neg hmany]; unfold evsErr; rw [hm]
    rw [hE]
    rw [hm] at he ⊢
    have HE := Lib.hid he
    have HM := Lib.hid hm
    have HBX := Lib.hid hbx
    have hb0 : Below w.heap.size w (w.alloc (.cells #[.slice a1 k1 c1, .int .i64 inp, .slice a2 k2 c2] 25)) := (Below.refl _ _).alloc (Nat.le_refl _) _
    have HB0 := Lib.hid hb0
    clear he hm hbx hb0 hE
    go_enter Try.func62, Try.ntmps62
    go_wp2
    generalize w.alloc (.cells #[.slice a1 k1 c1, .int .i64 inp, .slice a2 k2 c2] 25) = W0 at *
    have hz0 := lt_of_block HBX.out
    go_loopw [7] (fun s7 wr => ∃ i : Nat, i ≤ m ∧ s7 = .int .i64 i ∧ (∀ j, j < i → evErrAt l inp most j = 0) ∧ Below W0.heap.size W0 wr) (fun s7 _ => m - (intOf s7).toNat)
    case atStart => exact ⟨0, Nat.zero_le _, rfl, fun j hj => by omega, Below.refl _ _⟩
    case round =>
      obtain ⟨i, hi, rfl, hok, hb⟩ := hrel
      have hi0 : (0 : Int) ≤ (i : Int) := Int.natCast_nonneg _
      have hzw := hb.size
      have hzl : w.heap.size < wr.heap.size := by omega
      obtain ⟨_, hin, _⟩ := cells3 (show NetBox wr w.heap.size (.slice a1 k1 c1) inp (.slice a2 k2 c2) from (hb.block _ hz0).trans HBX.out)
      by_cases hlt : i < m
      · have hi1 : ((i : Int) < (m : Int)) = True := by simp; omega
        obtain ⟨x, hx⟩ : ∃ x, l[i]? = some x := ⟨_, List.getElem?_eq_getElem (by rw [HM.out]; exact hlt)⟩
        have hv := HE.out
        rw [← HM.out] at hv
        obtain ⟨b, off, hab, hbl, hcc⟩ := hv.at hx
        have hab : a = some ⟨b, off, none⟩ := by simpa using hab
        subst hab
        have hbw : Below w.heap.size w wr := HB0.out.trans (hb.mono HB0.out.size)
        obtain ⟨y1, y2⟩ := hcc.below hbw hbl
        have hbr : b < wr.heap.size := by omega
        obtain ⟨X1, X2⟩ := x
        simp only at y1 y2
        have HX := Lib.hid hx
        have HOK := Lib.hid hok
        have HBW := Lib.hid hbw
        have HB := Lib.hid hb
        have HV := Lib.hid hv
        clear hx hok hbw hcc hb hv
        by_cases hp : X1 < 0
        · have p1 : (X1 < 0) = True := eq_true hp
          have p2 : decide (X1 < 0) = true := decide_eq_true hp
          have H3 := Lib.hid (evErr3 (inp := inp) (most := most) HX.out (.inl hp))
          clear hp
          go_wp2
          go_quiet (fail)
          go_wp2
          go_ret
          exact ⟨by rw [firstNz_at HOK.out (by rw [H3.out]; decide) m hlt, H3.out]; rfl, by first | exact HBW.out | exact below_drewN HBW.out _ | exact below_drewN (below_drewN HBW.out _) _⟩
        · have p1 : (X1 < 0) = False := eq_false hp
          have p2 : decide (X1 < 0) = false := decide_eq_false hp
          by_cases hq : most ≤ X1
          · have q1 : (most ≤ X1) = True := eq_true hq
            have q2 : decide (most ≤ X1) = true := decide_eq_true hq
            have H3 := Lib.hid (evErr3 (inp := inp) (most := most) HX.out (.inr (.inl hq)))
            clear hp hq
            go_wp2
            go_quiet (fail)
            go_wp2
            go_ret
            exact ⟨by rw [firstNz_at HOK.out (by rw [H3.out]; decide) m hlt, H3.out]; rfl, by first | exact HBW.out | exact below_drewN HBW.out _ | exact below_drewN (below_drewN HBW.out _) _⟩
          · have q1 : (most ≤ X1) = False := eq_false hq
            have q2 : decide (most ≤ X1) = false := decide_eq_false hq
            by_cases hr : X2 < 0
            · have r1 : (X2 < 0) = True := eq_true hr
              have r2 : decide (X2 < 0) = true := decide_eq_true hr
              have H3 := Lib.hid (evErr3 (inp := inp) (most := most) HX.out (.inr (.inr (.inl hr))))
              clear hp hq hr
              go_wp2
              go_quiet (fail)
              go_wp2
              go_ret
              exact ⟨by rw [firstNz_at HOK.out (by rw [H3.out]; decide) m hlt, H3.out]; rfl, by first | exact HBW.out | exact below_drewN HBW.out _ | exact below_drewN (below_drewN HBW.out _) _⟩
            · have r1 : (X2 < 0) = False := eq_false hr
              have r2 : decide (X2 < 0) = false := decide_eq_false hr
              by_cases hs : inp ≤ X2
              · have s1 : (inp ≤ X2) = True := eq_true hs
                have s2 : decide (inp ≤ X2) = true := decide_eq_true hs
                have H3 := Lib.hid (evErr3 (inp := inp) (most := most) HX.out (.inr (.inr (.inr hs))))
                clear hp hq hr hs
                go_wp2
                go_quiet (fail)
                go_wp2
                go_ret
                exact ⟨by rw [firstNz_at HOK.out (by rw [H3.out]; decide) m hlt, H3.out]; rfl, by first | exact HBW.out | exact below_drewN HBW.out _ | exact below_drewN (below_drewN HBW.out _) _⟩
              · have s1 : (inp ≤ X2) = False := eq_false hs
                have s2 : decide (inp ≤ X2) = false := decide_eq_false hs
                by_cases hz : i = 0
                · subst hz
                  have hp0 : (0 : Int) < (m : Int) := by omega
                  have y3 : wr.cell? ⟨b, off, none⟩ = some (.int .i64 X1) := by simpa using y1
                  have y4 : wr.cell? ⟨b, off + 1, none⟩ = some (.int .i64 X2) := by simpa using y2
                  have H0 := Lib.hid (evErr0 (inp := inp) (most := most) HX.out ⟨by show 0 ≤ X1; omega, by show X1 < most; omega, by show 0 ≤ X2; omega, by show X2 < inp; omega⟩ (.inl rfl))
                  clear hp hq hr hs
                  go_wp2
                  go_quiet (fail)
                  go_wp2
                  go_quiet (fail)
                  go_wp2
                  go_roundw
                  case rel =>
                    refine ⟨0 + 1, hlt, by go_num, fun j hj => ?_, by first | exact HB.out | exact below_drewN HB.out _ | exact below_drewN (below_drewN HB.out _) _⟩
                    by_cases e : j = 0
                    · rw [e]; exact H0.out
                    · exact HOK.out j (by omega)
                  case measure => simp [intOf]; omega
                · obtain ⟨k, rfl⟩ : ∃ k, i = k + 1 := ⟨i - 1, by omega⟩
                  obtain ⟨p, hp'⟩ : ∃ p, l[k]? = some p := ⟨_, List.getElem?_eq_getElem (by rw [HM.out]; omega)⟩
                  obtain ⟨b', off', hab', hbl', hcc'⟩ := HV.out.at hp'
                  obtain ⟨rfl, rfl⟩ : b = b' ∧ off = off' := by simpa using hab'
                  obtain ⟨u1, u2⟩ := hcc'.below HBW.out hbl'
                  obtain ⟨P1, P2⟩ := p
                  simp only at u1 u2
                  have hk1 : (0 : Int) ≤ (k : Int) := Int.natCast_nonneg _
                  have hk2 : (k : Int) < (m : Int) := by omega
                  have hpd : l[k + 1 - 1]?.getD ⟨0, 0⟩ = ⟨P1, P2⟩ := by rw [Nat.add_sub_cancel, hp']; rfl
                  have HPD := Lib.hid hpd
                  clear hp' hab' hcc' hpd hz
                  by_cases ht : X1 < P1
                  · have t1 : (X1 < P1) = True := eq_true ht
                    have t2 : decide (X1 < P1) = true := decide_eq_true ht
                    have H2 := Lib.hid (evErr2 (inp := inp) (most := most) HX.out ⟨by show 0 ≤ X1; omega, by show X1 < most; omega, by show 0 ≤ X2; omega, by show X2 < inp; omega⟩ (Nat.succ_pos k) (by rw [HPD.out]; simp [evLt]; omega))
                    clear ht hp hq hr hs
                    go_wp2
                    go_quiet (fail)
                    go_wp2
                    go_quiet (fail)
                    go_wp2
                    go_ret
                    exact ⟨by rw [firstNz_at HOK.out (by rw [H2.out]; decide) m hlt, H2.out]; rfl, by first | exact HBW.out | exact below_drewN HBW.out _ | exact below_drewN (below_drewN HBW.out _) _⟩
                  · have t1 : (X1 < P1) = False := eq_false ht
                    have t2 : decide (X1 < P1) = false := decide_eq_false ht
                    by_cases hu : X1 = P1
                    · have u3 : (X1 == P1) = true := by simp [hu]
                      have u4 : (X1 = P1) = True := eq_true hu
                      have u5 : (P1 == X1) = true := by simp [hu]
                      have u6 : (P1 = X1) = True := eq_true hu.symm
                      by_cases hv : X2 ≤ P2
                      · have v1 : (X2 ≤ P2) = True := eq_true hv
                        have v2 : decide (X2 ≤ P2) = true := decide_eq_true hv
                        have H2 := Lib.hid (evErr2 (inp := inp) (most := most) HX.out ⟨by show 0 ≤ X1; omega, by show X1 < most; omega, by show 0 ≤ X2; omega, by show X2 < inp; omega⟩ (Nat.succ_pos k) (by rw [HPD.out]; simp [evLt]; omega))
                        clear ht hu hv hp hq hr hs
                        go_wp2
                        go_quiet (fail)
                        go_wp2
                        go_quiet (fail)
                        go_wp2
                        go_ret
                        exact ⟨by rw [firstNz_at HOK.out (by rw [H2.out]; decide) m hlt, H2.out]; rfl, by first | exact HBW.out | exact below_drewN HBW.out _ | exact below_drewN (below_drewN HBW.out _) _⟩
                      · have v1 : (X2 ≤ P2) = False := eq_false hv
                        have v2 : decide (X2 ≤ P2) = false := decide_eq_false hv
                        have H0 := Lib.hid (evErr0 (inp := inp) (most := most) HX.out ⟨by show 0 ≤ X1; omega, by show X1 < most; omega, by show 0 ≤ X2; omega, by show X2 < inp; omega⟩ (.inr (by rw [HPD.out]; simp [evLt]; omega)))
                        clear ht hu hv hp hq hr hs
                        go_wp2
                        go_quiet (fail)
                        go_wp2
                        go_quiet (fail)
                        go_wp2
                        go_roundw
                        case rel =>
                          refine ⟨(k + 1) + 1, hlt, by go_num, fun j hj => ?_, by first | exact HB.out | exact below_drewN HB.out _ | exact below_drewN (below_drewN HB.out _) _⟩
                          by_cases e : j = (k + 1)
                          · rw [e]; exact H0.out
                          · exact HOK.out j (by omega)
                        case measure => simp [intOf]; omega
                    · have u3 : (X1 == P1) = false := by simp [hu]
                      have u4 : (X1 = P1) = False := eq_false hu
                      have u5 : (P1 == X1) = false := by simp; omega
                      have u6 : (P1 = X1) = False := eq_false (fun e => hu e.symm)
                      have H0 := Lib.hid (evErr0 (inp := inp) (most := most) HX.out ⟨by show 0 ≤ X1; omega, by show X1 < most; omega, by show 0 ≤ X2; omega, by show X2 < inp; omega⟩ (.inr (by rw [HPD.out]; simp [evLt]; omega)))
                      clear ht hu hp hq hr hs
                      go_wp2
                      go_quiet (fail)
                      go_wp2
                      go_quiet (fail)
                      go_wp2
                      go_roundw
                      case rel =>
                        refine ⟨(k + 1) + 1, hlt, by go_num, fun j hj => ?_, by first | exact HB.out | exact below_drewN HB.out _ | exact below_drewN (below_drewN HB.out _) _⟩
                        by_cases e : j = (k + 1)
                        · rw [e]; exact H0.out
                        · exact HOK.out j (by omega)
                      case measure => simp [intOf]; omega
      · obtain rfl : m = i := by omega
        have hj1 : ((m : Int) < (m : Int)) = False := by simp
        have hz := firstNz_zero _ hok
        have HZ := Lib.hid hz
        have HBW := Lib.hid (HB0.out.trans (hb.mono HB0.out.size) : Below w.heap.size w wr)
        clear hz hok hb hlt hi
        go_wp2
        go_ret
        exact ⟨by rw [HZ.out]; rfl, HBW.out⟩
end Go.Proofs.Ytgbcdebnanejpaa
