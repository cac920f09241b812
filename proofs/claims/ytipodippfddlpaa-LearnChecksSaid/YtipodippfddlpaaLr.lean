/- The specification's Check of a network that learns. Over this seat's program. -/
import Derived.Test.YtipodippfddlpaaLq
namespace Go.Proofs.Ytipodippfddlpaa.Lrn
set_option linter.unusedVariables false
open Go.RowKit Go.Shelf

set_option maxRecDepth 100000 in
set_option maxHeartbeats 2000000 in
theorem rlcheck_any (n : NetM) (rs : List Rul) (pl : List Int) (a1 a2 ar ap : Option Addr) (c1 c2 cr cp : Nat) (hrl : rs.length ≤ 17) (hpl : pl.length ≤ 110) (hsl : n.ss.length ≤ 100) (hw : ∀ r ∈ rs, (Lit.int .i64 r.kd).wf = true)
    (w : World) (hp : PsAt w (.slice a1 n.ps.length c1) n.ps) (hs : SsAt w (.slice a2 n.ss.length c2) n.ss) (hr : RlsAt w (.slice ar rs.length cr) rs) (hi : IsAt w (.slice ap pl.length cp) pl) :
    Calls Try.prog 16 #[.agg #[.slice a1 n.ps.length c1, .int .i64 n.inp, .slice a2 n.ss.length c2], .slice ar rs.length cr, .slice ap pl.length cp] w (LGot (lcheck n rs pl) w) := by
  obtain ⟨X, hX⟩ : ∃ X : Int, X = lcheck n rs pl := ⟨_, rfl⟩
  rw [← hX]
  have hnc := rncheck_any n a1 a2 c1 c2 (w.alloc (.cells #[.slice a1 n.ps.length c1, .int .i64 n.inp, .slice a2 n.ss.length c2] 25)) (hp.below ((Below.refl _ _).alloc (Nat.le_refl _) _)) (hs.below ((Below.refl _ _).alloc (Nat.le_refl _) _))
  obtain ⟨E, hE⟩ : ∃ E : Int, E = ncheck n := ⟨_, rfl⟩
  rw [← hE] at hnc
  obtain ⟨m, hm⟩ : ∃ m, m = rs.length := ⟨_, rfl⟩
  obtain ⟨q, hq⟩ : ∃ q, q = pl.length := ⟨_, rfl⟩
  obtain ⟨s, hsn⟩ : ∃ s, s = n.ss.length := ⟨_, rfl⟩
  obtain ⟨np, hnp⟩ : ∃ np, np = n.ps.length := ⟨_, rfl⟩
  obtain ⟨inp, hinp⟩ : ∃ inp, inp = n.inp := ⟨_, rfl⟩
  rw [← hm] at hrl hr ⊢
  rw [← hq] at hpl hi ⊢
  rw [← hsn] at hsl hs hnc ⊢
  rw [← hnp] at hnc ⊢
  rw [← hinp] at hnc ⊢
  have HX := Lib.hid hX
  have HE := Lib.hid hE
  have HM := Lib.hid hm
  have HQ := Lib.hid hq
  have HSN := Lib.hid hsn
  have HS := Lib.hid hs
  have HR := Lib.hid hr
  have HI := Lib.hid hi
  have HW := Lib.hid hw
  clear hX hE hm hq hsn hnp hinp hs hr hi hw hp
  by_cases h0 : E = 0
  · subst h0
    have HNC := Lib.hid hnc
    clear hnc
    by_cases h16 : 16 < m
    · have g1 : (16 < m) = True := by simp [h16]
      go_enter Try.func16, Try.ntmps16
      go_wp2_with (go_at_call 45; refine HNC.out.mono ?_; rintro e w1 ⟨rfl, hb1⟩)
      go_ret
      exact ⟨by rw [HX.out, lcheck_many HE.out.symm (by have := HM.out; omega)]; rfl, ((Below.refl _ _).alloc (Nat.le_refl _) _).trans (hb1.mono (by simp))⟩
    · have g1 : (16 < m) = False := by simp; omega
      go_enter Try.func16, Try.ntmps16
      go_wp2_with (go_at_call 45; refine HNC.out.mono ?_; rintro e w1 ⟨rfl, hb1⟩)
      have hz1 : w.heap.size < w1.heap.size := by have h9 := hb1.size; simp at h9; omega
      have hbx : NetBox w1 w.heap.size (.slice a1 np c1) inp (.slice a2 s c2) := (hb1.block w.heap.size (by simp)).trans (alloc_new_at _ _ _ rfl)
      have hbl : Below w.heap.size w w1 := ((Below.refl _ _).alloc (Nat.le_refl _) _).trans (hb1.mono (by simp))
      have BX := Lib.hid hbx
      have BL := Lib.hid hbl
      clear hb1 hbx hbl
      go_loopw [8] (fun i wr => ∃ k : Nat, k ≤ m ∧ i = .int .i64 k ∧ NetBox wr w.heap.size (.slice a1 np c1) inp (.slice a2 s c2) ∧ Below w.heap.size w wr ∧ ∀ j, j < k → ruleE (ruleAt rs j) = 0) (fun i _ => m - (intOf i).toNat)
      case atStart => exact ⟨0, Nat.zero_le _, rfl, BX.out, BL.out, fun _ h => by omega⟩
      case round =>
        obtain ⟨k, hk, rfl, hbx, hbl, hok⟩ := hrel
        have hzr : w.heap.size < wr.heap.size := (Array.getElem?_eq_some_iff.1 hbx).1
        have BXR := Lib.hid hbx
        have BLR := Lib.hid hbl
        have HOK := Lib.hid hok
        clear hbx hbl hok
        by_cases hlt : k < m
        · obtain ⟨b, off, rfl, hbl, hc⟩ := (HR.out.below BLR.out).at (ruleAt_get (k := k) (by have := HM.out; omega))
          obtain ⟨r, hrr⟩ : ∃ r, r = ruleAt rs k := ⟨_, rfl⟩
          rw [← hrr] at hc
          obtain ⟨u0, u1, u2, u3, u4, u5, u6, u7, u8, u9⟩ := hc
          have hcr := rrule_any r
          obtain ⟨F, hF⟩ : ∃ F : Int, F = ruleE r := ⟨_, rfl⟩
          rw [← hF] at hcr
          have HCR := Lib.hid hcr
          have HF := Lib.hid hF
          have HRR := Lib.hid hrr
          clear hcr hF hrr
          have hk0 : (0 : Int) ≤ (k : Int) := Int.natCast_nonneg _
          have hk1 : (k : Int) < (m : Int) := by omega
          by_cases hF0 : F = 0
          · subst hF0
            go_wp2_with (go_at_call 46; refine (HCR.out _).mono ?_; rintro e w3 ⟨rfl, hb3⟩; have HB3 := Lib.hid hb3; clear hb3)
            have hz3 : wr.heap.size ≤ w3.heap.size := HB3.out.size
            refine ⟨⟨k + 1, by omega, by go_num, ?_, ?_, fun j hj => ?_⟩, by simp [intOf]; omega⟩
            · exact (HB3.out.block _ hzr).trans BXR.out
            · exact BLR.out.trans (HB3.out.mono (by omega))
            · rcases Nat.lt_or_ge j k with h | h
              · exact HOK.out j h
              · have : j = k := by omega
                subst this
                rw [← HRR.out]; exact HF.out.symm
          · have hne : (F != 0) = true := by simp [hF0]
            have HF0 := Lib.hid hF0
            clear hF0
            go_wp2_with (go_at_call 46; refine (HCR.out _).mono ?_; rintro e w3 ⟨rfl, hb3⟩; have HB3 := Lib.hid hb3; clear hb3)
            go_ret
            refine ⟨?_, BLR.out.trans (HB3.out.mono (by omega))⟩
            have e1 := HRR.out
            have e2 := HF.out
            rw [HX.out, lcheck_rule (k := k) HE.out.symm (by have := HM.out; omega) (by have := HM.out; omega) HOK.out (by rw [← e1, ← e2]; exact HF0.out), ← e1, ← e2]
            rfl
        · have hkm : m = k := by omega
          clear hlt hk
          subst hkm
          by_cases hsh : q = s
          · have g2 : ((q : Int) != (s : Int)) = false := by simp [hsh]
            subst hsh
            obtain ⟨v0, v1, v2, _⟩ := cells3f BXR.out
            go_wp2
            have hrest := lcheck_rest (n := n) (rs := rs) (pl := pl) HE.out.symm (by have := HM.out; omega) (by have h9 := HOK.out; have h8 := HM.out; intro j hj; exact h9 j (by omega)) (by have := HQ.out; have := HSN.out; omega)
            rw [← HX.out] at hrest
            have HREST := Lib.hid hrest
            clear hrest
            generalize wr = wo at *
            go_loopw [9] (fun i wr => ∃ k : Nat, k ≤ q ∧ i = .int .i64 k ∧ NetBox wr w.heap.size (.slice a1 np c1) inp (.slice a2 q c2) ∧ Below w.heap.size w wr ∧ ∀ j, j < k → plErr n rs pl j = 0) (fun i _ => q - (intOf i).toNat)
            case atStart => exact ⟨0, Nat.zero_le _, by go_num, BXR.out, BLR.out, fun _ h => by omega⟩
            case round =>
              obtain ⟨k, hk, rfl, hbx, hbl, hok⟩ := hrel
              have BXS := Lib.hid hbx
              have BLS := Lib.hid hbl
              have HOKS := Lib.hid hok
              obtain ⟨y0, y1, y2, _⟩ := cells3f hbx
              clear hbx hbl hok
              by_cases hlt : k < q
              · obtain ⟨x, hx⟩ : ∃ x, pl[k]? = some x := ⟨_, List.getElem?_eq_getElem (by have := HQ.out; omega)⟩
                obtain ⟨bp, op, rfl, _, ci⟩ := (HI.out.below BLS.out).at hx
                have hk0 : (0 : Int) ≤ (k : Int) := Int.natCast_nonneg _
                have hk1 : (k : Int) < (q : Int) := by omega
                have hA := lwithin_any x (-1) ((m : Int) - 1)
                have HXX := Lib.hid hx
                clear hx
                by_cases hin : inR x (-1) ((m : Int) - 1) = true
                · rw [hin] at hA
                  have HA := Lib.hid hA
                  have hx01 := inR_true.1 hin
                  clear hA hin
                  by_cases hx0 : 0 ≤ x
                  · obtain ⟨t, rfl⟩ : ∃ t : Nat, x = t := ⟨x.toNat, by omega⟩
                    obtain ⟨br, or', rfl, _, hcr⟩ := (HR.out.below BLS.out).at (ruleAt_get (k := t) (by have := HM.out; omega))
                    obtain ⟨r, hrr⟩ : ∃ r, r = ruleAt rs t := ⟨_, rfl⟩
                    rw [← hrr] at hcr
                    obtain ⟨sy, hsy⟩ : ∃ sy, n.ss[k]? = some sy := ⟨_, List.getElem?_eq_getElem (by have := HSN.out; omega)⟩
                    obtain ⟨bs, os, rfl, _, hcs⟩ := (HS.out.below BLS.out).at hsy
                    have e7 := hcr.c7
                    have e8 := hcr.c8
                    have e2 := hcs.c2
                    have hB := lwithin_any sy.wt r.lo r.hi
                    obtain ⟨v, hv⟩ : ∃ v, v = inR sy.wt r.lo r.hi := ⟨_, rfl⟩
                    rw [← hv] at hB
                    obtain ⟨wt, hwt⟩ : ∃ wt, wt = sy.wt := ⟨_, rfl⟩
                    obtain ⟨lo, hlo⟩ : ∃ lo, lo = r.lo := ⟨_, rfl⟩
                    obtain ⟨hi', hhi⟩ : ∃ hi', hi' = r.hi := ⟨_, rfl⟩
                    rw [← hlo] at e7 hB hv
                    rw [← hhi] at e8 hB hv
                    rw [← hwt] at e2 hB hv
                    have hpe : plErr n rs pl k = if v = false then 21 else 0 := by
                      have h9 := HM.out
                      rw [plErr_in HXX.out hsy (inR_true.2 (by omega)), ← hrr, ← hlo, ← hhi, ← hwt, ← hv]
                    have HPE := Lib.hid hpe
                    have HB := Lib.hid hB
                    have gx : ((0 : Int) ≤ (t : Int)) = True := by simp
                    have ht1 : (t : Int) < (m : Int) := by omega
                    clear hcr hcs hrr hsy hv hpe hB hwt hlo hhi
                    cases v with
                    | true =>
                      go_wp2_with (go_at_call 47; refine (HA.out _).mono ?_; rintro e w' ⟨rfl, rfl⟩)
                      go_quiet ((go_at_call 47; exact Calls.quiet_of_same (flipW (HB.out _))))
                      go_wp2
                      go_roundw
                      case rel => exact ⟨k + 1, by omega, by go_num, BXS.out, below_drewN BLS.out _, fun j hj => by
                        rcases Nat.lt_or_ge j k with h | h
                        · exact HOKS.out j h
                        · have : j = k := by omega
                          subst this; rw [HPE.out]; rfl⟩
                      case measure => simp [intOf]; omega
                    | false =>
                      go_wp2_with (go_at_call 47; refine (HA.out _).mono ?_; rintro e w' ⟨rfl, rfl⟩)
                      go_quiet ((go_at_call 47; exact Calls.quiet_of_same (flipW (HB.out _))))
                      go_wp2
                      go_ret
                      have h8 : plErr n rs pl k = 21 := by rw [HPE.out]; rfl
                      exact ⟨by rw [HREST.out, firstNz_at HOKS.out (by rw [h8]; decide) _ (by have := HQ.out; omega), h8]; rfl, below_drewN BLS.out _⟩
                  · have gx : ((0 : Int) ≤ x) = False := by simp; omega
                    have hpe : plErr n rs pl k = 0 := by
                      have h9 := HM.out
                      unfold plErr
                      rw [HXX.out]
                      simp only [Option.getD_some]
                      rw [if_pos (inR_true.2 (by omega)), if_neg (by omega)]
                    have HPE := Lib.hid hpe
                    clear hpe hx0 hx01
                    go_wp2_with (go_at_call 47; refine (HA.out _).mono ?_; rintro e w' ⟨rfl, rfl⟩)
                    go_quiet (fail)
                    go_wp2
                    go_roundw
                    case rel => exact ⟨k + 1, by omega, by go_num, BXS.out, below_drewN BLS.out _, fun j hj => by
                      rcases Nat.lt_or_ge j k with h | h
                      · exact HOKS.out j h
                      · have : j = k := by omega
                        subst this; exact HPE.out⟩
                    case measure => simp [intOf]; omega
                · have hin' : inR x (-1) ((m : Int) - 1) = false := by simpa using hin
                  rw [hin'] at hA
                  have hpe : plErr n rs pl k = 3 := by
                    have h9 := HM.out
                    unfold plErr
                    rw [HXX.out]
                    simp only [Option.getD_some]
                    rw [← h9, if_neg hin]
                  have HPE := Lib.hid hpe
                  have HA := Lib.hid hA
                  clear hA hin hin' hpe
                  go_wp2_with (go_at_call 47; refine (HA.out _).mono ?_; rintro e w' ⟨rfl, rfl⟩)
                  go_ret
                  exact ⟨by rw [HREST.out, firstNz_at HOKS.out (by rw [HPE.out]; decide) _ (by have := HQ.out; omega), HPE.out]; rfl, BLS.out⟩
              · have hkq : q = k := by omega
                clear hlt hk
                subst hkq
                go_wp2
                go_ret
                exact ⟨by rw [HREST.out, firstNz_zero _ (by have h9 := HOKS.out; have h8 := HQ.out; intro j hj; exact h9 j (by omega))]; rfl, BLS.out⟩
          · have g2 : ((q : Int) != (s : Int)) = true := by simp; omega
            have HSH := Lib.hid hsh
            clear hsh
            obtain ⟨v0, v1, v2, _⟩ := cells3f BXR.out
            go_wp2
            go_ret
            exact ⟨by rw [HX.out, lcheck_shape HE.out.symm (by have := HM.out; omega) (by have h9 := HOK.out; have h8 := HM.out; intro j hj; exact h9 j (by omega)) (by have := HQ.out; have := HSN.out; have := HSH.out; omega)]; rfl, BLR.out⟩
  · have hne : (E != 0) = true := by simp [h0]
    have H0 := Lib.hid h0
    clear h0
    go_enter Try.func16, Try.ntmps16
    go_wp2_with (go_at_call 45; refine hnc.mono ?_; rintro e w1 ⟨rfl, hb1⟩)
    go_ret
    exact ⟨by rw [HX.out, lcheck_net (by rw [← HE.out]; exact H0.out), ← HE.out]; rfl, ((Below.refl _ _).alloc (Nat.le_refl _) _).trans (hb1.mono (by simp))⟩
end Go.Proofs.Ytipodippfddlpaa.Lrn
