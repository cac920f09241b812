/- The specification's Resume. Over this seat's program. -/
import Derived.Test.YtgbcdebnanejpaaU3
import Derived.BigQuiet
namespace Go.Proofs.Ytgbcdebnanejpaa
set_option linter.unusedVariables false
open Go.RowKit Go.Shelf

def RResOut (n : NetM) (x : ImgM) (a1 a2 : Option Addr) (c1 c2 : Nat) (w : World) (e : Ending) (w' : World) : Prop :=
  ∃ p, e = .returned (.tuple #[p, .int .i64 (resErr n x)]) ∧ Below w.heap.size w w' ∧ (resErr n x ≠ 0 → p = .pointer none) ∧
    (resErr n x = 0 → ∃ z : RZ, p = .pointer (some ⟨z.bs, 0, none⟩) ∧ RefAt n w' w.heap.size z a1 a2 c1 c2 x.tk.toNat x.tk.toNat x.st (dueK x.tk.toNat x.du 16))

set_option maxRecDepth 100000 in
set_option maxHeartbeats 8000000 in
theorem rresume_any (n : NetM) (x : ImgM) (a1 a2 a3 a4 : Option Addr) (c1 c2 c3 c4 : Nat) (w : World) (hp : PsAt w (.slice a1 n.ps.length c1) n.ps) (hs : SsAt w (.slice a2 n.ss.length c2) n.ss) (hst : StsAt w (.slice a3 x.st.length c3) x.st) (hdu : RowsIn w (.slice a4 x.du.length c4) x.du) :
    Calls Try.prog 42 #[.agg #[.slice a1 n.ps.length c1, .int .i64 n.inp, .slice a2 n.ss.length c2], .agg #[.int .i64 x.tk, .slice a3 x.st.length c3, .slice a4 x.du.length c4]] w (RResOut n x a1 a2 c1 c2 w) := by
  obtain ⟨E1, hE1⟩ : ∃ E, E = ncheck n := ⟨_, rfl⟩
  have hck := fun W (hb : Below w.heap.size w W) => rncheck_any n a1 a2 c1 c2 W (hp.below hb) (hs.below hb)
  rw [← hE1] at hck
  have hb0 : Below w.heap.size w ((w.alloc (.cells #[.slice a1 n.ps.length c1, .int .i64 n.inp, .slice a2 n.ss.length c2] 25)).alloc (.cells #[.int .i64 x.tk, .slice a3 x.st.length c3, .slice a4 x.du.length c4] 70)) := ((Below.refl _ _).alloc (Nat.le_refl _) _).alloc (by simp) _
  have hbb := boxed2 w 70 (.slice a1 n.ps.length c1) (.slice a2 n.ss.length c2) (.slice a3 x.st.length c3) (.slice a4 x.du.length c4) n.inp x.tk
  obtain ⟨X, hX⟩ : ∃ X, X = resErr n x := ⟨_, rfl⟩
  have HXR := Lib.hid hX
  unfold resErr at hX
  rw [← hE1] at hX
  unfold RResOut
  rw [← HXR.out]
  have HB0 := Lib.hid hb0
  have HBB := Lib.hid hbb
  have HCK := Lib.hid hck
  have HE1 := Lib.hid hE1
  have HP := Lib.hid hp
  have HS0 := Lib.hid hs
  have HST := Lib.hid hst
  have HDU := Lib.hid hdu
  clear hp hs hst hdu hE1 hck hb0 hbb
  by_cases hz1 : E1 = 0
  · have g1 : (E1 != 0) = false := by simp [hz1]
    have hok : NetOk n := netOk_of (by rw [← HE1.out]; exact hz1)
    have HOK := Lib.hid hok
    have HZ1 := Lib.hid hz1
    rw [if_neg (by simp [hz1])] at hX
    unfold imgErr at hX
    obtain ⟨N, hN⟩ : ∃ N, N = n.ps.length := ⟨_, rfl⟩
    have hN1 : N ≤ 1024 := by rw [hN]; exact hok.p1
    have hN0 : 1 ≤ N := by rw [hN]; exact hok.p0
    obtain ⟨m, hm⟩ : ∃ m, m = x.st.length := ⟨_, rfl⟩
    obtain ⟨q, hq⟩ : ∃ q, q = x.du.length := ⟨_, rfl⟩
    rw [← hN, ← hm, ← hq] at hX HBB HB0
    rw [← hN] at HCK HP
    rw [← hm] at HST
    rw [← hq] at HDU
    rw [← hN, ← hm, ← hq]
    have HN := Lib.hid hN
    have HM := Lib.hid hm
    have HQ := Lib.hid hq
    clear hz1 hok hN hm hq
    by_cases hk1 : x.tk < 0
    · have q1 : (x.tk < 0) = True := eq_true hk1
      rw [if_pos (inR_false.2 (.inl hk1))] at hX
      subst hX
      clear hk1
      go_enter Try.func42, Try.ntmps42
      go_upto_region 2 with (go_at_call 20; refine (HCK.out _ HB0.out).mono ?_; rintro e w1 ⟨rfl, hb1⟩; have hbb1 := HBB.out.below hb1; obtain ⟨_, _, _⟩ := cells3 hbb1.net; obtain ⟨_, _, _⟩ := cells3 hbb1.img; have HB1 := Lib.hid (HB0.out.trans (hb1.mono HB0.out.size)); have HBB1 := Lib.hid hbb1; clear hb1 hbb1)
      go_wp2
      go_ret2
      exact ⟨_, rfl, HB1.out, fun _ => rfl, fun h => absurd h (by decide)⟩
    · have q1 : (x.tk < 0) = False := eq_false hk1
      by_cases hk2 : 10000 < x.tk
      · have q2 : ((10000 : Int) < x.tk) = True := eq_true hk2
        rw [if_pos (inR_false.2 (.inr hk2))] at hX
        subst hX
        clear hk1 hk2
        go_enter Try.func42, Try.ntmps42
        go_upto_region 2 with (go_at_call 20; refine (HCK.out _ HB0.out).mono ?_; rintro e w1 ⟨rfl, hb1⟩; have hbb1 := HBB.out.below hb1; obtain ⟨_, _, _⟩ := cells3 hbb1.net; obtain ⟨_, _, _⟩ := cells3 hbb1.img; have HB1 := Lib.hid (HB0.out.trans (hb1.mono HB0.out.size)); have HBB1 := Lib.hid hbb1; clear hb1 hbb1)
        go_wp2
        go_ret2
        exact ⟨_, rfl, HB1.out, fun _ => rfl, fun h => absurd h (by decide)⟩
      · have q2 : ((10000 : Int) < x.tk) = False := eq_false hk2
        rw [if_neg (by rw [inR_false]; omega)] at hX
        have HTK := Lib.hid (⟨by omega, by omega⟩ : 0 ≤ x.tk ∧ x.tk ≤ 10000)
        clear hk1 hk2
        by_cases hmN : m = N
        · rw [if_neg (by omega)] at hX
          by_cases hq6 : q = 16
          · rw [if_neg (by omega)] at hX
            have hX1 := Lib.hid hX
            clear hX
            subst hmN
            subst hq6
            have g2 : ((m : Int) != (m : Int)) = false := by simp
            go_enter Try.func42, Try.ntmps42
            go_upto_region 2 with (go_at_call 20; refine (HCK.out _ HB0.out).mono ?_; rintro e w1 ⟨rfl, hb1⟩; have hbb1 := HBB.out.below hb1; obtain ⟨_, _, _⟩ := cells3 hbb1.net; obtain ⟨_, _, _⟩ := cells3 hbb1.img; have HB1 := Lib.hid (HB0.out.trans (hb1.mono HB0.out.size)); have HBB1 := Lib.hid hbb1; clear hb1 hbb1)
            go_wp2
            clear HBB HB0
            have hkB := HB1.out
            go_loopw [7] (fun i wr => ∃ k : Nat, k ≤ 16 ∧ i = .int .i64 k ∧ Below w1.heap.size w1 wr ∧ ∀ j r, j < k → x.du[j]? = some r → r.length = m) (fun i _ => 16 - (intOf i).toNat)
            case atStart => exact ⟨0, Nat.zero_le _, rfl, Below.refl _ _, fun j r h => by omega⟩
            case round =>
              obtain ⟨k, hk, rfl, hb, hg⟩ := hrel
              have hk0 : (0 : Int) ≤ (k : Int) := Int.natCast_nonneg _
              have hbw := HB1.out.trans (hb.mono HB1.out.size)
              obtain ⟨_, _, _⟩ := cells3 (HBB1.out.below hb).net
              obtain ⟨_, _, _⟩ := cells3 (HBB1.out.below hb).img
              have HB := Lib.hid hb
              have HG := Lib.hid hg
              have HBW := Lib.hid hbw
              by_cases hlt : k < 16
              · have hk1 : (k : Int) < 16 := by omega
                have hkT : ((k : Int) < 16) = True := by simp; omega
                obtain ⟨r, hr⟩ : ∃ r, x.du[k]? = some r := ⟨_, List.getElem?_eq_getElem (by rw [← HQ.out]; exact hlt)⟩
                obtain ⟨b, off, a', c', rfl, hbl, hc, _⟩ := HDU.out.at hr
                have hcb := ((hbw.cell (p := ⟨b, off + k, none⟩) hbl).trans hc)
                have HR := Lib.hid hr
                clear hb hg hr hc hbw hkB
                obtain ⟨L, hL⟩ : ∃ L, L = r.length := ⟨_, rfl⟩
                rw [← hL] at hcb
                have HL := Lib.hid hL
                clear hL
                by_cases hLm : L = m
                · subst hLm
                  go_wp2
                  go_quiet (fail)
                  go_wp2
                  go_roundw
                  case rel =>
                    refine ⟨k + 1, by omega, by go_num, (by repeat (first | exact HB.out | refine below_drewN ?_ _ | refine Below.drew ?_)), fun j r' h1 h2 => ?_⟩
                    by_cases e : j = k
                    · subst e; rw [HR.out] at h2; cases h2; exact HL.out.symm
                    · exact HG.out j r' (by omega) h2
                  case measure => simp [intOf]; omega
                · have g3 : ((L : Int) != (m : Int)) = true := by simp; omega
                  go_wp2
                  go_quiet (fail)
                  go_wp2
                  go_ret2
                  have hX : X = 13 := by rw [hX1.out, if_pos (allAt HR.out (by simp only [decide_eq_false_iff_not]; rw [← HL.out]; exact hLm))]
                  exact ⟨_, by rw [hX]; rfl, (by repeat (first | exact HBW.out | refine below_drewN ?_ _ | refine Below.drew ?_)), fun _ => rfl, fun h => absurd (hX.symm.trans h) (by decide)⟩
              · have hkF : ((k : Int) < 16) = False := by simp; omega
                have HK6 : Hid (k = 16) := Lib.hid (by omega)
                have hX2 : X = if stGood n.ps x.st = false then 3 else if (x.du.all rowGood) = false then 3 else 0 := by
                  rw [hX1.out, if_neg]
                  rw [allTo fun j r h1 h2 => by simpa [← HN.out] using hg j r (by rw [← HQ.out] at h1; omega) h2]
                  simp
                have HX2 := Lib.hid hX2
                clear hX1 hX2 hlt hbw hg hb
                go_wp2
                have HG0 := Lib.hid (fun j r (h1 : j < 16) h2 => HG.out j r (by have := HK6.out; omega) h2)
                clear hk hk0 hkF HG
                have hz0 := lt_of_block HBB1.out.img
                go_loopw [8] (fun i wr => ∃ k : Nat, k ≤ m ∧ i = .int .i64 k ∧ Below w1.heap.size w1 wr ∧ ∀ j, j < k → validP (pAt n.ps j) (sAt x.st j).1 (sAt x.st j).2 = 0) (fun i _ => m - (intOf i).toNat)
                case atStart => exact ⟨0, Nat.zero_le _, rfl, HB.out, fun j h => by omega⟩
                case round =>
                  obtain ⟨k, hk, rfl, hb, hg⟩ := hrel
                  have hk0 : (0 : Int) ≤ (k : Int) := Int.natCast_nonneg _
                  have hbw := HB1.out.trans (hb.mono HB1.out.size)
                  have hzr := hb.size
                  obtain ⟨_, _, _⟩ := cells3 (HBB1.out.below hb).net
                  obtain ⟨_, _, _⟩ := cells3 (HBB1.out.below hb).img
                  have HB := Lib.hid hb
                  have HG := Lib.hid hg
                  have HBW := Lib.hid hbw
                  by_cases hlt : k < m
                  · have hk1 : (k : Int) < (m : Int) := by omega
                    have hkT : ((k : Int) < (m : Int)) = True := by simp; omega
                    obtain ⟨p, hp⟩ : ∃ p, n.ps[k]? = some p := ⟨_, List.getElem?_eq_getElem (by rw [← HN.out]; exact hlt)⟩
                    have hs : x.st[k]? = some (sAt x.st k) := by simp [sAt, ← HM.out, hlt]
                    obtain ⟨b, off, rfl, hbl, hc1, hc2⟩ := HST.out.at hs
                    obtain ⟨pb, po, rfl, hpl, hpc⟩ := HP.out.at hp
                    have hpA : pAt n.ps k = p := by simp [pAt, hp]
                    have hv := fun W => rvalid_any p (sAt x.st k).1 (sAt x.st k).2 W
                    obtain ⟨E, hE⟩ : ∃ E, E = validP p (sAt x.st k).1 (sAt x.st k).2 := ⟨_, rfl⟩
                    rw [← hE] at hv
                    have hE3 : E = 0 ∨ (E ≠ 0 ∧ E = 3) := by
                      have hc0 := HOK.out.ps p (List.mem_of_getElem? hp)
                      rw [hE]
                      unfold validP
                      rw [if_pos hc0]
                      split
                      · exact .inl rfl
                      · exact .inr ⟨by decide, rfl⟩
                    obtain ⟨V, hV⟩ : ∃ V, V = (sAt x.st k).1 := ⟨_, rfl⟩
                    obtain ⟨R, hR⟩ : ∃ R, R = (sAt x.st k).2 := ⟨_, rfl⟩
                    rw [← hV, ← hR] at hv
                    rw [← hV] at hc1
                    rw [← hR] at hc2
                    have hcb1 := (hbw.cell (p := ⟨b, off + k * 2, none⟩) hbl).trans hc1
                    have hcb2 := (hbw.cell (p := ⟨b, off + k * 2 + 1, none⟩) hbl).trans hc2
                    have HC1 := Lib.hid hcb1
                    have HC2 := Lib.hid hcb2
                    have hpc1 := hpc.below hbw hpl
                    have HPC := Lib.hid hpc1
                    obtain ⟨_, _, _, _, _, _, _, _⟩ := hpc1
                    have HV := Lib.hid hv
                    have HE : Hid (E = validP (pAt n.ps k) (sAt x.st k).1 (sAt x.st k).2) := Lib.hid (by rw [hpA]; exact hE)
                    have hzb : b < wr.heap.size := by have := hbw.size; omega
                    have hzp : pb < wr.heap.size := by have := hbw.size; omega
                    have hz1 : w.heap.size < wr.heap.size := by omega
                    have hz2 : w.heap.size + 1 < wr.heap.size := by omega
                    clear hb hg hbw hv hE hV hR hc1 hc2 hpc hpA hp hs
                    rcases hE3 with hE0 | ⟨hE0, hE3⟩
                    · have gg : (E != 0) = false := by simp [hE0]
                      have HE0 := Lib.hid hE0
                      clear hE0
                      go_upto_region 16 with (fail)
                      go_region_held3 (fun w' => w'.cell? ⟨w.heap.size, 0, none⟩ = some (.slice (some ⟨pb, po, none⟩) m c1) ∧ w'.cell? ⟨w.heap.size + 1, 1, none⟩ = some (.slice (some ⟨b, off, none⟩) m c3) ∧ w'.cell? ⟨pb, po + k * 8, none⟩ = some (.int .i64 p.lk) ∧ w'.cell? ⟨pb, po + k * 8 + 1, none⟩ = some (.int .i64 p.lv) ∧ w'.cell? ⟨pb, po + k * 8 + 2, none⟩ = some (.int .i64 p.bi) ∧ w'.cell? ⟨pb, po + k * 8 + 3, none⟩ = some (.int .i64 p.th) ∧ w'.cell? ⟨pb, po + k * 8 + 4, none⟩ = some (.int .i64 p.rk) ∧ w'.cell? ⟨pb, po + k * 8 + 5, none⟩ = some (.int .i64 p.rs) ∧ w'.cell? ⟨pb, po + k * 8 + 6, none⟩ = some (.int .i64 p.fl) ∧ w'.cell? ⟨pb, po + k * 8 + 7, none⟩ = some (.int .i64 p.re) ∧ w'.cell? ⟨b, off + k * 2, none⟩ = some (.int .i64 V) ∧ w'.cell? ⟨b, off + k * 2 + 1, none⟩ = some (.int .i64 R)) (first | (go_keep; done) | fail) ((go_at_call 83; refine (HV.out _).mono ?_; rintro e w6 ⟨rfl, hb6⟩; have q6 : Below wr.heap.size wr w6 := ⟨hb6.os, hb6.tape, hb6.output, hb6.size, hb6.block⟩; obtain ⟨_, _, _, _, _, _, _, _⟩ := HPC.out.below q6 hzp; obtain ⟨_, _, _⟩ := cells3 ((HBB1.out.below HB.out).below q6).net; obtain ⟨_, _, _⟩ := cells3 ((HBB1.out.below HB.out).below q6).img; have hs6 := (World.cell?_of_block (a := ⟨b, off + k * 2, none⟩) (q6.block b hzb)).trans HC1.out; have hs7 := (World.cell?_of_block (a := ⟨b, off + k * 2 + 1, none⟩) (q6.block b hzb)).trans HC2.out; have Q6 := Lib.hid q6; clear hb6 q6))
                      go_wp2
                      go_roundw
                      case rel =>
                        refine ⟨k + 1, by omega, by go_num, HB.out.trans (Q6.out.mono HB.out.size), fun j h1 => ?_⟩
                        by_cases e : j = k
                        · subst e; rw [← HE.out]; exact HE0.out
                        · exact HG.out j (by omega)
                      case measure => simp [intOf]; omega
                    · have gg : (E != 0) = true := by simp [hE0]
                      have HE0 := Lib.hid hE0
                      have HE3 := Lib.hid hE3
                      clear hE0 hE3
                      go_upto_region 16 with (fail)
                      go_region_held3 (fun w' => w'.cell? ⟨w.heap.size, 0, none⟩ = some (.slice (some ⟨pb, po, none⟩) m c1) ∧ w'.cell? ⟨w.heap.size + 1, 1, none⟩ = some (.slice (some ⟨b, off, none⟩) m c3) ∧ w'.cell? ⟨pb, po + k * 8, none⟩ = some (.int .i64 p.lk) ∧ w'.cell? ⟨pb, po + k * 8 + 1, none⟩ = some (.int .i64 p.lv) ∧ w'.cell? ⟨pb, po + k * 8 + 2, none⟩ = some (.int .i64 p.bi) ∧ w'.cell? ⟨pb, po + k * 8 + 3, none⟩ = some (.int .i64 p.th) ∧ w'.cell? ⟨pb, po + k * 8 + 4, none⟩ = some (.int .i64 p.rk) ∧ w'.cell? ⟨pb, po + k * 8 + 5, none⟩ = some (.int .i64 p.rs) ∧ w'.cell? ⟨pb, po + k * 8 + 6, none⟩ = some (.int .i64 p.fl) ∧ w'.cell? ⟨pb, po + k * 8 + 7, none⟩ = some (.int .i64 p.re) ∧ w'.cell? ⟨b, off + k * 2, none⟩ = some (.int .i64 V) ∧ w'.cell? ⟨b, off + k * 2 + 1, none⟩ = some (.int .i64 R)) (first | (go_keep; done) | fail) ((go_at_call 83; refine (HV.out _).mono ?_; rintro e w6 ⟨rfl, hb6⟩; have q6 : Below wr.heap.size wr w6 := ⟨hb6.os, hb6.tape, hb6.output, hb6.size, hb6.block⟩; obtain ⟨_, _, _, _, _, _, _, _⟩ := HPC.out.below q6 hzp; obtain ⟨_, _, _⟩ := cells3 ((HBB1.out.below HB.out).below q6).net; obtain ⟨_, _, _⟩ := cells3 ((HBB1.out.below HB.out).below q6).img; have hs6 := (World.cell?_of_block (a := ⟨b, off + k * 2, none⟩) (q6.block b hzb)).trans HC1.out; have hs7 := (World.cell?_of_block (a := ⟨b, off + k * 2 + 1, none⟩) (q6.block b hzb)).trans HC2.out; have Q6 := Lib.hid q6; clear hb6 q6))
                      go_wp2
                      go_ret2
                      have hX : X = E := by rw [HX2.out, if_pos (stGood_bad (k := k) (by rw [← HM.out]; exact hlt) (by rw [← HE.out]; exact HE0.out)), HE3.out]
                      exact ⟨_, by rw [hX]; rfl, HBW.out.trans (Q6.out.mono HBW.out.size), fun _ => rfl, fun h => absurd (hX.symm.trans h) HE0.out⟩
                  · have hkF : ((k : Int) < (m : Int)) = False := by simp; omega
                    have hX3 : X = if (x.du.all rowGood) = false then 3 else 0 := by
                      rw [HX2.out, if_neg]
                      rw [stGood_to fun j h1 => hg j (by rw [← HM.out] at h1; omega)]
                      simp
                    have HX3 := Lib.hid hX3
                    clear HX2 hX3 hbw hg hb hlt
                    go_wp2
                    clear hk hk0 hkF HG
                    go_loopw [9] (fun i wr => ∃ k : Nat, k ≤ 16 ∧ i = .int .i64 k ∧ Below w1.heap.size w1 wr ∧ ∀ j r, j < k → x.du[j]? = some r → rowGood r = true) (fun i _ => 16 - (intOf i).toNat)
                    case atStart => exact ⟨0, Nat.zero_le _, rfl, HB.out, fun j r h => by omega⟩
                    case round =>
                      obtain ⟨k, hk, rfl, hb, hg⟩ := hrel
                      have hk0 : (0 : Int) ≤ (k : Int) := Int.natCast_nonneg _
                      have hbw := HB1.out.trans (hb.mono HB1.out.size)
                      obtain ⟨_, _, _⟩ := cells3 (HBB1.out.below hb).net
                      obtain ⟨_, _, _⟩ := cells3 (HBB1.out.below hb).img
                      have HB := Lib.hid hb
                      have HG3 := Lib.hid hg
                      have HBW := Lib.hid hbw
                      by_cases hlt : k < 16
                      · have hk1 : (k : Int) < 16 := by omega
                        have hkT : ((k : Int) < 16) = True := by simp; omega
                        obtain ⟨r, hr⟩ : ∃ r, x.du[k]? = some r := ⟨_, List.getElem?_eq_getElem (by rw [← HQ.out]; exact hlt)⟩
                        obtain ⟨b, off, a', c', rfl, hbl, hc, hri⟩ := HDU.out.at hr
                        have hrl : r.length = m := HG0.out k r hlt hr
                        rw [hrl] at hc hri
                        have HC := Lib.hid hc
                        have HRI := Lib.hid hri
                        have HR := Lib.hid hr
                        have HRL := Lib.hid hrl
                        clear hb hg hr hc hbw hri hrl hkT
                        have hkT : ((k : Int) < 16) = True := by simp; omega
                        have HBR := HB
                        go_wp2
                        clear hkT
                        go_loopw [10] (fun i wr => ∃ i' : Nat, i' ≤ m ∧ i = .int .i64 i' ∧ Below w1.heap.size w1 wr ∧ ∀ j d, j < i' → r[j]? = some d → inR d (-268435456) 268435456 = true) (fun i _ => m - (intOf i).toNat)
                        case atStart => exact ⟨0, Nat.zero_le _, rfl, HBR.out, fun j d h => by omega⟩
                        case round =>
                          obtain ⟨i, hi, rfl, hb, hg⟩ := hrel
                          have hi0 : (0 : Int) ≤ (i : Int) := Int.natCast_nonneg _
                          have hbw := HB1.out.trans (hb.mono HB1.out.size)
                          obtain ⟨_, _, _⟩ := cells3 (HBB1.out.below hb).net
                          obtain ⟨_, _, _⟩ := cells3 (HBB1.out.below hb).img
                          have hcb := ((hbw.cell (p := ⟨b, off + k, none⟩) hbl).trans HC.out)
                          have HB := Lib.hid hb
                          have HBW := Lib.hid hbw
                          have HG := Lib.hid hg
                          by_cases hlt2 : i < m
                          · have hi1 : (i : Int) < (m : Int) := by omega
                            have hiT : ((i : Int) < (m : Int)) = True := by simp; omega
                            obtain ⟨d, hd⟩ : ∃ d, r[i]? = some d := ⟨_, List.getElem?_eq_getElem (by rw [HRL.out]; exact hlt2)⟩
                            obtain ⟨ad, rfl, _, hcd⟩ := (HRI.out.below hbw).at hd
                            have HDD := Lib.hid hd
                            clear hd hg hb hbw
                            by_cases hd1 : d < -268435456
                            · have d1 : (d < -268435456) = True := eq_true hd1
                              have HF := Lib.hid (inR_false.2 (.inl hd1) : inR d (-268435456) 268435456 = false)
                              clear hd1
                              go_wp2
                              go_ret2
                              have hX : X = 3 := by rw [HX3.out, if_pos (allAt HR.out (allAt HDD.out HF.out))]
                              exact ⟨_, by rw [hX]; rfl, HBW.out, fun _ => rfl, fun h => absurd (hX.symm.trans h) (by decide)⟩
                            · have d1 : (d < -268435456) = False := eq_false hd1
                              by_cases hd2 : 268435456 < d
                              · have d2 : ((268435456 : Int) < d) = True := eq_true hd2
                                have HF := Lib.hid (inR_false.2 (.inr hd2) : inR d (-268435456) 268435456 = false)
                                clear hd1 hd2
                                go_wp2
                                go_ret2
                                have hX : X = 3 := by rw [HX3.out, if_pos (allAt HR.out (allAt HDD.out HF.out))]
                                exact ⟨_, by rw [hX]; rfl, HBW.out, fun _ => rfl, fun h => absurd (hX.symm.trans h) (by decide)⟩
                              · have d2 : ((268435456 : Int) < d) = False := eq_false hd2
                                have HT := Lib.hid (inR_true.2 ⟨by omega, by omega⟩ : inR d (-268435456) 268435456 = true)
                                clear hd1 hd2
                                go_wp2
                                go_roundw
                                case rel =>
                                  refine ⟨i + 1, by omega, by go_num, HB.out, fun j d' h1 h2 => ?_⟩
                                  by_cases e : j = i
                                  · subst e; rw [HDD.out] at h2; cases h2; exact HT.out
                                  · exact HG.out j d' (by omega) h2
                                case measure => simp [intOf]; omega
                          · have hiF : ((i : Int) < (m : Int)) = False := by simp; omega
                            have hrg : rowGood r = true := allTo fun j d h1 h2 => hg j d (by rw [HRL.out] at h1; omega) h2
                            have HRG := Lib.hid hrg
                            clear hrg hb hg hbw hlt2
                            go_wp2
                            go_roundw
                            case rel =>
                              refine ⟨k + 1, by omega, by go_num, HB.out, fun j r' h1 h2 => ?_⟩
                              by_cases e : j = k
                              · subst e; rw [HR.out] at h2; cases h2; exact HRG.out
                              · exact HG3.out j r' (by omega) h2
                            case measure => simp [intOf]; omega
                      · have hkF : ((k : Int) < 16) = False := by simp; omega
                        have hX4 : X = 0 := by
                          rw [HX3.out, if_neg]
                          rw [allTo fun j r h1 h2 => hg j r (by rw [← HQ.out] at h1; omega) h2]
                          simp
                        have HX4 := Lib.hid hX4
                        have hzr := hb.size
                        clear hX4 hlt hg hb hbw
                        go_upto_region 28 with (fail)
                        have hbA : Below w.heap.size w (wr.alloc (.cells #[.slice a1 m c1, .int .i64 n.inp, .slice a2 n.ss.length c2, .int .i64 x.tk, .slice a3 m c3, .slice a4 16 c4] 64)) := HBW.out.alloc HBW.out.size _
                        have hnA : (wr.alloc (.cells #[.slice a1 m c1, .int .i64 n.inp, .slice a2 n.ss.length c2, .int .i64 x.tk, .slice a3 m c3, .slice a4 16 c4] 64)).heap[wr.heap.size]? = some (.cells #[.slice a1 m c1, .int .i64 n.inp, .slice a2 n.ss.length c2, .int .i64 x.tk, .slice a3 m c3, .slice a4 16 c4] 64) := alloc_new_at _ _ _ rfl
                        have hsA : (wr.alloc (.cells #[.slice a1 m c1, .int .i64 n.inp, .slice a2 n.ss.length c2, .int .i64 x.tk, .slice a3 m c3, .slice a4 16 c4] 64)).heap.size = wr.heap.size + 1 := by simp
                        generalize wr.alloc (.cells #[.slice a1 m c1, .int .i64 n.inp, .slice a2 n.ss.length c2, .int .i64 x.tk, .slice a3 m c3, .slice a4 16 c4] 64) = WA at *
                        have hcp := rcopy_any n m HN.out.symm hN0 hN1 x.tk.toNat wr.heap.size x.tk (by have := HTK.out; omega) x.st x.du a1 a2 a3 a4 c1 c2 c3 c4 HM.out.symm HQ.out.symm (fun k r hr => HG0.out k r (by have := (List.getElem?_eq_some_iff.1 hr).1; rw [← HQ.out] at this; exact this) hr) WA (HP.out.below hbA) (HS0.out.below hbA) hnA (HST.out.below hbA) (HDU.out.below hbA)
                        have HCP := Lib.hid hcp
                        have HBA := Lib.hid hbA
                        clear hcp hbA hnA
                        go_wp2_with (go_at_call 81; refine HCP.out.mono ?_; rintro e w6 ⟨z, rfl, hr, hb6⟩; have HRF := Lib.hid hr; have HB6 := Lib.hid hb6; clear hr hb6)
                        go_ret2
                        refine ⟨_, by rw [HX4.out]; rfl, HBA.out.trans (HB6.out.mono HBA.out.size), fun h => absurd HX4.out h, fun _ => ⟨z, rfl, HRF.out.lowerB HBA.out.size (fun g hg => ?_) (fun g hg => ?_)⟩⟩
                        · rw [← HN.out] at hg
                          exact HP.out.blk g hg
                        · exact HS0.out.blk g hg
          · rw [if_pos (by omega)] at hX
            subst hX
            subst hmN
            have g3 : ((q : Int) != 16) = true := by simp; omega
            go_enter Try.func42, Try.ntmps42
            go_upto_region 2 with (go_at_call 20; refine (HCK.out _ HB0.out).mono ?_; rintro e w1 ⟨rfl, hb1⟩; have hbb1 := HBB.out.below hb1; obtain ⟨_, _, _⟩ := cells3 hbb1.net; obtain ⟨_, _, _⟩ := cells3 hbb1.img; have HB1 := Lib.hid (HB0.out.trans (hb1.mono HB0.out.size)); have HBB1 := Lib.hid hbb1; clear hb1 hbb1)
            go_wp2
            go_ret2
            exact ⟨_, rfl, HB1.out, fun _ => rfl, fun h => absurd h (by decide)⟩
        · rw [if_pos (by omega)] at hX
          subst hX
          have g3 : ((m : Int) != (N : Int)) = true := by simp; omega
          go_enter Try.func42, Try.ntmps42
          go_upto_region 2 with (go_at_call 20; refine (HCK.out _ HB0.out).mono ?_; rintro e w1 ⟨rfl, hb1⟩; have hbb1 := HBB.out.below hb1; obtain ⟨_, _, _⟩ := cells3 hbb1.net; obtain ⟨_, _, _⟩ := cells3 hbb1.img; have HB1 := Lib.hid (HB0.out.trans (hb1.mono HB0.out.size)); have HBB1 := Lib.hid hbb1; clear hb1 hbb1)
          go_wp2
          go_ret2
          exact ⟨_, rfl, HB1.out, fun _ => rfl, fun h => absurd h (by decide)⟩
  · have g1 : (E1 != 0) = true := by simp [hz1]
    rw [if_pos hz1] at hX
    subst hX
    have HZ1 := Lib.hid hz1
    clear hz1
    go_enter Try.func42, Try.ntmps42
    go_upto_region 2 with (go_at_call 20; refine (HCK.out _ HB0.out).mono ?_; rintro e w1 ⟨rfl, hb1⟩; have HB1 := Lib.hid (HB0.out.trans (hb1.mono HB0.out.size)); clear hb1)
    go_wp2
    go_ret2
    exact ⟨_, rfl, HB1.out, fun _ => rfl, fun h => absurd h HZ1.out⟩
end Go.Proofs.Ytgbcdebnanejpaa
namespace Go.Proofs.Ytgbcdebnanejpaa
set_option linter.unusedVariables false
open Go.RowKit Go.Shelf

set_option maxRecDepth 100000 in
set_option maxHeartbeats 4000000 in
theorem lequal_any (r : List Int) (n : Nat) (hn : r.length = n) (hl : n ≤ 1000000) (a b : Option Addr) (c d : Nat) (w : World) (ha : RowIn w (.slice a n c) r) (hb : RowIn w (.slice b n d) r) :
    Calls Try.prog 45 #[.slice a n c, .slice b n d] w fun e w' => e = .returned (.bool true) ∧ Below w.heap.size w w' := by
  have g1 : ((n : Int) != (n : Int)) = false := by simp
  have HA := Lib.hid ha
  have HB := Lib.hid hb
  have HN := Lib.hid hn
  clear ha hb hn
  go_enter Try.func45, Try.ntmps45
  go_wp2
  go_loopw [5] (fun i wr => ∃ k : Nat, k ≤ n ∧ i = .int .i64 k ∧ Below w.heap.size w wr) (fun i _ => n - (intOf i).toNat)
  case atStart => exact ⟨0, Nat.zero_le _, rfl, Below.refl _ _⟩
  case round =>
    obtain ⟨k, hk, rfl, hb⟩ := hrel
    have hk0 : (0 : Int) ≤ (k : Int) := Int.natCast_nonneg _
    have HBW := Lib.hid hb
    by_cases hlt : k < n
    · have hk1 : (k : Int) < (n : Int) := by omega
      have hkT : ((k : Int) < (n : Int)) = True := by simp; omega
      obtain ⟨x, hx⟩ : ∃ x, r[k]? = some x := ⟨_, List.getElem?_eq_getElem (by rw [HN.out]; exact hlt)⟩
      obtain ⟨ad, rfl, _, hc1⟩ := (HA.out.below hb).at hx
      obtain ⟨bd, rfl, _, hc2⟩ := (HB.out.below hb).at hx
      have gx : (x != x) = false := by simp
      clear hb hx
      go_wp2
      go_quiet (fail)
      go_wp2
      go_roundw
      case rel => exact ⟨k + 1, by omega, by go_num, (by repeat (first | exact HBW.out | refine below_drewN ?_ _ | refine Below.drew ?_))⟩
      case measure => simp [intOf]; omega
    · have hkF : ((k : Int) < (n : Int)) = False := by simp; omega
      clear hlt hb
      go_wp2
      go_ret
      exact ⟨rfl, HBW.out⟩
set_option maxRecDepth 100000 in
set_option maxHeartbeats 8000000 in
theorem sameImage_any (x : ImgM) (n : Nat) (hs : x.st.length = n) (hd : x.du.length = 16) (hr : ∀ (k : Nat) (r : List Int), x.du[k]? = some r → r.length = n) (hn : n ≤ 1024) (v u : Value) (w : World) (hv : ImgAt w v x) (hu : ImgAt w u x) :
    Calls Try.prog 39 #[v, u] w fun e w' => e = .returned (.bool true) ∧ Below w.heap.size w w' := by
  obtain ⟨v1, v2, rfl, hv1, hv2⟩ := hv
  obtain ⟨u1, u2, rfl, hu1, hu2⟩ := hu
  obtain ⟨a1, c1, rfl⟩ := hv1.form
  obtain ⟨a2, c2, rfl⟩ := hv2.form
  obtain ⟨a3, c3, rfl⟩ := hu1.form
  obtain ⟨a4, c4, rfl⟩ := hu2.form
  rw [hs] at hv1 hu1 ⊢
  rw [hd] at hv2 hu2 ⊢
  have hb0 : Below w.heap.size w ((w.alloc (.cells #[.int .i64 x.tk, .slice a1 n c1, .slice a2 16 c2] 66)).alloc (.cells #[.int .i64 x.tk, .slice a3 n c3, .slice a4 16 c4] 70)) := ((Below.refl _ _).alloc (Nat.le_refl _) _).alloc (by simp) _
  have hi1 : ImgBox ((w.alloc (.cells #[.int .i64 x.tk, .slice a1 n c1, .slice a2 16 c2] 66)).alloc (.cells #[.int .i64 x.tk, .slice a3 n c3, .slice a4 16 c4] 70)) w.heap.size 66 x.tk (.slice a1 n c1) (.slice a2 16 c2) := (Below.heap_alloc _ _ _ (by simp)).trans (alloc_new_at _ _ _ rfl)
  have hi2 : ImgBox ((w.alloc (.cells #[.int .i64 x.tk, .slice a1 n c1, .slice a2 16 c2] 66)).alloc (.cells #[.int .i64 x.tk, .slice a3 n c3, .slice a4 16 c4] 70)) (w.heap.size + 1) 70 x.tk (.slice a3 n c3) (.slice a4 16 c4) := alloc_new_at _ _ _ (by simp)
  have g1 : (x.tk != x.tk) = false := by simp
  have g2 : ((n : Int) != (n : Int)) = false := by simp
  have HV1 := Lib.hid hv1
  have HV2 := Lib.hid hv2
  have HU1 := Lib.hid hu1
  have HU2 := Lib.hid hu2
  have HS := Lib.hid hs
  have HD := Lib.hid hd
  have HR := Lib.hid hr
  have HB0 := Lib.hid hb0
  have HI1 := Lib.hid hi1
  have HI2 := Lib.hid hi2
  clear hv1 hv2 hu1 hu2 hb0 hi1 hi2 hd hr hs
  go_enter Try.func39, Try.ntmps39
  go_wp2
  generalize (w.alloc (.cells #[.int .i64 x.tk, .slice a1 n c1, .slice a2 16 c2] 66)).alloc (.cells #[.int .i64 x.tk, .slice a3 n c3, .slice a4 16 c4] 70) = W0 at *
  have hz1 := lt_of_block HI1.out
  have hz2 := lt_of_block HI2.out
  go_loopw [5] (fun i wr => ∃ k : Nat, k ≤ n ∧ i = .int .i64 k ∧ Below W0.heap.size W0 wr) (fun i _ => n - (intOf i).toNat)
  case atStart => exact ⟨0, Nat.zero_le _, rfl, Below.refl _ _⟩
  case round =>
    obtain ⟨k, hk, rfl, hb⟩ := hrel
    have hk0 : (0 : Int) ≤ (k : Int) := Int.natCast_nonneg _
    have HBW := Lib.hid hb
    have hbw := HB0.out.trans (hb.mono HB0.out.size)
    obtain ⟨_, _, _⟩ := cells3 ((hb.block _ hz1).trans HI1.out)
    obtain ⟨_, _, _⟩ := cells3 ((hb.block _ hz2).trans HI2.out)
    by_cases hlt : k < n
    · have hk1 : (k : Int) < (n : Int) := by omega
      have hkT : ((k : Int) < (n : Int)) = True := by simp; omega
      obtain ⟨⟨V, R⟩, hx⟩ : ∃ s, x.st[k]? = some s := ⟨_, List.getElem?_eq_getElem (by rw [HS.out]; exact hlt)⟩
      obtain ⟨b1, o1, rfl, _, e1, e2⟩ := (HV1.out.below hbw).at hx
      obtain ⟨b3, o3, rfl, _, e3, e4⟩ := (HU1.out.below hbw).at hx
      simp only at e1 e2 e3 e4
      have gV : (V != V) = false := by simp
      have gR : (R != R) = false := by simp
      clear hb hbw hx
      go_wp2
      go_quiet (fail)
      go_wp2
      go_roundw
      case rel => exact ⟨k + 1, by omega, by go_num, (by repeat (first | exact HBW.out | refine below_drewN ?_ _ | refine Below.drew ?_))⟩
      case measure => simp [intOf]; omega
    · have hkF : ((k : Int) < (n : Int)) = False := by simp; omega
      clear hlt hb hbw
      go_wp2
      clear hk hk0 hkF
      go_loopw [6] (fun i wr => ∃ k : Nat, k ≤ 16 ∧ i = .int .i64 k ∧ Below W0.heap.size W0 wr) (fun i _ => 16 - (intOf i).toNat)
      case atStart => exact ⟨0, Nat.zero_le _, rfl, HBW.out⟩
      case round =>
        obtain ⟨k, hk, rfl, hb⟩ := hrel
        have hk0 : (0 : Int) ≤ (k : Int) := Int.natCast_nonneg _
        have HBW := Lib.hid hb
        have hbw := HB0.out.trans (hb.mono HB0.out.size)
        obtain ⟨_, _, _⟩ := cells3 ((hb.block _ hz1).trans HI1.out)
        obtain ⟨_, _, _⟩ := cells3 ((hb.block _ hz2).trans HI2.out)
        by_cases hlt : k < 16
        · have hk1 : (k : Int) < 16 := by omega
          have hkT : ((k : Int) < 16) = True := by simp; omega
          obtain ⟨r, hx⟩ : ∃ s, x.du[k]? = some s := ⟨_, List.getElem?_eq_getElem (by rw [HD.out]; exact hlt)⟩
          have hrl := HR.out k r hx
          obtain ⟨b2, o2, ra, rc, rfl, hl2, e1, hr1⟩ := (HV2.out.below hbw).at hx
          obtain ⟨b4, o4, rb, rd, rfl, hl4, e2, hr2⟩ := (HU2.out.below hbw).at hx
          rw [hrl] at e1 e2 hr1 hr2
          have HR1 := Lib.hid hr1
          have HR2 := Lib.hid hr2
          have HRL := Lib.hid hrl
          have hz1r : w.heap.size < wr.heap.size := Nat.lt_of_lt_of_le hz1 hb.size
          have hz2r : w.heap.size + 1 < wr.heap.size := Nat.lt_of_lt_of_le hz2 hb.size
          have HC1 := Lib.hid e1
          have HC2 := Lib.hid e2
          clear hb hbw hx hrl hr1 hr2
          go_upto_region 11 with (fail)
          go_region_held3 (fun w' => w'.cell? ⟨w.heap.size, 2, none⟩ = some (.slice (some ⟨b2, o2, none⟩) 16 c2) ∧ w'.cell? ⟨w.heap.size + 1, 2, none⟩ = some (.slice (some ⟨b4, o4, none⟩) 16 c4) ∧ w'.cell? ⟨b2, o2 + k, none⟩ = some (.slice ra n rc) ∧ w'.cell? ⟨b4, o4 + k, none⟩ = some (.slice rb n rd)) (first | (go_keep; done) | fail) ((go_at_call 45; refine (lequal_any r n HRL.out (by omega) ra rb rc rd _ (HR1.out.below (by repeat (first | exact Below.refl _ _ | refine below_drewN ?_ _ | refine Below.drew ?_))) (HR2.out.below (by repeat (first | exact Below.refl _ _ | refine below_drewN ?_ _ | refine Below.drew ?_)))).mono ?_; rintro e w6 ⟨rfl, hb6⟩; have q6 : Below wr.heap.size wr w6 := ⟨hb6.os, hb6.tape, hb6.output, hb6.size, hb6.block⟩; obtain ⟨_, _, _⟩ := cells3 ((q6.block _ hz1r).trans ((HBW.out.block _ hz1).trans HI1.out)); obtain ⟨_, _, _⟩ := cells3 ((q6.block _ hz2r).trans ((HBW.out.block _ hz2).trans HI2.out)); have hs6 := (World.cell?_of_block (a := ⟨b2, o2 + k, none⟩) (q6.block b2 hl2)).trans HC1.out; have hs7 := (World.cell?_of_block (a := ⟨b4, o4 + k, none⟩) (q6.block b4 hl4)).trans HC2.out; have Q6 := Lib.hid q6; clear hb6 q6))
          go_wp2
          go_roundw
          case rel => exact ⟨k + 1, by omega, by go_num, HBW.out.trans (Q6.out.mono HBW.out.size)⟩
          case measure => simp [intOf]; omega
        · have hkF : ((k : Int) < 16) = False := by simp; omega
          clear hlt hb hbw
          go_wp2
          go_ret
          exact ⟨rfl, HB0.out.trans (HBW.out.mono HB0.out.size)⟩
end Go.Proofs.Ytgbcdebnanejpaa
namespace Go.Proofs.Ytgbcdebnanejpaa
set_option linter.unusedVariables false
open Go.RowKit Go.Shelf

theorem tick_rng {n : NetM} {t : Nat} {S : RunS} {ids : List Int} (h : ∀ a i, rng64 (S.due a i)) : ∀ a i, rng64 ((tickM n t S ids).due a i) := fun a i => by
  show rng64 ((_ ++ _ : List Int).foldl (sendM n.ss t) S.due a i)
  rw [sends_at, ← List.foldl_flatMap]
  exact foldP_rng _ (h a i)
theorem tick_zero {n : NetM} (hok : NetOk n) {t : Nat} {S : RunS} {ids : List Int} (h : ∀ a i, t + 16 ≤ a → S.due a i = 0) : ∀ a i, t + 1 + 16 ≤ a → (tickM n t S ids).due a i = 0 := fun a i ha => by
  show (_ ++ _ : List Int).foldl (sendM n.ss t) S.due a i = 0
  rw [sends_at, ← List.foldl_flatMap, h a i (by omega)]
  refine foldP_none _ _ fun s hs => ?_
  obtain ⟨x, _, hs⟩ := List.mem_flatMap.1 hs
  have := hok.ss s (List.mem_filter.1 hs).1
  simp [synOk, inR] at this
  omega
/-- A state: the tick, the neurons, what is due. -/
structure SimS where
  t : Nat
  st : List (Int × Int)
  due : Due
/-- Behind a Step. -/
def nextS (n : NetM) (s : SimS) (ids : List Int) : SimS := if s.t = 10000 then s else ⟨s.t + 1, (tickM n s.t ⟨s.st, s.due⟩ ids).st, (tickM n s.t ⟨s.st, s.due⟩ ids).due⟩
def outS (n : NetM) (s : SimS) : List Int := if s.t = 10000 then [] else tickO n s.t ⟨s.st, s.due⟩
def errS (s : SimS) : Int := if s.t = 10000 then 8 else 0
structure SimG (n : NetM) (s : SimS) : Prop where
  t : s.t ≤ 10000
  len : s.st.length = n.ps.length
  ok : StOk n.ps s.st
  rng : ∀ a i, rng64 (s.due a i)
  zero : ∀ a i, s.t + 16 ≤ a → s.due a i = 0
theorem SimG.next {n : NetM} (hok : NetOk n) {s : SimS} (h : SimG n s) (ids : List Int) : SimG n (nextS n s ids) := by
  unfold nextS
  by_cases q : s.t = 10000
  · rw [if_pos q]; exact h
  · rw [if_neg q]
    have ht := h.t
    exact ⟨by show s.t + 1 ≤ 10000; omega, (midS_length _ _ _ _).trans h.len, stOk_tick (S := ⟨s.st, s.due⟩) (ids := ids) h.len h.ok, tick_rng (S := ⟨s.st, s.due⟩) h.rng, tick_zero (S := ⟨s.st, s.due⟩) hok h.zero⟩
theorem outS_len (n : NetM) (s : SimS) : (outS n s).length ≤ n.ps.length := by
  unfold outS
  split
  · simp
  · exact spkN_length _ _ _ _
def NStep (n : NetM) (B : Nat) (z : SimZ) (s : SimS) (ids : List Int) (w : World) (e : Ending) (w' : World) : Prop :=
  ∃ a c, e = .returned (.tuple #[.slice a (outS n s).length c, .int .i64 (errS s)]) ∧ RowIn w' (.slice a (outS n s).length c) (outS n s) ∧ SimAt n w' B z (nextS n s ids).t (nextS n s ids).t (nextS n s ids).st (nextS n s ids).due ∧ Bel z.mut w.heap.size w w' ∧ (∀ g, (Value.slice a (outS n s).length c).ownBlock = some g → w.heap.size ≤ g)
def RStep (n : NetM) (B : Nat) (z : RZ) (a1 a2 : Option Addr) (c1 c2 : Nat) (s : SimS) (ids : List Int) (w : World) (e : Ending) (w' : World) : Prop :=
  ∃ a c, e = .returned (.tuple #[.slice a (outS n s).length c, .int .i64 (errS s)]) ∧ RowIn w' (.slice a (outS n s).length c) (outS n s) ∧ Bel z.mut w.heap.size w w' ∧ (∀ g, (Value.slice a (outS n s).length c).ownBlock = some g → w.heap.size ≤ g) ∧
    ∃ z' : RZ, z'.bs = z.bs ∧ (∀ b, z'.mut b → z.mut b ∨ w.heap.size ≤ b) ∧ RefAt n w' B z' a1 a2 c1 c2 (nextS n s ids).t (nextS n s ids).t (nextS n s ids).st (nextS n s ids).due
theorem nstep_nil (n : NetM) (hok : NetOk n) (B : Nat) (z : SimZ) (s : SimS) (hg : SimG n s) (w : World) (h : SimAt n w B z s.t s.t s.st s.due) :
    Calls Try.prog 43 #[.pointer (some ⟨z.bs, 0, none⟩), .slice none 0 0] w (NStep n B z s [] w) := by
  refine (step_nil n hok B z s.t s.st s.due hg.t hg.ok w h).mono fun e w' hx => ?_
  unfold StepOut at hx
  by_cases q : s.t = 10000
  · rw [if_pos q] at hx
    obtain ⟨rfl, rfl⟩ := hx
    have eo : outS n s = [] := by unfold outS; rw [if_pos q]
    have ee : errS s = 8 := by unfold errS; rw [if_pos q]
    have en : nextS n s [] = s := by unfold nextS; rw [if_pos q]
    unfold NStep
    rw [eo, ee, en]
    exact ⟨none, 0, rfl, ⟨none, 0, rfl, fun j hj => by simp at hj⟩, h, ⟨rfl, rfl, rfl, Nat.le_refl _, fun _ _ _ => rfl⟩, fun g hg => by simp [Value.ownBlock] at hg⟩
  · rw [if_neg q] at hx
    obtain ⟨v, rfl, v', hv, ho, hs, hb⟩ := hx
    cases hv
    have eo : outS n s = tickO n s.t ⟨s.st, s.due⟩ := by unfold outS; rw [if_neg q]
    have ee : errS s = 0 := by unfold errS; rw [if_neg q]
    have en : nextS n s [] = ⟨s.t + 1, (tickM n s.t ⟨s.st, s.due⟩ []).st, (tickM n s.t ⟨s.st, s.due⟩ []).due⟩ := by unfold nextS; rw [if_neg q]
    unfold NStep
    rw [eo, ee, en]
    obtain ⟨a, c, rfl⟩ := own_sl ho
    exact ⟨a, c, rfl, ownsRow_rowIn ho, hs, hb, fun g hg => (ho.lt g hg).1⟩
theorem rnstep_nil (n : NetM) (hok : NetOk n) (B : Nat) (z : RZ) (a1 a2 : Option Addr) (c1 c2 : Nat) (s : SimS) (hg : SimG n s) (w : World) (h : RefAt n w B z a1 a2 c1 c2 s.t s.t s.st s.due) (hB : B ≤ w.heap.size) :
    Calls Try.prog 44 #[.pointer (some ⟨z.bs, 0, none⟩), .slice none 0 0] w (RStep n B z a1 a2 c1 c2 s [] w) := by
  refine (rstep_nil n hok B z a1 a2 c1 c2 s.t s.st s.due hg.t hg.ok hg.rng hg.zero w h hB).mono fun e w' hx => ?_
  unfold RStepOut at hx
  by_cases q : s.t = 10000
  · rw [if_pos q] at hx
    obtain ⟨rfl, rfl⟩ := hx
    have eo : outS n s = [] := by unfold outS; rw [if_pos q]
    have ee : errS s = 8 := by unfold errS; rw [if_pos q]
    have en : nextS n s [] = s := by unfold nextS; rw [if_pos q]
    unfold RStep
    rw [eo, ee, en]
    exact ⟨none, 0, rfl, ⟨none, 0, rfl, fun j hj => by simp at hj⟩, ⟨rfl, rfl, rfl, Nat.le_refl _, fun _ _ _ => rfl⟩, fun g hg => by simp [Value.ownBlock] at hg, z, rfl, fun b hb => .inl hb, h⟩
  · rw [if_neg q] at hx
    obtain ⟨v, rfl, v', z', hv, ho, hr, hb, hz, hm, hne⟩ := hx
    cases hv
    have eo : outS n s = tickO n s.t ⟨s.st, s.due⟩ := by unfold outS; rw [if_neg q]
    have ee : errS s = 0 := by unfold errS; rw [if_neg q]
    have en : nextS n s [] = ⟨s.t + 1, (tickM n s.t ⟨s.st, s.due⟩ []).st, (tickM n s.t ⟨s.st, s.due⟩ []).due⟩ := by unfold nextS; rw [if_neg q]
    unfold RStep
    rw [eo, ee, en]
    obtain ⟨a, c, rfl⟩ := own_sl ho
    exact ⟨a, c, rfl, ownsRow_rowIn ho, hb, fun g hg => (ho.lt g hg).1, z', hz, hm, hr⟩

theorem RowIn.keepO {W W' : World} {v : Value} {r : List Int} (h : RowIn W v r) (hb : ∀ g, v.ownBlock = some g → g < W.heap.size → W'.heap[g]? = W.heap[g]?) : RowIn W' v r := by
  obtain ⟨a, c, rfl, h⟩ := h
  refine ⟨a, c, rfl, fun j hj => ?_⟩
  have hx : r[j]? = some r[j] := List.getElem?_eq_getElem hj
  obtain ⟨ad, rfl, hl, hc⟩ := RowIn.at ⟨a, c, rfl, h⟩ hx
  refine ⟨ad, rfl, ?_⟩
  rw [hx]
  have eb : (ad.add j).block = ad.block := by unfold Addr.add; split <;> rfl
  exact (World.cell?_of_block (a := ad.add j) (by rw [eb] at hl ⊢; exact hb ad.block rfl hl)).trans hc
theorem below_bel {M : Nat → Prop} {N : Nat} {w w1 w2 : World} (h : Below N w w1) (hb : Bel M w1.heap.size w1 w2) (hm : ∀ b, M b → N ≤ b) (hz : N ≤ w1.heap.size) : Below N w w2 :=
  ⟨hb.os.trans h.os, hb.tape.trans h.tape, hb.output.trans h.output, Nat.le_trans h.size hb.size, fun k hk => (hb.block k (by omega) fun e => by have := hm k e; omega).trans (h.block k hk)⟩
/-- Both simulations in one memory, in the same state. -/
structure PairI (n : NetM) (B0 B N0 : Nat) (z : SimZ) (zr : RZ) (a1 a2 : Option Addr) (c1 c2 : Nat) (s : SimS) (A : World) : Prop where
  sim : SimAt n A B z s.t s.t s.st s.due
  ref : RefAt n A B0 zr a1 a2 c1 c2 s.t s.t s.st s.due
  isIn : SimIn z N0
  sep : ∀ b, zr.mut b → N0 ≤ b
  lo : B0 ≤ B
  hi : N0 ≤ A.heap.size
  hB : B0 ≤ N0
  good : SimG n s
section
variable {n : NetM} {B0 B N0 : Nat} {z : SimZ} {zr zr' : RZ} {a1 a2 : Option Addr} {c1 c2 : Nat} {s s' : SimS} {A A' : World}
theorem PairI.below (h : PairI n B0 B N0 z zr a1 a2 c1 c2 s A) (hb : Below A.heap.size A A') : PairI n B0 B N0 z zr a1 a2 c1 c2 s A' :=
  ⟨h.sim.keep (fun b hb' => hb.block b hb') hb.size, h.ref.below hb (Nat.le_trans h.hB h.hi), h.isIn, h.sep, h.lo, Nat.le_trans h.hi hb.size, h.hB, h.good⟩
/-- The simulation has done something; the specification's is as it was. -/
theorem PairI.refKept (h : PairI n B0 B N0 z zr a1 a2 c1 c2 s A) (hb : Bel z.mut A.heap.size A A') : RefAt n A' B0 zr a1 a2 c1 c2 s.t s.t s.st s.due :=
  h.ref.keep (fun b hb' => by
    have := h.hB; have := h.hi
    rcases hb' with q | q
    · exact hb.block b (by omega) fun e => by have := h.sim.lo b e; have := h.lo; omega
    · exact hb.block b (h.ref.lt q) fun e => by have := h.isIn.mut e; have := h.sep b q; omega) hb.size
theorem PairI.simKept (h : PairI n B0 B N0 z zr a1 a2 c1 c2 s A) {A2 : World} (hs : SimAt n A' B z s'.t s'.t s'.st s'.due) (hz : A.heap.size ≤ A'.heap.size) (hb : Bel zr.mut A'.heap.size A' A2) : SimAt n A2 B z s'.t s'.t s'.st s'.due :=
  hs.keepN h.isIn fun b hb' => hb.block b (by have := h.hi; omega) fun e => by have := h.sep b e; omega
end
end Go.Proofs.Ytgbcdebnanejpaa
