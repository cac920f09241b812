/- The walk of the law NetResumes. Over this seat's program. (mk_nres.py wrote this.) -/
import Derived.Test.YtgbcdebnanejpaaU4
import Derived.Test.YtgbcdebnanejpaaWk
namespace Go.Proofs.Ytgbcdebnanejpaa.netResumes
open Go.ChangeShapes Go.WideShapes Go.ChangeAt Go.RowKit
set_option linter.unusedVariables false

theorem startG {n : NetM} {x : ImgM} (h : ImgOk n x) : SimG n ⟨x.tk.toNat, x.st, dueK x.tk.toNat x.du 16⟩ := by
  refine ⟨by show x.tk.toNat ≤ 10000; have := h.tk1; omega, h.st, h.ok, fun a i => ?_, fun a i ha => ?_⟩
  · show rng64 (dueK x.tk.toNat x.du 16 a i)
    unfold dueK
    by_cases q : x.tk.toNat ≤ a ∧ a < x.tk.toNat + 16
    · rw [if_pos q]
      obtain ⟨r, hr⟩ : ∃ r, x.du[a - x.tk.toNat]? = some r := ⟨_, List.getElem?_eq_getElem (by rw [h.du]; omega)⟩
      rw [hr]
      unfold rowF rng64
      simp only [Option.getD_some]
      cases hd : r[i]? with
      | none => simp
      | some d => have := h.rng _ r hr i d hd; simp; omega
    · rw [if_neg q]; unfold rng64; omega
  · show dueK x.tk.toNat x.du 16 a i = 0
    have ha : x.tk.toNat + 16 ≤ a := ha
    unfold dueK
    rw [if_neg (by omega)]
set_option maxRecDepth 100000 in
set_option maxHeartbeats 8000000 in
theorem walk (n : NetM) (x : ImgM) (a1 a2 a3 a4 : Option Addr) (c1 c2 c3 c4 : Nat) (w : World) (hp : PsAt w (.slice a1 n.ps.length c1) n.ps) (hs : SsAt w (.slice a2 n.ss.length c2) n.ss) (hst : StsAt w (.slice a3 x.st.length c3) x.st) (hdu : RowsIn w (.slice a4 x.du.length c4) x.du) :
    Calls Try.prog 10 #[.agg #[.slice a1 n.ps.length c1, .int .i64 n.inp, .slice a2 n.ss.length c2], .agg #[.int .i64 x.tk, .slice a3 x.st.length c3, .slice a4 x.du.length c4]] w fun e w' => e = .returned (.bool true) ∧ Below w.heap.size w w' := by
  have hres := fun W (hb : Below w.heap.size w W) => resume_any n x a1 a2 a3 a4 c1 c2 c3 c4 W (hp.below hb) (hs.below hb) (hst.below hb) (hdu.below hb)
  have hrres := fun W (hb : Below w.heap.size w W) => rresume_any n x a1 a2 a3 a4 c1 c2 c3 c4 W (hp.below hb) (hs.below hb) (hst.below hb) (hdu.below hb)
  have hfew := few_any a1 a2 n.ps.length n.ss.length c1 c2 n.inp
  have hb0 : Below w.heap.size w ((w.alloc (.cells #[.slice a1 n.ps.length c1, .int .i64 n.inp, .slice a2 n.ss.length c2] 25)).alloc (.cells #[.int .i64 x.tk, .slice a3 x.st.length c3, .slice a4 x.du.length c4] 66)) := ((Below.refl _ _).alloc (Nat.le_refl _) _).alloc (by simp) _
  have hbb := boxed2 w 66 (.slice a1 n.ps.length c1) (.slice a2 n.ss.length c2) (.slice a3 x.st.length c3) (.slice a4 x.du.length c4) n.inp x.tk
  have HPB := Lib.hid hp.blk
  have HSB := Lib.hid hs.blk
  have HST := Lib.hid hst
  have HDU := Lib.hid hdu
  unfold ResOut at hres
  unfold RResOut at hrres
  obtain ⟨E, hEE⟩ : ∃ E, E = resErr n x := ⟨_, rfl⟩
  rw [← hEE] at hres hrres
  generalize fewB n.ps.length n.ss.length = FB at *
  obtain ⟨k1, hk1⟩ : ∃ k, k = n.ps.length := ⟨_, rfl⟩
  obtain ⟨m, hm⟩ : ∃ m, x.st.length = m := ⟨_, rfl⟩
  obtain ⟨q, hq⟩ : ∃ m, x.du.length = m := ⟨_, rfl⟩
  rw [← hk1, hm, hq] at hb0 hbb hres hrres ⊢
  rw [← hk1] at hfew HPB
  rw [hm] at HST
  rw [hq] at HDU
  have HK1 := Lib.hid hk1
  have HM := Lib.hid hm
  have HQ := Lib.hid hq
  have HEE := Lib.hid hEE
  have HRES := Lib.hid hres
  have HRRES := Lib.hid hrres
  have HFEW := Lib.hid hfew
  have HB0 := Lib.hid hb0
  have HBB := Lib.hid hbb
  clear hres hrres hfew hb0 hbb hp hs hst hdu hk1 hm hq hEE
  cases FB with
  | false =>
    go_enter Try.func10, Try.ntmps10
    go_wp2_with (first | (go_at_call 17; refine (HFEW.out _).mono ?_; rintro e w1 ⟨rfl, hb1⟩; have hbb1 := HBB.out.below hb1; obtain ⟨_, _, _⟩ := cells3 hbb1.net; obtain ⟨_, _, _⟩ := cells3 hbb1.img; have B1 := Lib.hid (HB0.out.trans (hb1.mono HB0.out.size) : Below w.heap.size w w1); have HBB1 := Lib.hid hbb1; clear hb1 hbb1) | (go_at_call 18; refine (Lf.works_any _).mono ?_; rintro e w9 ⟨rfl, hb9⟩))
    go_ret
    exact ⟨rfl, B1.out.trans (hb9.mono B1.out.size)⟩
  | true =>
    by_cases h5 : 50 < m
    · have z5 : ((50 : Int) < (m : Int)) = True := by simp; omega
      go_enter Try.func10, Try.ntmps10
      go_wp2_with (first | (go_at_call 17; refine (HFEW.out _).mono ?_; rintro e w1 ⟨rfl, hb1⟩; have hbb1 := HBB.out.below hb1; obtain ⟨_, _, _⟩ := cells3 hbb1.net; obtain ⟨_, _, _⟩ := cells3 hbb1.img; have B1 := Lib.hid (HB0.out.trans (hb1.mono HB0.out.size) : Below w.heap.size w w1); have HBB1 := Lib.hid hbb1; clear hb1 hbb1) | (go_at_call 18; refine (Lf.works_any _).mono ?_; rintro e w9 ⟨rfl, hb9⟩))
      go_ret
      exact ⟨rfl, B1.out.trans (hb9.mono B1.out.size)⟩
    · have z5 : ((50 : Int) < (m : Int)) = False := by simp; omega
      by_cases h2 : 20 < q
      · have z2 : ((20 : Int) < (q : Int)) = True := by simp; omega
        go_enter Try.func10, Try.ntmps10
        go_wp2_with (first | (go_at_call 17; refine (HFEW.out _).mono ?_; rintro e w1 ⟨rfl, hb1⟩; have hbb1 := HBB.out.below hb1; obtain ⟨_, _, _⟩ := cells3 hbb1.net; obtain ⟨_, _, _⟩ := cells3 hbb1.img; have B1 := Lib.hid (HB0.out.trans (hb1.mono HB0.out.size) : Below w.heap.size w w1); have HBB1 := Lib.hid hbb1; clear hb1 hbb1) | (go_at_call 18; refine (Lf.works_any _).mono ?_; rintro e w9 ⟨rfl, hb9⟩))
        go_ret
        exact ⟨rfl, B1.out.trans (hb9.mono B1.out.size)⟩
      · have z2 : ((20 : Int) < (q : Int)) = False := by simp; omega
        go_enter Try.func10, Try.ntmps10
        go_upto_region 3 with (go_at_call 17; refine (HFEW.out _).mono ?_; rintro e w1 ⟨rfl, hb1⟩; have hbb1 := HBB.out.below hb1; obtain ⟨_, _, _⟩ := cells3 hbb1.net; obtain ⟨_, _, _⟩ := cells3 hbb1.img; have B1 := Lib.hid (HB0.out.trans (hb1.mono HB0.out.size) : Below w.heap.size w w1); have HBB1 := Lib.hid hbb1; clear hb1 hbb1)
        go_wp2
        go_loopw [5] (fun i wr => ∃ k : Nat, k ≤ q ∧ i = .int .i64 k ∧ Below w1.heap.size w1 wr) (fun i _ => q - (intOf i).toNat)
        case atStart => exact ⟨0, Nat.zero_le _, rfl, Below.refl _ _⟩
        case round =>
          obtain ⟨k, hk, rfl, hb⟩ := hrel
          have hk0 : (0 : Int) ≤ (k : Int) := Int.natCast_nonneg _
          have hbw := B1.out.trans (hb.mono B1.out.size)
          obtain ⟨_, _, _⟩ := cells3 (HBB1.out.below hb).net
          obtain ⟨_, _, _⟩ := cells3 (HBB1.out.below hb).img
          have HBR := Lib.hid hb
          have HBW := Lib.hid hbw
          by_cases hlt : k < q
          · have hk1 : (k : Int) < (q : Int) := by omega
            have hkT : ((k : Int) < (q : Int)) = True := by simp; omega
            obtain ⟨r, hr⟩ : ∃ r, x.du[k]? = some r := ⟨_, List.getElem?_eq_getElem (by rw [HQ.out]; exact hlt)⟩
            obtain ⟨b, off, a', c', rfl, hbl, hc, _⟩ := HDU.out.at hr
            have hcb := ((hbw.cell (p := ⟨b, off + k, none⟩) hbl).trans hc)
            obtain ⟨L, hL⟩ : ∃ L, L = r.length := ⟨_, rfl⟩
            rw [← hL] at hcb
            clear hL hr hc hb hbw
            by_cases hL5 : 50 < L
            · have g5 : ((50 : Int) < (L : Int)) = True := by simp; omega
              go_wp2_with (go_at_call 18; refine (Lf.works_any _).mono ?_; rintro e w9 ⟨rfl, hb9⟩)
              go_ret
              exact ⟨rfl, HBW.out.trans (hb9.mono HBW.out.size)⟩
            · have g5 : ((50 : Int) < (L : Int)) = False := by simp; omega
              go_wp2
              go_roundw
              case rel => exact ⟨k + 1, by omega, by go_num, HBR.out⟩
              case measure => simp [intOf]; omega
          · have hkF : ((k : Int) < (q : Int)) = False := by simp; omega
            clear hlt hb hbw
            go_upto_region 9 with (go_at_call 41; refine (HRES.out _ HBW.out).mono ?_; rintro e w2 ⟨p6, rfl, hb2, hpn, hps⟩; have hbb2 := (HBB1.out.below HBR.out).below hb2; obtain ⟨_, _, _⟩ := cells3 hbb2.net; obtain ⟨_, _, _⟩ := cells3 hbb2.img; have B2 := Lib.hid (HBW.out.trans (hb2.mono HBW.out.size) : Below w.heap.size w w2); have HPN := Lib.hid hpn; have HPS := Lib.hid hps; clear hb2 hbb2 hpn hps)
            go_upto_region 10 with (go_at_call 42; refine (HRRES.out _ B2.out).mono ?_; rintro e w3 ⟨p8, rfl, hb3, hqn, hqs⟩; have HB3 := Lib.hid hb3; have B3 := Lib.hid (B2.out.trans (hb3.mono B2.out.size) : Below w.heap.size w w3); have HQN := Lib.hid hqn; have HQS := Lib.hid hqs; clear hb3 hqn hqs)
            have gE : (E != E) = false := by simp
            by_cases hE : E = 0
            · have gE0 : (E == 0) = true := by simp [hE]
              have gE1 : (E != 0) = false := by simp [hE]
              obtain ⟨z, rfl, hsim⟩ := HPS.out hE
              obtain ⟨zr, rfl, href⟩ := HQS.out hE
              have himg := imgOk_of (HEE.out.symm.trans hE)
              have hP : PairI n w.heap.size wr.heap.size w2.heap.size z zr a1 a2 c1 c2 ⟨x.tk.toNat, x.st, dueK x.tk.toNat x.du 16⟩ w3 :=
                ⟨hsim.keep (fun b hb => HB3.out.block b hb) HB3.out.size, href.lowerB B2.out.size (fun g hg => HPB.out g (by rw [HK1.out]; exact hg)) HSB.out, hsim.isIn, fun b hb => href.lo b hb, HBW.out.size, HB3.out.size, B2.out.size, startG himg⟩
              obtain ⟨BB, hBB⟩ : ∃ B, wr.heap.size = B := ⟨_, rfl⟩
              rw [hBB] at hP
              have HP0 := Lib.hid hP
              have HOK := Lib.hid himg.net
              clear hsim href himg hP HPS HQS HPN HQN hE
              go_wp2
              obtain ⟨rbs, hrbs⟩ : ∃ b, zr.bs = b := ⟨_, rfl⟩
              rw [hrbs]
              go_loopw [10] (fun i wr1 => ∃ (k : Nat) (s : SimS) (zr : RZ), k ≤ 20 ∧ i = .int .i64 k ∧ zr.bs = rbs ∧ PairI n w.heap.size BB w2.heap.size z zr a1 a2 c1 c2 s wr1 ∧ Below w.heap.size w wr1) (fun i _ => 20 - (intOf i).toNat)
              case atStart => exact ⟨0, _, _, Nat.zero_le _, rfl, hrbs, HP0.out, B3.out⟩
              case round =>
                obtain ⟨k, s, zr1, hk, rfl, hz1, hP, hB⟩ := hrel
                have hk0 : (0 : Int) ≤ (k : Int) := Int.natCast_nonneg _
                have HPI := Lib.hid hP
                have HBW1 := Lib.hid hB
                by_cases hlt : k < 20
                · have hk1 : (k : Int) < 20 := by omega
                  have hkT : ((k : Int) < 20) = True := by simp; omega
                  have hs1 := nstep_nil n HOK.out _ z s hP.good _ hP.sim
                  have HS1 := Lib.hid hs1
                  have gX : (errS s != errS s) = false := by simp
                  clear hs1 hP hB
                  go_upto_region 18 with (go_at_call 43; refine HS1.out.mono ?_; rintro e w4 ⟨la, lc, rfl, hl, hsim, hbl, hlf⟩; have HL := Lib.hid hl; have HSIM4 := Lib.hid hsim; have HBL := Lib.hid hbl; have HLF := Lib.hid hlf; clear hl hsim hbl hlf)
                  have href4 := HPI.out.refKept HBL.out
                  have hs2 := rnstep_nil n HOK.out _ zr1 a1 a2 c1 c2 s HPI.out.good w4 href4 (by have := HPI.out.hB; have := HPI.out.hi; have := HBL.out.size; omega)
                  rw [hz1] at hs2
                  have HS2 := Lib.hid hs2
                  have HREF4 := Lib.hid href4
                  clear hs2 href4
                  go_upto_region 19 with (go_at_call 44; refine HS2.out.mono ?_; rintro e w5 ⟨ma, mc, rfl, hm5, hbl2, hmf, z', hz', hmm, href⟩; have HM5 := Lib.hid hm5; have HBL2 := Lib.hid hbl2; have HZ' := Lib.hid hz'; have HMM := Lib.hid hmm; have HREF := Lib.hid href; clear hm5 hbl2 hmf hz' hmm href)
                  obtain ⟨s', hs'⟩ : ∃ s', s' = nextS n s [] := ⟨_, rfl⟩
                  have hP5 : PairI n w.heap.size BB w2.heap.size z z' a1 a2 c1 c2 s' w5 := by
                    have h1 := HPI.out.simKept (s' := s') (by rw [hs']; exact HSIM4.out) HBL.out.size HBL2.out
                    have h2 := HPI.out.hi
                    have h3 := HBL.out.size
                    have h4 := HBL2.out.size
                    refine ⟨h1, by rw [hs']; exact HREF.out, HPI.out.isIn, fun b hb => ?_, HPI.out.lo, by omega, HPI.out.hB, by rw [hs']; exact HPI.out.good.next HOK.out []⟩
                    rcases HMM.out b hb with q | q
                    · exact HPI.out.sep b q
                    · omega
                  have hl5 : RowIn w5 (.slice la (outS n s).length lc) (outS n s) := HL.out.keepO fun g hg hgl => HBL2.out.block g hgl fun e => by
                    have := HLF.out g hg
                    have := HPI.out.ref.lt e
                    omega
                  have hB5 : Below w.heap.size w w5 := below_bel (below_bel HBW1.out HBL.out (fun b e => by have := HPI.out.sim.lo b e; have := HPI.out.lo; omega) (by have := HPI.out.hB; have := HPI.out.hi; omega)) HBL2.out (fun b e => by have := HPI.out.sep b e; have := HPI.out.hB; omega) (by have := HPI.out.hB; have := HPI.out.hi; have := HBL.out.size; omega)
                  have hz5 : z'.bs = rbs := HZ'.out.trans hz1
                  have him := image_any n HOK.out _ z s'.t (by have := hP5.good.t; omega) s'.st s'.due w5 hP5.sim
                  obtain ⟨x5, hx5⟩ : ∃ x, imgOf n s'.t s'.st s'.due = x := ⟨_, rfl⟩
                  have hri := fun W (hb : Below w5.heap.size w5 W) => rimage_any n HOK.out _ z' a1 a2 c1 c2 s'.t s'.st s'.due W (hP5.below hb).ref
                  unfold ImageOut at him
                  rw [hx5] at him hri
                  rw [hz5] at hri
                  have hxl : x5.st.length = n.ps.length := by rw [← hx5]; exact hP5.good.len
                  have hxd : x5.du.length = 16 := by rw [← hx5]; exact imgOf_len
                  have hxr : ∀ (k : Nat) (r : List Int), x5.du[k]? = some r → r.length = n.ps.length := by rw [← hx5]; exact imgOf_row
                  have hol := outS_len n s
                  obtain ⟨ol, hole⟩ : ∃ l, (outS n s).length = l := ⟨_, rfl⟩
                  have hnl := HOK.out.p1
                  rw [← HK1.out] at hxl hxr hol hnl
                  rw [hole] at hol hl5 ⊢
                  have HIM := Lib.hid him
                  have HRI := Lib.hid hri
                  have HXL := Lib.hid hxl
                  have HXD := Lib.hid hxd
                  have HXR := Lib.hid hxr
                  have HOLE := Lib.hid hole
                  have hm5 := HM5.out
                  rw [hole] at hm5
                  have HM6 := Lib.hid hm5
                  clear hri hx5 hxl hxd hxr hole hm5
                  have HP5 := Lib.hid hP5
                  have HL5 := Lib.hid hl5
                  have HB5 := Lib.hid hB5
                  have HS' := Lib.hid hs'
                  have HZ5 := Lib.hid hz5
                  clear him hP5 hl5 hB5 hs' hz5 HPI HBW1 HS1 HL HSIM4 HBL HLF HS2 HREF4 HBL2 HMM HREF HZ' HM5
                  go_upto_region 20 with (go_at_call 38; refine HIM.out.mono ?_; rintro e w6 ⟨v, rfl, ⟨v1, v2, rfl, hv1, hv2⟩, hb6⟩; obtain ⟨sa, sc, rfl⟩ := hv1.form; obtain ⟨da, dc, rfl⟩ := hv2.form; rw [HXL.out] at hv1 ⊢; rw [HXD.out] at hv2 ⊢; have HV1 := Lib.hid hv1; have HV2 := Lib.hid hv2; have HB6 := Lib.hid hb6; clear hv1 hv2 hb6)
                  have hb7 : Below w5.heap.size w5 (w6.alloc (.cells #[.int .i64 x5.tk, .slice sa k1 sc, .slice da 16 dc] 66)) := HB6.out.alloc HB6.out.size _
                  have hn7 : (w6.alloc (.cells #[.int .i64 x5.tk, .slice sa k1 sc, .slice da 16 dc] 66)).heap[w6.heap.size]? = some (.cells #[.int .i64 x5.tk, .slice sa k1 sc, .slice da 16 dc] 66) := alloc_new_at _ _ _ rfl
                  have hv7 : ImgAt (w6.alloc (.cells #[.int .i64 x5.tk, .slice sa k1 sc, .slice da 16 dc] 66)) (.agg #[.int .i64 x5.tk, .slice sa k1 sc, .slice da 16 dc]) x5 := ⟨_, _, rfl, HV1.out.below ((Below.refl _ _).alloc (Nat.le_refl _) _), HV2.out.below ((Below.refl _ _).alloc (Nat.le_refl _) _)⟩
                  generalize w6.alloc (.cells #[.int .i64 x5.tk, .slice sa k1 sc, .slice da 16 dc] 66) = W7 at *
                  obtain ⟨_, _, _⟩ := cells3 hn7
                  have hzn := lt_of_block hn7
                  have HB7 := Lib.hid hb7
                  have HN7 := Lib.hid hn7
                  have HV7 := Lib.hid hv7
                  clear hb7 hn7 hv7 HV1 HV2 HB6
                  go_region_held3 (fun w' => w'.cell? ⟨w6.heap.size, 0, none⟩ = some (.int .i64 x5.tk) ∧ w'.cell? ⟨w6.heap.size, 1, none⟩ = some (.slice sa k1 sc) ∧ w'.cell? ⟨w6.heap.size, 2, none⟩ = some (.slice da 16 dc)) (first | (go_keep; done) | fail) (first
                    | (go_at_call 45; refine (lequal_any (outS n s) ol HOLE.out (by omega) la ma lc mc _ (HL5.out.below (by repeat (first | exact HB7.out | refine below_drewN ?_ _ | refine Below.drew ?_))) (HM6.out.below (by repeat (first | exact HB7.out | refine below_drewN ?_ _ | refine Below.drew ?_)))).mono ?_; rintro e w8 ⟨rfl, hb8⟩; have q8 : Below W7.heap.size W7 w8 := ⟨hb8.os, hb8.tape, hb8.output, hb8.size, hb8.block⟩; obtain ⟨_, _, _⟩ := cells3 ((q8.block _ hzn).trans HN7.out); have Q8 := Lib.hid q8; clear hb8 q8)
                    | (go_at_call 40; refine (HRI.out _ (HB7.out.trans ((show Below W7.heap.size W7 _ from by repeat (first | exact Q8.out | refine below_drewN ?_ _ | refine Below.drew ?_)).mono HB7.out.size))).mono ?_; rintro e w9 ⟨u9, rfl, hu9, hb9⟩; have q9 : Below W7.heap.size W7 w9 := Q8.out.trans ((show Below w8.heap.size w8 w9 from ⟨hb9.os, hb9.tape, hb9.output, hb9.size, hb9.block⟩).mono Q8.out.size); obtain ⟨_, _, _⟩ := cells3 ((q9.block _ hzn).trans HN7.out); have Q9 := Lib.hid q9; have HU9 := Lib.hid hu9; clear hb9 q9 hu9)
                    | (go_at_call 39; refine (sameImage_any x5 k1 HXL.out HXD.out HXR.out hnl _ u9 _ (HV7.out.below (by repeat (first | exact Q9.out | refine below_drewN ?_ _ | refine Below.drew ?_))) (HU9.out.below (by repeat (first | exact Below.refl _ _ | refine below_drewN ?_ _ | refine Below.drew ?_)))).mono ?_; rintro e w10 ⟨rfl, hb10⟩; have q10 : Below W7.heap.size W7 w10 := Q9.out.trans ((show Below w9.heap.size w9 w10 from ⟨hb10.os, hb10.tape, hb10.output, hb10.size, hb10.block⟩).mono Q9.out.size); obtain ⟨_, _, _⟩ := cells3 ((q10.block _ hzn).trans HN7.out); have Q10 := Lib.hid q10; clear hb10 q10))
                  go_wp2
                  have hb11 := HB7.out.trans (Q10.out.mono HB7.out.size)
                  go_roundw
                  case rel => exact ⟨k + 1, s', z', by omega, by go_num, HZ5.out, HP5.out.below hb11, HB5.out.trans (hb11.mono HB5.out.size)⟩
                  case measure => simp [intOf]; omega
                · have hkF : ((k : Int) < 20) = False := by simp; omega
                  clear hlt hP hB
                  go_wp2_with (go_at_call 18; refine (Lf.works_any _).mono ?_; rintro e w9 ⟨rfl, hb9⟩)
                  go_ret
                  exact ⟨rfl, HBW1.out.trans (hb9.mono HBW1.out.size)⟩
            · have gE0 : (E == 0) = false := by simp [hE]
              have gE1 : (E != 0) = true := by simp [hE]
              obtain rfl := HPN.out hE
              clear HPN HQN HPS HQS
              go_wp2_with (go_at_call 18; refine (Lf.works_any _).mono ?_; rintro e w9 ⟨rfl, hb9⟩)
              go_ret
              exact ⟨rfl, B3.out.trans (hb9.mono B3.out.size)⟩
end Go.Proofs.Ytgbcdebnanejpaa.netResumes
