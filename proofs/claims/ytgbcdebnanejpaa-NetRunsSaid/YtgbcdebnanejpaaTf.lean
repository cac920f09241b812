/- The specification's Run. Over this seat's program. -/
import Derived.Test.YtgbcdebnanejpaaTe
import Derived.Deep.CutBlock
namespace Go.Proofs.Ytgbcdebnanejpaa
set_option linter.unusedVariables false
open Go.RowKit Go.Shelf

/-- What the specification's Run holds before a tick. -/
structure RrI (n : NetM) (l : List Evt) (z : RZ) (a1 a2 : Option Addr) (c1 c2 B : Nat) (w : World) (t : Nat) (v10 : Value) (outs : List Evt) (A : World) : Prop where
  sim : RefAt n A B z a1 a2 c1 c2 t t (runS n l t).st (runS n l t).due
  row : A.ownsRow B 85 2 v10 outs.length (evCs outs)
  ap : ∀ g, v10.ownBlock = some g → ¬ z.mut g
  bel : Below w.heap.size w A
  big : w.heap.size < B ∧ B ≤ A.heap.size
section
variable {n : NetM} {l : List Evt} {z : RZ} {a1 a2 : Option Addr} {c1 c2 B : Nat} {w : World} {t : Nat} {v10 v' : Value} {outs : List Evt} {A A' : World} {o : Obj} {e : Evt}
theorem RrI.below (h : RrI n l z a1 a2 c1 c2 B w t v10 outs A) (hb : Below A.heap.size A A') : RrI n l z a1 a2 c1 c2 B w t v10 outs A' :=
  ⟨h.sim.below hb h.big.2, ownsRow_of_block h.row fun g hg => hb.block g (h.row.lt g hg).2, h.ap, h.bel.trans (hb.mono h.bel.size), h.big.1, Nat.le_trans h.big.2 hb.size⟩
theorem RrI.app (h : RrI n l z a1 a2 c1 c2 B w t v10 outs A) (hr : A'.ownsRow B 85 2 v' (outs.length + 1) (evCs outs ++ evV e)) (hg : (A.alloc o).grownBy A' v10.ownBlock) (hw : v'.ownBlock = v10.ownBlock ∨ v'.ownBlock = some (A.alloc o).heap.size) : RrI n l z a1 a2 c1 c2 B w t v' (outs ++ [e]) A' := by
  have hs := hg.size
  rw [World.size_alloc] at hs hw
  obtain ⟨b1, b2⟩ := h.big
  have hA := h.bel.size
  have old : ∀ g, g < A.heap.size → v10.ownBlock ≠ some g → A'.heap[g]? = A.heap[g]? := fun g hl hn => by
    rw [hg.block g (by rw [World.size_alloc]; omega) (fun e => hn e.symm), Below.heap_alloc _ _ _ hl]
  refine ⟨h.sim.keep (fun b hb => ?_) (by omega), by rw [List.length_append, evCs_snoc]; exact hr, fun g hgo hm => ?_, ?_, b1, by omega⟩
  · rcases hb with hb | hb
    · exact old b (by omega) fun q => by have := (h.row.lt b q).1; omega
    · exact old b (h.sim.lt hb) fun q => h.ap b q hb
  · rcases hw with q | q
    · exact h.ap g (q.symm.trans hgo) hm
    · rw [q] at hgo
      have := Option.some.inj hgo
      have := h.sim.lt hm
      omega
  · exact (h.bel.alloc hA o).grown hg (by rw [World.size_alloc]; omega) fun k hk => by have := (h.row.lt k hk).1; omega
end
/-- A tick's events, taken one by one. -/
structure RnT (D : List Evt) (t j : Nat) (H : Nat) (w0 : World) (v : Value) (A : World) : Prop where
  le : j ≤ D.length
  tk : ∀ i e, i < j → D[i]? = some e → e.tk = (t : Int)
  row : A.ownsRow H 3 1 v j ((D.take j).map fun e => .int .i64 e.id)
  bel : Below w0.heap.size w0 A

theorem RnT.done {l D : List Evt} {t k j H : Nat} {w0 A : World} {v : Value} (hs : l.Pairwise LeT) (hD : D = l.drop k) (hfr : fromT l t = l.drop k) (h : RnT D t j H w0 v A) (hx : ∀ e, D[j]? = some e → e.tk ≠ (t : Int)) :
    ∃ a c, v = .slice a (idsAt l t).length c ∧ A.ownsRow H 3 1 v (idsAt l t).length ((idsAt l t).map (Value.int .i64)) ∧ fromT l (t + 1) = l.drop (k + j) := by
  subst hD
  have hc : cntT (l.drop k) (t : Int) = j := cntT_at h.le h.tk hx
  obtain ⟨e1, e2, e3⟩ := fromT_take (t := t) hs
  rw [hfr, hc] at e1 e2 e3
  have hr := h.row
  rw [show ((l.drop k).take j).map (fun e => Value.int .i64 e.id) = (idsAt l t).map (Value.int .i64) by rw [← e1, List.map_map]; rfl] at hr
  rw [e3] at hr
  obtain ⟨a, c, hv⟩ := own_sl hr
  exact ⟨a, c, hv, hr, by rw [← e2, List.drop_drop]⟩
set_option maxRecDepth 100000 in
set_option maxHeartbeats 8000000 in
theorem rrun_good (n : NetM) (l : List Evt) (a1 a2 a3 : Option Addr) (c1 c2 c3 : Nat) (ticks : Int) (hne : checkRunM n l ticks 10000 = 0) (w : World) (hp : PsAt w (.slice a1 n.ps.length c1) n.ps) (hs : SsAt w (.slice a2 n.ss.length c2) n.ss) (he : EvsAt w (.slice a3 l.length c3) l) :
    Calls Try.prog 23 #[.agg #[.slice a1 n.ps.length c1, .int .i64 n.inp, .slice a2 n.ss.length c2], .slice a3 l.length c3, .int .i64 ticks] w (NRunOut n l ticks w) := by
  obtain ⟨hn0, htk, hll, hev⟩ : ncheck n = 0 ∧ inR ticks 0 10000 = true ∧ l.length ≤ 65536 ∧ evsErr l n.inp 10000 = 0 := by
    unfold checkRunM at hne
    by_cases q1 : ncheck n ≠ 0
    · rw [if_pos q1] at hne; exact absurd hne q1
    · rw [if_neg q1] at hne
      by_cases q2 : inR ticks 0 10000 = false
      · rw [if_pos q2] at hne; cases hne
      · rw [if_neg q2] at hne
        by_cases q3 : 65536 < l.length
        · rw [if_pos q3] at hne; cases hne
        · rw [if_neg q3] at hne; exact ⟨by omega, by simpa using q2, by omega, hne⟩
  have hok := netOk_of hn0
  have hck := fun W (hb : Below w.heap.size w W) => rncheck_any n a1 a2 c1 c2 W (hp.below hb) (hs.below hb)
  rw [hn0] at hck
  have hevs := fun W (hb : Below w.heap.size w W) => revents_any a1 a2 n.ps.length c1 n.ss.length c2 n.inp 10000 l a3 c3 W (he.below hb)
  rw [show evsR l n.inp 10000 = 0 by unfold evsR; rw [if_neg (by omega)]; exact hev] at hevs
  obtain ⟨T, rfl⟩ : ∃ T : Nat, ticks = (T : Int) := ⟨ticks.toNat, by simp [inR] at htk; omega⟩
  have hT : T ≤ 10000 := by simp [inR] at htk; omega
  have hT0 : (0 : Int) ≤ (T : Int) := Int.natCast_nonneg _
  have hT1 : ((T : Int) < 0) = False := eq_false (by omega)
  have hT2 : ((10000 : Int) < (T : Int)) = False := eq_false (by omega)
  obtain ⟨hsort, hrng⟩ := evs_ok hev
  have hbg := fun W (hb : Below w.heap.size w W) => rbegin_any n hok a1 a2 c1 c2 W (hp.below hb) (hs.below hb)
  have hout : ∀ v e w', (65536 < (runO n l T).length → e = .returned (.tuple #[.slice none 0 0, .int .i64 8]) ∧ Below w.heap.size w w') → ((runO n l T).length ≤ 65536 → e = .returned (.tuple #[v, .int .i64 0]) ∧ EvsAt w' v (runO n l T) ∧ Below w.heap.size w w') → NRunOut n l (T : Int) w e w' := fun v e w' h1 h2 => by
    unfold NRunOut runR runE
    rw [if_neg (by rw [hne]; simp), Int.toNat_natCast]
    by_cases q : 65536 < (runO n l T).length
    · obtain ⟨rfl, hb⟩ := h1 q
      rw [if_pos q]
      exact ⟨_, rfl, by rw [if_neg (by decide)]; exact Or.inl ⟨rfl, rfl⟩, hb⟩
    · obtain ⟨rfl, hv, hb⟩ := h2 (by omega)
      rw [if_neg q]
      exact ⟨_, rfl, by rw [if_pos rfl]; exact hv, hb⟩
  have HCK := Lib.hid hck
  have HEVS := Lib.hid hevs
  have HBG := Lib.hid hbg
  have HOUT := Lib.hid hout
  have HOK := Lib.hid hok
  have HEV := Lib.hid hev
  have HSORT := Lib.hid hsort
  have HE := Lib.hid he
  have HLL := Lib.hid hll
  have HZ : Hid (fromT l 0 = l) := Lib.hid (fromT_zero fun e he => (hrng e he).1)
  clear hck hevs hbg hout hok hev hsort hrng he hll hp hs hne hn0 htk
  go_enter Try.func23, Try.ntmps23
  go_upto_region 6 with (go_at_call 20; refine (HCK.out _ ((Below.refl _ _).alloc (Nat.le_refl _) _)).mono ?_; rintro e w1 ⟨rfl, hb1⟩; have hbx1 : NetBox w1 w.heap.size (.slice a1 n.ps.length c1) n.inp (.slice a2 n.ss.length c2) := (hb1.block _ (by simp)).trans (alloc_new_at _ _ _ rfl); obtain ⟨_, _, _⟩ := cells3 hbx1; have HBX := Lib.hid hbx1; have hzb := lt_of_block hbx1; have B1 := Lib.hid (((Below.refl _ _).alloc (Nat.le_refl _) _).trans (hb1.mono (by simp)) : Below w.heap.size w w1); clear hb1 hbx1)
  go_upto_region 9 with (go_at_call 62; refine (HEVS.out _ B1.out).mono ?_; rintro e w2 ⟨rfl, hb2⟩; have hbx2 : NetBox w2 w.heap.size (.slice a1 n.ps.length c1) n.inp (.slice a2 n.ss.length c2) := (hb2.block _ hzb).trans HBX.out; obtain ⟨_, _, _⟩ := cells3 hbx2; have HBX2 := Lib.hid hbx2; have hzb2 := lt_of_block hbx2; have B2 := Lib.hid (B1.out.trans (hb2.mono B1.out.size) : Below w.heap.size w w2); clear hb2 hbx2)
  go_upto_region 10 with (go_at_call 63; refine (HBG.out _ B2.out).mono ?_; rintro e w3 ⟨z, rfl, hsim, hb3⟩; have HSIM := Lib.hid hsim; have HB3 := Lib.hid hb3; clear hsim hb3)
  obtain ⟨B, hB⟩ : ∃ B, w2.heap.size = B := ⟨_, rfl⟩
  have h0 : RrI n l z a1 a2 c1 c2 B w 0 (.slice none 0 0) (runO n l 0) w3 := by
    have := HB3.out.size
    exact ⟨by rw [← hB]; exact HSIM.out, World.ownsRow_nil _ _ _ _, fun g hg => (by simp [Value.ownBlock] at hg), B2.out.trans (HB3.out.mono B2.out.size), by omega, by omega⟩
  have H0 := Lib.hid h0
  obtain ⟨m, hm⟩ : ∃ m, l.length = m := ⟨_, rfl⟩
  rw [hm]
  have HM := Lib.hid hm
  have hm0 : (0 : Int) ≤ (m : Int) := Int.natCast_nonneg _
  clear h0 hB HSIM HB3 hm
  go_wp2
  go_loopw [10, 11, 12, 13, 14, 15] (fun s10 s11 s12 _ _ _ wr => ∃ (t k : Nat) (z1 : RZ), t ≤ T ∧ z1.bs = z.bs ∧ s12 = .int .i64 t ∧ s11 = .int .i64 k ∧ k ≤ m ∧ fromT l t = l.drop k ∧ (runO n l t).length ≤ 65536 ∧ RrI n l z1 a1 a2 c1 c2 B w t s10 (runO n l t) wr) (fun _ _ s12 _ _ _ _ => T - (intOf s12).toNat)
  case atStart => exact ⟨0, 0, z, Nat.zero_le _, rfl, rfl, rfl, Nat.zero_le _, by rw [HZ.out]; rfl, by simp [runO], H0.out⟩
  case round =>
    obtain ⟨t, k, z1, ht, hzb1, rfl, rfl, hk, hfr, hlen, hI⟩ := hrel
    have HZB := Lib.hid hzb1
    clear hzb1
    have ht0 : (0 : Int) ≤ (t : Int) := Int.natCast_nonneg _
    have hk0 : (0 : Int) ≤ (k : Int) := Int.natCast_nonneg _
    have HI := Lib.hid hI
    have HFR := Lib.hid hfr
    clear hI hfr
    by_cases hlt : t < T
    · have ht1 : ((t : Int) < (T : Int)) = True := by simp; omega
      have hT0 : RnT (l.drop k) t 0 wr.heap.size wr (.slice none 0 0) wr := ⟨Nat.zero_le _, fun i e h => by omega, World.ownsRow_nil _ _ _ _, Below.refl _ _⟩
      have HT0 := Lib.hid hT0
      clear hT0
      go_upto_block 2 with fail
      go_cut [11, 13] from 40 to 62 (fun s11 s13 wx => ∃ (k' : Nat) (ai : Option Addr) (ci : Nat), s11 = .int .i64 k' ∧ s13 = .slice ai (idsAt l t).length ci ∧ k' ≤ m ∧ fromT l (t + 1) = l.drop k' ∧ wx.ownsRow wr.heap.size 3 1 (.slice ai (idsAt l t).length ci) (idsAt l t).length ((idsAt l t).map (Value.int .i64)) ∧ Below wr.heap.size wr wx)
      case first =>
        go_wp2_with fail
        generalize wr = wo at *
        go_loopw [11, 13] (fun s11 s13 wr => ∃ q : Nat, s11 = .int .i64 q ∧ k ≤ q ∧ q ≤ m ∧ RnT (l.drop k) t (q - k) wo.heap.size wo s13 wr) (fun s11 _ _ => m - (intOf s11).toNat)
        case atStart => exact ⟨k, rfl, Nat.le_refl _, hk, by rw [Nat.sub_self]; exact HT0.out⟩
        case round =>
          obtain ⟨q, rfl, hkq, hqm, hN⟩ := hrel
          have hq0 : (0 : Int) ≤ (q : Int) := Int.natCast_nonneg _
          have HN := Lib.hid hN
          have hbz := hN.bel.size
          have hm65 : m ≤ 65536 := by rw [← HM.out]; exact HLL.out
          clear hN
          by_cases hq : q < m
          · have hq1 : ((q : Int) < (m : Int)) = True := by simp; omega
            have hq2 : decide ((q : Int) < (m : Int)) = true := by simp; omega
            obtain ⟨x, hx⟩ : ∃ x, l[q]? = some x := ⟨_, List.getElem?_eq_getElem (by rw [HM.out]; exact hq)⟩
            have hxd : (l.drop k)[q - k]? = some x := by rw [List.getElem?_drop, show k + (q - k) = q by omega]; exact hx
            obtain ⟨b, off, hab, hbl, hcc⟩ := HE.out.at hx
            have hab : a3 = some ⟨b, off, none⟩ := by simpa using hab
            subst hab
            have hwo : Below w.heap.size w wr := HI.out.bel.trans (HN.out.bel.mono HI.out.bel.size)
            obtain ⟨y1, y2⟩ := hcc.below hwo hbl
            have hbr : b < wr.heap.size := by have := hwo.size; omega
            obtain ⟨X1, X2⟩ := x
            simp only at y1 y2
            have HXD := Lib.hid hxd
            clear hx hxd hcc hwo
            by_cases ht : X1 = (t : Int)
            · have t1 : (X1 == (t : Int)) = true := by simp [ht]
              have t2 : (X1 = (t : Int)) = True := eq_true ht
              obtain ⟨i0, hi, hz0, hzz1, hzz2⟩ := info_parts Try.info3
              have HTT := Lib.hid ht
              clear ht
              go_wp2_with (at_builtin; refine wpList_append_own _ rfl _ _ 44 rfl wo.heap.size 3 i0 (.int .i64 0) 1 8 Try.underlying44 hi hz0 hzz1 hzz2 rfl (by decide) u13 _ _ rfl (HN.out.row.alloc _) ⟨wr.heap.size, 0, none⟩ 1 1 [.int .i64 X2] rfl rfl (cell_one_new _ _ _) (by simp [Value.oneCell']) (by unfold maxLen; omega) (by omega) (by simp; omega) ?_; intro v' w5 hown' hgrow _; have HO := Lib.hid hown'; have HG := Lib.hid hgrow; clear hown' hgrow)
              go_roundw
              case rel =>
                refine ⟨q + 1, by go_num, by omega, by omega, ?_⟩
                have e : q + 1 - k = (q - k) + 1 := by omega
                rw [e]
                have hlt' := (List.getElem?_eq_some_iff.1 HXD.out).1
                refine ⟨hlt', fun i e' hi' he' => ?_, ?_, (HN.out.bel.alloc HN.out.bel.size _).grown HG.out (by simp; omega) fun g hg => (HN.out.row.lt g hg).1⟩
                · by_cases hiq : i = q - k
                  · rw [hiq, HXD.out] at he'
                    cases he'
                    exact HTT.out
                  · exact HN.out.tk i e' (by omega) he'
                · rw [List.take_add_one, HXD.out, List.map_append]
                  exact HO.out
              case measure => simp [intOf]; omega
            · have t1 : (X1 == (t : Int)) = false := by simp [ht]
              have t2 : (X1 = (t : Int)) = False := eq_false ht
              have hd := HN.out.done HSORT.out rfl HFR.out (fun e he => by rw [HXD.out] at he; cases he; exact ht)
              rw [show k + (q - k) = q by omega] at hd
              have HD := Lib.hid hd
              clear hd ht
              go_wp2
              go_meet
              case rel =>
                obtain ⟨ai, ci, h1, h2, h3⟩ := HD.out
                exact ⟨q, ai, ci, rfl, h1, hqm, h3, by rw [← h1]; exact h2, HN.out.bel⟩
          · obtain rfl : q = m := by omega
            have hq1 : ((q : Int) < (q : Int)) = False := by simp
            have hq2 : decide ((q : Int) < (q : Int)) = false := by simp
            have hd := HN.out.done HSORT.out rfl HFR.out (fun e he => by
              have := (List.getElem?_eq_some_iff.1 he).1
              rw [List.length_drop, HM.out] at this
              omega)
            rw [show k + (q - k) = q by omega] at hd
            have HD := Lib.hid hd
            clear hd hq
            go_wp2
            go_meet
            case rel =>
              obtain ⟨ai, ci, h1, h2, h3⟩ := HD.out
              exact ⟨q, ai, ci, rfl, h1, hqm, h3, by rw [← h1]; exact h2, HN.out.bel⟩
      case rest =>
        obtain ⟨k', ai, ci, rfl, rfl, hk', hfr', hvi, hbc⟩ := hcut
        have hIc := HI.out.below hbc
        have hgo := refGo_any n HOK.out B z1 a1 a2 c1 c2 t (runS n l t).st (runS n l t).due (by omega) (stOk_run HOK.out l t) (due_rng n l t) (fun a i h => due_zero HOK.out l t a i h) (idsAt l t) (ids_nonneg HEV.out t) (ids_nodup HEV.out t) ai ci (by have := idsAt_le l t; have := HLL.out; omega) wc hIc.sim hIc.big.2 (intsAt_of_owns hvi) (fun g hg hm => by have := (hvi.lt g hg).1; have := HI.out.sim.lt hm; omega)
        rw [HZB.out] at hgo
        have HGO := Lib.hid hgo
        have HIC := Lib.hid hIc
        have HFR' := Lib.hid hfr'
        clear hgo hIc hfr' hvi hbc HI HT0
        go_upto_region 20 with (go_at_call 64; refine HGO.out.mono ?_; rintro e w4 ⟨vs, z2, rfl, hvs, hsim4, hbel4, hzb4, hzm4, hza4⟩; obtain ⟨va, vc, rfl⟩ := own_sl hvs)
        obtain ⟨L, hL⟩ : ∃ L, L = tickO n t (runS n l t) := ⟨_, rfl⟩
        have hvs : w4.ownsRow wc.heap.size 3 1 (.slice va L.length vc) L.length (L.map (Value.int .i64)) := by rw [hL]; exact hvs
        have hLL : L.length ≤ 1024 := by have := spkN_length n.ps (runS n l t).st ((runS n l t).due t) n.ps.length; have := HOK.out.p1; rw [hL]; unfold tickO; omega
        have hI4 : RrI n l z2 a1 a2 c1 c2 B w (t + 1) u10 (runO n l t) w4 := by
          refine ⟨hsim4, ownsRow_of_block HIC.out.row fun g hg => hbel4.block g (HIC.out.row.lt g hg).2 (HIC.out.ap g hg), fun g hg hm => ?_, HIC.out.bel.trans (hbel4.below HIC.out.bel.size fun b hb hm => by have := HIC.out.sim.lo b hm; have := HIC.out.big.1; omega), HIC.out.big.1, by have := HIC.out.big.2; have := hbel4.size; omega⟩
          rcases hzm4 g hm with h | h
          · exact HIC.out.ap g hg h
          · have := (HIC.out.row.lt g hg).2; omega
        have hJ0 : RrI n l z2 a1 a2 c1 c2 B w (t + 1) u10 (runO n l t ++ (L.take 0).map (evI t)) w4 ∧ w4.ownsRow wc.heap.size 3 1 (.slice va L.length vc) L.length (L.map (Value.int .i64)) ∧ (∀ g, (Value.slice va L.length vc).ownBlock = some g → u10.ownBlock ≠ some g) := by
          refine ⟨by simpa using hI4, hvs, fun g hg e => ?_⟩
          have := (hvs.lt g hg).1
          have := (HIC.out.row.lt g e).2
          omega
        have hN : tickO n t ⟨(runS n l t).st, (runS n l t).due⟩ = L := hL.symm
        rw [hN]
        have HJ0 := Lib.hid hJ0
        have HL := Lib.hid hL
        have HZ4 := Lib.hid (hzb4.trans HZB.out)
        have hL0 : (0 : Int) ≤ (L.length : Int) := Int.natCast_nonneg _
        clear hvs hsim4 hbel4 hI4 hJ0 hL hN HIC HGO hzb4 hzm4 hza4
        go_wp2
        go_loopw [10, 15] (fun s10 s15 wr2 => ∃ j : Nat, j ≤ L.length ∧ s15 = .int .i64 j ∧ RrI n l z2 a1 a2 c1 c2 B w (t + 1) s10 (runO n l t ++ (L.take j).map (evI t)) wr2 ∧ wr2.ownsRow wc.heap.size 3 1 (.slice va L.length vc) L.length (L.map (Value.int .i64)) ∧ (∀ g, (Value.slice va L.length vc).ownBlock = some g → s10.ownBlock ≠ some g)) (fun _ s15 _ => L.length - (intOf s15).toNat)
        case atStart => exact ⟨0, Nat.zero_le _, rfl, HJ0.out⟩
        case round =>
          obtain ⟨j, hj, rfl, hJ, hvs, hne⟩ := hrel
          have hj0 : (0 : Int) ≤ (j : Int) := Int.natCast_nonneg _
          have HJ := Lib.hid hJ
          by_cases hlj : j < L.length
          · have hj1 : ((j : Int) < (L.length : Int)) = True := by simp; omega
            obtain ⟨g, cap, hv⟩ := own_form hvs (by omega)
            cases hv
            obtain ⟨x, hx⟩ : ∃ x, L[j]? = some x := ⟨_, List.getElem?_eq_getElem hlj⟩
            have hc : wr.cell? ⟨g, j, none⟩ = some (.int .i64 x) := by rw [hvs.cellAt j (by omega)]; simp [hx]
            obtain ⟨i0, hi, hz0, hzz1, hzz2⟩ := info_parts infoE
            have hlo : (runO n l t ++ (L.take j).map (evI t)).length ≤ 70000 := by simp; omega
            have hrow := hJ.row
            obtain ⟨outs, hos⟩ : ∃ outs, outs = runO n l t ++ (L.take j).map (evI t) := ⟨_, rfl⟩
            rw [← hos] at hrow hlo HJ
            have hbw : B ≤ wr.heap.size := hJ.big.2
            have hg := (hvs.lt g rfl).2
            have HROW := Lib.hid hrow
            have HX := Lib.hid hx
            have HVS := Lib.hid hvs
            have HNE := Lib.hid hne
            have HOS := Lib.hid hos
            clear hJ hvs hne hx hrow hos
            go_wp2_with (at_builtin; (refine wpList_append_where _ rfl _ _ 30 rfl B 85 i0 (.agg #[.int .i64 0, .int .i64 0]) 2 16 Try.underlying30 hi hz0 hzz1 hzz2 rfl (by decide) u10 _ _ rfl (HROW.out.alloc _) ⟨wr.heap.size, 0, none⟩ 1 1 (by decide) [.int .i64 (t : Int), .int .i64 x] rfl rfl (cell_two_new _ _ _ _) (by simp [Value.oneCell']) (by unfold maxLen; omega) (by omega) (by simp; omega) ?_; intro v' w5 hown' hgrow hwh; have HO := Lib.hid hown'; have HG := Lib.hid hgrow; have HWH := Lib.hid hwh; clear hown' hgrow hwh))
            go_roundw
            case rel =>
              refine ⟨j + 1, hlj, by go_num, ?_, ?_, ?_⟩
              · rw [take_evI HX.out, ← HOS.out]
                exact HJ.out.app HO.out HG.out HWH.out
              · refine ownsRow_of_block HVS.out fun g' hg' => ?_
                have h1 := (HVS.out.lt g' hg').2
                rw [HG.out.block g' (by rw [World.size_alloc]; omega) (fun e => HNE.out g' hg' e.symm), Below.heap_alloc _ _ _ h1]
              · intro g' hg' e
                have h1 := (HVS.out.lt g' hg').2
                rcases HWH.out with h | h
                · exact HNE.out g' hg' (h.symm.trans e)
                · rw [e, World.size_alloc] at h
                  have := Option.some.inj h
                  omega
            case measure => simp [intOf]; omega
          · obtain rfl : j = L.length := by omega
            have hj1 : ((L.length : Int) < (L.length : Int)) = False := by simp
            have hlo : (runO n l (t + 1)).length ≤ 70000 := by rw [runO_succ]; simp; have := HL.out; rw [← HL.out]; omega
            rw [List.take_of_length_le (Nat.le_refl _), HL.out, ← runO_succ] at hJ
            obtain ⟨a10, c10, rfl⟩ := own_sl hJ.row
            have HJ1 := Lib.hid hJ
            clear hJ HJ hvs hne hj hlj
            by_cases hov : 65536 < (runO n l (t + 1)).length
            · have hov1 : ((65536 : Int) < ((runO n l (t + 1)).length : Int)) = True := by simp; omega
              have hov2 : 65536 < (runO n l T).length := by have := runO_mono n l (t + 1) (T - (t + 1)); rw [show t + 1 + (T - (t + 1)) = T by omega] at this; omega
              have HB := Lib.hid HJ1.out.bel
              have HOV := Lib.hid hov2
              clear hov2 hov
              go_wp2
              go_ret2
              exact HOUT.out (.slice none 0 0) _ _ (fun _ => ⟨rfl, HB.out⟩) (fun h => by have := HOV.out; omega)
            · have hov1 : ((65536 : Int) < ((runO n l (t + 1)).length : Int)) = False := by simp; omega
              have HOV := Lib.hid hov
              clear hov
              go_wp2
              go_roundw
              case rel => exact ⟨t + 1, k', z2, hlt, HZ4.out, by go_num, rfl, hk', HFR'.out, by have := HOV.out; omega, HJ1.out⟩
              case measure => simp [intOf]; omega
    · obtain rfl : t = T := by omega
      have ht1 : ((t : Int) < (t : Int)) = False := by simp
      obtain ⟨a10, c10, rfl⟩ := own_sl HI.out.row
      have HB := Lib.hid HI.out.bel
      have HR := Lib.hid HI.out.row
      have HLN := Lib.hid hlen
      clear HI hlt hlen
      go_wp2
      go_ret2
      exact HOUT.out _ _ _ (fun h => by have := HLN.out; omega) (fun _ => ⟨rfl, evsAt_of_owns HR.out, HB.out⟩)
end Go.Proofs.Ytgbcdebnanejpaa
