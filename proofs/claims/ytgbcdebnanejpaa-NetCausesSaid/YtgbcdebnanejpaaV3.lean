/- net.Reach where there is no error. Over this seat's program. (mk_Vg.py wrote this.) -/
import Derived.Test.YtgbcdebnanejpaaV1
import Derived.Sort.CutIn
import Derived.Test.YtgbcdebnanejpaaV2
namespace Go.Proofs.Ytgbcdebnanejpaa
set_option linter.unusedVariables false
open Go.RowKit Go.Shelf
attribute [local go_sem] Oper.semAt_some

def bgK (B : Nat) (a1 : Option Addr) (k c1 : Nat) (inp : Int) (a2 : Option Addr) (mm c2 : Nat) : Nat → Value
  | 0 => .agg #[.slice a1 k c1, .int .i64 inp, .slice a2 mm c2]
  | 2 => .pointer (some ⟨B, 0, none⟩)
  | 3 => .slice a1 k c1
  | 4 => .int .i64 (k : Int)
  | _ => undef

set_option maxRecDepth 100000 in
set_option maxHeartbeats 1000000 in
theorem nreach_in (n : NetM) (hok : ncheck n = 0) (a1 a2 : Option Addr) (c1 c2 k mm : Nat) (inp : Int) (hk : k = n.ps.length) (hmm : mm = n.ss.length) (hinp : inp = n.inp) (zs : List Int) (hz : ∀ z ∈ zs, srcOk k inp z = true) (sa : Option Addr) (m cap : Nat) (hm : m = zs.length) (hm2 : m ≤ 100) (w : World)
    (hp : PsAt w (.slice a1 k c1) n.ps) (hs : SsAt w (.slice a2 mm c2) n.ss) (hI : IntsAt w (.slice sa m cap) zs) :
    CallsIn Fence.wide 0 Try.prog 32 #[.agg #[.slice a1 k c1, .int .i64 inp, .slice a2 mm c2], .slice sa m cap] w (ReachOk n zs w) := by
  have hN := netOk_of hok
  have hck : ∀ W, Below w.heap.size w W → Calls Try.prog 19 #[.agg #[.slice a1 k c1, .int .i64 inp, .slice a2 mm c2]] W fun e w' => e = .returned (.int .i64 0) ∧ Below W.heap.size W w' := fun W hb => by
    subst hk hmm hinp
    have := ncheck_any n a1 a2 c1 c2 W (hp.below hb) (hs.below hb)
    rw [hok] at this
    exact this
  have p0 : 1 ≤ k := by rw [hk]; exact hN.p0
  have p1 : k ≤ 1024 := by rw [hk]; exact hN.p1
  have i0 : 0 ≤ inp := by rw [hinp]; exact hN.i0
  have i1 : inp ≤ 256 := by rw [hinp]; exact hN.i1
  have s1 : mm ≤ 8192 := by rw [hmm]; exact hN.s1
  have hsrc : ∀ z ∈ zs, ∀ W, Calls Try.prog 54 #[.agg #[.slice a1 k c1, .int .i64 inp, .slice a2 mm c2], .int .i64 z] W fun e w' => e = .returned (.bool true) ∧ Below W.heap.size W w' := fun z hzm W => by
    have := nsrc_any a1 k c1 inp (.slice a2 mm c2) z i0 i1 p1 W
    rw [hz z hzm] at this
    exact this
  have hzr : ∀ z ∈ zs, -256 ≤ z ∧ z ≤ 1023 := fun z hzm => by have := hz z hzm; simp [srcOk, inR] at this; omega
  have hsr : ∀ s ∈ n.ss, (-256 ≤ s.fr ∧ s.fr ≤ 1023) ∧ 0 ≤ s.to ∧ s.to.toNat < k := fun s hsm => by
    have := hN.ss s hsm
    rw [← hk, ← hinp] at this
    simp [synOk, srcOk, inR] at this
    omega
  have hwf : ∀ x : Int, -256 ≤ x → x ≤ 1023 → (Lit.int .i64 x).wf = true := fun x a b => wf64 (by omega) (by omega)
  have htl : ∀ j, j < m → ∃ tb to, sa = some ⟨tb, to, none⟩ ∧ w.cell? ⟨tb, to + j, none⟩ = some (.int .i64 (zs[j]?.getD 0)) ∧ tb < w.heap.size ∧ zs[j]?.getD 0 ∈ zs := fun j hj => by
    rcases hI with ⟨_, rfl⟩ | ⟨b, off, cap', e, hc⟩
    · simp at hm; omega
    · cases e
      have hc := hc j (by omega)
      exact ⟨b, off, rfl, hc, World.block_lt_of_cell? w _ hc, by rw [List.getElem?_eq_getElem (by omega)]; exact List.getElem_mem _⟩
  have hss : ∀ W, Below w.heap.size w W → ∀ i s, n.ss[i]? = some s → ∃ b off, a2 = some ⟨b, off, none⟩ ∧ b < w.heap.size ∧ SynCells W b (off + i * 4) s := fun W hb i s hi => by
    obtain ⟨b, off, e, hl, hc⟩ := hs.at hi
    exact ⟨b, off, e, hl, hc.below hb hl⟩
  have hmz := make_bools k (by omega)
  have hwi : ∀ W, Below w.heap.size w W → Calls Try.prog 75 #[.agg #[.slice a1 k c1, .int .i64 inp, .slice a2 mm c2]] W (WireOut n.ss W) := fun W hb => by
    rw [hmm]
    exact wire_any n.ps inp n.ss a1 a2 k c1 c2 (by rw [← hmm]; exact s1) (fun s hsm => (hsr s hsm).1) W (by rw [← hmm]; exact hs.below hb)
  have HWI := Lib.hid hwi
  have hcl : ∀ W, Below w.heap.size w W → Calls Try.prog 76 #[.slice sa m cap] W (CloneOut zs W) := fun W hb => clone_any zs sa m cap hm (by omega) W (hI.below hb)
  have HCL := Lib.hid hcl
  have HZK : Hid (∀ z ∈ zs, z < (k : Int)) := Lib.hid (fun z hzm => by have := hz z hzm; simp [srcOk, inR] at this; omega)
  clear hwi hcl
  unfold ReachOk
  rw [← hk]
  have hk0 : (0 : Int) ≤ (k : Int) := Int.natCast_nonneg _
  have HCK := Lib.hid hck
  have HSR := Lib.hid hsrc
  have HZR := Lib.hid hzr
  have HSS := Lib.hid hss
  have HSO := Lib.hid hsr
  have HTL := Lib.hid htl
  have HWF := Lib.hid hwf
  have HM := Lib.hid hm
  have HMM := Lib.hid hmm
  clear hck hsrc hzr hss hsr htl hwf hm hmm hk hinp hok hN hp hs hI hz
  refine callsIn_of_wp_marks Try.func32 rfl trivial ?_ rfl
  simp only [Try.ntmps32, List.size_toArray, List.length_cons, List.length_nil, Nat.reduceAdd, Nat.reduceSub, Array.replicate_succ, Array.replicate_zero, List.push_toArray, List.append_toArray, List.nil_append, List.cons_append]
  gi_wp2_with (refine ⟨trivial, rfl, ?_⟩; gi_at_call 19; refine (callsIn_wide.2 (HCK.out _ ((Below.refl _ _).alloc (Nat.le_refl _) _))).mono ?_; rintro e w1 ⟨rfl, hb1⟩; have hbx1 : NetBox w1 w.heap.size (.slice a1 k c1) inp (.slice a2 mm c2) := (hb1.block _ (by simp)).trans (alloc_new_at _ _ _ rfl); have hz1 := lt_of_block hbx1; have B1 := Lib.hid (((Below.refl _ _).alloc (Nat.le_refl _) _).trans (hb1.mono (by simp)) : Below w.heap.size w w1); have BX1 := Lib.hid hbx1; clear hb1 hbx1)
  gi_loopw [24] (fun s24 wr => ∃ j : Nat, j ≤ m ∧ s24 = .int .i64 j ∧ NetBox wr w.heap.size (.slice a1 k c1) inp (.slice a2 mm c2) ∧ Below w.heap.size w wr) (fun s24 _ => m - (intOf s24).toNat)
  case atStart => exact ⟨0, Nat.zero_le _, rfl, BX1.out, B1.out⟩
  case round =>
    obtain ⟨j, hj, rfl, hbx, hb⟩ := hrel
    have hj0 : (0 : Int) ≤ (j : Int) := Int.natCast_nonneg _
    have hzr := lt_of_block hbx
    have HBX := Lib.hid hbx
    have HB := Lib.hid hb
    by_cases hlt : j < m
    · obtain ⟨_, _, _⟩ := cells3 hbx
      clear hbx hb
      have hj1 : ((j : Int) < (m : Int)) = True := by simp; omega
      obtain ⟨tb, to, rfl, hct, htb0, hzm⟩ := HTL.out j hlt
      obtain ⟨z, hz⟩ : ∃ z, z = zs[j]?.getD 0 := ⟨_, rfl⟩
      rw [← hz] at hct hzm
      have hc1 := (HB.out.cell (p := ⟨tb, to + j, none⟩) htb0).trans hct
      have HSRC := Lib.hid (HSR.out z hzm)
      clear hct hz hzm
      gi_wp2_with (refine ⟨trivial, rfl, ?_⟩; gi_at_call 54; refine (callsIn_wide.2 (HSRC.out _)).mono ?_; rintro e w2 ⟨rfl, hb2⟩; have hbx2 : NetBox w2 w.heap.size (.slice a1 k c1) inp (.slice a2 mm c2) := (hb2.block _ hzr).trans HBX.out; have B2 := Lib.hid (HB.out.trans (hb2.mono (by omega)) : Below w.heap.size w w2); have BX2 := Lib.hid hbx2; clear hb2 hbx2)
      go_roundw
      case rel => exact ⟨j + 1, hlt, by go_num, BX2.out, B2.out⟩
      case measure => simp [intOf]; omega
    · obtain rfl : m = j := by omega
      have hj1 : ((m : Int) < (m : Int)) = False := by simp
      clear hbx hb hlt hj
      gi_wp2
      refine wpIn_region_ghost (BgR wr n.ss k (bgK w.heap.size a1 k c1 inp a2 mm c2)) (by kernel_rfl) (by kernel_rfl) (by kernel_rfl) (by kernel_rfl) BgR.init ?stp ?dn
      case stp =>
        intro L val W i o b' hs ho hlF hdd hI hh
        have hi := (List.getElem?_eq_some_iff.1 ho).1
        have hc : i = 0 ∨ i = 1 ∨ i = 2 ∨ i = 3 ∨ i = 4 ∨ i = 5 ∨ i = 6 ∨ i = 7 ∨ i = 8 := by simp at hi; omega
        have hs9 : L.size = 9 := by simpa using hs
        obtain ⟨_, _, _⟩ := cells3 ((hI.bel.block _ hzr).trans HBX.out)
        have HI := Lib.hid hI
        have HLF := Lib.hid hlF
        have HD := Lib.hid hdd
        clear hi hs hI hlF hdd
        rcases hc with rfl | rfl | rfl | rfl | rfl | rfl | rfl | rfl | rfl
        · simp only [List.getElem?_cons_zero, Option.some.injEq] at ho
          subst ho
          have k2 := hh.kept 2 (by simp)
          simp at k2
          go_simp
          exact ⟨_, rfl, HI.out.skip 0 (by omega) _ rfl⟩
        · simp only [List.getElem?_cons_zero, List.getElem?_cons_succ, Option.some.injEq] at ho
          subst ho
          have l0 : L.getD 0 false = true := HD.out ⟨0, .data⟩ (by simp) rfl
          have g0 := hh.got 0 _ 33 rfl rfl l0 (by simp)
          rw [HI.out.known 0 (by omega) l0] at g0
          simp [bgK] at g0
          go_simp
          refine ⟨trivial, rfl, ?_⟩
          refine (callsIn_wide.2 (HWI.out _ (HB.out.trans (HI.out.bel.mono (by have := HB.out.size; omega))))).mono ?_
          rintro e w6 ho
          obtain ⟨u, rfl, hq⟩ := HI.out.call hs9 HLF.out ho
          exact ⟨_, rfl, hq⟩
        · simp only [List.getElem?_cons_zero, List.getElem?_cons_succ, Option.some.injEq] at ho
          subst ho
          have k2 := hh.kept 2 (by simp)
          simp at k2
          go_simp
          exact ⟨_, rfl, HI.out.skip 2 (by omega) _ rfl⟩
        · simp only [List.getElem?_cons_zero, List.getElem?_cons_succ, Option.some.injEq] at ho
          subst ho
          have l2 : L.getD 2 false = true := HD.out ⟨2, .data⟩ (by simp) rfl
          have g2 := hh.got 2 _ 35 rfl rfl l2 (by simp)
          rw [HI.out.known 2 (by omega) l2] at g2
          simp [bgK] at g2
          go_simp
          exact ⟨_, rfl, HI.out.skip 3 (by omega) _ rfl⟩
        · simp only [List.getElem?_cons_zero, List.getElem?_cons_succ, Option.some.injEq] at ho
          subst ho
          have l3 : L.getD 3 false = true := HD.out ⟨3, .data⟩ (by simp) rfl
          have g3 := hh.got 3 _ 36 rfl rfl l3 (by simp)
          rw [HI.out.known 3 (by omega) l3] at g3
          simp [bgK] at g3
          go_simp
          exact ⟨_, rfl, HI.out.skip 4 (by omega) _ rfl⟩
        · simp only [List.getElem?_cons_zero, List.getElem?_cons_succ, Option.some.injEq] at ho
          subst ho
          have l4 : L.getD 4 false = true := HD.out ⟨4, .data⟩ (by simp) rfl
          have g4 := hh.got 4 _ 37 rfl rfl l4 (by simp)
          rw [HI.out.known 4 (by omega) l4] at g4
          simp [bgK] at g4
          go_simp
          exact ⟨_, rfl, HI.out.make hs9 HLF.out⟩
        · simp only [List.getElem?_cons_zero, List.getElem?_cons_succ, Option.some.injEq] at ho
          subst ho
          go_simp
          exact ⟨_, rfl, HI.out.al hs9 HLF.out⟩
        · simp only [List.getElem?_cons_zero, List.getElem?_cons_succ, Option.some.injEq] at ho
          subst ho
          have l1 : L.getD 1 false = true := HD.out ⟨1, .data⟩ (by simp) rfl
          have g1 := hh.got 1 _ 34 rfl rfl l1 (by simp)
          go_simp
          exact ⟨_, rfl, HI.out.asg hs9 l1⟩
        · simp only [List.getElem?_cons_zero, List.getElem?_cons_succ, Option.some.injEq] at ho
          subst ho
          have l5 : L.getD 5 false = true := HD.out ⟨5, .data⟩ (by simp) rfl
          have g5 := hh.got 5 _ 38 rfl rfl l5 (by simp)
          have l6 : L.getD 6 false = true := HD.out ⟨6, .data⟩ (by simp) rfl
          have g6 := hh.got 6 _ 10 rfl rfl l6 (by simp)
          obtain ⟨q1, q2, u, q3, _⟩ := HI.out.o6 l6
          have q4 : W.cell? ⟨vbR (val 6), 0, none⟩ = some u ∧ W.frozen? ⟨vbR (val 6), 0, none⟩ = false := by simp [World.cell?, World.frozen?, q3]
          obtain ⟨q5, q6⟩ := q4
          rw [q1] at g6
          have hq := HI.out.st hs9 l5 l6 undef
          have p5 := (HI.out.o5 l5).1
          obtain ⟨x5, hx5⟩ : ∃ x, x = vbR (val 5) := ⟨_, rfl⟩
          rw [← hx5] at p5
          rw [p5] at hq g5
          have HQ := Lib.hid hq
          clear q1 q2 q3 hq p5 hx5
          go_simp
          exact ⟨undef, HQ.out⟩
      case dn =>
        intro val W b' hI hh hbs
        have hb := has_all (by kernel_rfl) hh hbs
        obtain ⟨mb, sl, nn, x1, hW, hmb, n5, n6⟩ := hI.o1 (by simp)
        obtain ⟨x5, hB5, l5, n56⟩ := hI.o5 (by simp)
        obtain ⟨x6, l6, u, hu, gu⟩ := hI.o6 (by simp)
        obtain ⟨_, x7⟩ := hI.o7 (by simp)
        obtain rfl := gu (by simp)
        have kn0 := hI.known 0 (by omega) (by simp)
        have kn2 := hI.known 2 (by omega) (by simp)
        have kn3 := hI.known 3 (by omega) (by simp)
        have kn4 := hI.known 4 (by omega) (by simp)
        simp only [bgK] at kn0 kn2 kn3 kn4
        obtain ⟨g, hg⟩ : ∃ g, g = vbR (val 5) := ⟨_, rfl⟩
        obtain ⟨p, hp⟩ : ∃ p, p = vbR (val 6) := ⟨_, rfl⟩
        rw [← hg] at x5 hB5 l5 n5 n56
        rw [← hp] at x6 l6 hu n6 n56
        rw [x5] at hu
        rw [x1] at x7
        have w8 : ∀ a : Act, a.put none (val 8) = a := fun a => rfl
        simp only [puts, x5, x6, x7, x1, w8, kn0, kn2, kn3, kn4] at hb
        have N5 := n5 (by simp)
        have N6 := n6 (by simp)
        have N56 := n56 (by simp)
        have HW := Lib.hid hW
        have H5 := Lib.hid hB5
        have HU := Lib.hid hu
        have HBW := Lib.hid (HB.out.trans (hI.bel.mono (by have := HB.out.size; omega)) : Below w.heap.size w W)
        have hzW : wr.heap.size ≤ W.heap.size := hI.bel.size
        have hzw : w.heap.size ≤ wr.heap.size := HB.out.size
        clear hI hh hbs hW hB5 hu x1 x5 x6 x7 kn0 kn2 kn3 kn4 w8 hg hp n5 n6 n56 gu
        subst hb
        simp only [Act.put, List.setIfInBounds_toArray, List.set_cons_succ, List.set_cons_zero]
        have hgW := H5.out.lt
        have hpW : p < W.heap.size := (Array.getElem?_eq_some_iff.1 HU.out).1
        gi_wp2_with (refine ⟨trivial, rfl, ?_⟩; gi_at_call 76; refine (callsIn_wide.2 (HCL.out _ HBW.out)).mono ?_; rintro e w3 ⟨v3, rfl, hown, hb3⟩; rw [← HM.out] at hown; obtain ⟨a3, c3, rfl⟩ := ownsRow_sl hown; have OW := Lib.hid hown; have H53 := Lib.hid (H5.out.of_block (hb3.block _ hgW)); have HU3 := Lib.hid ((hb3.block _ hpW).trans HU.out); have HW3 := Lib.hid (HW.out.keep fun b hb => hb3.block b (HW.out.own hb).2); have HB3 := Lib.hid (HBW.out.trans (hb3.mono (by omega)) : Below w.heap.size w w3); have hz3 := hb3.size; clear hown hb3)
        obtain ⟨base, hbase⟩ : ∃ base, base = W.heap.size := ⟨_, rfl⟩
        obtain ⟨q, hq⟩ : ∃ q, q = w3.heap.size := ⟨_, rfl⟩
        rw [← hbase] at OW
        have hS : MdS k mb g p q base w.heap.size sl := ⟨by omega, by omega, by omega, by omega, by omega, fun b hb => by have := (HW.out.own hb).2; omega, by omega, fun e => N56 e.symm, N5⟩
        have hr3 := OW.out
        have hM0 : MdR k mb nn g p q base n.ss sl (fzs zs 0) (.slice a3 m c3) zs [] w (w3.alloc (.cells #[.slice a3 m c3] 44)) := by
          have hl : zs.length = m := HM.out.symm
          refine ⟨HW3.out.keep fun b hb => Below.heap_alloc _ _ _ (HW3.out.own hb).2, (H53.out.of_block (Below.heap_alloc _ _ _ H53.out.lt)), (Below.heap_alloc _ _ _ (lt_of_block HU3.out)).trans HU3.out, by rw [hq]; exact alloc_new_at _ _ _ rfl, by rw [hl]; exact hr3.alloc _, fun e => ?_, fun D hD => by simp at hD, HB3.out.alloc (by have := HB3.out.size; omega) _⟩
          have := (hr3.lt q e).2
          omega
        have HS := Lib.hid hS
        have HM0 := Lib.hid hM0
        have hz4 : base ≤ (w3.alloc (.cells #[.slice a3 m c3] 44)).heap.size ∧ q < (w3.alloc (.cells #[.slice a3 m c3] 44)).heap.size := by rw [World.size_alloc]; omega
        generalize w3.alloc (.cells #[.slice a3 m c3] 44) = w4 at *
        rw [← hq]
        have HZ4 := Lib.hid hz4
        have hSg := hS.gb
        have HSG := Lib.hid hSg
        clear hS hM0 hr3 OW H53 HU3 HW3 HB3 hz3 HW HBW H5 HU N5 N6 N56 hbase hq hgW hpW hzW hzw hz4 hSg hmb l5 l6
        gi_loopw [43] (fun s43 wr => ∃ j : Nat, j ≤ m ∧ s43 = .int .i64 j ∧ MdR k mb nn g p q base n.ss sl (fzs zs j) (.slice a3 m c3) zs [] w wr) (fun s43 _ => m - (intOf s43).toNat)
        case atStart => exact ⟨0, Nat.zero_le _, rfl, HM0.out⟩
        case round =>
          obtain ⟨j, hj, rfl, hI⟩ := hrel
          have hj0 : (0 : Int) ≤ (j : Int) := Int.natCast_nonneg _
          have HI := Lib.hid hI
          by_cases hlt : j < m
          · have hj1 : ((j : Int) < (m : Int)) = True := by simp; omega
            obtain ⟨tb, to, rfl, hct, htb0, hzm⟩ := HTL.out j hlt
            obtain ⟨z, hz⟩ : ∃ z, z = zs[j]?.getD 0 := ⟨_, rfl⟩
            have hzj : zs[j]? = some z := by have := HM.out; rw [hz, List.getElem?_eq_getElem (by omega)]; rfl
            rw [← hz] at hct hzm
            have hc1 := (hI.bel.cell (p := ⟨tb, to + j, none⟩) htb0).trans hct
            obtain ⟨_, _⟩ := cells1 hI.pbox
            have HZJ := Lib.hid hzj
            have HZM := Lib.hid hzm
            by_cases hz0 : 0 ≤ z
            · have hzk : z < (k : Int) := by have := HZK.out z hzm; omega
              have hzn : z.toNat < k := by omega
              obtain ⟨_, _⟩ := hI.bools.cell hzn
              clear hct hz hzj hzm hI
              gi_wp2
              go_roundw
              case rel => exact ⟨j + 1, hlt, by go_num, by rw [← fzs_pos HZJ.out hz0]; exact HI.out.mark HS.out hzn⟩
              case measure => simp [intOf]; omega
            · clear hct hz hzj hzm hI
              gi_wp2
              go_roundw
              case rel => exact ⟨j + 1, hlt, by go_num, by rw [← fzs_neg HZJ.out hz0]; exact HI.out⟩
              case measure => simp [intOf]; omega
          · obtain rfl : m = j := by omega
            clear hI hlt hj
            gi_wp2
            have HK0 := Lib.hid (fzs_start (ss := n.ss) (k := k) HM.out.symm)
            refine wpIn_loop (fun A W' => ∃ (f : Nat → Bool) (work : List Int) (v : Value) (Ds : List Nat), A.tmps.size = 91 ∧ A.tmps.getD 9 undef = .map (some mb) ∧ A.tmps.getD 10 undef = .pointer (some ⟨p, 0, none⟩) ∧ A.tmps.getD 11 undef = .pointer (some ⟨q, 0, none⟩) ∧ A.defers = Ds.map mark ∧ Ds.Nodup ∧ (∀ D ∈ Ds, w.heap.size ≤ D) ∧ WkI n.ss zs k f work none ∧ 2 * offN f k + work.length ≤ 4000 ∧ MdR k mb nn g p q base n.ss sl f v work Ds w W') (fun A W' => 2 * offN (bW W' g) k + lenW W' q) ⟨fzs zs m, zs, .slice a3 m c3, [], by simp, by simp, by simp, by simp, rfl, List.nodup_nil, fun D hD => by simp at hD, HK0.out, by have := offN_le (fzs zs m) k; have := HM.out; omega, HI.out⟩ ?_
            rintro ⟨tm, df⟩ W' ⟨f, work, v, Ds, e91, e9, e10, e11, edf, hnd, hDs, hK, hle, hM⟩
            obtain ⟨T, rfl⟩ := arr91T e91 e9 e10 e11
            have edf : df = Ds.map mark := edf
            subst edf
            clear e91 e9 e10 e11
            have HND := Lib.hid hnd
            have HDS := Lib.hid hDs
            clear hnd hDs
            obtain ⟨_, _⟩ := cells1 hM.pbox
            rcases List.eq_nil_or_concat work with rfl | ⟨rest, x, hwx⟩
            · obtain ⟨av, cv, rfl⟩ := ownsRow_sl (n := 0) hM.row
              obtain ⟨_, _⟩ := cells1 hM.qbox
              have HM' := Lib.hid hM
              have HK := Lib.hid hK
              clear hM hK
              gi_wp2
              refine leaves_marks Ds _ HM'.out.marks HND.out (fun w' e1 e2 e3 e4 e5 => ?_)
              have hgD : g ∉ Ds := fun hD => by
                have h1 := HM'.out.marks g hD
                obtain ⟨cur, h2, _⟩ := HM'.out.bools
                rw [h2] at h1; cases h1
              refine ⟨.tuple #[.slice (some ⟨g, 0, none⟩) k k, .int .i64 0], ?_, ⟨g, rfl, ?_, ?_⟩⟩
              · simp [results, Try.results32, go_sem]
              · obtain ⟨cur, h1, h2⟩ := HM'.out.bools.of_block (e5 g hgD)
                exact ⟨cur, h1, fun r hr => by rw [h2 r hr, rchB_iff (HK.out.final (fun s hs => ⟨(HSO.out s hs).2.1, (HSO.out s hs).2.2⟩) r hr)]⟩
              · exact HM'.out.bel.trans ⟨e1, e2, e3, by omega, fun b hb => e5 b fun hD => by have := HDS.out b hD; omega⟩
            · rw [List.concat_eq_append] at hwx
              subst hwx
              have hlen : (rest ++ [x]).length = rest.length + 1 := by simp
              have hrow := hM.row
              rw [hlen] at hrow
              obtain ⟨gr, cv, rfl, hcv⟩ := own_form2 hrow (by omega)
              obtain ⟨nr, hnr⟩ : ∃ nr, nr = rest.length := ⟨_, rfl⟩
              rw [← hnr] at hrow hM
              obtain ⟨_, _⟩ := cells1 hM.qbox
              have hx1 : W'.cell? ⟨gr, nr, none⟩ = some (.int .i64 x) := by rw [hrow.cellAt nr (by omega), hnr]; simp
              have hpop : W'.ownsRow base 3 1 (.slice (some ⟨gr, 0, none⟩) nr cv) nr (rest.map (Value.int .i64)) := ownsRow_pop (last := [.int .i64 x]) (by simp [hnr]) (by simpa using hrow)
              have HM' := Lib.hid hM
              have HK := Lib.hid hK
              have HPOP := Lib.hid hpop
              have HNR := Lib.hid hnr
              have hnr2 : (nr : Int) ≤ 4000 := by rw [hlen] at hle; omega
              have HLE := Lib.hid hle
              have hcv1 : nr ≤ cv := by omega
              have hcv2 : (cv = 0) = False := by simp; omega
              have hnr0 : (0 : Int) ≤ (nr : Int) := Int.natCast_nonneg _
              have hnr1 : ((nr : Int) + 1 > 0) = True := eq_true (by omega)
              clear hM hK hlen hrow hpop hnr hle hcv
              gi_wp2_with (refine ⟨trivial, rfl, ?_⟩; gi_at_call 77; refine (callsIn_wide.2 (from_any mb x _)).mono ?_; rintro e w5 ⟨rfl, rfl⟩)
              obtain ⟨W2, hW2⟩ : ∃ W2, W'.setCell ⟨q, 0, none⟩ (.slice (some ⟨gr, 0, none⟩) nr cv) = W2 := ⟨_, rfl⟩
              have hz2 : W2.heap.size = W'.heap.size := by rw [← hW2]; simp
              have hqw : w.heap.size ≤ q := by have := HS.out.gB; have := HS.out.gb; have := HS.out.qb; omega
              have hM2 : MdR k mb nn g p q base n.ss sl f (.slice (some ⟨gr, 0, none⟩) nr cv) rest Ds w W2 := by
                rw [← hW2]
                exact HM'.out.qset HS.out hqw (by rw [← HNR.out]; exact HPOP.out) (fun e => HM'.out.rq (by simpa [Value.ownBlock] using e))
              obtain ⟨W3, hW3⟩ : ∃ W3, (W2.alloc (.cells #[.map (some mb)] 100)).alloc (.cells #[.int .i64 x] 3) = W3 := ⟨_, rfl⟩
              have b1 : W3.heap[W'.heap.size]? = some (.cells #[.map (some mb)] 100) := by rw [← hW3, Below.heap_alloc _ _ _ (by simp; omega)]; exact alloc_new_at _ _ _ hz2.symm
              have b2 : W3.heap[W'.heap.size + 1]? = some (.cells #[.int .i64 x] 3) := by rw [← hW3]; exact alloc_new_at _ _ _ (by simp; omega)
              have b4 : W3.heap.size = W'.heap.size + 2 := by rw [← hW3]; simp; omega
              have hM3 : MdR k mb nn g p q base n.ss sl f (.slice (some ⟨gr, 0, none⟩) nr cv) rest Ds w W3 := by rw [← hW3]; exact hM2.world (((Below.refl _ _).alloc (Nat.le_refl _) _).alloc (by simp) _)
              rw [hW2, hW3]
              have hrx := rch_range HZR.out HSO.out p1 (HK.out.works x (by simp))
              have hG := from1_gives W'.heap.size (W'.heap.size + 1) mb (mb + 1) nn n.ss sl x (HWF.out x hrx.1 hrx.2) (ofSrc_le _ _ (by have := HMM.out; omega)) W3 b1 b2 hM3.wires
              have hL : ∀ b, (b = g ∨ b = p ∨ b = q ∨ WOwn mb sl b ∨ b = gr ∨ b ∈ Ds) → b < W'.heap.size := fun b hb => HM'.out.lt (by
                rcases hb with h | h | h | h | h | h
                · exact .inl h
                · exact .inr (.inl h)
                · exact .inr (.inr (.inl h))
                · exact .inr (.inr (.inr (.inl h)))
                · exact .inr (.inr (.inr (.inr (.inl (by rw [h]; rfl)))))
                · exact .inr (.inr (.inr (.inr (.inr h)))))
              have hgrb : base ≤ gr := (HM'.out.row.lt gr rfl).1
              have hgrq : gr ≠ q := fun e => HM'.out.rq (by rw [e]; rfl)
              obtain ⟨M, hMM⟩ : ∃ M, M = 2 * offN f k + rest.length := ⟨_, rfl⟩
              have hI0 : RgI k mb nn g p q base gr W3.heap.size M n.ss sl zs x Ds w (fun _ => False) 0 W3 :=
                ⟨f, _, rest, hM3, HK.out.pop, fun s hs => by simp at hs, by omega, fun b e => .inl (by simpa [Value.ownBlock] using e.symm)⟩
              have hwW := HM'.out.bel.size
              have HI0 := Lib.hid hI0
              have HL := Lib.hid hL
              have HM3 := Lib.hid hM3
              have HMM1 := Lib.hid hMM
              have HB4 := Lib.hid b4
              clear hW2 hW3 hM2 hM3 b1 b2 hI0 hL hMM
              refine wp_range1 (gf := 108) rfl entersFrom hG (Nat.le_refl _) (fun b hb => ⟨?hc, rfl⟩) (fun _ => rfl) (fun b => b = g ∨ b = q ∨ b = gr) (fun b hb => ⟨fun hc => ?ho, ?hl⟩)
                (fun G j A => RgI k mb nn g p q base gr W3.heap.size M n.ss sl zs x Ds w G j A) (fun _ _ _ _ => False) (fun G j A A' hi hb => hi.stab (fun b hb' => by have := HL.out b hb'; have := HB4.out; omega) (by have := HB4.out; omega) hb) (fun _ _ _ _ _ hi _ => hi) HI0.out ?hround ?hdone ?hstop
              case hc =>
                have := HB4.out
                rcases hb with rfl | rfl | hb | hb
                · omega
                · omega
                · have := HL.out b (.inr (.inr (.inr (.inl (.inl hb))))); omega
                · have := HL.out b (.inr (.inr (.inr (.inl (.inr ⟨x, hb⟩))))); omega
              case hl =>
                have := HB4.out
                rcases hb with rfl | rfl | rfl
                · have := HL.out b (.inl rfl); omega
                · have := HL.out b (.inr (.inr (.inl rfl))); omega
                · have := HL.out b (.inr (.inr (.inr (.inr (.inl rfl))))); omega
              case ho =>
                have hS := HS.out
                have hqb := hS.qb
                have hgb := hS.gb
                have hbw : b < W'.heap.size := by
                  rcases hb with rfl | rfl | rfl
                  · exact HL.out _ (.inl rfl)
                  · exact HL.out _ (.inr (.inr (.inl rfl)))
                  · exact HL.out _ (.inr (.inr (.inr (.inr (.inl rfl)))))
                have hw : WOwn mb sl b → False := fun h => by
                  have := hS.wb b h
                  rcases hb with rfl | rfl | rfl
                  · exact hS.gw h
                  · omega
                  · omega
                rcases hc with rfl | rfl | hc | hc
                · omega
                · omega
                · exact hw (.inl hc)
                · exact hw (.inr ⟨x, hc⟩)
              case hstop =>
                intro D c G j W6 _ _ _ _ hi _
                exact hi.elim
              case hdone =>
                rintro D G W6 hD hnG hGb hI6 hKD
                obtain ⟨f6, v6, work6, hM6, hK6, hT6, hle6, _⟩ := hI6.ex
                have HM6 := Lib.hid hM6
                have HK6 := Lib.hid hK6
                have HT6 := Lib.hid hT6
                have HKD := Lib.hid hKD
                have HB := HB4.out
                clear hI6 hM6 hK6 hT6 hKD hG hnG hGb
                gi_wp2
                refine ⟨⟨f6, work6, v6, D :: Ds, by simp, by simp, by simp, by simp, by simp [mark], List.nodup_cons.2 ⟨fun h => by have := HL.out D (.inr (.inr (.inr (.inr (.inr h))))); omega, HND.out⟩, ?_, ?_, ?_, ?_⟩, ?_⟩
                · intro D' hD'
                  rcases List.mem_cons.1 hD' with rfl | h
                  · omega
                  · exact HDS.out D' h
                · refine HK6.out.close (doneR_all fun s hs hw => HT6.out s ?_ hw)
                  rw [List.take_length]; exact hs
                · have := HLE.out
                  have := HMM1.out
                  simp at this ⊢
                  simp at *
                  omega
                · have h6 := HM6.out
                  refine ⟨h6.wires, h6.bools, h6.pbox, h6.qbox, h6.row, h6.rq, fun D' hD' => ?_, h6.bel⟩
                  rcases List.mem_cons.1 hD' with rfl | h
                  · exact HKD.out
                  · exact h6.marks D' h
                · rw [HM6.out.measure]
                  have h1 := HM'.out.measure
                  rw [List.length_append] at h1
                  rw [h1]
                  have := HMM1.out
                  simp
                  omega
              case hround =>
                rintro l2 G j s A hl2 hGb hszA hIj hx
                have hsm := List.mem_of_getElem? hx
                have hsS := List.mem_filter.1 hsm
                have hfr : s.fr = x := by simpa using hsS.2
                have hso := HSO.out s hsS.1
                have HX := Lib.hid hx
                have HFR := Lib.hid hfr
                have HSM := Lib.hid hsS.1
                clear hx hG hfr hsS hsm
                unfold encS
                gi_wp2
                refine ⟨(Bel.refl _ _ _).alloc (Nat.le_refl _) _, ?_⟩
                rintro W4 hsW hI4
                have bA : W4.heap[A.heap.size]? = some (.cells #[.int .i64 s.fr, .int .i64 s.to, .int .i64 s.wt, .int .i64 s.dl] 96) := (hsW.cells _ ⟨_, _, _, World.alloc_heap_new _ _⟩).trans (World.alloc_heap_new _ _)
                obtain ⟨f4, v4, work4, hM4, hK4, hT4, hle4, hv4⟩ := hI4.ex
                obtain ⟨n4, hn4⟩ : ∃ n4, n4 = work4.length := ⟨_, rfl⟩
                obtain ⟨a4, c4, rfl⟩ := ownsRow_sl hM4.row
                have hrow4 := hM4.row
                rw [← hn4] at hM4 hrow4 hv4
                obtain ⟨t, ht⟩ : ∃ t, t = s.to.toNat := ⟨_, rfl⟩
                have htk : t < k := by rw [ht]; exact hso.2.2
                have ht0 : 0 ≤ s.to := hso.2.1
                have ht1 : s.to < (k : Int) := by omega
                have hno : (s.wt = 0 ∨ f4 t = true) → RgI k mb nn g p q base gr W3.heap.size M n.ss sl zs x Ds w G (j + 1) W4 := fun h => ⟨f4, _, work4, hM4, hK4, fun s' hs' hw' => by
                  rw [List.take_add_one, HX.out] at hs'
                  rcases List.mem_append.1 hs' with h1 | h1
                  · exact hT4 s' h1 hw'
                  · obtain rfl : s' = s := by simpa using h1
                    rcases h with h | h
                    · exact absurd h hw'
                    · rw [← ht]; exact h, hle4, hv4⟩
                have HNO := Lib.hid hno
                have HSW := Lib.hid hsW
                have HGB := Lib.hid hGb
                have HM4 := Lib.hid hM4
                have HK4 := Lib.hid hK4
                have HT4 := Lib.hid hT4
                have HLE4 := Lib.hid hle4
                have HV4 := Lib.hid hv4
                have HN4 := Lib.hid hn4
                have HT := Lib.hid ht
                have HROW4 := Lib.hid hrow4
                have hzA : A.heap.size + 1 = W4.heap.size := by have := hsW.size; rw [World.size_alloc] at this; omega
                have HG0 : Hid (Grew G G A.heap.size W4) := Lib.hid ⟨fun _ h => h, fun _ h => Or.inl h, fun b hb => by have := (hGb b hb).2; omega⟩
                have htz : s.to.toNat = t := ht.symm
                obtain ⟨x0, x1, x2, x3⟩ := cells4 bA
                obtain ⟨_, _⟩ := cells1 hM4.pbox
                obtain ⟨_, _⟩ := cells1 hM4.qbox
                obtain ⟨_, _⟩ := hM4.bools.cell htk
                clear hno hsW hGb hM4 hK4 hT4 hle4 hv4 hn4 ht hrow4 hI4 hIj hso
                by_cases hw : s.wt = 0
                · rw [hw] at x2
                  clear bA
                  gi_wp2
                  exact ⟨G, HG0.out, HNO.out (.inl hw), Bel.refl _ _ _⟩
                · have hw1 : (s.wt != 0) = true := by simp [hw]
                  have hw2 : (s.wt = 0) = False := eq_false hw
                  by_cases hf : f4 t = true
                  · have HF := Lib.hid hf
                    clear bA hw
                    gi_wp2
                    exact ⟨G, HG0.out, HNO.out (.inr HF.out), Bel.refl _ _ _⟩
                  · have hf' : f4 t = false := by simpa using hf
                    have HBA := Lib.hid bA
                    clear bA hw hf
                    have hgq : g ≠ q := by have := HS.out.gb; have := HS.out.qb; omega
                    have hqg : q ≠ g := hgq.symm
                    have hgA : g < A.heap.size := by have := HL.out g (.inl rfl); have := HB4.out; omega
                    have hgA1 : g ≠ A.heap.size := by omega
                    have hgA2 : A.heap.size ≠ g := by omega
                    gi_upto_region 26 with fail
                    obtain ⟨W5, hW5⟩ : ∃ W5, W4.setCell ⟨g, t, none⟩ (.bool true) = W5 := ⟨_, rfl⟩
                    have hM5 : MdR k mb nn g p q base n.ss sl (markF f4 t) (.slice a4 n4 c4) work4 Ds w W5 := by rw [← hW5]; exact HM4.out.mark HS.out htk
                    have hrow5 : W5.ownsRow base 3 1 (.slice a4 n4 c4) n4 (work4.map (Value.int .i64)) := by rw [HN4.out]; have := hM5.row; rw [HN4.out] at this; exact this
                    have hA5 : W5.heap[A.heap.size]? = some (.cells #[.int .i64 s.fr, .int .i64 s.to, .int .i64 s.wt, .int .i64 s.dl] 96) := by rw [← hW5]; exact (Below.heap_setCell _ _ _ _ (by exact hgA2)).trans HBA.out
                    have hB5 : Bel (fun b => (b = g ∨ b = q ∨ b = gr) ∨ G b) A.heap.size W4 W5 := by rw [← hW5]; exact (Bel.refl _ _ _).setCell (p := ⟨g, t, none⟩) (Or.inl (Or.inl (Or.inl rfl))) _
                    have hz5 : W5.heap.size = W4.heap.size := by rw [← hW5]; simp
                    have hbz5 : base ≤ W5.heap.size ∧ q < W3.heap.size := by have := HL.out q (.inr (.inr (.inl rfl))); have := HS.out.qb; have := HB4.out; omega
                    rw [hW5]
                    obtain ⟨_, _, _, _⟩ := cells4 hA5
                    obtain ⟨_, _⟩ := cells1 hM5.qbox
                    have hn4b : n4 ≤ 5000 := by have := HLE4.out; have := HMM1.out; have := HLE.out; have := HN4.out; simp at *; omega
                    have HW5 := Lib.hid hW5
                    have HM5 := Lib.hid hM5
                    have HR5 := Lib.hid hrow5
                    have HA5 := Lib.hid hA5
                    have HB5 := Lib.hid hB5
                    have HZ5 := Lib.hid hz5
                    have HZA := Lib.hid hzA
                    have hA5z : A.heap.size < W5.heap.size := by omega
                    clear hW5 hM5 hrow5 hA5 hB5 hz5 hzA x0 x1 x2 x3
                    obtain ⟨i0, hi, hz0, hzz1, hzz2⟩ := info_parts Try.info3
                    gi_wp2_with (gi_at_builtin; refine wpListIn_append_where _ rfl _ _ 44 rfl base 3 i0 (.int .i64 0) 1 8 Try.underlying44 hi hz0 hzz1 hzz2 rfl (by decide) (.slice a4 n4 c4) _ _ rfl (HR5.out.alloc _) ⟨W5.heap.size, 0, none⟩ 1 1 (by decide) [.int .i64 s.to] rfl rfl (cell_one_new _ _ _) (by simp [Value.oneCell']) (by unfold maxLen; omega) (by omega) (by simp; omega) ?_; intro v' w6 hown' hgrow hwhere; obtain ⟨g6, c6, rfl⟩ := ownsRow_succ hown'; have HO := Lib.hid hown'; have HGR := Lib.hid hgrow; have HWH := Lib.hid hwhere; have hq6 := (hgrow.block q (by rw [World.size_alloc]; omega) (fun e => HM5.out.rq e.symm)).trans ((Below.heap_alloc _ _ _ (by omega)).trans HM5.out.qbox); obtain ⟨_, _⟩ := cells1 hq6; clear hown' hgrow hwhere hq6)
                    have hqs : w.heap.size ≤ base := by have := HS.out.gB; have := HS.out.gb; omega
                    have hq' : (Value.slice (some ⟨g6, 0, none⟩) (n4 + 1) c6).ownBlock ≠ some q := fun e => by
                      rcases HWH.out with h | h
                      · exact HM5.out.rq (h.symm.trans e)
                      · rw [e, World.size_alloc] at h
                        have := Option.some.inj h
                        omega
                    have hM6 := (HM5.out.world ((Below.refl _ _).alloc (Nat.le_refl _) (.cells #[.int .i64 s.to] 3))).grow (work' := work4 ++ [s.to]) HS.out hqs HGR.out (by have := HO.out; rw [HN4.out] at this; simpa [HN4.out] using this) hq'
                    have hk6 := HK4.out
                    rw [← HFR.out] at hk6
                    have hk7 := hk6.push HSM.out (of_eq_false hw2) ht0
                    rw [HFR.out, htz] at hk7
                    have hof := offN_mark hf' k htk
                    have hg6 : g6 < w6.heap.size := (HO.out.lt g6 rfl).2
                    refine ⟨fun b => G b ∨ (A.heap.size ≤ b ∧ b < w6.heap.size), ⟨fun _ h => .inl h, fun _ h => h.imp id (fun h => h.1), fun b hb => ?_⟩, ⟨_, _, _, hM6, hk7, fun s' hs' hw' => ?_, ?_, fun b hb => ?_⟩, ?_⟩
                    · have : b < w6.heap.size := by
                        rcases hb with h | h
                        · have := (HGB.out b h).2; have := HGR.out.size; rw [World.size_alloc] at this; omega
                        · exact h.2
                      simpa [World.setCell] using this
                    · rw [List.take_add_one, HX.out] at hs'
                      rcases List.mem_append.1 hs' with h1 | h1
                      · exact markF_up (HT4.out s' h1 hw')
                      · obtain rfl : s' = s := by simpa using h1
                        unfold markF; rw [if_pos htz]
                    · have := HLE4.out
                      rw [List.length_append]
                      simp
                      omega
                    · rcases HWH.out with h | h
                      · rw [hb] at h
                        rcases HV4.out b h.symm with h | h
                        · exact .inl h
                        · exact .inr (.inl h)
                      · have hb2 : g6 = b := by simpa [Value.ownBlock] using hb
                        rw [hb, World.size_alloc] at h
                        have := Option.some.inj h
                        exact .inr (.inr ⟨by omega, by omega⟩)
                    · refine (((HB5.out.alloc (by omega) _).grown HGR.out (by rw [World.size_alloc]; omega) (fun b e => .inl ?_))).setCell (p := ⟨q, 0, none⟩) (Or.inl (Or.inl (Or.inr (Or.inl rfl)))) _
                      rcases HV4.out b e with h | h
                      · exact .inl (.inr (.inr h))
                      · exact .inr h
theorem nreach_ok (n : NetM) (hok : ncheck n = 0) (a1 a2 : Option Addr) (c1 c2 k mm : Nat) (inp : Int) (hk : k = n.ps.length) (hmm : mm = n.ss.length) (hinp : inp = n.inp) (zs : List Int) (hz : ∀ z ∈ zs, srcOk k inp z = true) (sa : Option Addr) (m cap : Nat) (hm : m = zs.length) (hm2 : m ≤ 100) (w : World)
    (hp : PsAt w (.slice a1 k c1) n.ps) (hs : SsAt w (.slice a2 mm c2) n.ss) (hI : IntsAt w (.slice sa m cap) zs) :
    Calls Try.prog 32 #[.agg #[.slice a1 k c1, .int .i64 inp, .slice a2 mm c2], .slice sa m cap] w (ReachOk n zs w) :=
  callsIn_wide.1 (nreach_in n hok a1 a2 c1 c2 k mm inp hk hmm hinp zs hz sa m cap hm hm2 w hp hs hI)
end Go.Proofs.Ytgbcdebnanejpaa
namespace Go.Proofs.Ytgbcdebnanejpaa
set_option linter.unusedVariables false
open Go.RowKit Go.Shelf

def rcE (n : NetM) (zs : List Int) : Int := if ncheck n = 0 then (if zs.all (srcOk n.ps.length n.inp) = true then 0 else 3) else ncheck n
def rcN (n : NetM) (zs : List Int) : Nat := if rcE n zs = 0 then n.ps.length else 0
def RcOut (n : NetM) (zs : List Int) (w : World) (e : Ending) (w' : World) : Prop :=
  ∃ a, e = .returned (.tuple #[.slice a (rcN n zs) (rcN n zs), .int .i64 (rcE n zs)]) ∧ (rcN n zs = 0 ∨ ∃ g, a = some ⟨g, 0, none⟩ ∧ BoolsAt w' g (rcN n zs) (rchB n.ss zs)) ∧ Below w.heap.size w w'
theorem first_bad (p : Int → Bool) : ∀ zs : List Int, zs.all p = false → ∃ f, f < zs.length ∧ p (zs[f]?.getD 0) = false ∧ ∀ j, j < f → p (zs[j]?.getD 0) = true
  | [], h => by simp at h
  | z :: zs, h => by
    by_cases hz : p z = true
    · have h' : zs.all p = false := by simpa [hz] using h
      obtain ⟨f, h1, h2, h3⟩ := first_bad p zs h'
      refine ⟨f + 1, by simpa using h1, by simpa using h2, fun j hj => ?_⟩
      cases j with
      | zero => simpa using hz
      | succ j => simpa using h3 j (by omega)
    · exact ⟨0, by simp, by simpa using hz, fun j hj => by omega⟩
theorem rcOut_err {n : NetM} {zs : List Int} {w w' : World} {e : Ending} {c : Int} (hc : rcE n zs = c) (h0 : c ≠ 0) (h : ReachErr c w e w') : RcOut n zs w e w' := by
  have hn : rcN n zs = 0 := by unfold rcN; rw [hc, if_neg h0]
  obtain ⟨rfl, hb⟩ := h
  exact ⟨none, by rw [hn, hc], .inl hn, hb⟩
theorem rcOut_ok {n : NetM} {zs : List Int} {w w' : World} {e : Ending} (hc : rcE n zs = 0) (h : ReachOk n zs w e w') : RcOut n zs w e w' := by
  have hn : rcN n zs = n.ps.length := by unfold rcN; rw [if_pos hc]
  obtain ⟨g, rfl, h1, hb⟩ := h
  exact ⟨_, by rw [hn, hc], .inr ⟨g, rfl, by rw [hn]; exact h1⟩, hb⟩
theorem rcE_cases (n : NetM) (zs : List Int) : (ncheck n ≠ 0 ∧ rcE n zs = ncheck n) ∨ (ncheck n = 0 ∧ rcE n zs = 3 ∧ ∃ f, f < zs.length ∧ srcOk n.ps.length n.inp (zs[f]?.getD 0) = false ∧ ∀ j, j < f → srcOk n.ps.length n.inp (zs[j]?.getD 0) = true) ∨ (ncheck n = 0 ∧ rcE n zs = 0 ∧ ∀ z ∈ zs, srcOk n.ps.length n.inp z = true) := by
  unfold rcE
  by_cases h : ncheck n = 0
  · rw [if_pos h]
    by_cases h2 : zs.all (srcOk n.ps.length n.inp) = true
    · rw [if_pos h2]; exact .inr (.inr ⟨h, rfl, fun z hz => List.all_eq_true.1 h2 z hz⟩)
    · rw [if_neg h2]; exact .inr (.inl ⟨h, rfl, first_bad _ zs (by simpa using h2)⟩)
  · rw [if_neg h]; exact .inl ⟨h, rfl⟩
theorem nreach_any (n : NetM) (zs : List Int) (a1 a2 sa : Option Addr) (c1 c2 cap : Nat) (hm2 : zs.length ≤ 100) (w : World)
    (hp : PsAt w (.slice a1 n.ps.length c1) n.ps) (hs : SsAt w (.slice a2 n.ss.length c2) n.ss) (hI : IntsAt w (.slice sa zs.length cap) zs) :
    Calls Try.prog 32 #[.agg #[.slice a1 n.ps.length c1, .int .i64 n.inp, .slice a2 n.ss.length c2], .slice sa zs.length cap] w (RcOut n zs w) := by
  rcases rcE_cases n zs with ⟨h1, h2⟩ | ⟨h1, h2, f, h3, h4, h5⟩ | ⟨h1, h2, h3⟩
  · exact (nreach_err0 n h1 a1 a2 c1 c2 _ w hp hs).mono fun _ _ h => rcOut_err h2 h1 h
  · exact (nreach_err3 n h1 a1 a2 c1 c2 _ _ _ rfl rfl rfl zs f h3 h4 h5 sa _ cap rfl hm2 w hp hs hI).mono fun _ _ h => rcOut_err h2 (by omega) h
  · exact (nreach_ok n h1 a1 a2 c1 c2 _ _ _ rfl rfl rfl zs h3 sa _ cap rfl hm2 w hp hs hI).mono fun _ _ h => rcOut_ok h2 h
theorem rreach_any (n : NetM) (zs : List Int) (a1 a2 sa : Option Addr) (c1 c2 cap : Nat) (hm2 : zs.length ≤ 100) (w : World)
    (hp : PsAt w (.slice a1 n.ps.length c1) n.ps) (hs : SsAt w (.slice a2 n.ss.length c2) n.ss) (hI : IntsAt w (.slice sa zs.length cap) zs) :
    Calls Try.prog 33 #[.agg #[.slice a1 n.ps.length c1, .int .i64 n.inp, .slice a2 n.ss.length c2], .slice sa zs.length cap] w (RcOut n zs w) := by
  rcases rcE_cases n zs with ⟨h1, h2⟩ | ⟨h1, h2, f, h3, h4, h5⟩ | ⟨h1, h2, h3⟩
  · exact (rreach_err0 n h1 a1 a2 c1 c2 _ w hp hs).mono fun _ _ h => rcOut_err h2 h1 h
  · exact (rreach_err3 n h1 a1 a2 c1 c2 _ _ _ rfl rfl rfl zs f h3 h4 h5 sa _ cap rfl hm2 w hp hs hI).mono fun _ _ h => rcOut_err h2 (by omega) h
  · exact (rreach_ok n h1 a1 a2 c1 c2 _ _ _ rfl rfl rfl zs h3 sa _ cap rfl hm2 w hp hs hI).mono fun _ _ h => rcOut_ok h2 h
end Go.Proofs.Ytgbcdebnanejpaa
