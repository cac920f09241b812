/- net.Join. (mk_Je.py wrote this.) -/
import Derived.Test.YtgbcdebnanejpaaJd
import Derived.StillTailTactics
namespace Go.Proofs.Ytgbcdebnanejpaa.Rn
set_option linter.unusedVariables false
open Go.RowKit Go.Shelf

theorem below3 (w : World) (o1 o2 o3 : Obj) : Below w.heap.size w (((w.alloc o1).alloc o2).alloc o3) := (((Below.refl _ _).alloc (Nat.le_refl _) _).alloc (by simp) _).alloc (by simp; omega) _
theorem MidJ.below {w A A' : World} {B H gN : Nat} {ia ib I : Int} {v5 v16 a1 a2 b1 b2 : Value} {pl : List Prm} {Sl : List Syn} (h : MidJ w B H gN ia ib I v5 v16 a1 a2 b1 b2 pl Sl A) (hb : Below A.heap.size A A') : MidJ w B H gN ia ib I v5 v16 a1 a2 b1 b2 pl Sl A' := by
  have z0 : B < A.heap.size := lt_of_block h.boxa
  have z1 : B + 1 < A.heap.size := lt_of_block h.boxb
  have z2 : B + 1 + 1 < A.heap.size := lt_of_block h.box2
  have zN : gN < A.heap.size := lt_of_block h.box
  have e0 := hb.block _ z0
  have e1 := hb.block _ z1
  have e2 := hb.block _ z2
  have eN := hb.block _ zN
  have hB : Below B w A' := h.bel.trans (hb.mono (by omega))
  exact ⟨ownsRow_of_block h.row fun g hg => hb.block g (h.row.lt g hg).2, h.syn.of_block fun g _ hg => hb.block _ hg, eN.trans h.box, e0.trans h.boxa, e1.trans h.boxb, e2.trans h.box2, hB, h.loN, h.loB, h.n5N, h.n16N, h.n516⟩
theorem blk3c (w : World) (o1 o2 o3 : Obj) : (((w.alloc o1).alloc o2).alloc o3).heap[w.heap.size + 1 + 1]? = some o3 := alloc_new_at _ _ _ (by simp)
theorem blk3b (w : World) (o1 o2 o3 : Obj) : (((w.alloc o1).alloc o2).alloc o3).heap[w.heap.size + 1]? = some o2 := (Below.heap_alloc _ _ _ (by simp)).trans (alloc_new_at _ _ _ (by simp))
theorem blk3a (w : World) (o1 o2 o3 : Obj) : (((w.alloc o1).alloc o2).alloc o3).heap[w.heap.size]? = some o1 := (Below.heap_alloc _ _ _ (by simp; omega)).trans ((Below.heap_alloc _ _ _ (by simp)).trans (alloc_new_at _ _ _ rfl))

set_option maxRecDepth 100000 in
set_option maxHeartbeats 4000000 in
theorem jn_bad1 (a b : NetM) (a1 a2 b1 b2 : Option Addr) (c1 c2 d1 d2 : Nat) (he : ncheck a ≠ 0) (w : World)
    (hpa : PsAt w (.slice a1 a.ps.length c1) a.ps) (hsa : SsAt w (.slice a2 a.ss.length c2) a.ss) (hpb : PsAt w (.slice b1 b.ps.length d1) b.ps) (hsb : SsAt w (.slice b2 b.ss.length d2) b.ss) :
    Calls Try.prog 27 #[.agg #[.slice a1 a.ps.length c1, .int .i64 a.inp, .slice a2 a.ss.length c2], .agg #[.slice b1 b.ps.length d1, .int .i64 b.inp, .slice b2 b.ss.length d2]] w (RenOut (joinE a b) (joinR a b) w) := by
  have hE : joinE a b = ncheck a := if_pos he
  have hR : joinR a b = netZ := if_neg (by rw [hE]; exact he)
  rw [hE, hR]
  have hck : ∀ w1, Below w.heap.size w w1 → Calls Try.prog 19 #[.agg #[.slice a1 a.ps.length c1, .int .i64 a.inp, .slice a2 a.ss.length c2]] w1 fun e w' => e = .returned (.int .i64 (ncheck a)) ∧ Below w1.heap.size w1 w' := fun w1 hb => ncheck_any a a1 a2 c1 c2 w1 (hpa.below hb) (hsa.below hb)
  have hne : (ncheck a != 0) = true := by simp [he]
  generalize ncheck a = X at *
  generalize a.ps.length = k at *
  generalize a.ss.length = m at *
  generalize a.inp = I at *
  generalize b.ps.length = k' at *
  generalize b.ss.length = m' at *
  generalize b.inp = I' at *
  have HCK := Lib.hid hck
  clear hck hpa hsa hpb hsb hE hR he
  go_enter Try.func27, Try.ntmps27
  go_wp2_with (go_at_call 19; refine (HCK.out _ (below3 w _ _ _)).mono ?_; rintro e w1 ⟨rfl, hb1⟩; have hbx1 : NetBox w1 (w.heap.size + 1 + 1) (.slice none 0 0) 0 (.slice none 0 0) := (hb1.block _ (by simp)).trans (blk3c _ _ _ _); obtain ⟨_, _, _, _, _, _⟩ := cells3f hbx1; have hz1 : w.heap.size + 1 + 1 < w1.heap.size := lt_of_block hbx1)
  have hb2 : Below w.heap.size w w1 := (below3 w _ _ _).trans (hb1.mono (by simp; omega))
  have hS := netBox_set (a := .slice none 0 0) (b := 0) (c := .slice none 0 0) hbx1
  have hB := ((hb2.setCell (p := ⟨w.heap.size + 1 + 1, 0, none⟩) (by simp; omega) (.slice none 0 0)).setCell (p := ⟨w.heap.size + 1 + 1, 1, none⟩) (by simp; omega) (.int .i64 0)).setCell (p := ⟨w.heap.size + 1 + 1, 2, none⟩) (by simp; omega) (.slice none 0 0)
  generalize ((w1.setCell ⟨w.heap.size + 1 + 1, 0, none⟩ (.slice none 0 0)).setCell ⟨w.heap.size + 1 + 1, 1, none⟩ (.int .i64 0)).setCell ⟨w.heap.size + 1 + 1, 2, none⟩ (.slice none 0 0) = S at *
  obtain ⟨d0, d1, d2, _, _, _⟩ := cells3f hS
  exact bodyPost_ret (v := .tuple #[.agg #[.slice none 0 0, .int .i64 0, .slice none 0 0], .int .i64 X]) (by simp [results, Try.results27, go_sem, d0, d1, d2]) rfl ⟨_, rfl, netZ_at _, hB⟩
set_option maxRecDepth 100000 in
set_option maxHeartbeats 4000000 in
theorem jn_bad2 (a b : NetM) (a1 a2 b1 b2 : Option Addr) (c1 c2 d1 d2 : Nat) (he : ncheck a = 0) (he2 : ncheck b ≠ 0) (w : World)
    (hpa : PsAt w (.slice a1 a.ps.length c1) a.ps) (hsa : SsAt w (.slice a2 a.ss.length c2) a.ss) (hpb : PsAt w (.slice b1 b.ps.length d1) b.ps) (hsb : SsAt w (.slice b2 b.ss.length d2) b.ss) :
    Calls Try.prog 27 #[.agg #[.slice a1 a.ps.length c1, .int .i64 a.inp, .slice a2 a.ss.length c2], .agg #[.slice b1 b.ps.length d1, .int .i64 b.inp, .slice b2 b.ss.length d2]] w (RenOut (joinE a b) (joinR a b) w) := by
  have hE : joinE a b = ncheck b := by rw [joinE, if_neg (by simpa using he)]; exact if_pos he2
  have hR : joinR a b = netZ := if_neg (by rw [hE]; exact he2)
  rw [hE, hR]
  have hck : ∀ w1, Below w.heap.size w w1 → Calls Try.prog 19 #[.agg #[.slice a1 a.ps.length c1, .int .i64 a.inp, .slice a2 a.ss.length c2]] w1 fun e w' => e = .returned (.int .i64 0) ∧ Below w1.heap.size w1 w' := fun w1 hb => by
    have := ncheck_any a a1 a2 c1 c2 w1 (hpa.below hb) (hsa.below hb)
    rwa [he] at this
  have hck2 : ∀ w1, Below w.heap.size w w1 → Calls Try.prog 19 #[.agg #[.slice b1 b.ps.length d1, .int .i64 b.inp, .slice b2 b.ss.length d2]] w1 fun e w' => e = .returned (.int .i64 (ncheck b)) ∧ Below w1.heap.size w1 w' := fun w1 hb => ncheck_any b b1 b2 d1 d2 w1 (hpb.below hb) (hsb.below hb)
  have hne : (ncheck b != 0) = true := by simp [he2]
  generalize ncheck b = X at *
  generalize a.ps.length = k at *
  generalize a.ss.length = m at *
  generalize a.inp = I at *
  generalize b.ps.length = k' at *
  generalize b.ss.length = m' at *
  generalize b.inp = I' at *
  have HCK := Lib.hid hck
  have HCK2 := Lib.hid hck2
  clear hck hck2 hpa hsa hpb hsb hE hR he he2
  go_enter Try.func27, Try.ntmps27
  go_upto_region 4 with (go_at_call 19; refine (HCK.out _ (below3 w _ _ _)).mono ?_; rintro e w1 ⟨rfl, hb1⟩)
  have hbx1 : NetBox w1 (w.heap.size + 1 + 1) (.slice none 0 0) 0 (.slice none 0 0) := (hb1.block _ (by simp)).trans (blk3c _ _ _ _)
  have hbxb : NetBox w1 (w.heap.size + 1) (.slice b1 k' d1) I' (.slice b2 m' d2) := (hb1.block _ (by simp <;> omega)).trans (blk3b _ _ _ _)
  have hz1 : w.heap.size + 1 + 1 < w1.heap.size := lt_of_block hbx1
  have hb2 : Below w.heap.size w w1 := (below3 w _ _ _).trans (hb1.mono (by simp; omega))
  obtain ⟨_, _, _, _, _, _⟩ := cells3f hbxb
  clear hb1
  go_wp2_with (go_at_call 19; refine (HCK2.out _ hb2).mono ?_; rintro e w2 ⟨rfl, hb3⟩; have hbx2 : NetBox w2 (w.heap.size + 1 + 1) (.slice none 0 0) 0 (.slice none 0 0) := (hb3.block _ hz1).trans hbx1; obtain ⟨_, _, _, _, _, _⟩ := cells3f hbx2; have hz2 : w.heap.size + 1 + 1 < w2.heap.size := lt_of_block hbx2)
  have hb4 : Below w.heap.size w w2 := hb2.trans (hb3.mono (by omega))
  have hS := netBox_set (a := .slice none 0 0) (b := 0) (c := .slice none 0 0) hbx2
  have hB := ((hb4.setCell (p := ⟨w.heap.size + 1 + 1, 0, none⟩) (by simp; omega) (.slice none 0 0)).setCell (p := ⟨w.heap.size + 1 + 1, 1, none⟩) (by simp; omega) (.int .i64 0)).setCell (p := ⟨w.heap.size + 1 + 1, 2, none⟩) (by simp; omega) (.slice none 0 0)
  generalize ((w2.setCell ⟨w.heap.size + 1 + 1, 0, none⟩ (.slice none 0 0)).setCell ⟨w.heap.size + 1 + 1, 1, none⟩ (.int .i64 0)).setCell ⟨w.heap.size + 1 + 1, 2, none⟩ (.slice none 0 0) = S at *
  obtain ⟨d0, d1, d2, _, _, _⟩ := cells3f hS
  exact bodyPost_ret (v := .tuple #[.agg #[.slice none 0 0, .int .i64 0, .slice none 0 0], .int .i64 X]) (by simp [results, Try.results27, go_sem, d0, d1, d2]) rfl ⟨_, rfl, netZ_at _, hB⟩

set_option maxRecDepth 100000 in
set_option maxHeartbeats 8000000 in
theorem jn_ok (a b : NetM) (a1 a2 b1 b2 : Option Addr) (c1 c2 d1 d2 : Nat) (he : ncheck a = 0) (he2 : ncheck b = 0) (w : World)
    (hpa : PsAt w (.slice a1 a.ps.length c1) a.ps) (hsa : SsAt w (.slice a2 a.ss.length c2) a.ss) (hpb : PsAt w (.slice b1 b.ps.length d1) b.ps) (hsb : SsAt w (.slice b2 b.ss.length d2) b.ss) :
    Calls Try.prog 27 #[.agg #[.slice a1 a.ps.length c1, .int .i64 a.inp, .slice a2 a.ss.length c2], .agg #[.slice b1 b.ps.length d1, .int .i64 b.inp, .slice b2 b.ss.length d2]] w (RenOut (joinE a b) (joinR a b) w) := by
  have hE : joinE a b = ncheck (joinN a b) := by rw [joinE, if_neg (by simpa using he)]; exact if_neg (by simpa using he2)
  have hR : joinR a b = if ncheck (joinN a b) = 0 then joinN a b else netZ := by rw [joinR, hE]
  rw [hE, hR]
  obtain ⟨NR, hNR⟩ : ∃ N, N = if ncheck (joinN a b) = 0 then joinN a b else netZ := ⟨_, rfl⟩
  rw [← hNR]
  have HNR := Lib.hid hNR
  clear hNR
  have oka := netOk_of he
  have okb := netOk_of he2
  have hck : ∀ w1, Below w.heap.size w w1 → Calls Try.prog 19 #[.agg #[.slice a1 a.ps.length c1, .int .i64 a.inp, .slice a2 a.ss.length c2]] w1 fun e w' => e = .returned (.int .i64 0) ∧ Below w1.heap.size w1 w' := fun w1 hb => by
    have := ncheck_any a a1 a2 c1 c2 w1 (hpa.below hb) (hsa.below hb)
    rwa [he] at this
  have hck2 : ∀ w1, Below w.heap.size w w1 → Calls Try.prog 19 #[.agg #[.slice b1 b.ps.length d1, .int .i64 b.inp, .slice b2 b.ss.length d2]] w1 fun e w' => e = .returned (.int .i64 0) ∧ Below w1.heap.size w1 w' := fun w1 hb => by
    have := ncheck_any b b1 b2 d1 d2 w1 (hpb.below hb) (hsb.below hb)
    rwa [he2] at this
  have p1 := oka.p1
  have p2 := okb.p1
  have q1 := oka.s1
  have q2 := okb.s1
  have i0 := oka.i0
  have i1 := oka.i1
  have j0 := okb.i0
  have j1 := okb.i1
  have hc5 : ∀ W g, Below w.heap.size w W → W.heap[g]? = some (.cells #[.slice a1 a.ps.length c1, .slice b1 b.ps.length d1] 22) → Calls Try.prog 70 #[.slice (some ⟨g, 0, none⟩) 2 2] W (PsOut (a.ps ++ b.ps) W) := fun W g hb hg => concatP_any a.ps b.ps a1 b1 c1 d1 g (by omega) (by omega) W hg (hpa.below hb) (hpb.below hb)
  have hc16 : ∀ W g, Below w.heap.size w W → W.heap[g]? = some (.cells #[.slice a2 a.ss.length c2, .slice b2 b.ss.length d2] 23) → Calls Try.prog 71 #[.slice (some ⟨g, 0, none⟩) 2 2] W (SsOut (a.ss ++ b.ss) W) := fun W g hb hg => concatS_any a.ss b.ss a2 b2 c2 d2 g (by omega) (by omega) W hg (hsa.below hb) (hsb.below hb)
  obtain ⟨k1, hk1⟩ : ∃ k, k = a.ps.length := ⟨_, rfl⟩
  obtain ⟨k2, hk2⟩ : ∃ k, k = b.ps.length := ⟨_, rfl⟩
  obtain ⟨m1, hm1⟩ : ∃ k, k = a.ss.length := ⟨_, rfl⟩
  obtain ⟨m2, hm2⟩ : ∃ k, k = b.ss.length := ⟨_, rfl⟩
  obtain ⟨ia, hia⟩ : ∃ k, k = a.inp := ⟨_, rfl⟩
  obtain ⟨ib, hib⟩ : ∃ k, k = b.inp := ⟨_, rfl⟩
  rw [← hk1, ← hm1, ← hia] at hck
  rw [← hk2, ← hm2, ← hib] at hck2
  rw [← hk1, ← hk2] at hc5
  rw [← hm1, ← hm2] at hc16
  rw [← hk1] at p1
  rw [← hk2] at p2
  rw [← hm1] at q1
  rw [← hm2] at q2
  rw [← hia] at i0 i1
  rw [← hib] at j0 j1
  rw [← hk1, ← hk2, ← hm1, ← hm2, ← hia, ← hib]
  have HCK := Lib.hid hck
  have HCK2 := Lib.hid hck2
  have HC50 := Lib.hid hc5
  have HC160 := Lib.hid hc16
  have OKB := Lib.hid okb
  have HK1 := Lib.hid hk1
  have HK2 := Lib.hid hk2
  have HM1 := Lib.hid hm1
  have HM2 := Lib.hid hm2
  have HIA := Lib.hid hia
  have HIB := Lib.hid hib
  have hsum : wrap64 (ia + ib) = ia + ib := by unfold wrap64; omega
  have hsum2 : (ia + ib + 9223372036854775808) % 18446744073709551616 - 9223372036854775808 = ia + ib := by omega
  have HSUM := Lib.hid hsum2
  clear hsum2
  clear hck hck2 hpa hsa hpb hsb hE hR he he2 hc5 hc16 oka okb hk1 hk2 hm1 hm2 hia hib
  go_enter Try.func27, Try.ntmps27
  go_upto_region 4 with (go_at_call 19; refine (HCK.out _ (below3 w _ _ _)).mono ?_; rintro e w1 ⟨rfl, hb1⟩)
  have hx2 : NetBox w1 (w.heap.size + 1 + 1) (.slice none 0 0) 0 (.slice none 0 0) := (hb1.block _ (by simp)).trans (blk3c _ _ _ _)
  have hxb : NetBox w1 (w.heap.size + 1) (.slice b1 k2 d1) ib (.slice b2 m2 d2) := (hb1.block _ (by simp <;> omega)).trans (blk3b _ _ _ _)
  have hxa : NetBox w1 w.heap.size (.slice a1 k1 c1) ia (.slice a2 m1 c2) := (hb1.block _ (by simp <;> omega)).trans (blk3a _ _ _ _)
  have hz1 : w.heap.size + 1 + 1 < w1.heap.size := lt_of_block hx2
  have hb2 : Below w.heap.size w w1 := (below3 w _ _ _).trans (hb1.mono (by simp; omega))
  obtain ⟨_, _, _, _, _, _⟩ := cells3f hxb
  clear hb1
  go_upto_region 7 with (go_at_call 19; refine (HCK2.out _ hb2).mono ?_; rintro e w2 ⟨rfl, hb3⟩)
  have hy2 : NetBox w2 (w.heap.size + 1 + 1) (.slice none 0 0) 0 (.slice none 0 0) := (hb3.block _ hz1).trans hx2
  have hyb : NetBox w2 (w.heap.size + 1) (.slice b1 k2 d1) ib (.slice b2 m2 d2) := (hb3.block _ (by omega)).trans hxb
  have hya : NetBox w2 w.heap.size (.slice a1 k1 c1) ia (.slice a2 m1 c2) := (hb3.block _ (by omega)).trans hxa
  have hz2 : w.heap.size + 1 + 1 < w2.heap.size := lt_of_block hy2
  have hb4 : Below w.heap.size w w2 := hb2.trans (hb3.mono (by omega))
  generalize hB0 : w.heap.size = B at *
  have HB0 := Lib.hid hB0
  have HB4 := Lib.hid hb4
  have HY2 := Lib.hid hy2
  have HYB := Lib.hid hyb
  have HYA := Lib.hid hya
  clear hb2 hb3 hb4 hB0 hx2 hxb hxa hy2 hyb hya hz1 HCK HCK2
  have hc5 : ∀ W g, Below w2.heap.size w2 W → W.heap[g]? = some (.cells #[.slice a1 k1 c1, .slice b1 k2 d1] 22) → Calls Try.prog 70 #[.slice (some ⟨g, 0, none⟩) 2 2] W (PsOut (a.ps ++ b.ps) W) := fun W g hb => HC50.out W g (HB4.out.trans (hb.mono (by omega)))
  have hc16 : ∀ W g, Below w2.heap.size w2 W → W.heap[g]? = some (.cells #[.slice a2 m1 c2, .slice b2 m2 d2] 23) → Calls Try.prog 71 #[.slice (some ⟨g, 0, none⟩) 2 2] W (SsOut (a.ss ++ b.ss) W) := fun W g hb => HC160.out W g (HB4.out.trans (hb.mono (by omega)))
  have HC5 := Lib.hid hc5
  have HC16 := Lib.hid hc16
  clear hc5 hc16 HC50 HC160
  refine wp_region_ghost (JnR w2 w2.heap.size (ia + ib) (a.ps ++ b.ps) (a.ss ++ b.ss) (.slice a1 k1 c1) (.slice b1 k2 d1) (.slice a2 m1 c2) (.slice b2 m2 d2) (joinK B ia ib (ia + ib) (.slice a1 k1 c1) (.slice a2 m1 c2) (.slice b1 k2 d1) (.slice b2 m2 d2))) (by kernel_rfl) (by kernel_rfl) (by kernel_rfl) (by kernel_rfl) (JnR.init rfl) ?stp ?dn
  case dn =>
    intro val W b' hI hh hbs
    have hb := has_all (by kernel_rfl) hh hbs
    obtain ⟨gN, hgN⟩ : ∃ g, g = vb (val 18) := ⟨_, rfl⟩
    have o5 := hI.o5 (by simp)
    have o16 := hI.o16 (by simp)
    obtain ⟨x18, loN, u', x', v', gb, gx⟩ := hI.al (by simp)
    obtain ⟨rfl, rfl, rfl⟩ := gx (by simp)
    have n5N := hI.a5 (by simp) (by simp)
    have n16N := hI.a16 (by simp) (by simp)
    have n516 := hI.a516 (by simp) (by simp)
    have x17 := hI.bld (by simp)
    rw [← hgN] at x18 loN gb n5N n16N
    have f5 : ∃ a5 c5, val 5 = .slice a5 (k1 + k2) c5 := by
      have e : (a.ps ++ b.ps).length = k1 + k2 := by rw [List.length_append, HK1.out, HK2.out]
      rw [e] at o5
      rcases ownsRow_forms o5 with ⟨e1, e2⟩ | ⟨g, c, e1⟩
      · exact ⟨none, 0, by rw [e1, e2]⟩
      · exact ⟨_, _, e1⟩
    have f16 : ∃ a16 c16, val 16 = .slice a16 (m1 + m2) c16 := by
      have e : (a.ss ++ b.ss).length = m1 + m2 := by rw [List.length_append, HM1.out, HM2.out]
      rw [e] at o16
      rcases ownsRow_forms o16 with ⟨e1, e2⟩ | ⟨g, c, e1⟩
      · exact ⟨none, 0, by rw [e1, e2]⟩
      · exact ⟨_, _, e1⟩
    obtain ⟨a5, c5, x5⟩ := f5
    obtain ⟨a16, c16, x16⟩ := f16
    rw [x5] at o5 n5N n516
    rw [x16] at o16 n16N n516
    rw [x5, x16] at gb x17
    have kn : ∀ j, j < 15 → j ≠ 4 → j ≠ 5 → val j = joinK B ia ib (ia + ib) (.slice a1 k1 c1) (.slice a2 m1 c2) (.slice b1 k2 d1) (.slice b2 m2 d2) j := fun j h1 h2 h3 => hI.known j h1 h2 h3 (repl_true (by show j < 20; omega))
    have w19 : ∀ a : Act, a.put none (val 19) = a := fun a => rfl
    obtain ⟨v4, hv4⟩ : ∃ v, v = val 4 := ⟨_, rfl⟩
    obtain ⟨v15, hv15⟩ : ∃ v, v = val 15 := ⟨_, rfl⟩
    simp only [puts, x5, x16, x17, x18, w19, ← hv4, ← hv15, kn 0 (by decide) (by decide) (by decide), kn 1 (by decide) (by decide) (by decide), kn 2 (by decide) (by decide) (by decide), kn 3 (by decide) (by decide) (by decide), kn 6 (by decide) (by decide) (by decide), kn 7 (by decide) (by decide) (by decide), kn 8 (by decide) (by decide) (by decide), kn 9 (by decide) (by decide) (by decide), kn 10 (by decide) (by decide) (by decide), kn 11 (by decide) (by decide) (by decide), kn 12 (by decide) (by decide) (by decide), kn 13 (by decide) (by decide) (by decide), kn 14 (by decide) (by decide) (by decide), joinK] at hb
    have hM0 : MidJ w B w2.heap.size gN ia ib (ia + ib) (.slice a5 (k1 + k2) c5) (.slice a16 (m1 + m2) c16) (.slice a1 k1 c1) (.slice a2 m1 c2) (.slice b1 k2 d1) (.slice b2 m2 d2) (a.ps ++ b.ps) (midJ a.ss b.ss k1 ia (m1 - m1)) W :=
      ⟨o5, sRow_of (by rw [Nat.sub_self, midJ_zero]; exact o16), gb, (hI.bel.block _ (by omega)).trans HYA.out, (hI.bel.block _ (by omega)).trans HYB.out, (hI.bel.block _ hz2).trans HY2.out, HB4.out.trans (hI.bel.mono (by have := HB4.out.size; have := HB0.out; omega)), loN, hz2, n5N, n16N, n516⟩
    have HM0 := Lib.hid hM0
    clear hI hh hbs o5 o16 x18 loN gb gx n5N n16N n516 x17 x5 x16 hgN kn w19 hv4 hv15 hM0 HY2 HYB HYA HC5 HC16
    subst hb
    simp only [Act.put, List.setIfInBounds_toArray, List.set_cons_succ, List.set_cons_zero]
    obtain ⟨_, _, _, _, _, _⟩ := cells3f HM0.out.boxa
    have hla : B < W.heap.size := lt_of_block HM0.out.boxa
    go_wp2
    go_loopw [9] (fun i wr => ∃ t : Nat, m1 ≤ t ∧ t ≤ m1 + m2 ∧ i = .int .i64 t ∧ MidJ w B w2.heap.size gN ia ib (ia + ib) (.slice a5 (k1 + k2) c5) (.slice a16 (m1 + m2) c16) (.slice a1 k1 c1) (.slice a2 m1 c2) (.slice b1 k2 d1) (.slice b2 m2 d2) (a.ps ++ b.ps) (midJ a.ss b.ss k1 ia (t - m1)) wr) (fun i _ => (m1 + m2) - (intOf i).toNat)
    case atStart => exact ⟨m1, Nat.le_refl _, Nat.le_add_right _ _, rfl, HM0.out⟩
    case round =>
      obtain ⟨t, ht1, ht2, rfl, hM⟩ := hrel
      have HMM := Lib.hid hM
      have hlB : B + 1 + 1 < wr.heap.size := lt_of_block hM.box2
      have hlN : gN < wr.heap.size := lt_of_block hM.box
      obtain ⟨_, _, _, _, _, _⟩ := cells3f hM.box
      obtain ⟨_, _, _, _, _, _⟩ := cells3f hM.boxa
      clear hM
      by_cases hlt : t < m1 + m2
      · obtain ⟨j, hj⟩ : ∃ j, j = t - m1 := ⟨_, rfl⟩
        obtain ⟨s, hs⟩ : ∃ s, b.ss[j]? = some s := ⟨_, List.getElem?_eq_getElem (by rw [← HM2.out]; omega)⟩
        have hso := OKB.out.ss s (List.mem_of_getElem? hs)
        have hmid := midJ_at a.ss b.ss k1 ia hs
        have hms := midJ_succ a.ss b.ss k1 ia hs
        rw [← HM1.out, show m1 + j = t by omega] at hmid hms
        rw [show j + 1 = t + 1 - m1 by omega] at hms
        rw [hj] at hmid hms
        obtain ⟨F, T, WT, DL⟩ := s
        simp [synOk, srcOk, inR] at hso
        rw [← HK2.out, ← HIB.out] at hso
        obtain ⟨g8, rfl, hg8, hz8, ⟨_, _, _, _⟩, _, _⟩ := HMM.out.syn.at hmid
        have wT : wrap64 (T + (k1 : Int)) = T + (k1 : Int) := by unfold wrap64; omega
        have hi0 : (0 : Int) ≤ (t : Int) := Int.natCast_nonneg _
        have hi1 : (t : Int) < ((m1 + m2 : Nat) : Int) := by omega
        have hne : B ≠ g8 := by have := HMM.out.loB; omega
        have hneN : gN ≠ g8 := fun e => HMM.out.n16N (by simp [Value.ownBlock, e])
        have hmid1 : ((midJ a.ss b.ss k1 ia (t - m1)).set t ⟨F, T + (k1 : Int), WT, DL⟩)[t]? = some ⟨F, T + (k1 : Int), WT, DL⟩ := List.getElem?_set_self (List.getElem?_eq_some_iff.1 hmid).1
        have HMID := Lib.hid hmid
        have HMD := Lib.hid hmid1
        have HMS := Lib.hid hms
        have HSO := Lib.hid hso
        clear hmid hmid1 hms hs hso hj
        go_wp2
        go_still_tail 10, (by kernel_rfl)
        change wpList _ _ _ _ _ wr.drew
        have hM7 := HMM.out.below (A' := wr.drew) ⟨rfl, rfl, rfl, Nat.le_refl _, fun _ _ => rfl⟩
        generalize wr.drew = W7 at *
        obtain ⟨g8', e8, _, hz8', ⟨_, _, _, _⟩, _, _⟩ := hM7.syn.at HMID.out
        cases e8
        have hM1 := hM7.cell hg8 (hM7.syn.set1 (T := T + (k1 : Int)) HMID.out)
        have HM1' := Lib.hid hM1
        clear hM7 hM1
        go_upto_region 13 with (fail)
        rw [wT]
        generalize W7.setCell ⟨g8, t * 4 + 1, none⟩ (.int .i64 (T + (k1 : Int))) = W8 at *
        obtain ⟨g8', e8, _, hz9, ⟨_, _, _, _⟩, _, _⟩ := HM1'.out.syn.at HMD.out
        cases e8
        obtain ⟨_, _, _, _, _, _⟩ := cells3f HM1'.out.boxa
        have hso := HSO.out
        by_cases hF : F < 0
        · have zF : (F < 0) = True := by simp [hF]
          have wF : wrap64 (F - ia) = F - ia := by unfold wrap64; omega
          have hst : ((midJ a.ss b.ss k1 ia (t - m1)).set t ⟨F, T + (k1 : Int), WT, DL⟩).set t ⟨F - ia, T + (k1 : Int), WT, DL⟩ = midJ a.ss b.ss k1 ia (t + 1 - m1) := by
            rw [HMS.out, List.set_set]; simp [shS, hF]
          have HST := Lib.hid hst
          clear hst hF hso
          go_wp2
          go_still_tail 9, (by kernel_rfl)
          change wpList _ _ _ _ _ W8.drew
          have hM9 := HM1'.out.below (A' := W8.drew) ⟨rfl, rfl, rfl, Nat.le_refl _, fun _ _ => rfl⟩
          generalize W8.drew = W9 at *
          obtain ⟨g8', e8, _, hzA, ⟨_, _, _, _⟩, _, _⟩ := hM9.syn.at HMD.out
          cases e8
          have hM2 := hM9.cell hg8 (hM9.syn.set0 (F := F - ia) HMD.out)
          have HM2' := Lib.hid hM2
          clear hM9 hM2
          go_wp2
          go_roundw
          case rel =>
            refine ⟨t + 1, by omega, by omega, by go_num, ?_⟩
            rw [← HST.out]
            exact HM2'.out
          case measure => simp [intOf]; omega
        · have zF : (F < 0) = False := by simp; omega
          have wF : wrap64 (F + (k1 : Int)) = F + (k1 : Int) := by unfold wrap64; omega
          have hst : ((midJ a.ss b.ss k1 ia (t - m1)).set t ⟨F, T + (k1 : Int), WT, DL⟩).set t ⟨F + (k1 : Int), T + (k1 : Int), WT, DL⟩ = midJ a.ss b.ss k1 ia (t + 1 - m1) := by
            rw [HMS.out, List.set_set]; simp [shS, hF]
          have HST := Lib.hid hst
          clear hst hF hso
          go_wp2
          go_still_tail 10, (by kernel_rfl)
          change wpList _ _ _ _ _ W8.drew
          have hM9 := HM1'.out.below (A' := W8.drew) ⟨rfl, rfl, rfl, Nat.le_refl _, fun _ _ => rfl⟩
          generalize W8.drew = W9 at *
          obtain ⟨g8', e8, _, hzA, ⟨_, _, _, _⟩, _, _⟩ := hM9.syn.at HMD.out
          cases e8
          have hM2 := hM9.cell hg8 (hM9.syn.set0 (F := F + (k1 : Int)) HMD.out)
          have HM2' := Lib.hid hM2
          clear hM9 hM2
          go_wp2
          go_roundw
          case rel =>
            refine ⟨t + 1, by omega, by omega, by go_num, ?_⟩
            rw [← HST.out]
            exact HM2'.out
          case measure => simp [intOf]; omega
      · obtain rfl : t = m1 + m2 := by omega
        clear hlt ht1 ht2
        have hpW : PsAt wr (.slice a5 (k1 + k2) c5) (joinN a b).ps := psAt_of_owns HMM.out.row
        have hsW : SsAt wr (.slice a16 (m1 + m2) c16) (joinN a b).ss := by
          have := HMM.out.syn.ssAt
          rw [show m1 + m2 - m1 = b.ss.length by rw [← HM2.out]; omega, midJ_all] at this
          rw [joinN, ← HK1.out, ← HIA.out]
          exact this
        have l1 : k1 + k2 = (joinN a b).ps.length := by rw [joinN, List.length_append, ← HK1.out, ← HK2.out]
        have l2 : m1 + m2 = (joinN a b).ss.length := by rw [joinN, List.length_append, List.length_map, ← HM1.out, ← HM2.out]
        have l3 : ia + ib = (joinN a b).inp := by rw [joinN, ← HIA.out, ← HIB.out]
        have hck3 : Calls Try.prog 19 #[.agg #[.slice a5 (k1 + k2) c5, .int .i64 (ia + ib), .slice a16 (m1 + m2) c16]] wr fun e w' => e = .returned (.int .i64 (ncheck (joinN a b))) ∧ Below wr.heap.size wr w' := by
          rw [l1, l2, l3]
          rw [l1] at hpW
          rw [l2] at hsW
          exact ncheck_any (joinN a b) a5 a16 c5 c16 wr hpW hsW
        have HCK3 := Lib.hid hck3
        have HPW := Lib.hid hpW
        have HSW := Lib.hid hsW
        have L1 := Lib.hid l1
        have L2 := Lib.hid l2
        have L3 := Lib.hid l3
        clear hck3 hpW hsW l1 l2 l3
        by_cases hX : ncheck (joinN a b) = 0
        · have hNR := HNR.out
          rw [if_pos hX] at hNR
          subst hNR
          clear HNR
          rw [hX] at HCK3 ⊢
          go_wp2_with (go_at_call 19; refine HCK3.out.mono ?_; rintro e w5 ⟨rfl, hb5⟩; have hv2 : NetBox w5 (B + 1 + 1) (.slice none 0 0) 0 (.slice none 0 0) := (hb5.block _ hlB).trans HMM.out.box2; have hvN : NetBox w5 gN (.slice a5 (k1 + k2) c5) (ia + ib) (.slice a16 (m1 + m2) c16) := (hb5.block _ hlN).trans HMM.out.box; obtain ⟨_, _, _, _, _, _⟩ := cells3f hv2; obtain ⟨_, _, _, _, _, _⟩ := cells3f hvN; have hz5 : B + 1 + 1 < w5.heap.size := lt_of_block hv2; have hz6 : gN < w5.heap.size := lt_of_block hvN)
          have hB5 : Below B w w5 := HMM.out.bel.trans (hb5.mono (by omega))
          have hS := netBox_set (a := .slice a5 (k1 + k2) c5) (b := ia + ib) (c := .slice a16 (m1 + m2) c16) hv2
          have hB := ((hB5.setCell (p := ⟨B + 1 + 1, 0, none⟩) (by simp; omega) (.slice a5 (k1 + k2) c5)).setCell (p := ⟨B + 1 + 1, 1, none⟩) (by simp; omega) (.int .i64 (ia + ib))).setCell (p := ⟨B + 1 + 1, 2, none⟩) (by simp; omega) (.slice a16 (m1 + m2) c16)
          have e : ∀ g, w2.heap.size ≤ g → g < wr.heap.size → (((w5.setCell ⟨B + 1 + 1, 0, none⟩ (.slice a5 (k1 + k2) c5)).setCell ⟨B + 1 + 1, 1, none⟩ (.int .i64 (ia + ib))).setCell ⟨B + 1 + 1, 2, none⟩ (.slice a16 (m1 + m2) c16)).heap[g]? = wr.heap[g]? := fun g h1 h2 => by
            rw [← hb5.block g h2]
            have : B + 1 + 1 ≠ g := by omega
            simp [World.setCell, Array.getElem?_modify, this]
          generalize ((w5.setCell ⟨B + 1 + 1, 0, none⟩ (.slice a5 (k1 + k2) c5)).setCell ⟨B + 1 + 1, 1, none⟩ (.int .i64 (ia + ib))).setCell ⟨B + 1 + 1, 2, none⟩ (.slice a16 (m1 + m2) c16) = S at *
          obtain ⟨d0, d1', d2', _, _, _⟩ := cells3f hS
          have hN : NetAt S (.agg #[.slice a5 (k1 + k2) c5, .int .i64 (ia + ib), .slice a16 (m1 + m2) c16]) (joinN a b) := by
            have hr := ownsRow_of_block (A' := S) HMM.out.row fun g hg => e g (HMM.out.row.lt g hg).1 (HMM.out.row.lt g hg).2
            have hs' : SRow S w2.heap.size (.slice a16 (m1 + m2) c16) (midJ a.ss b.ss k1 ia (m1 + m2 - m1)) := HMM.out.syn.of_block fun g hg hgl => e g (HMM.out.syn.lo hg) hgl
            have h1 := psAt_of_owns hr
            have h2 := hs'.ssAt
            rw [show m1 + m2 - m1 = b.ss.length by rw [← HM2.out]; omega, midJ_all] at h2
            have h2' : SsAt S (.slice a16 (m1 + m2) c16) (joinN a b).ss := by rw [joinN, ← HK1.out, ← HIA.out]; exact h2
            refine ⟨a5, c5, a16, c16, by rw [← L1.out, ← L2.out, ← L3.out], ?_, ?_⟩
            · rw [← L1.out]; exact h1
            · rw [← L2.out]; exact h2'
          exact bodyPost_ret (v := .tuple #[.agg #[.slice a5 (k1 + k2) c5, .int .i64 (ia + ib), .slice a16 (m1 + m2) c16], .int .i64 0]) (by simp [results, Try.results27, go_sem, d0, d1', d2']) rfl ⟨_, by rw [hX], hN, by rw [HB0.out]; exact hB⟩
        · have hNR := HNR.out
          rw [if_neg hX] at hNR
          subst hNR
          clear HNR
          have hne : (ncheck (joinN a b) != 0) = true := by simp [hX]
          generalize ncheck (joinN a b) = X at *
          go_wp2_with (go_at_call 19; refine HCK3.out.mono ?_; rintro e w5 ⟨rfl, hb5⟩; have hv2 : NetBox w5 (B + 1 + 1) (.slice none 0 0) 0 (.slice none 0 0) := (hb5.block _ hlB).trans HMM.out.box2; obtain ⟨_, _, _, _, _, _⟩ := cells3f hv2; have hz5 : B + 1 + 1 < w5.heap.size := lt_of_block hv2)
          have hB5 : Below B w w5 := HMM.out.bel.trans (hb5.mono (by omega))
          have hS := netBox_set (a := .slice none 0 0) (b := 0) (c := .slice none 0 0) hv2
          have hB := ((hB5.setCell (p := ⟨B + 1 + 1, 0, none⟩) (by simp; omega) (.slice none 0 0)).setCell (p := ⟨B + 1 + 1, 1, none⟩) (by simp; omega) (.int .i64 0)).setCell (p := ⟨B + 1 + 1, 2, none⟩) (by simp; omega) (.slice none 0 0)
          generalize ((w5.setCell ⟨B + 1 + 1, 0, none⟩ (.slice none 0 0)).setCell ⟨B + 1 + 1, 1, none⟩ (.int .i64 0)).setCell ⟨B + 1 + 1, 2, none⟩ (.slice none 0 0) = S at *
          obtain ⟨d0, d1', d2', _, _, _⟩ := cells3f hS
          exact bodyPost_ret (v := .tuple #[.agg #[.slice none 0 0, .int .i64 0, .slice none 0 0], .int .i64 X]) (by simp [results, Try.results27, go_sem, d0, d1', d2']) rfl ⟨_, rfl, netZ_at _, by rw [HB0.out]; exact hB⟩
  case stp =>
    intro L val W i' o b' hs ho hlF hdd hI hh
    have hi' := (List.getElem?_eq_some_iff.1 ho).1
    have hcs : i' = 0 ∨ i' = 1 ∨ i' = 2 ∨ i' = 3 ∨ i' = 4 ∨ i' = 5 ∨ i' = 6 ∨ i' = 7 ∨ i' = 8 ∨ i' = 9 ∨ i' = 10 ∨ i' = 11 ∨ i' = 12 ∨ i' = 13 ∨ i' = 14 ∨ i' = 15 ∨ i' = 16 ∨ i' = 17 ∨ i' = 18 ∨ i' = 19 := by simp at hi'; omega
    have hLs : 19 < L.size := by simp at hs; omega
    have hcw : ∀ b o, b < w2.heap.size → W.cell? ⟨b, o, none⟩ = w2.cell? ⟨b, o, none⟩ := fun b o hb => (bcell hI.bel).1 b o hb
    obtain ⟨p0, p1', p2'⟩ := cells3 HYA.out
    obtain ⟨r0, r1, r2⟩ := cells3 HYB.out
    rw [← hcw _ _ (by omega)] at p0 p1' p2' r0 r1 r2
    have HI := Lib.hid hI
    have HLF := Lib.hid hlF
    have HD := Lib.hid hdd
    clear hi' hs hI hlF hdd hcw
    rcases hcs with rfl | rfl | rfl | rfl | rfl | rfl | rfl | rfl | rfl | rfl | rfl | rfl | rfl | rfl | rfl | rfl | rfl | rfl | rfl | rfl
    · simp only [List.getElem?_cons_zero, Option.some.injEq] at ho
      subst ho
      have k2 := hh.kept 2 (by simp)
      simp at k2
      go_simp
      exact ⟨_, rfl, HI.out.step 0 (by omega) (by omega) _ _ (Below.refl _ _) HLF.out (fun _ _ _ => rfl) (fun h => by omega) (fun h => by omega) (fun h => by omega) (fun h => by omega) (fun h => by omega) (fun h => by omega)⟩
    · simp only [List.getElem?_cons_zero, List.getElem?_cons_succ, Option.some.injEq] at ho
      subst ho
      have l0 : L.getD 0 false = true := HD.out ⟨0, .data⟩ (by simp) rfl
      have g0 := hh.got 0 _ 24 rfl rfl l0 (by simp)
      rw [HI.out.known 0 (by omega) (by omega) (by omega) l0] at g0
      simp [joinK] at g0
      clear l0
      go_simp
      exact ⟨_, rfl, HI.out.step 1 (by omega) (by omega) _ _ (Below.refl _ _) HLF.out (fun _ _ _ => rfl) (fun h => by omega) (fun h => by omega) (fun h => by omega) (fun h => by omega) (fun h => by omega) (fun h => by omega)⟩
    · simp only [List.getElem?_cons_zero, List.getElem?_cons_succ, Option.some.injEq] at ho
      subst ho
      have k3 := hh.kept 3 (by simp)
      simp at k3
      go_simp
      exact ⟨_, rfl, HI.out.step 2 (by omega) (by omega) _ _ (Below.refl _ _) HLF.out (fun _ _ _ => rfl) (fun h => by omega) (fun h => by omega) (fun h => by omega) (fun h => by omega) (fun h => by omega) (fun h => by omega)⟩
    · simp only [List.getElem?_cons_zero, List.getElem?_cons_succ, Option.some.injEq] at ho
      subst ho
      have l2 : L.getD 2 false = true := HD.out ⟨2, .data⟩ (by simp) rfl
      have g2 := hh.got 2 _ 26 rfl rfl l2 (by simp)
      rw [HI.out.known 2 (by omega) (by omega) (by omega) l2] at g2
      simp [joinK] at g2
      clear l2
      go_simp
      exact ⟨_, rfl, HI.out.step 3 (by omega) (by omega) _ _ (Below.refl _ _) HLF.out (fun _ _ _ => rfl) (fun h => by omega) (fun h => by omega) (fun h => by omega) (fun h => by omega) (fun h => by omega) (fun h => by omega)⟩
    · simp only [List.getElem?_cons_zero, List.getElem?_cons_succ, Option.some.injEq] at ho
      subst ho
      have l1 : L.getD 1 false = true := HD.out ⟨1, .data⟩ (by simp) rfl
      have g1 := hh.got 1 _ 25 rfl rfl l1 (by simp)
      rw [HI.out.known 1 (by omega) (by omega) (by omega) l1] at g1
      simp [joinK] at g1
      have l3 : L.getD 3 false = true := HD.out ⟨3, .data⟩ (by simp) rfl
      have g3 := hh.got 3 _ 27 rfl rfl l3 (by simp)
      rw [HI.out.known 3 (by omega) (by omega) (by omega) l3] at g3
      simp [joinK] at g3
      clear l1 l3
      go_simp
      exact ⟨_, rfl, HI.out.step 4 (by omega) (by omega) _ _ ((Below.refl _ _).alloc (Nat.le_refl _) _) HLF.out (fun _ h _ => absurd rfl h) (fun _ => ⟨rfl, alloc_new_at _ _ _ rfl⟩) (fun h => by omega) (fun h => by omega) (fun h => by omega) (fun h => by omega) (fun h => by omega)⟩
    · simp only [List.getElem?_cons_zero, List.getElem?_cons_succ, Option.some.injEq] at ho
      subst ho
      have l4 : L.getD 4 false = true := HD.out ⟨4, .data⟩ (by simp) rfl
      have g4 := hh.got 4 _ 28 rfl rfl l4 (by simp)
      obtain ⟨e4, gb⟩ := HI.out.mk4 l4 HLF.out
      generalize hg : vb (val 4) = gg at e4 gb
      rw [e4] at g4
      simp at g4
      have HGB := Lib.hid gb
      clear l4 e4 gb hg
      go_simp
      refine (HC5.out W gg HI.out.bel HGB.out).mono ?_
      rintro e w' ⟨v, rfl, ho, hb⟩
      exact ⟨_, rfl, HI.out.step 5 (by omega) (by omega) _ _ hb HLF.out (fun _ _ h => absurd rfl h) (fun h => by omega) (fun h => by omega) (fun _ => ho) (fun h => by omega) (fun h => by omega) (fun h => by omega)⟩
    · simp only [List.getElem?_cons_zero, List.getElem?_cons_succ, Option.some.injEq] at ho
      subst ho
      have k2 := hh.kept 2 (by simp)
      simp at k2
      go_simp
      exact ⟨_, rfl, HI.out.step 6 (by omega) (by omega) _ _ (Below.refl _ _) HLF.out (fun _ _ _ => rfl) (fun h => by omega) (fun h => by omega) (fun h => by omega) (fun h => by omega) (fun h => by omega) (fun h => by omega)⟩
    · simp only [List.getElem?_cons_zero, List.getElem?_cons_succ, Option.some.injEq] at ho
      subst ho
      have l6 : L.getD 6 false = true := HD.out ⟨6, .data⟩ (by simp) rfl
      have g6 := hh.got 6 _ 30 rfl rfl l6 (by simp)
      rw [HI.out.known 6 (by omega) (by omega) (by omega) l6] at g6
      simp [joinK] at g6
      clear l6
      go_simp
      exact ⟨_, rfl, HI.out.step 7 (by omega) (by omega) _ _ (Below.refl _ _) HLF.out (fun _ _ _ => rfl) (fun h => by omega) (fun h => by omega) (fun h => by omega) (fun h => by omega) (fun h => by omega) (fun h => by omega)⟩
    · simp only [List.getElem?_cons_zero, List.getElem?_cons_succ, Option.some.injEq] at ho
      subst ho
      have k3 := hh.kept 3 (by simp)
      simp at k3
      go_simp
      exact ⟨_, rfl, HI.out.step 8 (by omega) (by omega) _ _ (Below.refl _ _) HLF.out (fun _ _ _ => rfl) (fun h => by omega) (fun h => by omega) (fun h => by omega) (fun h => by omega) (fun h => by omega) (fun h => by omega)⟩
    · simp only [List.getElem?_cons_zero, List.getElem?_cons_succ, Option.some.injEq] at ho
      subst ho
      have l8 : L.getD 8 false = true := HD.out ⟨8, .data⟩ (by simp) rfl
      have g8 := hh.got 8 _ 32 rfl rfl l8 (by simp)
      rw [HI.out.known 8 (by omega) (by omega) (by omega) l8] at g8
      simp [joinK] at g8
      clear l8
      go_simp
      exact ⟨_, rfl, HI.out.step 9 (by omega) (by omega) _ _ (Below.refl _ _) HLF.out (fun _ _ _ => rfl) (fun h => by omega) (fun h => by omega) (fun h => by omega) (fun h => by omega) (fun h => by omega) (fun h => by omega)⟩
    · simp only [List.getElem?_cons_zero, List.getElem?_cons_succ, Option.some.injEq] at ho
      subst ho
      have l7 : L.getD 7 false = true := HD.out ⟨7, .data⟩ (by simp) rfl
      have g7 := hh.got 7 _ 31 rfl rfl l7 (by simp)
      rw [HI.out.known 7 (by omega) (by omega) (by omega) l7] at g7
      simp [joinK] at g7
      have l9 : L.getD 9 false = true := HD.out ⟨9, .data⟩ (by simp) rfl
      have g9 := hh.got 9 _ 33 rfl rfl l9 (by simp)
      rw [HI.out.known 9 (by omega) (by omega) (by omega) l9] at g9
      simp [joinK] at g9
      clear l7 l9
      go_simp
      exact ⟨_, rfl, HI.out.step 10 (by omega) (by omega) _ _ (Below.refl _ _) HLF.out (fun _ _ _ => congrArg (Value.int .i64) ((IntKind.wrap_i64 _).trans HSUM.out)) (fun h => by omega) (fun h => by omega) (fun h => by omega) (fun h => by omega) (fun h => by omega) (fun h => by omega)⟩
    · simp only [List.getElem?_cons_zero, List.getElem?_cons_succ, Option.some.injEq] at ho
      subst ho
      have k2 := hh.kept 2 (by simp)
      simp at k2
      go_simp
      exact ⟨_, rfl, HI.out.step 11 (by omega) (by omega) _ _ (Below.refl _ _) HLF.out (fun _ _ _ => rfl) (fun h => by omega) (fun h => by omega) (fun h => by omega) (fun h => by omega) (fun h => by omega) (fun h => by omega)⟩
    · simp only [List.getElem?_cons_zero, List.getElem?_cons_succ, Option.some.injEq] at ho
      subst ho
      have l11 : L.getD 11 false = true := HD.out ⟨11, .data⟩ (by simp) rfl
      have g11 := hh.got 11 _ 35 rfl rfl l11 (by simp)
      rw [HI.out.known 11 (by omega) (by omega) (by omega) l11] at g11
      simp [joinK] at g11
      clear l11
      go_simp
      exact ⟨_, rfl, HI.out.step 12 (by omega) (by omega) _ _ (Below.refl _ _) HLF.out (fun _ _ _ => rfl) (fun h => by omega) (fun h => by omega) (fun h => by omega) (fun h => by omega) (fun h => by omega) (fun h => by omega)⟩
    · simp only [List.getElem?_cons_zero, List.getElem?_cons_succ, Option.some.injEq] at ho
      subst ho
      have k3 := hh.kept 3 (by simp)
      simp at k3
      go_simp
      exact ⟨_, rfl, HI.out.step 13 (by omega) (by omega) _ _ (Below.refl _ _) HLF.out (fun _ _ _ => rfl) (fun h => by omega) (fun h => by omega) (fun h => by omega) (fun h => by omega) (fun h => by omega) (fun h => by omega)⟩
    · simp only [List.getElem?_cons_zero, List.getElem?_cons_succ, Option.some.injEq] at ho
      subst ho
      have l13 : L.getD 13 false = true := HD.out ⟨13, .data⟩ (by simp) rfl
      have g13 := hh.got 13 _ 37 rfl rfl l13 (by simp)
      rw [HI.out.known 13 (by omega) (by omega) (by omega) l13] at g13
      simp [joinK] at g13
      clear l13
      go_simp
      exact ⟨_, rfl, HI.out.step 14 (by omega) (by omega) _ _ (Below.refl _ _) HLF.out (fun _ _ _ => rfl) (fun h => by omega) (fun h => by omega) (fun h => by omega) (fun h => by omega) (fun h => by omega) (fun h => by omega)⟩
    · simp only [List.getElem?_cons_zero, List.getElem?_cons_succ, Option.some.injEq] at ho
      subst ho
      have l12 : L.getD 12 false = true := HD.out ⟨12, .data⟩ (by simp) rfl
      have g12 := hh.got 12 _ 36 rfl rfl l12 (by simp)
      rw [HI.out.known 12 (by omega) (by omega) (by omega) l12] at g12
      simp [joinK] at g12
      have l14 : L.getD 14 false = true := HD.out ⟨14, .data⟩ (by simp) rfl
      have g14 := hh.got 14 _ 38 rfl rfl l14 (by simp)
      rw [HI.out.known 14 (by omega) (by omega) (by omega) l14] at g14
      simp [joinK] at g14
      clear l12 l14
      go_simp
      exact ⟨_, rfl, HI.out.step 15 (by omega) (by omega) _ _ ((Below.refl _ _).alloc (Nat.le_refl _) _) HLF.out (fun h => by omega) (fun h => by omega) (fun _ => ⟨rfl, alloc_new_at _ _ _ rfl⟩) (fun h => by omega) (fun h => by omega) (fun h => by omega) (fun h => by omega)⟩
    · simp only [List.getElem?_cons_zero, List.getElem?_cons_succ, Option.some.injEq] at ho
      subst ho
      have l15 : L.getD 15 false = true := HD.out ⟨15, .data⟩ (by simp) rfl
      have g15 := hh.got 15 _ 39 rfl rfl l15 (by simp)
      obtain ⟨e4, gb⟩ := HI.out.mk15 l15 HLF.out
      generalize hg : vb (val 15) = gg at e4 gb
      rw [e4] at g15
      simp at g15
      have HGB := Lib.hid gb
      clear l15 e4 gb hg
      go_simp
      refine (HC16.out W gg HI.out.bel HGB.out).mono ?_
      rintro e w' ⟨v, rfl, ho, hb⟩
      exact ⟨_, rfl, HI.out.step 16 (by omega) (by omega) _ _ hb HLF.out (fun h => by omega) (fun h => by omega) (fun h => by omega) (fun h => by omega) (fun _ => ho) (fun h => by omega) (fun h => by omega)⟩
    · simp only [List.getElem?_cons_zero, List.getElem?_cons_succ, Option.some.injEq] at ho
      subst ho
      have l5 : L.getD 5 false = true := HD.out ⟨5, .data⟩ (by simp) rfl
      have g5 := hh.got 5 _ 29 rfl rfl l5 (by simp)
      have l10 : L.getD 10 false = true := HD.out ⟨10, .data⟩ (by simp) rfl
      have g10 := hh.got 10 _ 34 rfl rfl l10 (by simp)
      rw [HI.out.known 10 (by omega) (by omega) (by omega) l10] at g10
      simp [joinK] at g10
      have l16 : L.getD 16 false = true := HD.out ⟨16, .data⟩ (by simp) rfl
      have g16 := hh.got 16 _ 40 rfl rfl l16 (by simp)
      obtain ⟨a5, n5, c5, x5⟩ := own_slice (HI.out.o5 l5)
      obtain ⟨a16, n16, c16, x16⟩ := own_slice (HI.out.o16 l16)
      rw [x5] at g5
      rw [x16] at g16
      simp at g5 g16
      have HL5 := Lib.hid l5
      have HL16 := Lib.hid l16
      have X5 := Lib.hid x5
      have X16 := Lib.hid x16
      clear l5 l10 l16 x5 x16
      go_simp
      exact ⟨_, rfl, HI.out.step 17 (by omega) (by omega) _ _ (Below.refl _ _) HLF.out (fun h => by omega) (fun h => by omega) (fun h => by omega) (fun h => by omega) (fun h => by omega) (fun _ => ⟨by rw [X5.out, X16.out], HL5.out, HL16.out⟩) (fun h => by omega)⟩
    · simp only [List.getElem?_cons_zero, List.getElem?_cons_succ, Option.some.injEq] at ho
      subst ho
      go_simp
      exact ⟨_, rfl, HI.out.step 18 (by omega) (by omega) _ _ ((Below.refl _ _).alloc (Nat.le_refl _) _) HLF.out (fun h => by omega) (fun h => by omega) (fun h => by omega) (fun h => by omega) (fun h => by omega) (fun h => by omega) (fun _ => ⟨rfl, _, _, _, alloc_new_at _ _ _ rfl⟩)⟩
    · simp only [List.getElem?_cons_zero, List.getElem?_cons_succ, Option.some.injEq] at ho
      subst ho
      have l17 : L.getD 17 false = true := HD.out ⟨17, .data⟩ (by simp) rfl
      have g17 := hh.got 17 _ 41 rfl rfl l17 (by simp)
      have l18 : L.getD 18 false = true := HD.out ⟨18, .data⟩ (by simp) rfl
      have g18 := hh.got 18 _ 8 rfl rfl l18 (by simp)
      obtain ⟨e18, _, u', x', v', gb, _⟩ := HI.out.al l18
      generalize hg : vb (val 18) = g at e18 gb
      have e17 := HI.out.bld l17
      obtain ⟨a5, n5, c5, x5⟩ := own_slice (HI.out.o5 (HI.out.d17 l17).1)
      obtain ⟨a16, n16, c16, x16⟩ := own_slice (HI.out.o16 (HI.out.d17 l17).2)
      rw [e17, x5, x16] at g17
      simp at g17
      rw [e18] at g18
      simp at g18
      obtain ⟨_, _, _, _, _, _⟩ := cells3f gb
      have hlg : g < W.heap.size := lt_of_block gb
      have HL17 := Lib.hid l17
      have HL18 := Lib.hid l18
      have HE18 := Lib.hid e18
      have X5 := Lib.hid x5
      have X16 := Lib.hid x16
      clear l17 l18 e17 e18 gb hg x5 x16
      go_simp
      have hf := HI.out.fill (by omega) g HE18.out HL17.out HL18.out
      rw [X5.out, X16.out] at hf
      exact ⟨undef, hf⟩

end Go.Proofs.Ytgbcdebnanejpaa.Rn
