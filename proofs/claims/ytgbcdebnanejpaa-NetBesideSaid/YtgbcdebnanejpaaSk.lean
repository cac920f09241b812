/- The walk of the law NetBeside. Over this seat's program. (mk_nbe.py wrote this.) -/
import Derived.Test.YtgbcdebnanejpaaSh
import Derived.Test.YtgbcdebnanejpaaOx
import Derived.Test.YtgbcdebnanejpaaWk
namespace Go.Proofs.Ytgbcdebnanejpaa.netBeside
open Go.ChangeShapes Go.WideShapes Go.ChangeAt Go.RowKit Go.Proofs.Ytgbcdebnanejpaa.Rn
set_option linter.unusedVariables false

def besK (u : Value) (b off m c j : Nat) (fp : Value) (X1 X2 : Int) (v12 v13 v14 v15 : Value) : Nat → Value
  | 0 => u
  | 1 => .slice (some ⟨b, off, none⟩) m c
  | 2 => .int .i64 j
  | 3 => .pointer (some ⟨b, off + j * 2, none⟩)
  | 4 => .pointer (some ⟨b, off + j * 2, none⟩)
  | 5 => .int .i64 X1
  | 6 => .slice (some ⟨b, off, none⟩) m c
  | 7 => .int .i64 j
  | 8 => .pointer (some ⟨b, off + j * 2, none⟩)
  | 9 => .pointer (some ⟨b, off + j * 2 + 1, none⟩)
  | 10 => .int .i64 X2
  | 11 => fp
  | 12 => v12
  | 13 => v13
  | 14 => v14
  | 15 => v15
  | _ => undef
theorem runB_parts {n : NetM} {l : List Evt} {T : Int} (h : runB n l T = true) : n.ps.length ≤ 40 ∧ n.ss.length ≤ 200 ∧ l.length ≤ 300 ∧ 0 ≤ T ∧ T ≤ 300 ∧ runE n l T = 0 := by
  simp [runB, fewB] at h
  obtain ⟨⟨⟨⟨⟨h1, h2⟩, h3⟩, h4⟩, h5⟩, h6⟩ := h
  have ok := ok_of_runE h6
  have q1 := ok.p1
  have q2 := ok.s1
  exact ⟨by omega, by omega, h3, h4, h5, h6⟩
theorem below2 (w : World) (o1 o2 : Obj) : Below w.heap.size w ((w.alloc o1).alloc o2) := ((Below.refl _ _).alloc (Nat.le_refl _) _).alloc (by simp) _
theorem blk2b (w : World) (o1 o2 : Obj) : ((w.alloc o1).alloc o2).heap[w.heap.size + 1]? = some o2 := alloc_new_at _ _ _ (by simp)
theorem blk2a (w : World) (o1 o2 : Obj) : ((w.alloc o1).alloc o2).heap[w.heap.size]? = some o1 := (Below.heap_alloc _ _ _ (by simp)).trans (alloc_new_at _ _ _ rfl)
theorem take_shE {k : Int} {l : List Evt} {j : Nat} {x : Evt} (h : l[j]? = some x) (o : List Evt) : o ++ (l.map (shE k)).take (j + 1) = (o ++ (l.map (shE k)).take j) ++ [⟨x.tk, x.id + k⟩] := by
  have h1 : (l.map (shE k))[j]? = some ⟨x.tk, x.id + k⟩ := by rw [List.getElem?_map, h]; rfl
  rw [List.take_add_one, h1, List.append_assoc]; rfl

set_option maxRecDepth 100000 in
set_option maxHeartbeats 8000000 in
theorem walk (a b : NetM) (l1 l2 : List Evt) (a1 a2 b1 b2 af ag : Option Addr) (c1 c2 d1 d2 cf cs : Nat) (T : Int) (w : World) (hpa : PsAt w (.slice a1 a.ps.length c1) a.ps) (hsa : SsAt w (.slice a2 a.ss.length c2) a.ss) (hpb : PsAt w (.slice b1 b.ps.length d1) b.ps) (hsb : SsAt w (.slice b2 b.ss.length d2) b.ss) (h1 : EvsC w (.slice af l1.length cf) l1) (h2 : EvsC w (.slice ag l2.length cs) l2) :
    Calls Try.prog 13 #[.agg #[.slice a1 a.ps.length c1, .int .i64 a.inp, .slice a2 a.ss.length c2], .agg #[.slice b1 b.ps.length d1, .int .i64 b.inp, .slice b2 b.ss.length d2], .slice af l1.length cf, .slice ag l2.length cs, .int .i64 T] w fun e w' => e = .returned (.bool true) ∧ Below w.heap.size w w' := by
  have hra := fun W (hb : Below w.heap.size w W) => runLaw_any a l1 a1 a2 af c1 c2 cf T W (hpa.below hb) (hsa.below hb) (h1.below hb)
  have hrb := fun W (hb : Below w.heap.size w W) => runLaw_any b l2 b1 b2 ag d1 d2 cs T W (hpb.below hb) (hsb.below hb) (h2.below hb)
  unfold RunBOut at hra hrb
  cases hA : runB a l1 T with
  | false =>
    rw [hA] at hra
    generalize runB b l2 T = Y at *
    obtain ⟨na, hna⟩ : ∃ x, a.ps.length = x := ⟨_, rfl⟩
    obtain ⟨ma, hma⟩ : ∃ x, a.ss.length = x := ⟨_, rfl⟩
    obtain ⟨ia, hia⟩ : ∃ x, a.inp = x := ⟨_, rfl⟩
    obtain ⟨nb, hnb⟩ : ∃ x, b.ps.length = x := ⟨_, rfl⟩
    obtain ⟨mb, hmb⟩ : ∃ x, b.ss.length = x := ⟨_, rfl⟩
    obtain ⟨ib, hib⟩ : ∃ x, b.inp = x := ⟨_, rfl⟩
    simp only [hna, hma, hia, hnb, hmb, hib] at hra hrb ⊢
    have HRA := Lib.hid hra
    have HRB := Lib.hid hrb
    clear hra hrb hA hpa hsa hpb hsb h1 h2 hna hma hia hnb hmb hib
    go_enter Try.func13, Try.ntmps13
    go_upto_region 2 with (go_at_call 46; refine (HRA.out _ (below2 w _ _)).mono ?_; rintro e w1 ⟨v11, rfl, hv11, hb1⟩; have hxA : NetBox w1 w.heap.size (.slice a1 na c1) ia (.slice a2 ma c2) := (hb1.block _ (by simp; omega)).trans (blk2a _ _ _); have hxB : NetBox w1 (w.heap.size + 1) (.slice b1 nb d1) ib (.slice b2 mb d2) := (hb1.block _ (by simp)).trans (blk2b _ _ _); obtain ⟨_, _, _⟩ := cells3 hxA; obtain ⟨_, _, _⟩ := cells3 hxB; have HXA := Lib.hid hxA; have HXB := Lib.hid hxB; have hzA : w.heap.size < w1.heap.size := lt_of_block hxA; have hzB : w.heap.size + 1 < w1.heap.size := lt_of_block hxB; have B1 := Lib.hid ((below2 w _ _).trans (hb1.mono (by simp; omega)) : Below w.heap.size w w1); have HV11 := Lib.hid hv11; clear hb1 hxA hxB hv11)
    go_upto_region 3 with (go_at_call 46; refine (HRB.out _ B1.out).mono ?_; rintro e w2 ⟨v13, rfl, hv13, hb2⟩; have hxA2 : NetBox w2 w.heap.size (.slice a1 na c1) ia (.slice a2 ma c2) := (hb2.block _ hzA).trans HXA.out; have hxB2 : NetBox w2 (w.heap.size + 1) (.slice b1 nb d1) ib (.slice b2 mb d2) := (hb2.block _ hzB).trans HXB.out; obtain ⟨_, _, _⟩ := cells3 hxA2; obtain ⟨_, _, _⟩ := cells3 hxB2; have HXA2 := Lib.hid hxA2; have HXB2 := Lib.hid hxB2; have hzA2 : w.heap.size < w2.heap.size := lt_of_block hxA2; have hzB2 : w.heap.size + 1 < w2.heap.size := lt_of_block hxB2; have B2 := Lib.hid (B1.out.trans (hb2.mono B1.out.size) : Below w.heap.size w w2); have B12 := Lib.hid hb2; have HV13 := Lib.hid hv13; clear hb2 hxA2 hxB2 hv13)
    go_wp2_with (go_at_call 18; refine (Lf.works_any _).mono ?_; rintro e w3 ⟨rfl, hb3⟩)
    go_ret
    exact ⟨rfl, B2.out.trans (hb3.mono B2.out.size)⟩
  | true =>
    cases hBB : runB b l2 T with
    | false =>
      rw [hA] at hra
      rw [hBB] at hrb
      obtain ⟨na, hna⟩ : ∃ x, a.ps.length = x := ⟨_, rfl⟩
      obtain ⟨ma, hma⟩ : ∃ x, a.ss.length = x := ⟨_, rfl⟩
      obtain ⟨ia, hia⟩ : ∃ x, a.inp = x := ⟨_, rfl⟩
      obtain ⟨nb, hnb⟩ : ∃ x, b.ps.length = x := ⟨_, rfl⟩
      obtain ⟨mb, hmb⟩ : ∃ x, b.ss.length = x := ⟨_, rfl⟩
      obtain ⟨ib, hib⟩ : ∃ x, b.inp = x := ⟨_, rfl⟩
      simp only [hna, hma, hia, hnb, hmb, hib] at hra hrb ⊢
      have HRA := Lib.hid hra
      have HRB := Lib.hid hrb
      clear hra hrb hA hBB hpa hsa hpb hsb h1 h2 hna hma hia hnb hmb hib
      go_enter Try.func13, Try.ntmps13
      go_upto_region 2 with (go_at_call 46; refine (HRA.out _ (below2 w _ _)).mono ?_; rintro e w1 ⟨v11, rfl, hv11, hb1⟩; have hxA : NetBox w1 w.heap.size (.slice a1 na c1) ia (.slice a2 ma c2) := (hb1.block _ (by simp; omega)).trans (blk2a _ _ _); have hxB : NetBox w1 (w.heap.size + 1) (.slice b1 nb d1) ib (.slice b2 mb d2) := (hb1.block _ (by simp)).trans (blk2b _ _ _); obtain ⟨_, _, _⟩ := cells3 hxA; obtain ⟨_, _, _⟩ := cells3 hxB; have HXA := Lib.hid hxA; have HXB := Lib.hid hxB; have hzA : w.heap.size < w1.heap.size := lt_of_block hxA; have hzB : w.heap.size + 1 < w1.heap.size := lt_of_block hxB; have B1 := Lib.hid ((below2 w _ _).trans (hb1.mono (by simp; omega)) : Below w.heap.size w w1); have HV11 := Lib.hid hv11; clear hb1 hxA hxB hv11)
      go_upto_region 3 with (go_at_call 46; refine (HRB.out _ B1.out).mono ?_; rintro e w2 ⟨v13, rfl, hv13, hb2⟩; have hxA2 : NetBox w2 w.heap.size (.slice a1 na c1) ia (.slice a2 ma c2) := (hb2.block _ hzA).trans HXA.out; have hxB2 : NetBox w2 (w.heap.size + 1) (.slice b1 nb d1) ib (.slice b2 mb d2) := (hb2.block _ hzB).trans HXB.out; obtain ⟨_, _, _⟩ := cells3 hxA2; obtain ⟨_, _, _⟩ := cells3 hxB2; have HXA2 := Lib.hid hxA2; have HXB2 := Lib.hid hxB2; have hzA2 : w.heap.size < w2.heap.size := lt_of_block hxA2; have hzB2 : w.heap.size + 1 < w2.heap.size := lt_of_block hxB2; have B2 := Lib.hid (B1.out.trans (hb2.mono B1.out.size) : Below w.heap.size w w2); have B12 := Lib.hid hb2; have HV13 := Lib.hid hv13; clear hb2 hxA2 hxB2 hv13)
      go_wp2_with (go_at_call 18; refine (Lf.works_any _).mono ?_; rintro e w3 ⟨rfl, hb3⟩)
      go_ret
      exact ⟨rfl, B2.out.trans (hb3.mono B2.out.size)⟩
    | true =>
      obtain ⟨x1, x2, x3, x4, x5, hEa⟩ := runB_parts hA
      obtain ⟨x6, x7, x8, _, _, hEb⟩ := runB_parts hBB
      have okA := ok_of_runE hEa
      have okB := ok_of_runE hEb
      have hA0 := okA.i0
      have hA1 := okA.i1
      have hB0 := okB.i0
      have hB1 := okB.i1
      rw [hA] at hra
      rw [hBB] at hrb
      by_cases hsum : a.inp + b.inp ≤ 256
      · obtain ⟨hjE, hso, hlong, hshort⟩ := beside_ok hEa hEb (by omega) hsum (by omega) (by omega)
        have hjn := fun W (hb : Below w.heap.size w W) => jn_ok a b a1 a2 b1 b2 c1 c2 d1 d2 (ncheck_of okA) (ncheck_of okB) W (hpa.below hb) (hsa.below hb) (hpb.below hb) (hsb.below hb)
        rw [hjE, show joinR a b = joinN a b by unfold joinR; rw [if_pos hjE]] at hjn
        have hidB : ∀ e ∈ l2, 0 ≤ e.id ∧ e.id < b.inp := fun e he => by have := ((evs_iff.1 (evs_of_runE hEb).2).2 e he).2; omega
        have hidS : ∀ e ∈ runO b l2 T.toNat, 0 ≤ e.id ∧ e.id < (b.ps.length : Int) := runO_ids _
        have hsh1 := short_of_runE hEa
        have hsh2 := short_of_runE hEb
        have hRR : runE (joinN a b) (sortE (l1 ++ l2.map (shE a.inp))) T = 0 → runR (joinN a b) (sortE (l1 ++ l2.map (shE a.inp))) T = runO (joinN a b) (sortE (l1 ++ l2.map (shE a.inp))) T.toNat := fun h => by unfold runR; rw [if_pos h]
        obtain ⟨na, hna⟩ : ∃ x, a.ps.length = x := ⟨_, rfl⟩
        obtain ⟨ma, hma⟩ : ∃ x, a.ss.length = x := ⟨_, rfl⟩
        obtain ⟨ia, hia⟩ : ∃ x, a.inp = x := ⟨_, rfl⟩
        obtain ⟨nb, hnb⟩ : ∃ x, b.ps.length = x := ⟨_, rfl⟩
        obtain ⟨mb, hmb⟩ : ∃ x, b.ss.length = x := ⟨_, rfl⟩
        obtain ⟨ib, hib⟩ : ∃ x, b.inp = x := ⟨_, rfl⟩
        obtain ⟨J, hJ⟩ : ∃ J, joinN a b = J := ⟨_, rfl⟩
        obtain ⟨S1, hS1⟩ : ∃ S, runO a l1 T.toNat = S := ⟨_, rfl⟩
        obtain ⟨S2, hS2⟩ : ∃ S, runO b l2 T.toNat = S := ⟨_, rfl⟩
        obtain ⟨m2, hm2⟩ : ∃ x, l2.length = x := ⟨_, rfl⟩
        obtain ⟨m1, hm1⟩ : ∃ x, l1.length = x := ⟨_, rfl⟩
        obtain ⟨mS1, hmS1⟩ : ∃ x, S1.length = x := ⟨_, rfl⟩
        obtain ⟨mS2, hmS2⟩ : ∃ x, S2.length = x := ⟨_, rfl⟩
        simp only [hna, hma, hia, hnb, hmb, hib, hJ, hS1, hS2, hm1, hm2] at hra hrb hjn hso hlong hshort hidB hidS hsh1 hsh2 hRR hA0 hA1 hB0 hB1 hsum x1 x3 x6 x8 h1 h2 ⊢
        rw [hmS1] at hsh1
        rw [hmS2] at hsh2
        have HRA := Lib.hid hra
        have HRB := Lib.hid hrb
        have HJN := Lib.hid hjn
        have HSO := Lib.hid hso
        have HLG := Lib.hid hlong
        have HST := Lib.hid hshort
        have HIB := Lib.hid hidB
        have HIS := Lib.hid hidS
        have HRR := Lib.hid hRR
        have HF1 := Lib.hid h1
        have HF2 := Lib.hid h2
        have M1 := Lib.hid hm1
        have M2 := Lib.hid hm2
        have MS1 := Lib.hid hmS1
        have MS2 := Lib.hid hmS2
        have hm20 : (0 : Int) ≤ (m2 : Int) := Int.natCast_nonneg _
        have hmS20 : (0 : Int) ≤ (mS2 : Int) := Int.natCast_nonneg _
        have hna0 : (0 : Int) ≤ (na : Int) := Int.natCast_nonneg _
        have hnb0 : (0 : Int) ≤ (nb : Int) := Int.natCast_nonneg _
        have z0 : (256 < ia + ib) = False := eq_false (by omega)
        have z1 : (ia + ib > 256) = False := eq_false (by omega)
        clear hra hrb hjn hso hlong hshort hidB hidS hRR h1 h2 hm1 hm2 hmS1 hmS2 hA hBB hEa hEb okA okB hjE hpa hsa hpb hsb hna hma hia hnb hmb hib hJ hS1 hS2 x2 x7
        go_enter Try.func13, Try.ntmps13
        go_upto_region 2 with (go_at_call 46; refine (HRA.out _ (below2 w _ _)).mono ?_; rintro e w1 ⟨v11, rfl, hv11, hb1⟩; have hxA : NetBox w1 w.heap.size (.slice a1 na c1) ia (.slice a2 ma c2) := (hb1.block _ (by simp; omega)).trans (blk2a _ _ _); have hxB : NetBox w1 (w.heap.size + 1) (.slice b1 nb d1) ib (.slice b2 mb d2) := (hb1.block _ (by simp)).trans (blk2b _ _ _); obtain ⟨_, _, _⟩ := cells3 hxA; obtain ⟨_, _, _⟩ := cells3 hxB; have HXA := Lib.hid hxA; have HXB := Lib.hid hxB; have hzA : w.heap.size < w1.heap.size := lt_of_block hxA; have hzB : w.heap.size + 1 < w1.heap.size := lt_of_block hxB; have B1 := Lib.hid ((below2 w _ _).trans (hb1.mono (by simp; omega)) : Below w.heap.size w w1); have HV11 := Lib.hid hv11; clear hb1 hxA hxB hv11)
        go_upto_region 3 with (go_at_call 46; refine (HRB.out _ B1.out).mono ?_; rintro e w2 ⟨v13, rfl, hv13, hb2⟩; have hxA2 : NetBox w2 w.heap.size (.slice a1 na c1) ia (.slice a2 ma c2) := (hb2.block _ hzA).trans HXA.out; have hxB2 : NetBox w2 (w.heap.size + 1) (.slice b1 nb d1) ib (.slice b2 mb d2) := (hb2.block _ hzB).trans HXB.out; obtain ⟨_, _, _⟩ := cells3 hxA2; obtain ⟨_, _, _⟩ := cells3 hxB2; have HXA2 := Lib.hid hxA2; have HXB2 := Lib.hid hxB2; have hzA2 : w.heap.size < w2.heap.size := lt_of_block hxA2; have hzB2 : w.heap.size + 1 < w2.heap.size := lt_of_block hxB2; have B2 := Lib.hid (B1.out.trans (hb2.mono B1.out.size) : Below w.heap.size w w2); have B12 := Lib.hid hb2; have HV13 := Lib.hid hv13; clear hb2 hxA2 hxB2 hv13)
        obtain ⟨a11, c11, hf11⟩ := (HV11.out trivial).form
        obtain ⟨a13, c13, hf13⟩ := (HV13.out trivial).form
        subst hf11 hf13
        rw [MS1.out, MS2.out]
        go_upto_region 6 with (go_at_call 27; refine (HJN.out _ B2.out).mono ?_; rintro e w3 ⟨v1, rfl, ⟨p1, r1, p2, r2, rfl, hp1, hs1⟩, hb3⟩)
        have hW3 : Below w2.heap.size w2 (w3.alloc (.cells #[.slice p1 J.ps.length r1, .int .i64 J.inp, .slice p2 J.ss.length r2] 25)) := hb3.alloc hb3.size _
        have hk3 : NetBox (w3.alloc (.cells #[.slice p1 J.ps.length r1, .int .i64 J.inp, .slice p2 J.ss.length r2] 25)) w3.heap.size (.slice p1 J.ps.length r1) J.inp (.slice p2 J.ss.length r2) := alloc_new_at _ _ _ rfl
        have hp3 := hp1.below ((Below.refl w3.heap.size w3).alloc (Nat.le_refl _) (.cells #[.slice p1 J.ps.length r1, .int .i64 J.inp, .slice p2 J.ss.length r2] 25))
        have hs3 := hs1.below ((Below.refl w3.heap.size w3).alloc (Nat.le_refl _) (.cells #[.slice p1 J.ps.length r1, .int .i64 J.inp, .slice p2 J.ss.length r2] 25))
        have hsz3 : w3.heap.size < (w3.alloc (.cells #[.slice p1 J.ps.length r1, .int .i64 J.inp, .slice p2 J.ss.length r2] 25)).heap.size := by simp
        generalize w3.alloc (.cells #[.slice p1 J.ps.length r1, .int .i64 J.inp, .slice p2 J.ss.length r2] 25) = W3 at *
        generalize w3.heap.size = B3 at *
        have h03 : Below w.heap.size w W3 := B2.out.trans (hW3.mono B2.out.size)
        have hxA3 : NetBox W3 w.heap.size (.slice a1 na c1) ia (.slice a2 ma c2) := (hW3.block _ hzA2).trans HXA2.out
        have hzA3 : w.heap.size < W3.heap.size := lt_of_block hxA3
        have HXA3 := Lib.hid hxA3
        have HK3 := Lib.hid hk3
        have HP3 := Lib.hid hp3
        have HS3 := Lib.hid hs3
        have H03 := Lib.hid h03
        have HF13' := Lib.hid (HF1.out.1.below h03)
        have HE11 := Lib.hid (((HV11.out trivial).below B12.out).below hW3)
        have HE13 := Lib.hid ((HV13.out trivial).below hW3)
        clear hW3 hk3 hp3 hs3 h03 hb3 hp1 hs1 hxA3
        go_upto_region 9 with (at_builtin; go_must (refine appE (w := W3) rfl _ _ rfl _ 0 [] l1 rfl own_fresh (by omega) ((Below.refl _ _).alloc (Nat.le_refl _) _) _ _ _ rfl M1.out.symm HF13'.out (by omega) ?_); intro v17 w8 hn8 hb8; have HN8 := Lib.hid hn8; have HB8 := Lib.hid hb8; clear hn8 hb8)
        have hn8 : w8.ownsRow W3.heap.size 85 2 v17 m1 (evCs l1) := by have h := HN8.out; rw [Nat.zero_add, List.nil_append] at h; exact h
        have HN8' := Lib.hid hn8
        clear hn8 HN8
        go_wp2
        go_loopw [17, 18] (fun s17 s18 wr => ∃ j : Nat, j ≤ m2 ∧ s18 = .int .i64 j ∧ wr.ownsRow W3.heap.size 85 2 s17 (m1 + j) (evCs (l1 ++ (l2.map (shE ia)).take j)) ∧ Below W3.heap.size W3 wr) (fun _ s18 _ => m2 - (intOf s18).toNat)
        case atStart => exact ⟨0, Nat.zero_le _, rfl, by simpa using HN8'.out, HB8.out⟩
        case round =>
          obtain ⟨j, hj, rfl, hrow, hb⟩ := hrel
          have hj0 : (0 : Int) ≤ (j : Int) := Int.natCast_nonneg _
          have hBw := hb.size
          by_cases hlt : j < m2
          · have hj1 : ((j : Int) < (m2 : Int)) = True := by simp; omega
            have hj2 : (j : Int) < (m2 : Int) := by omega
            obtain ⟨x, hx⟩ : ∃ x, l2[j]? = some x := ⟨_, List.getElem?_eq_getElem (by rw [M2.out]; exact hlt)⟩
            obtain ⟨q5, q6⟩ := HIB.out x (List.mem_of_getElem? hx)
            have hv := HF2.out.1
            rw [← M2.out] at hv
            obtain ⟨bb, off, hab, hbl, hcc⟩ := hv.at hx
            have hab : ag = some ⟨bb, off, none⟩ := by simpa using hab
            subst hab
            have HTK := Lib.hid (take_shE (k := ia) hx l1)
            obtain ⟨X1, X2⟩ := x
            simp only at q5 q6
            have wT : wrap64 (X2 + ia) = X2 + ia := by unfold wrap64; omega
            have hbB : bb < W3.heap.size := by have := H03.out.size; omega
            have hbA : w.heap.size < W3.heap.size := hzA3
            obtain ⟨t1, t2⟩ := hcc.below (H03.out.trans (hb.mono H03.out.size)) hbl
            simp only at t1 t2
            obtain ⟨_, t3, _⟩ := cells3 (show NetBox wr w.heap.size (.slice a1 na c1) ia (.slice a2 ma c2) from (hb.block _ hzA3).trans HXA3.out)
            have HT1 := Lib.hid t1
            have HT2 := Lib.hid t2
            have HT3 := Lib.hid t3
            have hbr : bb < wr.heap.size := by omega
            have hbAr : w.heap.size < wr.heap.size := by omega
            obtain ⟨va, vc, rfl⟩ := own_sl hrow
            have HROW := Lib.hid hrow
            have HBB := Lib.hid hb
            clear hx hv hcc hrow hb
            go_upto_region 12 with (fail)
            have y1 : wr.cell? ⟨bb, off + j * 2, none⟩ = some (.int .i64 X1) := HT1.out
            have y2 : wr.cell? ⟨bb, off + j * 2 + 1, none⟩ = some (.int .i64 X2) := HT2.out
            have y3 : wr.cell? ⟨w.heap.size, 1, none⟩ = some (.int .i64 ia) := HT3.out
            clear t1 t2 t3
            refine wp_region_late (ApR wr W3.heap.size (m1 + j) 15 (l1 ++ (l2.map (shE ia)).take j) ⟨X1, X2 + ia⟩ (.slice va (m1 + j) vc) (besK (.slice va (m1 + j) vc) bb off m2 cs j (.pointer (some ⟨w.heap.size, 1, none⟩)) X1 X2 (.int .i64 ia) (.int .i64 (X2 + ia)) (.agg #[.int .i64 X1, .int .i64 (X2 + ia)]) undef)) (by kernel_rfl) (by kernel_rfl) (by kernel_rfl) (by kernel_rfl) (ApR.init _ hBw HROW.out) ?stp ?dn
            case dn =>
              intro val W b' hI hb
              have hoa := hI.oa (by simp)
              have hea := hI.ea (by simp)
              have kn : ∀ q, q < 15 → val q = (besK (.slice va (m1 + j) vc) bb off m2 cs j (.pointer (some ⟨w.heap.size, 1, none⟩)) X1 X2 (.int .i64 ia) (.int .i64 (X2 + ia)) (.agg #[.int .i64 X1, .int .i64 (X2 + ia)]) undef) q := fun q hq => hI.known q hq (replT (by show q < 18; omega))
              obtain ⟨va', vc', hva⟩ := own_sl hoa.1
              obtain ⟨vp, hvp⟩ : ∃ v, v = val 15 := ⟨_, rfl⟩
              rw [hva] at hoa hea
              simp only [puts, hva, hea, ← hvp, kn 0 (by decide), kn 1 (by decide), kn 2 (by decide), kn 3 (by decide), kn 4 (by decide), kn 5 (by decide), kn 6 (by decide), kn 7 (by decide), kn 8 (by decide), kn 9 (by decide), kn 10 (by decide), kn 11 (by decide), kn 12 (by decide), kn 13 (by decide), kn 14 (by decide), besK] at hb
              have HOA := Lib.hid hoa
              have HBL := Lib.hid hI.bel
              have HOT := Lib.hid hI.oth
              have hzW := hI.bel.size
              clear hI hoa hea kn hva hvp
              subst hb
              simp only [Act.put, List.setIfInBounds_toArray, List.set_cons_succ, List.set_cons_zero]
              go_wp2
              go_roundw
              case rel => exact ⟨j + 1, by omega, by go_num, by rw [HTK.out]; exact HOA.out.1, HBB.out.trans (HBL.out.mono (Nat.le_refl _))⟩
              case measure => simp [intOf]; omega
            case stp =>
              intro L val W i' o b' hs ho hlF hdd hI hh hlate
              have hi' := (List.getElem?_eq_some_iff.1 ho).1
              have hcs : i' = 0 ∨ i' = 1 ∨ i' = 2 ∨ i' = 3 ∨ i' = 4 ∨ i' = 5 ∨ i' = 6 ∨ i' = 7 ∨ i' = 8 ∨ i' = 9 ∨ i' = 10 ∨ i' = 11 ∨ i' = 12 ∨ i' = 13 ∨ i' = 14 ∨ i' = 15 ∨ i' = 16 ∨ i' = 17 := by simp at hi'; omega
              have hLs : 15 + 2 < L.size := by simp at hs; omega
              have HI := Lib.hid hI
              have HLF := Lib.hid hlF
              have HD := Lib.hid hdd
              have e1 : W.cell? ⟨bb, off + j * 2, none⟩ = _ := (World.cell?_of_block (HI.out.bel.block bb hbB)).trans y1
              have e2 : W.cell? ⟨bb, off + j * 2 + 1, none⟩ = _ := (World.cell?_of_block (HI.out.bel.block bb hbB)).trans y2
              have e3 : W.cell? ⟨w.heap.size, 1, none⟩ = _ := (World.cell?_of_block (HI.out.bel.block w.heap.size hbA)).trans y3
              have hbW : bb < W.heap.size := Nat.lt_of_lt_of_le hbB (Nat.le_trans hBw HI.out.bel.size)
              have hbAW : w.heap.size < W.heap.size := Nat.lt_of_lt_of_le hbA (Nat.le_trans hBw HI.out.bel.size)
              clear hi' hs hI hlF hdd
              rcases hcs with rfl | rfl | rfl | rfl | rfl | rfl | rfl | rfl | rfl | rfl | rfl | rfl | rfl | rfl | rfl | rfl | rfl | rfl
              · simp only [List.getElem?_cons_zero, Option.some.injEq] at ho
                subst ho
                have k17 := hlate 17 (by kernel_rfl)
                simp at k17
                go_simp
                exact ⟨_, rfl, HI.out.skip 0 (by omega) _ rfl⟩
              · simp only [List.getElem?_cons_zero, List.getElem?_cons_succ, Option.some.injEq] at ho
                subst ho
                have k3 := hh.kept 3 (by simp)
                simp at k3
                go_simp
                exact ⟨_, rfl, HI.out.skip 1 (by omega) _ rfl⟩
              · simp only [List.getElem?_cons_zero, List.getElem?_cons_succ, Option.some.injEq] at ho
                subst ho
                have k18 := hh.kept 18 (by simp)
                simp at k18
                go_simp
                exact ⟨_, rfl, HI.out.skip 2 (by omega) _ rfl⟩
              · simp only [List.getElem?_cons_zero, List.getElem?_cons_succ, Option.some.injEq] at ho
                subst ho
                have l1 : L.getD 1 false = true := HD.out ⟨1, .data⟩ (by simp) rfl
                have g1 := hh.got 1 _ 69 rfl rfl l1 (by simp)
                rw [HI.out.known 1 (by omega) l1] at g1
                simp [besK] at g1
                have l2 : L.getD 2 false = true := HD.out ⟨2, .data⟩ (by simp) rfl
                have g2 := hh.got 2 _ 70 rfl rfl l2 (by simp)
                rw [HI.out.known 2 (by omega) l2] at g2
                simp [besK] at g2
                clear l1 l2
                go_simp
                exact ⟨_, rfl, HI.out.skip 3 (by omega) _ rfl⟩
              · simp only [List.getElem?_cons_zero, List.getElem?_cons_succ, Option.some.injEq] at ho
                subst ho
                have l3 : L.getD 3 false = true := HD.out ⟨3, .data⟩ (by simp) rfl
                have g3 := hh.got 3 _ 71 rfl rfl l3 (by simp)
                rw [HI.out.known 3 (by omega) l3] at g3
                simp [besK] at g3
                clear l3
                go_simp
                exact ⟨_, rfl, HI.out.skip 4 (by omega) _ rfl⟩
              · simp only [List.getElem?_cons_zero, List.getElem?_cons_succ, Option.some.injEq] at ho
                subst ho
                have l4 : L.getD 4 false = true := HD.out ⟨4, .data⟩ (by simp) rfl
                have g4 := hh.got 4 _ 72 rfl rfl l4 (by simp)
                rw [HI.out.known 4 (by omega) l4] at g4
                simp [besK] at g4
                clear l4
                go_simp
                exact ⟨_, rfl, HI.out.skip 5 (by omega) _ rfl⟩
              · simp only [List.getElem?_cons_zero, List.getElem?_cons_succ, Option.some.injEq] at ho
                subst ho
                have k3 := hh.kept 3 (by simp)
                simp at k3
                go_simp
                exact ⟨_, rfl, HI.out.skip 6 (by omega) _ rfl⟩
              · simp only [List.getElem?_cons_zero, List.getElem?_cons_succ, Option.some.injEq] at ho
                subst ho
                have k18 := hh.kept 18 (by simp)
                simp at k18
                go_simp
                exact ⟨_, rfl, HI.out.skip 7 (by omega) _ rfl⟩
              · simp only [List.getElem?_cons_zero, List.getElem?_cons_succ, Option.some.injEq] at ho
                subst ho
                have l6 : L.getD 6 false = true := HD.out ⟨6, .data⟩ (by simp) rfl
                have g6 := hh.got 6 _ 74 rfl rfl l6 (by simp)
                rw [HI.out.known 6 (by omega) l6] at g6
                simp [besK] at g6
                have l7 : L.getD 7 false = true := HD.out ⟨7, .data⟩ (by simp) rfl
                have g7 := hh.got 7 _ 75 rfl rfl l7 (by simp)
                rw [HI.out.known 7 (by omega) l7] at g7
                simp [besK] at g7
                clear l6 l7
                go_simp
                exact ⟨_, rfl, HI.out.skip 8 (by omega) _ rfl⟩
              · simp only [List.getElem?_cons_zero, List.getElem?_cons_succ, Option.some.injEq] at ho
                subst ho
                have l8 : L.getD 8 false = true := HD.out ⟨8, .data⟩ (by simp) rfl
                have g8 := hh.got 8 _ 76 rfl rfl l8 (by simp)
                rw [HI.out.known 8 (by omega) l8] at g8
                simp [besK] at g8
                clear l8
                go_simp
                exact ⟨_, rfl, HI.out.skip 9 (by omega) _ rfl⟩
              · simp only [List.getElem?_cons_zero, List.getElem?_cons_succ, Option.some.injEq] at ho
                subst ho
                have l9 : L.getD 9 false = true := HD.out ⟨9, .data⟩ (by simp) rfl
                have g9 := hh.got 9 _ 77 rfl rfl l9 (by simp)
                rw [HI.out.known 9 (by omega) l9] at g9
                simp [besK] at g9
                clear l9
                go_simp
                exact ⟨_, rfl, HI.out.skip 10 (by omega) _ rfl⟩
              · simp only [List.getElem?_cons_zero, List.getElem?_cons_succ, Option.some.injEq] at ho
                subst ho
                have k5 := hh.kept 5 (by simp)
                simp at k5
                go_simp
                exact ⟨_, rfl, HI.out.skip 11 (by omega) _ rfl⟩
              · simp only [List.getElem?_cons_zero, List.getElem?_cons_succ, Option.some.injEq] at ho
                subst ho
                have l11 : L.getD 11 false = true := HD.out ⟨11, .data⟩ (by simp) rfl
                have g11 := hh.got 11 _ 79 rfl rfl l11 (by simp)
                rw [HI.out.known 11 (by omega) l11] at g11
                simp [besK] at g11
                clear l11
                go_simp
                exact ⟨_, rfl, HI.out.skip 12 (by omega) _ rfl⟩
              · simp only [List.getElem?_cons_zero, List.getElem?_cons_succ, Option.some.injEq] at ho
                subst ho
                have l10 : L.getD 10 false = true := HD.out ⟨10, .data⟩ (by simp) rfl
                have g10 := hh.got 10 _ 78 rfl rfl l10 (by simp)
                rw [HI.out.known 10 (by omega) l10] at g10
                simp [besK] at g10
                have l12 : L.getD 12 false = true := HD.out ⟨12, .data⟩ (by simp) rfl
                have g12 := hh.got 12 _ 80 rfl rfl l12 (by simp)
                rw [HI.out.known 12 (by omega) l12] at g12
                simp [besK] at g12
                clear l10 l12
                go_simp
                exact ⟨_, rfl, HI.out.skip 13 (by omega) _ (by simp only [wrap_eq, wT, besK])⟩
              · simp only [List.getElem?_cons_zero, List.getElem?_cons_succ, Option.some.injEq] at ho
                subst ho
                have l5 : L.getD 5 false = true := HD.out ⟨5, .data⟩ (by simp) rfl
                have g5 := hh.got 5 _ 73 rfl rfl l5 (by simp)
                rw [HI.out.known 5 (by omega) l5] at g5
                simp [besK] at g5
                have l13 : L.getD 13 false = true := HD.out ⟨13, .data⟩ (by simp) rfl
                have g13 := hh.got 13 _ 81 rfl rfl l13 (by simp)
                rw [HI.out.known 13 (by omega) l13] at g13
                simp [besK] at g13
                clear l5 l13
                go_simp
                exact ⟨_, rfl, HI.out.skip 14 (by omega) _ rfl⟩
              · simp only [List.getElem?_cons_zero, List.getElem?_cons_succ, Option.some.injEq] at ho
                subst ho
                have l14 : L.getD 14 false = true := HD.out ⟨14, .data⟩ (by simp) rfl
                have g14 := hh.got 14 _ 82 rfl rfl l14 (by simp)
                rw [HI.out.known 14 (by omega) l14] at g14
                simp [besK] at g14
                clear l14
                go_simp
                exact ⟨_, rfl, HI.out.make (by omega) HLF.out⟩
              · simp only [List.getElem?_cons_zero, List.getElem?_cons_succ, Option.some.injEq] at ho
                subst ho
                have l0 : L.getD 0 false = true := HD.out ⟨0, .data⟩ (by simp) rfl
                have l15 : L.getD 15 false = true := HD.out ⟨15, .data⟩ (by simp) rfl
                have e0 : b'.eval (.tmp 68) = _ := (hh.got 0 _ 68 rfl rfl l0 (by simp)).trans (HI.out.known 0 (by omega) l0)
                have ep : b'.eval (.tmp 83) = val 15 := hh.got 15 _ 83 rfl rfl l15 (by simp)
                simp only [besK] at e0
                obtain ⟨v', w', hr, hw'⟩ := HI.out.app (by omega) HLF.out l15 (by omega) 30
                unfold Oper.wp execOp
                simp only [resolve, invoke, builtin, Sem.run_bind, Sem.run_pure, Result.andThen_ok, List.map_toArray, List.map_cons, List.map_nil, e0, ep, hr]
                exact ⟨_, rfl, hw'⟩
              · simp only [List.getElem?_cons_zero, List.getElem?_cons_succ, Option.some.injEq] at ho
                subst ho
                have l16 : L.getD 16 false = true := HD.out ⟨16, .data⟩ (by simp) rfl
                have g16 := hh.got 16 _ 84 rfl rfl l16 (by simp)
                go_simp
                exact ⟨_, rfl, HI.out.asg (by omega) l16⟩
          · obtain rfl : m2 = j := by omega
            have hj1 : ((m2 : Int) < (m2 : Int)) = False := by simp
            have hall : (l2.map (shE ia)).take m2 = l2.map (shE ia) := List.take_of_length_le (by rw [List.length_map, M2.out]; exact Nat.le_refl _)
            rw [hall] at hrow
            obtain ⟨va7, vc7, rfl⟩ := own_sl hrow
            have hlen : (l1 ++ l2.map (shE ia)).length = m1 + m2 := by rw [List.length_append, List.length_map, M1.out, M2.out]
            have HLEN := Lib.hid hlen
            generalize wr = wq at *
            have HR17 := Lib.hid hrow
            have HBQ := Lib.hid hb
            have he11 := HE11.out.below hb
            rw [MS1.out] at he11
            have HE11q := Lib.hid he11
            clear hrow hb hlen hall he11 hlt hj
            go_upto_region 14 with (at_builtin; go_must (refine appE (w := wq) rfl _ _ rfl _ 0 [] S1 rfl own_fresh (by omega) ((Below.refl _ _).alloc (Nat.le_refl _) _) _ _ _ rfl MS1.out.symm HE11q.out (by omega) ?_); intro v19 w9 hn9 hb9; have HN9 := Lib.hid hn9; have HB9 := Lib.hid hb9; clear hn9 hb9)
            have hn9 : w9.ownsRow wq.heap.size 85 2 v19 mS1 (evCs S1) := by have h := HN9.out; rw [Nat.zero_add, List.nil_append] at h; exact h
            have HN9' := Lib.hid hn9
            clear hn9 HN9
            go_wp2
            go_loopw [19, 20] (fun s19 s20 wr => ∃ j : Nat, j ≤ mS2 ∧ s20 = .int .i64 j ∧ wr.ownsRow wq.heap.size 85 2 s19 (mS1 + j) (evCs (S1 ++ (S2.map (shE na)).take j)) ∧ Below wq.heap.size wq wr) (fun _ s20 _ => mS2 - (intOf s20).toNat)
            case atStart => exact ⟨0, Nat.zero_le _, rfl, by simpa using HN9'.out, HB9.out⟩
            case round =>
              obtain ⟨j, hj, rfl, hrow, hb⟩ := hrel
              have hj0 : (0 : Int) ≤ (j : Int) := Int.natCast_nonneg _
              have hBw := hb.size
              by_cases hlt : j < mS2
              · have hj1 : ((j : Int) < (mS2 : Int)) = True := by simp; omega
                have hj2 : (j : Int) < (mS2 : Int) := by omega
                obtain ⟨x, hx⟩ : ∃ x, S2[j]? = some x := ⟨_, List.getElem?_eq_getElem (by rw [MS2.out]; exact hlt)⟩
                obtain ⟨q5, q6⟩ := HIS.out x (List.mem_of_getElem? hx)
                obtain ⟨bb, off, hab, hbl, hcc⟩ := HE13.out.at hx
                have hab : a13 = some ⟨bb, off, none⟩ := by simpa using hab
                subst hab
                have HTK := Lib.hid (take_shE (k := (na : Int)) hx S1)
                obtain ⟨X1, X2⟩ := x
                simp only at q5 q6
                have wT : wrap64 (X2 + (na : Int)) = X2 + (na : Int) := by unfold wrap64; omega
                have hbB : bb < wq.heap.size := by omega
                have hbA : w.heap.size < wq.heap.size := by omega
                obtain ⟨t1, t2⟩ := hcc.below (HBQ.out.trans (hb.mono HBQ.out.size)) hbl
                simp only at t1 t2
                obtain ⟨t3, _, _⟩ := cells3 (show NetBox wr w.heap.size (.slice a1 na c1) ia (.slice a2 ma c2) from (hb.block _ hbA).trans ((HBQ.out.block _ hzA3).trans HXA3.out))
                have HT1 := Lib.hid t1
                have HT2 := Lib.hid t2
                have HT3 := Lib.hid t3
                have hbr : bb < wr.heap.size := by omega
                have hbAr : w.heap.size < wr.heap.size := by omega
                obtain ⟨va, vc, rfl⟩ := own_sl hrow
                have HROW := Lib.hid hrow
                have HBB := Lib.hid hb
                clear hx hcc hrow hb
                go_upto_region 17 with (fail)
                have y1 : wr.cell? ⟨bb, off + j * 2, none⟩ = some (.int .i64 X1) := HT1.out
                have y2 : wr.cell? ⟨bb, off + j * 2 + 1, none⟩ = some (.int .i64 X2) := HT2.out
                have y3 : wr.cell? ⟨w.heap.size, 0, none⟩ = some (.slice a1 na c1) := HT3.out
                clear t1 t2 t3
                refine wp_region_late (ApR wr wq.heap.size (mS1 + j) 16 (S1 ++ (S2.map (shE na)).take j) ⟨X1, X2 + na⟩ (.slice va (mS1 + j) vc) (besK (.slice va (mS1 + j) vc) bb off mS2 c13 j (.pointer (some ⟨w.heap.size, 0, none⟩)) X1 X2 (.slice a1 na c1) (.int .i64 na) (.int .i64 (X2 + na)) (.agg #[.int .i64 X1, .int .i64 (X2 + na)]))) (by kernel_rfl) (by kernel_rfl) (by kernel_rfl) (by kernel_rfl) (ApR.init _ hBw HROW.out) ?stp ?dn
                case dn =>
                  intro val W b' hI hb
                  have hoa := hI.oa (by simp)
                  have hea := hI.ea (by simp)
                  have kn : ∀ q, q < 16 → val q = (besK (.slice va (mS1 + j) vc) bb off mS2 c13 j (.pointer (some ⟨w.heap.size, 0, none⟩)) X1 X2 (.slice a1 na c1) (.int .i64 na) (.int .i64 (X2 + na)) (.agg #[.int .i64 X1, .int .i64 (X2 + na)])) q := fun q hq => hI.known q hq (replT (by show q < 19; omega))
                  obtain ⟨va', vc', hva⟩ := own_sl hoa.1
                  obtain ⟨vp, hvp⟩ : ∃ v, v = val 16 := ⟨_, rfl⟩
                  rw [hva] at hoa hea
                  simp only [puts, hva, hea, ← hvp, kn 0 (by decide), kn 1 (by decide), kn 2 (by decide), kn 3 (by decide), kn 4 (by decide), kn 5 (by decide), kn 6 (by decide), kn 7 (by decide), kn 8 (by decide), kn 9 (by decide), kn 10 (by decide), kn 11 (by decide), kn 12 (by decide), kn 13 (by decide), kn 14 (by decide), kn 15 (by decide), besK] at hb
                  have HOA := Lib.hid hoa
                  have HBL := Lib.hid hI.bel
                  have HOT := Lib.hid hI.oth
                  have hzW := hI.bel.size
                  clear hI hoa hea kn hva hvp
                  subst hb
                  simp only [Act.put, List.setIfInBounds_toArray, List.set_cons_succ, List.set_cons_zero]
                  go_wp2
                  go_roundw
                  case rel => exact ⟨j + 1, by omega, by go_num, by rw [HTK.out]; exact HOA.out.1, HBB.out.trans (HBL.out.mono (Nat.le_refl _))⟩
                  case measure => simp [intOf]; omega
                case stp =>
                  intro L val W i' o b' hs ho hlF hdd hI hh hlate
                  have hi' := (List.getElem?_eq_some_iff.1 ho).1
                  have hcs : i' = 0 ∨ i' = 1 ∨ i' = 2 ∨ i' = 3 ∨ i' = 4 ∨ i' = 5 ∨ i' = 6 ∨ i' = 7 ∨ i' = 8 ∨ i' = 9 ∨ i' = 10 ∨ i' = 11 ∨ i' = 12 ∨ i' = 13 ∨ i' = 14 ∨ i' = 15 ∨ i' = 16 ∨ i' = 17 ∨ i' = 18 := by simp at hi'; omega
                  have hLs : 16 + 2 < L.size := by simp at hs; omega
                  have HI := Lib.hid hI
                  have HLF := Lib.hid hlF
                  have HD := Lib.hid hdd
                  have e1 : W.cell? ⟨bb, off + j * 2, none⟩ = _ := (World.cell?_of_block (HI.out.bel.block bb hbB)).trans y1
                  have e2 : W.cell? ⟨bb, off + j * 2 + 1, none⟩ = _ := (World.cell?_of_block (HI.out.bel.block bb hbB)).trans y2
                  have e3 : W.cell? ⟨w.heap.size, 0, none⟩ = _ := (World.cell?_of_block (HI.out.bel.block w.heap.size hbA)).trans y3
                  have hbW : bb < W.heap.size := Nat.lt_of_lt_of_le hbB (Nat.le_trans hBw HI.out.bel.size)
                  have hbAW : w.heap.size < W.heap.size := Nat.lt_of_lt_of_le hbA (Nat.le_trans hBw HI.out.bel.size)
                  clear hi' hs hI hlF hdd
                  rcases hcs with rfl | rfl | rfl | rfl | rfl | rfl | rfl | rfl | rfl | rfl | rfl | rfl | rfl | rfl | rfl | rfl | rfl | rfl | rfl
                  · simp only [List.getElem?_cons_zero, Option.some.injEq] at ho
                    subst ho
                    have k19 := hlate 19 (by kernel_rfl)
                    simp at k19
                    go_simp
                    exact ⟨_, rfl, HI.out.skip 0 (by omega) _ rfl⟩
                  · simp only [List.getElem?_cons_zero, List.getElem?_cons_succ, Option.some.injEq] at ho
                    subst ho
                    have k13 := hh.kept 13 (by simp)
                    simp at k13
                    go_simp
                    exact ⟨_, rfl, HI.out.skip 1 (by omega) _ rfl⟩
                  · simp only [List.getElem?_cons_zero, List.getElem?_cons_succ, Option.some.injEq] at ho
                    subst ho
                    have k20 := hh.kept 20 (by simp)
                    simp at k20
                    go_simp
                    exact ⟨_, rfl, HI.out.skip 2 (by omega) _ rfl⟩
                  · simp only [List.getElem?_cons_zero, List.getElem?_cons_succ, Option.some.injEq] at ho
                    subst ho
                    have l1 : L.getD 1 false = true := HD.out ⟨1, .data⟩ (by simp) rfl
                    have g1 := hh.got 1 _ 95 rfl rfl l1 (by simp)
                    rw [HI.out.known 1 (by omega) l1] at g1
                    simp [besK] at g1
                    have l2 : L.getD 2 false = true := HD.out ⟨2, .data⟩ (by simp) rfl
                    have g2 := hh.got 2 _ 96 rfl rfl l2 (by simp)
                    rw [HI.out.known 2 (by omega) l2] at g2
                    simp [besK] at g2
                    clear l1 l2
                    go_simp
                    exact ⟨_, rfl, HI.out.skip 3 (by omega) _ rfl⟩
                  · simp only [List.getElem?_cons_zero, List.getElem?_cons_succ, Option.some.injEq] at ho
                    subst ho
                    have l3 : L.getD 3 false = true := HD.out ⟨3, .data⟩ (by simp) rfl
                    have g3 := hh.got 3 _ 97 rfl rfl l3 (by simp)
                    rw [HI.out.known 3 (by omega) l3] at g3
                    simp [besK] at g3
                    clear l3
                    go_simp
                    exact ⟨_, rfl, HI.out.skip 4 (by omega) _ rfl⟩
                  · simp only [List.getElem?_cons_zero, List.getElem?_cons_succ, Option.some.injEq] at ho
                    subst ho
                    have l4 : L.getD 4 false = true := HD.out ⟨4, .data⟩ (by simp) rfl
                    have g4 := hh.got 4 _ 98 rfl rfl l4 (by simp)
                    rw [HI.out.known 4 (by omega) l4] at g4
                    simp [besK] at g4
                    clear l4
                    go_simp
                    exact ⟨_, rfl, HI.out.skip 5 (by omega) _ rfl⟩
                  · simp only [List.getElem?_cons_zero, List.getElem?_cons_succ, Option.some.injEq] at ho
                    subst ho
                    have k13 := hh.kept 13 (by simp)
                    simp at k13
                    go_simp
                    exact ⟨_, rfl, HI.out.skip 6 (by omega) _ rfl⟩
                  · simp only [List.getElem?_cons_zero, List.getElem?_cons_succ, Option.some.injEq] at ho
                    subst ho
                    have k20 := hh.kept 20 (by simp)
                    simp at k20
                    go_simp
                    exact ⟨_, rfl, HI.out.skip 7 (by omega) _ rfl⟩
                  · simp only [List.getElem?_cons_zero, List.getElem?_cons_succ, Option.some.injEq] at ho
                    subst ho
                    have l6 : L.getD 6 false = true := HD.out ⟨6, .data⟩ (by simp) rfl
                    have g6 := hh.got 6 _ 100 rfl rfl l6 (by simp)
                    rw [HI.out.known 6 (by omega) l6] at g6
                    simp [besK] at g6
                    have l7 : L.getD 7 false = true := HD.out ⟨7, .data⟩ (by simp) rfl
                    have g7 := hh.got 7 _ 101 rfl rfl l7 (by simp)
                    rw [HI.out.known 7 (by omega) l7] at g7
                    simp [besK] at g7
                    clear l6 l7
                    go_simp
                    exact ⟨_, rfl, HI.out.skip 8 (by omega) _ rfl⟩
                  · simp only [List.getElem?_cons_zero, List.getElem?_cons_succ, Option.some.injEq] at ho
                    subst ho
                    have l8 : L.getD 8 false = true := HD.out ⟨8, .data⟩ (by simp) rfl
                    have g8 := hh.got 8 _ 102 rfl rfl l8 (by simp)
                    rw [HI.out.known 8 (by omega) l8] at g8
                    simp [besK] at g8
                    clear l8
                    go_simp
                    exact ⟨_, rfl, HI.out.skip 9 (by omega) _ rfl⟩
                  · simp only [List.getElem?_cons_zero, List.getElem?_cons_succ, Option.some.injEq] at ho
                    subst ho
                    have l9 : L.getD 9 false = true := HD.out ⟨9, .data⟩ (by simp) rfl
                    have g9 := hh.got 9 _ 103 rfl rfl l9 (by simp)
                    rw [HI.out.known 9 (by omega) l9] at g9
                    simp [besK] at g9
                    clear l9
                    go_simp
                    exact ⟨_, rfl, HI.out.skip 10 (by omega) _ rfl⟩
                  · simp only [List.getElem?_cons_zero, List.getElem?_cons_succ, Option.some.injEq] at ho
                    subst ho
                    have k5 := hh.kept 5 (by simp)
                    simp at k5
                    go_simp
                    exact ⟨_, rfl, HI.out.skip 11 (by omega) _ rfl⟩
                  · simp only [List.getElem?_cons_zero, List.getElem?_cons_succ, Option.some.injEq] at ho
                    subst ho
                    have l11 : L.getD 11 false = true := HD.out ⟨11, .data⟩ (by simp) rfl
                    have g11 := hh.got 11 _ 105 rfl rfl l11 (by simp)
                    rw [HI.out.known 11 (by omega) l11] at g11
                    simp [besK] at g11
                    clear l11
                    go_simp
                    exact ⟨_, rfl, HI.out.skip 12 (by omega) _ rfl⟩
                  · simp only [List.getElem?_cons_zero, List.getElem?_cons_succ, Option.some.injEq] at ho
                    subst ho
                    have l12 : L.getD 12 false = true := HD.out ⟨12, .data⟩ (by simp) rfl
                    have g12 := hh.got 12 _ 106 rfl rfl l12 (by simp)
                    rw [HI.out.known 12 (by omega) l12] at g12
                    simp [besK] at g12
                    clear l12
                    go_simp
                    exact ⟨_, rfl, HI.out.skip 13 (by omega) _ rfl⟩
                  · simp only [List.getElem?_cons_zero, List.getElem?_cons_succ, Option.some.injEq] at ho
                    subst ho
                    have l10 : L.getD 10 false = true := HD.out ⟨10, .data⟩ (by simp) rfl
                    have g10 := hh.got 10 _ 104 rfl rfl l10 (by simp)
                    rw [HI.out.known 10 (by omega) l10] at g10
                    simp [besK] at g10
                    have l13 : L.getD 13 false = true := HD.out ⟨13, .data⟩ (by simp) rfl
                    have g13 := hh.got 13 _ 107 rfl rfl l13 (by simp)
                    rw [HI.out.known 13 (by omega) l13] at g13
                    simp [besK] at g13
                    clear l10 l13
                    go_simp
                    exact ⟨_, rfl, HI.out.skip 14 (by omega) _ (by simp only [wrap_eq, wT, besK])⟩
                  · simp only [List.getElem?_cons_zero, List.getElem?_cons_succ, Option.some.injEq] at ho
                    subst ho
                    have l5 : L.getD 5 false = true := HD.out ⟨5, .data⟩ (by simp) rfl
                    have g5 := hh.got 5 _ 99 rfl rfl l5 (by simp)
                    rw [HI.out.known 5 (by omega) l5] at g5
                    simp [besK] at g5
                    have l14 : L.getD 14 false = true := HD.out ⟨14, .data⟩ (by simp) rfl
                    have g14 := hh.got 14 _ 108 rfl rfl l14 (by simp)
                    rw [HI.out.known 14 (by omega) l14] at g14
                    simp [besK] at g14
                    clear l5 l14
                    go_simp
                    exact ⟨_, rfl, HI.out.skip 15 (by omega) _ rfl⟩
                  · simp only [List.getElem?_cons_zero, List.getElem?_cons_succ, Option.some.injEq] at ho
                    subst ho
                    have l15 : L.getD 15 false = true := HD.out ⟨15, .data⟩ (by simp) rfl
                    have g15 := hh.got 15 _ 109 rfl rfl l15 (by simp)
                    rw [HI.out.known 15 (by omega) l15] at g15
                    simp [besK] at g15
                    clear l15
                    go_simp
                    exact ⟨_, rfl, HI.out.make (by omega) HLF.out⟩
                  · simp only [List.getElem?_cons_zero, List.getElem?_cons_succ, Option.some.injEq] at ho
                    subst ho
                    have l0 : L.getD 0 false = true := HD.out ⟨0, .data⟩ (by simp) rfl
                    have l16 : L.getD 16 false = true := HD.out ⟨16, .data⟩ (by simp) rfl
                    have e0 : b'.eval (.tmp 94) = _ := (hh.got 0 _ 94 rfl rfl l0 (by simp)).trans (HI.out.known 0 (by omega) l0)
                    have ep : b'.eval (.tmp 110) = val 16 := hh.got 16 _ 110 rfl rfl l16 (by simp)
                    simp only [besK] at e0
                    obtain ⟨v', w', hr, hw'⟩ := HI.out.app (by omega) HLF.out l16 (by omega) 30
                    unfold Oper.wp execOp
                    simp only [resolve, invoke, builtin, Sem.run_bind, Sem.run_pure, Result.andThen_ok, List.map_toArray, List.map_cons, List.map_nil, e0, ep, hr]
                    exact ⟨_, rfl, hw'⟩
                  · simp only [List.getElem?_cons_zero, List.getElem?_cons_succ, Option.some.injEq] at ho
                    subst ho
                    have l17 : L.getD 17 false = true := HD.out ⟨17, .data⟩ (by simp) rfl
                    have g17 := hh.got 17 _ 111 rfl rfl l17 (by simp)
                    go_simp
                    exact ⟨_, rfl, HI.out.asg (by omega) l17⟩
              · obtain rfl : mS2 = j := by omega
                have hj1 : ((mS2 : Int) < (mS2 : Int)) = False := by simp
                have hall : (S2.map (shE na)).take mS2 = S2.map (shE na) := List.take_of_length_le (by rw [List.length_map, MS2.out]; exact Nat.le_refl _)
                rw [hall] at hrow
                have hSl : (S1 ++ S2.map (shE na)).length = mS1 + mS2 := by rw [List.length_append, List.length_map, MS1.out, MS2.out]
                obtain ⟨n19, hn19⟩ : ∃ x, mS1 + mS2 = x := ⟨_, rfl⟩
                rw [hn19] at hrow hSl
                obtain ⟨va9, vc9, rfl⟩ := own_sl hrow
                generalize wr = wz at *
                obtain ⟨X, hX⟩ : ∃ X, runE J (sortE (l1 ++ l2.map (shE ia))) T = X := ⟨_, rfl⟩
                obtain ⟨R, hR⟩ : ∃ R, runR J (sortE (l1 ++ l2.map (shE ia))) T = R := ⟨_, rfl⟩
                obtain ⟨S, hS⟩ : ∃ S, S1 ++ S2.map (shE na) = S := ⟨_, rfl⟩
                obtain ⟨IN, hIN⟩ : ∃ IN, l1 ++ l2.map (shE ia) = IN := ⟨_, rfl⟩
                have c1' := HLG.out
                have c2' := HST.out
                have c3' := HRR.out
                have c4' := HSO.out
                have c5' := HLEN.out
                have hr17 := HR17.out
                rw [hIN] at hX hR c1' c2' c3' c4' c5' hr17
                rw [hS] at c1' c2' c4' hrow hSl
                rw [hSl, hX] at c1' c2'
                rw [hX, hR, ← c4'] at c3'
                have hr17z := ownsRow_of_block hr17 fun g hg => hb.block g (hr17.lt g hg).2
                rw [← c5'] at hr17z
                have hsor := fun W (hW : Below wz.heap.size wz W) => sorted_any IN va7 vc7 (by omega) W ((evsAt_of_owns hr17z).below hW)
                rw [c5'] at hsor
                have hbz : Below W3.heap.size W3 wz := HBQ.out.trans (hb.mono HBQ.out.size)
                have hrn3 := fun W (hW : Below wz.heap.size wz W) sa sc (he : EvsC W (.slice sa (sortE IN).length sc) (sortE IN)) => run_any J (sortE IN) p1 p2 sa r1 r2 sc T W ((HP3.out.below hbz).below hW) ((HS3.out.below hbz).below hW) he
                unfold NRunOut at hrn3
                rw [hX, hR] at hrn3
                have hnb : NetBox wz B3 (.slice p1 J.ps.length r1) J.inp (.slice p2 J.ss.length r2) := (hbz.block _ hsz3).trans HK3.out
                have hB3 : B3 < wz.heap.size := lt_of_block hnb
                have HSOR := Lib.hid hsor
                have HRN3 := Lib.hid hrn3
                have HNB := Lib.hid hnb
                have HR19 := Lib.hid hrow
                have HSL := Lib.hid hSl
                have C1 := Lib.hid c1'
                have C2 := Lib.hid c2'
                have C3 := Lib.hid c3'
                have H0z := Lib.hid (H03.out.trans (hbz.mono H03.out.size) : Below w.heap.size w wz)
                have hn19b : n19 ≤ 131072 := by omega
                clear hsor hrn3 hnb hrow hSl c1' c2' c3' c4' c5' hr17 hr17z hbz hb hall hlt hj hX hR hS hIN hn19
                go_upto_region 18 with (fail)
                refine wp_region_late (fun L val W => ∃ sa sc sv, BsF wz (sortE IN) R X (.agg #[.slice p1 J.ps.length r1, .int .i64 J.inp, .slice p2 J.ss.length r2]) (.slice va7 (m1 + m2) vc7) (.int .i64 T) sa sc sv L val W) (by kernel_rfl) (by kernel_rfl) (by kernel_rfl) (by kernel_rfl) ⟨none, 0, undef, BsF.init⟩ ?stp ?dn
                case dn =>
                  intro val W b' hI hb
                  obtain ⟨sa, sc, sv, hI⟩ := hI
                  have hr4 := hI.r4 (by simp)
                  obtain ⟨a21, c21, hf⟩ := hr4.form
                  subst hf
                  have kn : ∀ q, q < 10 → val q = bsK (.agg #[.slice p1 J.ps.length r1, .int .i64 J.inp, .slice p2 J.ss.length r2]) (.slice va7 (m1 + m2) vc7) (.int .i64 T) (.slice sa (sortE IN).length sc) (.slice a21 R.length c21) X q := fun q hq => hI.kn q hq (replT (by show q < 10; omega))
                  simp only [puts, kn 0 (by decide), kn 1 (by decide), kn 2 (by decide), kn 3 (by decide), kn 4 (by decide), kn 5 (by decide), kn 6 (by decide), kn 7 (by decide), kn 8 (by decide), kn 9 (by decide), bsK] at hb
                  have HR4 := Lib.hid hr4
                  have HBz := Lib.hid hI.bel
                  have hzW := hI.bel.size
                  have BW := Lib.hid (H0z.out.trans (hI.bel.mono H0z.out.size) : Below w.heap.size w W)
                  clear hI hr4 kn
                  subst hb
                  simp only [Act.put, List.setIfInBounds_toArray, List.set_cons_succ, List.set_cons_zero]
                  by_cases hbig : 65536 < n19
                  · have hX8 : X = 8 := C1.out hbig
                    subst hX8
                    have zb : ((65536 : Int) < (n19 : Int)) = True := by simp; omega
                    go_wp2_with (go_at_call 18; refine (Lf.works_any _).mono ?_; rintro e w5 ⟨rfl, hb5⟩)
                    go_ret
                    exact ⟨rfl, BW.out.trans (hb5.mono BW.out.size)⟩
                  · have hX0 : X = 0 := C2.out (by omega)
                    subst hX0
                    have hRS : R = sortE S := C3.out rfl
                    subst hRS
                    have zb : ((65536 : Int) < (n19 : Int)) = False := by simp; omega
                    have hrz := ownsRow_of_block HR19.out fun g hg => HBz.out.block g (HR19.out.lt g hg).2
                    rw [← HSL.out] at hrz
                    have hev := evsAt_of_owns hrz
                    have hso := sorted_any S va9 vc9 (by rw [HSL.out]; omega) W hev
                    rw [HSL.out] at hso
                    have HSO2 := Lib.hid hso
                    have hsl : (sortE S).length = n19 := by rw [sortE_len, HSL.out]
                    rw [hsl]
                    have HSL2 := Lib.hid hsl
                    have hmS' : n19 ≤ 9223372036854775806 := by omega
                    clear hso hrz hev hsl hbig
                    go_wp2_with (fail)
                    refine HSO2.out.mono ?_
                    rintro e w5 ⟨v87, rfl, hown, hb5⟩
                    have h87 := evsAt_of_owns hown
                    obtain ⟨va8, vc8, rfl⟩ := own_sl hown
                    have h13 := HR4.out.below hb5
                    have hsame := same_eq (sortE S) a21 va8 c21 vc8 (by rw [HSL2.out]; exact hmS') w5 h13 h87
                    rw [HSL2.out] at hsame ⊢
                    have HSM := Lib.hid hsame
                    have B5 := Lib.hid (BW.out.trans (hb5.mono BW.out.size) : Below w.heap.size w w5)
                    clear hsame h13 h87 hown hb5
                    go_wp2_with (fail)
                    refine HSM.out.mono ?_
                    rintro e w6 ⟨rfl, hb6⟩
                    have B6 := Lib.hid (B5.out.trans (hb6.mono B5.out.size) : Below w.heap.size w w6)
                    clear hb6
                    go_wp2_with (fail)
                    refine (Lf.works_any _).mono ?_
                    rintro e w7 ⟨rfl, hb7⟩
                    have BF := Lib.hid (B6.out.trans (hb7.mono B6.out.size) : Below w.heap.size w w7)
                    clear hb7
                    go_wp2
                    go_ret
                    exact ⟨rfl, BF.out⟩
                case stp =>
                  intro L val W i' o b' hs ho hlF hdd hI hh hlate
                  obtain ⟨sa, sc, sv, hI⟩ := hI
                  have hi' := (List.getElem?_eq_some_iff.1 ho).1
                  have hcs : i' = 0 ∨ i' = 1 ∨ i' = 2 ∨ i' = 3 ∨ i' = 4 ∨ i' = 5 ∨ i' = 6 ∨ i' = 7 ∨ i' = 8 ∨ i' = 9 := by simp at hi'; omega
                  have hLs : 9 < L.size := by simp at hs; omega
                  have hnbW : NetBox W B3 (.slice p1 J.ps.length r1) J.inp (.slice p2 J.ss.length r2) := (hI.bel.block B3 hB3).trans HNB.out
                  obtain ⟨_, _, _, _, _, _⟩ := cells3f hnbW
                  have hB3W : B3 < W.heap.size := lt_of_block hnbW
                  have HI := Lib.hid hI
                  have HLF := Lib.hid hlF
                  have HD := Lib.hid hdd
                  clear hi' hs hI hlF hdd hnbW
                  rcases hcs with rfl | rfl | rfl | rfl | rfl | rfl | rfl | rfl | rfl | rfl
                  · simp only [List.getElem?_cons_zero, Option.some.injEq] at ho
                    subst ho
                    have k15 := hh.kept 15 (by simp)
                    simp at k15
                    go_simp
                    exact ⟨_, rfl, sa, sc, sv, HI.out.skip 0 (by omega) (by omega) (by omega) _ rfl (fun h => by omega)⟩
                  · simp only [List.getElem?_cons_zero, List.getElem?_cons_succ, Option.some.injEq] at ho
                    subst ho
                    have k17 := hh.kept 17 (by simp)
                    simp at k17
                    go_simp
                    exact ⟨_, rfl, sa, sc, sv, HI.out.skip 1 (by omega) (by omega) (by omega) _ rfl (fun h => by omega)⟩
                  · simp only [List.getElem?_cons_zero, List.getElem?_cons_succ, Option.some.injEq] at ho
                    subst ho
                    have l1 : L.getD 1 false = true := HD.out ⟨1, .data⟩ (by simp) rfl
                    have g1 := hh.got 1 _ 114 rfl rfl l1 (by simp)
                    rw [HI.out.kn 1 (by omega) l1] at g1
                    simp [bsK] at g1
                    clear l1
                    go_simp
                    go_at_call 48
                    refine (HSOR.out W HI.out.bel).mono ?_
                    rintro e w6 ⟨v, rfl, hown, hb6⟩
                    obtain ⟨a6, c6, rfl⟩ := own_sl hown
                    exact ⟨_, rfl, a6, c6, _, HI.out.sort (by omega) HLF.out a6 c6 hb6 (evsC_own rfl hown)⟩
                  · simp only [List.getElem?_cons_zero, List.getElem?_cons_succ, Option.some.injEq] at ho
                    subst ho
                    have k4 := hh.kept 4 (by simp)
                    simp at k4
                    go_simp
                    exact ⟨_, rfl, sa, sc, sv, HI.out.skip 3 (by omega) (by omega) (by omega) _ rfl (fun h => by omega)⟩
                  · simp only [List.getElem?_cons_zero, List.getElem?_cons_succ, Option.some.injEq] at ho
                    subst ho
                    have l0 : L.getD 0 false = true := HD.out ⟨0, .data⟩ (by simp) rfl
                    have g0 := hh.got 0 _ 113 rfl rfl l0 (by simp)
                    rw [HI.out.kn 0 (by omega) l0] at g0
                    simp [bsK] at g0
                    have l2 : L.getD 2 false = true := HD.out ⟨2, .data⟩ (by simp) rfl
                    have g2 := hh.got 2 _ 115 rfl rfl l2 (by simp)
                    rw [HI.out.kn 2 (by omega) l2] at g2
                    simp [bsK] at g2
                    have l3 : L.getD 3 false = true := HD.out ⟨3, .data⟩ (by simp) rfl
                    have g3 := hh.got 3 _ 116 rfl rfl l3 (by simp)
                    rw [HI.out.kn 3 (by omega) l3] at g3
                    simp [bsK] at g3
                    have hrn := HRN3.out W HI.out.bel sa sc (HI.out.r2 l2)
                    have HR3 := Lib.hid hrn
                    have L2 := Lib.hid l2
                    clear l0 l2 l3 hrn
                    go_simp
                    go_at_call 22
                    refine HR3.out.mono ?_
                    rintro e w6 ⟨v, rfl, hv, hb6⟩
                    exact ⟨_, rfl, sa, sc, v, HI.out.run (by omega) HLF.out L2.out v hb6 hv⟩
                  · simp only [List.getElem?_cons_zero, List.getElem?_cons_succ, Option.some.injEq] at ho
                    subst ho
                    have l4 : L.getD 4 false = true := HD.out ⟨4, .data⟩ (by simp) rfl
                    have g4 := hh.got 4 _ 117 rfl rfl l4 (by simp)
                    rw [HI.out.kn 4 (by omega) l4] at g4
                    simp [bsK] at g4
                    have H5 := Lib.hid (l4)
                    clear l4
                    go_simp
                    exact ⟨_, rfl, sa, sc, sv, HI.out.skip 5 (by omega) (by omega) (by omega) _ rfl (fun _ => H5.out)⟩
                  · simp only [List.getElem?_cons_zero, List.getElem?_cons_succ, Option.some.injEq] at ho
                    subst ho
                    have l5 : L.getD 5 false = true := HD.out ⟨5, .data⟩ (by simp) rfl
                    have g5 := hh.got 5 _ 112 rfl rfl l5 (by simp)
                    rw [HI.out.kn 5 (by omega) l5] at g5
                    simp [bsK] at g5
                    have H5 := Lib.hid (HI.out.d5 5 (by omega) (by omega) l5)
                    clear l5
                    go_simp
                    exact ⟨_, rfl, sa, sc, sv, HI.out.skip 6 (by omega) (by omega) (by omega) _ rfl (fun _ => H5.out)⟩
                  · simp only [List.getElem?_cons_zero, List.getElem?_cons_succ, Option.some.injEq] at ho
                    subst ho
                    have l5 : L.getD 5 false = true := HD.out ⟨5, .data⟩ (by simp) rfl
                    have g5 := hh.got 5 _ 112 rfl rfl l5 (by simp)
                    rw [HI.out.kn 5 (by omega) l5] at g5
                    simp [bsK] at g5
                    have H5 := Lib.hid (HI.out.d5 5 (by omega) (by omega) l5)
                    clear l5
                    go_simp
                    exact ⟨_, rfl, sa, sc, sv, HI.out.skip 7 (by omega) (by omega) (by omega) _ rfl (fun _ => H5.out)⟩
                  · simp only [List.getElem?_cons_zero, List.getElem?_cons_succ, Option.some.injEq] at ho
                    subst ho
                    have l6 : L.getD 6 false = true := HD.out ⟨6, .data⟩ (by simp) rfl
                    have g6 := hh.got 6 _ 118 rfl rfl l6 (by simp)
                    rw [HI.out.kn 6 (by omega) l6] at g6
                    simp [bsK] at g6
                    have H5 := Lib.hid (HI.out.d5 6 (by omega) (by omega) l6)
                    clear l6
                    go_simp
                    exact ⟨_, rfl, sa, sc, sv, HI.out.skip 8 (by omega) (by omega) (by omega) _ rfl (fun _ => H5.out)⟩
                  · simp only [List.getElem?_cons_zero, List.getElem?_cons_succ, Option.some.injEq] at ho
                    subst ho
                    have l7 : L.getD 7 false = true := HD.out ⟨7, .data⟩ (by simp) rfl
                    have g7 := hh.got 7 _ 119 rfl rfl l7 (by simp)
                    rw [HI.out.kn 7 (by omega) l7] at g7
                    simp [bsK] at g7
                    have H5 := Lib.hid (HI.out.d5 7 (by omega) (by omega) l7)
                    clear l7
                    go_simp
                    exact ⟨_, rfl, sa, sc, sv, HI.out.skip 9 (by omega) (by omega) (by omega) _ rfl (fun _ => H5.out)⟩
      · have z0 : (256 < a.inp + b.inp) = True := eq_true (by omega)
        have z1 : (a.inp + b.inp > 256) = True := eq_true (by omega)
        obtain ⟨na, hna⟩ : ∃ x, a.ps.length = x := ⟨_, rfl⟩
        obtain ⟨ma, hma⟩ : ∃ x, a.ss.length = x := ⟨_, rfl⟩
        obtain ⟨ia, hia⟩ : ∃ x, a.inp = x := ⟨_, rfl⟩
        obtain ⟨nb, hnb⟩ : ∃ x, b.ps.length = x := ⟨_, rfl⟩
        obtain ⟨mb, hmb⟩ : ∃ x, b.ss.length = x := ⟨_, rfl⟩
        obtain ⟨ib, hib⟩ : ∃ x, b.inp = x := ⟨_, rfl⟩
        simp only [hna, hma, hia, hnb, hmb, hib] at hra hrb z0 z1 hA0 hA1 hB0 hB1 ⊢
        have HRA := Lib.hid hra
        have HRB := Lib.hid hrb
        clear hra hrb hA hBB hpa hsa hpb hsb h1 h2 hna hma hia hnb hmb hib hEa hEb okA okB hsum
        go_enter Try.func13, Try.ntmps13
        go_upto_region 2 with (go_at_call 46; refine (HRA.out _ (below2 w _ _)).mono ?_; rintro e w1 ⟨v11, rfl, hv11, hb1⟩; have hxA : NetBox w1 w.heap.size (.slice a1 na c1) ia (.slice a2 ma c2) := (hb1.block _ (by simp; omega)).trans (blk2a _ _ _); have hxB : NetBox w1 (w.heap.size + 1) (.slice b1 nb d1) ib (.slice b2 mb d2) := (hb1.block _ (by simp)).trans (blk2b _ _ _); obtain ⟨_, _, _⟩ := cells3 hxA; obtain ⟨_, _, _⟩ := cells3 hxB; have HXA := Lib.hid hxA; have HXB := Lib.hid hxB; have hzA : w.heap.size < w1.heap.size := lt_of_block hxA; have hzB : w.heap.size + 1 < w1.heap.size := lt_of_block hxB; have B1 := Lib.hid ((below2 w _ _).trans (hb1.mono (by simp; omega)) : Below w.heap.size w w1); have HV11 := Lib.hid hv11; clear hb1 hxA hxB hv11)
        go_upto_region 3 with (go_at_call 46; refine (HRB.out _ B1.out).mono ?_; rintro e w2 ⟨v13, rfl, hv13, hb2⟩; have hxA2 : NetBox w2 w.heap.size (.slice a1 na c1) ia (.slice a2 ma c2) := (hb2.block _ hzA).trans HXA.out; have hxB2 : NetBox w2 (w.heap.size + 1) (.slice b1 nb d1) ib (.slice b2 mb d2) := (hb2.block _ hzB).trans HXB.out; obtain ⟨_, _, _⟩ := cells3 hxA2; obtain ⟨_, _, _⟩ := cells3 hxB2; have HXA2 := Lib.hid hxA2; have HXB2 := Lib.hid hxB2; have hzA2 : w.heap.size < w2.heap.size := lt_of_block hxA2; have hzB2 : w.heap.size + 1 < w2.heap.size := lt_of_block hxB2; have B2 := Lib.hid (B1.out.trans (hb2.mono B1.out.size) : Below w.heap.size w w2); have B12 := Lib.hid hb2; have HV13 := Lib.hid hv13; clear hb2 hxA2 hxB2 hv13)
        go_wp2_with (go_at_call 18; refine (Lf.works_any _).mono ?_; rintro e w3 ⟨rfl, hb3⟩)
        go_ret
        exact ⟨rfl, B2.out.trans (hb3.mono B2.out.size)⟩
end Go.Proofs.Ytgbcdebnanejpaa.netBeside
