/- The walk of the law VerifyClaims. Over this seat's program. (mk_claims.py wrote this.) -/
import Derived.Test.YtnbndciididpoaaGreatVu
import Derived.Test.YtnbndciididpoaaGreatWk
namespace Go.Proofs.YtnbndciididpoaaGreat.verifyClaims
open Go.RowKit Go.Shelf Go.Proofs.YtnbndciididpoaaGreat.Lf
set_option linter.unusedVariables false

/-- What the operations of the last comparison come to. -/
def lawV (a1 a2 na : Option Addr) (N c1 SN c2 K nc : Nat) (IN kd fr to lo hi E B : Int) (A : Bool) : Nat → Value
  | 0 => .agg #[.slice a1 N c1, .int .i64 IN, .slice a2 SN c2]
  | 1 => .agg #[.int .i64 kd, .slice na K nc, .int .i64 fr, .int .i64 to, .int .i64 lo, .int .i64 hi]
  | 2 => .int .i64 E
  | 3 => .agg #[.slice a1 N c1, .int .i64 IN, .slice a2 SN c2]
  | 4 => .agg #[.int .i64 kd, .slice na K nc, .int .i64 fr, .int .i64 to, .int .i64 lo, .int .i64 hi]
  | 5 => .int .i64 E
  | 6 => .bool true
  | 7 => .bool true
  | 8 => .bool A
  | 9 => .bool A
  | 10 => .bool true
  | 11 => .bool true
  | 12 => .bool true
  | 13 => .int .i64 B
  | 14 => .int .i64 B
  | 15 => .bool true
  | 16 => .bool true
  | 17 => .bool true
  | 18 => .bool true
  | 19 => .bool true
  | 20 => .bool true
  | _ => undef
theorem vH_pair (n : NetM) (c : Clm) (l : List Evx) : ∃ A B, vH n c l = .tuple #[.bool A, .int .i64 B] := by
  unfold vH; split <;> exact ⟨_, _, rfl⟩
set_option maxRecDepth 100000 in
set_option maxHeartbeats 8000000 in
theorem walk (n : NetM) (c : Clm) (sp : List Evx) (a1 a2 na sa : Option Addr) (c1 c2 nc sc : Nat) (hkw : (Lit.int .i64 c.kd).wf = true) (hcap : c.ns.length ≤ nc) (hv : ∀ x ∈ sp, (Lit.int .i64 x.id).wf = true) (w : World)
    (hp : PsAt w (.slice a1 n.ps.length c1) n.ps) (hs : SsAt w (.slice a2 n.ss.length c2) n.ss) (hK : KAt .i64 w (.slice na c.ns.length nc) c.ns) (hS : EvxsAt w (.slice sa sp.length sc) sp) :
    Calls Tryz.prog 5 #[.agg #[.slice a1 n.ps.length c1, .int .i64 n.inp, .slice a2 n.ss.length c2], clmV c na nc, .slice sa sp.length sc] w fun e w' => e = .returned (.bool true) ∧ Below w.heap.size w w' := by
  obtain ⟨A, B, hAB⟩ := vH_pair n c sp
  have HCK := Lib.hid (fun (hl : c.ns.length ≤ 20) W (hb : Below w.heap.size w W) => vcheck_any n c a1 a2 na c1 c2 nc hkw (by omega) W (hp.below hb) (hs.below hb) (hK.below hb))
  have HRC := Lib.hid (fun (hl : c.ns.length ≤ 20) W (hb : Below w.heap.size w W) => rccheck_any n c a1 a2 na c1 c2 nc (by omega) hcap W (hp.below hb) (hs.below hb) (hK.below hb))
  have HVH := Lib.hid (fun (hl : c.ns.length ≤ 20) (hm : sp.length ≤ 100) W (hb : Below w.heap.size w W) => vholds_any n c a1 a2 na sa c1 c2 nc sp.length sc hkw (by omega) sp rfl (by omega) hv W (hp.below hb) (hs.below hb) (hK.below hb) (hS.below hb))
  have HRH := Lib.hid (fun (hl : c.ns.length ≤ 20) (hm : sp.length ≤ 100) W (hb : Below w.heap.size w W) => rholds_any n c a1 a2 na sa c1 c2 nc sp.length sc (by omega) hcap sp rfl (by omega) W (hp.below hb) (hs.below hb) (hK.below hb) (hS.below hb))
  rw [hAB] at HVH HRH
  rw [show (if ncheck n ≠ 0 then ncheck n else claimE n.ps.length c) = vE n c from rfl] at HCK HRC
  obtain ⟨E, hE⟩ : ∃ E, E = vE n c := ⟨_, rfl⟩
  rw [← hE] at HCK HRC
  obtain ⟨kd, ns, fr, to, lo, hi⟩ := c
  unfold clmV at HCK HRC HVH HRH ⊢
  simp only at HCK HRC HVH HRH ⊢
  obtain ⟨N, hN⟩ : ∃ N, N = n.ps.length := ⟨_, rfl⟩
  obtain ⟨SN, hSN⟩ : ∃ N, N = n.ss.length := ⟨_, rfl⟩
  obtain ⟨IN, hIN⟩ : ∃ N, N = n.inp := ⟨_, rfl⟩
  obtain ⟨K, hKl⟩ : ∃ K, K = ns.length := ⟨_, rfl⟩
  obtain ⟨m, hm⟩ : ∃ m, m = sp.length := ⟨_, rfl⟩
  rw [← hN, ← hSN, ← hIN] at HCK HRC HVH HRH ⊢
  rw [← hKl] at HCK HRC HVH HRH ⊢
  rw [← hm] at HVH HRH ⊢
  clear hp hs hK hS hN hSN hIN hKl hm hE hAB hkw hcap hv
  have hnn : (E == E) = true := by simp
  have hn2 : (A == A) = true := by simp
  have hn3 : (B == B) = true := by simp
  cases hf : fewN N SN with
  | false =>
    go_enter Tryz.func5, Tryz.ntmps5
    go_wp2_with (first | (go_at_call 15; refine (few_any _ _ _ _ _ _ _ _).mono ?_; rintro e w1 ⟨rfl, hb1⟩; rw [hf]) | (go_at_call 17; refine (works_any _).mono ?_; rintro e w2 ⟨rfl, hb2⟩))
    go_ret
    have hb0 := (((Below.refl w.heap.size w).alloc (Nat.le_refl _) (.cells #[.slice a1 N c1, .int .i64 IN, .slice a2 SN c2] 25)).alloc (by simp) (.cells #[.int .i64 kd, .slice na K nc, .int .i64 fr, .int .i64 to, .int .i64 lo, .int .i64 hi] 50)).trans (hb1.mono (by simp <;> omega))
    exact ⟨rfl, hb0.trans (hb2.mono hb0.size)⟩
  | true =>
    go_enter Tryz.func5, Tryz.ntmps5
    go_upto_region 1 with (fail)
    have hbn : NetBox ((w.alloc (.cells #[.slice a1 N c1, .int .i64 IN, .slice a2 SN c2] 25)).alloc (.cells #[.int .i64 kd, .slice na K nc, .int .i64 fr, .int .i64 to, .int .i64 lo, .int .i64 hi] 50)) w.heap.size (.slice a1 N c1) IN (.slice a2 SN c2) := (Below.heap_alloc _ _ _ (by simp)).trans (alloc_new_at _ _ _ rfl)
    have hcn : CBox ((w.alloc (.cells #[.slice a1 N c1, .int .i64 IN, .slice a2 SN c2] 25)).alloc (.cells #[.int .i64 kd, .slice na K nc, .int .i64 fr, .int .i64 to, .int .i64 lo, .int .i64 hi] 50)) (w.heap.size + 1) (.int .i64 kd) (.slice na K nc) (.int .i64 fr) (.int .i64 to) (.int .i64 lo) (.int .i64 hi) := alloc_new_at _ _ _ (by simp)
    have hbl : Below w.heap.size w ((w.alloc (.cells #[.slice a1 N c1, .int .i64 IN, .slice a2 SN c2] 25)).alloc (.cells #[.int .i64 kd, .slice na K nc, .int .i64 fr, .int .i64 to, .int .i64 lo, .int .i64 hi] 50)) := ((Below.refl _ _).alloc (Nat.le_refl _) _).alloc (by simp) _
    obtain ⟨nb, hnb⟩ : ∃ x, x = w.heap.size := ⟨_, rfl⟩
    obtain ⟨cb, hcb⟩ : ∃ x, x = w.heap.size + 1 := ⟨_, rfl⟩
    rw [← hcb] at hcn ⊢
    have HBL := Lib.hid hbl
    have HCN0 := Lib.hid hcn
    rw [← hnb] at hbn ⊢
    have HBN0 := Lib.hid hbn
    clear hnb hcb hbl
    generalize (w.alloc (.cells #[.slice a1 N c1, .int .i64 IN, .slice a2 SN c2] 25)).alloc (.cells #[.int .i64 kd, .slice na K nc, .int .i64 fr, .int .i64 to, .int .i64 lo, .int .i64 hi] 50) = W1 at *
    obtain ⟨q0, q1, q2⟩ := cells3f hbn
    clear hbn hcn
    go_wp2_with (fail)
    go_at_call 15
    refine (few_any _ _ _ _ _ _ _ _).mono ?_
    rintro e W2 ⟨rfl, hb2⟩
    rw [hf]
    clear q0 q1 q2
    have HB2 := Lib.hid (HBL.out.trans (hb2.mono HBL.out.size))
    have hbn2 : NetBox W2 nb (.slice a1 N c1) IN (.slice a2 SN c2) := (hb2.block nb (lt_of_block HBN0.out)).trans HBN0.out
    have hcn2 : CBox W2 cb (.int .i64 kd) (.slice na K nc) (.int .i64 fr) (.int .i64 to) (.int .i64 lo) (.int .i64 hi) := (hb2.block cb (lt_of_block HCN0.out)).trans HCN0.out
    obtain ⟨q0, q1, q2⟩ := cells3f hbn2
    obtain ⟨p0, p1, p2, p3, p4, p5⟩ := cells6 hcn2
    have HBN2 := Lib.hid hbn2
    have HCN2 := Lib.hid hcn2
    clear hb2 hbn2 hcn2
    by_cases hm : 100 < m
    · have g1 : ((100 : Int) < (m : Int)) = True := by simp only [eq_iff_iff, iff_true]; omega
      go_wp2_with (go_at_call 17; refine (works_any _).mono ?_; rintro e w9 ⟨rfl, hb9⟩)
      go_ret
      exact ⟨rfl, HB2.out.trans (hb9.mono HB2.out.size)⟩
    have g1 : ((100 : Int) < (m : Int)) = False := by simp only [eq_iff_iff, iff_false]; omega
    by_cases hk : 20 < K
    · have g2 : ((20 : Int) < (K : Int)) = True := by simp only [eq_iff_iff, iff_true]; omega
      go_wp2_with (go_at_call 17; refine (works_any _).mono ?_; rintro e w9 ⟨rfl, hb9⟩)
      go_ret
      exact ⟨rfl, HB2.out.trans (hb9.mono HB2.out.size)⟩
    have g2 : ((20 : Int) < (K : Int)) = False := by simp only [eq_iff_iff, iff_false]; omega
    replace HCK := Lib.hid (HCK.out (by omega))
    replace HRC := Lib.hid (HRC.out (by omega))
    replace HVH := Lib.hid (HVH.out (by omega) (by omega))
    replace HRH := Lib.hid (HRH.out (by omega) (by omega))
    go_upto_region 3 with (fail)
    clear g1 g2
    go_wp2_with (fail)
    go_at_call 26
    refine (HVH.out _ HB2.out).mono ?_
    rintro e W3 ⟨rfl, hb3⟩
    clear p0 p1 p2 p3 p4 p5 q0 q1 q2
    have HB3 := Lib.hid (HB2.out.trans (hb3.mono HB2.out.size))
    have hbn3 : NetBox W3 nb (.slice a1 N c1) IN (.slice a2 SN c2) := (hb3.block nb (lt_of_block HBN2.out)).trans HBN2.out
    have hcn3 : CBox W3 cb (.int .i64 kd) (.slice na K nc) (.int .i64 fr) (.int .i64 to) (.int .i64 lo) (.int .i64 hi) := (hb3.block cb (lt_of_block HCN2.out)).trans HCN2.out
    obtain ⟨q0, q1, q2⟩ := cells3f hbn3
    obtain ⟨p0, p1, p2, p3, p4, p5⟩ := cells6 hcn3
    have HBN3 := Lib.hid hbn3
    have HCN3 := Lib.hid hcn3
    clear hb3 hbn3 hcn3
    go_wp2_with (fail)
    go_at_call 27
    refine (HRH.out _ HB3.out).mono ?_
    rintro e W5 ⟨rfl, hb5⟩
    clear p0 p1 p2 p3 p4 p5 q0 q1 q2
    have HB5 := Lib.hid (HB3.out.trans (hb5.mono HB3.out.size))
    have hbn5 : NetBox W5 nb (.slice a1 N c1) IN (.slice a2 SN c2) := (hb5.block nb (lt_of_block HBN3.out)).trans HBN3.out
    have hcn5 : CBox W5 cb (.int .i64 kd) (.slice na K nc) (.int .i64 fr) (.int .i64 to) (.int .i64 lo) (.int .i64 hi) := (hb5.block cb (lt_of_block HCN3.out)).trans HCN3.out
    obtain ⟨q0, q1, q2⟩ := cells3f hbn5
    obtain ⟨p0, p1, p2, p3, p4, p5⟩ := cells6 hcn5
    have HBN5 := Lib.hid hbn5
    have HCN5 := Lib.hid hcn5
    clear hb5 hbn5 hcn5
    clear p0 p1 p2 p3 p4 p5 q0 q1 q2
    go_upto_region 5 with (fail)
    have HNL := Lib.hid (lt_of_block HBN5.out)
    have HCL := Lib.hid (lt_of_block HCN5.out)
    refine wp_region_reads (lawV a1 a2 na N c1 SN c2 K nc IN kd fr to lo hi E B A) (fun _ => true) (fun _ => true) (Below W5.heap.size W5) (by kernel_rfl) (by kernel_rfl) (by kernel_rfl) (by kernel_rfl) (by simp [dstIn]) ?gv ?un (Below.refl _ _).drew ?stp ?dn
    case gv =>
      intro i hi
      simp [isGd] at hi
      have hi' : i = 7 ∨ i = 12 ∨ i = 17 := by omega
      rcases hi' with rfl | rfl | rfl <;> rfl
    case un => intro i hi hw; simp at hw
    case stp =>
      intro W i o b' ho hwt hI hh
      have hi := (List.getElem?_eq_some_iff.1 ho).1
      have hc : i = 0 ∨ i = 1 ∨ i = 2 ∨ i = 3 ∨ i = 4 ∨ i = 5 ∨ i = 6 ∨ i = 7 ∨ i = 8 ∨ i = 9 ∨ i = 10 ∨ i = 11 ∨ i = 12 ∨ i = 13 ∨ i = 14 ∨ i = 15 ∨ i = 16 ∨ i = 17 ∨ i = 18 ∨ i = 19 ∨ i = 20 := by simp at hi; omega
      obtain ⟨q0, q1, q2⟩ := cells3f (show NetBox W nb _ _ _ from (hI.block nb HNL.out).trans HBN5.out)
      obtain ⟨p0, p1, p2, p3, p4, p5⟩ := cells6 (show CBox W cb _ _ _ _ _ _ from (hI.block cb HCL.out).trans HCN5.out)
      have HI := Lib.hid hI
      clear hi hI
      have k3 := hh.kept 3 (by simp)
      simp at k3
      have k4 := hh.kept 4 (by simp)
      simp at k4
      have k7 := hh.kept 7 (by simp)
      simp at k7
      have k8 := hh.kept 8 (by simp)
      simp at k8
      have k9 := hh.kept 9 (by simp)
      simp at k9
      have k10 := hh.kept 10 (by simp)
      simp at k10
      rcases hc with rfl | rfl | rfl | rfl | rfl | rfl | rfl | rfl | rfl | rfl | rfl | rfl | rfl | rfl | rfl | rfl | rfl | rfl | rfl | rfl | rfl
      · simp only [List.getElem?_cons_zero, Option.some.injEq] at ho
        subst ho
        go_simp
        exact ⟨rfl, HI.out⟩
      · simp only [List.getElem?_cons_zero, List.getElem?_cons_succ, Option.some.injEq] at ho
        subst ho
        go_simp
        exact ⟨rfl, HI.out⟩
      · simp only [List.getElem?_cons_zero, List.getElem?_cons_succ, Option.some.injEq] at ho
        subst ho
        have g0 := hh.got 0 _ 40 rfl rfl ⟨⟨0, .data⟩, by simp, rfl, rfl⟩ (by simp)
        have g1 := hh.got 1 _ 41 rfl rfl ⟨⟨1, .data⟩, by simp, rfl, rfl⟩ (by simp)
        simp [lawV] at g0 g1
        go_simp
        go_at_call 28
        refine (HCK.out _ (HB5.out.trans (HI.out.mono HB5.out.size))).mono ?_
        rintro e w6 ⟨rfl, hb6⟩
        exact ⟨rfl, HI.out.trans (hb6.mono HI.out.size)⟩
      · simp only [List.getElem?_cons_zero, List.getElem?_cons_succ, Option.some.injEq] at ho
        subst ho
        go_simp
        exact ⟨rfl, HI.out⟩
      · simp only [List.getElem?_cons_zero, List.getElem?_cons_succ, Option.some.injEq] at ho
        subst ho
        go_simp
        exact ⟨rfl, HI.out⟩
      · simp only [List.getElem?_cons_zero, List.getElem?_cons_succ, Option.some.injEq] at ho
        subst ho
        have g3 := hh.got 3 _ 43 rfl rfl ⟨⟨3, .data⟩, by simp, rfl, rfl⟩ (by simp)
        have g4 := hh.got 4 _ 44 rfl rfl ⟨⟨4, .data⟩, by simp, rfl, rfl⟩ (by simp)
        simp [lawV] at g3 g4
        go_simp
        go_at_call 29
        refine (HRC.out _ (HB5.out.trans (HI.out.mono HB5.out.size))).mono ?_
        rintro e w6 ⟨rfl, hb6⟩
        exact ⟨rfl, HI.out.trans (hb6.mono HI.out.size)⟩
      · simp only [List.getElem?_cons_zero, List.getElem?_cons_succ, Option.some.injEq] at ho
        subst ho
        have g2 := hh.got 2 _ 42 rfl rfl ⟨⟨2, .data⟩, by simp, rfl, rfl⟩ (by simp)
        have g5 := hh.got 5 _ 45 rfl rfl ⟨⟨5, .data⟩, by simp, rfl, rfl⟩ (by simp)
        simp [lawV] at g2 g5
        go_simp
        exact ⟨rfl, HI.out⟩
      · simp only [List.getElem?_cons_zero, List.getElem?_cons_succ, Option.some.injEq] at ho
        subst ho
        have g6 := hh.got 6 _ 46 rfl rfl ⟨⟨6, .data⟩, by simp, rfl, rfl⟩ (by simp)
        simp [lawV] at g6
        go_simp
        exact ⟨rfl, HI.out⟩
      · simp only [List.getElem?_cons_zero, List.getElem?_cons_succ, Option.some.injEq] at ho
        subst ho
        go_simp
        exact ⟨rfl, HI.out⟩
      · simp only [List.getElem?_cons_zero, List.getElem?_cons_succ, Option.some.injEq] at ho
        subst ho
        go_simp
        exact ⟨rfl, HI.out⟩
      · simp only [List.getElem?_cons_zero, List.getElem?_cons_succ, Option.some.injEq] at ho
        subst ho
        have g8 := hh.got 8 _ 48 rfl rfl ⟨⟨8, .data⟩, by simp, rfl, rfl⟩ (by simp)
        have g9 := hh.got 9 _ 49 rfl rfl ⟨⟨9, .data⟩, by simp, rfl, rfl⟩ (by simp)
        simp [lawV] at g8 g9
        go_simp
        exact ⟨rfl, HI.out⟩
      · simp only [List.getElem?_cons_zero, List.getElem?_cons_succ, Option.some.injEq] at ho
        subst ho
        have g7 := hh.got 7 _ 47 rfl rfl ⟨⟨7, .data⟩, by simp, rfl, rfl⟩ (by simp)
        have g10 := hh.got 10 _ 50 rfl rfl ⟨⟨10, .data⟩, by simp, rfl, rfl⟩ (by simp)
        simp [lawV] at g7 g10
        go_simp
        exact ⟨rfl, HI.out⟩
      · simp only [List.getElem?_cons_zero, List.getElem?_cons_succ, Option.some.injEq] at ho
        subst ho
        have g11 := hh.got 11 _ 51 rfl rfl ⟨⟨11, .data⟩, by simp, rfl, rfl⟩ (by simp)
        simp [lawV] at g11
        go_simp
        exact ⟨rfl, HI.out⟩
      · simp only [List.getElem?_cons_zero, List.getElem?_cons_succ, Option.some.injEq] at ho
        subst ho
        go_simp
        exact ⟨rfl, HI.out⟩
      · simp only [List.getElem?_cons_zero, List.getElem?_cons_succ, Option.some.injEq] at ho
        subst ho
        go_simp
        exact ⟨rfl, HI.out⟩
      · simp only [List.getElem?_cons_zero, List.getElem?_cons_succ, Option.some.injEq] at ho
        subst ho
        have g13 := hh.got 13 _ 53 rfl rfl ⟨⟨13, .data⟩, by simp, rfl, rfl⟩ (by simp)
        have g14 := hh.got 14 _ 54 rfl rfl ⟨⟨14, .data⟩, by simp, rfl, rfl⟩ (by simp)
        simp [lawV] at g13 g14
        go_simp
        exact ⟨rfl, HI.out⟩
      · simp only [List.getElem?_cons_zero, List.getElem?_cons_succ, Option.some.injEq] at ho
        subst ho
        have g12 := hh.got 12 _ 52 rfl rfl ⟨⟨12, .data⟩, by simp, rfl, rfl⟩ (by simp)
        have g15 := hh.got 15 _ 55 rfl rfl ⟨⟨15, .data⟩, by simp, rfl, rfl⟩ (by simp)
        simp [lawV] at g12 g15
        go_simp
        exact ⟨rfl, HI.out⟩
      · simp only [List.getElem?_cons_zero, List.getElem?_cons_succ, Option.some.injEq] at ho
        subst ho
        have g16 := hh.got 16 _ 56 rfl rfl ⟨⟨16, .data⟩, by simp, rfl, rfl⟩ (by simp)
        simp [lawV] at g16
        go_simp
        exact ⟨rfl, HI.out⟩
      · simp only [List.getElem?_cons_zero, List.getElem?_cons_succ, Option.some.injEq] at ho
        subst ho
        go_simp
        go_at_call 17
        refine (works_any _).mono ?_
        rintro e w6 ⟨rfl, hb6⟩
        exact ⟨rfl, HI.out.trans (hb6.mono HI.out.size)⟩
      · simp only [List.getElem?_cons_zero, List.getElem?_cons_succ, Option.some.injEq] at ho
        subst ho
        have g17 := hh.got 17 _ 57 rfl rfl ⟨⟨17, .data⟩, by simp, rfl, rfl⟩ (by simp)
        have g18 := hh.got 18 _ 58 rfl rfl ⟨⟨18, .data⟩, by simp, rfl, rfl⟩ (by simp)
        simp [lawV] at g17 g18
        go_simp
        exact ⟨rfl, HI.out⟩
      · simp only [List.getElem?_cons_zero, List.getElem?_cons_succ, Option.some.injEq] at ho
        subst ho
        have g19 := hh.got 19 _ 59 rfl rfl ⟨⟨19, .data⟩, by simp, rfl, rfl⟩ (by simp)
        simp [lawV] at g19
        go_simp
        exact ⟨rfl, HI.out⟩
    case dn =>
      intro W b' hI hb
      simp only [puts, lawV] at hb
      subst hb
      simp only [Act.put, List.setIfInBounds_toArray, List.set_cons_succ, List.set_cons_zero]
      go_wp2
      go_ret
      exact ⟨rfl, HB5.out.trans (hI.mono HB5.out.size)⟩
end Go.Proofs.YtnbndciididpoaaGreat.verifyClaims
