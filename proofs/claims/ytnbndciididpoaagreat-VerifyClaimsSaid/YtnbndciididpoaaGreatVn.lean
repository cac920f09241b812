/- The specification's Check of a claim. Over this seat's program. (mk_Vn.py wrote this.) -/
import Derived.Test.YtnbndciididpoaaGreatVm
namespace Go.Proofs.YtnbndciididpoaaGreat
set_option linter.unusedVariables false
open Go.RowKit Go.Shelf

set_option maxRecDepth 100000 in
set_option maxHeartbeats 4000000 in
theorem rccheck_any (n : NetM) (c : Clm) (a1 a2 na : Option Addr) (c1 c2 nc : Nat) (hnl : c.ns.length ≤ 100000) (hcap : c.ns.length ≤ nc) (w : World) (hp : PsAt w (.slice a1 n.ps.length c1) n.ps) (hs : SsAt w (.slice a2 n.ss.length c2) n.ss) (hK : KAt .i64 w (.slice na c.ns.length nc) c.ns) :
    Calls Tryz.prog 29 #[.agg #[.slice a1 n.ps.length c1, .int .i64 n.inp, .slice a2 n.ss.length c2], clmV c na nc] w fun e w' => e = .returned (.int .i64 (if ncheck n ≠ 0 then ncheck n else claimE n.ps.length c)) ∧ Below w.heap.size w w' := by
  have HCH := Lib.hid (fun W (hb : Below w.heap.size w W) => rncheck_any n a1 a2 c1 c2 W (hp.below hb) (hs.below hb))
  have HCL := Lib.hid (fun (h : ncheck n = 0) W (hb : Below w.heap.size w W) => rclaim_any n.ps.length n.ss.length n.inp c a1 a2 na c1 c2 nc (netOk_of h).p1 hnl hcap W (hK.below hb))
  obtain ⟨kd, ns, fr, to, lo, hi⟩ := c
  unfold clmV at HCL ⊢
  simp only at hnl hK hcap ⊢
  obtain ⟨N, hN⟩ : ∃ N, N = n.ps.length := ⟨_, rfl⟩
  obtain ⟨SN, hSN⟩ : ∃ N, N = n.ss.length := ⟨_, rfl⟩
  obtain ⟨IN, hIN⟩ : ∃ N, N = n.inp := ⟨_, rfl⟩
  obtain ⟨K, hKl⟩ : ∃ K, K = ns.length := ⟨_, rfl⟩
  obtain ⟨E, hE⟩ : ∃ E, E = ncheck n := ⟨_, rfl⟩
  obtain ⟨R, hR⟩ : ∃ R, R = claimE n.ps.length ⟨kd, ns, fr, to, lo, hi⟩ := ⟨_, rfl⟩
  rw [← hR] at HCL ⊢
  rw [← hN, ← hSN, ← hIN] at HCH HCL ⊢
  rw [← hE] at HCH HCL ⊢
  simp only [← hKl] at HCL ⊢
  obtain ⟨Z, hZ⟩ : ∃ Z, Z = if E ≠ 0 then E else R := ⟨_, rfl⟩
  rw [← hZ]
  have HZ := Lib.hid hZ
  clear hp hs hK hnl hcap hN hSN hIN hKl hE hR hZ
  go_enter Tryz.func29, Tryz.ntmps29
  go_upto_region 1 with (fail)
  have hbn : NetBox ((w.alloc (.cells #[.slice a1 N c1, .int .i64 IN, .slice a2 SN c2] 25)).alloc (.cells #[.int .i64 kd, .slice na K nc, .int .i64 fr, .int .i64 to, .int .i64 lo, .int .i64 hi] 54)) w.heap.size (.slice a1 N c1) IN (.slice a2 SN c2) := (Below.heap_alloc _ _ _ (by simp)).trans (alloc_new_at _ _ _ rfl)
  have hcn : CBoxR ((w.alloc (.cells #[.slice a1 N c1, .int .i64 IN, .slice a2 SN c2] 25)).alloc (.cells #[.int .i64 kd, .slice na K nc, .int .i64 fr, .int .i64 to, .int .i64 lo, .int .i64 hi] 54)) (w.heap.size + 1) (.int .i64 kd) (.slice na K nc) (.int .i64 fr) (.int .i64 to) (.int .i64 lo) (.int .i64 hi) := alloc_new_at _ _ _ (by simp)
  have hbl : Below w.heap.size w ((w.alloc (.cells #[.slice a1 N c1, .int .i64 IN, .slice a2 SN c2] 25)).alloc (.cells #[.int .i64 kd, .slice na K nc, .int .i64 fr, .int .i64 to, .int .i64 lo, .int .i64 hi] 54)) := ((Below.refl _ _).alloc (Nat.le_refl _) _).alloc (by simp) _
  obtain ⟨nb, hnb⟩ : ∃ x, x = w.heap.size := ⟨_, rfl⟩
  obtain ⟨cb, hcb⟩ : ∃ x, x = w.heap.size + 1 := ⟨_, rfl⟩
  rw [← hcb] at hcn ⊢
  have HBL := Lib.hid hbl
  have HCN := Lib.hid hcn
  rw [← hnb] at hbn ⊢
  have HBN := Lib.hid hbn
  clear hnb hcb hbl hcn hbn
  generalize (w.alloc (.cells #[.slice a1 N c1, .int .i64 IN, .slice a2 SN c2] 25)).alloc (.cells #[.int .i64 kd, .slice na K nc, .int .i64 fr, .int .i64 to, .int .i64 lo, .int .i64 hi] 54) = W1 at *
  obtain ⟨q0, q1, q2⟩ := cells3f HBN.out
  go_wp2_with (fail)
  go_at_call 52
  refine (HCH.out _ HBL.out).mono ?_
  rintro e W2 ⟨rfl, hb2⟩
  have HB2 := Lib.hid (HBL.out.trans (hb2.mono HBL.out.size))
  have HBN2 := Lib.hid (show NetBox W2 nb (.slice a1 N c1) IN (.slice a2 SN c2) from (hb2.block nb (lt_of_block HBN.out)).trans HBN.out)
  have HCN2 := Lib.hid (show CBoxR W2 cb (.int .i64 kd) (.slice na K nc) (.int .i64 fr) (.int .i64 to) (.int .i64 lo) (.int .i64 hi) from (hb2.block cb (lt_of_block HCN.out)).trans HCN.out)
  clear hb2 q0 q1 q2 HBN HCN
  by_cases hE0 : E = 0
  case neg =>
    have e1 : (E = 0) = False := by simp only [eq_iff_iff, iff_false]; exact hE0
    have hz : Z = E := by rw [HZ.out, if_pos hE0]
    have HZE := Lib.hid hz
    clear hz
    go_wp2
    go_ret
    exact ⟨by rw [HZE.out]; rfl, HB2.out⟩
  have HZR := Lib.hid (show Z = R from by rw [HZ.out, if_neg (by simp [hE0])])
  clear HZ
  subst hE0
  obtain ⟨n0, n1, n2⟩ := cells3f HBN2.out
  obtain ⟨q0, q1, q2, q3, q4, q5⟩ := cells6 HCN2.out
  go_wp2_with (fail)
  go_at_call 73
  refine (HCL.out trivial _ HB2.out).mono ?_
  rintro e W3 ⟨rfl, hb3⟩
  have HB3 := Lib.hid (HB2.out.trans (hb3.mono HB2.out.size))
  clear hb3 n0 n1 n2 q0 q1 q2 q3 q4 q5
  go_wp2
  go_ret
  exact ⟨by rw [HZR.out]; rfl, HB3.out⟩
end Go.Proofs.YtnbndciididpoaaGreat
