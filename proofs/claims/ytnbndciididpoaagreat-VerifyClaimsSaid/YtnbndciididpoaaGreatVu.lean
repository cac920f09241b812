/- The specification's Holds; the law's few. Over this seat's program. (mk_Vu.py wrote this.) -/
import Derived.Test.YtnbndciididpoaaGreatVt
import Derived.Test.YtnbndciididpoaaGreatVn
namespace Go.Proofs.YtnbndciididpoaaGreat
set_option linter.unusedVariables false
open Go.RowKit Go.Shelf

def fewN (k m : Nat) : Bool := decide (k ≤ 10) && decide (m ≤ 40)
theorem ret_bool {a b : Bool} (h : a = b) : Ending.returned (.bool a) = .returned (.bool b) := by rw [h]
set_option maxRecDepth 100000 in
set_option maxHeartbeats 2000000 in
theorem few_any (a1 a2 : Option Addr) (k m c1 c2 : Nat) (inp : Int) (w : World) :
    Calls Tryz.prog 15 #[.agg #[.slice a1 k c1, .int .i64 inp, .slice a2 m c2]] w fun e w' => e = .returned (.bool (fewN k m)) ∧ Below w.heap.size w w' := by
  obtain ⟨X, hX⟩ : ∃ X, X = fewN k m := ⟨_, rfl⟩
  rw [← hX]
  have HX := Lib.hid hX
  clear hX
  go_enter Tryz.func15, Tryz.ntmps15
  go_wp2
  all_goals go_ret
  all_goals refine ⟨ret_bool ?_, (Below.refl _ _).alloc (Nat.le_refl _) _⟩
  all_goals rw [HX.out]
  all_goals clear HX
  all_goals (rw [Bool.eq_iff_iff]; simp [fewN]; omega)

set_option maxRecDepth 100000 in
set_option maxHeartbeats 8000000 in
theorem rholds_any (n : NetM) (c : Clm) (a1 a2 na sa : Option Addr) (c1 c2 nc m sc : Nat) (hnl : c.ns.length ≤ 100) (hcap : c.ns.length ≤ nc) (sp : List Evx) (hm : m = sp.length) (hl : m ≤ 10000) (w : World) (hp : PsAt w (.slice a1 n.ps.length c1) n.ps) (hs : SsAt w (.slice a2 n.ss.length c2) n.ss) (hK : KAt .i64 w (.slice na c.ns.length nc) c.ns) (hS : EvxsAt w (.slice sa m sc) sp) :
    Calls Tryz.prog 27 #[.agg #[.slice a1 n.ps.length c1, .int .i64 n.inp, .slice a2 n.ss.length c2], clmV c na nc, .slice sa m sc] w fun e w' => e = .returned (vH n c sp) ∧ Below w.heap.size w w' := by
  have HCH := Lib.hid (fun W (hb : Below w.heap.size w W) => rccheck_any n c a1 a2 na c1 c2 nc (by omega) hcap W (hp.below hb) (hs.below hb) (hK.below hb))
  have HHL := Lib.hid (fun (h : vE n c = 0) W (hb : Below w.heap.size w W) => rhl_any c (clmOk_of hnl h).1 (clmOk_of hnl h).2.1 (clmOk_of hnl h).2.2.1 (clmOk_of hnl h).2.2.2.1 na sa nc m sc sp hm hl W (hK.below hb) (hS.below hb))
  have hGE : vH n c sp = if vE n c = 0 then .tuple #[.bool (holdsB c sp), .int .i64 0] else .tuple #[.bool false, .int .i64 (vE n c)] := rfl
  obtain ⟨G, hG⟩ : ∃ G, G = vH n c sp := ⟨_, rfl⟩
  rw [← hG] at hGE ⊢
  clear hG
  rw [show (if ncheck n ≠ 0 then ncheck n else claimE n.ps.length c) = vE n c from rfl] at HCH
  obtain ⟨R, hR⟩ : ∃ R, R = holdsB c sp := ⟨_, rfl⟩
  rw [← hR] at hGE HHL
  obtain ⟨kd, ns, fr, to, lo, hi⟩ := c
  unfold clmV at HCH HHL ⊢
  simp only at hnl hK hcap HCH HHL ⊢
  obtain ⟨N, hN⟩ : ∃ N, N = n.ps.length := ⟨_, rfl⟩
  obtain ⟨SN, hSN⟩ : ∃ N, N = n.ss.length := ⟨_, rfl⟩
  obtain ⟨IN, hIN⟩ : ∃ N, N = n.inp := ⟨_, rfl⟩
  obtain ⟨K, hKl⟩ : ∃ K, K = ns.length := ⟨_, rfl⟩
  obtain ⟨E, hE⟩ : ∃ E, E = vE n ⟨kd, ns, fr, to, lo, hi⟩ := ⟨_, rfl⟩
  rw [← hN, ← hSN, ← hIN] at HCH ⊢
  rw [← hE] at HCH HHL hGE
  rw [← hKl] at HCH HHL ⊢
  have HGE := Lib.hid hGE
  clear hp hs hN hSN hIN hKl hE hK hGE hS hm hR hnl hcap
  go_enter Tryz.func27, Tryz.ntmps27
  go_upto_region 1 with (fail)
  have hbn : NetBox ((w.alloc (.cells #[.slice a1 N c1, .int .i64 IN, .slice a2 SN c2] 25)).alloc (.cells #[.int .i64 kd, .slice na K nc, .int .i64 fr, .int .i64 to, .int .i64 lo, .int .i64 hi] 54)) w.heap.size (.slice a1 N c1) IN (.slice a2 SN c2) := (Below.heap_alloc _ _ _ (by simp)).trans (alloc_new_at _ _ _ rfl)
  have hcn : CBoxR ((w.alloc (.cells #[.slice a1 N c1, .int .i64 IN, .slice a2 SN c2] 25)).alloc (.cells #[.int .i64 kd, .slice na K nc, .int .i64 fr, .int .i64 to, .int .i64 lo, .int .i64 hi] 54)) (w.heap.size + 1) (.int .i64 kd) (.slice na K nc) (.int .i64 fr) (.int .i64 to) (.int .i64 lo) (.int .i64 hi) := alloc_new_at _ _ _ (by simp)
  have hbl : Below w.heap.size w ((w.alloc (.cells #[.slice a1 N c1, .int .i64 IN, .slice a2 SN c2] 25)).alloc (.cells #[.int .i64 kd, .slice na K nc, .int .i64 fr, .int .i64 to, .int .i64 lo, .int .i64 hi] 54)) := ((Below.refl _ _).alloc (Nat.le_refl _) _).alloc (by simp) _
  obtain ⟨nb, hnb⟩ : ∃ x, x = w.heap.size := ⟨_, rfl⟩
  obtain ⟨cb, hcb⟩ : ∃ x, x = w.heap.size + 1 := ⟨_, rfl⟩
  rw [← hcb] at hcn ⊢
  have HBL := Lib.hid hbl
  have HCN0 := Lib.hid hcn
  rw [← hnb] at hbn ⊢
  clear hnb hcb hbl
  generalize (w.alloc (.cells #[.slice a1 N c1, .int .i64 IN, .slice a2 SN c2] 25)).alloc (.cells #[.int .i64 kd, .slice na K nc, .int .i64 fr, .int .i64 to, .int .i64 lo, .int .i64 hi] 54) = W1 at *
  obtain ⟨q0, q1, q2⟩ := cells3f hbn
  obtain ⟨p0, p1, p2, p3, p4, p5⟩ := cells6 hcn
  clear hbn hcn
  go_wp2_with (fail)
  go_at_call 29
  refine (HCH.out _ HBL.out).mono ?_
  rintro e W2 ⟨rfl, hb2⟩
  have HB2 := Lib.hid (HBL.out.trans (hb2.mono HBL.out.size))
  have hcw : CBoxR W2 cb (.int .i64 kd) (.slice na K nc) (.int .i64 fr) (.int .i64 to) (.int .i64 lo) (.int .i64 hi) := (hb2.block cb (lt_of_block HCN0.out)).trans HCN0.out
  clear hb2 q0 q1 q2 p0 p1 p2 p3 p4 p5 HCN0
  obtain ⟨p0, p1, p2, p3, p4, p5⟩ := cells6 hcw
  clear hcw
  by_cases hE0 : E = 0
  case neg =>
    have e1 : (E = 0) = False := by simp only [eq_iff_iff, iff_false]; exact hE0
    go_wp2
    exact bodyPost_ret (v := .tuple #[.bool false, .int .i64 E]) (by simp [results, Tryz.results27, go_sem]) rfl ⟨by rw [HGE.out, if_neg hE0], HB2.out⟩
  have HZ0 := Lib.hid hE0
  subst hE0
  go_wp2_with (fail)
  go_at_call 70
  refine (HHL.out (by trivial) _ HB2.out).mono ?_
  rintro e W3 ⟨rfl, hb3⟩
  have HB3 := Lib.hid (HB2.out.trans (hb3.mono HB2.out.size))
  clear hb3 p0 p1 p2 p3 p4 p5
  go_wp2
  exact bodyPost_ret (v := .tuple #[.bool R, .int .i64 0]) (by simp [results, Tryz.results27, go_sem]) rfl ⟨by rw [HGE.out, if_pos HZ0.out], HB3.out⟩
end Go.Proofs.YtnbndciididpoaaGreat
