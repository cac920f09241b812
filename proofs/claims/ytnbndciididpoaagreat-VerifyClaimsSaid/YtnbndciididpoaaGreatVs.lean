/- verify.Holds. Over this seat's program. (mk_Vs.py wrote this.) -/
import Derived.Test.YtnbndciididpoaaGreatVr
namespace Go.Proofs.YtnbndciididpoaaGreat
set_option linter.unusedVariables false
open Go.RowKit Go.Shelf

theorem wf64 {x : Int} (h1 : -9223372036854775808 ≤ x) (h2 : x ≤ 9223372036854775807) : (Lit.int .i64 x).wf = true := by
  simp [Lit.wf, IntKind.min, IntKind.max, IntKind.signed, IntKind.bits]; omega
/-- What the claim's check returns. -/
def vE (n : NetM) (c : Clm) : Int := if ncheck n ≠ 0 then ncheck n else claimE n.ps.length c
/-- What Holds returns. -/
def vH (n : NetM) (c : Clm) (l : List Evx) : Value := if vE n c = 0 then .tuple #[.bool (holdsB c l), .int .i64 0] else .tuple #[.bool false, .int .i64 (vE n c)]
theorem clmOk_of {n : NetM} {c : Clm} (hn : c.ns.length ≤ 100) (h : vE n c = 0) : ClmOk c ∧ c.ns ≠ [] ∧ c.ns.Nodup ∧ (c.kd = 1 ∨ c.kd = 2) ∧ ncheck n = 0 := by
  unfold vE at h
  split at h
  · rename_i h1; exact absurd h h1
  rename_i h1
  have h0 : ncheck n = 0 := by simpa using h1
  unfold claimE at h
  split at h
  · rename_i h2
    split at h
    · rename_i h3; exact absurd h h3
    rename_i h3
    have h3 : nsE n.ps.length [] c.ns = 0 := by simpa using h3
    split at h
    · cases h
    rename_i h4
    obtain ⟨r1, r2, _⟩ := nsE_nodup _ _ h3
    have hp := (netOk_of h0).p1
    have hr : ∀ i ∈ c.ns, 0 ≤ i ∧ i ≤ (n.ps.length : Int) - 1 := fun i hi => by simpa [inR] using r1 i hi
    refine ⟨⟨hn, fun i hi => (by have := hr i hi; exact wf64 (by omega) (by omega)), by omega, by omega, by omega⟩, h2.2, r2, h2.1, h0⟩
  · cases h
/-- The values of the region that asks the kind. -/
def hoK (pb : Nat) (k fr to lo hi : Int) (ns sp f0 f1 : Value) (R : Bool) : Nat → Value
  | 1 => .pointer (some ⟨pb, 0, none⟩)
  | 2 => .int .i64 k
  | 3 => .agg #[f0, f1]
  | 4 => f0
  | 5 => .agg #[.int .i64 k, ns, .int .i64 fr, .int .i64 to, .int .i64 lo, .int .i64 hi]
  | 6 => sp
  | 7 => .bool R
  | 8 => .bool R
  | 9 => .int .i64 0
  | _ => undef
structure HoR (W0 : World) (Kv : Nat → Value) (L : Array Bool) (val : Nat → Value) (W : World) : Prop where
  known : ∀ j, j ≠ 0 → L.getD j false = true → val j = Kv j
  bel : Below W0.heap.size W0 W
  m0 : L.getD 0 false = true → ∃ b, val 0 = .map (some b) ∧ MapIs W b 2 kindsF
section
variable {W0 W W' : World} {Kv : Nat → Value} {L : Array Bool} {val : Nat → Value}
theorem HoR.init (N : Nat) : HoR W0 Kv (Array.replicate N false) (fun _ => undef) { W0 with drawn := W0.drawn + 1 } := by
  have y : ∀ j, (Array.replicate N false).getD j false = true → False := fun j h => by
    simp [Array.getD_eq_getD_getElem?, Array.getElem?_replicate] at h
    split at h <;> simp_all
  exact ⟨fun j _ h => (y _ h).elim, ⟨rfl, rfl, rfl, Nat.le_refl _, fun _ _ => rfl⟩, fun h => (y _ h).elim⟩
theorem HoR.step (h : HoR W0 Kv L val W) (i : Nat) (hi : i ≠ 0) (hb : Below W.heap.size W W') {u : Value} (hu : u = Kv i) : HoR W0 Kv (L.setIfInBounds i true) (setV val i u) W' := by
  refine ⟨fun j hj hl => ?_, h.bel.trans (hb.mono h.bel.size), fun l0 => ?_⟩
  · by_cases e : j = i
    · subst e; rw [setV_eq]; exact hu
    · rw [setV_ne e]; exact h.known j hj (by rwa [gdD e] at hl)
  · rw [setV_ne (fun e => hi e.symm)]
    rw [gdD (fun e => hi e.symm)] at l0
    obtain ⟨b, e, hm⟩ := h.m0 l0
    exact ⟨b, e, hm.of_block (hb.block b hm.lt)⟩
theorem HoR.zero {b : Nat} (h : HoR W0 Kv L val W) (hm : MapIs W' b 2 kindsF) (hb : Below W.heap.size W W') :
    HoR W0 Kv (L.setIfInBounds 0 true) (setV val 0 (.map (some b))) W' := by
  refine ⟨fun j hj hl => ?_, h.bel.trans (hb.mono h.bel.size), fun _ => ⟨b, setV_eq, hm⟩⟩
  rw [setV_ne hj]; exact h.known j hj (by rwa [gdD hj] at hl)
end
set_option maxRecDepth 100000 in
set_option maxHeartbeats 8000000 in
theorem vholds_any (n : NetM) (c : Clm) (a1 a2 na sa : Option Addr) (c1 c2 nc m sc : Nat) (hkw : (Lit.int .i64 c.kd).wf = true) (hnl : c.ns.length ≤ 100) (sp : List Evx) (hm : m = sp.length) (hl : m ≤ 10000) (hv : ∀ x ∈ sp, (Lit.int .i64 x.id).wf = true) (w : World) (hp : PsAt w (.slice a1 n.ps.length c1) n.ps) (hs : SsAt w (.slice a2 n.ss.length c2) n.ss) (hK : KAt .i64 w (.slice na c.ns.length nc) c.ns) (hS : EvxsAt w (.slice sa m sc) sp) :
    Calls Tryz.prog 26 #[.agg #[.slice a1 n.ps.length c1, .int .i64 n.inp, .slice a2 n.ss.length c2], clmV c na nc, .slice sa m sc] w fun e w' => e = .returned (vH n c sp) ∧ Below w.heap.size w w' := by
  have HCH := Lib.hid (fun W (hb : Below w.heap.size w W) => vcheck_any n c a1 a2 na c1 c2 nc hkw (by omega) W (hp.below hb) (hs.below hb) (hK.below hb))
  have HOK := Lib.hid (fun h : vE n c = 0 => clmOk_of hnl h)
  have hGE : vH n c sp = if vE n c = 0 then .tuple #[.bool (holdsB c sp), .int .i64 0] else .tuple #[.bool false, .int .i64 (vE n c)] := rfl
  obtain ⟨kd, ns, fr, to, lo, hi⟩ := c
  obtain ⟨G, hG⟩ : ∃ G, G = vH n ⟨kd, ns, fr, to, lo, hi⟩ sp := ⟨_, rfl⟩
  rw [← hG] at hGE ⊢
  clear hG
  unfold clmV at HCH ⊢
  rw [show (if ncheck n ≠ 0 then ncheck n else claimE n.ps.length ⟨kd, ns, fr, to, lo, hi⟩) = vE n ⟨kd, ns, fr, to, lo, hi⟩ from rfl] at HCH
  simp only at hkw hnl hK HCH ⊢
  obtain ⟨N, hN⟩ : ∃ N, N = n.ps.length := ⟨_, rfl⟩
  obtain ⟨SN, hSN⟩ : ∃ N, N = n.ss.length := ⟨_, rfl⟩
  obtain ⟨IN, hIN⟩ : ∃ N, N = n.inp := ⟨_, rfl⟩
  obtain ⟨K, hKl⟩ : ∃ K, K = ns.length := ⟨_, rfl⟩
  obtain ⟨E, hE⟩ : ∃ E, E = vE n ⟨kd, ns, fr, to, lo, hi⟩ := ⟨_, rfl⟩
  rw [← hN, ← hSN, ← hIN] at HCH ⊢
  rw [← hE] at HCH HOK hGE
  rw [← hKl] at hK hnl HCH ⊢
  have HKL := Lib.hid hKl
  have HKA := Lib.hid hK
  have HSA := Lib.hid hS
  have HKW := Lib.hid hkw
  have HGE := Lib.hid hGE
  have HM := Lib.hid hm
  have HV := Lib.hid hv
  clear hp hs hN hSN hIN hKl hE hK hkw hGE hS hm hv
  go_enter Tryz.func26, Tryz.ntmps26
  go_upto_region 1 with (fail)
  have hbn : NetBox ((w.alloc (.cells #[.slice a1 N c1, .int .i64 IN, .slice a2 SN c2] 25)).alloc (.cells #[.int .i64 kd, .slice na K nc, .int .i64 fr, .int .i64 to, .int .i64 lo, .int .i64 hi] 50)) w.heap.size (.slice a1 N c1) IN (.slice a2 SN c2) := (Below.heap_alloc _ _ _ (by simp)).trans (alloc_new_at _ _ _ rfl)
  have hcn : CBox ((w.alloc (.cells #[.slice a1 N c1, .int .i64 IN, .slice a2 SN c2] 25)).alloc (.cells #[.int .i64 kd, .slice na K nc, .int .i64 fr, .int .i64 to, .int .i64 lo, .int .i64 hi] 50)) (w.heap.size + 1) (.int .i64 kd) (.slice na K nc) (.int .i64 fr) (.int .i64 to) (.int .i64 lo) (.int .i64 hi) := alloc_new_at _ _ _ (by simp)
  have hbl : Below w.heap.size w ((w.alloc (.cells #[.slice a1 N c1, .int .i64 IN, .slice a2 SN c2] 25)).alloc (.cells #[.int .i64 kd, .slice na K nc, .int .i64 fr, .int .i64 to, .int .i64 lo, .int .i64 hi] 50)) := ((Below.refl _ _).alloc (Nat.le_refl _) _).alloc (by simp) _
  obtain ⟨nb, hnb⟩ : ∃ x, x = w.heap.size := ⟨_, rfl⟩
  obtain ⟨cb, hcb⟩ : ∃ x, x = w.heap.size + 1 := ⟨_, rfl⟩
  rw [← hcb] at hcn ⊢
  have HBL := Lib.hid hbl
  have HCN0 := Lib.hid hcn
  rw [← hnb] at hbn ⊢
  have hnb0 : w.heap.size ≤ nb := by omega
  have hcb0 : w.heap.size ≤ cb := by omega
  clear hnb hcb hbl
  generalize (w.alloc (.cells #[.slice a1 N c1, .int .i64 IN, .slice a2 SN c2] 25)).alloc (.cells #[.int .i64 kd, .slice na K nc, .int .i64 fr, .int .i64 to, .int .i64 lo, .int .i64 hi] 50) = W1 at *
  obtain ⟨q0, q1, q2⟩ := cells3f hbn
  obtain ⟨p0, p1, p2, p3, p4, p5⟩ := cells6 hcn
  clear hbn hcn
  go_wp2_with (fail)
  go_at_call 28
  refine (HCH.out _ HBL.out).mono ?_
  rintro e W2 ⟨rfl, hb2⟩
  have HB2 := Lib.hid (HBL.out.trans (hb2.mono HBL.out.size))
  have HCN := Lib.hid (show CBox W2 cb (.int .i64 kd) (.slice na K nc) (.int .i64 fr) (.int .i64 to) (.int .i64 lo) (.int .i64 hi) from (hb2.block cb (lt_of_block HCN0.out)).trans HCN0.out)
  have hz2 := HB2.out.size
  clear hb2 q0 q1 q2 p0 p1 p2 p3 p4 p5 HCN0
  by_cases hE0 : E = 0
  case neg =>
    have e1 : (E = 0) = False := by simp only [eq_iff_iff, iff_false]; exact hE0
    go_wp2
    exact bodyPost_ret (v := .tuple #[.bool false, .int .i64 E]) (by simp [results, Tryz.results26, go_sem]) rfl ⟨by rw [HGE.out, if_neg hE0], HB2.out⟩
  have HZ0 := Lib.hid hE0
  obtain ⟨hok, hne, hnd, hkk, _⟩ := HOK.out hE0
  have HCK := Lib.hid hok
  have HNE := Lib.hid hne
  clear hok hne hnd HOK
  subst hE0
  have HCBL := Lib.hid (lt_of_block HCN.out)
  go_upto_region 4 with (fail)
  rcases hkk with hkd | hkd
  · replace hkd : kd = 1 := hkd
    have HRES := Lib.hid (show holdsB ⟨kd, ns, fr, to, lo, hi⟩ sp = firstB ⟨kd, ns, fr, to, lo, hi⟩ sp from by unfold holdsB; rw [if_neg (by simp [hkd])])
    have HKD := Lib.hid hkd
    clear hkd
    refine wp_region_ghost (HoR W2 (hoK cb kd fr to lo hi (.slice na K nc) (.slice sa m sc) (.func (.func 117) #[] #[]) (.func (.func 118) #[] #[]) (holdsB ⟨kd, ns, fr, to, lo, hi⟩ sp))) (by kernel_rfl) (by kernel_rfl) (by kernel_rfl) (by kernel_rfl) (HoR.init _) ?stu ?du
    case stu =>
      intro L' val W i' o b' hs ho hlF hdd hI hh
      have hi' := (List.getElem?_eq_some_iff.1 ho).1
      have hcs : i' = 0 ∨ i' = 1 ∨ i' = 2 ∨ i' = 3 ∨ i' = 4 ∨ i' = 5 ∨ i' = 6 ∨ i' = 7 ∨ i' = 8 ∨ i' = 9 := by simp at hi'; omega
      have HI := Lib.hid hI
      have HD := Lib.hid hdd
      have hcw : CBox W cb (.int .i64 kd) (.slice na K nc) (.int .i64 fr) (.int .i64 to) (.int .i64 lo) (.int .i64 hi) := (HI.out.bel.block cb HCBL.out).trans HCN.out
      obtain ⟨y0, y1, y2, y3, y4, y5⟩ := cells6 hcw
      clear hi' hs hI hlF hdd hcw
      rcases hcs with rfl | rfl | rfl | rfl | rfl | rfl | rfl | rfl | rfl | rfl
      · simp only [List.getElem?_cons_zero, Option.some.injEq] at ho
        subst ho
        go_simp
        go_at_call 69
        refine (kinds_any _).mono ?_
        rintro e w' ⟨kb, rfl, _, hm, hb⟩
        have HZ := Lib.hid (HI.out.zero hm hb)
        clear hm hb
        go_simp
        exact ⟨_, rfl, HZ.out⟩
      · simp only [List.getElem?_cons_zero, List.getElem?_cons_succ, Option.some.injEq] at ho
        subst ho
        have k4 := hh.kept 4 (by simp)
        simp at k4
        go_simp
        exact ⟨_, rfl, HI.out.step 1 (by decide) (Below.refl _ _) rfl⟩
      · simp only [List.getElem?_cons_zero, List.getElem?_cons_succ, Option.some.injEq] at ho
        subst ho
        have l1 : L'.getD 1 false = true := HD.out ⟨1, .data⟩ (by simp) rfl
        have g1 := hh.got 1 _ 16 rfl rfl l1 (by simp)
        rw [HI.out.known 1 (by decide) l1] at g1
        simp [hoK] at g1
        clear l1
        go_simp
        exact ⟨_, rfl, HI.out.step 2 (by decide) (Below.refl _ _) rfl⟩
      · simp only [List.getElem?_cons_zero, List.getElem?_cons_succ, Option.some.injEq] at ho
        subst ho
        have l0 : L'.getD 0 false = true := HD.out ⟨0, .data⟩ (by simp) rfl
        have g0 := hh.got 0 _ 15 rfl rfl l0 (by simp)
        have l2 : L'.getD 2 false = true := HD.out ⟨2, .data⟩ (by simp) rfl
        have g2 := hh.got 2 _ 17 rfl rfl l2 (by simp)
        rw [HI.out.known 2 (by decide) l2] at g2
        simp [hoK] at g2
        obtain ⟨kb, ekb, hmk⟩ := HI.out.m0 l0
        rw [ekb] at g0
        simp at g0
        have hlk : (Instr.lookup 140 (.map (some kb)) (.int .i64 kd) false).run Tryz.prog W = .ok (.agg #[.func (.func 117) #[] #[], .func (.func 118) #[] #[]]) W := by
          rw [hmk.look1 Tryz.underlying140 (z := .agg #[.nilFunc, .nilFunc]) (by kernel_rfl) kd HKW.out, kindsF_at, HKD.out]; rfl
        clear hmk ekb l0 l2
        go_simp
        exact ⟨_, rfl, HI.out.step 3 (by decide) (Below.refl _ _) rfl⟩
      · simp only [List.getElem?_cons_zero, List.getElem?_cons_succ, Option.some.injEq] at ho
        subst ho
        have l3 : L'.getD 3 false = true := HD.out ⟨3, .data⟩ (by simp) rfl
        have g3 := hh.got 3 _ 18 rfl rfl l3 (by simp)
        rw [HI.out.known 3 (by decide) l3] at g3
        simp [hoK] at g3
        clear l3
        go_simp
        exact ⟨_, rfl, HI.out.step 4 (by decide) (Below.refl _ _) rfl⟩
      · simp only [List.getElem?_cons_zero, List.getElem?_cons_succ, Option.some.injEq] at ho
        subst ho
        have k4 := hh.kept 4 (by simp)
        simp at k4
        go_simp
        exact ⟨_, rfl, HI.out.step 5 (by decide) (Below.refl _ _) rfl⟩
      · simp only [List.getElem?_cons_zero, List.getElem?_cons_succ, Option.some.injEq] at ho
        subst ho
        have k2 := hh.kept 2 (by simp)
        simp at k2
        go_simp
        exact ⟨_, rfl, HI.out.step 6 (by decide) (Below.refl _ _) rfl⟩
      · simp only [List.getElem?_cons_zero, List.getElem?_cons_succ, Option.some.injEq] at ho
        subst ho
        have l4 : L'.getD 4 false = true := HD.out ⟨4, .data⟩ (by simp) rfl
        have g4 := hh.got 4 _ 19 rfl rfl l4 (by simp)
        rw [HI.out.known 4 (by decide) l4] at g4
        simp [hoK] at g4
        have l5 : L'.getD 5 false = true := HD.out ⟨5, .data⟩ (by simp) rfl
        have g5 := hh.got 5 _ 20 rfl rfl l5 (by simp)
        rw [HI.out.known 5 (by decide) l5] at g5
        simp [hoK] at g5
        have l6 : L'.getD 6 false = true := HD.out ⟨6, .data⟩ (by simp) rfl
        have g6 := hh.got 6 _ 21 rfl rfl l6 (by simp)
        rw [HI.out.known 6 (by decide) l6] at g6
        simp [hoK] at g6
        clear l4 l5 l6
        go_simp
        go_at_call 117
        refine (callsIn_wide.1 (first_in ⟨kd, ns, fr, to, lo, hi⟩ HCK.out HNE.out na K nc HKL.out sp m sc sa HM.out hl HV.out _ (HKA.out.below (HB2.out.trans (HI.out.bel.mono hz2))) (HSA.out.below (HB2.out.trans (HI.out.bel.mono hz2))))).mono ?_
        rintro e w' ⟨rfl, hb⟩
        have HZ := Lib.hid (HI.out.step 7 (by decide) hb (u := .bool (firstB ⟨kd, ns, fr, to, lo, hi⟩ sp)) (congrArg Value.bool HRES.out.symm))
        clear hb
        go_simp
        exact ⟨_, rfl, HZ.out⟩
      · simp only [List.getElem?_cons_zero, List.getElem?_cons_succ, Option.some.injEq] at ho
        subst ho
        have l7 : L'.getD 7 false = true := HD.out ⟨7, .data⟩ (by simp) rfl
        have g7 := hh.got 7 _ 22 rfl rfl l7 (by simp)
        rw [HI.out.known 7 (by decide) l7] at g7
        simp [hoK] at g7
        clear l7
        go_simp
        exact ⟨_, rfl, HI.out.step 8 (by decide) (Below.refl _ _) rfl⟩
      · simp only [List.getElem?_cons_zero, List.getElem?_cons_succ, Option.some.injEq] at ho
        subst ho
        go_simp
        exact ⟨_, rfl, HI.out.step 9 (by decide) (Below.refl _ _) rfl⟩
    case du =>
      intro val W b' hI hh hbs
      have hb := has_all (by kernel_rfl) hh hbs
      have kn : ∀ q, q ≠ 0 → q < 10 → val q = hoK cb kd fr to lo hi (.slice na K nc) (.slice sa m sc) (.func (.func 117) #[] #[]) (.func (.func 118) #[] #[]) (holdsB ⟨kd, ns, fr, to, lo, hi⟩ sp) q := fun q hq hq2 => hI.known q hq (replT (by show q < 10; omega))
      obtain ⟨x0, hx0⟩ : ∃ v, v = val 0 := ⟨_, rfl⟩
      simp only [puts, ← hx0, kn 1 (by decide) (by decide), kn 2 (by decide) (by decide), kn 3 (by decide) (by decide), kn 4 (by decide) (by decide), kn 5 (by decide) (by decide), kn 6 (by decide) (by decide), kn 7 (by decide) (by decide), kn 8 (by decide) (by decide), kn 9 (by decide) (by decide), hoK] at hb
      have HB3 := Lib.hid (HB2.out.trans (hI.bel.mono hz2))
      clear hI kn hx0 hh hbs
      subst hb
      simp only [Act.put, List.setIfInBounds_toArray, List.set_cons_succ, List.set_cons_zero]
      go_wp2
      exact bodyPost_ret (v := .tuple #[.bool (holdsB ⟨kd, ns, fr, to, lo, hi⟩ sp), .int .i64 0]) (by simp [results, Tryz.results26, go_sem]) rfl ⟨by rw [HGE.out, if_pos HZ0.out], HB3.out⟩
  · replace hkd : kd = 2 := hkd
    have HRES := Lib.hid (show holdsB ⟨kd, ns, fr, to, lo, hi⟩ sp = inR ((ownL ⟨kd, ns, fr, to, lo, hi⟩ sp).length : Int) lo hi from by unfold holdsB; rw [if_pos (by simp [hkd])])
    have HKD := Lib.hid hkd
    clear hkd
    refine wp_region_ghost (HoR W2 (hoK cb kd fr to lo hi (.slice na K nc) (.slice sa m sc) (.func (.func 119) #[] #[]) (.func (.func 120) #[] #[]) (holdsB ⟨kd, ns, fr, to, lo, hi⟩ sp))) (by kernel_rfl) (by kernel_rfl) (by kernel_rfl) (by kernel_rfl) (HoR.init _) ?stv ?dv
    case stv =>
      intro L' val W i' o b' hs ho hlF hdd hI hh
      have hi' := (List.getElem?_eq_some_iff.1 ho).1
      have hcs : i' = 0 ∨ i' = 1 ∨ i' = 2 ∨ i' = 3 ∨ i' = 4 ∨ i' = 5 ∨ i' = 6 ∨ i' = 7 ∨ i' = 8 ∨ i' = 9 := by simp at hi'; omega
      have HI := Lib.hid hI
      have HD := Lib.hid hdd
      have hcw : CBox W cb (.int .i64 kd) (.slice na K nc) (.int .i64 fr) (.int .i64 to) (.int .i64 lo) (.int .i64 hi) := (HI.out.bel.block cb HCBL.out).trans HCN.out
      obtain ⟨y0, y1, y2, y3, y4, y5⟩ := cells6 hcw
      clear hi' hs hI hlF hdd hcw
      rcases hcs with rfl | rfl | rfl | rfl | rfl | rfl | rfl | rfl | rfl | rfl
      · simp only [List.getElem?_cons_zero, Option.some.injEq] at ho
        subst ho
        go_simp
        go_at_call 69
        refine (kinds_any _).mono ?_
        rintro e w' ⟨kb, rfl, _, hm, hb⟩
        have HZ := Lib.hid (HI.out.zero hm hb)
        clear hm hb
        go_simp
        exact ⟨_, rfl, HZ.out⟩
      · simp only [List.getElem?_cons_zero, List.getElem?_cons_succ, Option.some.injEq] at ho
        subst ho
        have k4 := hh.kept 4 (by simp)
        simp at k4
        go_simp
        exact ⟨_, rfl, HI.out.step 1 (by decide) (Below.refl _ _) rfl⟩
      · simp only [List.getElem?_cons_zero, List.getElem?_cons_succ, Option.some.injEq] at ho
        subst ho
        have l1 : L'.getD 1 false = true := HD.out ⟨1, .data⟩ (by simp) rfl
        have g1 := hh.got 1 _ 16 rfl rfl l1 (by simp)
        rw [HI.out.known 1 (by decide) l1] at g1
        simp [hoK] at g1
        clear l1
        go_simp
        exact ⟨_, rfl, HI.out.step 2 (by decide) (Below.refl _ _) rfl⟩
      · simp only [List.getElem?_cons_zero, List.getElem?_cons_succ, Option.some.injEq] at ho
        subst ho
        have l0 : L'.getD 0 false = true := HD.out ⟨0, .data⟩ (by simp) rfl
        have g0 := hh.got 0 _ 15 rfl rfl l0 (by simp)
        have l2 : L'.getD 2 false = true := HD.out ⟨2, .data⟩ (by simp) rfl
        have g2 := hh.got 2 _ 17 rfl rfl l2 (by simp)
        rw [HI.out.known 2 (by decide) l2] at g2
        simp [hoK] at g2
        obtain ⟨kb, ekb, hmk⟩ := HI.out.m0 l0
        rw [ekb] at g0
        simp at g0
        have hlk : (Instr.lookup 140 (.map (some kb)) (.int .i64 kd) false).run Tryz.prog W = .ok (.agg #[.func (.func 119) #[] #[], .func (.func 120) #[] #[]]) W := by
          rw [hmk.look1 Tryz.underlying140 (z := .agg #[.nilFunc, .nilFunc]) (by kernel_rfl) kd HKW.out, kindsF_at, HKD.out]; rfl
        clear hmk ekb l0 l2
        go_simp
        exact ⟨_, rfl, HI.out.step 3 (by decide) (Below.refl _ _) rfl⟩
      · simp only [List.getElem?_cons_zero, List.getElem?_cons_succ, Option.some.injEq] at ho
        subst ho
        have l3 : L'.getD 3 false = true := HD.out ⟨3, .data⟩ (by simp) rfl
        have g3 := hh.got 3 _ 18 rfl rfl l3 (by simp)
        rw [HI.out.known 3 (by decide) l3] at g3
        simp [hoK] at g3
        clear l3
        go_simp
        exact ⟨_, rfl, HI.out.step 4 (by decide) (Below.refl _ _) rfl⟩
      · simp only [List.getElem?_cons_zero, List.getElem?_cons_succ, Option.some.injEq] at ho
        subst ho
        have k4 := hh.kept 4 (by simp)
        simp at k4
        go_simp
        exact ⟨_, rfl, HI.out.step 5 (by decide) (Below.refl _ _) rfl⟩
      · simp only [List.getElem?_cons_zero, List.getElem?_cons_succ, Option.some.injEq] at ho
        subst ho
        have k2 := hh.kept 2 (by simp)
        simp at k2
        go_simp
        exact ⟨_, rfl, HI.out.step 6 (by decide) (Below.refl _ _) rfl⟩
      · simp only [List.getElem?_cons_zero, List.getElem?_cons_succ, Option.some.injEq] at ho
        subst ho
        have l4 : L'.getD 4 false = true := HD.out ⟨4, .data⟩ (by simp) rfl
        have g4 := hh.got 4 _ 19 rfl rfl l4 (by simp)
        rw [HI.out.known 4 (by decide) l4] at g4
        simp [hoK] at g4
        have l5 : L'.getD 5 false = true := HD.out ⟨5, .data⟩ (by simp) rfl
        have g5 := hh.got 5 _ 20 rfl rfl l5 (by simp)
        rw [HI.out.known 5 (by decide) l5] at g5
        simp [hoK] at g5
        have l6 : L'.getD 6 false = true := HD.out ⟨6, .data⟩ (by simp) rfl
        have g6 := hh.got 6 _ 21 rfl rfl l6 (by simp)
        rw [HI.out.known 6 (by decide) l6] at g6
        simp [hoK] at g6
        clear l4 l5 l6
        go_simp
        go_at_call 119
        refine (callsIn_wide.1 (counts_in ⟨kd, ns, fr, to, lo, hi⟩ HCK.out na K nc HKL.out sp m sc sa HM.out hl HV.out _ (HKA.out.below (HB2.out.trans (HI.out.bel.mono hz2))) (HSA.out.below (HB2.out.trans (HI.out.bel.mono hz2))))).mono ?_
        rintro e w' ⟨rfl, hb⟩
        have HZ := Lib.hid (HI.out.step 7 (by decide) hb (u := .bool (inR ((ownL ⟨kd, ns, fr, to, lo, hi⟩ sp).length : Int) lo hi)) (congrArg Value.bool HRES.out.symm))
        clear hb
        go_simp
        exact ⟨_, rfl, HZ.out⟩
      · simp only [List.getElem?_cons_zero, List.getElem?_cons_succ, Option.some.injEq] at ho
        subst ho
        have l7 : L'.getD 7 false = true := HD.out ⟨7, .data⟩ (by simp) rfl
        have g7 := hh.got 7 _ 22 rfl rfl l7 (by simp)
        rw [HI.out.known 7 (by decide) l7] at g7
        simp [hoK] at g7
        clear l7
        go_simp
        exact ⟨_, rfl, HI.out.step 8 (by decide) (Below.refl _ _) rfl⟩
      · simp only [List.getElem?_cons_zero, List.getElem?_cons_succ, Option.some.injEq] at ho
        subst ho
        go_simp
        exact ⟨_, rfl, HI.out.step 9 (by decide) (Below.refl _ _) rfl⟩
    case dv =>
      intro val W b' hI hh hbs
      have hb := has_all (by kernel_rfl) hh hbs
      have kn : ∀ q, q ≠ 0 → q < 10 → val q = hoK cb kd fr to lo hi (.slice na K nc) (.slice sa m sc) (.func (.func 119) #[] #[]) (.func (.func 120) #[] #[]) (holdsB ⟨kd, ns, fr, to, lo, hi⟩ sp) q := fun q hq hq2 => hI.known q hq (replT (by show q < 10; omega))
      obtain ⟨x0, hx0⟩ : ∃ v, v = val 0 := ⟨_, rfl⟩
      simp only [puts, ← hx0, kn 1 (by decide) (by decide), kn 2 (by decide) (by decide), kn 3 (by decide) (by decide), kn 4 (by decide) (by decide), kn 5 (by decide) (by decide), kn 6 (by decide) (by decide), kn 7 (by decide) (by decide), kn 8 (by decide) (by decide), kn 9 (by decide) (by decide), hoK] at hb
      have HB3 := Lib.hid (HB2.out.trans (hI.bel.mono hz2))
      clear hI kn hx0 hh hbs
      subst hb
      simp only [Act.put, List.setIfInBounds_toArray, List.set_cons_succ, List.set_cons_zero]
      go_wp2
      exact bodyPost_ret (v := .tuple #[.bool (holdsB ⟨kd, ns, fr, to, lo, hi⟩ sp), .int .i64 0]) (by simp [results, Tryz.results26, go_sem]) rfl ⟨by rw [HGE.out, if_pos HZ0.out], HB3.out⟩
end Go.Proofs.YtnbndciididpoaaGreat
