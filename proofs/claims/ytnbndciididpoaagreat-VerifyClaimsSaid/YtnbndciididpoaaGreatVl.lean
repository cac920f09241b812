/- verify.Check. Over this seat's program. (mk_Vl.py wrote this.) -/
import Derived.Test.YtnbndciididpoaaGreatVk
namespace Go.Proofs.YtnbndciididpoaaGreat
set_option linter.unusedVariables false
open Go.RowKit Go.Shelf

theorem kC_cases (k : Int) : (kC0 k = .nilFunc ∧ kC1 k = .nilFunc) ∨ ∃ f0 f1, kC0 k = .func f0 #[] #[] ∧ kC1 k = .func f1 #[] #[] := by
  unfold kC0 kC1
  by_cases h2 : k = 2
  · rw [if_pos h2, if_pos h2]; exact .inr ⟨_, _, rfl, rfl⟩
  · rw [if_neg h2, if_neg h2]
    by_cases h1 : k = 1
    · rw [if_pos h1, if_pos h1]; exact .inr ⟨_, _, rfl, rfl⟩
    · rw [if_neg h1, if_neg h1]; exact .inl ⟨rfl, rfl⟩
theorem info4b : (Tryz.prog.info? 4).map (fun i => (i.zero, i.size, i.bytes)) = some (some (.bool false), 1, 1) := by kernel_rfl
def rowB (n : Nat) (f : Nat → Bool) : List Value := (List.range n).map fun i => .bool (f i)
theorem rowB_length (n : Nat) (f : Nat → Bool) : (rowB n f).length = n := by simp [rowB]
theorem rowB_at {n : Nat} {f : Nat → Bool} {i : Nat} (h : i < n) : (rowB n f)[i]? = some (.bool (f i)) := by simp [rowB, h]
theorem rowB_congr {n : Nat} {f g : Nat → Bool} (h : ∀ i, i < n → f i = g i) : rowB n f = rowB n g := by
  apply List.ext_getElem
  · simp [rowB]
  · intro j h1 h2
    simp only [rowB, List.getElem_map, List.getElem_range]
    rw [h j (by simpa [rowB] using h1)]
/-- A block that holds a row of ints. -/
def BowAt (W : World) (b n : Nat) (f : Nat → Bool) : Prop := W.heap[b]? = some (.cells (rowB n f).toArray 4)
theorem BowAt.cell {W : World} {b n i : Nat} {f : Nat → Bool} (h : BowAt W b n f) (hi : i < n) : W.cell? ⟨b, i, none⟩ = some (.bool (f i)) ∧ W.frozen? ⟨b, i, none⟩ = false := by
  unfold BowAt at h
  have := rowB_at (f := f) hi
  constructor
  · simp [World.cell?, h]; simpa using this
  · simp [World.frozen?, h]
theorem BowAt.set {W : World} {b n i : Nat} {f : Nat → Bool} (h : BowAt W b n f) (hi : i < n) (x : Bool) : BowAt (W.setCell ⟨b, i, none⟩ (.bool x)) b n (fun j => if j = i then x else f j) := by
  have e0 : (W.setCell ⟨b, i, none⟩ (.bool x)).heap[b]? = some (.cells ((rowB n f).set i (.bool x)).toArray 4) := by
    unfold BowAt at h
    simp [World.setCell, Array.getElem?_modify, h]
  unfold BowAt
  rw [e0]
  have e1 : (rowB n f).set i (.bool x) = rowB n (fun j => if j = i then x else f j) := by
    apply List.ext_getElem
    · simp [rowB]
    · intro j h1 h2
      simp only [rowB, List.getElem_set, List.getElem_map, List.getElem_range]
      by_cases e : i = j
      · subst e; simp
      · rw [if_neg e, if_neg (fun h => e h.symm)]
  rw [e1]
theorem BowAt.congr {W : World} {b n : Nat} {f g : Nat → Bool} (h : BowAt W b n f) (e : ∀ i, i < n → f i = g i) : BowAt W b n g := by
  unfold BowAt at *; rw [h, rowB_congr e]
theorem make_bow (n : Nat) (hn : n ≤ 10000) (W : World) :
    (Instr.makeSlice 107 (.int .i64 (n : Int)) (.int .i64 (n : Int))).run Tryz.prog W = .ok (.slice (some ⟨W.heap.size, 0, none⟩) n n) (W.alloc (.cells (rowB n fun _ => false).toArray 4)) := by
  obtain ⟨i, h1, h2, h3, h4⟩ := info_parts info4b
  have hr := run_make (P := Tryz.prog) W 107 4 i (.bool false) Tryz.underlying107 h1 h2 .i64 .i64 n n (by omega) (by omega) (by rw [h4]; omega) (by omega)
  rw [hr, h3]
  have e : madeCells (Value.bool false).cells ((n : Int).toNat * 1) = (rowB n fun _ => false).toArray := by
    apply Array.toList_inj.1
    rw [Int.toNat_natCast, Nat.mul_one, show (Value.bool false).cells = #[.bool false] from rfl, toList_madeCells_one]
    simp [rowB, List.map_const']
  rw [e]
  simp

theorem cells6 {W : World} {b : Nat} {v0 v1 v2 v3 v4 v5 : Value} {t : TypeId} (h : W.heap[b]? = some (.cells #[v0, v1, v2, v3, v4, v5] t)) :
    W.cell? ⟨b, 0, none⟩ = some v0 ∧ W.cell? ⟨b, 1, none⟩ = some v1 ∧ W.cell? ⟨b, 2, none⟩ = some v2 ∧ W.cell? ⟨b, 3, none⟩ = some v3 ∧ W.cell? ⟨b, 4, none⟩ = some v4 ∧ W.cell? ⟨b, 5, none⟩ = some v5 := by
  refine ⟨?_, ?_, ?_, ?_, ?_, ?_⟩ <;> simp [World.cell?, h]
def CBox (W : World) (b : Nat) (v0 v1 v2 v3 v4 v5 : Value) : Prop := W.heap[b]? = some (.cells #[v0, v1, v2, v3, v4, v5] 50)
set_option maxRecDepth 100000 in
set_option maxHeartbeats 8000000 in
theorem vcheck_any (n : NetM) (c : Clm) (a1 a2 na : Option Addr) (c1 c2 nc : Nat) (hkw : (Lit.int .i64 c.kd).wf = true) (hnl : c.ns.length ≤ 100000) (w : World) (hp : PsAt w (.slice a1 n.ps.length c1) n.ps) (hs : SsAt w (.slice a2 n.ss.length c2) n.ss) (hK : KAt .i64 w (.slice na c.ns.length nc) c.ns) :
    Calls Tryz.prog 28 #[.agg #[.slice a1 n.ps.length c1, .int .i64 n.inp, .slice a2 n.ss.length c2], clmV c na nc] w fun e w' => e = .returned (.int .i64 (if ncheck n ≠ 0 then ncheck n else claimE n.ps.length c)) ∧ Below w.heap.size w w' := by
  obtain ⟨kd, ns, fr, to, lo, hi⟩ := c
  unfold clmV
  simp only at hkw hnl hK ⊢
  have HCH := Lib.hid (fun W (hb : Below w.heap.size w W) => ncheck_any n a1 a2 c1 c2 W (hp.below hb) (hs.below hb))
  obtain ⟨N, hN⟩ : ∃ N, N = n.ps.length := ⟨_, rfl⟩
  obtain ⟨SN, hSN⟩ : ∃ N, N = n.ss.length := ⟨_, rfl⟩
  obtain ⟨IN, hIN⟩ : ∃ N, N = n.inp := ⟨_, rfl⟩
  obtain ⟨K, hKl⟩ : ∃ K, K = ns.length := ⟨_, rfl⟩
  obtain ⟨E, hE⟩ : ∃ E, E = ncheck n := ⟨_, rfl⟩
  obtain ⟨R, hR⟩ : ∃ R, R = claimE n.ps.length ⟨kd, ns, fr, to, lo, hi⟩ := ⟨_, rfl⟩
  have HNOK := Lib.hid (fun h : ncheck n = 0 => netOk_of h)
  rw [← hR]
  rw [← hN, ← hSN, ← hIN] at HCH ⊢
  rw [← hE] at HCH HNOK ⊢
  rw [← hKl] at hK hnl ⊢
  rw [← hN] at hR
  have HR := Lib.hid hR
  have HKL := Lib.hid hKl
  have HKA := Lib.hid hK
  have HKW := Lib.hid hkw
  have HN := Lib.hid hN
  clear hp hs hN hSN hIN hKl hE hR hK hkw
  obtain ⟨Z, hZ⟩ : ∃ Z, Z = if E ≠ 0 then E else R := ⟨_, rfl⟩
  rw [← hZ]
  have HZ := Lib.hid hZ
  clear hZ
  go_enter Tryz.func28, Tryz.ntmps28
  go_upto_region 1 with (fail)
  have hbn : NetBox ((w.alloc (.cells #[.slice a1 N c1, .int .i64 IN, .slice a2 SN c2] 25)).alloc (.cells #[.int .i64 kd, .slice na K nc, .int .i64 fr, .int .i64 to, .int .i64 lo, .int .i64 hi] 50)) w.heap.size (.slice a1 N c1) IN (.slice a2 SN c2) := (Below.heap_alloc _ _ _ (by simp)).trans (alloc_new_at _ _ _ rfl)
  have hcn : CBox ((w.alloc (.cells #[.slice a1 N c1, .int .i64 IN, .slice a2 SN c2] 25)).alloc (.cells #[.int .i64 kd, .slice na K nc, .int .i64 fr, .int .i64 to, .int .i64 lo, .int .i64 hi] 50)) (w.heap.size + 1) (.int .i64 kd) (.slice na K nc) (.int .i64 fr) (.int .i64 to) (.int .i64 lo) (.int .i64 hi) := alloc_new_at _ _ _ (by simp)
  have hbl : Below w.heap.size w ((w.alloc (.cells #[.slice a1 N c1, .int .i64 IN, .slice a2 SN c2] 25)).alloc (.cells #[.int .i64 kd, .slice na K nc, .int .i64 fr, .int .i64 to, .int .i64 lo, .int .i64 hi] 50)) := ((Below.refl _ _).alloc (Nat.le_refl _) _).alloc (by simp) _
  obtain ⟨nb, hnb⟩ : ∃ x, x = w.heap.size := ⟨_, rfl⟩
  obtain ⟨cb, hcb⟩ : ∃ x, x = w.heap.size + 1 := ⟨_, rfl⟩
  rw [← hcb] at hcn ⊢
  have HBL := Lib.hid hbl
  have HCN0 := Lib.hid hcn
  rw [← hnb] at hbn ⊢
  have HBN0 := Lib.hid hbn
  have hnb0 : w.heap.size ≤ nb := by omega
  have hcb0 : w.heap.size ≤ cb := by omega
  clear hnb hcb hbl hcn
  generalize (w.alloc (.cells #[.slice a1 N c1, .int .i64 IN, .slice a2 SN c2] 25)).alloc (.cells #[.int .i64 kd, .slice na K nc, .int .i64 fr, .int .i64 to, .int .i64 lo, .int .i64 hi] 50) = W1 at *
  obtain ⟨q0, q1, q2⟩ := cells3f hbn
  clear hbn
  go_wp2_with (fail)
  go_at_call 71
  refine (HCH.out _ HBL.out).mono ?_
  rintro e W2 ⟨rfl, hb2⟩
  have HB2 := Lib.hid (HBL.out.trans (hb2.mono HBL.out.size))
  have HBN := Lib.hid (show NetBox W2 nb (.slice a1 N c1) IN (.slice a2 SN c2) from (hb2.block nb (lt_of_block HBN0.out)).trans HBN0.out)
  have HCN := Lib.hid (show CBox W2 cb (.int .i64 kd) (.slice na K nc) (.int .i64 fr) (.int .i64 to) (.int .i64 lo) (.int .i64 hi) from (hb2.block cb (lt_of_block HCN0.out)).trans HCN0.out)
  have hz2 := HB2.out.size
  clear hb2 q0 q1 q2 HBN0 HCN0
  by_cases hE0 : E = 0
  case neg =>
    have e1 : (E = 0) = False := by simp only [eq_iff_iff, iff_false]; exact hE0
    go_wp2
    go_ret
    have hz : Z = E := by rw [HZ.out, if_pos hE0]
    exact ⟨by rw [hz]; rfl, HB2.out⟩
  have HZR := Lib.hid (show Z = R from by rw [HZ.out, if_neg (by simp [hE0])])
  clear HZ
  subst hE0
  have HNO := Lib.hid (HNOK.out rfl)
  go_upto_region 4 with (fail)
  obtain ⟨ck, _⟩ := cells6 HCN.out
  have CK := Lib.hid ck
  have HCBL := Lib.hid (lt_of_block HCN.out)
  clear ck
  refine wp_region_late (KlR W2 (klK cb kd)) (by kernel_rfl) (by kernel_rfl) (by kernel_rfl) (by kernel_rfl) (KlR.init _) ?stp ?dn
  case stp =>
    intro L' val W i' o b' hs ho hlF hdd hI hh hlate
    have hi' := (List.getElem?_eq_some_iff.1 ho).1
    have hcs : i' = 0 ∨ i' = 1 ∨ i' = 2 ∨ i' = 3 ∨ i' = 4 ∨ i' = 5 ∨ i' = 6 ∨ i' = 7 ∨ i' = 8 ∨ i' = 9 := by simp at hi'; omega
    have HI := Lib.hid hI
    have HLF := Lib.hid hlF
    have HD := Lib.hid hdd
    have y1 := (HI.out.bel.cell (p := ⟨cb, 0, none⟩) HCBL.out).trans CK.out
    clear hi' hs hI hlF hdd
    rcases hcs with rfl | rfl | rfl | rfl | rfl | rfl | rfl | rfl | rfl | rfl
    · simp only [List.getElem?_cons_zero, Option.some.injEq] at ho
      subst ho
      go_simp
      go_at_call 69
      refine (kinds_any _).mono ?_
      rintro e w' ⟨kb, rfl, _, hm, hb⟩
      have HZ := Lib.hid (HI.out.zero hm hb)
      clear hm hb
      go_simp
      exact ⟨_, rfl, HZ.out⟩
    · simp only [List.getElem?_cons_zero, List.getElem?_cons_succ, Option.some.injEq] at ho
      subst ho
      have k3 := hh.kept 3 (by simp)
      simp at k3
      go_simp
      exact ⟨_, rfl, HI.out.skip 1 (by decide) (by simp) (by simp) _ rfl⟩
    · simp only [List.getElem?_cons_zero, List.getElem?_cons_succ, Option.some.injEq] at ho
      subst ho
      have l1 : L'.getD 1 false = true := HD.out ⟨1, .data⟩ (by simp) rfl
      have g1 := hh.got 1 _ 18 rfl rfl l1 (by simp)
      rw [HI.out.known 1 (by decide) l1] at g1
      simp [klK] at g1
      clear l1
      go_simp
      exact ⟨_, rfl, HI.out.skip 2 (by decide) (by simp) (by simp) _ rfl⟩
    · simp only [List.getElem?_cons_zero, List.getElem?_cons_succ, Option.some.injEq] at ho
      subst ho
      have l0 : L'.getD 0 false = true := HD.out ⟨0, .data⟩ (by simp) rfl
      have g0 := hh.got 0 _ 17 rfl rfl l0 (by simp)
      have l2 : L'.getD 2 false = true := HD.out ⟨2, .data⟩ (by simp) rfl
      have g2 := hh.got 2 _ 19 rfl rfl l2 (by simp)
      rw [HI.out.known 2 (by decide) l2] at g2
      simp [klK] at g2
      obtain ⟨kb, ekb, hmk⟩ := HI.out.m0 l0 HLF.out
      rw [ekb] at g0
      simp at g0
      have hlk := kinds_look hmk kd HKW.out
      clear hmk ekb l0 l2
      go_simp
      exact ⟨_, rfl, HI.out.skip 3 (by decide) (by simp) (by simp) _ rfl⟩
    · simp only [List.getElem?_cons_zero, List.getElem?_cons_succ, Option.some.injEq] at ho
      subst ho
      have l3 : L'.getD 3 false = true := HD.out ⟨3, .data⟩ (by simp) rfl
      have g3 := hh.got 3 _ 20 rfl rfl l3 (by simp)
      rw [HI.out.known 3 (by decide) l3] at g3
      simp [klK] at g3
      have H4 := Lib.hid l3
      clear l3
      go_simp
      exact ⟨_, rfl, HI.out.skip 4 (by decide) (fun _ => H4.out) (by simp) _ rfl⟩
    · simp only [List.getElem?_cons_zero, List.getElem?_cons_succ, Option.some.injEq] at ho
      subst ho
      have l4 : L'.getD 4 false = true := HD.out ⟨4, .data⟩ (by simp) rfl
      have g4 := hh.got 4 _ 16 rfl rfl l4 (by simp)
      rw [HI.out.known 4 (by decide) l4] at g4
      simp [klK] at g4
      have H4 := Lib.hid l4
      clear l4
      go_simp
      exact ⟨_, rfl, HI.out.skip 5 (by decide) (by simp) (fun _ => H4.out) _ rfl⟩
    · simp only [List.getElem?_cons_zero, List.getElem?_cons_succ, Option.some.injEq] at ho
      subst ho
      have l4 : L'.getD 4 false = true := HD.out ⟨4, .data⟩ (by simp) rfl
      have g4 := hh.got 4 _ 16 rfl rfl l4 (by simp)
      rw [HI.out.known 4 (by decide) l4] at g4
      simp [klK] at g4
      clear l4
      go_simp
      exact ⟨_, rfl, HI.out.skip 6 (by decide) (by simp) (by simp) _ rfl⟩
    · simp only [List.getElem?_cons_zero, List.getElem?_cons_succ, Option.some.injEq] at ho
      subst ho
      go_simp
      exact ⟨_, rfl, HI.out.seven _ _⟩
    · simp only [List.getElem?_cons_zero, List.getElem?_cons_succ, Option.some.injEq] at ho
      subst ho
      have l7 : L'.getD 7 false = true := HD.out ⟨7, .data⟩ (by simp) rfl
      have g7 := hh.got 7 _ 6 rfl rfl l7 (by simp)
      have l5 : L'.getD 5 false = true := HD.out ⟨5, .data⟩ (by simp) rfl
      have g5 := hh.got 5 _ 21 rfl rfl l5 (by simp)
      rw [HI.out.known 5 (by decide) l5] at g5
      simp [klK] at g5
      obtain ⟨g, d0, d1, e7, _, hgc⟩ := HI.out.m7 l7
      rw [e7] at g7
      simp at g7
      obtain ⟨q0, q1, q2, q3⟩ := cells2 hgc
      have HE := Lib.hid (HI.out.eight l5 l7 e7 undef (kC0 kd) (kC1 kd))
      clear l5 l7 e7 hgc
      rcases kC_cases kd with ⟨e0, e1⟩ | ⟨f0, f1, e0, e1⟩
      · rw [e0, e1] at g5 HE
        clear e0 e1
        go_simp
        exact ⟨undef, HE.out⟩
      · rw [e0, e1] at g5 HE
        clear e0 e1
        go_simp
        exact ⟨undef, HE.out⟩
    · simp only [List.getElem?_cons_zero, List.getElem?_cons_succ, Option.some.injEq] at ho
      subst ho
      have l6 : L'.getD 6 false = true := HD.out ⟨6, .data⟩ (by simp) rfl
      have g6 := hh.got 6 _ 22 rfl rfl l6 (by simp)
      rw [HI.out.known 6 (by decide) l6] at g6
      simp [klK] at g6
      clear l6
      go_simp
      exact ⟨_, rfl, HI.out.skip 9 (by decide) (by simp) (by simp) _ rfl⟩
  case dn =>
    intro val W b' hI hb
    have kn : ∀ q, [0, 7, 8].contains q = false → q < 10 → val q = klK cb kd q := fun q hq hq2 => hI.known q hq (replT (by show q < 10; omega))
    obtain ⟨x0, hx0⟩ : ∃ v, v = val 0 := ⟨_, rfl⟩
    obtain ⟨g7, d0, d1, e7, _, _⟩ := hI.m7 (by simp)
    simp only [puts, e7, ← hx0, kn 1 (by decide) (by decide), kn 2 (by decide) (by decide), kn 3 (by decide) (by decide), kn 4 (by decide) (by decide), kn 5 (by decide) (by decide), kn 6 (by decide) (by decide), kn 9 (by decide) (by decide), klK] at hb
    have HB3 := Lib.hid (HB2.out.trans (hI.bel.mono hz2))
    have HBN3 := Lib.hid (show NetBox W nb (.slice a1 N c1) IN (.slice a2 SN c2) from (hI.bel.block nb (lt_of_block HBN.out)).trans HBN.out)
    have HCN3 := Lib.hid (show CBox W cb (.int .i64 kd) (.slice na K nc) (.int .i64 fr) (.int .i64 to) (.int .i64 lo) (.int .i64 hi) from (hI.bel.block cb (lt_of_block HCN.out)).trans HCN.out)
    clear hI kn hx0 e7 HB2 HBN HCN CK HCBL
    subst hb
    simp only [Act.put, List.setIfInBounds_toArray, List.set_cons_succ, List.set_cons_zero]
    obtain ⟨q0, q1, q2, q3, q4, q5⟩ := cells6 HCN3.out
    obtain ⟨n0, n1, n2⟩ := cells3f HBN3.out
    by_cases hkd : kd = 1 ∨ kd = 2
    case neg =>
      have hRv : Z = 2 := by rw [HZR.out, HR.out]; unfold claimE; rw [if_neg (fun h => hkd h.1)]
      have hkn : kN kd = false := by unfold kN; simp [hkd]
      rw [hkn]
      have HRV := Lib.hid hRv
      clear hkd hkn hRv
      go_wp2
      go_ret
      exact ⟨by rw [HRV.out]; rfl, HB3.out⟩
    have hkn : kN kd = true := by unfold kN; simp [hkd]
    rw [hkn]
    have HKD := Lib.hid hkd
    clear hkn hkd
    by_cases hK0 : K = 0
    · have hRv : Z = 2 := by rw [HZR.out, HR.out]; unfold claimE; rw [if_neg (fun h => h.2 (List.eq_nil_of_length_eq_zero (by rw [← HKL.out]; exact hK0)))]
      have HRV := Lib.hid hRv
      clear hRv
      subst hK0
      go_wp2
      go_ret
      exact ⟨by rw [HRV.out]; rfl, HB3.out⟩
    have e0 : ((K : Int) = 0) = False := by simp only [eq_iff_iff, iff_false]; omega
    have e00 : ((K : Int) == 0) = false := by rw [beq_eq_false_iff_ne]; omega
    have HNE := Lib.hid (show ns ≠ [] from fun h => hK0 (by rw [HKL.out, h]; rfl))
    have hNl : N ≤ 1024 := by rw [HN.out]; exact HNO.out.p1
    have hmk := fun W => make_bow N (by omega) W
    go_upto_region 8 with (fail)
    have hr0 : BowAt (W.alloc (.cells (rowB N fun _ => false).toArray 4)) W.heap.size N (fun _ => false) := alloc_new_at _ _ _ rfl
    have hb0 := HB3.out.alloc HB3.out.size (.cells (rowB N fun _ => false).toArray 4)
    have hnb4 : NetBox (W.alloc (.cells (rowB N fun _ => false).toArray 4)) nb (.slice a1 N c1) IN (.slice a2 SN c2) := (Below.heap_alloc _ _ _ (lt_of_block HBN3.out)).trans HBN3.out
    have hcb4 : CBox (W.alloc (.cells (rowB N fun _ => false).toArray 4)) cb (.int .i64 kd) (.slice na K nc) (.int .i64 fr) (.int .i64 to) (.int .i64 lo) (.int .i64 hi) := (Below.heap_alloc _ _ _ (lt_of_block HCN3.out)).trans HCN3.out
    have hn1 : nb ≠ W.heap.size := by have := lt_of_block HBN3.out; omega
    have hn2 : cb ≠ W.heap.size := by have := lt_of_block HCN3.out; omega
    have hwl : w.heap.size ≤ W.heap.size := HB3.out.size
    obtain ⟨hb, hhb⟩ : ∃ x, x = W.heap.size := ⟨_, rfl⟩
    rw [← hhb] at hr0 hn1 hn2 hwl ⊢
    have HR0 := Lib.hid hr0
    have HB0 := Lib.hid hb0
    have HN4 := Lib.hid hnb4
    have HC4 := Lib.hid hcb4
    clear hhb hr0 hb0 hnb4 hcb4 q0 q1 q2 q3 q4 q5 n0 n1 n2 hmk
    generalize W.alloc (.cells (rowB N fun _ => false).toArray 4) = W4 at *
    obtain ⟨q0, q1, q2, q3, q4, q5⟩ := cells6 HC4.out
    go_upto_region 9 with (fail)
    clear q0 q1 q2 q3 q4 q5 e0 e00
    go_loopw [38] (fun st wr => ∃ k : Nat, k ≤ K ∧ st = .int .i64 k ∧ BowAt wr hb N (fun i => (ns.take k).contains (i : Int)) ∧ NetBox wr nb (.slice a1 N c1) IN (.slice a2 SN c2) ∧ CBox wr cb (.int .i64 kd) (.slice na K nc) (.int .i64 fr) (.int .i64 to) (.int .i64 lo) (.int .i64 hi) ∧ Below w.heap.size w wr ∧ Hid (nsE N [] ns = nsE N (ns.take k) (ns.drop k))) (fun st _ => K - (intOf st).toNat)
    case atStart => exact ⟨0, Nat.zero_le _, rfl, HR0.out.congr (fun i _ => by simp), HN4.out, HC4.out, HB0.out, Lib.hid (by simp)⟩
    case round =>
      obtain ⟨k, hk, rfl, hr, hnn, hcc, hbb, HA⟩ := hrel
      have HRW := Lib.hid hr
      have HNB := Lib.hid hnn
      have HCB := Lib.hid hcc
      have HB := Lib.hid hbb
      clear hr hnn hcc hbb
      have hi0 : (0 : Int) ≤ (k : Int) := Int.natCast_nonneg _
      have HCL := Lib.hid (fun h : nsE N [] ns ≠ 0 => show Z = nsE N [] ns from by rw [HZR.out, HR.out]; unfold claimE; rw [if_pos ⟨HKD.out, HNE.out⟩, if_pos h])
      by_cases hlt : k < K
      · obtain ⟨x, hx⟩ : ∃ x, ns[k]? = some x := ⟨_, List.getElem?_eq_getElem (by rw [← HKL.out]; exact hlt)⟩
        have hi1 : (k : Int) < (K : Int) := by omega
        obtain ⟨b, off, rfl, hbl, u1⟩ := (HKA.out.below HB.out).at hx
        have HST := Lib.hid (nsE_step (nn := N) hx)
        have HX := Lib.hid hx
        obtain ⟨n0, n1, n2⟩ := cells3f HNB.out
        clear hx
        cases hin : inR x 0 ((N : Int) - 1) with
        | false =>
          have hv : nsE N [] ns = 3 := by rw [HA.out, HST.out, if_pos hin]
          have HRV := Lib.hid (show Z = 3 from by rw [HCL.out (by rw [hv]; decide), hv])
          clear hv
          go_wp2_with (go_at_call 72; refine (vamong_any _ _ _ _).mono ?_; rintro e w' ⟨rfl, rfl⟩; rw [hin])
          go_ret
          exact ⟨by rw [HRV.out]; rfl, HB.out⟩
        | true =>
          have hxr : 0 ≤ x ∧ x ≤ (N : Int) - 1 := by simpa [inR] using hin
          obtain ⟨X, rfl⟩ := Int.eq_ofNat_of_zero_le hxr.1
          have hX : X < N := by omega
          have hXi : (X : Int) < (N : Int) := by omega
          have hX0 : (0 : Int) ≤ (X : Int) := Int.natCast_nonneg _
          obtain ⟨y0, f0⟩ := HRW.out.cell (i := X) hX
          go_upto_region 13 with (go_at_call 72; refine (vamong_any _ _ _ _).mono ?_; rintro e w' ⟨rfl, rfl⟩; rw [hin])
          clear n0 n1 n2 u1
          cases hh : (ns.take k).contains (X : Int) with
          | true =>
            have hv : nsE N [] ns = 5 := by rw [HA.out, HST.out, if_neg (by rw [hin]; simp), if_pos hh]
            have HRV := Lib.hid (show Z = 5 from by rw [HCL.out (by rw [hv]; decide), hv])
            rw [hh] at y0
            clear hv hh
            go_wp2
            go_ret
            exact ⟨by rw [HRV.out]; rfl, HB.out⟩
          | false =>
            have HA2 := Lib.hid (show nsE N [] ns = nsE N (ns.take (k + 1)) (ns.drop (k + 1)) from by rw [HA.out, HST.out, if_neg (by rw [hin]; simp), if_neg (by rw [hh]; simp)])
            rw [hh] at y0
            have HR1 := Lib.hid ((HRW.out.set (i := X) hX true).congr (g := fun i => (ns.take (k + 1)).contains (i : Int)) (fun i _ => by
              rw [List.take_add_one, HX.out]
              by_cases e : i = X
              · subst e; simp
              · have e2 : ¬ ((i : Int) = (X : Int)) := by omega
                simp [e, e2]))
            have HB1 := Lib.hid (Below.setCell (p := ⟨hb, X, none⟩) HB.out hwl (.bool true))
            have HN1 := Lib.hid (show NetBox (wr.setCell ⟨hb, X, none⟩ (.bool true)) nb (.slice a1 N c1) IN (.slice a2 SN c2) from (setCell_o hn1).trans HNB.out)
            have HC1 := Lib.hid (show CBox (wr.setCell ⟨hb, X, none⟩ (.bool true)) cb (.int .i64 kd) (.slice _ K nc) (.int .i64 fr) (.int .i64 to) (.int .i64 lo) (.int .i64 hi) from (setCell_o hn2).trans HCB.out)
            clear hh hin hxr
            go_wp2
            go_roundw
            case rel => exact ⟨k + 1, by omega, by go_num, HR1.out, HN1.out, HC1.out, HB1.out, HA2⟩
            case measure => simp [intOf]; omega
      · have hz : nsE N [] ns = 0 := by
          rw [HA.out, show k = ns.length from by have := HKL.out; omega, List.drop_length]; rfl
        have HZ2 := Lib.hid (show Z = if fr < 0 ∨ to < fr ∨ 10000 < to ∨ lo < 0 ∨ hi < 0 then 3 else 0 from by
          rw [HZR.out, HR.out]; unfold claimE; rw [if_pos ⟨HKD.out, HNE.out⟩, if_neg (by rw [hz]; simp)])
        obtain ⟨q0, q1, q2, q3, q4, q5⟩ := cells6 HCB.out
        clear hz HCL
        by_cases b1 : fr < 0
        · have HRV := Lib.hid (show Z = 3 from by rw [HZ2.out, if_pos (.inl b1)])
          go_wp2
          go_ret
          exact ⟨by rw [HRV.out]; rfl, HB.out⟩
        by_cases b2 : to < fr
        · have HRV := Lib.hid (show Z = 3 from by rw [HZ2.out, if_pos (.inr (.inl b2))])
          go_wp2
          go_ret
          exact ⟨by rw [HRV.out]; rfl, HB.out⟩
        by_cases b3 : 10000 < to
        · have HRV := Lib.hid (show Z = 3 from by rw [HZ2.out, if_pos (.inr (.inr (.inl b3)))])
          go_wp2
          go_ret
          exact ⟨by rw [HRV.out]; rfl, HB.out⟩
        by_cases b4 : lo < 0
        · have HRV := Lib.hid (show Z = 3 from by rw [HZ2.out, if_pos (.inr (.inr (.inr (.inl b4))))])
          go_wp2
          go_ret
          exact ⟨by rw [HRV.out]; rfl, HB.out⟩
        by_cases b5 : hi < 0
        · have HRV := Lib.hid (show Z = 3 from by rw [HZ2.out, if_pos (.inr (.inr (.inr (.inr b5))))])
          go_wp2
          go_ret
          exact ⟨by rw [HRV.out]; rfl, HB.out⟩
        · have HRV := Lib.hid (show Z = 0 from by rw [HZ2.out, if_neg (by omega)])
          go_wp2
          go_ret
          exact ⟨by rw [HRV.out]; rfl, HB.out⟩
end Go.Proofs.YtnbndciididpoaaGreat
