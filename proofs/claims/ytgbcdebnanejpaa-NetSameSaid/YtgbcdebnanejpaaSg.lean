/- The walk of the law NetSame. Over this seat's program. (mk_nsa.py wrote this.) -/
import Derived.Test.YtgbcdebnanejpaaS2
import Derived.Test.YtgbcdebnanejpaaS1
import Derived.Test.YtgbcdebnanejpaaOx
import Derived.Test.YtgbcdebnanejpaaWk
namespace Go.Proofs.Ytgbcdebnanejpaa.netSame
open Go.ChangeShapes Go.WideShapes Go.ChangeAt Go.RowKit Go.Proofs.Ytgbcdebnanejpaa.Rn
set_option linter.unusedVariables false

def samK (u14 : Value) (b off m c bp offp np cp j z : Nat) (X1 Y : Int) : Nat → Value
  | 0 => u14
  | 1 => .slice (some ⟨b, off, none⟩) m c
  | 2 => .int .i64 j
  | 3 => .pointer (some ⟨b, off + j * 2, none⟩)
  | 4 => .pointer (some ⟨b, off + j * 2, none⟩)
  | 5 => .int .i64 X1
  | 6 => .slice (some ⟨bp, offp, none⟩) np cp
  | 7 => .slice (some ⟨b, off, none⟩) m c
  | 8 => .int .i64 j
  | 9 => .pointer (some ⟨b, off + j * 2, none⟩)
  | 10 => .pointer (some ⟨b, off + j * 2 + 1, none⟩)
  | 11 => .int .i64 z
  | 12 => .pointer (some ⟨bp, offp + z, none⟩)
  | 13 => .int .i64 Y
  | 14 => .agg #[.int .i64 X1, .int .i64 Y]
  | _ => undef
theorem runB_parts {n : NetM} {l : List Evt} {T : Int} (h : runB n l T = true) : l.length ≤ 300 ∧ 0 ≤ T ∧ T ≤ 300 ∧ runE n l T = 0 := by
  simp [runB] at h
  obtain ⟨⟨⟨⟨_, h1⟩, h2⟩, h3⟩, h4⟩ := h
  exact ⟨h1, h2, h3, h4⟩

set_option maxRecDepth 100000 in
set_option maxHeartbeats 8000000 in
theorem walk (n : NetM) (p : List Int) (l : List Evt) (a1 a2 ap al : Option Addr) (c1 c2 cp cl : Nat) (T : Int) (w : World) (hp : PsAt w (.slice a1 n.ps.length c1) n.ps) (hs : SsAt w (.slice a2 n.ss.length c2) n.ss) (ho : IntsAt w (.slice ap p.length cp) p) (hi : EvsC w (.slice al l.length cl) l) :
    Calls Try.prog 12 #[.agg #[.slice a1 n.ps.length c1, .int .i64 n.inp, .slice a2 n.ss.length c2], .slice ap p.length cp, .slice al l.length cl, .int .i64 T] w fun e w' => e = .returned (.bool true) ∧ Below w.heap.size w w' := by
  have hrun := fun W (hb : Below w.heap.size w W) => runLaw_any n l a1 a2 al c1 c2 cl T W (hp.below hb) (hs.below hb) (hi.below hb)
  unfold RunBOut at hrun
  have hren := fun W (hb : Below w.heap.size w W) => ren_all n p a1 a2 ap c1 c2 cp W (hp.below hb) (hs.below hb) (ho.below' hb)
  by_cases hgood : runB n l T = true ∧ renE n p = 0
  · obtain ⟨hB, hX⟩ := hgood
    obtain ⟨hl3, hT0, hT1, hE0⟩ := runB_parts hB
    obtain ⟨q1, q2, q3, q4⟩ := same_ren hE0 hX
    have hsh := short_of_runE hE0
    have hRN : renR n p = renN n p := by unfold renR; rw [if_pos hX]
    have hRL : (renN n p).ps.length = n.ps.length := ren_len
    have hRR : runR (renN n p) l T = runO (renN n p) l T.toNat := by unfold runR; rw [if_pos q3]
    rw [hB] at hrun
    rw [hX, hRN] at hren
    obtain ⟨m, hm⟩ : ∃ m, renN n p = m := ⟨_, rfl⟩
    rw [hm] at hren q3 q4 hRR
    obtain ⟨S, hS⟩ : ∃ S, runO n l T.toNat = S := ⟨_, rfl⟩
    rw [hS] at hrun q2 q4 hsh
    have HRUN := Lib.hid hrun
    have HREN := Lib.hid hren
    have HP := Lib.hid hp
    have HS := Lib.hid hs
    have HO := Lib.hid ho
    have HI := Lib.hid hi
    have Q1 := Lib.hid q1
    have Q2 := Lib.hid q2
    have Q3 := Lib.hid q3
    have Q4 := Lib.hid q4
    have HRR := Lib.hid hRR
    have HSH := Lib.hid hsh
    clear hrun hren hp hs ho hi hB hE0 hX hRN hRL hm hS q1 q2 q3 q4 hRR hsh
    go_enter Try.func12, Try.ntmps12
    go_upto_region 5 with (first | (go_at_call 46; refine (HRUN.out _ ((Below.refl _ _).alloc (Nat.le_refl _) _)).mono ?_; rintro e w1 ⟨v9, rfl, hv9, hb1⟩; have hbx1 : NetBox w1 w.heap.size (.slice a1 n.ps.length c1) n.inp (.slice a2 n.ss.length c2) := (hb1.block _ (by simp)).trans (alloc_new_at _ _ _ rfl); obtain ⟨_, _, _⟩ := cells3 hbx1; have HBX := Lib.hid hbx1; have hzb := lt_of_block hbx1; have B1 := Lib.hid (((Below.refl _ _).alloc (Nat.le_refl _) _).trans (hb1.mono (by simp)) : Below w.heap.size w w1); have HV9 := Lib.hid (hv9 rfl); clear hb1 hbx1 hv9) | (go_at_call 30; refine (HREN.out _ B1.out).mono ?_; rintro e w3 ⟨v1, rfl, ⟨p1, r1, p2, r2, rfl, hp1, hs1⟩, hb3⟩))
    have hW3 : Below w1.heap.size w1 (w3.alloc (.cells #[.slice p1 m.ps.length r1, .int .i64 m.inp, .slice p2 m.ss.length r2] 25)) := hb3.alloc hb3.size _
    have hk3 : NetBox (w3.alloc (.cells #[.slice p1 m.ps.length r1, .int .i64 m.inp, .slice p2 m.ss.length r2] 25)) w3.heap.size (.slice p1 m.ps.length r1) m.inp (.slice p2 m.ss.length r2) := alloc_new_at _ _ _ rfl
    have hp3 := hp1.below ((Below.refl w3.heap.size w3).alloc (Nat.le_refl _) (.cells #[.slice p1 m.ps.length r1, .int .i64 m.inp, .slice p2 m.ss.length r2] 25))
    have hs3 := hs1.below ((Below.refl w3.heap.size w3).alloc (Nat.le_refl _) (.cells #[.slice p1 m.ps.length r1, .int .i64 m.inp, .slice p2 m.ss.length r2] 25))
    have hsz3 : w3.heap.size < (w3.alloc (.cells #[.slice p1 m.ps.length r1, .int .i64 m.inp, .slice p2 m.ss.length r2] 25)).heap.size := by simp
    generalize w3.alloc (.cells #[.slice p1 m.ps.length r1, .int .i64 m.inp, .slice p2 m.ss.length r2] 25) = W3 at *
    have hz13 := hb3.size
    generalize w3.heap.size = B3 at *
    have h03 : Below w.heap.size w W3 := B1.out.trans (hW3.mono B1.out.size)
    obtain ⟨_, _, _, _, _, _⟩ := cells3f hk3
    have hr := run_any m l p1 p2 al r1 r2 cl T W3 hp3 hs3 (HI.out.below h03)
    unfold NRunOut at hr
    rw [Q3.out, HRR.out] at hr
    have HR := Lib.hid hr
    have H03 := Lib.hid h03
    have HW3 := Lib.hid hW3
    clear hr h03 hW3 hk3 hp3 hs3 hb3 hp1 hs1
    go_upto_region 6 with (go_at_call 22; refine HR.out.mono ?_; rintro e w4 ⟨v13, rfl, hv13, hb4⟩)
    have B4 := Lib.hid (H03.out.trans (hb4.mono H03.out.size) : Below w.heap.size w w4)
    have B14 := Lib.hid (HW3.out.trans (hb4.mono HW3.out.size) : Below w1.heap.size w1 w4)
    have hz4 := B4.out.size
    have hz14 := B14.out.size
    have hS0 : (0 : Int) ≤ (S.length : Int) := Int.natCast_nonneg _
    obtain ⟨a9, c9, hf9⟩ := HV9.out.form
    subst hf9
    obtain ⟨a13, c13, hf13⟩ := hv13.form
    have HV13 := Lib.hid hv13
    have HF13 := Lib.hid hf13
    clear hb4 hv13 hf13
    obtain ⟨mS, hmS⟩ : ∃ mS, S.length = mS := ⟨_, rfl⟩
    obtain ⟨np, hnp⟩ : ∃ np, p.length = np := ⟨_, rfl⟩
    rw [hmS] at hS0 ⊢
    rw [hnp]
    have HM := Lib.hid hmS
    have HNP := Lib.hid hnp
    have hnp0 : (0 : Int) ≤ (np : Int) := Int.natCast_nonneg _
    clear hmS hnp
    go_wp2
    go_loopw [14, 15] (fun s14 s15 wr => ∃ j : Nat, j ≤ mS ∧ s15 = .int .i64 j ∧ wr.ownsRow w4.heap.size 85 2 s14 j (evCs ((renO p S).take j)) ∧ Below w4.heap.size w4 wr) (fun _ s15 _ => mS - (intOf s15).toNat)
    case atStart => exact ⟨0, Nat.zero_le _, rfl, World.ownsRow_nil _ _ _ _, Below.refl _ _⟩
    case round =>
      obtain ⟨j, hj, rfl, hrow, hb⟩ := hrel
      have hj0 : (0 : Int) ≤ (j : Int) := Int.natCast_nonneg _
      have hBw := hb.size
      by_cases hlt : j < mS
      · have hj1 : ((j : Int) < (mS : Int)) = True := by simp; omega
        have hj2 : (j : Int) < (mS : Int) := by omega
        obtain ⟨x, hx⟩ : ∃ x, S[j]? = some x := ⟨_, List.getElem?_eq_getElem (by rw [HM.out]; exact hlt)⟩
        obtain ⟨q5, q6⟩ := Q2.out x (List.mem_of_getElem? hx)
        have hv := HV9.out
        rw [HM.out] at hv
        obtain ⟨b, off, hab, hbl, hcc⟩ := hv.at hx
        have hab : a9 = some ⟨b, off, none⟩ := by simpa using hab
        subst hab
        obtain ⟨X1, X2⟩ := x
        obtain ⟨z, rfl⟩ : ∃ z : Nat, X2 = z := ⟨X2.toNat, by simp only at q5; omega⟩
        simp only at q5 q6
        rw [HNP.out] at q6
        have hzn : z < np := by omega
        have z1 : ((z : Int) < 0) = False := eq_false (by omega)
        have z2 : ((z : Int) ≥ (np : Int)) = False := eq_false (by omega)
        have z3 : ((np : Int) ≤ (z : Int)) = False := eq_false (by omega)
        obtain ⟨bp, offp, hap, hbpl, hpc⟩ : ∃ bp offp, ap = some ⟨bp, offp, none⟩ ∧ bp < w.heap.size ∧ w.cell? ⟨bp, offp + z, none⟩ = some (.int .i64 (toI p z)) := by
          rcases HO.out with ⟨h1, h2⟩ | ⟨bp, offp, cap, h1, h2⟩
          · rw [h2] at HNP; exact absurd HNP.out (by simp; omega)
          · have h3 := h2 z (by rw [HNP.out]; exact hzn)
            simp at h1
            exact ⟨bp, offp, h1.1, World.block_lt_of_cell? w _ h3, by unfold toI; rw [Int.toNat_natCast]; exact h3⟩
        subst hap
        have HPC := Lib.hid hpc
        have hbB : b < w4.heap.size := by omega
        have hbpB : bp < w4.heap.size := by omega
        have hBB := hb
        obtain ⟨t1, t2⟩ := hcc.below (B14.out.trans (hb.mono hz14)) hbl
        simp only at t1 t2
        have t3 : wr.cell? ⟨bp, offp + z, none⟩ = some (.int .i64 (toI p z)) := (World.cell?_of_block ((B4.out.trans (hb.mono hz4)).block bp hbpl)).trans HPC.out
        have HT1 := Lib.hid t1
        have HT2 := Lib.hid t2
        have HT3 := Lib.hid t3
        have hbr : b < wr.heap.size := by omega
        have hbpr : bp < wr.heap.size := by omega
        obtain ⟨va, vc, rfl⟩ := own_sl hrow
        have htk : (renO p S).take (j + 1) = (renO p S).take j ++ [⟨X1, toI p z⟩] := by
          have h1 : (renO p S)[j]? = some ⟨X1, toI p z⟩ := by unfold renO; rw [List.getElem?_map, hx]; rfl
          rw [List.take_add_one, h1]; rfl
        have HTK := Lib.hid htk
        have HROW := Lib.hid hrow
        have HBB := Lib.hid hb
        have hj6 : j ≤ 65536 := by have := HSH.out; have := HM.out; omega
        clear hx q5 q6 hv hcc hpc hrow hb hBB htk
        go_upto_region 12 with (fail)
        have y1 : wr.cell? ⟨b, off + j * 2, none⟩ = some (.int .i64 X1) := HT1.out
        have y2 : wr.cell? ⟨b, off + j * 2 + 1, none⟩ = some (.int .i64 (z : Int)) := HT2.out
        have y3 : wr.cell? ⟨bp, offp + z, none⟩ = some (.int .i64 (toI p z)) := HT3.out
        clear t1 t2 t3
        refine wp_region_late (ApR wr w4.heap.size j 15 ((renO p S).take j) ⟨X1, toI p z⟩ (.slice va j vc) (samK (.slice va j vc) b off mS c9 bp offp np cp j z X1 (toI p z))) (by kernel_rfl) (by kernel_rfl) (by kernel_rfl) (by kernel_rfl) (ApR.init _ hBw HROW.out) ?stp ?dn
        case dn =>
          intro val W b' hI hb
          have hoa := hI.oa (by simp)
          have hea := hI.ea (by simp)
          have kn : ∀ q, q < 15 → val q = (samK (.slice va j vc) b off mS c9 bp offp np cp j z X1 (toI p z)) q := fun q hq => hI.known q hq (replT (by show q < 18; omega))
          obtain ⟨va', vc', hva⟩ := own_sl hoa.1
          obtain ⟨vp, hvp⟩ : ∃ v, v = val 15 := ⟨_, rfl⟩
          rw [hva] at hoa hea
          simp only [puts, hva, hea, ← hvp, kn 0 (by decide), kn 1 (by decide), kn 2 (by decide), kn 3 (by decide), kn 4 (by decide), kn 5 (by decide), kn 6 (by decide), kn 7 (by decide), kn 8 (by decide), kn 9 (by decide), kn 10 (by decide), kn 11 (by decide), kn 12 (by decide), kn 13 (by decide), kn 14 (by decide), samK] at hb
          have HOA := Lib.hid hoa
          have HBL := Lib.hid hI.bel
          have HOT := Lib.hid hI.oth
          have hzW := hI.bel.size
          clear hI hoa hea kn hva hvp
          subst hb
          simp only [Act.put, List.setIfInBounds_toArray, List.set_cons_succ, List.set_cons_zero]
          go_wp2
          go_roundw
          case rel => exact ⟨j + 1, by omega, by go_num, by rw [HTK.out]; exact HOA.out.1, HBB.out.trans (HBL.out.mono (Nat.le_refl _))⟩
          case measure => simp [intOf]; omega
        case stp =>
          intro L val W i' o b' hs ho hlF hdd hI hh hlate
          have hi' := (List.getElem?_eq_some_iff.1 ho).1
          have hcs : i' = 0 ∨ i' = 1 ∨ i' = 2 ∨ i' = 3 ∨ i' = 4 ∨ i' = 5 ∨ i' = 6 ∨ i' = 7 ∨ i' = 8 ∨ i' = 9 ∨ i' = 10 ∨ i' = 11 ∨ i' = 12 ∨ i' = 13 ∨ i' = 14 ∨ i' = 15 ∨ i' = 16 ∨ i' = 17 := by simp at hi'; omega
          have hLs : 15 + 2 < L.size := by simp at hs; omega
          have HI := Lib.hid hI
          have HLF := Lib.hid hlF
          have HD := Lib.hid hdd
          have e1 : W.cell? ⟨b, off + j * 2, none⟩ = _ := (World.cell?_of_block (HI.out.bel.block b hbB)).trans y1
          have e2 : W.cell? ⟨b, off + j * 2 + 1, none⟩ = _ := (World.cell?_of_block (HI.out.bel.block b hbB)).trans y2
          have e3 : W.cell? ⟨bp, offp + z, none⟩ = _ := (World.cell?_of_block (HI.out.bel.block bp hbpB)).trans y3
          have hbW : b < W.heap.size := Nat.lt_of_lt_of_le hbB (Nat.le_trans hBw HI.out.bel.size)
          have hbpW : bp < W.heap.size := Nat.lt_of_lt_of_le hbpB (Nat.le_trans hBw HI.out.bel.size)
          clear hi' hs hI hlF hdd
          rcases hcs with rfl | rfl | rfl | rfl | rfl | rfl | rfl | rfl | rfl | rfl | rfl | rfl | rfl | rfl | rfl | rfl | rfl | rfl
          · simp only [List.getElem?_cons_zero, Option.some.injEq] at ho
            subst ho
            have k14 := hlate 14 (by kernel_rfl)
            simp at k14
            go_simp
            exact ⟨_, rfl, HI.out.skip 0 (by omega) _ rfl⟩
          · simp only [List.getElem?_cons_zero, List.getElem?_cons_succ, Option.some.injEq] at ho
            subst ho
            have k9 := hh.kept 9 (by simp)
            simp at k9
            go_simp
            exact ⟨_, rfl, HI.out.skip 1 (by omega) _ rfl⟩
          · simp only [List.getElem?_cons_zero, List.getElem?_cons_succ, Option.some.injEq] at ho
            subst ho
            have k15 := hh.kept 15 (by simp)
            simp at k15
            go_simp
            exact ⟨_, rfl, HI.out.skip 2 (by omega) _ rfl⟩
          · simp only [List.getElem?_cons_zero, List.getElem?_cons_succ, Option.some.injEq] at ho
            subst ho
            have l1 : L.getD 1 false = true := HD.out ⟨1, .data⟩ (by simp) rfl
            have g1 := hh.got 1 _ 66 rfl rfl l1 (by simp)
            rw [HI.out.known 1 (by omega) l1] at g1
            simp [samK] at g1
            have l2 : L.getD 2 false = true := HD.out ⟨2, .data⟩ (by simp) rfl
            have g2 := hh.got 2 _ 67 rfl rfl l2 (by simp)
            rw [HI.out.known 2 (by omega) l2] at g2
            simp [samK] at g2
            clear l1 l2
            go_simp
            exact ⟨_, rfl, HI.out.skip 3 (by omega) _ rfl⟩
          · simp only [List.getElem?_cons_zero, List.getElem?_cons_succ, Option.some.injEq] at ho
            subst ho
            have l3 : L.getD 3 false = true := HD.out ⟨3, .data⟩ (by simp) rfl
            have g3 := hh.got 3 _ 68 rfl rfl l3 (by simp)
            rw [HI.out.known 3 (by omega) l3] at g3
            simp [samK] at g3
            clear l3
            go_simp
            exact ⟨_, rfl, HI.out.skip 4 (by omega) _ rfl⟩
          · simp only [List.getElem?_cons_zero, List.getElem?_cons_succ, Option.some.injEq] at ho
            subst ho
            have l4 : L.getD 4 false = true := HD.out ⟨4, .data⟩ (by simp) rfl
            have g4 := hh.got 4 _ 69 rfl rfl l4 (by simp)
            rw [HI.out.known 4 (by omega) l4] at g4
            simp [samK] at g4
            clear l4
            go_simp
            exact ⟨_, rfl, HI.out.skip 5 (by omega) _ rfl⟩
          · simp only [List.getElem?_cons_zero, List.getElem?_cons_succ, Option.some.injEq] at ho
            subst ho
            have k1 := hh.kept 1 (by simp)
            simp at k1
            go_simp
            exact ⟨_, rfl, HI.out.skip 6 (by omega) _ rfl⟩
          · simp only [List.getElem?_cons_zero, List.getElem?_cons_succ, Option.some.injEq] at ho
            subst ho
            have k9 := hh.kept 9 (by simp)
            simp at k9
            go_simp
            exact ⟨_, rfl, HI.out.skip 7 (by omega) _ rfl⟩
          · simp only [List.getElem?_cons_zero, List.getElem?_cons_succ, Option.some.injEq] at ho
            subst ho
            have k15 := hh.kept 15 (by simp)
            simp at k15
            go_simp
            exact ⟨_, rfl, HI.out.skip 8 (by omega) _ rfl⟩
          · simp only [List.getElem?_cons_zero, List.getElem?_cons_succ, Option.some.injEq] at ho
            subst ho
            have l7 : L.getD 7 false = true := HD.out ⟨7, .data⟩ (by simp) rfl
            have g7 := hh.got 7 _ 72 rfl rfl l7 (by simp)
            rw [HI.out.known 7 (by omega) l7] at g7
            simp [samK] at g7
            have l8 : L.getD 8 false = true := HD.out ⟨8, .data⟩ (by simp) rfl
            have g8 := hh.got 8 _ 73 rfl rfl l8 (by simp)
            rw [HI.out.known 8 (by omega) l8] at g8
            simp [samK] at g8
            clear l7 l8
            go_simp
            exact ⟨_, rfl, HI.out.skip 9 (by omega) _ rfl⟩
          · simp only [List.getElem?_cons_zero, List.getElem?_cons_succ, Option.some.injEq] at ho
            subst ho
            have l9 : L.getD 9 false = true := HD.out ⟨9, .data⟩ (by simp) rfl
            have g9 := hh.got 9 _ 74 rfl rfl l9 (by simp)
            rw [HI.out.known 9 (by omega) l9] at g9
            simp [samK] at g9
            clear l9
            go_simp
            exact ⟨_, rfl, HI.out.skip 10 (by omega) _ rfl⟩
          · simp only [List.getElem?_cons_zero, List.getElem?_cons_succ, Option.some.injEq] at ho
            subst ho
            have l10 : L.getD 10 false = true := HD.out ⟨10, .data⟩ (by simp) rfl
            have g10 := hh.got 10 _ 75 rfl rfl l10 (by simp)
            rw [HI.out.known 10 (by omega) l10] at g10
            simp [samK] at g10
            clear l10
            go_simp
            exact ⟨_, rfl, HI.out.skip 11 (by omega) _ rfl⟩
          · simp only [List.getElem?_cons_zero, List.getElem?_cons_succ, Option.some.injEq] at ho
            subst ho
            have l6 : L.getD 6 false = true := HD.out ⟨6, .data⟩ (by simp) rfl
            have g6 := hh.got 6 _ 71 rfl rfl l6 (by simp)
            rw [HI.out.known 6 (by omega) l6] at g6
            simp [samK] at g6
            have l11 : L.getD 11 false = true := HD.out ⟨11, .data⟩ (by simp) rfl
            have g11 := hh.got 11 _ 76 rfl rfl l11 (by simp)
            rw [HI.out.known 11 (by omega) l11] at g11
            simp [samK] at g11
            clear l6 l11
            go_simp
            exact ⟨_, rfl, HI.out.skip 12 (by omega) _ rfl⟩
          · simp only [List.getElem?_cons_zero, List.getElem?_cons_succ, Option.some.injEq] at ho
            subst ho
            have l12 : L.getD 12 false = true := HD.out ⟨12, .data⟩ (by simp) rfl
            have g12 := hh.got 12 _ 77 rfl rfl l12 (by simp)
            rw [HI.out.known 12 (by omega) l12] at g12
            simp [samK] at g12
            clear l12
            go_simp
            exact ⟨_, rfl, HI.out.skip 13 (by omega) _ rfl⟩
          · simp only [List.getElem?_cons_zero, List.getElem?_cons_succ, Option.some.injEq] at ho
            subst ho
            have l5 : L.getD 5 false = true := HD.out ⟨5, .data⟩ (by simp) rfl
            have g5 := hh.got 5 _ 70 rfl rfl l5 (by simp)
            rw [HI.out.known 5 (by omega) l5] at g5
            simp [samK] at g5
            have l13 : L.getD 13 false = true := HD.out ⟨13, .data⟩ (by simp) rfl
            have g13 := hh.got 13 _ 78 rfl rfl l13 (by simp)
            rw [HI.out.known 13 (by omega) l13] at g13
            simp [samK] at g13
            clear l5 l13
            go_simp
            exact ⟨_, rfl, HI.out.skip 14 (by omega) _ rfl⟩
          · simp only [List.getElem?_cons_zero, List.getElem?_cons_succ, Option.some.injEq] at ho
            subst ho
            have l14 : L.getD 14 false = true := HD.out ⟨14, .data⟩ (by simp) rfl
            have g14 := hh.got 14 _ 79 rfl rfl l14 (by simp)
            rw [HI.out.known 14 (by omega) l14] at g14
            simp [samK] at g14
            clear l14
            go_simp
            exact ⟨_, rfl, HI.out.make (by omega) HLF.out⟩
          · simp only [List.getElem?_cons_zero, List.getElem?_cons_succ, Option.some.injEq] at ho
            subst ho
            have l0 : L.getD 0 false = true := HD.out ⟨0, .data⟩ (by simp) rfl
            have l15 : L.getD 15 false = true := HD.out ⟨15, .data⟩ (by simp) rfl
            have e0 : b'.eval (.tmp 65) = _ := (hh.got 0 _ 65 rfl rfl l0 (by simp)).trans (HI.out.known 0 (by omega) l0)
            have ep : b'.eval (.tmp 80) = val 15 := hh.got 15 _ 80 rfl rfl l15 (by simp)
            simp only [samK] at e0
            obtain ⟨v', w', hr, hw'⟩ := HI.out.app (by omega) HLF.out l15 (by omega) 30
            unfold Oper.wp execOp
            simp only [resolve, invoke, builtin, Sem.run_bind, Sem.run_pure, Result.andThen_ok, List.map_toArray, List.map_cons, List.map_nil, e0, ep, hr]
            exact ⟨_, rfl, hw'⟩
          · simp only [List.getElem?_cons_zero, List.getElem?_cons_succ, Option.some.injEq] at ho
            subst ho
            have l16 : L.getD 16 false = true := HD.out ⟨16, .data⟩ (by simp) rfl
            have g16 := hh.got 16 _ 81 rfl rfl l16 (by simp)
            go_simp
            exact ⟨_, rfl, HI.out.asg (by omega) l16⟩
      · obtain rfl : mS = j := by omega
        have hj1 : ((mS : Int) < (mS : Int)) = False := by simp
        have hall : (renO p S).take mS = renO p S := List.take_of_length_le (by unfold renO; rw [List.length_map, HM.out]; exact Nat.le_refl _)
        rw [hall] at hrow
        have hlen : (renO p S).length = mS := by unfold renO; rw [List.length_map, HM.out]
        obtain ⟨va, vc, rfl⟩ := own_sl hrow
        rw [← hlen] at hrow
        have hev := evsAt_of_owns hrow
        have hso := sorted_any (renO p S) va vc (by rw [hlen]; have := HSH.out; have := HM.out; omega) wr hev
        rw [hlen] at hso
        unfold EvOwn at hso
        rw [Q4.out] at hso
        have HSO := Lib.hid hso
        have HBB := Lib.hid hb
        have hsl : (runO m l T.toNat).length = mS := by rw [← Q4.out, sortE_len, hlen]
        have HSL := Lib.hid hsl
        have hf := HF13.out
        rw [hsl] at hf
        subst hf
        have hmS : mS ≤ 65536 := by have := HSH.out; have := HM.out; omega
        have hmS' : mS ≤ 9223372036854775806 := by omega
        clear hso hb hrow hev hlen hall hsl hlt hj
        go_wp2_with (fail)
        refine HSO.out.mono ?_
        rintro e w5 ⟨v87, rfl, hown, hb5⟩
        have h87 := evsAt_of_owns hown
        obtain ⟨va7, vc7, rfl⟩ := own_sl hown
        have h13 := (HV13.out.below (HBB.out)).below hb5
        have hsame := same_eq (runO m l T.toNat) a13 va7 c13 vc7 (by rw [HSL.out]; exact hmS') w5 (by rw [HSL.out]; exact h13) h87
        rw [HSL.out] at hsame ⊢
        have HSM := Lib.hid hsame
        have B5 := Lib.hid ((B4.out.trans (HBB.out.mono hz4)).trans (hb5.mono (by omega)) : Below w.heap.size w w5)
        clear hsame h13 h87 hown hb5
        go_wp2_with (fail)
        refine HSM.out.mono ?_
        rintro e w6 ⟨rfl, hb6⟩
        have B6 := Lib.hid (B5.out.trans (hb6.mono B5.out.size) : Below w.heap.size w w6)
        clear hb6
        go_wp2_with (fail)
        refine (Lf.works_any _).mono ?_
        rintro e w7 ⟨rfl, hb7⟩
        have BF := Lib.hid (B6.out.trans (hb7.mono B6.out.size) : Below w.heap.size w w7)
        clear hb7
        go_wp2
        go_ret
        exact ⟨rfl, BF.out⟩
  · generalize renR n p = m at *
    generalize renE n p = X at *
    have HREN := Lib.hid hren
    have HRUN := Lib.hid hrun
    clear hp hs ho hi
    cases hB : runB n l T with
    | false =>
      have HB0 := Lib.hid hB
      clear hgood hren hrun hB
      have hrun := HRUN.out
      rw [HB0.out] at hrun
      have HRN := Lib.hid hrun
      clear hrun HRUN
      go_enter Try.func12, Try.ntmps12
      go_wp2_with (first | (go_at_call 46; refine (HRN.out _ ((Below.refl _ _).alloc (Nat.le_refl _) _)).mono ?_; rintro e w1 ⟨v9, rfl, hv9, hb1⟩; have hbx1 : NetBox w1 w.heap.size (.slice a1 n.ps.length c1) n.inp (.slice a2 n.ss.length c2) := (hb1.block _ (by simp)).trans (alloc_new_at _ _ _ rfl); obtain ⟨_, _, _⟩ := cells3 hbx1; have hzb := lt_of_block hbx1; have B1 := Lib.hid (((Below.refl _ _).alloc (Nat.le_refl _) _).trans (hb1.mono (by simp)) : Below w.heap.size w w1); clear hb1 hbx1 hv9) | (go_at_call 30; refine (HREN.out _ B1.out).mono ?_; rintro e w3 ⟨v1, rfl, ⟨p1, r1, p2, r2, rfl, hp1, hs1⟩, hb3⟩; have B3 := Lib.hid (B1.out.trans (hb3.mono B1.out.size) : Below w.heap.size w w3); clear hp1 hs1 hb3) | (go_at_call 18; refine (Lf.works_any _).mono ?_; rintro e w2 ⟨rfl, hb2⟩))
      go_ret
      exact ⟨rfl, (B3.out.alloc B3.out.size _).trans (hb2.mono (by have := B3.out.size; simp; omega))⟩
    | true =>
      have hX : X ≠ 0 := fun e => hgood ⟨hB, e⟩
      have hne : (X != 0) = true := by simp [hX]
      have HB0 := Lib.hid hB
      clear hgood hren hrun hB hX
      have hrun := HRUN.out
      rw [HB0.out] at hrun
      have HRN := Lib.hid hrun
      clear hrun HRUN
      go_enter Try.func12, Try.ntmps12
      go_wp2_with (first | (go_at_call 46; refine (HRN.out _ ((Below.refl _ _).alloc (Nat.le_refl _) _)).mono ?_; rintro e w1 ⟨v9, rfl, hv9, hb1⟩; have hbx1 : NetBox w1 w.heap.size (.slice a1 n.ps.length c1) n.inp (.slice a2 n.ss.length c2) := (hb1.block _ (by simp)).trans (alloc_new_at _ _ _ rfl); obtain ⟨_, _, _⟩ := cells3 hbx1; have hzb := lt_of_block hbx1; have B1 := Lib.hid (((Below.refl _ _).alloc (Nat.le_refl _) _).trans (hb1.mono (by simp)) : Below w.heap.size w w1); clear hb1 hbx1 hv9) | (go_at_call 30; refine (HREN.out _ B1.out).mono ?_; rintro e w3 ⟨v1, rfl, ⟨p1, r1, p2, r2, rfl, hp1, hs1⟩, hb3⟩; have B3 := Lib.hid (B1.out.trans (hb3.mono B1.out.size) : Below w.heap.size w w3); clear hp1 hs1 hb3) | (go_at_call 18; refine (Lf.works_any _).mono ?_; rintro e w2 ⟨rfl, hb2⟩))
      go_ret
      exact ⟨rfl, (B3.out.alloc B3.out.size _).trans (hb2.mono (by have := B3.out.size; simp; omega))⟩
end Go.Proofs.Ytgbcdebnanejpaa.netSame
