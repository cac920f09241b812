/- For all samples, margins and rounds the law CodeTrains returns true: Train returns what the specification's does. No condition. (mk_Trains.py wrote this.) -/
import Derived.Test.YtjdcjcanmeangaaGreatTh
import Derived.Test.YtjdcjcanmeangaaGreatWk
namespace Go.Proofs.YtjdcjcanmeangaaGreat.codeTrains
open Go.ChangeShapes Go.WideShapes Go.ChangeAt Go.RowKit Go.Proofs.YtjdcjcanmeangaaGreat.Lf
set_option linter.unusedVariables false

theorem kform {W : World} {sv : Value} {l : List Int} (h : KAt .i64 W sv l) : ∃ a n c, sv = .slice a n c := by
  rcases h with ⟨rfl, _⟩ | ⟨b, off, cap, rfl, _⟩ <;> exact ⟨_, _, _, rfl⟩
def cpK (v0 : Value) (b off N cap : Nat) (sa : Option Addr) (LX c j : Nat) (Y : Bool) : Nat → Value
  | 0 => v0
  | 2 => .slice (some ⟨b, off, none⟩) N cap
  | 3 => .int .i64 (j : Int)
  | 4 => .pointer (some ⟨b, off + j * 2, none⟩)
  | 5 => .pointer (some ⟨b, off + j * 2, none⟩)
  | 6 => .slice sa LX c
  | 8 => .slice (some ⟨b, off, none⟩) N cap
  | 9 => .int .i64 (j : Int)
  | 10 => .pointer (some ⟨b, off + j * 2, none⟩)
  | 11 => .pointer (some ⟨b, off + j * 2 + 1, none⟩)
  | 12 => .bool Y
  | _ => undef
set_option maxRecDepth 100000 in
set_option maxHeartbeats 16000000 in
theorem main (l : List Smp) (m R : Int) (a : Option Addr) (cap N : Nat) (hN : N = l.length) (hl : N ≤ 260)
    (ht : (∀ s ∈ l, s.x.length ≤ 35) → ∃ PN PS PD PE, PN ≤ 100000 ∧ (∀ a cap w, SmpsAt w (.slice a N cap) l → Calls Tryz.prog 43 #[.slice a N cap, .int .i64 m, .int .i64 R] w (TrGot PN PS PD PE w)) ∧
      ∀ a cap w, SmpsAt w (.slice a N cap) l → Calls Tryz.prog 44 #[.slice a N cap, .int .i64 m, .int .i64 R] w (TrGot PN PS PD PE w))
    (w : World) (hS : SmpsAt w (.slice a N cap) l)
    (hc : ((20 : Int) < (N : Int)) = False ∨ (((20 : Int) < (N : Int)) = True ∧ ((N : Int) ≤ 256) = False)) (hr : ((100 : Int) < R) = False ∨ (((100 : Int) < R) = True ∧ (R ≤ 1000) = False)) :
    Calls Tryz.prog 7 #[.slice a N cap, .int .i64 m, .int .i64 R] w fun e w' => e = .returned (.bool true) ∧ Below w.heap.size w w' := by
  have z3 : ((260 : Int) < (N : Int)) = False := by simp <;> omega
  have HN := Lib.hid hN
  have HS := Lib.hid hS
  have HTT := Lib.hid ht
  clear hN hS ht
  rcases hc with z1 | ⟨z1, z2⟩ <;> rcases hr with y1 | ⟨y1, y2⟩
  · go_enter Tryz.func7, Tryz.ntmps7
    go_upto_region 4 with (fail)
    go_wp2
    go_loopw [7, 8] (fun s7 s8 wr => ∃ j : Nat, j ≤ N ∧ s8 = .int .i64 j ∧ (∃ vs, CpAt w.heap.size vs (l.take j) s7 wr) ∧ (∀ s ∈ l.take j, s.x.length ≤ 35) ∧ Below w.heap.size w wr) (fun _ s8 _ => N - (intOf s8).toNat)
    case atStart => exact ⟨0, Nat.zero_le _, rfl, ⟨[], rfl, by rw [List.take_zero]; exact World.ownsRow_nil _ _ _ _, fun i u s h _ => by simp at h⟩, fun s h => by simp at h, Below.refl _ _⟩
    case round =>
      obtain ⟨j, hj, rfl, ⟨vs, hcp⟩, h35, hb⟩ := hrel
      have H35 := Lib.hid h35
      clear h35
      have HB := Lib.hid hb
      have HCP := Lib.hid hcp
      have hj0 : (0 : Int) ≤ (j : Int) := Int.natCast_nonneg _
      by_cases hlj : j < N
      · have hj1 : (j : Int) < (N : Int) := by omega
        obtain ⟨s, hs⟩ : ∃ s, l[j]? = some s := ⟨_, List.getElem?_eq_getElem (by rw [← HN.out]; exact hlj)⟩
        obtain ⟨b, off, sa, c, rfl, hbl, p0, p1, hkx⟩ := HS.out.at hs
        have q0 := (hb.cell (p := ⟨b, off + j * 2, none⟩) hbl).trans p0
        have q1 := (hb.cell (p := ⟨b, off + j * 2 + 1, none⟩) hbl).trans p1
        obtain ⟨X, Y⟩ := s
        simp only at q0 q1 hkx p0 p1
        obtain ⟨LX, hLX⟩ : ∃ n, n = X.length := ⟨_, rfl⟩
        rw [← hLX] at q0 hkx p0
        have htl : (l.take j).length = j := by rw [List.length_take]; have := HN.out; omega
        have htk : l.take (j + 1) = l.take j ++ [⟨X, Y⟩] := by rw [List.take_add_one, hs]; rfl
        have HTL := Lib.hid htl
        have HTK := Lib.hid htk
        have HLX := Lib.hid hLX
        have HKX := Lib.hid hkx
        have HBL := Lib.hid hbl
        have P0 := Lib.hid p0
        have P1 := Lib.hid p1
        have hrow := hcp.row
        rw [htl] at hrow
        obtain ⟨va, vc, rfl⟩ := own_slC hrow
        have HROW := Lib.hid hrow
        clear hs hcp hLX hkx htl htk hrow p0 p1 hbl
        by_cases hlx : 35 < LX
        · have z5 : ((35 : Int) < (LX : Int)) = True := by simp <;> omega
          have z6 : (35 < LX) = True := by simp <;> omega
          clear hb
          go_wp2_with (go_at_call 18; refine (works_any _).mono ?_; rintro e w9 ⟨rfl, hb9⟩)
          go_ret
          exact ⟨rfl, HB.out.trans (hb9.mono HB.out.size)⟩
        · have z5 : ((35 : Int) < (LX : Int)) = False := by simp <;> omega
          have z6 : (35 < LX) = False := by simp <;> omega
          have hbw : w.heap.size ≤ wr.heap.size := hb.size
          clear hb
          go_upto_region 9 with (fail)
          clear q0 q1
          refine wp_region_late (CpR wr w.heap.size j (smpCs vs (l.take j)) X Y (.slice va j vc) (cpK (.slice va j vc) b off N cap sa LX c j Y)) (by kernel_rfl) (by kernel_rfl) (by kernel_rfl) (by kernel_rfl) (CpR.init _ hbw HROW.out) ?stp ?dn
          case dn =>
            intro val W b' hI hb
            have h16 := hI.e16 (by simp)
            have h15 := hI.m15 (by simp)
            have kn : ∀ q, [1, 7, 13, 14, 15, 16].contains q = false → q < 17 → val q = (cpK (.slice va j vc) b off N cap sa LX c j Y) q := fun q hq hq2 => hI.known q hq (replT (by show q < 17; omega))
            obtain ⟨x1, hx1⟩ : ∃ v, v = val 1 := ⟨_, rfl⟩
            obtain ⟨x7, hx7⟩ : ∃ v, v = val 7 := ⟨_, rfl⟩
            obtain ⟨x13, hx13⟩ : ∃ v, v = val 13 := ⟨_, rfl⟩
            obtain ⟨x14, hx14⟩ : ∃ v, v = val 14 := ⟨_, rfl⟩
            obtain ⟨x15, hx15⟩ : ∃ v, v = val 15 := ⟨_, rfl⟩
            simp only [puts, h16, ← hx1, ← hx7, ← hx13, ← hx14, ← hx15, kn 0 (by decide) (by decide), kn 2 (by decide) (by decide), kn 3 (by decide) (by decide), kn 4 (by decide) (by decide), kn 5 (by decide) (by decide), kn 6 (by decide) (by decide), kn 8 (by decide) (by decide), kn 9 (by decide) (by decide), kn 10 (by decide) (by decide), kn 11 (by decide) (by decide), kn 12 (by decide) (by decide), cpK] at hb
            have hm7 := hI.m7 (by simp)
            rw [← hx7] at hm7 h15
            rw [← hx15] at h15
            have H15 := Lib.hid h15
            have HM7 := Lib.hid hm7
            have HBL2 := Lib.hid hI.bel
            have HOT := Lib.hid hI.oth
            clear hI h16 h15 hm7 kn hx1 hx7 hx13 hx14 hx15
            subst hb
            simp only [Act.put, List.setIfInBounds_toArray, List.set_cons_succ, List.set_cons_zero]
            go_wp2
            go_roundw
            case rel =>
              refine ⟨j + 1, by omega, by go_num, ⟨vs ++ [x7], ?_⟩, ?_, HB.out.trans HBL2.out⟩ <;> rw [HTK.out]
              · exact HCP.out.next hbw (by rw [HTL.out]; exact H15.out.1) HM7.out HOT.out H15.out.2
              · intro s hs
                rcases List.mem_append.1 hs with h | h
                · exact H35.out s h
                · simp only [List.mem_cons, List.not_mem_nil, or_false] at h; subst h; have := HLX.out; simp only; omega
            case measure => simp [intOf]; omega
          case stp =>
            intro L val W i' o b' hs ho hlF hdd hI hh hlate
            have hi' := (List.getElem?_eq_some_iff.1 ho).1
            have hcs : i' = 0 ∨ i' = 1 ∨ i' = 2 ∨ i' = 3 ∨ i' = 4 ∨ i' = 5 ∨ i' = 6 ∨ i' = 7 ∨ i' = 8 ∨ i' = 9 ∨ i' = 10 ∨ i' = 11 ∨ i' = 12 ∨ i' = 13 ∨ i' = 14 ∨ i' = 15 ∨ i' = 16 := by simp at hi'; omega
            have hLs : 16 < L.size := by simp at hs; omega
            have HI := Lib.hid hI
            have HLF := Lib.hid hlF
            have HD := Lib.hid hdd
            have HBB := Lib.hid (HB.out.trans hI.bel)
            have e1 : W.cell? ⟨b, off + j * 2, none⟩ = _ := (HBB.out.cell (p := ⟨b, off + j * 2, none⟩) HBL.out).trans P0.out
            have e2 : W.cell? ⟨b, off + j * 2 + 1, none⟩ = _ := (HBB.out.cell (p := ⟨b, off + j * 2 + 1, none⟩) HBL.out).trans P1.out
            have hxk := HKX.out.below HBB.out
            clear hi' hs hI hlF hdd
            rcases hcs with rfl | rfl | rfl | rfl | rfl | rfl | rfl | rfl | rfl | rfl | rfl | rfl | rfl | rfl | rfl | rfl | rfl
            · simp only [List.getElem?_cons_zero, Option.some.injEq] at ho
              subst ho
              have k7 := hlate 7 (by kernel_rfl)
              simp at k7
              go_simp
              exact ⟨_, rfl, HI.out.skip 0 (by decide) _ rfl⟩
            · simp only [List.getElem?_cons_zero, List.getElem?_cons_succ, Option.some.injEq] at ho
              subst ho
              go_simp
              exact ⟨_, rfl, HI.out.one hLs HLF.out⟩
            · simp only [List.getElem?_cons_zero, List.getElem?_cons_succ, Option.some.injEq] at ho
              subst ho
              have k0 := hh.kept 0 (by simp)
              simp at k0
              go_simp
              exact ⟨_, rfl, HI.out.skip 2 (by decide) _ rfl⟩
            · simp only [List.getElem?_cons_zero, List.getElem?_cons_succ, Option.some.injEq] at ho
              subst ho
              have k8 := hh.kept 8 (by simp)
              simp at k8
              go_simp
              exact ⟨_, rfl, HI.out.skip 3 (by decide) _ rfl⟩
            · simp only [List.getElem?_cons_zero, List.getElem?_cons_succ, Option.some.injEq] at ho
              subst ho
              have l2 : L.getD 2 false = true := HD.out ⟨2, .data⟩ (by simp) rfl
              have g2 := hh.got 2 _ 51 rfl rfl l2 (by simp)
              rw [HI.out.known 2 (by decide) l2] at g2
              simp [cpK] at g2
              have l3 : L.getD 3 false = true := HD.out ⟨3, .data⟩ (by simp) rfl
              have g3 := hh.got 3 _ 52 rfl rfl l3 (by simp)
              rw [HI.out.known 3 (by decide) l3] at g3
              simp [cpK] at g3
              clear l2 l3
              go_simp
              exact ⟨_, rfl, HI.out.skip 4 (by decide) _ rfl⟩
            · simp only [List.getElem?_cons_zero, List.getElem?_cons_succ, Option.some.injEq] at ho
              subst ho
              have l4 : L.getD 4 false = true := HD.out ⟨4, .data⟩ (by simp) rfl
              have g4 := hh.got 4 _ 53 rfl rfl l4 (by simp)
              rw [HI.out.known 4 (by decide) l4] at g4
              simp [cpK] at g4
              clear l4
              go_simp
              exact ⟨_, rfl, HI.out.skip 5 (by decide) _ rfl⟩
            · simp only [List.getElem?_cons_zero, List.getElem?_cons_succ, Option.some.injEq] at ho
              subst ho
              have l5 : L.getD 5 false = true := HD.out ⟨5, .data⟩ (by simp) rfl
              have g5 := hh.got 5 _ 54 rfl rfl l5 (by simp)
              rw [HI.out.known 5 (by decide) l5] at g5
              simp [cpK] at g5
              clear l5
              go_simp
              exact ⟨_, rfl, HI.out.skip 6 (by decide) _ rfl⟩
            · simp only [List.getElem?_cons_zero, List.getElem?_cons_succ, Option.some.injEq] at ho
              subst ho
              have l1 : L.getD 1 false = true := HD.out ⟨1, .data⟩ (by simp) rfl
              have l6 : L.getD 6 false = true := HD.out ⟨6, .data⟩ (by simp) rfl
              have e0 : b'.eval (.tmp 50) = val 1 := hh.got 1 _ 50 rfl rfl l1 (by simp)
              have e6 : b'.eval (.tmp 55) = _ := (hh.got 6 _ 55 rfl rfl l6 (by simp)).trans (HI.out.known 6 (by decide) l6)
              simp only [cpK] at e6
              obtain ⟨v', w', hr, hw'⟩ := HI.out.seven hLs HLF.out l1 sa LX c HLX.out (by omega) hxk 22
              unfold Oper.wp execOp
              simp only [resolve, invoke, builtin, Sem.run_bind, Sem.run_pure, Result.andThen_ok, List.map_toArray, List.map_cons, List.map_nil, e0, e6, hr]
              exact ⟨_, rfl, hw'⟩
            · simp only [List.getElem?_cons_zero, List.getElem?_cons_succ, Option.some.injEq] at ho
              subst ho
              have k0 := hh.kept 0 (by simp)
              simp at k0
              go_simp
              exact ⟨_, rfl, HI.out.skip 8 (by decide) _ rfl⟩
            · simp only [List.getElem?_cons_zero, List.getElem?_cons_succ, Option.some.injEq] at ho
              subst ho
              have k8 := hh.kept 8 (by simp)
              simp at k8
              go_simp
              exact ⟨_, rfl, HI.out.skip 9 (by decide) _ rfl⟩
            · simp only [List.getElem?_cons_zero, List.getElem?_cons_succ, Option.some.injEq] at ho
              subst ho
              have l8 : L.getD 8 false = true := HD.out ⟨8, .data⟩ (by simp) rfl
              have g8 := hh.got 8 _ 57 rfl rfl l8 (by simp)
              rw [HI.out.known 8 (by decide) l8] at g8
              simp [cpK] at g8
              have l9 : L.getD 9 false = true := HD.out ⟨9, .data⟩ (by simp) rfl
              have g9 := hh.got 9 _ 58 rfl rfl l9 (by simp)
              rw [HI.out.known 9 (by decide) l9] at g9
              simp [cpK] at g9
              clear l8 l9
              go_simp
              exact ⟨_, rfl, HI.out.skip 10 (by decide) _ rfl⟩
            · simp only [List.getElem?_cons_zero, List.getElem?_cons_succ, Option.some.injEq] at ho
              subst ho
              have l10 : L.getD 10 false = true := HD.out ⟨10, .data⟩ (by simp) rfl
              have g10 := hh.got 10 _ 59 rfl rfl l10 (by simp)
              rw [HI.out.known 10 (by decide) l10] at g10
              simp [cpK] at g10
              clear l10
              go_simp
              exact ⟨_, rfl, HI.out.skip 11 (by decide) _ rfl⟩
            · simp only [List.getElem?_cons_zero, List.getElem?_cons_succ, Option.some.injEq] at ho
              subst ho
              have l11 : L.getD 11 false = true := HD.out ⟨11, .data⟩ (by simp) rfl
              have g11 := hh.got 11 _ 60 rfl rfl l11 (by simp)
              rw [HI.out.known 11 (by decide) l11] at g11
              simp [cpK] at g11
              clear l11
              go_simp
              exact ⟨_, rfl, HI.out.skip 12 (by decide) _ rfl⟩
            · simp only [List.getElem?_cons_zero, List.getElem?_cons_succ, Option.some.injEq] at ho
              subst ho
              have l7 : L.getD 7 false = true := HD.out ⟨7, .data⟩ (by simp) rfl
              have g7 := hh.got 7 _ 56 rfl rfl l7 (by simp)
              have l12 : L.getD 12 false = true := HD.out ⟨12, .data⟩ (by simp) rfl
              have g12 := hh.got 12 _ 61 rfl rfl l12 (by simp)
              rw [HI.out.known 12 (by decide) l12] at g12
              simp [cpK] at g12
              have hbd := HI.out.build hLs HLF.out l7
              obtain ⟨a7, c7, e7⟩ := own_slC (HI.out.m7 l7)
              rw [e7] at g7 hbd
              simp at g7
              have HBD := Lib.hid hbd
              clear l7 l12 hbd e7
              go_simp
              exact ⟨_, rfl, HBD.out⟩
            · simp only [List.getElem?_cons_zero, List.getElem?_cons_succ, Option.some.injEq] at ho
              subst ho
              have l13 : L.getD 13 false = true := HD.out ⟨13, .data⟩ (by simp) rfl
              have g13 := hh.got 13 _ 62 rfl rfl l13 (by simp)
              rw [HI.out.d13 l13] at g13
              have hbd := HI.out.box hLs HLF.out l13
              obtain ⟨a7, c7, e7⟩ := own_slC (HI.out.m7 (HI.out.p13 l13))
              rw [e7] at g13 hbd
              simp at g13
              have HBD := Lib.hid hbd
              clear l13 hbd e7
              go_simp
              exact ⟨_, rfl, HBD.out⟩
            · simp only [List.getElem?_cons_zero, List.getElem?_cons_succ, Option.some.injEq] at ho
              subst ho
              have l0 : L.getD 0 false = true := HD.out ⟨0, .data⟩ (by simp) rfl
              have l14 : L.getD 14 false = true := HD.out ⟨14, .data⟩ (by simp) rfl
              have e0 : b'.eval (.tmp 49) = _ := (hh.got 0 _ 49 rfl rfl l0 (by simp)).trans (HI.out.known 0 (by decide) l0)
              have e14 : b'.eval (.tmp 63) = val 14 := hh.got 14 _ 63 rfl rfl l14 (by simp)
              simp only [cpK] at e0
              obtain ⟨v', w', hr, hw'⟩ := HI.out.app hLs HLF.out l14 (by omega) 71
              unfold Oper.wp execOp
              simp only [resolve, invoke, builtin, Sem.run_bind, Sem.run_pure, Result.andThen_ok, List.map_toArray, List.map_cons, List.map_nil, e0, e14, hr]
              exact ⟨_, rfl, hw'⟩
            · simp only [List.getElem?_cons_zero, List.getElem?_cons_succ, Option.some.injEq] at ho
              subst ho
              have l15 : L.getD 15 false = true := HD.out ⟨15, .data⟩ (by simp) rfl
              have g15 := hh.got 15 _ 64 rfl rfl l15 (by simp)
              have HL15 := Lib.hid l15
              clear l15
              go_simp
              exact ⟨_, rfl, HI.out.asg hLs HL15.out⟩
      · obtain rfl : N = j := by omega
        rw [List.take_of_length_le (by rw [← HN.out]; exact Nat.le_refl _)] at hcp
        have h35 := H35.out
        rw [List.take_of_length_le (by rw [← HN.out]; exact Nat.le_refl _)] at h35
        obtain ⟨PN, PS, PD, PE, hPN, ht1, ht2⟩ := HTT.out h35
        clear h35
        have hsm := hcp.smps
        obtain ⟨va, vc, rfl⟩ := own_slC hcp.row
        have hnl : l.length = N := HN.out.symm
        rw [hnl] at hsm ⊢
        have HSC := Lib.hid hsm
        have HBw := Lib.hid hb
        have HSW := Lib.hid (HS.out.below hb)
        have HTA := Lib.hid ht1
        have HTB := Lib.hid ht2
        clear hlj hj hb hcp hsm hnl ht1 ht2
        go_upto_region 11 with (go_at_call 43; refine (HTA.out va vc _ HSC.out).mono ?_; rintro e w1 ⟨sv, rfl, hk1, hb1⟩; obtain ⟨ga, na, ca, rfl⟩ := kform hk1; have HK1 := Lib.hid hk1; have HB1 := Lib.hid hb1; clear hk1 hb1)
        obtain ⟨W1, hW1⟩ : ∃ W, w1.alloc (.cells #[.slice ga na ca, .int .i64 PS.b, .int .i64 (PS.u : Int), .bool PD] 76) = W := ⟨_, rfl⟩
        have HBX := Lib.hid (show W1.heap[w1.heap.size]? = some (.cells #[.slice ga na ca, .int .i64 PS.b, .int .i64 (PS.u : Int), .bool PD] 76) by rw [← hW1]; exact alloc_new_at _ _ _ rfl)
        have HA1 := Lib.hid (show Below w1.heap.size w1 W1 by rw [← hW1]; exact (Below.refl _ _).alloc (Nat.le_refl _) _)
        rw [hW1]
        clear hW1
        have HK2 := Lib.hid (HK1.out.below HA1.out)
        have HBw1 := Lib.hid (HBw.out.trans (HB1.out.mono HBw.out.size))
        have HBw2 := Lib.hid (HBw1.out.trans (HA1.out.mono HBw1.out.size))
        have HSW2 := Lib.hid (HS.out.below HBw2.out)
        go_upto_region 12 with (go_at_call 44; refine (HTB.out a cap _ HSW2.out).mono ?_; rintro e w2 ⟨sv2, rfl, hk3, hb3⟩; obtain ⟨gb, nb, cb, rfl⟩ := kform hk3; have HK3 := Lib.hid hk3; have HB3 := Lib.hid hb3; clear hk3 hb3)
        obtain ⟨W2, hW2⟩ : ∃ W, w2.alloc (.cells #[.slice gb nb cb, .int .i64 PS.b, .int .i64 (PS.u : Int), .bool PD] 79) = W := ⟨_, rfl⟩
        have HBX2 := Lib.hid (show W2.heap[w2.heap.size]? = some (.cells #[.slice gb nb cb, .int .i64 PS.b, .int .i64 (PS.u : Int), .bool PD] 79) by rw [← hW2]; exact alloc_new_at _ _ _ rfl)
        have HA2 := Lib.hid (show Below w2.heap.size w2 W2 by rw [← hW2]; exact (Below.refl _ _).alloc (Nat.le_refl _) _)
        rw [hW2]
        clear hW2
        have HB12 := Lib.hid (HB3.out.trans (HA2.out.mono HB3.out.size))
        have HBX1 := Lib.hid ((HB12.out.block _ (lt_of_block HBX.out)).trans HBX.out)
        have HK12 := Lib.hid (HK2.out.below HB12.out)
        have HK32 := Lib.hid (HK3.out.below HA2.out)
        have HBw3 := Lib.hid (HBw2.out.trans (HB12.out.mono HBw2.out.size))
        obtain ⟨x0, x1, x2, x3, _, _, _, _⟩ := cells4 HBX1.out
        obtain ⟨y0, y1, y2, y3, _, _, _, _⟩ := cells4 HBX2.out
        go_wp2_with (fail)
        go_at_call 15
        refine (numbers_same _ (.slice ga na ca) (.slice gb nb cb) (by simp; omega) _ HK12.out HK32.out).mono ?_
        rintro e w4 ⟨rfl, hb4⟩
        have HBX14 := Lib.hid ((hb4.block _ (lt_of_block HBX1.out)).trans HBX1.out)
        have HBX24 := Lib.hid ((hb4.block _ (lt_of_block HBX2.out)).trans HBX2.out)
        have HBw4 := Lib.hid (HBw3.out.trans (hb4.mono HBw3.out.size))
        clear hb4 x0 x1 x2 x3 y0 y1 y2 y3
        obtain ⟨x0, x1, x2, x3, _, _, _, _⟩ := cells4 HBX14.out
        obtain ⟨y0, y1, y2, y3, _, _, _, _⟩ := cells4 HBX24.out
        go_wp2_with (go_at_call 18; refine (works_any _).mono ?_; rintro e w9 ⟨rfl, hb9⟩)
        go_ret
        exact ⟨rfl, HBw4.out.trans (hb9.mono HBw4.out.size)⟩
  · go_enter Tryz.func7, Tryz.ntmps7
    go_upto_region 4 with (fail)
    go_wp2
    go_loopw [7, 8] (fun s7 s8 wr => ∃ j : Nat, j ≤ N ∧ s8 = .int .i64 j ∧ (∃ vs, CpAt w.heap.size vs (l.take j) s7 wr) ∧ (∀ s ∈ l.take j, s.x.length ≤ 35) ∧ Below w.heap.size w wr) (fun _ s8 _ => N - (intOf s8).toNat)
    case atStart => exact ⟨0, Nat.zero_le _, rfl, ⟨[], rfl, by rw [List.take_zero]; exact World.ownsRow_nil _ _ _ _, fun i u s h _ => by simp at h⟩, fun s h => by simp at h, Below.refl _ _⟩
    case round =>
      obtain ⟨j, hj, rfl, ⟨vs, hcp⟩, h35, hb⟩ := hrel
      have H35 := Lib.hid h35
      clear h35
      have HB := Lib.hid hb
      have HCP := Lib.hid hcp
      have hj0 : (0 : Int) ≤ (j : Int) := Int.natCast_nonneg _
      by_cases hlj : j < N
      · have hj1 : (j : Int) < (N : Int) := by omega
        obtain ⟨s, hs⟩ : ∃ s, l[j]? = some s := ⟨_, List.getElem?_eq_getElem (by rw [← HN.out]; exact hlj)⟩
        obtain ⟨b, off, sa, c, rfl, hbl, p0, p1, hkx⟩ := HS.out.at hs
        have q0 := (hb.cell (p := ⟨b, off + j * 2, none⟩) hbl).trans p0
        have q1 := (hb.cell (p := ⟨b, off + j * 2 + 1, none⟩) hbl).trans p1
        obtain ⟨X, Y⟩ := s
        simp only at q0 q1 hkx p0 p1
        obtain ⟨LX, hLX⟩ : ∃ n, n = X.length := ⟨_, rfl⟩
        rw [← hLX] at q0 hkx p0
        have htl : (l.take j).length = j := by rw [List.length_take]; have := HN.out; omega
        have htk : l.take (j + 1) = l.take j ++ [⟨X, Y⟩] := by rw [List.take_add_one, hs]; rfl
        have HTL := Lib.hid htl
        have HTK := Lib.hid htk
        have HLX := Lib.hid hLX
        have HKX := Lib.hid hkx
        have HBL := Lib.hid hbl
        have P0 := Lib.hid p0
        have P1 := Lib.hid p1
        have hrow := hcp.row
        rw [htl] at hrow
        obtain ⟨va, vc, rfl⟩ := own_slC hrow
        have HROW := Lib.hid hrow
        clear hs hcp hLX hkx htl htk hrow p0 p1 hbl
        by_cases hlx : 35 < LX
        · have z5 : ((35 : Int) < (LX : Int)) = True := by simp <;> omega
          have z6 : (35 < LX) = True := by simp <;> omega
          clear hb
          go_wp2_with (go_at_call 18; refine (works_any _).mono ?_; rintro e w9 ⟨rfl, hb9⟩)
          go_ret
          exact ⟨rfl, HB.out.trans (hb9.mono HB.out.size)⟩
        · have z5 : ((35 : Int) < (LX : Int)) = False := by simp <;> omega
          have z6 : (35 < LX) = False := by simp <;> omega
          have hbw : w.heap.size ≤ wr.heap.size := hb.size
          clear hb
          go_upto_region 9 with (fail)
          clear q0 q1
          refine wp_region_late (CpR wr w.heap.size j (smpCs vs (l.take j)) X Y (.slice va j vc) (cpK (.slice va j vc) b off N cap sa LX c j Y)) (by kernel_rfl) (by kernel_rfl) (by kernel_rfl) (by kernel_rfl) (CpR.init _ hbw HROW.out) ?stp ?dn
          case dn =>
            intro val W b' hI hb
            have h16 := hI.e16 (by simp)
            have h15 := hI.m15 (by simp)
            have kn : ∀ q, [1, 7, 13, 14, 15, 16].contains q = false → q < 17 → val q = (cpK (.slice va j vc) b off N cap sa LX c j Y) q := fun q hq hq2 => hI.known q hq (replT (by show q < 17; omega))
            obtain ⟨x1, hx1⟩ : ∃ v, v = val 1 := ⟨_, rfl⟩
            obtain ⟨x7, hx7⟩ : ∃ v, v = val 7 := ⟨_, rfl⟩
            obtain ⟨x13, hx13⟩ : ∃ v, v = val 13 := ⟨_, rfl⟩
            obtain ⟨x14, hx14⟩ : ∃ v, v = val 14 := ⟨_, rfl⟩
            obtain ⟨x15, hx15⟩ : ∃ v, v = val 15 := ⟨_, rfl⟩
            simp only [puts, h16, ← hx1, ← hx7, ← hx13, ← hx14, ← hx15, kn 0 (by decide) (by decide), kn 2 (by decide) (by decide), kn 3 (by decide) (by decide), kn 4 (by decide) (by decide), kn 5 (by decide) (by decide), kn 6 (by decide) (by decide), kn 8 (by decide) (by decide), kn 9 (by decide) (by decide), kn 10 (by decide) (by decide), kn 11 (by decide) (by decide), kn 12 (by decide) (by decide), cpK] at hb
            have hm7 := hI.m7 (by simp)
            rw [← hx7] at hm7 h15
            rw [← hx15] at h15
            have H15 := Lib.hid h15
            have HM7 := Lib.hid hm7
            have HBL2 := Lib.hid hI.bel
            have HOT := Lib.hid hI.oth
            clear hI h16 h15 hm7 kn hx1 hx7 hx13 hx14 hx15
            subst hb
            simp only [Act.put, List.setIfInBounds_toArray, List.set_cons_succ, List.set_cons_zero]
            go_wp2
            go_roundw
            case rel =>
              refine ⟨j + 1, by omega, by go_num, ⟨vs ++ [x7], ?_⟩, ?_, HB.out.trans HBL2.out⟩ <;> rw [HTK.out]
              · exact HCP.out.next hbw (by rw [HTL.out]; exact H15.out.1) HM7.out HOT.out H15.out.2
              · intro s hs
                rcases List.mem_append.1 hs with h | h
                · exact H35.out s h
                · simp only [List.mem_cons, List.not_mem_nil, or_false] at h; subst h; have := HLX.out; simp only; omega
            case measure => simp [intOf]; omega
          case stp =>
            intro L val W i' o b' hs ho hlF hdd hI hh hlate
            have hi' := (List.getElem?_eq_some_iff.1 ho).1
            have hcs : i' = 0 ∨ i' = 1 ∨ i' = 2 ∨ i' = 3 ∨ i' = 4 ∨ i' = 5 ∨ i' = 6 ∨ i' = 7 ∨ i' = 8 ∨ i' = 9 ∨ i' = 10 ∨ i' = 11 ∨ i' = 12 ∨ i' = 13 ∨ i' = 14 ∨ i' = 15 ∨ i' = 16 := by simp at hi'; omega
            have hLs : 16 < L.size := by simp at hs; omega
            have HI := Lib.hid hI
            have HLF := Lib.hid hlF
            have HD := Lib.hid hdd
            have HBB := Lib.hid (HB.out.trans hI.bel)
            have e1 : W.cell? ⟨b, off + j * 2, none⟩ = _ := (HBB.out.cell (p := ⟨b, off + j * 2, none⟩) HBL.out).trans P0.out
            have e2 : W.cell? ⟨b, off + j * 2 + 1, none⟩ = _ := (HBB.out.cell (p := ⟨b, off + j * 2 + 1, none⟩) HBL.out).trans P1.out
            have hxk := HKX.out.below HBB.out
            clear hi' hs hI hlF hdd
            rcases hcs with rfl | rfl | rfl | rfl | rfl | rfl | rfl | rfl | rfl | rfl | rfl | rfl | rfl | rfl | rfl | rfl | rfl
            · simp only [List.getElem?_cons_zero, Option.some.injEq] at ho
              subst ho
              have k7 := hlate 7 (by kernel_rfl)
              simp at k7
              go_simp
              exact ⟨_, rfl, HI.out.skip 0 (by decide) _ rfl⟩
            · simp only [List.getElem?_cons_zero, List.getElem?_cons_succ, Option.some.injEq] at ho
              subst ho
              go_simp
              exact ⟨_, rfl, HI.out.one hLs HLF.out⟩
            · simp only [List.getElem?_cons_zero, List.getElem?_cons_succ, Option.some.injEq] at ho
              subst ho
              have k0 := hh.kept 0 (by simp)
              simp at k0
              go_simp
              exact ⟨_, rfl, HI.out.skip 2 (by decide) _ rfl⟩
            · simp only [List.getElem?_cons_zero, List.getElem?_cons_succ, Option.some.injEq] at ho
              subst ho
              have k8 := hh.kept 8 (by simp)
              simp at k8
              go_simp
              exact ⟨_, rfl, HI.out.skip 3 (by decide) _ rfl⟩
            · simp only [List.getElem?_cons_zero, List.getElem?_cons_succ, Option.some.injEq] at ho
              subst ho
              have l2 : L.getD 2 false = true := HD.out ⟨2, .data⟩ (by simp) rfl
              have g2 := hh.got 2 _ 51 rfl rfl l2 (by simp)
              rw [HI.out.known 2 (by decide) l2] at g2
              simp [cpK] at g2
              have l3 : L.getD 3 false = true := HD.out ⟨3, .data⟩ (by simp) rfl
              have g3 := hh.got 3 _ 52 rfl rfl l3 (by simp)
              rw [HI.out.known 3 (by decide) l3] at g3
              simp [cpK] at g3
              clear l2 l3
              go_simp
              exact ⟨_, rfl, HI.out.skip 4 (by decide) _ rfl⟩
            · simp only [List.getElem?_cons_zero, List.getElem?_cons_succ, Option.some.injEq] at ho
              subst ho
              have l4 : L.getD 4 false = true := HD.out ⟨4, .data⟩ (by simp) rfl
              have g4 := hh.got 4 _ 53 rfl rfl l4 (by simp)
              rw [HI.out.known 4 (by decide) l4] at g4
              simp [cpK] at g4
              clear l4
              go_simp
              exact ⟨_, rfl, HI.out.skip 5 (by decide) _ rfl⟩
            · simp only [List.getElem?_cons_zero, List.getElem?_cons_succ, Option.some.injEq] at ho
              subst ho
              have l5 : L.getD 5 false = true := HD.out ⟨5, .data⟩ (by simp) rfl
              have g5 := hh.got 5 _ 54 rfl rfl l5 (by simp)
              rw [HI.out.known 5 (by decide) l5] at g5
              simp [cpK] at g5
              clear l5
              go_simp
              exact ⟨_, rfl, HI.out.skip 6 (by decide) _ rfl⟩
            · simp only [List.getElem?_cons_zero, List.getElem?_cons_succ, Option.some.injEq] at ho
              subst ho
              have l1 : L.getD 1 false = true := HD.out ⟨1, .data⟩ (by simp) rfl
              have l6 : L.getD 6 false = true := HD.out ⟨6, .data⟩ (by simp) rfl
              have e0 : b'.eval (.tmp 50) = val 1 := hh.got 1 _ 50 rfl rfl l1 (by simp)
              have e6 : b'.eval (.tmp 55) = _ := (hh.got 6 _ 55 rfl rfl l6 (by simp)).trans (HI.out.known 6 (by decide) l6)
              simp only [cpK] at e6
              obtain ⟨v', w', hr, hw'⟩ := HI.out.seven hLs HLF.out l1 sa LX c HLX.out (by omega) hxk 22
              unfold Oper.wp execOp
              simp only [resolve, invoke, builtin, Sem.run_bind, Sem.run_pure, Result.andThen_ok, List.map_toArray, List.map_cons, List.map_nil, e0, e6, hr]
              exact ⟨_, rfl, hw'⟩
            · simp only [List.getElem?_cons_zero, List.getElem?_cons_succ, Option.some.injEq] at ho
              subst ho
              have k0 := hh.kept 0 (by simp)
              simp at k0
              go_simp
              exact ⟨_, rfl, HI.out.skip 8 (by decide) _ rfl⟩
            · simp only [List.getElem?_cons_zero, List.getElem?_cons_succ, Option.some.injEq] at ho
              subst ho
              have k8 := hh.kept 8 (by simp)
              simp at k8
              go_simp
              exact ⟨_, rfl, HI.out.skip 9 (by decide) _ rfl⟩
            · simp only [List.getElem?_cons_zero, List.getElem?_cons_succ, Option.some.injEq] at ho
              subst ho
              have l8 : L.getD 8 false = true := HD.out ⟨8, .data⟩ (by simp) rfl
              have g8 := hh.got 8 _ 57 rfl rfl l8 (by simp)
              rw [HI.out.known 8 (by decide) l8] at g8
              simp [cpK] at g8
              have l9 : L.getD 9 false = true := HD.out ⟨9, .data⟩ (by simp) rfl
              have g9 := hh.got 9 _ 58 rfl rfl l9 (by simp)
              rw [HI.out.known 9 (by decide) l9] at g9
              simp [cpK] at g9
              clear l8 l9
              go_simp
              exact ⟨_, rfl, HI.out.skip 10 (by decide) _ rfl⟩
            · simp only [List.getElem?_cons_zero, List.getElem?_cons_succ, Option.some.injEq] at ho
              subst ho
              have l10 : L.getD 10 false = true := HD.out ⟨10, .data⟩ (by simp) rfl
              have g10 := hh.got 10 _ 59 rfl rfl l10 (by simp)
              rw [HI.out.known 10 (by decide) l10] at g10
              simp [cpK] at g10
              clear l10
              go_simp
              exact ⟨_, rfl, HI.out.skip 11 (by decide) _ rfl⟩
            · simp only [List.getElem?_cons_zero, List.getElem?_cons_succ, Option.some.injEq] at ho
              subst ho
              have l11 : L.getD 11 false = true := HD.out ⟨11, .data⟩ (by simp) rfl
              have g11 := hh.got 11 _ 60 rfl rfl l11 (by simp)
              rw [HI.out.known 11 (by decide) l11] at g11
              simp [cpK] at g11
              clear l11
              go_simp
              exact ⟨_, rfl, HI.out.skip 12 (by decide) _ rfl⟩
            · simp only [List.getElem?_cons_zero, List.getElem?_cons_succ, Option.some.injEq] at ho
              subst ho
              have l7 : L.getD 7 false = true := HD.out ⟨7, .data⟩ (by simp) rfl
              have g7 := hh.got 7 _ 56 rfl rfl l7 (by simp)
              have l12 : L.getD 12 false = true := HD.out ⟨12, .data⟩ (by simp) rfl
              have g12 := hh.got 12 _ 61 rfl rfl l12 (by simp)
              rw [HI.out.known 12 (by decide) l12] at g12
              simp [cpK] at g12
              have hbd := HI.out.build hLs HLF.out l7
              obtain ⟨a7, c7, e7⟩ := own_slC (HI.out.m7 l7)
              rw [e7] at g7 hbd
              simp at g7
              have HBD := Lib.hid hbd
              clear l7 l12 hbd e7
              go_simp
              exact ⟨_, rfl, HBD.out⟩
            · simp only [List.getElem?_cons_zero, List.getElem?_cons_succ, Option.some.injEq] at ho
              subst ho
              have l13 : L.getD 13 false = true := HD.out ⟨13, .data⟩ (by simp) rfl
              have g13 := hh.got 13 _ 62 rfl rfl l13 (by simp)
              rw [HI.out.d13 l13] at g13
              have hbd := HI.out.box hLs HLF.out l13
              obtain ⟨a7, c7, e7⟩ := own_slC (HI.out.m7 (HI.out.p13 l13))
              rw [e7] at g13 hbd
              simp at g13
              have HBD := Lib.hid hbd
              clear l13 hbd e7
              go_simp
              exact ⟨_, rfl, HBD.out⟩
            · simp only [List.getElem?_cons_zero, List.getElem?_cons_succ, Option.some.injEq] at ho
              subst ho
              have l0 : L.getD 0 false = true := HD.out ⟨0, .data⟩ (by simp) rfl
              have l14 : L.getD 14 false = true := HD.out ⟨14, .data⟩ (by simp) rfl
              have e0 : b'.eval (.tmp 49) = _ := (hh.got 0 _ 49 rfl rfl l0 (by simp)).trans (HI.out.known 0 (by decide) l0)
              have e14 : b'.eval (.tmp 63) = val 14 := hh.got 14 _ 63 rfl rfl l14 (by simp)
              simp only [cpK] at e0
              obtain ⟨v', w', hr, hw'⟩ := HI.out.app hLs HLF.out l14 (by omega) 71
              unfold Oper.wp execOp
              simp only [resolve, invoke, builtin, Sem.run_bind, Sem.run_pure, Result.andThen_ok, List.map_toArray, List.map_cons, List.map_nil, e0, e14, hr]
              exact ⟨_, rfl, hw'⟩
            · simp only [List.getElem?_cons_zero, List.getElem?_cons_succ, Option.some.injEq] at ho
              subst ho
              have l15 : L.getD 15 false = true := HD.out ⟨15, .data⟩ (by simp) rfl
              have g15 := hh.got 15 _ 64 rfl rfl l15 (by simp)
              have HL15 := Lib.hid l15
              clear l15
              go_simp
              exact ⟨_, rfl, HI.out.asg hLs HL15.out⟩
      · obtain rfl : N = j := by omega
        rw [List.take_of_length_le (by rw [← HN.out]; exact Nat.le_refl _)] at hcp
        have h35 := H35.out
        rw [List.take_of_length_le (by rw [← HN.out]; exact Nat.le_refl _)] at h35
        obtain ⟨PN, PS, PD, PE, hPN, ht1, ht2⟩ := HTT.out h35
        clear h35
        have hsm := hcp.smps
        obtain ⟨va, vc, rfl⟩ := own_slC hcp.row
        have hnl : l.length = N := HN.out.symm
        rw [hnl] at hsm ⊢
        have HSC := Lib.hid hsm
        have HBw := Lib.hid hb
        have HSW := Lib.hid (HS.out.below hb)
        have HTA := Lib.hid ht1
        have HTB := Lib.hid ht2
        clear hlj hj hb hcp hsm hnl ht1 ht2
        go_upto_region 11 with (go_at_call 43; refine (HTA.out va vc _ HSC.out).mono ?_; rintro e w1 ⟨sv, rfl, hk1, hb1⟩; obtain ⟨ga, na, ca, rfl⟩ := kform hk1; have HK1 := Lib.hid hk1; have HB1 := Lib.hid hb1; clear hk1 hb1)
        obtain ⟨W1, hW1⟩ : ∃ W, w1.alloc (.cells #[.slice ga na ca, .int .i64 PS.b, .int .i64 (PS.u : Int), .bool PD] 76) = W := ⟨_, rfl⟩
        have HBX := Lib.hid (show W1.heap[w1.heap.size]? = some (.cells #[.slice ga na ca, .int .i64 PS.b, .int .i64 (PS.u : Int), .bool PD] 76) by rw [← hW1]; exact alloc_new_at _ _ _ rfl)
        have HA1 := Lib.hid (show Below w1.heap.size w1 W1 by rw [← hW1]; exact (Below.refl _ _).alloc (Nat.le_refl _) _)
        rw [hW1]
        clear hW1
        have HK2 := Lib.hid (HK1.out.below HA1.out)
        have HBw1 := Lib.hid (HBw.out.trans (HB1.out.mono HBw.out.size))
        have HBw2 := Lib.hid (HBw1.out.trans (HA1.out.mono HBw1.out.size))
        have HSW2 := Lib.hid (HS.out.below HBw2.out)
        go_upto_region 12 with (go_at_call 44; refine (HTB.out a cap _ HSW2.out).mono ?_; rintro e w2 ⟨sv2, rfl, hk3, hb3⟩; obtain ⟨gb, nb, cb, rfl⟩ := kform hk3; have HK3 := Lib.hid hk3; have HB3 := Lib.hid hb3; clear hk3 hb3)
        obtain ⟨W2, hW2⟩ : ∃ W, w2.alloc (.cells #[.slice gb nb cb, .int .i64 PS.b, .int .i64 (PS.u : Int), .bool PD] 79) = W := ⟨_, rfl⟩
        have HBX2 := Lib.hid (show W2.heap[w2.heap.size]? = some (.cells #[.slice gb nb cb, .int .i64 PS.b, .int .i64 (PS.u : Int), .bool PD] 79) by rw [← hW2]; exact alloc_new_at _ _ _ rfl)
        have HA2 := Lib.hid (show Below w2.heap.size w2 W2 by rw [← hW2]; exact (Below.refl _ _).alloc (Nat.le_refl _) _)
        rw [hW2]
        clear hW2
        have HB12 := Lib.hid (HB3.out.trans (HA2.out.mono HB3.out.size))
        have HBX1 := Lib.hid ((HB12.out.block _ (lt_of_block HBX.out)).trans HBX.out)
        have HK12 := Lib.hid (HK2.out.below HB12.out)
        have HK32 := Lib.hid (HK3.out.below HA2.out)
        have HBw3 := Lib.hid (HBw2.out.trans (HB12.out.mono HBw2.out.size))
        obtain ⟨x0, x1, x2, x3, _, _, _, _⟩ := cells4 HBX1.out
        obtain ⟨y0, y1, y2, y3, _, _, _, _⟩ := cells4 HBX2.out
        go_wp2_with (fail)
        go_at_call 15
        refine (numbers_same _ (.slice ga na ca) (.slice gb nb cb) (by simp; omega) _ HK12.out HK32.out).mono ?_
        rintro e w4 ⟨rfl, hb4⟩
        have HBX14 := Lib.hid ((hb4.block _ (lt_of_block HBX1.out)).trans HBX1.out)
        have HBX24 := Lib.hid ((hb4.block _ (lt_of_block HBX2.out)).trans HBX2.out)
        have HBw4 := Lib.hid (HBw3.out.trans (hb4.mono HBw3.out.size))
        clear hb4 x0 x1 x2 x3 y0 y1 y2 y3
        obtain ⟨x0, x1, x2, x3, _, _, _, _⟩ := cells4 HBX14.out
        obtain ⟨y0, y1, y2, y3, _, _, _, _⟩ := cells4 HBX24.out
        go_wp2_with (go_at_call 18; refine (works_any _).mono ?_; rintro e w9 ⟨rfl, hb9⟩)
        go_ret
        exact ⟨rfl, HBw4.out.trans (hb9.mono HBw4.out.size)⟩
  · go_enter Tryz.func7, Tryz.ntmps7
    go_upto_region 4 with (fail)
    go_wp2
    go_loopw [7, 8] (fun s7 s8 wr => ∃ j : Nat, j ≤ N ∧ s8 = .int .i64 j ∧ (∃ vs, CpAt w.heap.size vs (l.take j) s7 wr) ∧ (∀ s ∈ l.take j, s.x.length ≤ 35) ∧ Below w.heap.size w wr) (fun _ s8 _ => N - (intOf s8).toNat)
    case atStart => exact ⟨0, Nat.zero_le _, rfl, ⟨[], rfl, by rw [List.take_zero]; exact World.ownsRow_nil _ _ _ _, fun i u s h _ => by simp at h⟩, fun s h => by simp at h, Below.refl _ _⟩
    case round =>
      obtain ⟨j, hj, rfl, ⟨vs, hcp⟩, h35, hb⟩ := hrel
      have H35 := Lib.hid h35
      clear h35
      have HB := Lib.hid hb
      have HCP := Lib.hid hcp
      have hj0 : (0 : Int) ≤ (j : Int) := Int.natCast_nonneg _
      by_cases hlj : j < N
      · have hj1 : (j : Int) < (N : Int) := by omega
        obtain ⟨s, hs⟩ : ∃ s, l[j]? = some s := ⟨_, List.getElem?_eq_getElem (by rw [← HN.out]; exact hlj)⟩
        obtain ⟨b, off, sa, c, rfl, hbl, p0, p1, hkx⟩ := HS.out.at hs
        have q0 := (hb.cell (p := ⟨b, off + j * 2, none⟩) hbl).trans p0
        have q1 := (hb.cell (p := ⟨b, off + j * 2 + 1, none⟩) hbl).trans p1
        obtain ⟨X, Y⟩ := s
        simp only at q0 q1 hkx p0 p1
        obtain ⟨LX, hLX⟩ : ∃ n, n = X.length := ⟨_, rfl⟩
        rw [← hLX] at q0 hkx p0
        have htl : (l.take j).length = j := by rw [List.length_take]; have := HN.out; omega
        have htk : l.take (j + 1) = l.take j ++ [⟨X, Y⟩] := by rw [List.take_add_one, hs]; rfl
        have HTL := Lib.hid htl
        have HTK := Lib.hid htk
        have HLX := Lib.hid hLX
        have HKX := Lib.hid hkx
        have HBL := Lib.hid hbl
        have P0 := Lib.hid p0
        have P1 := Lib.hid p1
        have hrow := hcp.row
        rw [htl] at hrow
        obtain ⟨va, vc, rfl⟩ := own_slC hrow
        have HROW := Lib.hid hrow
        clear hs hcp hLX hkx htl htk hrow p0 p1 hbl
        by_cases hlx : 35 < LX
        · have z5 : ((35 : Int) < (LX : Int)) = True := by simp <;> omega
          have z6 : (35 < LX) = True := by simp <;> omega
          clear hb
          go_wp2_with (go_at_call 18; refine (works_any _).mono ?_; rintro e w9 ⟨rfl, hb9⟩)
          go_ret
          exact ⟨rfl, HB.out.trans (hb9.mono HB.out.size)⟩
        · have z5 : ((35 : Int) < (LX : Int)) = False := by simp <;> omega
          have z6 : (35 < LX) = False := by simp <;> omega
          have hbw : w.heap.size ≤ wr.heap.size := hb.size
          clear hb
          go_upto_region 9 with (fail)
          clear q0 q1
          refine wp_region_late (CpR wr w.heap.size j (smpCs vs (l.take j)) X Y (.slice va j vc) (cpK (.slice va j vc) b off N cap sa LX c j Y)) (by kernel_rfl) (by kernel_rfl) (by kernel_rfl) (by kernel_rfl) (CpR.init _ hbw HROW.out) ?stp ?dn
          case dn =>
            intro val W b' hI hb
            have h16 := hI.e16 (by simp)
            have h15 := hI.m15 (by simp)
            have kn : ∀ q, [1, 7, 13, 14, 15, 16].contains q = false → q < 17 → val q = (cpK (.slice va j vc) b off N cap sa LX c j Y) q := fun q hq hq2 => hI.known q hq (replT (by show q < 17; omega))
            obtain ⟨x1, hx1⟩ : ∃ v, v = val 1 := ⟨_, rfl⟩
            obtain ⟨x7, hx7⟩ : ∃ v, v = val 7 := ⟨_, rfl⟩
            obtain ⟨x13, hx13⟩ : ∃ v, v = val 13 := ⟨_, rfl⟩
            obtain ⟨x14, hx14⟩ : ∃ v, v = val 14 := ⟨_, rfl⟩
            obtain ⟨x15, hx15⟩ : ∃ v, v = val 15 := ⟨_, rfl⟩
            simp only [puts, h16, ← hx1, ← hx7, ← hx13, ← hx14, ← hx15, kn 0 (by decide) (by decide), kn 2 (by decide) (by decide), kn 3 (by decide) (by decide), kn 4 (by decide) (by decide), kn 5 (by decide) (by decide), kn 6 (by decide) (by decide), kn 8 (by decide) (by decide), kn 9 (by decide) (by decide), kn 10 (by decide) (by decide), kn 11 (by decide) (by decide), kn 12 (by decide) (by decide), cpK] at hb
            have hm7 := hI.m7 (by simp)
            rw [← hx7] at hm7 h15
            rw [← hx15] at h15
            have H15 := Lib.hid h15
            have HM7 := Lib.hid hm7
            have HBL2 := Lib.hid hI.bel
            have HOT := Lib.hid hI.oth
            clear hI h16 h15 hm7 kn hx1 hx7 hx13 hx14 hx15
            subst hb
            simp only [Act.put, List.setIfInBounds_toArray, List.set_cons_succ, List.set_cons_zero]
            go_wp2
            go_roundw
            case rel =>
              refine ⟨j + 1, by omega, by go_num, ⟨vs ++ [x7], ?_⟩, ?_, HB.out.trans HBL2.out⟩ <;> rw [HTK.out]
              · exact HCP.out.next hbw (by rw [HTL.out]; exact H15.out.1) HM7.out HOT.out H15.out.2
              · intro s hs
                rcases List.mem_append.1 hs with h | h
                · exact H35.out s h
                · simp only [List.mem_cons, List.not_mem_nil, or_false] at h; subst h; have := HLX.out; simp only; omega
            case measure => simp [intOf]; omega
          case stp =>
            intro L val W i' o b' hs ho hlF hdd hI hh hlate
            have hi' := (List.getElem?_eq_some_iff.1 ho).1
            have hcs : i' = 0 ∨ i' = 1 ∨ i' = 2 ∨ i' = 3 ∨ i' = 4 ∨ i' = 5 ∨ i' = 6 ∨ i' = 7 ∨ i' = 8 ∨ i' = 9 ∨ i' = 10 ∨ i' = 11 ∨ i' = 12 ∨ i' = 13 ∨ i' = 14 ∨ i' = 15 ∨ i' = 16 := by simp at hi'; omega
            have hLs : 16 < L.size := by simp at hs; omega
            have HI := Lib.hid hI
            have HLF := Lib.hid hlF
            have HD := Lib.hid hdd
            have HBB := Lib.hid (HB.out.trans hI.bel)
            have e1 : W.cell? ⟨b, off + j * 2, none⟩ = _ := (HBB.out.cell (p := ⟨b, off + j * 2, none⟩) HBL.out).trans P0.out
            have e2 : W.cell? ⟨b, off + j * 2 + 1, none⟩ = _ := (HBB.out.cell (p := ⟨b, off + j * 2 + 1, none⟩) HBL.out).trans P1.out
            have hxk := HKX.out.below HBB.out
            clear hi' hs hI hlF hdd
            rcases hcs with rfl | rfl | rfl | rfl | rfl | rfl | rfl | rfl | rfl | rfl | rfl | rfl | rfl | rfl | rfl | rfl | rfl
            · simp only [List.getElem?_cons_zero, Option.some.injEq] at ho
              subst ho
              have k7 := hlate 7 (by kernel_rfl)
              simp at k7
              go_simp
              exact ⟨_, rfl, HI.out.skip 0 (by decide) _ rfl⟩
            · simp only [List.getElem?_cons_zero, List.getElem?_cons_succ, Option.some.injEq] at ho
              subst ho
              go_simp
              exact ⟨_, rfl, HI.out.one hLs HLF.out⟩
            · simp only [List.getElem?_cons_zero, List.getElem?_cons_succ, Option.some.injEq] at ho
              subst ho
              have k0 := hh.kept 0 (by simp)
              simp at k0
              go_simp
              exact ⟨_, rfl, HI.out.skip 2 (by decide) _ rfl⟩
            · simp only [List.getElem?_cons_zero, List.getElem?_cons_succ, Option.some.injEq] at ho
              subst ho
              have k8 := hh.kept 8 (by simp)
              simp at k8
              go_simp
              exact ⟨_, rfl, HI.out.skip 3 (by decide) _ rfl⟩
            · simp only [List.getElem?_cons_zero, List.getElem?_cons_succ, Option.some.injEq] at ho
              subst ho
              have l2 : L.getD 2 false = true := HD.out ⟨2, .data⟩ (by simp) rfl
              have g2 := hh.got 2 _ 51 rfl rfl l2 (by simp)
              rw [HI.out.known 2 (by decide) l2] at g2
              simp [cpK] at g2
              have l3 : L.getD 3 false = true := HD.out ⟨3, .data⟩ (by simp) rfl
              have g3 := hh.got 3 _ 52 rfl rfl l3 (by simp)
              rw [HI.out.known 3 (by decide) l3] at g3
              simp [cpK] at g3
              clear l2 l3
              go_simp
              exact ⟨_, rfl, HI.out.skip 4 (by decide) _ rfl⟩
            · simp only [List.getElem?_cons_zero, List.getElem?_cons_succ, Option.some.injEq] at ho
              subst ho
              have l4 : L.getD 4 false = true := HD.out ⟨4, .data⟩ (by simp) rfl
              have g4 := hh.got 4 _ 53 rfl rfl l4 (by simp)
              rw [HI.out.known 4 (by decide) l4] at g4
              simp [cpK] at g4
              clear l4
              go_simp
              exact ⟨_, rfl, HI.out.skip 5 (by decide) _ rfl⟩
            · simp only [List.getElem?_cons_zero, List.getElem?_cons_succ, Option.some.injEq] at ho
              subst ho
              have l5 : L.getD 5 false = true := HD.out ⟨5, .data⟩ (by simp) rfl
              have g5 := hh.got 5 _ 54 rfl rfl l5 (by simp)
              rw [HI.out.known 5 (by decide) l5] at g5
              simp [cpK] at g5
              clear l5
              go_simp
              exact ⟨_, rfl, HI.out.skip 6 (by decide) _ rfl⟩
            · simp only [List.getElem?_cons_zero, List.getElem?_cons_succ, Option.some.injEq] at ho
              subst ho
              have l1 : L.getD 1 false = true := HD.out ⟨1, .data⟩ (by simp) rfl
              have l6 : L.getD 6 false = true := HD.out ⟨6, .data⟩ (by simp) rfl
              have e0 : b'.eval (.tmp 50) = val 1 := hh.got 1 _ 50 rfl rfl l1 (by simp)
              have e6 : b'.eval (.tmp 55) = _ := (hh.got 6 _ 55 rfl rfl l6 (by simp)).trans (HI.out.known 6 (by decide) l6)
              simp only [cpK] at e6
              obtain ⟨v', w', hr, hw'⟩ := HI.out.seven hLs HLF.out l1 sa LX c HLX.out (by omega) hxk 22
              unfold Oper.wp execOp
              simp only [resolve, invoke, builtin, Sem.run_bind, Sem.run_pure, Result.andThen_ok, List.map_toArray, List.map_cons, List.map_nil, e0, e6, hr]
              exact ⟨_, rfl, hw'⟩
            · simp only [List.getElem?_cons_zero, List.getElem?_cons_succ, Option.some.injEq] at ho
              subst ho
              have k0 := hh.kept 0 (by simp)
              simp at k0
              go_simp
              exact ⟨_, rfl, HI.out.skip 8 (by decide) _ rfl⟩
            · simp only [List.getElem?_cons_zero, List.getElem?_cons_succ, Option.some.injEq] at ho
              subst ho
              have k8 := hh.kept 8 (by simp)
              simp at k8
              go_simp
              exact ⟨_, rfl, HI.out.skip 9 (by decide) _ rfl⟩
            · simp only [List.getElem?_cons_zero, List.getElem?_cons_succ, Option.some.injEq] at ho
              subst ho
              have l8 : L.getD 8 false = true := HD.out ⟨8, .data⟩ (by simp) rfl
              have g8 := hh.got 8 _ 57 rfl rfl l8 (by simp)
              rw [HI.out.known 8 (by decide) l8] at g8
              simp [cpK] at g8
              have l9 : L.getD 9 false = true := HD.out ⟨9, .data⟩ (by simp) rfl
              have g9 := hh.got 9 _ 58 rfl rfl l9 (by simp)
              rw [HI.out.known 9 (by decide) l9] at g9
              simp [cpK] at g9
              clear l8 l9
              go_simp
              exact ⟨_, rfl, HI.out.skip 10 (by decide) _ rfl⟩
            · simp only [List.getElem?_cons_zero, List.getElem?_cons_succ, Option.some.injEq] at ho
              subst ho
              have l10 : L.getD 10 false = true := HD.out ⟨10, .data⟩ (by simp) rfl
              have g10 := hh.got 10 _ 59 rfl rfl l10 (by simp)
              rw [HI.out.known 10 (by decide) l10] at g10
              simp [cpK] at g10
              clear l10
              go_simp
              exact ⟨_, rfl, HI.out.skip 11 (by decide) _ rfl⟩
            · simp only [List.getElem?_cons_zero, List.getElem?_cons_succ, Option.some.injEq] at ho
              subst ho
              have l11 : L.getD 11 false = true := HD.out ⟨11, .data⟩ (by simp) rfl
              have g11 := hh.got 11 _ 60 rfl rfl l11 (by simp)
              rw [HI.out.known 11 (by decide) l11] at g11
              simp [cpK] at g11
              clear l11
              go_simp
              exact ⟨_, rfl, HI.out.skip 12 (by decide) _ rfl⟩
            · simp only [List.getElem?_cons_zero, List.getElem?_cons_succ, Option.some.injEq] at ho
              subst ho
              have l7 : L.getD 7 false = true := HD.out ⟨7, .data⟩ (by simp) rfl
              have g7 := hh.got 7 _ 56 rfl rfl l7 (by simp)
              have l12 : L.getD 12 false = true := HD.out ⟨12, .data⟩ (by simp) rfl
              have g12 := hh.got 12 _ 61 rfl rfl l12 (by simp)
              rw [HI.out.known 12 (by decide) l12] at g12
              simp [cpK] at g12
              have hbd := HI.out.build hLs HLF.out l7
              obtain ⟨a7, c7, e7⟩ := own_slC (HI.out.m7 l7)
              rw [e7] at g7 hbd
              simp at g7
              have HBD := Lib.hid hbd
              clear l7 l12 hbd e7
              go_simp
              exact ⟨_, rfl, HBD.out⟩
            · simp only [List.getElem?_cons_zero, List.getElem?_cons_succ, Option.some.injEq] at ho
              subst ho
              have l13 : L.getD 13 false = true := HD.out ⟨13, .data⟩ (by simp) rfl
              have g13 := hh.got 13 _ 62 rfl rfl l13 (by simp)
              rw [HI.out.d13 l13] at g13
              have hbd := HI.out.box hLs HLF.out l13
              obtain ⟨a7, c7, e7⟩ := own_slC (HI.out.m7 (HI.out.p13 l13))
              rw [e7] at g13 hbd
              simp at g13
              have HBD := Lib.hid hbd
              clear l13 hbd e7
              go_simp
              exact ⟨_, rfl, HBD.out⟩
            · simp only [List.getElem?_cons_zero, List.getElem?_cons_succ, Option.some.injEq] at ho
              subst ho
              have l0 : L.getD 0 false = true := HD.out ⟨0, .data⟩ (by simp) rfl
              have l14 : L.getD 14 false = true := HD.out ⟨14, .data⟩ (by simp) rfl
              have e0 : b'.eval (.tmp 49) = _ := (hh.got 0 _ 49 rfl rfl l0 (by simp)).trans (HI.out.known 0 (by decide) l0)
              have e14 : b'.eval (.tmp 63) = val 14 := hh.got 14 _ 63 rfl rfl l14 (by simp)
              simp only [cpK] at e0
              obtain ⟨v', w', hr, hw'⟩ := HI.out.app hLs HLF.out l14 (by omega) 71
              unfold Oper.wp execOp
              simp only [resolve, invoke, builtin, Sem.run_bind, Sem.run_pure, Result.andThen_ok, List.map_toArray, List.map_cons, List.map_nil, e0, e14, hr]
              exact ⟨_, rfl, hw'⟩
            · simp only [List.getElem?_cons_zero, List.getElem?_cons_succ, Option.some.injEq] at ho
              subst ho
              have l15 : L.getD 15 false = true := HD.out ⟨15, .data⟩ (by simp) rfl
              have g15 := hh.got 15 _ 64 rfl rfl l15 (by simp)
              have HL15 := Lib.hid l15
              clear l15
              go_simp
              exact ⟨_, rfl, HI.out.asg hLs HL15.out⟩
      · obtain rfl : N = j := by omega
        rw [List.take_of_length_le (by rw [← HN.out]; exact Nat.le_refl _)] at hcp
        have h35 := H35.out
        rw [List.take_of_length_le (by rw [← HN.out]; exact Nat.le_refl _)] at h35
        obtain ⟨PN, PS, PD, PE, hPN, ht1, ht2⟩ := HTT.out h35
        clear h35
        have hsm := hcp.smps
        obtain ⟨va, vc, rfl⟩ := own_slC hcp.row
        have hnl : l.length = N := HN.out.symm
        rw [hnl] at hsm ⊢
        have HSC := Lib.hid hsm
        have HBw := Lib.hid hb
        have HSW := Lib.hid (HS.out.below hb)
        have HTA := Lib.hid ht1
        have HTB := Lib.hid ht2
        clear hlj hj hb hcp hsm hnl ht1 ht2
        go_upto_region 11 with (go_at_call 43; refine (HTA.out va vc _ HSC.out).mono ?_; rintro e w1 ⟨sv, rfl, hk1, hb1⟩; obtain ⟨ga, na, ca, rfl⟩ := kform hk1; have HK1 := Lib.hid hk1; have HB1 := Lib.hid hb1; clear hk1 hb1)
        obtain ⟨W1, hW1⟩ : ∃ W, w1.alloc (.cells #[.slice ga na ca, .int .i64 PS.b, .int .i64 (PS.u : Int), .bool PD] 76) = W := ⟨_, rfl⟩
        have HBX := Lib.hid (show W1.heap[w1.heap.size]? = some (.cells #[.slice ga na ca, .int .i64 PS.b, .int .i64 (PS.u : Int), .bool PD] 76) by rw [← hW1]; exact alloc_new_at _ _ _ rfl)
        have HA1 := Lib.hid (show Below w1.heap.size w1 W1 by rw [← hW1]; exact (Below.refl _ _).alloc (Nat.le_refl _) _)
        rw [hW1]
        clear hW1
        have HK2 := Lib.hid (HK1.out.below HA1.out)
        have HBw1 := Lib.hid (HBw.out.trans (HB1.out.mono HBw.out.size))
        have HBw2 := Lib.hid (HBw1.out.trans (HA1.out.mono HBw1.out.size))
        have HSW2 := Lib.hid (HS.out.below HBw2.out)
        go_upto_region 12 with (go_at_call 44; refine (HTB.out a cap _ HSW2.out).mono ?_; rintro e w2 ⟨sv2, rfl, hk3, hb3⟩; obtain ⟨gb, nb, cb, rfl⟩ := kform hk3; have HK3 := Lib.hid hk3; have HB3 := Lib.hid hb3; clear hk3 hb3)
        obtain ⟨W2, hW2⟩ : ∃ W, w2.alloc (.cells #[.slice gb nb cb, .int .i64 PS.b, .int .i64 (PS.u : Int), .bool PD] 79) = W := ⟨_, rfl⟩
        have HBX2 := Lib.hid (show W2.heap[w2.heap.size]? = some (.cells #[.slice gb nb cb, .int .i64 PS.b, .int .i64 (PS.u : Int), .bool PD] 79) by rw [← hW2]; exact alloc_new_at _ _ _ rfl)
        have HA2 := Lib.hid (show Below w2.heap.size w2 W2 by rw [← hW2]; exact (Below.refl _ _).alloc (Nat.le_refl _) _)
        rw [hW2]
        clear hW2
        have HB12 := Lib.hid (HB3.out.trans (HA2.out.mono HB3.out.size))
        have HBX1 := Lib.hid ((HB12.out.block _ (lt_of_block HBX.out)).trans HBX.out)
        have HK12 := Lib.hid (HK2.out.below HB12.out)
        have HK32 := Lib.hid (HK3.out.below HA2.out)
        have HBw3 := Lib.hid (HBw2.out.trans (HB12.out.mono HBw2.out.size))
        obtain ⟨x0, x1, x2, x3, _, _, _, _⟩ := cells4 HBX1.out
        obtain ⟨y0, y1, y2, y3, _, _, _, _⟩ := cells4 HBX2.out
        go_wp2_with (fail)
        go_at_call 15
        refine (numbers_same _ (.slice ga na ca) (.slice gb nb cb) (by simp; omega) _ HK12.out HK32.out).mono ?_
        rintro e w4 ⟨rfl, hb4⟩
        have HBX14 := Lib.hid ((hb4.block _ (lt_of_block HBX1.out)).trans HBX1.out)
        have HBX24 := Lib.hid ((hb4.block _ (lt_of_block HBX2.out)).trans HBX2.out)
        have HBw4 := Lib.hid (HBw3.out.trans (hb4.mono HBw3.out.size))
        clear hb4 x0 x1 x2 x3 y0 y1 y2 y3
        obtain ⟨x0, x1, x2, x3, _, _, _, _⟩ := cells4 HBX14.out
        obtain ⟨y0, y1, y2, y3, _, _, _, _⟩ := cells4 HBX24.out
        go_wp2_with (go_at_call 18; refine (works_any _).mono ?_; rintro e w9 ⟨rfl, hb9⟩)
        go_ret
        exact ⟨rfl, HBw4.out.trans (hb9.mono HBw4.out.size)⟩
  · go_enter Tryz.func7, Tryz.ntmps7
    go_upto_region 4 with (fail)
    go_wp2
    go_loopw [7, 8] (fun s7 s8 wr => ∃ j : Nat, j ≤ N ∧ s8 = .int .i64 j ∧ (∃ vs, CpAt w.heap.size vs (l.take j) s7 wr) ∧ (∀ s ∈ l.take j, s.x.length ≤ 35) ∧ Below w.heap.size w wr) (fun _ s8 _ => N - (intOf s8).toNat)
    case atStart => exact ⟨0, Nat.zero_le _, rfl, ⟨[], rfl, by rw [List.take_zero]; exact World.ownsRow_nil _ _ _ _, fun i u s h _ => by simp at h⟩, fun s h => by simp at h, Below.refl _ _⟩
    case round =>
      obtain ⟨j, hj, rfl, ⟨vs, hcp⟩, h35, hb⟩ := hrel
      have H35 := Lib.hid h35
      clear h35
      have HB := Lib.hid hb
      have HCP := Lib.hid hcp
      have hj0 : (0 : Int) ≤ (j : Int) := Int.natCast_nonneg _
      by_cases hlj : j < N
      · have hj1 : (j : Int) < (N : Int) := by omega
        obtain ⟨s, hs⟩ : ∃ s, l[j]? = some s := ⟨_, List.getElem?_eq_getElem (by rw [← HN.out]; exact hlj)⟩
        obtain ⟨b, off, sa, c, rfl, hbl, p0, p1, hkx⟩ := HS.out.at hs
        have q0 := (hb.cell (p := ⟨b, off + j * 2, none⟩) hbl).trans p0
        have q1 := (hb.cell (p := ⟨b, off + j * 2 + 1, none⟩) hbl).trans p1
        obtain ⟨X, Y⟩ := s
        simp only at q0 q1 hkx p0 p1
        obtain ⟨LX, hLX⟩ : ∃ n, n = X.length := ⟨_, rfl⟩
        rw [← hLX] at q0 hkx p0
        have htl : (l.take j).length = j := by rw [List.length_take]; have := HN.out; omega
        have htk : l.take (j + 1) = l.take j ++ [⟨X, Y⟩] := by rw [List.take_add_one, hs]; rfl
        have HTL := Lib.hid htl
        have HTK := Lib.hid htk
        have HLX := Lib.hid hLX
        have HKX := Lib.hid hkx
        have HBL := Lib.hid hbl
        have P0 := Lib.hid p0
        have P1 := Lib.hid p1
        have hrow := hcp.row
        rw [htl] at hrow
        obtain ⟨va, vc, rfl⟩ := own_slC hrow
        have HROW := Lib.hid hrow
        clear hs hcp hLX hkx htl htk hrow p0 p1 hbl
        by_cases hlx : 35 < LX
        · have z5 : ((35 : Int) < (LX : Int)) = True := by simp <;> omega
          have z6 : (35 < LX) = True := by simp <;> omega
          clear hb
          go_wp2_with (go_at_call 18; refine (works_any _).mono ?_; rintro e w9 ⟨rfl, hb9⟩)
          go_ret
          exact ⟨rfl, HB.out.trans (hb9.mono HB.out.size)⟩
        · have z5 : ((35 : Int) < (LX : Int)) = False := by simp <;> omega
          have z6 : (35 < LX) = False := by simp <;> omega
          have hbw : w.heap.size ≤ wr.heap.size := hb.size
          clear hb
          go_upto_region 9 with (fail)
          clear q0 q1
          refine wp_region_late (CpR wr w.heap.size j (smpCs vs (l.take j)) X Y (.slice va j vc) (cpK (.slice va j vc) b off N cap sa LX c j Y)) (by kernel_rfl) (by kernel_rfl) (by kernel_rfl) (by kernel_rfl) (CpR.init _ hbw HROW.out) ?stp ?dn
          case dn =>
            intro val W b' hI hb
            have h16 := hI.e16 (by simp)
            have h15 := hI.m15 (by simp)
            have kn : ∀ q, [1, 7, 13, 14, 15, 16].contains q = false → q < 17 → val q = (cpK (.slice va j vc) b off N cap sa LX c j Y) q := fun q hq hq2 => hI.known q hq (replT (by show q < 17; omega))
            obtain ⟨x1, hx1⟩ : ∃ v, v = val 1 := ⟨_, rfl⟩
            obtain ⟨x7, hx7⟩ : ∃ v, v = val 7 := ⟨_, rfl⟩
            obtain ⟨x13, hx13⟩ : ∃ v, v = val 13 := ⟨_, rfl⟩
            obtain ⟨x14, hx14⟩ : ∃ v, v = val 14 := ⟨_, rfl⟩
            obtain ⟨x15, hx15⟩ : ∃ v, v = val 15 := ⟨_, rfl⟩
            simp only [puts, h16, ← hx1, ← hx7, ← hx13, ← hx14, ← hx15, kn 0 (by decide) (by decide), kn 2 (by decide) (by decide), kn 3 (by decide) (by decide), kn 4 (by decide) (by decide), kn 5 (by decide) (by decide), kn 6 (by decide) (by decide), kn 8 (by decide) (by decide), kn 9 (by decide) (by decide), kn 10 (by decide) (by decide), kn 11 (by decide) (by decide), kn 12 (by decide) (by decide), cpK] at hb
            have hm7 := hI.m7 (by simp)
            rw [← hx7] at hm7 h15
            rw [← hx15] at h15
            have H15 := Lib.hid h15
            have HM7 := Lib.hid hm7
            have HBL2 := Lib.hid hI.bel
            have HOT := Lib.hid hI.oth
            clear hI h16 h15 hm7 kn hx1 hx7 hx13 hx14 hx15
            subst hb
            simp only [Act.put, List.setIfInBounds_toArray, List.set_cons_succ, List.set_cons_zero]
            go_wp2
            go_roundw
            case rel =>
              refine ⟨j + 1, by omega, by go_num, ⟨vs ++ [x7], ?_⟩, ?_, HB.out.trans HBL2.out⟩ <;> rw [HTK.out]
              · exact HCP.out.next hbw (by rw [HTL.out]; exact H15.out.1) HM7.out HOT.out H15.out.2
              · intro s hs
                rcases List.mem_append.1 hs with h | h
                · exact H35.out s h
                · simp only [List.mem_cons, List.not_mem_nil, or_false] at h; subst h; have := HLX.out; simp only; omega
            case measure => simp [intOf]; omega
          case stp =>
            intro L val W i' o b' hs ho hlF hdd hI hh hlate
            have hi' := (List.getElem?_eq_some_iff.1 ho).1
            have hcs : i' = 0 ∨ i' = 1 ∨ i' = 2 ∨ i' = 3 ∨ i' = 4 ∨ i' = 5 ∨ i' = 6 ∨ i' = 7 ∨ i' = 8 ∨ i' = 9 ∨ i' = 10 ∨ i' = 11 ∨ i' = 12 ∨ i' = 13 ∨ i' = 14 ∨ i' = 15 ∨ i' = 16 := by simp at hi'; omega
            have hLs : 16 < L.size := by simp at hs; omega
            have HI := Lib.hid hI
            have HLF := Lib.hid hlF
            have HD := Lib.hid hdd
            have HBB := Lib.hid (HB.out.trans hI.bel)
            have e1 : W.cell? ⟨b, off + j * 2, none⟩ = _ := (HBB.out.cell (p := ⟨b, off + j * 2, none⟩) HBL.out).trans P0.out
            have e2 : W.cell? ⟨b, off + j * 2 + 1, none⟩ = _ := (HBB.out.cell (p := ⟨b, off + j * 2 + 1, none⟩) HBL.out).trans P1.out
            have hxk := HKX.out.below HBB.out
            clear hi' hs hI hlF hdd
            rcases hcs with rfl | rfl | rfl | rfl | rfl | rfl | rfl | rfl | rfl | rfl | rfl | rfl | rfl | rfl | rfl | rfl | rfl
            · simp only [List.getElem?_cons_zero, Option.some.injEq] at ho
              subst ho
              have k7 := hlate 7 (by kernel_rfl)
              simp at k7
              go_simp
              exact ⟨_, rfl, HI.out.skip 0 (by decide) _ rfl⟩
            · simp only [List.getElem?_cons_zero, List.getElem?_cons_succ, Option.some.injEq] at ho
              subst ho
              go_simp
              exact ⟨_, rfl, HI.out.one hLs HLF.out⟩
            · simp only [List.getElem?_cons_zero, List.getElem?_cons_succ, Option.some.injEq] at ho
              subst ho
              have k0 := hh.kept 0 (by simp)
              simp at k0
              go_simp
              exact ⟨_, rfl, HI.out.skip 2 (by decide) _ rfl⟩
            · simp only [List.getElem?_cons_zero, List.getElem?_cons_succ, Option.some.injEq] at ho
              subst ho
              have k8 := hh.kept 8 (by simp)
              simp at k8
              go_simp
              exact ⟨_, rfl, HI.out.skip 3 (by decide) _ rfl⟩
            · simp only [List.getElem?_cons_zero, List.getElem?_cons_succ, Option.some.injEq] at ho
              subst ho
              have l2 : L.getD 2 false = true := HD.out ⟨2, .data⟩ (by simp) rfl
              have g2 := hh.got 2 _ 51 rfl rfl l2 (by simp)
              rw [HI.out.known 2 (by decide) l2] at g2
              simp [cpK] at g2
              have l3 : L.getD 3 false = true := HD.out ⟨3, .data⟩ (by simp) rfl
              have g3 := hh.got 3 _ 52 rfl rfl l3 (by simp)
              rw [HI.out.known 3 (by decide) l3] at g3
              simp [cpK] at g3
              clear l2 l3
              go_simp
              exact ⟨_, rfl, HI.out.skip 4 (by decide) _ rfl⟩
            · simp only [List.getElem?_cons_zero, List.getElem?_cons_succ, Option.some.injEq] at ho
              subst ho
              have l4 : L.getD 4 false = true := HD.out ⟨4, .data⟩ (by simp) rfl
              have g4 := hh.got 4 _ 53 rfl rfl l4 (by simp)
              rw [HI.out.known 4 (by decide) l4] at g4
              simp [cpK] at g4
              clear l4
              go_simp
              exact ⟨_, rfl, HI.out.skip 5 (by decide) _ rfl⟩
            · simp only [List.getElem?_cons_zero, List.getElem?_cons_succ, Option.some.injEq] at ho
              subst ho
              have l5 : L.getD 5 false = true := HD.out ⟨5, .data⟩ (by simp) rfl
              have g5 := hh.got 5 _ 54 rfl rfl l5 (by simp)
              rw [HI.out.known 5 (by decide) l5] at g5
              simp [cpK] at g5
              clear l5
              go_simp
              exact ⟨_, rfl, HI.out.skip 6 (by decide) _ rfl⟩
            · simp only [List.getElem?_cons_zero, List.getElem?_cons_succ, Option.some.injEq] at ho
              subst ho
              have l1 : L.getD 1 false = true := HD.out ⟨1, .data⟩ (by simp) rfl
              have l6 : L.getD 6 false = true := HD.out ⟨6, .data⟩ (by simp) rfl
              have e0 : b'.eval (.tmp 50) = val 1 := hh.got 1 _ 50 rfl rfl l1 (by simp)
              have e6 : b'.eval (.tmp 55) = _ := (hh.got 6 _ 55 rfl rfl l6 (by simp)).trans (HI.out.known 6 (by decide) l6)
              simp only [cpK] at e6
              obtain ⟨v', w', hr, hw'⟩ := HI.out.seven hLs HLF.out l1 sa LX c HLX.out (by omega) hxk 22
              unfold Oper.wp execOp
              simp only [resolve, invoke, builtin, Sem.run_bind, Sem.run_pure, Result.andThen_ok, List.map_toArray, List.map_cons, List.map_nil, e0, e6, hr]
              exact ⟨_, rfl, hw'⟩
            · simp only [List.getElem?_cons_zero, List.getElem?_cons_succ, Option.some.injEq] at ho
              subst ho
              have k0 := hh.kept 0 (by simp)
              simp at k0
              go_simp
              exact ⟨_, rfl, HI.out.skip 8 (by decide) _ rfl⟩
            · simp only [List.getElem?_cons_zero, List.getElem?_cons_succ, Option.some.injEq] at ho
              subst ho
              have k8 := hh.kept 8 (by simp)
              simp at k8
              go_simp
              exact ⟨_, rfl, HI.out.skip 9 (by decide) _ rfl⟩
            · simp only [List.getElem?_cons_zero, List.getElem?_cons_succ, Option.some.injEq] at ho
              subst ho
              have l8 : L.getD 8 false = true := HD.out ⟨8, .data⟩ (by simp) rfl
              have g8 := hh.got 8 _ 57 rfl rfl l8 (by simp)
              rw [HI.out.known 8 (by decide) l8] at g8
              simp [cpK] at g8
              have l9 : L.getD 9 false = true := HD.out ⟨9, .data⟩ (by simp) rfl
              have g9 := hh.got 9 _ 58 rfl rfl l9 (by simp)
              rw [HI.out.known 9 (by decide) l9] at g9
              simp [cpK] at g9
              clear l8 l9
              go_simp
              exact ⟨_, rfl, HI.out.skip 10 (by decide) _ rfl⟩
            · simp only [List.getElem?_cons_zero, List.getElem?_cons_succ, Option.some.injEq] at ho
              subst ho
              have l10 : L.getD 10 false = true := HD.out ⟨10, .data⟩ (by simp) rfl
              have g10 := hh.got 10 _ 59 rfl rfl l10 (by simp)
              rw [HI.out.known 10 (by decide) l10] at g10
              simp [cpK] at g10
              clear l10
              go_simp
              exact ⟨_, rfl, HI.out.skip 11 (by decide) _ rfl⟩
            · simp only [List.getElem?_cons_zero, List.getElem?_cons_succ, Option.some.injEq] at ho
              subst ho
              have l11 : L.getD 11 false = true := HD.out ⟨11, .data⟩ (by simp) rfl
              have g11 := hh.got 11 _ 60 rfl rfl l11 (by simp)
              rw [HI.out.known 11 (by decide) l11] at g11
              simp [cpK] at g11
              clear l11
              go_simp
              exact ⟨_, rfl, HI.out.skip 12 (by decide) _ rfl⟩
            · simp only [List.getElem?_cons_zero, List.getElem?_cons_succ, Option.some.injEq] at ho
              subst ho
              have l7 : L.getD 7 false = true := HD.out ⟨7, .data⟩ (by simp) rfl
              have g7 := hh.got 7 _ 56 rfl rfl l7 (by simp)
              have l12 : L.getD 12 false = true := HD.out ⟨12, .data⟩ (by simp) rfl
              have g12 := hh.got 12 _ 61 rfl rfl l12 (by simp)
              rw [HI.out.known 12 (by decide) l12] at g12
              simp [cpK] at g12
              have hbd := HI.out.build hLs HLF.out l7
              obtain ⟨a7, c7, e7⟩ := own_slC (HI.out.m7 l7)
              rw [e7] at g7 hbd
              simp at g7
              have HBD := Lib.hid hbd
              clear l7 l12 hbd e7
              go_simp
              exact ⟨_, rfl, HBD.out⟩
            · simp only [List.getElem?_cons_zero, List.getElem?_cons_succ, Option.some.injEq] at ho
              subst ho
              have l13 : L.getD 13 false = true := HD.out ⟨13, .data⟩ (by simp) rfl
              have g13 := hh.got 13 _ 62 rfl rfl l13 (by simp)
              rw [HI.out.d13 l13] at g13
              have hbd := HI.out.box hLs HLF.out l13
              obtain ⟨a7, c7, e7⟩ := own_slC (HI.out.m7 (HI.out.p13 l13))
              rw [e7] at g13 hbd
              simp at g13
              have HBD := Lib.hid hbd
              clear l13 hbd e7
              go_simp
              exact ⟨_, rfl, HBD.out⟩
            · simp only [List.getElem?_cons_zero, List.getElem?_cons_succ, Option.some.injEq] at ho
              subst ho
              have l0 : L.getD 0 false = true := HD.out ⟨0, .data⟩ (by simp) rfl
              have l14 : L.getD 14 false = true := HD.out ⟨14, .data⟩ (by simp) rfl
              have e0 : b'.eval (.tmp 49) = _ := (hh.got 0 _ 49 rfl rfl l0 (by simp)).trans (HI.out.known 0 (by decide) l0)
              have e14 : b'.eval (.tmp 63) = val 14 := hh.got 14 _ 63 rfl rfl l14 (by simp)
              simp only [cpK] at e0
              obtain ⟨v', w', hr, hw'⟩ := HI.out.app hLs HLF.out l14 (by omega) 71
              unfold Oper.wp execOp
              simp only [resolve, invoke, builtin, Sem.run_bind, Sem.run_pure, Result.andThen_ok, List.map_toArray, List.map_cons, List.map_nil, e0, e14, hr]
              exact ⟨_, rfl, hw'⟩
            · simp only [List.getElem?_cons_zero, List.getElem?_cons_succ, Option.some.injEq] at ho
              subst ho
              have l15 : L.getD 15 false = true := HD.out ⟨15, .data⟩ (by simp) rfl
              have g15 := hh.got 15 _ 64 rfl rfl l15 (by simp)
              have HL15 := Lib.hid l15
              clear l15
              go_simp
              exact ⟨_, rfl, HI.out.asg hLs HL15.out⟩
      · obtain rfl : N = j := by omega
        rw [List.take_of_length_le (by rw [← HN.out]; exact Nat.le_refl _)] at hcp
        have h35 := H35.out
        rw [List.take_of_length_le (by rw [← HN.out]; exact Nat.le_refl _)] at h35
        obtain ⟨PN, PS, PD, PE, hPN, ht1, ht2⟩ := HTT.out h35
        clear h35
        have hsm := hcp.smps
        obtain ⟨va, vc, rfl⟩ := own_slC hcp.row
        have hnl : l.length = N := HN.out.symm
        rw [hnl] at hsm ⊢
        have HSC := Lib.hid hsm
        have HBw := Lib.hid hb
        have HSW := Lib.hid (HS.out.below hb)
        have HTA := Lib.hid ht1
        have HTB := Lib.hid ht2
        clear hlj hj hb hcp hsm hnl ht1 ht2
        go_upto_region 11 with (go_at_call 43; refine (HTA.out va vc _ HSC.out).mono ?_; rintro e w1 ⟨sv, rfl, hk1, hb1⟩; obtain ⟨ga, na, ca, rfl⟩ := kform hk1; have HK1 := Lib.hid hk1; have HB1 := Lib.hid hb1; clear hk1 hb1)
        obtain ⟨W1, hW1⟩ : ∃ W, w1.alloc (.cells #[.slice ga na ca, .int .i64 PS.b, .int .i64 (PS.u : Int), .bool PD] 76) = W := ⟨_, rfl⟩
        have HBX := Lib.hid (show W1.heap[w1.heap.size]? = some (.cells #[.slice ga na ca, .int .i64 PS.b, .int .i64 (PS.u : Int), .bool PD] 76) by rw [← hW1]; exact alloc_new_at _ _ _ rfl)
        have HA1 := Lib.hid (show Below w1.heap.size w1 W1 by rw [← hW1]; exact (Below.refl _ _).alloc (Nat.le_refl _) _)
        rw [hW1]
        clear hW1
        have HK2 := Lib.hid (HK1.out.below HA1.out)
        have HBw1 := Lib.hid (HBw.out.trans (HB1.out.mono HBw.out.size))
        have HBw2 := Lib.hid (HBw1.out.trans (HA1.out.mono HBw1.out.size))
        have HSW2 := Lib.hid (HS.out.below HBw2.out)
        go_upto_region 12 with (go_at_call 44; refine (HTB.out a cap _ HSW2.out).mono ?_; rintro e w2 ⟨sv2, rfl, hk3, hb3⟩; obtain ⟨gb, nb, cb, rfl⟩ := kform hk3; have HK3 := Lib.hid hk3; have HB3 := Lib.hid hb3; clear hk3 hb3)
        obtain ⟨W2, hW2⟩ : ∃ W, w2.alloc (.cells #[.slice gb nb cb, .int .i64 PS.b, .int .i64 (PS.u : Int), .bool PD] 79) = W := ⟨_, rfl⟩
        have HBX2 := Lib.hid (show W2.heap[w2.heap.size]? = some (.cells #[.slice gb nb cb, .int .i64 PS.b, .int .i64 (PS.u : Int), .bool PD] 79) by rw [← hW2]; exact alloc_new_at _ _ _ rfl)
        have HA2 := Lib.hid (show Below w2.heap.size w2 W2 by rw [← hW2]; exact (Below.refl _ _).alloc (Nat.le_refl _) _)
        rw [hW2]
        clear hW2
        have HB12 := Lib.hid (HB3.out.trans (HA2.out.mono HB3.out.size))
        have HBX1 := Lib.hid ((HB12.out.block _ (lt_of_block HBX.out)).trans HBX.out)
        have HK12 := Lib.hid (HK2.out.below HB12.out)
        have HK32 := Lib.hid (HK3.out.below HA2.out)
        have HBw3 := Lib.hid (HBw2.out.trans (HB12.out.mono HBw2.out.size))
        obtain ⟨x0, x1, x2, x3, _, _, _, _⟩ := cells4 HBX1.out
        obtain ⟨y0, y1, y2, y3, _, _, _, _⟩ := cells4 HBX2.out
        go_wp2_with (fail)
        go_at_call 15
        refine (numbers_same _ (.slice ga na ca) (.slice gb nb cb) (by simp; omega) _ HK12.out HK32.out).mono ?_
        rintro e w4 ⟨rfl, hb4⟩
        have HBX14 := Lib.hid ((hb4.block _ (lt_of_block HBX1.out)).trans HBX1.out)
        have HBX24 := Lib.hid ((hb4.block _ (lt_of_block HBX2.out)).trans HBX2.out)
        have HBw4 := Lib.hid (HBw3.out.trans (hb4.mono HBw3.out.size))
        clear hb4 x0 x1 x2 x3 y0 y1 y2 y3
        obtain ⟨x0, x1, x2, x3, _, _, _, _⟩ := cells4 HBX14.out
        obtain ⟨y0, y1, y2, y3, _, _, _, _⟩ := cells4 HBX24.out
        go_wp2_with (go_at_call 18; refine (works_any _).mono ?_; rintro e w9 ⟨rfl, hb9⟩)
        go_ret
        exact ⟨rfl, HBw4.out.trans (hb9.mono HBw4.out.size)⟩
set_option maxRecDepth 100000 in
set_option maxHeartbeats 2000000 in
theorem early (N : Nat) (a : Option Addr) (cap : Nat) (m R : Int) (w : World) (h : (20 < N ∧ N ≤ 256) ∨ 260 < N ∨ (N ≤ 20 ∧ 100 < R ∧ R ≤ 1000) ∨ (256 < N ∧ 100 < R ∧ R ≤ 1000)) :
    Calls Tryz.prog 7 #[.slice a N cap, .int .i64 m, .int .i64 R] w fun e w' => e = .returned (.bool true) ∧ Below w.heap.size w w' := by
  rcases h with ⟨h1, h2⟩ | h1 | ⟨h1, h2, h3⟩ | ⟨h1, h2, h3⟩
  · have z1 : ((20 : Int) < (N : Int)) = True := by simp <;> omega
    have z2 : ((N : Int) ≤ 256) = True := by simp <;> omega
    clear h1 h2
    go_enter Tryz.func7, Tryz.ntmps7
    go_wp2_with (go_at_call 18; refine (works_any _).mono ?_; rintro e w9 ⟨rfl, hb9⟩)
    go_ret
    exact ⟨rfl, hb9⟩
  · have z1 : ((20 : Int) < (N : Int)) = True := by simp <;> omega
    have z2 : ((N : Int) ≤ 256) = False := by simp <;> omega
    have z3 : ((260 : Int) < (N : Int)) = True := by simp <;> omega
    clear h1
    go_enter Tryz.func7, Tryz.ntmps7
    go_wp2_with (go_at_call 18; refine (works_any _).mono ?_; rintro e w9 ⟨rfl, hb9⟩)
    go_ret
    exact ⟨rfl, hb9⟩
  · have z1 : ((20 : Int) < (N : Int)) = False := by simp <;> omega
    have z3 : ((260 : Int) < (N : Int)) = False := by simp <;> omega
    have z4 : ((100 : Int) < R) = True := by simp <;> omega
    have z5 : (R ≤ 1000) = True := by simp <;> omega
    clear h1 h2 h3
    go_enter Tryz.func7, Tryz.ntmps7
    go_wp2_with (go_at_call 18; refine (works_any _).mono ?_; rintro e w9 ⟨rfl, hb9⟩)
    go_ret
    exact ⟨rfl, hb9⟩
  · by_cases h4 : 260 < N
    · have z1 : ((20 : Int) < (N : Int)) = True := by simp <;> omega
      have z2 : ((N : Int) ≤ 256) = False := by simp <;> omega
      have z3 : ((260 : Int) < (N : Int)) = True := by simp <;> omega
      clear h1 h2 h3 h4
      go_enter Tryz.func7, Tryz.ntmps7
      go_wp2_with (go_at_call 18; refine (works_any _).mono ?_; rintro e w9 ⟨rfl, hb9⟩)
      go_ret
      exact ⟨rfl, hb9⟩
    · have z1 : ((20 : Int) < (N : Int)) = True := by simp <;> omega
      have z2 : ((N : Int) ≤ 256) = False := by simp <;> omega
      have z3 : ((260 : Int) < (N : Int)) = False := by simp <;> omega
      have z4 : ((100 : Int) < R) = True := by simp <;> omega
      have z5 : (R ≤ 1000) = True := by simp <;> omega
      clear h1 h2 h3 h4
      go_enter Tryz.func7, Tryz.ntmps7
      go_wp2_with (go_at_call 18; refine (works_any _).mono ?_; rintro e w9 ⟨rfl, hb9⟩)
      go_ret
      exact ⟨rfl, hb9⟩
theorem walk (l : List Smp) (a : Option Addr) (cap : Nat) (m R : Int) (w : World) (hS : SmpsAt w (.slice a l.length cap) l) :
    Calls Tryz.prog 7 #[.slice a l.length cap, .int .i64 m, .int .i64 R] w fun e w' => e = .returned (.bool true) ∧ Below w.heap.size w w' := by
  by_cases h : (20 < l.length ∧ l.length ≤ 256) ∨ 260 < l.length ∨ (l.length ≤ 20 ∧ 100 < R ∧ R ≤ 1000) ∨ (256 < l.length ∧ 100 < R ∧ R ≤ 1000)
  · exact early l.length a cap m R w h
  · refine main l m R a cap l.length rfl (by omega) (fun hx => trains_any l m R (by omega) fun s hs => Nat.le_trans (hx s hs) (by decide)) w hS ?_ ?_
    · by_cases c : 20 < l.length
      · exact .inr ⟨by simp <;> omega, by simp <;> omega⟩
      · exact .inl (by simp <;> omega)
    · by_cases c : 100 < R
      · exact .inr ⟨by simp <;> omega, by simp <;> omega⟩
      · exact .inl (by simp <;> omega)

set_option maxRecDepth 100000 in
theorem lifted (os : Os) (started : os.Started) (H : Type) (enc : TypeId × Value → H) :
    ReturnsInHanded {} Tryz.checked os 7 .any (Rows.codeTrainsSpec.pre6 enc Tryz.prog Tryz.f7 Rows.codeTrainsRow.domain false) (Rows.codeTrainsSpec.post enc Tryz.prog Tryz.f7 false true false false) := by
  refine returnsInHanded_of_change (C := Tryz.checked) own started (by kernel_rfl) Tryz.func7
    (ChangeSpec.witness6 (enc := enc) (C := Tryz.checked) false ⟨#[], #[.slice none 0 0, .int .i64 0, .int .i64 0], []⟩ 8 (by kernel_rfl) (by kernel_rfl) (by kernel_rfl) (by kernel_rfl)) ?_
  intro W base args ds gs before hval0 hW hcnd hsz
  have hval : ∀ (j : Nat) t v, Tryz.f7.params[j]? = some t → args[j]? = some v → Value.okWide Tryz.prog W .any base t v := hval0
  have hW' := hW
  obtain ⟨p, q, hA0, hV, rfl, hfz, hnd⟩ := hW
  have hA : DataW.TrodAll enc Tryz.prog W 0 (fun _ => true) true Tryz.f7.params.toList args.toList ds p := hA0
  rw [Tryz.params7] at hA hval
  have hAll := hA
  obtain ⟨v0, vs0, d0, ds0, p0, q0, hargs, rfl, rfl, h0, r0⟩ := trodAll_cons hA
  obtain ⟨v1, vs1, d1, ds1, p1, q1, rfl, rfl, rfl, h1, r1⟩ := trodAll_cons r0
  obtain ⟨v2, vs2, d2, ds2, p2, q2, rfl, rfl, rfl, h2, r2⟩ := trodAll_cons r1
  obtain ⟨rfl, rfl, rfl⟩ := trodAll_nil r2
  obtain rfl : args = #[v0, v1, v2] := by cases args; simp_all
  obtain ⟨rfl, rfl⟩ := trodVars_none hV
  obtain ⟨l0, a0, c0, rfl, hS0, _, _⟩ := open_samples (hval 0 70 v0 rfl rfl) h0
  obtain ⟨a1, rfl, rfl, rfl, w1⟩ := open_int Tryz.underlying3 (hval 1 3 v1 rfl rfl) h1
  obtain ⟨a2, rfl, rfl, rfl, w2⟩ := open_int Tryz.underlying3 (hval 2 3 v2 rfl rfl) h2
  clear hA0 hval0
  refine (walk l0 a0 c0 a1 a2 W hS0).mono fun e W' ⟨he, bel⟩ => ?_
  subst he
  have hback := trodAll_below bel [70, 3, 3] (by intro t ht; simp at ht; rcases ht with rfl | rfl | rfl <;> exact ⟨by kernel_rfl, of_decide_eq_true (by kernel_rfl)⟩) hAll
  exact ⟨_, rfl, _, _, _, [], _, [], hW', trodAll_mk1 (shut_bool Tryz.underlying4 _), hback, rfl, bel.frame _, fun h => by cases h⟩

theorem over : Rows.codeTrainsRow.holds Tryz.pinned (OpenSpec.ofChange Rows.codeTrainsSpec) :=
  OpenClaim.holds_of_wide 7 Tryz.f7 rfl rfl rfl rfl rfl rfl rfl ⟨rfl, rfl, rfl, rfl, rfl⟩ rfl rfl rfl rfl rfl (by kernel_rfl) Tryz.func7 (by kernel_rfl)
    (of_decide_eq_true (by kernel_rfl)) (by unfold Func.isWrapper; first | (rw [if_pos (by decide +kernel)]; kernel_rfl) | (rw [if_neg (by decide +kernel)]; exact ⟨rfl, rfl⟩))
    (fun os started H enc _ => lifted os started H enc)

theorem proved : Rows.CodeTrainsSaid := over

end Go.Proofs.YtjdcjcanmeangaaGreat.codeTrains
