/- The specification's runs. Over this seat's program. (mk_Vg.py wrote this.) -/
import Derived.Test.YtimjmofkofjcoaaGreatVf
namespace Go.Proofs.YtimjmofkofjcoaaGreat
set_option linter.unusedVariables false
open Go.RowKit Go.Shelf

/-- What the region's operations work out. -/
def rnK (va : Option Addr) (N vc gb k : Nat) (ua : Option Addr) (UL uc : Nat) (oa : Option Addr) (OL oc ob m : Nat) (z : Int) : Nat → Value
  | 1 => .slice va N vc
  | 2 => .int .i64 k
  | 3 => .pointer (some ⟨gb, k, none⟩)
  | 4 => .slice ua UL uc
  | 6 => .slice oa OL oc
  | 7 => .int .i64 m
  | 8 => .pointer (some ⟨ob, m, none⟩)
  | 9 => .int .i64 z
  | _ => undef
theorem own_at {W : World} {base t n j : Nat} {v : Value} {cs : List Value} (h : W.ownsRow base t 1 v n cs) {u : Value} (hu : cs[j]? = some u) : ∃ g c, v = .slice (some ⟨g, 0, none⟩) n c ∧ g < W.heap.size ∧ base ≤ g ∧ W.cell? ⟨g, j, none⟩ = some u := by
  rcases h.2 with ⟨rfl, rfl⟩ | ⟨g, cap, cur, rfl, h1, h2, _⟩
  · have := h.1; have hj := (List.getElem?_eq_some_iff.1 hu).1; omega
  · have hc := h.cells (g := g) rfl j u hu
    have e : (⟨g, 0, none⟩ : Addr).add j = ⟨g, j, none⟩ := by unfold Addr.add; split <;> simp_all
    rw [e] at hc
    exact ⟨g, cap, rfl, lt_of_block h2, h1, hc⟩
theorem negs_take {x : List Int} {q : Nat} {y : Int} (h : x[q]? = some y) : negs (x.take (q + 1)) = negs (x.take q) + if y < 0 then 1 else 0 := by
  rw [List.take_add_one, h]; exact negs_snoc _ _
theorem negs_le (x : List Int) : negs x ≤ x.length := List.countP_le_length
set_option maxRecDepth 100000 in
set_option maxHeartbeats 16000000 in
theorem rruns_any (j s : Nat) (hj : j ≤ 64) (hs : s ≤ 64) (l : List Evx) (hl : l.length ≤ 64) (hv : ∀ x ∈ l, 0 ≤ x.tk ∧ x.tk ≤ 9999) (a : Option Addr) (cap : Nat) (w : World) (hT : EvxsAt w (.slice a l.length cap) l) :
    Calls Tryz.prog 78 #[.slice a l.length cap, .int .i64 (j : Int), .int .i64 (s : Int)] w fun e w' => ∃ sv cp L, e = .returned (.slice sv (List.length L) cp) ∧ StgR j s l l.length L ∧ Below w.heap.size w w' := by
  obtain ⟨n, hn⟩ : ∃ n, n = l.length := ⟨_, rfl⟩
  rw [← hn] at hl hT ⊢
  have HT := Lib.hid hT
  have HN := Lib.hid hn
  have HV := Lib.hid hv
  clear hT hn hv
  obtain ⟨i0, hi, hz0, hzz1, hzz2⟩ := info_parts info26
  go_enter Tryz.func78, Tryz.ntmps78
  go_upto_region 3 with (fail)
  have HR0 := Lib.hid (RrAt.one w)
  have HB0 := Lib.hid ((Below.refl w.heap.size w).alloc (Nat.le_refl _) (.cells #[.slice none 0 0] 26))
  obtain ⟨v0, hv0⟩ : ∃ v, v = Value.slice (some ⟨w.heap.size, 0, none⟩) 1 1 := ⟨_, rfl⟩
  rw [← hv0] at HR0 ⊢
  clear hv0
  generalize w.alloc (.cells #[.slice none 0 0] 26) = W1 at *
  go_loopw [7, 8] (fun s7 s8 wr => ∃ i : Nat, i ≤ n ∧ s8 = .int .i64 i ∧ (∃ vs L, RrAt w.heap.size vs L s7 wr ∧ StgR j s l i L) ∧ Below w.heap.size w wr) (fun _ s8 _ => n - (intOf s8).toNat)
  case atStart => exact ⟨0, Nat.zero_le _, rfl, ⟨_, _, HR0.out, StgR.zero _ _ _⟩, HB0.out⟩
  case round =>
    obtain ⟨i, hin, rfl, ⟨vs, L, hrr, hst⟩, hb⟩ := hrel
    obtain ⟨va, vc, rfl⟩ := own_slC hrr.row
    obtain ⟨N, hN⟩ : ∃ N, N = L.length := ⟨_, rfl⟩
    have HRR := Lib.hid hrr
    have HST := Lib.hid hst
    have HB := Lib.hid hb
    have hNl : N ≤ 20130 := by rw [hN]; exact hst.len
    rw [← hN] at HRR ⊢
    have HNN := Lib.hid hN
    have hzr := hb.size
    have hi0 : (0 : Int) ≤ (i : Int) := Int.natCast_nonneg _
    clear hrr hst hb hN
    by_cases hlt : i < n
    · obtain ⟨x, hx⟩ : ∃ x, l[i]? = some x := ⟨_, List.getElem?_eq_getElem (by rw [← HN.out]; exact hlt)⟩
      have hi1 : (i : Int) < (n : Int) := by omega
      obtain ⟨b, off, rfl, hbl, hcl⟩ := (HT.out.below HB.out).at hx
      have hxv := HV.out x (List.mem_of_getElem? hx)
      have hnx := fun k hk hle => HST.out.next (k := k) hx hxv.1 hxv.2 hk hle
      obtain ⟨X, Y⟩ := x
      obtain ⟨u1, u2⟩ := hcl
      simp only at u1 u2 hxv hnx
      have hxv0 := hxv.1
      have hxv1 := hxv.2
      have HNX := Lib.hid hnx
      clear hx hxv hnx u2
      go_wp2_with (fail)
      go_at_call 124
      refine (options_any X j hxv0 hxv1 hj _).mono ?_
      rintro e wo ⟨so, rfl, hso, hbo⟩
      have holn : (optL X j).length ≤ 130 := by unfold optL; rw [List.length_append, optM_len hxv0 hxv1]; have := tickN_le X j hj; simp; omega
      obtain ⟨O, hO⟩ : ∃ O, O = optL X j := ⟨_, rfl⟩
      rw [← hO] at hso holn HNX
      obtain ⟨oa, oc, rfl⟩ := own_slC hso
      obtain ⟨OL, hOL⟩ : ∃ OL, OL = O.length := ⟨_, rfl⟩
      rw [← hOL] at hso holn ⊢
      have HOL := Lib.hid hOL
      have HSO := Lib.hid hso
      have HRO := Lib.hid (HRR.out.below hbo)
      have HBO := Lib.hid (HB.out.trans (hbo.mono hzr))
      have hzo : w.heap.size ≤ wo.heap.size := by have := hbo.size; omega
      clear u1 hso hbo hO hOL
      go_upto_region 8 with (fail)
      go_loopw [10, 11] (fun s10 s11 wr => ∃ k : Nat, k ≤ N ∧ s11 = .int .i64 k ∧ (∃ ws, RrAt wo.heap.size ws (extR s O L k) s10 wr) ∧ (extR s O L k).length ≤ 20130 ∧ Below wo.heap.size wo wr) (fun _ s11 _ => N - (intOf s11).toNat)
      case atStart => exact ⟨0, Nat.zero_le _, rfl, ⟨[], by simpa [extR] using RrAt.nil _ _⟩, by simp [extR], Below.refl _ _⟩
      case round =>
        obtain ⟨k, hk, rfl, ⟨ws, hnx⟩, hle, hb2⟩ := hrel
        obtain ⟨na, nc, rfl⟩ := own_slC hnx.row
        obtain ⟨M, hM⟩ : ∃ M, M = (extR s O L k).length := ⟨_, rfl⟩
        rw [← hM] at hnx hle ⊢
        have HM := Lib.hid hM
        have HNR := Lib.hid hnx
        have HB2 := Lib.hid hb2
        have hz2 := hb2.size
        have hk0 : (0 : Int) ≤ (k : Int) := Int.natCast_nonneg _
        have hM0 : (0 : Int) ≤ (M : Int) := Int.natCast_nonneg _
        clear hnx hb2 hM
        by_cases hkN : k < N
        · have hk1 : (k : Int) < (N : Int) := by omega
          by_cases hcut : M ≤ 20000
          · have hcut1 : ((M : Int) ≤ 20000) = True := by simp only [eq_iff_iff, iff_true]; omega
            obtain ⟨x, hx⟩ : ∃ x, L[k]? = some x := ⟨_, List.getElem?_eq_getElem (by rw [← HNN.out]; exact hkN)⟩
            obtain ⟨u, hu⟩ : ∃ u, vs[k]? = some u := ⟨_, List.getElem?_eq_getElem (by rw [HRO.out.len, ← HNN.out]; exact hkN)⟩
            have hrow := (HRO.out.own k u x hu hx).1
            obtain ⟨ua, uc, rfl⟩ := own_slC hrow
            obtain ⟨UL, hUL⟩ : ∃ UL, UL = x.length := ⟨_, rfl⟩
            have hxl := (HST.out.each x (List.mem_of_getElem? hx)).1
            rw [← hUL] at hrow hu hxl
            obtain ⟨gb, vc', hva, hgb, _, hcu⟩ := own_at HRO.out.row hu
            rw [← HNN.out] at hva
            obtain ⟨rfl, rfl⟩ : va = some ⟨gb, 0, none⟩ ∧ vc = vc' := by cases hva; exact ⟨rfl, rfl⟩
            have CU0 := Lib.hid hcu
            have HGB0 := Lib.hid hgb
            have HUL := Lib.hid hUL
            have HRW := Lib.hid hrow
            have HXS := Lib.hid (extR_succ (s := s) (opts := O) hx)
            have hUl : UL ≤ 64 := by omega
            clear hx hu hrow hUL hva hcu hgb hxl
            go_upto_region 11 with (fail)
            go_loopw [10, 12] (fun s10 s12 wr => ∃ m : Nat, m ≤ OL ∧ s12 = .int .i64 m ∧ (∃ ws, RrAt wo.heap.size ws (extR s O L k ++ growR s (O.take m) x) s10 wr) ∧ Below wo.heap.size wo wr) (fun _ s12 _ => OL - (intOf s12).toNat)
            case atStart => exact ⟨0, Nat.zero_le _, rfl, ⟨ws, by rw [List.take_zero, show growR s [] x = [] from rfl, List.append_nil, HM.out] at *; exact HNR.out⟩, HB2.out⟩
            case round =>
              obtain ⟨m, hm, rfl, ⟨ws3, hnx3⟩, hb3⟩ := hrel
              generalize wr = w3 at *
              obtain ⟨pa, pc, rfl⟩ := own_slC hnx3.row
              obtain ⟨M3, hM3⟩ : ∃ M3, M3 = (extR s O L k ++ growR s (O.take m) x).length := ⟨_, rfl⟩
              have hM3l : M3 ≤ 20130 := by
                rw [hM3, List.length_append, ← HM.out]
                have h1 := growR_le s (O.take m) x
                have h2 : (O.take m).length ≤ m := by rw [List.length_take]; omega
                omega
              rw [← hM3] at hnx3 ⊢
              have HM3 := Lib.hid hM3
              have HNR3 := Lib.hid hnx3
              have HB3 := Lib.hid hb3
              have hz3 := hb3.size
              have hm0 : (0 : Int) ≤ (m : Int) := Int.natCast_nonneg _
              clear hnx3 hb3 hM3
              by_cases hmO : m < OL
              · obtain ⟨z, hz⟩ : ∃ z, O[m]? = some z := ⟨_, List.getElem?_eq_getElem (by rw [← HOL.out]; exact hmO)⟩
                have hm1 : (m : Int) < (OL : Int) := by omega
                obtain ⟨ob, oc', hoa, hob, _, hcz⟩ := own_at HSO.out (iCs_at hz)
                obtain ⟨rfl, rfl⟩ : oa = some ⟨ob, 0, none⟩ ∧ oc = oc' := by cases hoa; exact ⟨rfl, rfl⟩
                have HTK := Lib.hid (show growR s (O.take (m + 1)) x = growR s (O.take m) x ++ if negs (x ++ [z]) ≤ s then [x ++ [z]] else [] from by rw [List.take_add_one, hz]; exact growR_snoc _ _ _ _)
                have CU := Lib.hid ((HB3.out.cell (p := ⟨gb, k, none⟩) HGB0.out).trans CU0.out)
                have CZ := Lib.hid ((HB3.out.cell (p := ⟨ob, m, none⟩) hob).trans hcz)
                have HGB := Lib.hid (Nat.lt_of_lt_of_le HGB0.out hz3)
                have HOBL := Lib.hid (Nat.lt_of_lt_of_le hob hz3)
                have HOX := Lib.hid (ownsBelow HRW.out HB3.out)
                clear hz hoa hob hcz
                go_upto_region 13 with (fail)
                refine wp_region_late (RnR w3 x z (rnK (some ⟨gb, 0, none⟩) N vc gb k ua UL uc (some ⟨ob, 0, none⟩) OL oc ob m z)) (by kernel_rfl) (by kernel_rfl) (by kernel_rfl) (by kernel_rfl) (RnR.init _) ?stp ?dn
                case stp =>
                  intro L' val W i' o' b' hs ho hlF hdd hI hh hlate
                  have hi' := (List.getElem?_eq_some_iff.1 ho).1
                  have hcs : i' = 0 ∨ i' = 1 ∨ i' = 2 ∨ i' = 3 ∨ i' = 4 ∨ i' = 5 ∨ i' = 6 ∨ i' = 7 ∨ i' = 8 ∨ i' = 9 ∨ i' = 10 ∨ i' = 11 ∨ i' = 12 := by simp at hi'; omega
                  have hLs : 12 < L'.size := by simp at hs; omega
                  have HI := Lib.hid hI
                  have HLF := Lib.hid hlF
                  have HD := Lib.hid hdd
                  have y1 := (HI.out.bel.cell (p := ⟨gb, k, none⟩) HGB.out).trans CU.out
                  have y2 := (HI.out.bel.cell (p := ⟨ob, m, none⟩) HOBL.out).trans CZ.out
                  have HOX2 := Lib.hid (ownsBelow HOX.out HI.out.bel)
                  clear hi' hs hI hlF hdd
                  rcases hcs with rfl | rfl | rfl | rfl | rfl | rfl | rfl | rfl | rfl | rfl | rfl | rfl | rfl
                  · simp only [List.getElem?_cons_zero, Option.some.injEq] at ho
                    subst ho
                    go_simp
                    exact ⟨_, rfl, HI.out.zero hLs HLF.out⟩
                  · simp only [List.getElem?_cons_zero, List.getElem?_cons_succ, Option.some.injEq] at ho
                    subst ho
                    have k7 := hh.kept 7 (by simp)
                    simp at k7
                    go_simp
                    exact ⟨_, rfl, HI.out.skip 1 (by decide) _ rfl⟩
                  · simp only [List.getElem?_cons_zero, List.getElem?_cons_succ, Option.some.injEq] at ho
                    subst ho
                    have k11 := hh.kept 11 (by simp)
                    simp at k11
                    go_simp
                    exact ⟨_, rfl, HI.out.skip 2 (by decide) _ rfl⟩
                  · simp only [List.getElem?_cons_zero, List.getElem?_cons_succ, Option.some.injEq] at ho
                    subst ho
                    have l1 : L'.getD 1 false = true := HD.out ⟨1, .data⟩ (by simp) rfl
                    have g1 := hh.got 1 _ 48 rfl rfl l1 (by simp)
                    rw [HI.out.known 1 (by decide) l1] at g1
                    simp [rnK] at g1
                    have l2 : L'.getD 2 false = true := HD.out ⟨2, .data⟩ (by simp) rfl
                    have g2 := hh.got 2 _ 49 rfl rfl l2 (by simp)
                    rw [HI.out.known 2 (by decide) l2] at g2
                    simp [rnK] at g2
                    clear l1 l2
                    go_simp
                    exact ⟨_, rfl, HI.out.skip 3 (by decide) _ rfl⟩
                  · simp only [List.getElem?_cons_zero, List.getElem?_cons_succ, Option.some.injEq] at ho
                    subst ho
                    have l3 : L'.getD 3 false = true := HD.out ⟨3, .data⟩ (by simp) rfl
                    have g3 := hh.got 3 _ 50 rfl rfl l3 (by simp)
                    rw [HI.out.known 3 (by decide) l3] at g3
                    simp [rnK] at g3
                    clear l3
                    go_simp
                    exact ⟨_, rfl, HI.out.skip 4 (by decide) _ rfl⟩
                  · simp only [List.getElem?_cons_zero, List.getElem?_cons_succ, Option.some.injEq] at ho
                    subst ho
                    have l0 : L'.getD 0 false = true := HD.out ⟨0, .data⟩ (by simp) rfl
                    have l4 : L'.getD 4 false = true := HD.out ⟨4, .data⟩ (by simp) rfl
                    have e0 : b'.eval (.tmp 47) = val 0 := hh.got 0 _ 47 rfl rfl l0 (by simp)
                    have e4 : b'.eval (.tmp 51) = _ := (hh.got 4 _ 51 rfl rfl l4 (by simp)).trans (HI.out.known 4 (by decide) l4)
                    simp only [rnK] at e4
                    obtain ⟨v', w', hr, hw'⟩ := HI.out.five hLs HLF.out l0 ua UL uc w.heap.size HUL.out (by omega) (by rw [← HUL.out]; exact HOX2.out) 26
                    unfold Oper.wp execOp
                    simp only [resolve, invoke, builtin, Sem.run_bind, Sem.run_pure, Result.andThen_ok, List.map_toArray, List.map_cons, List.map_nil, e0, e4, hr]
                    exact ⟨_, rfl, hw'⟩
                  · simp only [List.getElem?_cons_zero, List.getElem?_cons_succ, Option.some.injEq] at ho
                    subst ho
                    have k9 := hh.kept 9 (by simp)
                    simp at k9
                    go_simp
                    exact ⟨_, rfl, HI.out.skip 6 (by decide) _ rfl⟩
                  · simp only [List.getElem?_cons_zero, List.getElem?_cons_succ, Option.some.injEq] at ho
                    subst ho
                    have k12 := hh.kept 12 (by simp)
                    simp at k12
                    go_simp
                    exact ⟨_, rfl, HI.out.skip 7 (by decide) _ rfl⟩
                  · simp only [List.getElem?_cons_zero, List.getElem?_cons_succ, Option.some.injEq] at ho
                    subst ho
                    have l6 : L'.getD 6 false = true := HD.out ⟨6, .data⟩ (by simp) rfl
                    have g6 := hh.got 6 _ 53 rfl rfl l6 (by simp)
                    rw [HI.out.known 6 (by decide) l6] at g6
                    simp [rnK] at g6
                    have l7 : L'.getD 7 false = true := HD.out ⟨7, .data⟩ (by simp) rfl
                    have g7 := hh.got 7 _ 54 rfl rfl l7 (by simp)
                    rw [HI.out.known 7 (by decide) l7] at g7
                    simp [rnK] at g7
                    clear l6 l7
                    go_simp
                    exact ⟨_, rfl, HI.out.skip 8 (by decide) _ rfl⟩
                  · simp only [List.getElem?_cons_zero, List.getElem?_cons_succ, Option.some.injEq] at ho
                    subst ho
                    have l8 : L'.getD 8 false = true := HD.out ⟨8, .data⟩ (by simp) rfl
                    have g8 := hh.got 8 _ 55 rfl rfl l8 (by simp)
                    rw [HI.out.known 8 (by decide) l8] at g8
                    simp [rnK] at g8
                    clear l8
                    go_simp
                    exact ⟨_, rfl, HI.out.skip 9 (by decide) _ rfl⟩
                  · simp only [List.getElem?_cons_zero, List.getElem?_cons_succ, Option.some.injEq] at ho
                    subst ho
                    have l9 : L'.getD 9 false = true := HD.out ⟨9, .data⟩ (by simp) rfl
                    have g9 := hh.got 9 _ 56 rfl rfl l9 (by simp)
                    rw [HI.out.known 9 (by decide) l9] at g9
                    simp [rnK] at g9
                    clear l9
                    go_simp
                    exact ⟨_, rfl, HI.out.ten hLs HLF.out⟩
                  · simp only [List.getElem?_cons_zero, List.getElem?_cons_succ, Option.some.injEq] at ho
                    subst ho
                    have l5 : L'.getD 5 false = true := HD.out ⟨5, .data⟩ (by simp) rfl
                    have l10 : L'.getD 10 false = true := HD.out ⟨10, .data⟩ (by simp) rfl
                    have e5 : b'.eval (.tmp 52) = val 5 := hh.got 5 _ 52 rfl rfl l5 (by simp)
                    have e10 : b'.eval (.tmp 57) = val 10 := hh.got 10 _ 57 rfl rfl l10 (by simp)
                    obtain ⟨v', w', hr, hw'⟩ := HI.out.app hLs HLF.out l5 l10 (by rw [← HUL.out]; omega) 26
                    unfold Oper.wp execOp
                    simp only [resolve, invoke, builtin, Sem.run_bind, Sem.run_pure, Result.andThen_ok, List.map_toArray, List.map_cons, List.map_nil, e5, e10, hr]
                    exact ⟨_, rfl, hw'⟩
                  · simp only [List.getElem?_cons_zero, List.getElem?_cons_succ, Option.some.injEq] at ho
                    subst ho
                    have l11 : L'.getD 11 false = true := HD.out ⟨11, .data⟩ (by simp) rfl
                    have g11 := hh.got 11 _ 58 rfl rfl l11 (by simp)
                    obtain ⟨a7, c7, e7⟩ := own_slC (HI.out.m11 l11)
                    have hfl := HI.out.asg hLs l11
                    rw [e7] at g11 hfl
                    simp at g11
                    have HFL := Lib.hid hfl
                    clear hfl e7 l11
                    go_simp
                    exact ⟨_, rfl, HFL.out⟩
                case dn =>
                  intro val W b' hI hb
                  have h12 := hI.e12 (by simp)
                  have h11 := hI.m11 (by simp)
                  have kn : ∀ q, [0, 5, 10, 11, 12].contains q = false → q < 13 → val q = (rnK (some ⟨gb, 0, none⟩) N vc gb k ua UL uc (some ⟨ob, 0, none⟩) OL oc ob m z) q := fun q hq hq2 => hI.known q hq (replT (by show q < 13; omega))
                  obtain ⟨ra, rc, hra⟩ := own_slC h11
                  obtain ⟨x0, hx0⟩ : ∃ v, v = val 0 := ⟨_, rfl⟩
                  obtain ⟨x5, hx5⟩ : ∃ v, v = val 5 := ⟨_, rfl⟩
                  obtain ⟨x10, hx10⟩ : ∃ v, v = val 10 := ⟨_, rfl⟩
                  rw [hra] at h11 h12
                  simp only [puts, h12, hra, ← hx0, ← hx5, ← hx10, kn 1 (by decide) (by decide), kn 2 (by decide) (by decide), kn 3 (by decide) (by decide), kn 4 (by decide) (by decide), kn 6 (by decide) (by decide), kn 7 (by decide) (by decide), kn 8 (by decide) (by decide), kn 9 (by decide) (by decide), rnK] at hb
                  rw [← HUL.out] at h11 hb
                  have H11 := Lib.hid h11
                  have HBL := Lib.hid hI.bel
                  have hzW := hI.bel.size
                  have hcc : iCs x ++ [.int .i64 z] = iCs (x ++ [z]) := by simp [iCs]
                  rw [hcc] at H11
                  clear hI h11 h12 kn hra hx0 hx5 hx10 hcc
                  subst hb
                  simp only [Act.put, List.setIfInBounds_toArray, List.set_cons_succ, List.set_cons_zero]
                  obtain ⟨y, hy⟩ : ∃ y, y = x ++ [z] := ⟨_, rfl⟩
                  rw [← hy] at H11 HTK
                  have HYL := Lib.hid (show y.length = UL + 1 from by rw [hy, List.length_append, ← HUL.out]; rfl)
                  have HYE := Lib.hid hy
                  clear hy
                  go_upto_region 16 with (fail)
                  go_loopw [14, 15] (fun s14 s15 wr => ∃ q : Nat, q ≤ UL + 1 ∧ s15 = .int .i64 q ∧ s14 = .int .i64 (negs (y.take q) : Nat) ∧ wr = W) (fun _ s15 _ => UL + 1 - (intOf s15).toNat)
                  case atStart => exact ⟨0, Nat.zero_le _, rfl, by simp [negs], rfl⟩
                  case round =>
                    obtain ⟨q, hq, rfl, rfl, rfl⟩ := hrel
                    have hq0 : (0 : Int) ≤ (q : Int) := Int.natCast_nonneg _
                    by_cases hqU : q < UL + 1
                    · obtain ⟨d, hd⟩ : ∃ d, y[q]? = some d := ⟨_, List.getElem?_eq_getElem (by rw [HYL.out]; exact hqU)⟩
                      have hq1 : (q : Int) < (UL : Int) + 1 := by omega
                      obtain ⟨gr, rc', hra, hgr, _, hcd⟩ := own_at H11.out (iCs_at hd)
                      obtain ⟨rfl, rfl⟩ : ra = some ⟨gr, 0, none⟩ ∧ rc = rc' := by cases hra; exact ⟨rfl, rfl⟩
                      have HNT := Lib.hid (negs_take hd)
                      have hnl := negs_le (y.take q)
                      have hnl2 : (y.take q).length ≤ q := by rw [List.length_take]; omega
                      obtain ⟨c, hc⟩ : ∃ c, c = negs (y.take q) := ⟨_, rfl⟩
                      rw [← hc] at HNT hnl ⊢
                      have hc64 : c ≤ 65 := by omega
                      clear hd hra hnl hnl2 hc
                      by_cases hd0 : d < 0
                      · rw [if_pos hd0] at HNT
                        go_wp2
                        go_roundw
                        case rel => exact ⟨q + 1, by omega, by go_num, by rw [HNT.out]; go_num, trivial⟩
                        case measure => simp [intOf]; omega
                      · rw [if_neg hd0] at HNT
                        go_wp2
                        go_roundw
                        case rel => exact ⟨q + 1, by omega, by go_num, by rw [HNT.out]; rfl, trivial⟩
                        case measure => simp [intOf]; omega
                    · have hqe : q = UL + 1 := by omega
                      subst hqe
                      rw [show y.take (UL + 1) = y from by rw [← HYL.out]; exact List.take_length]
                      have hnl := negs_le y
                      rw [HYL.out] at hnl
                      obtain ⟨c, hc⟩ : ∃ c, c = negs y := ⟨_, rfl⟩
                      rw [← hc] at HTK hnl ⊢
                      have hc0 : (0 : Int) ≤ (c : Int) := Int.natCast_nonneg _
                      clear hc
                      by_cases hcs : c ≤ s
                      · rw [if_pos hcs] at HTK
                        have hcs1 : (c : Int) ≤ (s : Int) := by omega
                        have HNEW := Lib.hid (show (wr.alloc (.cells #[.slice ra (UL + 1) rc] 26)).heap[wr.heap.size]? = some (.cells ⟨[.slice ra (UL + 1) rc]⟩ 26) from alloc_new_at _ _ _ rfl)
                        have hrw3 := (HNR3.out.below HBL.out).row
                        rw [← HM3.out] at hrw3
                        have HRW3 := Lib.hid (hrw3.alloc (.cells #[.slice ra (UL + 1) rc] 26))
                        clear hrw3
                        go_upto_region 12 with (at_builtin; go_must (refine wpList_append_where (P := Tryz.prog) _ rfl _ _ 44 rfl wo.heap.size 26 i0 (.slice none 0 0) 1 24 Tryz.underlying44 hi hz0 hzz1 hzz2 rfl (by decide) _ _ _ rfl HRW3.out ⟨wr.heap.size, 0, none⟩ 1 1 (by decide) [.slice ra (UL + 1) rc] rfl rfl (cells_new HNEW.out) (by simp [Value.oneCell']) (by unfold maxLen; omega) (by omega) (by simp; omega) ?_); intro v' W8 hown' hgrow hwh; have HOWN := Lib.hid hown'; have HGR := Lib.hid hgrow; have HWH := Lib.hid hwh; clear hown' hgrow hwh)
                        go_wp2
                        go_roundw
                        case rel =>
                          have hown' := HOWN.out
                          rw [HM3.out] at hown'
                          have hpu := HNR3.out.push hz3 HBL.out (by rw [HYL.out]; exact H11.out) hown' HGR.out HWH.out
                          exact ⟨m + 1, by omega, by go_num, ⟨ws3 ++ [.slice ra (UL + 1) rc], by rw [HTK.out, ← List.append_assoc]; exact hpu.1⟩, HB3.out.trans hpu.2⟩
                        case measure => simp [intOf]; omega
                      · rw [if_neg hcs, List.append_nil] at HTK
                        have hcs1 : ¬ ((c : Int) ≤ (s : Int)) := by omega
                        go_wp2
                        go_roundw
                        case rel => exact ⟨m + 1, by omega, by go_num, ⟨ws3, by rw [HTK.out]; exact HNR3.out.below HBL.out⟩, HB3.out.trans (HBL.out.mono hz3)⟩
                        case measure => simp [intOf]; omega
              · have hme : m = OL := by omega
                have HFIN := Lib.hid (show extR s O L (k + 1) = extR s O L k ++ growR s (O.take m) x from by rw [HXS.out, hme, HOL.out, List.take_length])
                go_wp2
                go_roundw
                case rel => exact ⟨k + 1, by omega, by go_num, ⟨ws3, by rw [HFIN.out]; exact HNR3.out⟩, by rw [HFIN.out, ← HM3.out]; exact hM3l, HB3.out⟩
                case measure => simp [intOf]; omega
          · have hcut1 : ¬ ((M : Int) ≤ 20000) := by omega
            go_wp2
            go_roundw
            case rel => exact ⟨i + 1, by omega, by go_num, ⟨ws, _, HNR.out.mono hzo, HNX.out k (.inr (by rw [← HM.out]; omega)) (by rw [← HM.out]; exact hle)⟩, HBO.out.trans (HB2.out.mono hzo)⟩
            case measure => simp [intOf]; omega
        · have hk1 : ¬ ((k : Int) < (N : Int)) := by omega
          go_wp2
          go_roundw
          case rel => exact ⟨i + 1, by omega, by go_num, ⟨ws, _, HNR.out.mono hzo, HNX.out k (.inl (by rw [← HNN.out]; omega)) (by rw [← HM.out]; exact hle)⟩, HBO.out.trans (HB2.out.mono hzo)⟩
          case measure => simp [intOf]; omega
    · have hie : i = n := by omega
      subst hie
      go_wp2
      go_ret
      have hln := HN.out
      exact ⟨_, _, L, by rw [← HNN.out]; rfl, by first | exact HST.out | (rw [← hln]; exact HST.out), HB.out⟩
end Go.Proofs.YtimjmofkofjcoaaGreat
