/- The specification's claim. Over this seat's program. (mk_Vm.py wrote this.) -/
import Derived.Test.YtnbndciididpoaaGreatVl
namespace Go.Proofs.YtnbndciididpoaaGreat
set_option linter.unusedVariables false
open Go.RowKit Go.Shelf

def CBoxR (W : World) (b : Nat) (v0 v1 v2 v3 v4 v5 : Value) : Prop := W.heap[b]? = some (.cells #[v0, v1, v2, v3, v4, v5] 54)

theorem inR_g {x a b : Int} (h : ¬ (a ≤ x ∧ x ≤ b)) : inR x a b = false := by
  unfold inR; simp only [Bool.and_eq_false_iff, decide_eq_false_iff_not]; omega
theorem kat_take {W : World} {b off K nc k : Nat} {zs : List Int} (h : KAt .i64 W (.slice (some ⟨b, off, none⟩) K nc) zs) (hk : k ≤ zs.length) : KAt .i64 W (.slice (some ⟨b, off, none⟩) k nc) (zs.take k) := by
  rcases h with ⟨h, _⟩ | ⟨b', off', cap, e, hl, h⟩
  · cases h
  · cases e
    refine .inr ⟨b, off, nc, by rw [List.length_take, Nat.min_eq_left hk], hl, fun j z hz => ?_⟩
    rw [List.getElem?_take] at hz
    split at hz
    · exact h j z hz
    · cases hz
def ceV (cb K nc k b off : Nat) (x : Int) (H : Bool) : Nat → Value
  | 0 => .pointer (some ⟨cb, 1, none⟩)
  | 1 => .slice (some ⟨b, off, none⟩) K nc
  | 2 => .int .i64 k
  | 3 => .slice (some ⟨b, off, none⟩) k nc
  | 4 => .pointer (some ⟨cb, 1, none⟩)
  | 5 => .slice (some ⟨b, off, none⟩) K nc
  | 6 => .int .i64 k
  | 7 => .pointer (some ⟨b, off + k, none⟩)
  | 8 => .int .i64 x
  | 9 => .bool H
  | _ => undef
def ccV (cb : Nat) (na : Option Addr) (K nc k b off : Nat) (x : Int) (nb : Nat) (a1 : Option Addr) (N c1 : Nat) (B1 B2 : Bool) : Nat → Value
  | 0 => .pointer (some ⟨cb, 1, none⟩)
  | 1 => .slice na K nc
  | 2 => .int .i64 k
  | 3 => .pointer (some ⟨b, off + k, none⟩)
  | 4 => .int .i64 x
  | 5 => .bool B1
  | 6 => .bool B1
  | 7 => bif B1 then undef else .pointer (some ⟨cb, 1, none⟩)
  | 8 => bif B1 then undef else .slice na K nc
  | 9 => bif B1 then undef else .int .i64 k
  | 10 => bif B1 then undef else .pointer (some ⟨b, off + k, none⟩)
  | 11 => bif B1 then undef else .int .i64 x
  | 12 => bif B1 then undef else .pointer (some ⟨nb, 0, none⟩)
  | 13 => bif B1 then undef else .slice a1 N c1
  | 14 => bif B1 then undef else .int .i64 N
  | 15 => bif B1 then undef else .bool B2
  | 16 => .bool (B1 || B2)
  | _ => undef
def ccW (B1 : Bool) (i : Nat) : Bool := bif (Nat.ble 7 i && Nat.ble i 15) then !B1 else true
def ccG (B1 : Bool) (i : Nat) : Bool := bif Nat.beq i 6 then B1 else false
set_option maxRecDepth 100000 in
set_option maxHeartbeats 8000000 in
theorem rclaim_any (N SN : Nat) (IN : Int) (c : Clm) (a1 a2 na : Option Addr) (c1 c2 nc : Nat) (hN : N ≤ 1024) (hnl : c.ns.length ≤ 100000) (hcap : c.ns.length ≤ nc) (w : World) (hK : KAt .i64 w (.slice na c.ns.length nc) c.ns) :
    Calls Tryz.prog 73 #[.agg #[.slice a1 N c1, .int .i64 IN, .slice a2 SN c2], clmV c na nc] w fun e w' => e = .returned (.int .i64 (claimE N c)) ∧ Below w.heap.size w w' := by
  obtain ⟨kd, ns, fr, to, lo, hi⟩ := c
  unfold clmV
  simp only at hnl hK hcap ⊢
  obtain ⟨K, hKl⟩ : ∃ K, K = ns.length := ⟨_, rfl⟩
  obtain ⟨Z, hR⟩ : ∃ R, R = claimE N ⟨kd, ns, fr, to, lo, hi⟩ := ⟨_, rfl⟩
  rw [← hR]
  rw [← hKl] at hK hnl hcap ⊢
  have HR := Lib.hid hR
  have HKL := Lib.hid hKl
  have HKA := Lib.hid hK
  clear hKl hR hK
  go_enter Tryz.func73, Tryz.ntmps73
  go_upto_region 1 with (fail)
  have hbn : NetBox ((w.alloc (.cells #[.slice a1 N c1, .int .i64 IN, .slice a2 SN c2] 25)).alloc (.cells #[.int .i64 kd, .slice na K nc, .int .i64 fr, .int .i64 to, .int .i64 lo, .int .i64 hi] 54)) w.heap.size (.slice a1 N c1) IN (.slice a2 SN c2) := (Below.heap_alloc _ _ _ (by simp)).trans (alloc_new_at _ _ _ rfl)
  have hcn : CBoxR ((w.alloc (.cells #[.slice a1 N c1, .int .i64 IN, .slice a2 SN c2] 25)).alloc (.cells #[.int .i64 kd, .slice na K nc, .int .i64 fr, .int .i64 to, .int .i64 lo, .int .i64 hi] 54)) (w.heap.size + 1) (.int .i64 kd) (.slice na K nc) (.int .i64 fr) (.int .i64 to) (.int .i64 lo) (.int .i64 hi) := alloc_new_at _ _ _ (by simp)
  have hbl : Below w.heap.size w ((w.alloc (.cells #[.slice a1 N c1, .int .i64 IN, .slice a2 SN c2] 25)).alloc (.cells #[.int .i64 kd, .slice na K nc, .int .i64 fr, .int .i64 to, .int .i64 lo, .int .i64 hi] 54)) := ((Below.refl _ _).alloc (Nat.le_refl _) _).alloc (by simp) _
  obtain ⟨nb, hnb⟩ : ∃ x, x = w.heap.size := ⟨_, rfl⟩
  obtain ⟨cb, hcb⟩ : ∃ x, x = w.heap.size + 1 := ⟨_, rfl⟩
  rw [← hcb] at hcn ⊢
  have HBL := Lib.hid hbl
  have HCN := Lib.hid hcn
  rw [← hnb] at hbn ⊢
  have HBN := Lib.hid hbn
  clear hnb hcb hbl hcn hbn
  generalize (w.alloc (.cells #[.slice a1 N c1, .int .i64 IN, .slice a2 SN c2] 25)).alloc (.cells #[.int .i64 kd, .slice na K nc, .int .i64 fr, .int .i64 to, .int .i64 lo, .int .i64 hi] 54) = W1 at *
  obtain ⟨q0, q1, q2, q3, q4, q5⟩ := cells6 HCN.out
  by_cases hkd : kd = 1 ∨ kd = 2
  case neg =>
    have HRV := Lib.hid (show Z = 2 from by rw [HR.out]; unfold claimE; rw [if_neg (fun h => hkd h.1)])
    have k1 : kd ≠ 1 := fun h => hkd (.inl h)
    have k2 : kd ≠ 2 := fun h => hkd (.inr h)
    have e1 : (kd != 1) = true := by simpa using k1
    have e2 : (kd != 2) = true := by simpa using k2
    clear hkd
    go_wp2
    go_ret
    exact ⟨by rw [HRV.out]; rfl, HBL.out⟩
  rcases hkd with rfl | rfl
  · by_cases hK0 : K = 0
    · have HRV := Lib.hid (show Z = 2 from by rw [HR.out]; unfold claimE; rw [if_neg (fun h => h.2 (List.eq_nil_of_length_eq_zero (by rw [← HKL.out]; exact hK0)))])
      subst hK0
      go_wp2
      go_ret
      exact ⟨by rw [HRV.out]; rfl, HBL.out⟩
    have e0 : ((K : Int) = 0) = False := by simp only [eq_iff_iff, iff_false]; omega
    have e00 : ((K : Int) == 0) = false := by rw [beq_eq_false_iff_ne]; omega
    have HNE := Lib.hid (show ns ≠ [] from fun h => hK0 (by rw [HKL.out, h]; rfl))
    go_upto_region 4 with (fail)
    clear q0 q1 q2 q3 q4 q5 e0 e00
    have HCNL := Lib.hid (lt_of_block HCN.out)
    have HBNL := Lib.hid (lt_of_block HBN.out)
    have hz1 := HBL.out.size
    go_loopw [5] (fun st wr => ∃ k : Nat, k ≤ K ∧ st = .int .i64 k ∧ Below w.heap.size w wr ∧ Below W1.heap.size W1 wr ∧ Hid (nsE N [] ns = nsE N (ns.take k) (ns.drop k))) (fun st _ => K - (intOf st).toNat)
    case atStart => exact ⟨0, Nat.zero_le _, rfl, HBL.out, Below.refl _ _, Lib.hid (by simp)⟩
    case round =>
      obtain ⟨k, hk, rfl, hb, hb1, HA⟩ := hrel
      have HB := Lib.hid hb
      have HB1 := Lib.hid hb1
      clear hb hb1
      have hi0 : (0 : Int) ≤ (k : Int) := Int.natCast_nonneg _
      have HCL := Lib.hid (fun h : nsE N [] ns ≠ 0 => show Z = nsE N [] ns from by rw [HR.out]; unfold claimE; rw [if_pos ⟨by simp, HNE.out⟩, if_pos h])
      have HCW := Lib.hid (show CBoxR wr cb (.int .i64 1) (.slice na K nc) (.int .i64 fr) (.int .i64 to) (.int .i64 lo) (.int .i64 hi) from (HB1.out.block cb HCNL.out).trans HCN.out)
      have HNW := Lib.hid (show NetBox wr nb (.slice a1 N c1) IN (.slice a2 SN c2) from (HB1.out.block nb HBNL.out).trans HBN.out)
      obtain ⟨q0, q1, q2, q3, q4, q5⟩ := cells6 HCW.out
      obtain ⟨n0, n1, n2⟩ := cells3f HNW.out
      by_cases hlt : k < K
      · obtain ⟨x, hx⟩ : ∃ x, ns[k]? = some x := ⟨_, List.getElem?_eq_getElem (by rw [← HKL.out]; exact hlt)⟩
        have hi1 : (k : Int) < (K : Int) := by omega
        have HKW := Lib.hid (HKA.out.below HB.out)
        obtain ⟨b, off, rfl, hbl, u1⟩ := HKW.out.at hx
        have HST := Lib.hid (nsE_step (nn := N) hx)
        have HBBL := Lib.hid hbl
        have U1 := Lib.hid u1
        have C1 := Lib.hid q1
        have N0 := Lib.hid n0
        have HCBL := Lib.hid (lt_of_block HCW.out)
        have HNBL := Lib.hid (lt_of_block HNW.out)
        clear hx u1 hbl q0 q2 q3 q4 q5 n0 n1 n2
        go_upto_region 6 with (fail)
        clear q1
        by_cases bx : x < 0
        · have e1 : (x < 0) = True := by simp only [eq_iff_iff, iff_true]; exact bx
          refine wp_region_reads (ccV cb (some ⟨b, off, none⟩) K nc k b off x nb a1 N c1 true true) (ccW true) (ccG true) (Below wr.heap.size wr) (by kernel_rfl) (by kernel_rfl) (by kernel_rfl) (by kernel_rfl) (by simp [dstIn]) ?gv ?un (Below.refl _ _).drew ?stp ?dn
          case gv =>
            intro i hi
            simp [isGd] at hi
            subst hi
            rfl
          case un =>
            intro i hi hw
            have hc : i = 0 ∨ i = 1 ∨ i = 2 ∨ i = 3 ∨ i = 4 ∨ i = 5 ∨ i = 6 ∨ i = 7 ∨ i = 8 ∨ i = 9 ∨ i = 10 ∨ i = 11 ∨ i = 12 ∨ i = 13 ∨ i = 14 ∨ i = 15 ∨ i = 16 := by simp at hi; omega
            rcases hc with rfl | rfl | rfl | rfl | rfl | rfl | rfl | rfl | rfl | rfl | rfl | rfl | rfl | rfl | rfl | rfl | rfl <;> first | rfl | (exact absurd hw (by simp [ccW]))
          case stp =>
            intro W i o b' ho hwt hI hh
            have hi := (List.getElem?_eq_some_iff.1 ho).1
            have hc : i = 0 ∨ i = 1 ∨ i = 2 ∨ i = 3 ∨ i = 4 ∨ i = 5 ∨ i = 6 ∨ i = 7 ∨ i = 8 ∨ i = 9 ∨ i = 10 ∨ i = 11 ∨ i = 12 ∨ i = 13 ∨ i = 14 ∨ i = 15 ∨ i = 16 := by simp at hi; omega
            have y0 : W.cell? ⟨cb, 1, none⟩ = some (.slice (some ⟨b, off, none⟩) K nc) := ((bcell hI).1 _ _ HCBL.out).trans C1.out
            have y1 : W.cell? ⟨b, off + k, none⟩ = some (.int .i64 x) := ((bcell hI).1 _ _ HBBL.out).trans U1.out
            have y2 : W.cell? ⟨nb, 0, none⟩ = some (.slice a1 N c1) := ((bcell hI).1 _ _ HNBL.out).trans N0.out
            have HI := Lib.hid hI
            clear hi hI
            have k3 := hh.kept 3 (by simp)
            simp at k3
            have k5 := hh.kept 5 (by simp)
            simp at k5
            rcases hc with rfl | rfl | rfl | rfl | rfl | rfl | rfl | rfl | rfl | rfl | rfl | rfl | rfl | rfl | rfl | rfl | rfl
            · simp only [List.getElem?_cons_zero, Option.some.injEq] at ho
              subst ho
              go_simp
              exact ⟨rfl, HI.out⟩
            · simp only [List.getElem?_cons_zero, List.getElem?_cons_succ, Option.some.injEq] at ho
              subst ho
              have g0 := hh.got 0 _ 27 rfl rfl ⟨⟨0, .data⟩, by simp, rfl, rfl⟩ (by simp)
              simp [ccV] at g0
              go_simp
              exact ⟨rfl, HI.out⟩
            · simp only [List.getElem?_cons_zero, List.getElem?_cons_succ, Option.some.injEq] at ho
              subst ho
              go_simp
              exact ⟨rfl, HI.out⟩
            · simp only [List.getElem?_cons_zero, List.getElem?_cons_succ, Option.some.injEq] at ho
              subst ho
              have g1 := hh.got 1 _ 28 rfl rfl ⟨⟨1, .data⟩, by simp, rfl, rfl⟩ (by simp)
              have g2 := hh.got 2 _ 29 rfl rfl ⟨⟨2, .data⟩, by simp, rfl, rfl⟩ (by simp)
              simp [ccV] at g1 g2
              go_simp
              exact ⟨rfl, HI.out⟩
            · simp only [List.getElem?_cons_zero, List.getElem?_cons_succ, Option.some.injEq] at ho
              subst ho
              have g3 := hh.got 3 _ 30 rfl rfl ⟨⟨3, .data⟩, by simp, rfl, rfl⟩ (by simp)
              simp [ccV] at g3
              go_simp
              exact ⟨rfl, HI.out⟩
            · simp only [List.getElem?_cons_zero, List.getElem?_cons_succ, Option.some.injEq] at ho
              subst ho
              have g4 := hh.got 4 _ 31 rfl rfl ⟨⟨4, .data⟩, by simp, rfl, rfl⟩ (by simp)
              simp [ccV] at g4
              go_simp
              exact ⟨rfl, HI.out⟩
            · simp only [List.getElem?_cons_zero, List.getElem?_cons_succ, Option.some.injEq] at ho
              subst ho
              have g5 := hh.got 5 _ 32 rfl rfl ⟨⟨5, .data⟩, by simp, rfl, rfl⟩ (by simp)
              simp [ccV] at g5
              go_simp
              exact ⟨rfl, HI.out⟩
            · exact absurd hwt (by simp [ccW])
            · exact absurd hwt (by simp [ccW])
            · exact absurd hwt (by simp [ccW])
            · exact absurd hwt (by simp [ccW])
            · exact absurd hwt (by simp [ccW])
            · exact absurd hwt (by simp [ccW])
            · exact absurd hwt (by simp [ccW])
            · exact absurd hwt (by simp [ccW])
            · exact absurd hwt (by simp [ccW])
            · simp only [List.getElem?_cons_zero, List.getElem?_cons_succ, Option.some.injEq] at ho
              subst ho
              have g6 := hh.got 6 _ 33 rfl rfl ⟨⟨6, .data⟩, by simp, rfl, rfl⟩ (by simp)
              have g15 := hh.got 15 _ 42 rfl rfl ⟨⟨15, .data⟩, by simp, rfl, rfl⟩ (by simp)
              simp [ccV] at g6 g15
              go_simp
              exact ⟨rfl, HI.out⟩
          case dn =>
            intro W b' hI hb
            simp only [puts, ccV] at hb
            subst hb
            simp only [Act.put, List.setIfInBounds_toArray, List.set_cons_succ, List.set_cons_zero]
            have HI := Lib.hid (HB.out.trans (hI.mono HB.out.size))
            have HIW := Lib.hid hI
            clear hI
            have hv : nsE N [] ns = 3 := by rw [HA.out, HST.out, if_pos (inR_g (by omega))]
            have HRV := Lib.hid (show Z = 3 from by rw [HCL.out (by rw [hv]; decide), hv])
            clear hv
            go_wp2
            go_ret
            exact ⟨by rw [HRV.out]; rfl, HI.out⟩
        have e1 : (x < 0) = False := by simp only [eq_iff_iff, iff_false]; exact bx
        by_cases bn : (N : Int) ≤ x
        · have e2 : ((N : Int) ≤ x) = True := by simp only [eq_iff_iff, iff_true]; exact bn
          refine wp_region_reads (ccV cb (some ⟨b, off, none⟩) K nc k b off x nb a1 N c1 false true) (ccW false) (ccG false) (Below wr.heap.size wr) (by kernel_rfl) (by kernel_rfl) (by kernel_rfl) (by kernel_rfl) (by simp [dstIn]) ?gv ?un (Below.refl _ _).drew ?stp ?dn
          case gv =>
            intro i hi
            simp [isGd] at hi
            subst hi
            rfl
          case un =>
            intro i hi hw
            have hc : i = 0 ∨ i = 1 ∨ i = 2 ∨ i = 3 ∨ i = 4 ∨ i = 5 ∨ i = 6 ∨ i = 7 ∨ i = 8 ∨ i = 9 ∨ i = 10 ∨ i = 11 ∨ i = 12 ∨ i = 13 ∨ i = 14 ∨ i = 15 ∨ i = 16 := by simp at hi; omega
            rcases hc with rfl | rfl | rfl | rfl | rfl | rfl | rfl | rfl | rfl | rfl | rfl | rfl | rfl | rfl | rfl | rfl | rfl <;> first | rfl | (exact absurd hw (by simp [ccW]))
          case stp =>
            intro W i o b' ho hwt hI hh
            have hi := (List.getElem?_eq_some_iff.1 ho).1
            have hc : i = 0 ∨ i = 1 ∨ i = 2 ∨ i = 3 ∨ i = 4 ∨ i = 5 ∨ i = 6 ∨ i = 7 ∨ i = 8 ∨ i = 9 ∨ i = 10 ∨ i = 11 ∨ i = 12 ∨ i = 13 ∨ i = 14 ∨ i = 15 ∨ i = 16 := by simp at hi; omega
            have y0 : W.cell? ⟨cb, 1, none⟩ = some (.slice (some ⟨b, off, none⟩) K nc) := ((bcell hI).1 _ _ HCBL.out).trans C1.out
            have y1 : W.cell? ⟨b, off + k, none⟩ = some (.int .i64 x) := ((bcell hI).1 _ _ HBBL.out).trans U1.out
            have y2 : W.cell? ⟨nb, 0, none⟩ = some (.slice a1 N c1) := ((bcell hI).1 _ _ HNBL.out).trans N0.out
            have HI := Lib.hid hI
            clear hi hI
            have k2 := hh.kept 2 (by simp)
            simp at k2
            have k3 := hh.kept 3 (by simp)
            simp at k3
            have k5 := hh.kept 5 (by simp)
            simp at k5
            rcases hc with rfl | rfl | rfl | rfl | rfl | rfl | rfl | rfl | rfl | rfl | rfl | rfl | rfl | rfl | rfl | rfl | rfl
            · simp only [List.getElem?_cons_zero, Option.some.injEq] at ho
              subst ho
              go_simp
              exact ⟨rfl, HI.out⟩
            · simp only [List.getElem?_cons_zero, List.getElem?_cons_succ, Option.some.injEq] at ho
              subst ho
              have g0 := hh.got 0 _ 27 rfl rfl ⟨⟨0, .data⟩, by simp, rfl, rfl⟩ (by simp)
              simp [ccV] at g0
              go_simp
              exact ⟨rfl, HI.out⟩
            · simp only [List.getElem?_cons_zero, List.getElem?_cons_succ, Option.some.injEq] at ho
              subst ho
              go_simp
              exact ⟨rfl, HI.out⟩
            · simp only [List.getElem?_cons_zero, List.getElem?_cons_succ, Option.some.injEq] at ho
              subst ho
              have g1 := hh.got 1 _ 28 rfl rfl ⟨⟨1, .data⟩, by simp, rfl, rfl⟩ (by simp)
              have g2 := hh.got 2 _ 29 rfl rfl ⟨⟨2, .data⟩, by simp, rfl, rfl⟩ (by simp)
              simp [ccV] at g1 g2
              go_simp
              exact ⟨rfl, HI.out⟩
            · simp only [List.getElem?_cons_zero, List.getElem?_cons_succ, Option.some.injEq] at ho
              subst ho
              have g3 := hh.got 3 _ 30 rfl rfl ⟨⟨3, .data⟩, by simp, rfl, rfl⟩ (by simp)
              simp [ccV] at g3
              go_simp
              exact ⟨rfl, HI.out⟩
            · simp only [List.getElem?_cons_zero, List.getElem?_cons_succ, Option.some.injEq] at ho
              subst ho
              have g4 := hh.got 4 _ 31 rfl rfl ⟨⟨4, .data⟩, by simp, rfl, rfl⟩ (by simp)
              simp [ccV] at g4
              go_simp
              exact ⟨rfl, HI.out⟩
            · simp only [List.getElem?_cons_zero, List.getElem?_cons_succ, Option.some.injEq] at ho
              subst ho
              have g5 := hh.got 5 _ 32 rfl rfl ⟨⟨5, .data⟩, by simp, rfl, rfl⟩ (by simp)
              simp [ccV] at g5
              go_simp
              exact ⟨rfl, HI.out⟩
            · simp only [List.getElem?_cons_zero, List.getElem?_cons_succ, Option.some.injEq] at ho
              subst ho
              go_simp
              exact ⟨rfl, HI.out⟩
            · simp only [List.getElem?_cons_zero, List.getElem?_cons_succ, Option.some.injEq] at ho
              subst ho
              have g7 := hh.got 7 _ 34 rfl rfl ⟨⟨7, .data⟩, by simp, rfl, rfl⟩ (by simp)
              simp [ccV] at g7
              go_simp
              exact ⟨rfl, HI.out⟩
            · simp only [List.getElem?_cons_zero, List.getElem?_cons_succ, Option.some.injEq] at ho
              subst ho
              go_simp
              exact ⟨rfl, HI.out⟩
            · simp only [List.getElem?_cons_zero, List.getElem?_cons_succ, Option.some.injEq] at ho
              subst ho
              have g8 := hh.got 8 _ 35 rfl rfl ⟨⟨8, .data⟩, by simp, rfl, rfl⟩ (by simp)
              have g9 := hh.got 9 _ 36 rfl rfl ⟨⟨9, .data⟩, by simp, rfl, rfl⟩ (by simp)
              simp [ccV] at g8 g9
              go_simp
              exact ⟨rfl, HI.out⟩
            · simp only [List.getElem?_cons_zero, List.getElem?_cons_succ, Option.some.injEq] at ho
              subst ho
              have g10 := hh.got 10 _ 37 rfl rfl ⟨⟨10, .data⟩, by simp, rfl, rfl⟩ (by simp)
              simp [ccV] at g10
              go_simp
              exact ⟨rfl, HI.out⟩
            · simp only [List.getElem?_cons_zero, List.getElem?_cons_succ, Option.some.injEq] at ho
              subst ho
              go_simp
              exact ⟨rfl, HI.out⟩
            · simp only [List.getElem?_cons_zero, List.getElem?_cons_succ, Option.some.injEq] at ho
              subst ho
              have g12 := hh.got 12 _ 39 rfl rfl ⟨⟨12, .data⟩, by simp, rfl, rfl⟩ (by simp)
              simp [ccV] at g12
              go_simp
              exact ⟨rfl, HI.out⟩
            · simp only [List.getElem?_cons_zero, List.getElem?_cons_succ, Option.some.injEq] at ho
              subst ho
              have g13 := hh.got 13 _ 40 rfl rfl ⟨⟨13, .data⟩, by simp, rfl, rfl⟩ (by simp)
              simp [ccV] at g13
              go_simp
              exact ⟨rfl, HI.out⟩
            · simp only [List.getElem?_cons_zero, List.getElem?_cons_succ, Option.some.injEq] at ho
              subst ho
              have g11 := hh.got 11 _ 38 rfl rfl ⟨⟨11, .data⟩, by simp, rfl, rfl⟩ (by simp)
              have g14 := hh.got 14 _ 41 rfl rfl ⟨⟨14, .data⟩, by simp, rfl, rfl⟩ (by simp)
              simp [ccV] at g11 g14
              go_simp
              exact ⟨rfl, HI.out⟩
            · simp only [List.getElem?_cons_zero, List.getElem?_cons_succ, Option.some.injEq] at ho
              subst ho
              have g6 := hh.got 6 _ 33 rfl rfl ⟨⟨6, .data⟩, by simp, rfl, rfl⟩ (by simp)
              have g15 := hh.got 15 _ 42 rfl rfl ⟨⟨15, .data⟩, by simp, rfl, rfl⟩ (by simp)
              simp [ccV] at g6 g15
              go_simp
              exact ⟨rfl, HI.out⟩
          case dn =>
            intro W b' hI hb
            simp only [puts, ccV] at hb
            subst hb
            simp only [Act.put, List.setIfInBounds_toArray, List.set_cons_succ, List.set_cons_zero]
            have HI := Lib.hid (HB.out.trans (hI.mono HB.out.size))
            have HIW := Lib.hid hI
            clear hI
            have hv : nsE N [] ns = 3 := by rw [HA.out, HST.out, if_pos (inR_g (by omega))]
            have HRV := Lib.hid (show Z = 3 from by rw [HCL.out (by rw [hv]; decide), hv])
            clear hv
            go_wp2
            go_ret
            exact ⟨by rw [HRV.out]; rfl, HI.out⟩
        have e2 : ((N : Int) ≤ x) = False := by simp only [eq_iff_iff, iff_false]; exact bn
        refine wp_region_reads (ccV cb (some ⟨b, off, none⟩) K nc k b off x nb a1 N c1 false false) (ccW false) (ccG false) (Below wr.heap.size wr) (by kernel_rfl) (by kernel_rfl) (by kernel_rfl) (by kernel_rfl) (by simp [dstIn]) ?gv ?un (Below.refl _ _).drew ?stp ?dn
        case gv =>
          intro i hi
          simp [isGd] at hi
          subst hi
          rfl
        case un =>
          intro i hi hw
          have hc : i = 0 ∨ i = 1 ∨ i = 2 ∨ i = 3 ∨ i = 4 ∨ i = 5 ∨ i = 6 ∨ i = 7 ∨ i = 8 ∨ i = 9 ∨ i = 10 ∨ i = 11 ∨ i = 12 ∨ i = 13 ∨ i = 14 ∨ i = 15 ∨ i = 16 := by simp at hi; omega
          rcases hc with rfl | rfl | rfl | rfl | rfl | rfl | rfl | rfl | rfl | rfl | rfl | rfl | rfl | rfl | rfl | rfl | rfl <;> first | rfl | (exact absurd hw (by simp [ccW]))
        case stp =>
          intro W i o b' ho hwt hI hh
          have hi := (List.getElem?_eq_some_iff.1 ho).1
          have hc : i = 0 ∨ i = 1 ∨ i = 2 ∨ i = 3 ∨ i = 4 ∨ i = 5 ∨ i = 6 ∨ i = 7 ∨ i = 8 ∨ i = 9 ∨ i = 10 ∨ i = 11 ∨ i = 12 ∨ i = 13 ∨ i = 14 ∨ i = 15 ∨ i = 16 := by simp at hi; omega
          have y0 : W.cell? ⟨cb, 1, none⟩ = some (.slice (some ⟨b, off, none⟩) K nc) := ((bcell hI).1 _ _ HCBL.out).trans C1.out
          have y1 : W.cell? ⟨b, off + k, none⟩ = some (.int .i64 x) := ((bcell hI).1 _ _ HBBL.out).trans U1.out
          have y2 : W.cell? ⟨nb, 0, none⟩ = some (.slice a1 N c1) := ((bcell hI).1 _ _ HNBL.out).trans N0.out
          have HI := Lib.hid hI
          clear hi hI
          have k2 := hh.kept 2 (by simp)
          simp at k2
          have k3 := hh.kept 3 (by simp)
          simp at k3
          have k5 := hh.kept 5 (by simp)
          simp at k5
          rcases hc with rfl | rfl | rfl | rfl | rfl | rfl | rfl | rfl | rfl | rfl | rfl | rfl | rfl | rfl | rfl | rfl | rfl
          · simp only [List.getElem?_cons_zero, Option.some.injEq] at ho
            subst ho
            go_simp
            exact ⟨rfl, HI.out⟩
          · simp only [List.getElem?_cons_zero, List.getElem?_cons_succ, Option.some.injEq] at ho
            subst ho
            have g0 := hh.got 0 _ 27 rfl rfl ⟨⟨0, .data⟩, by simp, rfl, rfl⟩ (by simp)
            simp [ccV] at g0
            go_simp
            exact ⟨rfl, HI.out⟩
          · simp only [List.getElem?_cons_zero, List.getElem?_cons_succ, Option.some.injEq] at ho
            subst ho
            go_simp
            exact ⟨rfl, HI.out⟩
          · simp only [List.getElem?_cons_zero, List.getElem?_cons_succ, Option.some.injEq] at ho
            subst ho
            have g1 := hh.got 1 _ 28 rfl rfl ⟨⟨1, .data⟩, by simp, rfl, rfl⟩ (by simp)
            have g2 := hh.got 2 _ 29 rfl rfl ⟨⟨2, .data⟩, by simp, rfl, rfl⟩ (by simp)
            simp [ccV] at g1 g2
            go_simp
            exact ⟨rfl, HI.out⟩
          · simp only [List.getElem?_cons_zero, List.getElem?_cons_succ, Option.some.injEq] at ho
            subst ho
            have g3 := hh.got 3 _ 30 rfl rfl ⟨⟨3, .data⟩, by simp, rfl, rfl⟩ (by simp)
            simp [ccV] at g3
            go_simp
            exact ⟨rfl, HI.out⟩
          · simp only [List.getElem?_cons_zero, List.getElem?_cons_succ, Option.some.injEq] at ho
            subst ho
            have g4 := hh.got 4 _ 31 rfl rfl ⟨⟨4, .data⟩, by simp, rfl, rfl⟩ (by simp)
            simp [ccV] at g4
            go_simp
            exact ⟨rfl, HI.out⟩
          · simp only [List.getElem?_cons_zero, List.getElem?_cons_succ, Option.some.injEq] at ho
            subst ho
            have g5 := hh.got 5 _ 32 rfl rfl ⟨⟨5, .data⟩, by simp, rfl, rfl⟩ (by simp)
            simp [ccV] at g5
            go_simp
            exact ⟨rfl, HI.out⟩
          · simp only [List.getElem?_cons_zero, List.getElem?_cons_succ, Option.some.injEq] at ho
            subst ho
            go_simp
            exact ⟨rfl, HI.out⟩
          · simp only [List.getElem?_cons_zero, List.getElem?_cons_succ, Option.some.injEq] at ho
            subst ho
            have g7 := hh.got 7 _ 34 rfl rfl ⟨⟨7, .data⟩, by simp, rfl, rfl⟩ (by simp)
            simp [ccV] at g7
            go_simp
            exact ⟨rfl, HI.out⟩
          · simp only [List.getElem?_cons_zero, List.getElem?_cons_succ, Option.some.injEq] at ho
            subst ho
            go_simp
            exact ⟨rfl, HI.out⟩
          · simp only [List.getElem?_cons_zero, List.getElem?_cons_succ, Option.some.injEq] at ho
            subst ho
            have g8 := hh.got 8 _ 35 rfl rfl ⟨⟨8, .data⟩, by simp, rfl, rfl⟩ (by simp)
            have g9 := hh.got 9 _ 36 rfl rfl ⟨⟨9, .data⟩, by simp, rfl, rfl⟩ (by simp)
            simp [ccV] at g8 g9
            go_simp
            exact ⟨rfl, HI.out⟩
          · simp only [List.getElem?_cons_zero, List.getElem?_cons_succ, Option.some.injEq] at ho
            subst ho
            have g10 := hh.got 10 _ 37 rfl rfl ⟨⟨10, .data⟩, by simp, rfl, rfl⟩ (by simp)
            simp [ccV] at g10
            go_simp
            exact ⟨rfl, HI.out⟩
          · simp only [List.getElem?_cons_zero, List.getElem?_cons_succ, Option.some.injEq] at ho
            subst ho
            go_simp
            exact ⟨rfl, HI.out⟩
          · simp only [List.getElem?_cons_zero, List.getElem?_cons_succ, Option.some.injEq] at ho
            subst ho
            have g12 := hh.got 12 _ 39 rfl rfl ⟨⟨12, .data⟩, by simp, rfl, rfl⟩ (by simp)
            simp [ccV] at g12
            go_simp
            exact ⟨rfl, HI.out⟩
          · simp only [List.getElem?_cons_zero, List.getElem?_cons_succ, Option.some.injEq] at ho
            subst ho
            have g13 := hh.got 13 _ 40 rfl rfl ⟨⟨13, .data⟩, by simp, rfl, rfl⟩ (by simp)
            simp [ccV] at g13
            go_simp
            exact ⟨rfl, HI.out⟩
          · simp only [List.getElem?_cons_zero, List.getElem?_cons_succ, Option.some.injEq] at ho
            subst ho
            have g11 := hh.got 11 _ 38 rfl rfl ⟨⟨11, .data⟩, by simp, rfl, rfl⟩ (by simp)
            have g14 := hh.got 14 _ 41 rfl rfl ⟨⟨14, .data⟩, by simp, rfl, rfl⟩ (by simp)
            simp [ccV] at g11 g14
            go_simp
            exact ⟨rfl, HI.out⟩
          · simp only [List.getElem?_cons_zero, List.getElem?_cons_succ, Option.some.injEq] at ho
            subst ho
            have g6 := hh.got 6 _ 33 rfl rfl ⟨⟨6, .data⟩, by simp, rfl, rfl⟩ (by simp)
            have g15 := hh.got 15 _ 42 rfl rfl ⟨⟨15, .data⟩, by simp, rfl, rfl⟩ (by simp)
            simp [ccV] at g6 g15
            go_simp
            exact ⟨rfl, HI.out⟩
        case dn =>
          intro W b' hI hb
          simp only [puts, ccV] at hb
          subst hb
          simp only [Act.put, List.setIfInBounds_toArray, List.set_cons_succ, List.set_cons_zero]
          have HI := Lib.hid (HB.out.trans (hI.mono HB.out.size))
          have HIW := Lib.hid hI
          clear hI
          have hi2 : (k : Int) ≤ (nc : Int) := by omega
          have HTL := Lib.hid (show k = (ns.take k).length from by rw [List.length_take]; have := HKL.out; omega)
          have HKP := Lib.hid (kat_take (k := k) HKW.out (by have := HKL.out; omega))
          have hin : inR x 0 ((N : Int) - 1) = true := by unfold inR; simp only [Bool.and_eq_true, decide_eq_true_eq]; omega
          go_upto_region 8 with (fail)
          cases hh : (ns.take k).contains x with
          | true =>
            have hv : nsE N [] ns = 5 := by rw [HA.out, HST.out, if_neg (by rw [hin]; simp), if_pos hh]
            have HRV := Lib.hid (show Z = 5 from by rw [HCL.out (by rw [hv]; decide), hv])
            clear hv hin
            refine wp_region_reads (ceV cb K nc k b off x true) (fun _ => true) (fun _ => false) (Below W.heap.size W) (by kernel_rfl) (by kernel_rfl) (by kernel_rfl) (by kernel_rfl) (by simp [dstIn]) ?gv ?un (Below.refl _ _).drew ?stp ?dn
            case gv => intro i hi; simp [isGd] at hi
            case un => intro i hi hw; cases hw
            case stp =>
              intro W' i o b' ho hwt hI hh'
              have hi := (List.getElem?_eq_some_iff.1 ho).1
              have hc : i = 0 ∨ i = 1 ∨ i = 2 ∨ i = 3 ∨ i = 4 ∨ i = 5 ∨ i = 6 ∨ i = 7 ∨ i = 8 ∨ i = 9 := by simp at hi; omega
              have y0 : W'.cell? ⟨cb, 1, none⟩ = some (.slice (some ⟨b, off, none⟩) K nc) := ((bcell hI).1 _ _ (Nat.lt_of_lt_of_le HCBL.out HIW.out.size)).trans (((bcell HIW.out).1 _ _ HCBL.out).trans C1.out)
              have y1 : W'.cell? ⟨b, off + k, none⟩ = some (.int .i64 x) := ((bcell hI).1 _ _ (Nat.lt_of_lt_of_le HBBL.out HIW.out.size)).trans (((bcell HIW.out).1 _ _ HBBL.out).trans U1.out)
              have HI := Lib.hid hI
              clear hi hI
              have k3 := hh'.kept 3 (by simp)
              simp at k3
              have k5 := hh'.kept 5 (by simp)
              simp at k5
              rcases hc with rfl | rfl | rfl | rfl | rfl | rfl | rfl | rfl | rfl | rfl
              · simp only [List.getElem?_cons_zero, Option.some.injEq] at ho
                subst ho
                go_simp
                exact ⟨rfl, HI.out⟩
              · simp only [List.getElem?_cons_zero, List.getElem?_cons_succ, Option.some.injEq] at ho
                subst ho
                have g0 := hh'.got 0 _ 44 rfl rfl ⟨⟨0, .data⟩, by simp, rfl, rfl⟩ (by simp)
                simp [ceV] at g0
                go_simp
                exact ⟨rfl, HI.out⟩
              · simp only [List.getElem?_cons_zero, List.getElem?_cons_succ, Option.some.injEq] at ho
                subst ho
                go_simp
                exact ⟨rfl, HI.out⟩
              · simp only [List.getElem?_cons_zero, List.getElem?_cons_succ, Option.some.injEq] at ho
                subst ho
                have g1 := hh'.got 1 _ 45 rfl rfl ⟨⟨1, .data⟩, by simp, rfl, rfl⟩ (by simp)
                have g2 := hh'.got 2 _ 46 rfl rfl ⟨⟨2, .data⟩, by simp, rfl, rfl⟩ (by simp)
                simp [ceV] at g1 g2
                go_simp
                exact ⟨rfl, HI.out⟩
              · simp only [List.getElem?_cons_zero, List.getElem?_cons_succ, Option.some.injEq] at ho
                subst ho
                go_simp
                exact ⟨rfl, HI.out⟩
              · simp only [List.getElem?_cons_zero, List.getElem?_cons_succ, Option.some.injEq] at ho
                subst ho
                have g4 := hh'.got 4 _ 48 rfl rfl ⟨⟨4, .data⟩, by simp, rfl, rfl⟩ (by simp)
                simp [ceV] at g4
                go_simp
                exact ⟨rfl, HI.out⟩
              · simp only [List.getElem?_cons_zero, List.getElem?_cons_succ, Option.some.injEq] at ho
                subst ho
                go_simp
                exact ⟨rfl, HI.out⟩
              · simp only [List.getElem?_cons_zero, List.getElem?_cons_succ, Option.some.injEq] at ho
                subst ho
                have g5 := hh'.got 5 _ 49 rfl rfl ⟨⟨5, .data⟩, by simp, rfl, rfl⟩ (by simp)
                have g6 := hh'.got 6 _ 50 rfl rfl ⟨⟨6, .data⟩, by simp, rfl, rfl⟩ (by simp)
                simp [ceV] at g5 g6
                go_simp
                exact ⟨rfl, HI.out⟩
              · simp only [List.getElem?_cons_zero, List.getElem?_cons_succ, Option.some.injEq] at ho
                subst ho
                have g7 := hh'.got 7 _ 51 rfl rfl ⟨⟨7, .data⟩, by simp, rfl, rfl⟩ (by simp)
                simp [ceV] at g7
                go_simp
                exact ⟨rfl, HI.out⟩
              · simp only [List.getElem?_cons_zero, List.getElem?_cons_succ, Option.some.injEq] at ho
                subst ho
                have g3 := hh'.got 3 _ 47 rfl rfl ⟨⟨3, .data⟩, by simp, rfl, rfl⟩ (by simp)
                have g8 := hh'.got 8 _ 52 rfl rfl ⟨⟨8, .data⟩, by simp, rfl, rfl⟩ (by simp)
                simp [ceV] at g3 g8
                have hkp := HKP.out.below (HIW.out.trans (HI.out.mono HIW.out.size))
                go_simp
                go_at_call 105
                refine (rhas_any (ns.take k) x _ k nc HTL.out (by omega) W' hkp).mono ?_
                rintro e w' ⟨rfl, rfl⟩
                rw [hh]
                exact ⟨rfl, HI.out⟩
            case dn =>
              intro W' b' hI2 hb
              simp only [puts, ceV] at hb
              subst hb
              simp only [Act.put, List.setIfInBounds_toArray, List.set_cons_succ, List.set_cons_zero]
              have HI2 := Lib.hid (HI.out.trans (hI2.mono HI.out.size))
              have HIW2 := Lib.hid (HIW.out.trans (hI2.mono HIW.out.size))
              clear hI2
              go_wp2
              go_ret
              exact ⟨by rw [HRV.out]; rfl, HI2.out⟩
          | false =>
            have HA2 := Lib.hid (show nsE N [] ns = nsE N (ns.take (k + 1)) (ns.drop (k + 1)) from by rw [HA.out, HST.out, if_neg (by rw [hin]; simp), if_neg (by rw [hh]; simp)])
            clear hin
            refine wp_region_reads (ceV cb K nc k b off x false) (fun _ => true) (fun _ => false) (Below W.heap.size W) (by kernel_rfl) (by kernel_rfl) (by kernel_rfl) (by kernel_rfl) (by simp [dstIn]) ?gv ?un (Below.refl _ _).drew ?stp ?dn
            case gv => intro i hi; simp [isGd] at hi
            case un => intro i hi hw; cases hw
            case stp =>
              intro W' i o b' ho hwt hI hh'
              have hi := (List.getElem?_eq_some_iff.1 ho).1
              have hc : i = 0 ∨ i = 1 ∨ i = 2 ∨ i = 3 ∨ i = 4 ∨ i = 5 ∨ i = 6 ∨ i = 7 ∨ i = 8 ∨ i = 9 := by simp at hi; omega
              have y0 : W'.cell? ⟨cb, 1, none⟩ = some (.slice (some ⟨b, off, none⟩) K nc) := ((bcell hI).1 _ _ (Nat.lt_of_lt_of_le HCBL.out HIW.out.size)).trans (((bcell HIW.out).1 _ _ HCBL.out).trans C1.out)
              have y1 : W'.cell? ⟨b, off + k, none⟩ = some (.int .i64 x) := ((bcell hI).1 _ _ (Nat.lt_of_lt_of_le HBBL.out HIW.out.size)).trans (((bcell HIW.out).1 _ _ HBBL.out).trans U1.out)
              have HI := Lib.hid hI
              clear hi hI
              have k3 := hh'.kept 3 (by simp)
              simp at k3
              have k5 := hh'.kept 5 (by simp)
              simp at k5
              rcases hc with rfl | rfl | rfl | rfl | rfl | rfl | rfl | rfl | rfl | rfl
              · simp only [List.getElem?_cons_zero, Option.some.injEq] at ho
                subst ho
                go_simp
                exact ⟨rfl, HI.out⟩
              · simp only [List.getElem?_cons_zero, List.getElem?_cons_succ, Option.some.injEq] at ho
                subst ho
                have g0 := hh'.got 0 _ 44 rfl rfl ⟨⟨0, .data⟩, by simp, rfl, rfl⟩ (by simp)
                simp [ceV] at g0
                go_simp
                exact ⟨rfl, HI.out⟩
              · simp only [List.getElem?_cons_zero, List.getElem?_cons_succ, Option.some.injEq] at ho
                subst ho
                go_simp
                exact ⟨rfl, HI.out⟩
              · simp only [List.getElem?_cons_zero, List.getElem?_cons_succ, Option.some.injEq] at ho
                subst ho
                have g1 := hh'.got 1 _ 45 rfl rfl ⟨⟨1, .data⟩, by simp, rfl, rfl⟩ (by simp)
                have g2 := hh'.got 2 _ 46 rfl rfl ⟨⟨2, .data⟩, by simp, rfl, rfl⟩ (by simp)
                simp [ceV] at g1 g2
                go_simp
                exact ⟨rfl, HI.out⟩
              · simp only [List.getElem?_cons_zero, List.getElem?_cons_succ, Option.some.injEq] at ho
                subst ho
                go_simp
                exact ⟨rfl, HI.out⟩
              · simp only [List.getElem?_cons_zero, List.getElem?_cons_succ, Option.some.injEq] at ho
                subst ho
                have g4 := hh'.got 4 _ 48 rfl rfl ⟨⟨4, .data⟩, by simp, rfl, rfl⟩ (by simp)
                simp [ceV] at g4
                go_simp
                exact ⟨rfl, HI.out⟩
              · simp only [List.getElem?_cons_zero, List.getElem?_cons_succ, Option.some.injEq] at ho
                subst ho
                go_simp
                exact ⟨rfl, HI.out⟩
              · simp only [List.getElem?_cons_zero, List.getElem?_cons_succ, Option.some.injEq] at ho
                subst ho
                have g5 := hh'.got 5 _ 49 rfl rfl ⟨⟨5, .data⟩, by simp, rfl, rfl⟩ (by simp)
                have g6 := hh'.got 6 _ 50 rfl rfl ⟨⟨6, .data⟩, by simp, rfl, rfl⟩ (by simp)
                simp [ceV] at g5 g6
                go_simp
                exact ⟨rfl, HI.out⟩
              · simp only [List.getElem?_cons_zero, List.getElem?_cons_succ, Option.some.injEq] at ho
                subst ho
                have g7 := hh'.got 7 _ 51 rfl rfl ⟨⟨7, .data⟩, by simp, rfl, rfl⟩ (by simp)
                simp [ceV] at g7
                go_simp
                exact ⟨rfl, HI.out⟩
              · simp only [List.getElem?_cons_zero, List.getElem?_cons_succ, Option.some.injEq] at ho
                subst ho
                have g3 := hh'.got 3 _ 47 rfl rfl ⟨⟨3, .data⟩, by simp, rfl, rfl⟩ (by simp)
                have g8 := hh'.got 8 _ 52 rfl rfl ⟨⟨8, .data⟩, by simp, rfl, rfl⟩ (by simp)
                simp [ceV] at g3 g8
                have hkp := HKP.out.below (HIW.out.trans (HI.out.mono HIW.out.size))
                go_simp
                go_at_call 105
                refine (rhas_any (ns.take k) x _ k nc HTL.out (by omega) W' hkp).mono ?_
                rintro e w' ⟨rfl, rfl⟩
                rw [hh]
                exact ⟨rfl, HI.out⟩
            case dn =>
              intro W' b' hI2 hb
              simp only [puts, ceV] at hb
              subst hb
              simp only [Act.put, List.setIfInBounds_toArray, List.set_cons_succ, List.set_cons_zero]
              have HI2 := Lib.hid (HI.out.trans (hI2.mono HI.out.size))
              have HIW2 := Lib.hid (HIW.out.trans (hI2.mono HIW.out.size))
              clear hI2
              go_wp2
              go_roundw
              case rel => exact ⟨k + 1, by omega, by go_num, HI2.out, HB1.out.trans (HIW2.out.mono HB1.out.size), HA2⟩
              case measure => simp [intOf]; omega
      · have hz : nsE N [] ns = 0 := by
          rw [HA.out, show k = ns.length from by have := HKL.out; omega, List.drop_length]; rfl
        have HZ2 := Lib.hid (show Z = if fr < 0 ∨ to < fr ∨ 10000 < to ∨ lo < 0 ∨ hi < 0 then 3 else 0 from by
          rw [HR.out]; unfold claimE; rw [if_pos ⟨by simp, HNE.out⟩, if_neg (by rw [hz]; simp)])
        clear hz HCL
        by_cases b1 : fr < 0
        · have HRV := Lib.hid (show Z = 3 from by rw [HZ2.out, if_pos (.inl b1)])
          go_wp2
          go_ret
          exact ⟨by rw [HRV.out]; rfl, HB.out⟩
        by_cases b2 : to < fr
        · have HRV := Lib.hid (show Z = 3 from by rw [HZ2.out, if_pos (.inr (.inl b2))])
          go_wp2
          go_ret
          exact ⟨by rw [HRV.out]; rfl, HB.out⟩
        by_cases b3 : 10000 < to
        · have HRV := Lib.hid (show Z = 3 from by rw [HZ2.out, if_pos (.inr (.inr (.inl b3)))])
          go_wp2
          go_ret
          exact ⟨by rw [HRV.out]; rfl, HB.out⟩
        by_cases b4 : lo < 0
        · have HRV := Lib.hid (show Z = 3 from by rw [HZ2.out, if_pos (.inr (.inr (.inr (.inl b4))))])
          go_wp2
          go_ret
          exact ⟨by rw [HRV.out]; rfl, HB.out⟩
        by_cases b5 : hi < 0
        · have HRV := Lib.hid (show Z = 3 from by rw [HZ2.out, if_pos (.inr (.inr (.inr (.inr b5))))])
          go_wp2
          go_ret
          exact ⟨by rw [HRV.out]; rfl, HB.out⟩
        have HRV := Lib.hid (show Z = 0 from by rw [HZ2.out, if_neg (by omega)])
        go_wp2
        go_ret
        exact ⟨by rw [HRV.out]; rfl, HB.out⟩
  · by_cases hK0 : K = 0
    · have HRV := Lib.hid (show Z = 2 from by rw [HR.out]; unfold claimE; rw [if_neg (fun h => h.2 (List.eq_nil_of_length_eq_zero (by rw [← HKL.out]; exact hK0)))])
      subst hK0
      go_wp2
      go_ret
      exact ⟨by rw [HRV.out]; rfl, HBL.out⟩
    have e0 : ((K : Int) = 0) = False := by simp only [eq_iff_iff, iff_false]; omega
    have e00 : ((K : Int) == 0) = false := by rw [beq_eq_false_iff_ne]; omega
    have HNE := Lib.hid (show ns ≠ [] from fun h => hK0 (by rw [HKL.out, h]; rfl))
    go_upto_region 4 with (fail)
    clear q0 q1 q2 q3 q4 q5 e0 e00
    have HCNL := Lib.hid (lt_of_block HCN.out)
    have HBNL := Lib.hid (lt_of_block HBN.out)
    have hz1 := HBL.out.size
    go_loopw [5] (fun st wr => ∃ k : Nat, k ≤ K ∧ st = .int .i64 k ∧ Below w.heap.size w wr ∧ Below W1.heap.size W1 wr ∧ Hid (nsE N [] ns = nsE N (ns.take k) (ns.drop k))) (fun st _ => K - (intOf st).toNat)
    case atStart => exact ⟨0, Nat.zero_le _, rfl, HBL.out, Below.refl _ _, Lib.hid (by simp)⟩
    case round =>
      obtain ⟨k, hk, rfl, hb, hb1, HA⟩ := hrel
      have HB := Lib.hid hb
      have HB1 := Lib.hid hb1
      clear hb hb1
      have hi0 : (0 : Int) ≤ (k : Int) := Int.natCast_nonneg _
      have HCL := Lib.hid (fun h : nsE N [] ns ≠ 0 => show Z = nsE N [] ns from by rw [HR.out]; unfold claimE; rw [if_pos ⟨by simp, HNE.out⟩, if_pos h])
      have HCW := Lib.hid (show CBoxR wr cb (.int .i64 2) (.slice na K nc) (.int .i64 fr) (.int .i64 to) (.int .i64 lo) (.int .i64 hi) from (HB1.out.block cb HCNL.out).trans HCN.out)
      have HNW := Lib.hid (show NetBox wr nb (.slice a1 N c1) IN (.slice a2 SN c2) from (HB1.out.block nb HBNL.out).trans HBN.out)
      obtain ⟨q0, q1, q2, q3, q4, q5⟩ := cells6 HCW.out
      obtain ⟨n0, n1, n2⟩ := cells3f HNW.out
      by_cases hlt : k < K
      · obtain ⟨x, hx⟩ : ∃ x, ns[k]? = some x := ⟨_, List.getElem?_eq_getElem (by rw [← HKL.out]; exact hlt)⟩
        have hi1 : (k : Int) < (K : Int) := by omega
        have HKW := Lib.hid (HKA.out.below HB.out)
        obtain ⟨b, off, rfl, hbl, u1⟩ := HKW.out.at hx
        have HST := Lib.hid (nsE_step (nn := N) hx)
        have HBBL := Lib.hid hbl
        have U1 := Lib.hid u1
        have C1 := Lib.hid q1
        have N0 := Lib.hid n0
        have HCBL := Lib.hid (lt_of_block HCW.out)
        have HNBL := Lib.hid (lt_of_block HNW.out)
        clear hx u1 hbl q0 q2 q3 q4 q5 n0 n1 n2
        go_upto_region 6 with (fail)
        clear q1
        by_cases bx : x < 0
        · have e1 : (x < 0) = True := by simp only [eq_iff_iff, iff_true]; exact bx
          refine wp_region_reads (ccV cb (some ⟨b, off, none⟩) K nc k b off x nb a1 N c1 true true) (ccW true) (ccG true) (Below wr.heap.size wr) (by kernel_rfl) (by kernel_rfl) (by kernel_rfl) (by kernel_rfl) (by simp [dstIn]) ?gv ?un (Below.refl _ _).drew ?stp ?dn
          case gv =>
            intro i hi
            simp [isGd] at hi
            subst hi
            rfl
          case un =>
            intro i hi hw
            have hc : i = 0 ∨ i = 1 ∨ i = 2 ∨ i = 3 ∨ i = 4 ∨ i = 5 ∨ i = 6 ∨ i = 7 ∨ i = 8 ∨ i = 9 ∨ i = 10 ∨ i = 11 ∨ i = 12 ∨ i = 13 ∨ i = 14 ∨ i = 15 ∨ i = 16 := by simp at hi; omega
            rcases hc with rfl | rfl | rfl | rfl | rfl | rfl | rfl | rfl | rfl | rfl | rfl | rfl | rfl | rfl | rfl | rfl | rfl <;> first | rfl | (exact absurd hw (by simp [ccW]))
          case stp =>
            intro W i o b' ho hwt hI hh
            have hi := (List.getElem?_eq_some_iff.1 ho).1
            have hc : i = 0 ∨ i = 1 ∨ i = 2 ∨ i = 3 ∨ i = 4 ∨ i = 5 ∨ i = 6 ∨ i = 7 ∨ i = 8 ∨ i = 9 ∨ i = 10 ∨ i = 11 ∨ i = 12 ∨ i = 13 ∨ i = 14 ∨ i = 15 ∨ i = 16 := by simp at hi; omega
            have y0 : W.cell? ⟨cb, 1, none⟩ = some (.slice (some ⟨b, off, none⟩) K nc) := ((bcell hI).1 _ _ HCBL.out).trans C1.out
            have y1 : W.cell? ⟨b, off + k, none⟩ = some (.int .i64 x) := ((bcell hI).1 _ _ HBBL.out).trans U1.out
            have y2 : W.cell? ⟨nb, 0, none⟩ = some (.slice a1 N c1) := ((bcell hI).1 _ _ HNBL.out).trans N0.out
            have HI := Lib.hid hI
            clear hi hI
            have k3 := hh.kept 3 (by simp)
            simp at k3
            have k5 := hh.kept 5 (by simp)
            simp at k5
            rcases hc with rfl | rfl | rfl | rfl | rfl | rfl | rfl | rfl | rfl | rfl | rfl | rfl | rfl | rfl | rfl | rfl | rfl
            · simp only [List.getElem?_cons_zero, Option.some.injEq] at ho
              subst ho
              go_simp
              exact ⟨rfl, HI.out⟩
            · simp only [List.getElem?_cons_zero, List.getElem?_cons_succ, Option.some.injEq] at ho
              subst ho
              have g0 := hh.got 0 _ 27 rfl rfl ⟨⟨0, .data⟩, by simp, rfl, rfl⟩ (by simp)
              simp [ccV] at g0
              go_simp
              exact ⟨rfl, HI.out⟩
            · simp only [List.getElem?_cons_zero, List.getElem?_cons_succ, Option.some.injEq] at ho
              subst ho
              go_simp
              exact ⟨rfl, HI.out⟩
            · simp only [List.getElem?_cons_zero, List.getElem?_cons_succ, Option.some.injEq] at ho
              subst ho
              have g1 := hh.got 1 _ 28 rfl rfl ⟨⟨1, .data⟩, by simp, rfl, rfl⟩ (by simp)
              have g2 := hh.got 2 _ 29 rfl rfl ⟨⟨2, .data⟩, by simp, rfl, rfl⟩ (by simp)
              simp [ccV] at g1 g2
              go_simp
              exact ⟨rfl, HI.out⟩
            · simp only [List.getElem?_cons_zero, List.getElem?_cons_succ, Option.some.injEq] at ho
              subst ho
              have g3 := hh.got 3 _ 30 rfl rfl ⟨⟨3, .data⟩, by simp, rfl, rfl⟩ (by simp)
              simp [ccV] at g3
              go_simp
              exact ⟨rfl, HI.out⟩
            · simp only [List.getElem?_cons_zero, List.getElem?_cons_succ, Option.some.injEq] at ho
              subst ho
              have g4 := hh.got 4 _ 31 rfl rfl ⟨⟨4, .data⟩, by simp, rfl, rfl⟩ (by simp)
              simp [ccV] at g4
              go_simp
              exact ⟨rfl, HI.out⟩
            · simp only [List.getElem?_cons_zero, List.getElem?_cons_succ, Option.some.injEq] at ho
              subst ho
              have g5 := hh.got 5 _ 32 rfl rfl ⟨⟨5, .data⟩, by simp, rfl, rfl⟩ (by simp)
              simp [ccV] at g5
              go_simp
              exact ⟨rfl, HI.out⟩
            · exact absurd hwt (by simp [ccW])
            · exact absurd hwt (by simp [ccW])
            · exact absurd hwt (by simp [ccW])
            · exact absurd hwt (by simp [ccW])
            · exact absurd hwt (by simp [ccW])
            · exact absurd hwt (by simp [ccW])
            · exact absurd hwt (by simp [ccW])
            · exact absurd hwt (by simp [ccW])
            · exact absurd hwt (by simp [ccW])
            · simp only [List.getElem?_cons_zero, List.getElem?_cons_succ, Option.some.injEq] at ho
              subst ho
              have g6 := hh.got 6 _ 33 rfl rfl ⟨⟨6, .data⟩, by simp, rfl, rfl⟩ (by simp)
              have g15 := hh.got 15 _ 42 rfl rfl ⟨⟨15, .data⟩, by simp, rfl, rfl⟩ (by simp)
              simp [ccV] at g6 g15
              go_simp
              exact ⟨rfl, HI.out⟩
          case dn =>
            intro W b' hI hb
            simp only [puts, ccV] at hb
            subst hb
            simp only [Act.put, List.setIfInBounds_toArray, List.set_cons_succ, List.set_cons_zero]
            have HI := Lib.hid (HB.out.trans (hI.mono HB.out.size))
            have HIW := Lib.hid hI
            clear hI
            have hv : nsE N [] ns = 3 := by rw [HA.out, HST.out, if_pos (inR_g (by omega))]
            have HRV := Lib.hid (show Z = 3 from by rw [HCL.out (by rw [hv]; decide), hv])
            clear hv
            go_wp2
            go_ret
            exact ⟨by rw [HRV.out]; rfl, HI.out⟩
        have e1 : (x < 0) = False := by simp only [eq_iff_iff, iff_false]; exact bx
        by_cases bn : (N : Int) ≤ x
        · have e2 : ((N : Int) ≤ x) = True := by simp only [eq_iff_iff, iff_true]; exact bn
          refine wp_region_reads (ccV cb (some ⟨b, off, none⟩) K nc k b off x nb a1 N c1 false true) (ccW false) (ccG false) (Below wr.heap.size wr) (by kernel_rfl) (by kernel_rfl) (by kernel_rfl) (by kernel_rfl) (by simp [dstIn]) ?gv ?un (Below.refl _ _).drew ?stp ?dn
          case gv =>
            intro i hi
            simp [isGd] at hi
            subst hi
            rfl
          case un =>
            intro i hi hw
            have hc : i = 0 ∨ i = 1 ∨ i = 2 ∨ i = 3 ∨ i = 4 ∨ i = 5 ∨ i = 6 ∨ i = 7 ∨ i = 8 ∨ i = 9 ∨ i = 10 ∨ i = 11 ∨ i = 12 ∨ i = 13 ∨ i = 14 ∨ i = 15 ∨ i = 16 := by simp at hi; omega
            rcases hc with rfl | rfl | rfl | rfl | rfl | rfl | rfl | rfl | rfl | rfl | rfl | rfl | rfl | rfl | rfl | rfl | rfl <;> first | rfl | (exact absurd hw (by simp [ccW]))
          case stp =>
            intro W i o b' ho hwt hI hh
            have hi := (List.getElem?_eq_some_iff.1 ho).1
            have hc : i = 0 ∨ i = 1 ∨ i = 2 ∨ i = 3 ∨ i = 4 ∨ i = 5 ∨ i = 6 ∨ i = 7 ∨ i = 8 ∨ i = 9 ∨ i = 10 ∨ i = 11 ∨ i = 12 ∨ i = 13 ∨ i = 14 ∨ i = 15 ∨ i = 16 := by simp at hi; omega
            have y0 : W.cell? ⟨cb, 1, none⟩ = some (.slice (some ⟨b, off, none⟩) K nc) := ((bcell hI).1 _ _ HCBL.out).trans C1.out
            have y1 : W.cell? ⟨b, off + k, none⟩ = some (.int .i64 x) := ((bcell hI).1 _ _ HBBL.out).trans U1.out
            have y2 : W.cell? ⟨nb, 0, none⟩ = some (.slice a1 N c1) := ((bcell hI).1 _ _ HNBL.out).trans N0.out
            have HI := Lib.hid hI
            clear hi hI
            have k2 := hh.kept 2 (by simp)
            simp at k2
            have k3 := hh.kept 3 (by simp)
            simp at k3
            have k5 := hh.kept 5 (by simp)
            simp at k5
            rcases hc with rfl | rfl | rfl | rfl | rfl | rfl | rfl | rfl | rfl | rfl | rfl | rfl | rfl | rfl | rfl | rfl | rfl
            · simp only [List.getElem?_cons_zero, Option.some.injEq] at ho
              subst ho
              go_simp
              exact ⟨rfl, HI.out⟩
            · simp only [List.getElem?_cons_zero, List.getElem?_cons_succ, Option.some.injEq] at ho
              subst ho
              have g0 := hh.got 0 _ 27 rfl rfl ⟨⟨0, .data⟩, by simp, rfl, rfl⟩ (by simp)
              simp [ccV] at g0
              go_simp
              exact ⟨rfl, HI.out⟩
            · simp only [List.getElem?_cons_zero, List.getElem?_cons_succ, Option.some.injEq] at ho
              subst ho
              go_simp
              exact ⟨rfl, HI.out⟩
            · simp only [List.getElem?_cons_zero, List.getElem?_cons_succ, Option.some.injEq] at ho
              subst ho
              have g1 := hh.got 1 _ 28 rfl rfl ⟨⟨1, .data⟩, by simp, rfl, rfl⟩ (by simp)
              have g2 := hh.got 2 _ 29 rfl rfl ⟨⟨2, .data⟩, by simp, rfl, rfl⟩ (by simp)
              simp [ccV] at g1 g2
              go_simp
              exact ⟨rfl, HI.out⟩
            · simp only [List.getElem?_cons_zero, List.getElem?_cons_succ, Option.some.injEq] at ho
              subst ho
              have g3 := hh.got 3 _ 30 rfl rfl ⟨⟨3, .data⟩, by simp, rfl, rfl⟩ (by simp)
              simp [ccV] at g3
              go_simp
              exact ⟨rfl, HI.out⟩
            · simp only [List.getElem?_cons_zero, List.getElem?_cons_succ, Option.some.injEq] at ho
              subst ho
              have g4 := hh.got 4 _ 31 rfl rfl ⟨⟨4, .data⟩, by simp, rfl, rfl⟩ (by simp)
              simp [ccV] at g4
              go_simp
              exact ⟨rfl, HI.out⟩
            · simp only [List.getElem?_cons_zero, List.getElem?_cons_succ, Option.some.injEq] at ho
              subst ho
              have g5 := hh.got 5 _ 32 rfl rfl ⟨⟨5, .data⟩, by simp, rfl, rfl⟩ (by simp)
              simp [ccV] at g5
              go_simp
              exact ⟨rfl, HI.out⟩
            · simp only [List.getElem?_cons_zero, List.getElem?_cons_succ, Option.some.injEq] at ho
              subst ho
              go_simp
              exact ⟨rfl, HI.out⟩
            · simp only [List.getElem?_cons_zero, List.getElem?_cons_succ, Option.some.injEq] at ho
              subst ho
              have g7 := hh.got 7 _ 34 rfl rfl ⟨⟨7, .data⟩, by simp, rfl, rfl⟩ (by simp)
              simp [ccV] at g7
              go_simp
              exact ⟨rfl, HI.out⟩
            · simp only [List.getElem?_cons_zero, List.getElem?_cons_succ, Option.some.injEq] at ho
              subst ho
              go_simp
              exact ⟨rfl, HI.out⟩
            · simp only [List.getElem?_cons_zero, List.getElem?_cons_succ, Option.some.injEq] at ho
              subst ho
              have g8 := hh.got 8 _ 35 rfl rfl ⟨⟨8, .data⟩, by simp, rfl, rfl⟩ (by simp)
              have g9 := hh.got 9 _ 36 rfl rfl ⟨⟨9, .data⟩, by simp, rfl, rfl⟩ (by simp)
              simp [ccV] at g8 g9
              go_simp
              exact ⟨rfl, HI.out⟩
            · simp only [List.getElem?_cons_zero, List.getElem?_cons_succ, Option.some.injEq] at ho
              subst ho
              have g10 := hh.got 10 _ 37 rfl rfl ⟨⟨10, .data⟩, by simp, rfl, rfl⟩ (by simp)
              simp [ccV] at g10
              go_simp
              exact ⟨rfl, HI.out⟩
            · simp only [List.getElem?_cons_zero, List.getElem?_cons_succ, Option.some.injEq] at ho
              subst ho
              go_simp
              exact ⟨rfl, HI.out⟩
            · simp only [List.getElem?_cons_zero, List.getElem?_cons_succ, Option.some.injEq] at ho
              subst ho
              have g12 := hh.got 12 _ 39 rfl rfl ⟨⟨12, .data⟩, by simp, rfl, rfl⟩ (by simp)
              simp [ccV] at g12
              go_simp
              exact ⟨rfl, HI.out⟩
            · simp only [List.getElem?_cons_zero, List.getElem?_cons_succ, Option.some.injEq] at ho
              subst ho
              have g13 := hh.got 13 _ 40 rfl rfl ⟨⟨13, .data⟩, by simp, rfl, rfl⟩ (by simp)
              simp [ccV] at g13
              go_simp
              exact ⟨rfl, HI.out⟩
            · simp only [List.getElem?_cons_zero, List.getElem?_cons_succ, Option.some.injEq] at ho
              subst ho
              have g11 := hh.got 11 _ 38 rfl rfl ⟨⟨11, .data⟩, by simp, rfl, rfl⟩ (by simp)
              have g14 := hh.got 14 _ 41 rfl rfl ⟨⟨14, .data⟩, by simp, rfl, rfl⟩ (by simp)
              simp [ccV] at g11 g14
              go_simp
              exact ⟨rfl, HI.out⟩
            · simp only [List.getElem?_cons_zero, List.getElem?_cons_succ, Option.some.injEq] at ho
              subst ho
              have g6 := hh.got 6 _ 33 rfl rfl ⟨⟨6, .data⟩, by simp, rfl, rfl⟩ (by simp)
              have g15 := hh.got 15 _ 42 rfl rfl ⟨⟨15, .data⟩, by simp, rfl, rfl⟩ (by simp)
              simp [ccV] at g6 g15
              go_simp
              exact ⟨rfl, HI.out⟩
          case dn =>
            intro W b' hI hb
            simp only [puts, ccV] at hb
            subst hb
            simp only [Act.put, List.setIfInBounds_toArray, List.set_cons_succ, List.set_cons_zero]
            have HI := Lib.hid (HB.out.trans (hI.mono HB.out.size))
            have HIW := Lib.hid hI
            clear hI
            have hv : nsE N [] ns = 3 := by rw [HA.out, HST.out, if_pos (inR_g (by omega))]
            have HRV := Lib.hid (show Z = 3 from by rw [HCL.out (by rw [hv]; decide), hv])
            clear hv
            go_wp2
            go_ret
            exact ⟨by rw [HRV.out]; rfl, HI.out⟩
        have e2 : ((N : Int) ≤ x) = False := by simp only [eq_iff_iff, iff_false]; exact bn
        refine wp_region_reads (ccV cb (some ⟨b, off, none⟩) K nc k b off x nb a1 N c1 false false) (ccW false) (ccG false) (Below wr.heap.size wr) (by kernel_rfl) (by kernel_rfl) (by kernel_rfl) (by kernel_rfl) (by simp [dstIn]) ?gv ?un (Below.refl _ _).drew ?stp ?dn
        case gv =>
          intro i hi
          simp [isGd] at hi
          subst hi
          rfl
        case un =>
          intro i hi hw
          have hc : i = 0 ∨ i = 1 ∨ i = 2 ∨ i = 3 ∨ i = 4 ∨ i = 5 ∨ i = 6 ∨ i = 7 ∨ i = 8 ∨ i = 9 ∨ i = 10 ∨ i = 11 ∨ i = 12 ∨ i = 13 ∨ i = 14 ∨ i = 15 ∨ i = 16 := by simp at hi; omega
          rcases hc with rfl | rfl | rfl | rfl | rfl | rfl | rfl | rfl | rfl | rfl | rfl | rfl | rfl | rfl | rfl | rfl | rfl <;> first | rfl | (exact absurd hw (by simp [ccW]))
        case stp =>
          intro W i o b' ho hwt hI hh
          have hi := (List.getElem?_eq_some_iff.1 ho).1
          have hc : i = 0 ∨ i = 1 ∨ i = 2 ∨ i = 3 ∨ i = 4 ∨ i = 5 ∨ i = 6 ∨ i = 7 ∨ i = 8 ∨ i = 9 ∨ i = 10 ∨ i = 11 ∨ i = 12 ∨ i = 13 ∨ i = 14 ∨ i = 15 ∨ i = 16 := by simp at hi; omega
          have y0 : W.cell? ⟨cb, 1, none⟩ = some (.slice (some ⟨b, off, none⟩) K nc) := ((bcell hI).1 _ _ HCBL.out).trans C1.out
          have y1 : W.cell? ⟨b, off + k, none⟩ = some (.int .i64 x) := ((bcell hI).1 _ _ HBBL.out).trans U1.out
          have y2 : W.cell? ⟨nb, 0, none⟩ = some (.slice a1 N c1) := ((bcell hI).1 _ _ HNBL.out).trans N0.out
          have HI := Lib.hid hI
          clear hi hI
          have k2 := hh.kept 2 (by simp)
          simp at k2
          have k3 := hh.kept 3 (by simp)
          simp at k3
          have k5 := hh.kept 5 (by simp)
          simp at k5
          rcases hc with rfl | rfl | rfl | rfl | rfl | rfl | rfl | rfl | rfl | rfl | rfl | rfl | rfl | rfl | rfl | rfl | rfl
          · simp only [List.getElem?_cons_zero, Option.some.injEq] at ho
            subst ho
            go_simp
            exact ⟨rfl, HI.out⟩
          · simp only [List.getElem?_cons_zero, List.getElem?_cons_succ, Option.some.injEq] at ho
            subst ho
            have g0 := hh.got 0 _ 27 rfl rfl ⟨⟨0, .data⟩, by simp, rfl, rfl⟩ (by simp)
            simp [ccV] at g0
            go_simp
            exact ⟨rfl, HI.out⟩
          · simp only [List.getElem?_cons_zero, List.getElem?_cons_succ, Option.some.injEq] at ho
            subst ho
            go_simp
            exact ⟨rfl, HI.out⟩
          · simp only [List.getElem?_cons_zero, List.getElem?_cons_succ, Option.some.injEq] at ho
            subst ho
            have g1 := hh.got 1 _ 28 rfl rfl ⟨⟨1, .data⟩, by simp, rfl, rfl⟩ (by simp)
            have g2 := hh.got 2 _ 29 rfl rfl ⟨⟨2, .data⟩, by simp, rfl, rfl⟩ (by simp)
            simp [ccV] at g1 g2
            go_simp
            exact ⟨rfl, HI.out⟩
          · simp only [List.getElem?_cons_zero, List.getElem?_cons_succ, Option.some.injEq] at ho
            subst ho
            have g3 := hh.got 3 _ 30 rfl rfl ⟨⟨3, .data⟩, by simp, rfl, rfl⟩ (by simp)
            simp [ccV] at g3
            go_simp
            exact ⟨rfl, HI.out⟩
          · simp only [List.getElem?_cons_zero, List.getElem?_cons_succ, Option.some.injEq] at ho
            subst ho
            have g4 := hh.got 4 _ 31 rfl rfl ⟨⟨4, .data⟩, by simp, rfl, rfl⟩ (by simp)
            simp [ccV] at g4
            go_simp
            exact ⟨rfl, HI.out⟩
          · simp only [List.getElem?_cons_zero, List.getElem?_cons_succ, Option.some.injEq] at ho
            subst ho
            have g5 := hh.got 5 _ 32 rfl rfl ⟨⟨5, .data⟩, by simp, rfl, rfl⟩ (by simp)
            simp [ccV] at g5
            go_simp
            exact ⟨rfl, HI.out⟩
          · simp only [List.getElem?_cons_zero, List.getElem?_cons_succ, Option.some.injEq] at ho
            subst ho
            go_simp
            exact ⟨rfl, HI.out⟩
          · simp only [List.getElem?_cons_zero, List.getElem?_cons_succ, Option.some.injEq] at ho
            subst ho
            have g7 := hh.got 7 _ 34 rfl rfl ⟨⟨7, .data⟩, by simp, rfl, rfl⟩ (by simp)
            simp [ccV] at g7
            go_simp
            exact ⟨rfl, HI.out⟩
          · simp only [List.getElem?_cons_zero, List.getElem?_cons_succ, Option.some.injEq] at ho
            subst ho
            go_simp
            exact ⟨rfl, HI.out⟩
          · simp only [List.getElem?_cons_zero, List.getElem?_cons_succ, Option.some.injEq] at ho
            subst ho
            have g8 := hh.got 8 _ 35 rfl rfl ⟨⟨8, .data⟩, by simp, rfl, rfl⟩ (by simp)
            have g9 := hh.got 9 _ 36 rfl rfl ⟨⟨9, .data⟩, by simp, rfl, rfl⟩ (by simp)
            simp [ccV] at g8 g9
            go_simp
            exact ⟨rfl, HI.out⟩
          · simp only [List.getElem?_cons_zero, List.getElem?_cons_succ, Option.some.injEq] at ho
            subst ho
            have g10 := hh.got 10 _ 37 rfl rfl ⟨⟨10, .data⟩, by simp, rfl, rfl⟩ (by simp)
            simp [ccV] at g10
            go_simp
            exact ⟨rfl, HI.out⟩
          · simp only [List.getElem?_cons_zero, List.getElem?_cons_succ, Option.some.injEq] at ho
            subst ho
            go_simp
            exact ⟨rfl, HI.out⟩
          · simp only [List.getElem?_cons_zero, List.getElem?_cons_succ, Option.some.injEq] at ho
            subst ho
            have g12 := hh.got 12 _ 39 rfl rfl ⟨⟨12, .data⟩, by simp, rfl, rfl⟩ (by simp)
            simp [ccV] at g12
            go_simp
            exact ⟨rfl, HI.out⟩
          · simp only [List.getElem?_cons_zero, List.getElem?_cons_succ, Option.some.injEq] at ho
            subst ho
            have g13 := hh.got 13 _ 40 rfl rfl ⟨⟨13, .data⟩, by simp, rfl, rfl⟩ (by simp)
            simp [ccV] at g13
            go_simp
            exact ⟨rfl, HI.out⟩
          · simp only [List.getElem?_cons_zero, List.getElem?_cons_succ, Option.some.injEq] at ho
            subst ho
            have g11 := hh.got 11 _ 38 rfl rfl ⟨⟨11, .data⟩, by simp, rfl, rfl⟩ (by simp)
            have g14 := hh.got 14 _ 41 rfl rfl ⟨⟨14, .data⟩, by simp, rfl, rfl⟩ (by simp)
            simp [ccV] at g11 g14
            go_simp
            exact ⟨rfl, HI.out⟩
          · simp only [List.getElem?_cons_zero, List.getElem?_cons_succ, Option.some.injEq] at ho
            subst ho
            have g6 := hh.got 6 _ 33 rfl rfl ⟨⟨6, .data⟩, by simp, rfl, rfl⟩ (by simp)
            have g15 := hh.got 15 _ 42 rfl rfl ⟨⟨15, .data⟩, by simp, rfl, rfl⟩ (by simp)
            simp [ccV] at g6 g15
            go_simp
            exact ⟨rfl, HI.out⟩
        case dn =>
          intro W b' hI hb
          simp only [puts, ccV] at hb
          subst hb
          simp only [Act.put, List.setIfInBounds_toArray, List.set_cons_succ, List.set_cons_zero]
          have HI := Lib.hid (HB.out.trans (hI.mono HB.out.size))
          have HIW := Lib.hid hI
          clear hI
          have hi2 : (k : Int) ≤ (nc : Int) := by omega
          have HTL := Lib.hid (show k = (ns.take k).length from by rw [List.length_take]; have := HKL.out; omega)
          have HKP := Lib.hid (kat_take (k := k) HKW.out (by have := HKL.out; omega))
          have hin : inR x 0 ((N : Int) - 1) = true := by unfold inR; simp only [Bool.and_eq_true, decide_eq_true_eq]; omega
          go_upto_region 8 with (fail)
          cases hh : (ns.take k).contains x with
          | true =>
            have hv : nsE N [] ns = 5 := by rw [HA.out, HST.out, if_neg (by rw [hin]; simp), if_pos hh]
            have HRV := Lib.hid (show Z = 5 from by rw [HCL.out (by rw [hv]; decide), hv])
            clear hv hin
            refine wp_region_reads (ceV cb K nc k b off x true) (fun _ => true) (fun _ => false) (Below W.heap.size W) (by kernel_rfl) (by kernel_rfl) (by kernel_rfl) (by kernel_rfl) (by simp [dstIn]) ?gv ?un (Below.refl _ _).drew ?stp ?dn
            case gv => intro i hi; simp [isGd] at hi
            case un => intro i hi hw; cases hw
            case stp =>
              intro W' i o b' ho hwt hI hh'
              have hi := (List.getElem?_eq_some_iff.1 ho).1
              have hc : i = 0 ∨ i = 1 ∨ i = 2 ∨ i = 3 ∨ i = 4 ∨ i = 5 ∨ i = 6 ∨ i = 7 ∨ i = 8 ∨ i = 9 := by simp at hi; omega
              have y0 : W'.cell? ⟨cb, 1, none⟩ = some (.slice (some ⟨b, off, none⟩) K nc) := ((bcell hI).1 _ _ (Nat.lt_of_lt_of_le HCBL.out HIW.out.size)).trans (((bcell HIW.out).1 _ _ HCBL.out).trans C1.out)
              have y1 : W'.cell? ⟨b, off + k, none⟩ = some (.int .i64 x) := ((bcell hI).1 _ _ (Nat.lt_of_lt_of_le HBBL.out HIW.out.size)).trans (((bcell HIW.out).1 _ _ HBBL.out).trans U1.out)
              have HI := Lib.hid hI
              clear hi hI
              have k3 := hh'.kept 3 (by simp)
              simp at k3
              have k5 := hh'.kept 5 (by simp)
              simp at k5
              rcases hc with rfl | rfl | rfl | rfl | rfl | rfl | rfl | rfl | rfl | rfl
              · simp only [List.getElem?_cons_zero, Option.some.injEq] at ho
                subst ho
                go_simp
                exact ⟨rfl, HI.out⟩
              · simp only [List.getElem?_cons_zero, List.getElem?_cons_succ, Option.some.injEq] at ho
                subst ho
                have g0 := hh'.got 0 _ 44 rfl rfl ⟨⟨0, .data⟩, by simp, rfl, rfl⟩ (by simp)
                simp [ceV] at g0
                go_simp
                exact ⟨rfl, HI.out⟩
              · simp only [List.getElem?_cons_zero, List.getElem?_cons_succ, Option.some.injEq] at ho
                subst ho
                go_simp
                exact ⟨rfl, HI.out⟩
              · simp only [List.getElem?_cons_zero, List.getElem?_cons_succ, Option.some.injEq] at ho
                subst ho
                have g1 := hh'.got 1 _ 45 rfl rfl ⟨⟨1, .data⟩, by simp, rfl, rfl⟩ (by simp)
                have g2 := hh'.got 2 _ 46 rfl rfl ⟨⟨2, .data⟩, by simp, rfl, rfl⟩ (by simp)
                simp [ceV] at g1 g2
                go_simp
                exact ⟨rfl, HI.out⟩
              · simp only [List.getElem?_cons_zero, List.getElem?_cons_succ, Option.some.injEq] at ho
                subst ho
                go_simp
                exact ⟨rfl, HI.out⟩
              · simp only [List.getElem?_cons_zero, List.getElem?_cons_succ, Option.some.injEq] at ho
                subst ho
                have g4 := hh'.got 4 _ 48 rfl rfl ⟨⟨4, .data⟩, by simp, rfl, rfl⟩ (by simp)
                simp [ceV] at g4
                go_simp
                exact ⟨rfl, HI.out⟩
              · simp only [List.getElem?_cons_zero, List.getElem?_cons_succ, Option.some.injEq] at ho
                subst ho
                go_simp
                exact ⟨rfl, HI.out⟩
              · simp only [List.getElem?_cons_zero, List.getElem?_cons_succ, Option.some.injEq] at ho
                subst ho
                have g5 := hh'.got 5 _ 49 rfl rfl ⟨⟨5, .data⟩, by simp, rfl, rfl⟩ (by simp)
                have g6 := hh'.got 6 _ 50 rfl rfl ⟨⟨6, .data⟩, by simp, rfl, rfl⟩ (by simp)
                simp [ceV] at g5 g6
                go_simp
                exact ⟨rfl, HI.out⟩
              · simp only [List.getElem?_cons_zero, List.getElem?_cons_succ, Option.some.injEq] at ho
                subst ho
                have g7 := hh'.got 7 _ 51 rfl rfl ⟨⟨7, .data⟩, by simp, rfl, rfl⟩ (by simp)
                simp [ceV] at g7
                go_simp
                exact ⟨rfl, HI.out⟩
              · simp only [List.getElem?_cons_zero, List.getElem?_cons_succ, Option.some.injEq] at ho
                subst ho
                have g3 := hh'.got 3 _ 47 rfl rfl ⟨⟨3, .data⟩, by simp, rfl, rfl⟩ (by simp)
                have g8 := hh'.got 8 _ 52 rfl rfl ⟨⟨8, .data⟩, by simp, rfl, rfl⟩ (by simp)
                simp [ceV] at g3 g8
                have hkp := HKP.out.below (HIW.out.trans (HI.out.mono HIW.out.size))
                go_simp
                go_at_call 105
                refine (rhas_any (ns.take k) x _ k nc HTL.out (by omega) W' hkp).mono ?_
                rintro e w' ⟨rfl, rfl⟩
                rw [hh]
                exact ⟨rfl, HI.out⟩
            case dn =>
              intro W' b' hI2 hb
              simp only [puts, ceV] at hb
              subst hb
              simp only [Act.put, List.setIfInBounds_toArray, List.set_cons_succ, List.set_cons_zero]
              have HI2 := Lib.hid (HI.out.trans (hI2.mono HI.out.size))
              have HIW2 := Lib.hid (HIW.out.trans (hI2.mono HIW.out.size))
              clear hI2
              go_wp2
              go_ret
              exact ⟨by rw [HRV.out]; rfl, HI2.out⟩
          | false =>
            have HA2 := Lib.hid (show nsE N [] ns = nsE N (ns.take (k + 1)) (ns.drop (k + 1)) from by rw [HA.out, HST.out, if_neg (by rw [hin]; simp), if_neg (by rw [hh]; simp)])
            clear hin
            refine wp_region_reads (ceV cb K nc k b off x false) (fun _ => true) (fun _ => false) (Below W.heap.size W) (by kernel_rfl) (by kernel_rfl) (by kernel_rfl) (by kernel_rfl) (by simp [dstIn]) ?gv ?un (Below.refl _ _).drew ?stp ?dn
            case gv => intro i hi; simp [isGd] at hi
            case un => intro i hi hw; cases hw
            case stp =>
              intro W' i o b' ho hwt hI hh'
              have hi := (List.getElem?_eq_some_iff.1 ho).1
              have hc : i = 0 ∨ i = 1 ∨ i = 2 ∨ i = 3 ∨ i = 4 ∨ i = 5 ∨ i = 6 ∨ i = 7 ∨ i = 8 ∨ i = 9 := by simp at hi; omega
              have y0 : W'.cell? ⟨cb, 1, none⟩ = some (.slice (some ⟨b, off, none⟩) K nc) := ((bcell hI).1 _ _ (Nat.lt_of_lt_of_le HCBL.out HIW.out.size)).trans (((bcell HIW.out).1 _ _ HCBL.out).trans C1.out)
              have y1 : W'.cell? ⟨b, off + k, none⟩ = some (.int .i64 x) := ((bcell hI).1 _ _ (Nat.lt_of_lt_of_le HBBL.out HIW.out.size)).trans (((bcell HIW.out).1 _ _ HBBL.out).trans U1.out)
              have HI := Lib.hid hI
              clear hi hI
              have k3 := hh'.kept 3 (by simp)
              simp at k3
              have k5 := hh'.kept 5 (by simp)
              simp at k5
              rcases hc with rfl | rfl | rfl | rfl | rfl | rfl | rfl | rfl | rfl | rfl
              · simp only [List.getElem?_cons_zero, Option.some.injEq] at ho
                subst ho
                go_simp
                exact ⟨rfl, HI.out⟩
              · simp only [List.getElem?_cons_zero, List.getElem?_cons_succ, Option.some.injEq] at ho
                subst ho
                have g0 := hh'.got 0 _ 44 rfl rfl ⟨⟨0, .data⟩, by simp, rfl, rfl⟩ (by simp)
                simp [ceV] at g0
                go_simp
                exact ⟨rfl, HI.out⟩
              · simp only [List.getElem?_cons_zero, List.getElem?_cons_succ, Option.some.injEq] at ho
                subst ho
                go_simp
                exact ⟨rfl, HI.out⟩
              · simp only [List.getElem?_cons_zero, List.getElem?_cons_succ, Option.some.injEq] at ho
                subst ho
                have g1 := hh'.got 1 _ 45 rfl rfl ⟨⟨1, .data⟩, by simp, rfl, rfl⟩ (by simp)
                have g2 := hh'.got 2 _ 46 rfl rfl ⟨⟨2, .data⟩, by simp, rfl, rfl⟩ (by simp)
                simp [ceV] at g1 g2
                go_simp
                exact ⟨rfl, HI.out⟩
              · simp only [List.getElem?_cons_zero, List.getElem?_cons_succ, Option.some.injEq] at ho
                subst ho
                go_simp
                exact ⟨rfl, HI.out⟩
              · simp only [List.getElem?_cons_zero, List.getElem?_cons_succ, Option.some.injEq] at ho
                subst ho
                have g4 := hh'.got 4 _ 48 rfl rfl ⟨⟨4, .data⟩, by simp, rfl, rfl⟩ (by simp)
                simp [ceV] at g4
                go_simp
                exact ⟨rfl, HI.out⟩
              · simp only [List.getElem?_cons_zero, List.getElem?_cons_succ, Option.some.injEq] at ho
                subst ho
                go_simp
                exact ⟨rfl, HI.out⟩
              · simp only [List.getElem?_cons_zero, List.getElem?_cons_succ, Option.some.injEq] at ho
                subst ho
                have g5 := hh'.got 5 _ 49 rfl rfl ⟨⟨5, .data⟩, by simp, rfl, rfl⟩ (by simp)
                have g6 := hh'.got 6 _ 50 rfl rfl ⟨⟨6, .data⟩, by simp, rfl, rfl⟩ (by simp)
                simp [ceV] at g5 g6
                go_simp
                exact ⟨rfl, HI.out⟩
              · simp only [List.getElem?_cons_zero, List.getElem?_cons_succ, Option.some.injEq] at ho
                subst ho
                have g7 := hh'.got 7 _ 51 rfl rfl ⟨⟨7, .data⟩, by simp, rfl, rfl⟩ (by simp)
                simp [ceV] at g7
                go_simp
                exact ⟨rfl, HI.out⟩
              · simp only [List.getElem?_cons_zero, List.getElem?_cons_succ, Option.some.injEq] at ho
                subst ho
                have g3 := hh'.got 3 _ 47 rfl rfl ⟨⟨3, .data⟩, by simp, rfl, rfl⟩ (by simp)
                have g8 := hh'.got 8 _ 52 rfl rfl ⟨⟨8, .data⟩, by simp, rfl, rfl⟩ (by simp)
                simp [ceV] at g3 g8
                have hkp := HKP.out.below (HIW.out.trans (HI.out.mono HIW.out.size))
                go_simp
                go_at_call 105
                refine (rhas_any (ns.take k) x _ k nc HTL.out (by omega) W' hkp).mono ?_
                rintro e w' ⟨rfl, rfl⟩
                rw [hh]
                exact ⟨rfl, HI.out⟩
            case dn =>
              intro W' b' hI2 hb
              simp only [puts, ceV] at hb
              subst hb
              simp only [Act.put, List.setIfInBounds_toArray, List.set_cons_succ, List.set_cons_zero]
              have HI2 := Lib.hid (HI.out.trans (hI2.mono HI.out.size))
              have HIW2 := Lib.hid (HIW.out.trans (hI2.mono HIW.out.size))
              clear hI2
              go_wp2
              go_roundw
              case rel => exact ⟨k + 1, by omega, by go_num, HI2.out, HB1.out.trans (HIW2.out.mono HB1.out.size), HA2⟩
              case measure => simp [intOf]; omega
      · have hz : nsE N [] ns = 0 := by
          rw [HA.out, show k = ns.length from by have := HKL.out; omega, List.drop_length]; rfl
        have HZ2 := Lib.hid (show Z = if fr < 0 ∨ to < fr ∨ 10000 < to ∨ lo < 0 ∨ hi < 0 then 3 else 0 from by
          rw [HR.out]; unfold claimE; rw [if_pos ⟨by simp, HNE.out⟩, if_neg (by rw [hz]; simp)])
        clear hz HCL
        by_cases b1 : fr < 0
        · have HRV := Lib.hid (show Z = 3 from by rw [HZ2.out, if_pos (.inl b1)])
          go_wp2
          go_ret
          exact ⟨by rw [HRV.out]; rfl, HB.out⟩
        by_cases b2 : to < fr
        · have HRV := Lib.hid (show Z = 3 from by rw [HZ2.out, if_pos (.inr (.inl b2))])
          go_wp2
          go_ret
          exact ⟨by rw [HRV.out]; rfl, HB.out⟩
        by_cases b3 : 10000 < to
        · have HRV := Lib.hid (show Z = 3 from by rw [HZ2.out, if_pos (.inr (.inr (.inl b3)))])
          go_wp2
          go_ret
          exact ⟨by rw [HRV.out]; rfl, HB.out⟩
        by_cases b4 : lo < 0
        · have HRV := Lib.hid (show Z = 3 from by rw [HZ2.out, if_pos (.inr (.inr (.inr (.inl b4))))])
          go_wp2
          go_ret
          exact ⟨by rw [HRV.out]; rfl, HB.out⟩
        by_cases b5 : hi < 0
        · have HRV := Lib.hid (show Z = 3 from by rw [HZ2.out, if_pos (.inr (.inr (.inr (.inr b5))))])
          go_wp2
          go_ret
          exact ⟨by rw [HRV.out]; rfl, HB.out⟩
        have HRV := Lib.hid (show Z = 0 from by rw [HZ2.out, if_neg (by omega)])
        go_wp2
        go_ret
        exact ⟨by rw [HRV.out]; rfl, HB.out⟩
end Go.Proofs.YtnbndciididpoaaGreat
