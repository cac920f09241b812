/- verify.among, exists, count. Over this seat's program. (mk_Vb.py wrote this.) -/
import Derived.Test.YtnbndciididpoaaGreatVa
import Derived.StillTailTactics
namespace Go.Proofs.YtnbndciididpoaaGreat
set_option linter.unusedVariables false
open Go.RowKit Go.Shelf

set_option maxHeartbeats 400000 in
theorem vamong_any (x a b : Int) (w : World) :
    Calls Tryz.prog 72 #[.int .i64 x, .int .i64 a, .int .i64 b] w fun e w' => e = .returned (.bool (inR x a b)) ∧ w = w' := by
  by_cases h1 : a ≤ x
  · go_enter Tryz.func72, Tryz.ntmps72
    go_wp2
    go_ret
    exact ⟨by simp [inR, *], rfl⟩
  · go_enter Tryz.func72, Tryz.ntmps72
    go_wp2
    go_ret
    exact ⟨by simp [inR]; omega, rfl⟩
theorem vexists_any (x : Int) (w : World) :
    Calls Tryz.prog 76 #[.int .i64 x] w fun e w' => e = .returned (.bool (inR x 0 9999)) ∧ w = w' := by
  go_enter Tryz.func76, Tryz.ntmps76
  go_wp2_with (go_at_call 72; refine (vamong_any _ _ _ _).mono ?_; rintro e w' ⟨rfl, rfl⟩)
  go_ret
  exact ⟨rfl, rfl⟩
theorem run_min2v {P : Program} {w : World} (ts : Array TypeId) (t : TypeId) (k k' : IntKind) (x y : Int) : (Builtin.min_ ts t #[.int k x, .int k' y]).run P w = .ok (.int k (min x y)) w := by
  rw [run_min_int2]
  have : (if y < x then y else x) = min x y := by split <;> omega
  rw [this]
attribute [local go_sem high] run_min2v
/-- Two cells of a block hold an event. -/
def EBox (W : World) (b : Nat) (x y : Int) : Prop := W.heap[b]? = some (.cells #[.int .i64 x, .int .i64 y] 76)
/-- The row while it is worked over, from above: what lies above q is new. -/
def midW (T : Nat) (W : Nat → Nat) (q : Nat) (i : Nat) : Int := if q ≤ i then (wayM T W i : Int) else (W i : Int)
set_option maxRecDepth 100000 in
set_option maxHeartbeats 4000000 in
theorem count_any (j s : Nat) (hj : j ≤ 64) (hs : s ≤ 64) (l : List Evx) (hl : l.length ≤ 64) (hv : ∀ x ∈ l, 0 ≤ x.tk ∧ x.tk ≤ 9999) (a : Option Addr) (cap : Nat) (w : World) (hT : EvxsAt w (.slice a l.length cap) l) :
    Calls Tryz.prog 77 #[.slice a l.length cap, .int .i64 (j : Int), .int .i64 (s : Int)] w fun e w' => e = .returned (.int .i64 (sumTo (wayC j l) (s + 1) : Nat)) ∧ Below w.heap.size w w' := by
  obtain ⟨n, hn⟩ : ∃ n, n = l.length := ⟨_, rfl⟩
  rw [← hn] at hl hT ⊢
  have HT := Lib.hid hT
  have HN := Lib.hid hn
  have HV := Lib.hid hv
  clear hT hn hv
  have hmk := fun W => make_row (s + 1) (by omega) W
  have e0 : ((s + 1 : Nat) : Int) = (s : Int) + 1 := by omega
  rw [e0] at hmk
  go_enter Tryz.func77, Tryz.ntmps77
  go_upto_region 2 with (fail)
  have hr0 : RowAt (w.alloc (.cells (rowC (s + 1) fun _ => 0).toArray 3)) w.heap.size (s + 1) (fun _ => 0) := alloc_new_at _ _ _ rfl
  have hb0 : Below w.heap.size w (w.alloc (.cells (rowC (s + 1) fun _ => 0).toArray 3)) := (Below.refl _ _).alloc (Nat.le_refl _) _
  obtain ⟨WB, hWB⟩ : ∃ g, g = w.heap.size := ⟨_, rfl⟩
  rw [← hWB] at hr0 ⊢
  generalize w.alloc (.cells (rowC (s + 1) fun _ => 0).toArray 3) = W1 at *
  obtain ⟨c1, f1⟩ := hr0.cell (i := 0) (by omega)
  have hr1 := hr0.set (i := 0) (by omega) 1
  have HR1 := Lib.hid (hr1.congr (g := fun i => (way0 i : Int)) (fun i _ => by unfold way0; by_cases e : i = 0 <;> simp [e]))
  have HB1 := Lib.hid (Below.setCell (p := ⟨WB, 0, none⟩) hb0 (by show w.heap.size ≤ WB; omega) (.int .i64 1))
  have hWl : w.heap.size ≤ WB := by omega
  clear hmk hr0 hb0 hr1 hWB
  go_upto_region 3 with (fail)
  generalize W1.setCell ⟨WB, 0, none⟩ (.int .i64 1) = W2 at *
  clear c1 f1
  go_wp2
  go_loopw [22] (fun st wr => ∃ k : Nat, k ≤ n ∧ st = .int .i64 k ∧ RowAt wr WB (s + 1) (fun i => (wayC j (l.take k) i : Int)) ∧ Below w.heap.size w wr) (fun st _ => n - (intOf st).toNat)
  case atStart => exact ⟨0, Nat.zero_le _, rfl, HR1.out, HB1.out⟩
  case round =>
    obtain ⟨k, hk, rfl, hr, hb⟩ := hrel
    have HR := Lib.hid hr
    have HB := Lib.hid hb
    have hbw := lt_of_block hr
    clear hr hb
    by_cases hlt : k < n
    · obtain ⟨x, hx⟩ : ∃ x, l[k]? = some x := ⟨_, List.getElem?_eq_getElem (by rw [← HN.out]; exact hlt)⟩
      have hi0 : (0 : Int) ≤ (k : Int) := Int.natCast_nonneg _
      have hi1 : (k : Int) < (n : Int) := by omega
      have hsn : wayC j (l.take (k + 1)) = wayM (tickN x.tk j) (wayC j (l.take k)) := by rw [List.take_add_one, hx]; exact wayC_snoc _ _ _
      obtain ⟨b, off, rfl, hbl, hcl⟩ := (HT.out.below HB.out).at hx
      have hxv := HV.out x (List.mem_of_getElem? hx)
      obtain ⟨X, Y⟩ := x
      obtain ⟨u1, u2⟩ := hcl
      simp only at u1 u2 hxv hsn
      obtain ⟨N, rfl⟩ := Int.eq_ofNat_of_zero_le hxv.1
      obtain ⟨T, hT⟩ : ∃ T, T = tickN (N : Int) j := ⟨_, rfl⟩
      have hTe : min (N : Int) (j : Int) + 1 + min (9999 - (N : Int)) (j : Int) = (T : Int) := by rw [hT]; unfold tickN; omega
      have hTl : T ≤ 129 := by rw [hT]; exact tickN_le _ _ hj
      rw [← hT] at hsn
      obtain ⟨C, hC⟩ : ∃ C, C = wayC j (l.take k) := ⟨_, rfl⟩
      have hCl : ∀ q, C q ≤ 20001 := fun q => by rw [hC]; exact wayC_le _ _ _
      have HRC := HR.out
      rw [← hC] at hsn HRC
      have HRC := Lib.hid HRC
      have HSN := Lib.hid hsn
      have HTE := Lib.hid hTe
      have HCL := Lib.hid hCl
      clear hx hsn hT hTe hC hCl
      go_upto_region 6 with (fail)
      have hbn := HB.out.alloc HB.out.size (.cells #[.int .i64 (N : Int), .int .i64 Y] 76)
      have htb : EBox (wr.alloc (.cells #[.int .i64 (N : Int), .int .i64 Y] 76)) wr.heap.size N Y := alloc_new_at _ _ _ rfl
      have hrn : RowAt (wr.alloc (.cells #[.int .i64 (N : Int), .int .i64 Y] 76)) WB (s + 1) (fun i => (C i : Int)) := (Below.heap_alloc _ _ _ hbw).trans HRC.out
      have hwl : WB ≠ wr.heap.size := by omega
      generalize wr.alloc (.cells #[.int .i64 (N : Int), .int .i64 Y] 76) = W5 at *
      have HBN := Lib.hid hbn
      have HRN := Lib.hid hrn
      obtain ⟨q0, q1, _, _⟩ := cells2 htb
      clear hbn htb hrn u1 u2 HR HRC
      go_upto_region 7 with (fail)
      rw [HTE.out]
      have hT0 : (0 : Int) ≤ (T : Int) := Int.natCast_nonneg _
      clear q0 q1 hi0 hi1
      generalize W5 = wo at *
      go_wp2
      go_loopw [11] (fun st wr => ∃ q : Nat, q ≤ s + 1 ∧ st = .int .i64 ((q : Int) - 1) ∧ RowAt wr WB (s + 1) (midW T C q) ∧ Below w.heap.size w wr) (fun st _ => (intOf st + 1).toNat)
      case atStart => exact ⟨s + 1, Nat.le_refl _, by simp, HRN.out.congr (fun i hi => by unfold midW; rw [if_neg (by omega)]), HBN.out⟩
      case round =>
        obtain ⟨q, hq, rfl, hr, hb⟩ := hrel
        cases q with
        | zero =>
          have HR := Lib.hid hr
          have HB := Lib.hid hb
          clear hr hb
          go_wp2
          go_roundw
          case rel => exact ⟨k + 1, by omega, by go_num, HR.out.congr (fun i hi => by rw [HSN.out]; unfold midW; rw [if_pos (Nat.zero_le _)]), HB.out⟩
          case measure => simp [intOf]; omega
        | succ p =>
          have ep : ((p + 1 : Nat) : Int) - 1 = (p : Int) := by omega
          rw [ep]
          have hcp : ((midW T C (p + 1) p : Int)) = (C p : Int) := by unfold midW; rw [if_neg (by omega)]
          obtain ⟨y0, f0⟩ := hr.cell (i := p) (by omega)
          rw [hcp] at y0
          have hB0 := HCL.out p
          have hm1 : C p * T ≤ 20001 * 129 := Nat.mul_le_mul hB0 hTl
          obtain ⟨M, hM⟩ : ∃ M, M = C p * T := ⟨_, rfl⟩
          have hMi : (C p : Int) * (T : Int) = (M : Int) := by rw [hM]; push_cast; rfl
          rw [← hM] at hm1
          have hr6 := hr.set (i := p) (by omega) (M : Int)
          have HB6 := Lib.hid (Below.setCell (p := ⟨WB, p, none⟩) hb hWl (.int .i64 (M : Int)))
          have HRP := Lib.hid hr
          have HME := Lib.hid hM
          have hi0 : (0 : Int) ≤ (p : Int) := Int.natCast_nonneg _
          have hi1 : (p : Int) < (s : Int) + 1 := by omega
          obtain ⟨Cp, hCp⟩ : ∃ c, c = C p := ⟨_, rfl⟩
          rw [← hCp] at hMi y0 hB0
          clear hcp hr hb hM hCp
          go_upto_region 11 with (fail)
          generalize wr.setCell ⟨WB, p, none⟩ (.int .i64 (M : Int)) = W6 at *
          obtain ⟨y1, f1⟩ := hr6.cell (i := p) (by omega)
          rw [if_pos rfl] at y1
          clear y0 f0 hMi
          by_cases hp0 : p = 0
          · have g1 : ((0 : Int) < (p : Int)) = False := by simp; omega
            have hr7 := hr6.set (i := p) (by omega) (min (M : Int) 20001)
            have HR7 := Lib.hid (hr7.congr (g := midW T C p) (fun i hi => by
              unfold midW wayM
              by_cases e : i = p
              · subst e; rw [if_pos rfl, if_pos (Nat.le_refl _), if_pos hp0, ← HME.out]; omega
              · rw [if_neg e, if_neg e]
                by_cases e2 : p ≤ i
                · rw [if_pos (by omega), if_pos e2]
                · rw [if_neg (by omega), if_neg e2]))
            have HB7 := Lib.hid (Below.setCell (p := ⟨WB, p, none⟩) HB6.out hWl (.int .i64 (min (M : Int) 20001)))
            clear hr6 hr7 g1 hi0 hi1 ep
            subst hp0
            rw [show ((0 : Nat) : Int) = (0 : Int) from rfl]
            go_wp2
            go_roundw
            case rel => exact ⟨0, by omega, by first | rfl | go_num, HR7.out, HB7.out⟩
            case measure => simp [intOf]
          · obtain ⟨p1, rfl⟩ : ∃ p1, p = p1 + 1 := ⟨p - 1, by omega⟩
            obtain ⟨y2, f2⟩ := hr6.cell (i := p1) (by omega)
            rw [if_neg (by omega)] at y2
            have hcq : (midW T C (p1 + 1 + 1) p1 : Int) = (C p1 : Int) := by unfold midW; rw [if_neg (by omega)]
            rw [hcq] at y2
            have hB1 := HCL.out p1
            obtain ⟨D, hD⟩ : ∃ c, c = C p1 := ⟨_, rfl⟩
            rw [← hD] at y2 hB1
            have HDE := Lib.hid hD
            have hi2 : (0 : Int) ≤ (p1 : Int) := Int.natCast_nonneg _
            have hi3 : (p1 : Int) < (s : Int) + 1 := by omega
            have hi4 : (0 : Int) ≤ (p1 : Int) + 1 := by omega
            have hi5 : (p1 : Int) + 1 < (s : Int) + 1 := by omega
            have g1 : ((0 : Int) < (p1 : Int) + 1) = True := by simp only [eq_iff_iff, iff_true]; omega
            have hw3 : IntKind.i64.wrap (p1 : Int) = (p1 : Int) := by rw [IntKind.wrap_i64]; omega
            have HR6 := Lib.hid hr6
            rw [show ((p1 + 1 : Nat) : Int) = (p1 : Int) + 1 from by omega]
            clear hcq hD hr6 hi0 hi1
            go_upto_region 12 with (fail)
            go_still_tail 11, (by kernel_rfl)
            change wpList _ _ _ _ _ W6.drew
            have HRD := Lib.hid (show RowAt W6.drew WB (s + 1) _ from HR6.out)
            have HBD := Lib.hid (show Below w.heap.size w W6.drew from HB6.out.drew)
            clear y1 f1 y2
            generalize W6.drew = W7 at *
            obtain ⟨y1, f1⟩ := HRD.out.cell (i := p1 + 1) (by omega)
            rw [if_pos rfl] at y1
            obtain ⟨G, hG⟩ : ∃ G, G = M + D := ⟨_, rfl⟩
            have hGi : (M : Int) + (D : Int) = (G : Int) := by rw [hG]; push_cast; rfl
            have hGl : G ≤ 20001 * 130 := by omega
            have HGE := Lib.hid hG
            have hr8 := HRD.out.set (i := p1 + 1) (by omega) (G : Int)
            have HB8 := Lib.hid (Below.setCell (p := ⟨WB, p1 + 1, none⟩) HBD.out hWl (.int .i64 (G : Int)))
            clear hG
            go_upto_region 13 with (fail)
            generalize W7.setCell ⟨WB, p1 + 1, none⟩ (.int .i64 (G : Int)) = W8 at *
            clear y1 f1 hGi
            obtain ⟨y1, f1⟩ := hr8.cell (i := p1 + 1) (by omega)
            rw [if_pos rfl] at y1
            have hr7 := hr8.set (i := p1 + 1) (by omega) (min (G : Int) 20001)
            have HR7 := Lib.hid (hr7.congr (g := midW T C (p1 + 1)) (fun i hi => by
              unfold midW wayM
              by_cases e : i = p1 + 1
              · subst e
                rw [if_pos rfl, if_pos (Nat.le_refl _), if_neg (by omega), HGE.out, HDE.out, HME.out, Nat.add_sub_cancel]
                push_cast
                omega
              · rw [if_neg e, if_neg e, if_neg e]
                by_cases e2 : p1 + 1 ≤ i
                · rw [if_pos (by omega), if_pos e2]
                · rw [if_neg (by omega), if_neg e2]))
            have HB7 := Lib.hid (Below.setCell (p := ⟨WB, p1 + 1, none⟩) HB8.out hWl (.int .i64 (min (G : Int) 20001)))
            clear hr7 hr8 g1
            go_wp2
            go_roundw
            case rel => exact ⟨p1 + 1, by omega, by first | rfl | go_num, HR7.out, HB7.out⟩
            case measure => simp [intOf]; omega
    · obtain ⟨C, hC⟩ : ∃ C, C = wayC j l := ⟨_, rfl⟩
      have hCl : ∀ q, C q ≤ 20001 := fun q => by rw [hC]; exact wayC_le _ _ _
      have hrc : RowAt wr WB (s + 1) (fun i => (C i : Int)) := by
        have h1 := HR.out
        rw [show k = l.length from by have := HN.out; omega, List.take_length, ← hC] at h1
        exact h1
      have HRC := Lib.hid hrc
      have HCL := Lib.hid hCl
      have HCE := Lib.hid hC
      clear hrc hCl hC HR
      have hkn : k = n := by omega
      subst hkn
      have hi0 : (0 : Int) ≤ (k : Int) := Int.natCast_nonneg _
      generalize wr = wo at *
      go_wp2
      go_loopw [12, 73] (fun s12 s73 wr => ∃ q : Nat, q ≤ s + 1 ∧ s12 = .int .i64 (sumTo C q : Nat) ∧ s73 = .int .i64 (q : Int) ∧ wr = wo) (fun _ s73 _ => s + 1 - (intOf s73).toNat)
      case atStart => exact ⟨0, Nat.zero_le _, rfl, rfl, rfl⟩
      case round =>
        obtain ⟨q, hq, rfl, rfl, rfl⟩ := hrel
        by_cases hq1 : q < s + 1
        · obtain ⟨y0, _⟩ := HRC.out.cell (i := q) hq1
          have h0 := HCL.out q
          have h1 := sumTo_bound HCL.out q
          obtain ⟨D, hD⟩ : ∃ D, D = C q := ⟨_, rfl⟩
          obtain ⟨A, hA⟩ : ∃ A, A = sumTo C q := ⟨_, rfl⟩
          have e1 : (A : Int) + (D : Int) = (sumTo C (q + 1) : Nat) := by rw [hA, hD]; simp only [sumTo]; push_cast; rfl
          have h2 : A ≤ 65 * 20001 := by rw [hA]; exact Nat.le_trans h1 (Nat.mul_le_mul_right _ (by omega))
          rw [← hD] at y0 h0
          rw [← hA]
          have hq0 : (0 : Int) ≤ (q : Int) := Int.natCast_nonneg _
          have hq2 : (q : Int) < (s : Int) + 1 := by omega
          have E1 := Lib.hid e1
          clear h1 hA hD e1
          go_wp2
          go_roundw
          case rel => exact ⟨q + 1, by omega, by rw [E1.out], by go_num, trivial⟩
          case measure => simp [intOf]; omega
        · have hqe : q = s + 1 := by omega
          subst hqe
          go_wp2
          go_ret
          exact ⟨by rw [HCE.out]; rfl, HB.out⟩
end Go.Proofs.YtnbndciididpoaaGreat
