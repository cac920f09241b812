/- The specification's options of an event. Over this seat's program. (mk_Vd.py wrote this.) -/
import Derived.Test.YtnbndciididpoaaGreatVc
namespace Go.Proofs.YtnbndciididpoaaGreat
set_option linter.unusedVariables false
open Go.RowKit Go.Shelf

def iCs (l : List Int) : List Value := l.map (Value.int .i64)
theorem iCs_length (l : List Int) : (iCs l).length = l.length := by simp [iCs]
theorem iCs_at {l : List Int} {i : Nat} {x : Int} (h : l[i]? = some x) : (iCs l)[i]? = some (.int .i64 x) := by simp [iCs, h]
/-- The ticks that an event can be moved to by at most so many. -/
def optA (t : Int) (k : Nat) : List Int := if 0 ≤ t - ((k : Int) + 1) then [t - ((k : Int) + 1)] else []
def optB (t : Int) (k : Nat) : List Int := if t + ((k : Int) + 1) < 10000 then [t + ((k : Int) + 1)] else []
def optM (t : Int) : Nat → List Int
  | 0 => [t]
  | k + 1 => optM t k ++ optA t k ++ optB t k
def optL (t : Int) (j : Nat) : List Int := optM t j ++ [-1]
theorem optM_len {t : Int} (h0 : 0 ≤ t) (h1 : t ≤ 9999) : ∀ k, (optM t k).length = tickN t k
  | 0 => by unfold tickN; simp [optM]
  | k + 1 => by
    have h := optM_len h0 h1 k
    unfold tickN at *
    simp only [optM, List.length_append, h]
    unfold optA optB
    split <;> split <;> simp <;> omega
theorem optM_pos {t : Int} (h0 : 0 ≤ t) : ∀ k, ∀ x ∈ optM t k, 0 ≤ x
  | 0, x, h => by simp [optM] at h; omega
  | k + 1, x, h => by
    simp only [optM, List.mem_append] at h
    rcases h with (h | h) | h
    · exact optM_pos h0 k x h
    · unfold optA at h; split at h <;> simp at h; omega
    · unfold optB at h; split at h <;> simp at h; omega
set_option maxRecDepth 100000 in
set_option maxHeartbeats 4000000 in
theorem options_any (t : Int) (j : Nat) (h0 : 0 ≤ t) (h1 : t ≤ 9999) (hj : j ≤ 64) (w : World) :
    Calls Tryz.prog 124 #[.int .i64 t, .int .i64 (j : Int)] w fun e w' => ∃ sv, e = .returned sv ∧ w'.ownsRow w.heap.size 3 1 sv (optL t j).length (iCs (optL t j)) ∧ Below w.heap.size w w' := by
  obtain ⟨i0, hi, hz0, hzz1, hzz2⟩ := info_parts info3
  have HLEN := Lib.hid (optM_len h0 h1)
  have hle : ∀ k, k ≤ j → (optM t k).length ≤ 129 := fun k hk => by rw [HLEN.out k]; exact tickN_le _ _ (by omega)
  have HLE := Lib.hid hle
  clear hle
  go_enter Tryz.func124, Tryz.ntmps124
  go_upto_region 3 with (fail)
  have ho0 : (w.alloc (.cells #[.int .i64 t] 3)).ownsRow w.heap.size 3 1 (.slice (some ⟨w.heap.size, 0, none⟩) 1 1) (optM t 0).length (iCs (optM t 0)) :=
    ⟨rfl, .inr ⟨w.heap.size, 1, #[.int .i64 t], rfl, Nat.le_refl _, alloc_new_at _ _ _ rfl, Nat.le_refl _, by unfold maxLen; omega, rfl, rfl⟩⟩
  have HO0 := Lib.hid ho0
  have HB0 := Lib.hid ((Below.refl w.heap.size w).alloc (Nat.le_refl _) (.cells #[.int .i64 t] 3))
  obtain ⟨v0, hv0⟩ : ∃ v, v = Value.slice (some ⟨w.heap.size, 0, none⟩) 1 1 := ⟨_, rfl⟩
  rw [← hv0] at HO0 ⊢
  clear ho0 hv0
  generalize w.alloc (.cells #[.int .i64 t] 3) = W1 at *
  go_loopw [5, 6] (fun s5 s6 wr => ∃ k : Nat, k ≤ j ∧ s6 = .int .i64 ((k : Int) + 1) ∧ wr.ownsRow w.heap.size 3 1 s5 (optM t k).length (iCs (optM t k)) ∧ Below w.heap.size w wr) (fun _ s6 _ => j + 1 - (intOf s6).toNat)
  case atStart => exact ⟨0, Nat.zero_le _, rfl, HO0.out, HB0.out⟩
  case round =>
    obtain ⟨k, hk, rfl, ho, hb⟩ := hrel
    have HO := Lib.hid ho
    have HB := Lib.hid hb
    have hzr := hb.size
    have hlen := HLE.out k hk
    obtain ⟨a5, c5, e5⟩ := own_slC ho
    obtain ⟨nn, hnn⟩ : ∃ nn, nn = (optM t k).length := ⟨_, rfl⟩
    clear ho hb
    by_cases hlt : k < j
    · have hi1 : (k : Int) + 1 ≤ (j : Int) := by omega
      have hi0 : (0 : Int) ≤ (k : Int) := Int.natCast_nonneg _
      by_cases ha : 0 ≤ t - ((k : Int) + 1)
      · have HA := Lib.hid (show optA t k = [t - ((k : Int) + 1)] from by unfold optA; rw [if_pos ha])
        have HNEW := Lib.hid (show (wr.alloc (.cells #[.int .i64 (t - ((k : Int) + 1))] 3)).heap[wr.heap.size]? = some (.cells ⟨[.int .i64 (t - ((k : Int) + 1))]⟩ 3) from alloc_new_at _ _ _ rfl)
        go_upto_region 7 with (at_builtin; go_must (refine wpList_append_own _ rfl _ _ 26 rfl w.heap.size 3 i0 _ 1 8 Tryz.underlying26 hi hz0 hzz1 hzz2 rfl (by decide) _ _ _ rfl (HO.out.alloc _) ⟨wr.heap.size, 0, none⟩ 1 1 [.int .i64 (t - ((k : Int) + 1))] rfl rfl (cells_new HNEW.out) (by simp [Value.oneCell']) (by unfold maxLen; omega) (by omega) (by simp; omega) ?_); intro v' W8 hown' hgrow _)
        have hsz := hgrow.size
        rw [World.size_alloc] at hsz
        have B1 := Lib.hid (show w.heap.size ≤ W8.heap.size ∧ Below w.heap.size w W8 from ⟨by have := HB.out.size; omega, HB.out.trans ⟨hgrow.os, hgrow.tape, hgrow.output, by omega, fun q hq => by
          have := HB.out.size
          rw [hgrow.block q (by rw [World.size_alloc]; omega) (fun e => by have := (HO.out.lt q e.symm).1; omega), Below.heap_alloc _ _ _ (by omega)]⟩⟩)
        have O1 := Lib.hid (show W8.ownsRow w.heap.size 3 1 v' (optM t k ++ [t - ((k : Int) + 1)]).length (iCs (optM t k ++ [t - ((k : Int) + 1)])) from by rw [iCs, List.map_append, List.length_append]; exact hown')
        clear hgrow hsz hown' ha e5 hnn
        have hlen2 : (optM t k ++ [t - ((k : Int) + 1)]).length ≤ 130 := by simp; omega
        generalize v' = v1 at *
        have hz8 := B1.out.1
        by_cases hb : t + ((k : Int) + 1) < 10000
        · have HBB := Lib.hid (show optB t k = [t + ((k : Int) + 1)] from by unfold optB; rw [if_pos hb])
          have B1b := Lib.hid B1.out.2
          generalize W8 = W7 at *
          have HNEW2 := Lib.hid (show (W7.alloc (.cells #[.int .i64 (t + ((k : Int) + 1))] 3)).heap[W7.heap.size]? = some (.cells ⟨[.int .i64 (t + ((k : Int) + 1))]⟩ 3) from alloc_new_at _ _ _ rfl)
          go_wp2_with (at_builtin; go_must (refine wpList_append_own _ rfl _ _ 26 rfl w.heap.size 3 i0 _ 1 8 Tryz.underlying26 hi hz0 hzz1 hzz2 rfl (by decide) _ _ _ rfl (O1.out.alloc _) ⟨W7.heap.size, 0, none⟩ 1 1 [.int .i64 (t + ((k : Int) + 1))] rfl rfl (cells_new HNEW2.out) (by simp [Value.oneCell']) (by unfold maxLen; omega) (by omega) (by simp; omega) ?_); intro v' W8 hown' hgrow _)
          have hsz := hgrow.size
          rw [World.size_alloc] at hsz
          have B2 := Lib.hid (show w.heap.size ≤ W8.heap.size ∧ Below w.heap.size w W8 from ⟨by have := B1b.out.size; omega, B1b.out.trans ⟨hgrow.os, hgrow.tape, hgrow.output, by omega, fun q hq => by
            have := B1b.out.size
            rw [hgrow.block q (by rw [World.size_alloc]; omega) (fun e => by have := (O1.out.lt q e.symm).1; omega), Below.heap_alloc _ _ _ (by omega)]⟩⟩)
          have O2 := Lib.hid (show W8.ownsRow w.heap.size 3 1 v' (optM t k ++ [t - ((k : Int) + 1)] ++ [t + ((k : Int) + 1)]).length (iCs (optM t k ++ [t - ((k : Int) + 1)] ++ [t + ((k : Int) + 1)])) from by rw [iCs, List.map_append, List.length_append]; exact hown')
          go_roundw
          case rel => exact ⟨k + 1, by omega, by go_num, by rw [show optM t (k + 1) = optM t k ++ [t - ((k : Int) + 1)] ++ [t + ((k : Int) + 1)] from by simp only [optM]; rw [HA.out, HBB.out]]; exact O2.out, B2.out.2⟩
          case measure => simp [intOf]; omega
        · have HBB := Lib.hid (show optB t k = [] from by unfold optB; rw [if_neg hb])
          have hb2 : ¬ (t + ((k : Int) + 1) < 10000) := hb
          go_wp2
          go_roundw
          case rel => exact ⟨k + 1, by omega, by go_num, by rw [show optM t (k + 1) = optM t k ++ [t - ((k : Int) + 1)] from by simp only [optM]; rw [HA.out, HBB.out, List.append_nil]]; exact O1.out, B1.out.2⟩
          case measure => simp [intOf]; omega
      · have HA := Lib.hid (show optA t k = [] from by unfold optA; rw [if_neg ha])
        by_cases hb : t + ((k : Int) + 1) < 10000
        · have HBB := Lib.hid (show optB t k = [t + ((k : Int) + 1)] from by unfold optB; rw [if_pos hb])
          clear e5 hnn
          have HNEW := Lib.hid (show (wr.alloc (.cells #[.int .i64 (t + ((k : Int) + 1))] 3)).heap[wr.heap.size]? = some (.cells ⟨[.int .i64 (t + ((k : Int) + 1))]⟩ 3) from alloc_new_at _ _ _ rfl)
          go_wp2_with (at_builtin; go_must (refine wpList_append_own _ rfl _ _ 26 rfl w.heap.size 3 i0 _ 1 8 Tryz.underlying26 hi hz0 hzz1 hzz2 rfl (by decide) _ _ _ rfl (HO.out.alloc _) ⟨wr.heap.size, 0, none⟩ 1 1 [.int .i64 (t + ((k : Int) + 1))] rfl rfl (cells_new HNEW.out) (by simp [Value.oneCell']) (by unfold maxLen; omega) (by omega) (by simp; omega) ?_); intro v' W8 hown' hgrow _)
          have hsz := hgrow.size
          rw [World.size_alloc] at hsz
          have B2 := Lib.hid (show w.heap.size ≤ W8.heap.size ∧ Below w.heap.size w W8 from ⟨by have := HB.out.size; omega, HB.out.trans ⟨hgrow.os, hgrow.tape, hgrow.output, by omega, fun q hq => by
            have := HB.out.size
            rw [hgrow.block q (by rw [World.size_alloc]; omega) (fun e => by have := (HO.out.lt q e.symm).1; omega), Below.heap_alloc _ _ _ (by omega)]⟩⟩)
          have O2 := Lib.hid (show W8.ownsRow w.heap.size 3 1 v' (optM t k ++ [t + ((k : Int) + 1)]).length (iCs (optM t k ++ [t + ((k : Int) + 1)])) from by rw [iCs, List.map_append, List.length_append]; exact hown')
          go_roundw
          case rel => exact ⟨k + 1, by omega, by go_num, by rw [show optM t (k + 1) = optM t k ++ [t + ((k : Int) + 1)] from by simp only [optM]; rw [HA.out, HBB.out, List.append_nil]]; exact O2.out, B2.out.2⟩
          case measure => simp [intOf]; omega
        · exfalso; omega
    · obtain rfl : k = j := by omega
      clear e5 hnn
      have HNEW := Lib.hid (show (wr.alloc (.cells #[.int .i64 (-1)] 3)).heap[wr.heap.size]? = some (.cells ⟨[.int .i64 (-1)]⟩ 3) from alloc_new_at _ _ _ rfl)
      go_wp2_with (at_builtin; go_must (refine wpList_append_own _ rfl _ _ 26 rfl w.heap.size 3 i0 _ 1 8 Tryz.underlying26 hi hz0 hzz1 hzz2 rfl (by decide) _ _ _ rfl (HO.out.alloc _) ⟨wr.heap.size, 0, none⟩ 1 1 [.int .i64 (-1)] rfl rfl (cells_new HNEW.out) (by simp [Value.oneCell']) (by unfold maxLen; omega) (by omega) (by simp; omega) ?_); intro v' W8 hown' hgrow _)
      have hsz := hgrow.size
      rw [World.size_alloc] at hsz
      have B2 := Lib.hid (show w.heap.size ≤ W8.heap.size ∧ Below w.heap.size w W8 from ⟨by have := HB.out.size; omega, HB.out.trans ⟨hgrow.os, hgrow.tape, hgrow.output, by omega, fun q hq => by
        have := HB.out.size
        rw [hgrow.block q (by rw [World.size_alloc]; omega) (fun e => by have := (HO.out.lt q e.symm).1; omega), Below.heap_alloc _ _ _ (by omega)]⟩⟩)
      have O2 := Lib.hid (show W8.ownsRow w.heap.size 3 1 v' (optM t k ++ [-1]).length (iCs (optM t k ++ [-1])) from by rw [iCs, List.map_append, List.length_append]; exact hown')
      exact bodyPost_ret (v := v') (by simp [results, Tryz.results124, go_sem]) rfl ⟨_, rfl, O2.out, B2.out.2⟩
end Go.Proofs.YtnbndciididpoaaGreat
