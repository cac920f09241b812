/- The specification's Pack; both with an error. -/
import Derived.Test.YtkpabecnimakpaaX
import Derived.Test.YtkpabecnimakpaaJ
namespace Go.Proofs.Ytkpabecnimakpaa
set_option linter.unusedVariables false
open Go.RowKit

theorem cells_at_block {w : World} {b : Nat} {l : List Value} {t : TypeId} (hb : w.heap[b]? = some (.cells l.toArray t)) (j : Nat) (u : Value) (h : l[j]? = some u) : w.cell? ((⟨b, 0, none⟩ : Addr).add j) = some u := by
  have e : (⟨b, 0, none⟩ : Addr).add j = ⟨b, j, none⟩ := by unfold Addr.add; split <;> simp_all
  rw [e]; unfold World.cell?
  simp only [hb]
  simpa using h
def flds (p : Prm) : List Int := [p.lv, p.bi, p.th, p.rs, p.fl]
def pre (p : Prm) (k : Nat) : List Int := (p.lk + 4 * p.rk) :: ((flds p).take k).flatMap b3
theorem pre_succ (p : Prm) (k : Nat) (x : Int) (hx : (flds p)[k]? = some x) : pre p (k + 1) = pre p k ++ b3 x := by
  unfold pre
  rw [List.take_add_one, hx]
  simp
theorem pre_all (p : Prm) : pre p 5 ++ [p.re] = bytesP p := by simp [pre, flds, bytesP]

set_option maxRecDepth 100000 in
set_option maxHeartbeats 1000000 in
theorem rpack_ok (p : Prm) (hc : checkP p = 0) (w : World) :
    Calls Try.prog 34 #[.agg #[.int .i64 p.lk, .int .i64 p.lv, .int .i64 p.bi, .int .i64 p.th, .int .i64 p.rk, .int .i64 p.rs, .int .i64 p.fl, .int .i64 p.re]] w fun e w' =>
      ∃ v, e = .returned (.tuple #[v, .int .i64 0]) ∧ w'.ownsRow w.heap.size 5 1 v 17 (U8s (bytesP p)) ∧ Below w.heap.size w w' := by
  have g1 : (checkP p != 0) = false := by simp [hc]
  obtain ⟨i0, hi, hz0, hzz1, hzz2⟩ := info_parts Try.info5
  have hok := ok_of_check hc
  obtain ⟨lk0, lk2, rk0, rk1, lv0, lvM, _, _, _, bi0, biM, fl0, flM, th0, thM, re0, reM, sub, to⟩ := hok
  have rs0 : -1048576 ≤ p.rs := by
    by_cases e : p.rk = 1
    · have := sub e; omega
    · have := to (by omega); omega
  have rsM : p.rs ≤ 1048576 := by
    by_cases e : p.rk = 1
    · have := sub e; omega
    · have := to (by omega); omega
  have hfl : ∀ k, k < 5 → ∃ x, (flds p)[k]? = some x ∧ -1048576 ≤ x ∧ x ≤ 1048576 := by
    intro k hk
    match k, hk with
    | 0, _ => exact ⟨_, rfl, by omega, by omega⟩
    | 1, _ => exact ⟨_, rfl, by omega, by omega⟩
    | 2, _ => exact ⟨_, rfl, by omega, by omega⟩
    | 3, _ => exact ⟨_, rfl, by omega, by omega⟩
    | 4, _ => exact ⟨_, rfl, by omega, by omega⟩
  have HFL := Lib.hid hfl
  clear hc sub to hfl
  go_enter Try.func34, Try.ntmps34
  go_wp2_with fail
  go_at_call 18
  refine (rcheck_any p _).mono ?_
  rintro e w1 ⟨rfl, hb1⟩
  obtain ⟨hc1, hf1⟩ := bcell hb1
  have hz1 : w.heap.size < w1.heap.size := by have := hb1.size; simp at this; omega
  have pA : PrmAt p w.heap.size w1 := by
    unfold PrmAt; rw [hb1.block _ (by simp <;> omega)]; exact alloc_new_at _ _ _ rfl
  obtain ⟨q0, q1, q2, q3, q4, q5, q6, q7⟩ := cells8 pA
  have PA := Lib.hid pA
  have HB1 := Lib.hid hb1
  clear hc1 hf1 pA hb1
  go_wp2_with fail
  go_loopw [5, 7] (fun s5 s7 wr => ∃ k : Nat, k ≤ 5 ∧ s7 = .int .i64 k ∧ wr.ownsRow w1.heap.size 5 1 s5 (1 + 3 * k) (U8s (pre p k)) ∧ s5.ownBlock ≠ some (w1.heap.size + 1) ∧ wr.heap[w1.heap.size + 1]? = some (.cells ((flds p).map (Value.int .i64)).toArray 3) ∧ Below w1.heap.size w1 wr) (fun _ s7 _ => 5 - (intOf s7).toNat)
  case atStart =>
    refine ⟨0, by omega, rfl, ⟨rfl, Or.inr ⟨w1.heap.size, 1, #[.int .u8 (p.lk + 4 * p.rk)], rfl, Nat.le_refl _, ?_, by decide, by decide, rfl, rfl⟩⟩, by simp [Value.ownBlock], alloc_new_at _ _ _ (by simp), ((Below.refl _ _).alloc (Nat.le_refl _) _).alloc (by simp) _⟩
    rw [Below.heap_alloc _ _ _ (by simp)]; exact World.alloc_heap_new _ _
  case round =>
    obtain ⟨k, hk, rfl, hown, hne, hl, hB⟩ := hrel
    have hlt2 := lt_of_block hl
    by_cases hlt : k < 5
    · obtain ⟨x, hx, hx1, hx2⟩ := HFL.out k hlt
      obtain ⟨b', off', e', hcell⟩ := intsAt_cell (intsAt_block (cap := 5) hl) k (by simpa [flds] using hlt)
      cases e'
      rw [hx] at hcell
      simp only [Option.getD_some, Nat.zero_add] at hcell
      have y0 : (0 : Int) ≤ (k : Int) := by omega
      have y1 : (k : Int) < 5 := by omega
      have HX := Lib.hid hx
      have HO := Lib.hid hown
      have HNE := Lib.hid hne
      have HL := Lib.hid hl
      have HB := Lib.hid hB
      clear hx hown hne hl hB
      go_wp2_with (first
        | (go_at_call 51; refine (three_any x hx1 hx2 _).mono ?_; rintro e w2 ⟨rfl, h3, hb2⟩; have H3 := Lib.hid h3; have HB2 := Lib.hid hb2; have hz2 : wr.heap.size < w2.heap.size := lt_of_block h3; clear h3 hb2)
        | (at_builtin; go_loud (refine wpList_append_where _ rfl _ _ 44 rfl w1.heap.size 5 i0 (.int .u8 0) 1 1 Try.underlying44 hi hz0 hzz1 hzz2 rfl (by decide) u5 (1 + 3 * k) _ rfl (ownsRow_of_block HO.out (fun g hg => HB2.out.block _ (HO.out.lt g hg).2)) ⟨wr.heap.size, 0, none⟩ 3 3 (by decide) (U8s (b3 x)) rfl rfl (fun j u hj => cells_at_block H3.out j u hj) (by simp [U8s, b3, Value.oneCell']) (by unfold maxLen; omega) (by omega) (by omega) ?_); intro v' w3 hown' hgrow hwhere; have HO3 := Lib.hid hown'; have HG := Lib.hid hgrow; have HW := Lib.hid hwhere; clear hown' hgrow hwhere))
      go_roundw
      case rel =>
        have ho := HO3.out
        refine ⟨k + 1, by omega, by go_num, ?_, ?_, ?_, ?_⟩
        · rw [pre_succ p k x HX.out, show 1 + 3 * (k + 1) = 1 + 3 * k + 3 by omega]
          unfold U8s at *
          rw [List.map_append]; exact ho
        · rcases HW.out with h | h
          · rw [h]; exact HNE.out
          · rw [h]; simp; omega
        · exact (HG.out.block _ (by omega) (fun e => HNE.out e.symm)).trans ((HB2.out.block _ (by omega)).trans HL.out)
        · exact ((HB.out.trans (HB2.out.mono (by omega))).grown HG.out (by omega) (fun j hj => (HO.out.lt j hj).1))
      case measure => simp [intOf]; omega
    · obtain rfl : k = 5 := by omega
      have D := Lib.hid hB
      have HO := Lib.hid hown
      obtain ⟨_, _, _, _, _, _, _, _⟩ := cells8 ((hB.block _ hz1).trans PA.out)
      have hz2 : w1.heap.size + 1 < wr.heap.size := hlt2
      clear hown hne hl hB
      go_wp2_with (at_builtin; go_loud (refine wpList_append_where _ rfl _ _ 44 rfl w1.heap.size 5 i0 (.int .u8 0) 1 1 Try.underlying44 hi hz0 hzz1 hzz2 rfl (by decide) u5 16 _ rfl (HO.out.alloc _) ⟨wr.heap.size, 0, none⟩ 1 1 (by decide) (U8s [p.re]) rfl rfl (fun j u hj => cells_new_at _ (U8s [p.re]) 5 _ rfl j u hj) (by simp [U8s, Value.oneCell']) (by decide) (by decide) (by simp <;> omega) ?_); intro v' w8 hown' hgrow hwhere; have d8 : Below w1.heap.size w1 w8 := ((D.out.alloc (by omega) _).grown hgrow (by simp <;> omega) (fun j hj => (HO.out.lt j hj).1)); have D8 := Lib.hid d8; have HO8 := Lib.hid hown'; clear d8 hown' hgrow hwhere)
      go_ret2
      refine ⟨v', rfl, ?_, ?_⟩
      · have ho := HO8.out
        have hb1 := HB1.out.size
        have e : U8s (pre p 5) ++ U8s [p.re] = U8s (bytesP p) := by rw [← pre_all]; unfold U8s; rw [List.map_append]
        rw [e] at ho
        refine ⟨ho.1, ?_⟩
        rcases ho.2 with h | ⟨g, cap, cur, x1, x2, x3⟩
        · exact Or.inl h
        · exact Or.inr ⟨g, cap, cur, x1, by omega, x3⟩
      · exact ((Below.refl _ _).alloc (Nat.le_refl _) _).trans ((HB1.out.trans (D8.out.mono HB1.out.size)).mono (by simp))

theorem pack_err (p : Prm) (hc : checkP p ≠ 0) (w : World) :
    Calls Try.prog 33 #[.agg #[.int .i64 p.lk, .int .i64 p.lv, .int .i64 p.bi, .int .i64 p.th, .int .i64 p.rk, .int .i64 p.rs, .int .i64 p.fl, .int .i64 p.re]] w fun e w' =>
      e = .returned (.tuple #[.slice none 0 0, .int .i64 (checkP p)]) ∧ Below w.heap.size w w' := by
  have g1 : (checkP p != 0) = true := by simp [hc]
  clear hc
  go_enter Try.func33, Try.ntmps33
  go_wp2_with (go_at_call 17; refine (check_any p _).mono ?_; rintro e w1 ⟨rfl, hb1⟩)
  go_ret2
  exact ⟨rfl, ((Below.refl _ _).alloc (Nat.le_refl _) _).trans (hb1.mono (by simp))⟩
theorem rpack_err (p : Prm) (hc : checkP p ≠ 0) (w : World) :
    Calls Try.prog 34 #[.agg #[.int .i64 p.lk, .int .i64 p.lv, .int .i64 p.bi, .int .i64 p.th, .int .i64 p.rk, .int .i64 p.rs, .int .i64 p.fl, .int .i64 p.re]] w fun e w' =>
      e = .returned (.tuple #[.slice none 0 0, .int .i64 (checkP p)]) ∧ Below w.heap.size w w' := by
  have g1 : (checkP p != 0) = true := by simp [hc]
  clear hc
  go_enter Try.func34, Try.ntmps34
  go_wp2_with (go_at_call 18; refine (rcheck_any p _).mono ?_; rintro e w1 ⟨rfl, hb1⟩)
  go_ret2
  exact ⟨rfl, ((Below.refl _ _).alloc (Nat.le_refl _) _).trans (hb1.mono (by simp))⟩
end Go.Proofs.Ytkpabecnimakpaa
