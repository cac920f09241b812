/- neuron.Pack and the specification's. -/
import Derived.Test.YtkpabecnimakpaaW
import Derived.Test.YtkpabecnimakpaaK
import Derived.Test.YtkpabecnimakpaaH
namespace Go.Proofs.Ytkpabecnimakpaa
set_option linter.unusedVariables false
open Go.RowKit

/-- The bytes of a neuron. -/
def bytesP (p : Prm) : List Int := [p.lk + 4 * p.rk] ++ b3 p.lv ++ b3 p.bi ++ b3 p.th ++ b3 p.rs ++ b3 p.fl ++ [p.re]

/-- Seventeen bytes 0. -/
def zero17 : Array Value := (List.replicate 17 (Value.int .u8 0)).toArray
theorem make17 (W : World) : (Instr.makeSlice 44 (.int .i64 0) (.int .i64 17)).run Try.prog W = .ok (.slice (some ⟨W.heap.size, 0, none⟩) 0 17) (W.alloc (.cells zero17 5)) := by
  obtain ⟨i, h1, h2, h3, h4⟩ := info_parts Try.info5
  have hr := run_make (P := Try.prog) W 44 5 i (.int .u8 0) Try.underlying44 h1 h2 .i64 .i64 0 17 (by omega) (by omega) (by rw [h4]; omega) (by omega)
  rw [hr, h3]
  have e : madeCells (Value.int .u8 0).cells ((17 : Int).toNat * 1) = zero17 := by
    apply Array.toList_inj.1
    rw [show ((17 : Int).toNat) = 17 from rfl, Nat.mul_one, show (Value.int .u8 0).cells = #[.int .u8 0] from rfl, toList_madeCells_one]
    rfl
  rw [e]
  rfl

theorem cells_new_at (w : World) (l : List Value) (t : TypeId) (k : Nat) (hk : k = w.heap.size) (j : Nat) (u : Value) (h : l[j]? = some u) : (w.alloc (.cells l.toArray t)).cell? ((⟨k, 0, none⟩ : Addr).add j) = some u := by
  subst hk; exact cells_new w l t j u h
theorem own0 (W : World) (o1 o2 : Obj) : (((W.alloc (.cells zero17 5)).alloc o1).alloc o2).ownsRow W.heap.size 5 1 (.slice (some ⟨W.heap.size, 0, none⟩) 0 17) 0 [] :=
  ⟨rfl, Or.inr ⟨W.heap.size, 17, zero17, rfl, Nat.le_refl _, by rw [Below.heap_alloc _ _ _ (by simp <;> omega), Below.heap_alloc _ _ _ (by simp)]; exact World.alloc_heap_new _ _, by decide, by decide, by decide, rfl⟩⟩

set_option maxRecDepth 100000 in
set_option maxHeartbeats 1000000 in
theorem pack_ok (p : Prm) (hc : checkP p = 0) (w : World) :
    Calls Try.prog 33 #[.agg #[.int .i64 p.lk, .int .i64 p.lv, .int .i64 p.bi, .int .i64 p.th, .int .i64 p.rk, .int .i64 p.rs, .int .i64 p.fl, .int .i64 p.re]] w fun e w' =>
      ∃ v, e = .returned (.tuple #[v, .int .i64 0]) ∧ w'.ownsRow w.heap.size 5 1 v 17 (U8s (bytesP p)) ∧ Below w.heap.size w w' := by
  have g1 : (checkP p != 0) = false := by simp [hc]
  obtain ⟨i0, hi, hz0, hzz1, hzz2⟩ := info_parts Try.info5
  have hok := ok_of_check hc
  obtain ⟨lk0, lk2, rk0, rk1, lv0, lvM, _, _, _, bi0, biM, fl0, flM, th0, thM, re0, reM, sub, to⟩ := hok
  have rs0 : -1048576 ≤ p.rs := by
    by_cases e : p.rk = 1
    · have := sub e; omega
    · have := to (by omega); omega
  have rsM : p.rs ≤ 1048576 := by
    by_cases e : p.rk = 1
    · have := sub e; omega
    · have := to (by omega); omega
  clear hc sub to
  go_enter Try.func33, Try.ntmps33
  go_wp2_with fail
  go_at_call 17
  refine (check_any p _).mono ?_
  rintro e w1 ⟨rfl, hb1⟩
  obtain ⟨hc1, hf1⟩ := bcell hb1
  have hz1 : w.heap.size < w1.heap.size := by have := hb1.size; simp at this; omega
  have pA : PrmAt p w.heap.size w1 := by
    unfold PrmAt; rw [hb1.block _ (by simp <;> omega)]; exact alloc_new_at _ _ _ rfl
  obtain ⟨q0, q1, q2, q3, q4, q5, q6, q7⟩ := cells8 pA
  have PA := Lib.hid pA
  clear hc1 hf1 pA
  have hmk := make17
  go_wp2_with (at_builtin; go_loud (refine wpList_append_where _ rfl _ _ 44 rfl w1.heap.size 5 i0 (.int .u8 0) 1 1 Try.underlying44 hi hz0 hzz1 hzz2 rfl (by decide) (.slice (some ⟨w1.heap.size, 0, none⟩) 0 17) 0 [] rfl (own0 w1 _ _) ⟨w1.heap.size + 1 + 1, 0, none⟩ 1 1 (by decide) (U8s [p.lk + 4 * p.rk]) rfl rfl (fun j u hj => cells_new_at _ (U8s [p.lk + 4 * p.rk]) 5 _ (by simp) j u hj) (by simp [U8s, Value.oneCell']) (by decide) (by decide) (by simp <;> omega) ?_); intro v' w2 hown' hgrow hwhere; go_loud (obtain ⟨g', cap', rfl⟩ := ownsRow_succ hown'; have hne0 : g' ≠ w1.heap.size + 1 := (by rcases hwhere with h | h <;> simp [Value.ownBlock] at h <;> omega); have d2 : Below w1.heap.size w1 w2 := ((((Below.refl _ _).alloc (Nat.le_refl _) _).alloc (by simp) _).alloc (by simp <;> omega) _).grown hgrow (by simp <;> omega) (fun j hj => by simp [Value.ownBlock] at hj; omega); have hb2 : w2.heap[w1.heap.size + 1]? = some (.cells #[.slice (some ⟨w1.heap.size, 0, none⟩) 0 17] 44) := ((hgrow.block _ (by simp <;> omega) (by simp [Value.ownBlock])).trans ((Below.heap_alloc _ _ _ (by simp)).trans (alloc_new_at _ _ _ (by simp)))); obtain ⟨_, _, _, _, _, _, _, _⟩ := cells8 ((d2.block _ (by omega)).trans PA.out); obtain ⟨_, _⟩ := cells1 hb2; have D1 := Lib.hid d2; have HB1 := Lib.hid hb2; have HO1 := Lib.hid hown'; have HNE := Lib.hid hne0; clear d2 hb2 hown' hne0 hgrow hwhere))
  have hB2 : (w2.setCell ⟨w1.heap.size + 1, 0, none⟩ (.slice (some ⟨g', 0, none⟩) 1 cap')).heap[w1.heap.size + 1]? = some (.cells #[.slice (some ⟨g', 0, none⟩) 1 cap'] 44) := set1_0 HB1.out _
  have hO2 : (w2.setCell ⟨w1.heap.size + 1, 0, none⟩ (.slice (some ⟨g', 0, none⟩) 1 cap')).ownsRow w1.heap.size 5 1 (.slice (some ⟨g', 0, none⟩) 1 cap') 1 (U8s [p.lk + 4 * p.rk]) := by
    refine ownsRow_of_block HO1.out fun g hg => ?_
    obtain rfl : g' = g := by simpa [Value.ownBlock] using hg
    exact Below.heap_setCell _ _ _ _ (by exact HNE.out)
  have d2 : Below w1.heap.size w1 (w2.setCell ⟨w1.heap.size + 1, 0, none⟩ (.slice (some ⟨g', 0, none⟩) 1 cap')) := D1.out.setCell (p := ⟨w1.heap.size + 1, 0, none⟩) (by simp) _
  have hV2 : (Value.slice (some ⟨g', 0, none⟩) 1 cap').ownBlock ≠ some (w1.heap.size + 1) := by simpa [Value.ownBlock] using HNE.out
  generalize w2.setCell ⟨w1.heap.size + 1, 0, none⟩ (.slice (some ⟨g', 0, none⟩) 1 cap') = W2 at *
  obtain ⟨_, _, _, _, _, _, _, _⟩ := cells8 ((d2.block _ (by omega)).trans PA.out)
  obtain ⟨_, _⟩ := cells1 hB2
  have D2 := Lib.hid d2
  have HB2 := Lib.hid hB2
  have HO2 := Lib.hid hO2
  have HV2 := Lib.hid hV2
  clear d2 hB2 hO2 hV2
  go_wp2_with fail
  go_at_call 50
  refine (put_any (w1.heap.size + 1) w1.heap.size _ 1 [p.lk + 4 * p.rk] p.lv (by omega) (by omega) (by omega) (by omega) HV2.out _ HB2.out HO2.out).mono ?_
  rintro e w3 ⟨v3, r3, rfl, hB3, hO3, hV3, hS3, hZ3⟩
  have d3 : Below w1.heap.size w1 w3 := D2.out.trans hS3
  have Z3 : w1.heap.size + 1 < w3.heap.size := lt_of_block hB3
  obtain ⟨_, _, _, _, _, _, _, _⟩ := cells8 ((d3.block _ (by omega)).trans PA.out)
  obtain ⟨_, _⟩ := cells1 hB3
  have D3 := Lib.hid d3
  have HB3 := Lib.hid hB3
  have HO3 := Lib.hid hO3
  have HV3 := Lib.hid hV3
  clear hB3 hO3 hV3 hS3 d3
  go_wp2_with fail
  go_at_call 50
  refine (put_any (w1.heap.size + 1) w1.heap.size _ (4) ([p.lk + 4 * p.rk] ++ b3 p.lv) p.bi (by omega) (by omega) (by omega) (by omega) HV3.out _ HB3.out HO3.out).mono ?_
  rintro e w4 ⟨v4, r4, rfl, hB4, hO4, hV4, hS4, hZ4⟩
  have d4 : Below w1.heap.size w1 w4 := D3.out.trans hS4
  have Z4 : w1.heap.size + 1 < w4.heap.size := lt_of_block hB4
  obtain ⟨_, _, _, _, _, _, _, _⟩ := cells8 ((d4.block _ (by omega)).trans PA.out)
  obtain ⟨_, _⟩ := cells1 hB4
  have D4 := Lib.hid d4
  have HB4 := Lib.hid hB4
  have HO4 := Lib.hid hO4
  have HV4 := Lib.hid hV4
  clear hB4 hO4 hV4 hS4 d4
  go_wp2_with fail
  go_at_call 50
  refine (put_any (w1.heap.size + 1) w1.heap.size _ (7) ([p.lk + 4 * p.rk] ++ b3 p.lv ++ b3 p.bi) p.th (by omega) (by omega) (by omega) (by omega) HV4.out _ HB4.out HO4.out).mono ?_
  rintro e w5 ⟨v5, r5, rfl, hB5, hO5, hV5, hS5, hZ5⟩
  have d5 : Below w1.heap.size w1 w5 := D4.out.trans hS5
  have Z5 : w1.heap.size + 1 < w5.heap.size := lt_of_block hB5
  obtain ⟨_, _, _, _, _, _, _, _⟩ := cells8 ((d5.block _ (by omega)).trans PA.out)
  obtain ⟨_, _⟩ := cells1 hB5
  have D5 := Lib.hid d5
  have HB5 := Lib.hid hB5
  have HO5 := Lib.hid hO5
  have HV5 := Lib.hid hV5
  clear hB5 hO5 hV5 hS5 d5
  go_wp2_with fail
  go_at_call 50
  refine (put_any (w1.heap.size + 1) w1.heap.size _ (10) ([p.lk + 4 * p.rk] ++ b3 p.lv ++ b3 p.bi ++ b3 p.th) p.rs (by omega) (by omega) (by omega) (by omega) HV5.out _ HB5.out HO5.out).mono ?_
  rintro e w6 ⟨v6, r6, rfl, hB6, hO6, hV6, hS6, hZ6⟩
  have d6 : Below w1.heap.size w1 w6 := D5.out.trans hS6
  have Z6 : w1.heap.size + 1 < w6.heap.size := lt_of_block hB6
  obtain ⟨_, _, _, _, _, _, _, _⟩ := cells8 ((d6.block _ (by omega)).trans PA.out)
  obtain ⟨_, _⟩ := cells1 hB6
  have D6 := Lib.hid d6
  have HB6 := Lib.hid hB6
  have HO6 := Lib.hid hO6
  have HV6 := Lib.hid hV6
  clear hB6 hO6 hV6 hS6 d6
  go_wp2_with fail
  go_at_call 50
  refine (put_any (w1.heap.size + 1) w1.heap.size _ (13) ([p.lk + 4 * p.rk] ++ b3 p.lv ++ b3 p.bi ++ b3 p.th ++ b3 p.rs) p.fl (by omega) (by omega) (by omega) (by omega) HV6.out _ HB6.out HO6.out).mono ?_
  rintro e w7 ⟨v7, r7, rfl, hB7, hO7, hV7, hS7, hZ7⟩
  have d7 : Below w1.heap.size w1 w7 := D6.out.trans hS7
  have Z7 : w1.heap.size + 1 < w7.heap.size := lt_of_block hB7
  obtain ⟨_, _, _, _, _, _, _, _⟩ := cells8 ((d7.block _ (by omega)).trans PA.out)
  obtain ⟨_, _⟩ := cells1 hB7
  have D7 := Lib.hid d7
  have HB7 := Lib.hid hB7
  have HO7 := Lib.hid hO7
  have HV7 := Lib.hid hV7
  clear hB7 hO7 hV7 hS7 d7
  go_wp2_with (at_builtin; refine wpList_append_where _ rfl _ _ 44 rfl w1.heap.size 5 i0 (.int .u8 0) 1 1 Try.underlying44 hi hz0 hzz1 hzz2 rfl (by decide) v7 16 _ rfl (HO7.out.alloc _) ⟨w7.heap.size, 0, none⟩ 1 1 (by decide) (U8s [p.re]) rfl rfl (fun j u hj => cells_new_at _ (U8s [p.re]) 5 _ rfl j u hj) (by simp [U8s, Value.oneCell']) (by decide) (by decide) (by simp <;> omega) ?_; intro v' w8 hown' hgrow hwhere; have d8 : Below w1.heap.size w1 w8 := ((D7.out.alloc (by omega) _).grown hgrow (by simp <;> omega) (fun j hj => (HO7.out.lt j hj).1)); have D8 := Lib.hid d8; have HO8 := Lib.hid hown'; clear d8 hown' hgrow hwhere)
  go_ret2
  refine ⟨v', rfl, ?_, ?_⟩
  · have ho := HO8.out
    refine ⟨?_, ?_⟩
    · simp [U8s, bytesP, b3]
    · rcases ho.2 with h | ⟨g, cap, cur, x1, x2, x3⟩
      · exact Or.inl ⟨h.1, by simp at h⟩
      · refine Or.inr ⟨g, cap, cur, x1, by omega, ?_⟩
        simpa [U8s, bytesP] using x3
  · exact ((Below.refl _ _).alloc (Nat.le_refl _) _).trans ((hb1.trans (D8.out.mono hb1.size)).mono (by simp))
end Go.Proofs.Ytkpabecnimakpaa
