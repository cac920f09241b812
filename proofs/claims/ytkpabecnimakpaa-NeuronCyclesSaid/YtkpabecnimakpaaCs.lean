/- The specification's Cycle where the state is valid. -/
import Derived.Test.YtkpabecnimakpaaCy
import Derived.Test.YtkpabecnimakpaaL
import Derived.Deep.QuietTactic
import Derived.BigQuiet
namespace Go.Proofs.Ytkpabecnimakpaa
set_option linter.unusedVariables false
open Go.RowKit Go.Shelf
/-- What the specification's map holds: the number of a state's first visit. -/
def fI (p : Prm) (V R i : Int) : Nat → Int → Int → Option Value
  | 0 => upd (fun _ _ => none) V R (.int .i64 (0 : Int))
  | k + 1 => upd (fI p V R i k) (stk p V R i (k + 1)).1 (stk p V R i (k + 1)).2 (.int .i64 ((k + 1 : Nat) : Int))
theorem fI_none (p : Prm) (V R i A B : Int) : ∀ k, (∀ j, j ≤ k → stk p V R i j ≠ (A, B)) → fI p V R i k A B = none := by
  intro k
  induction k with
  | zero => intro h; unfold fI upd; rw [if_neg]; rintro ⟨rfl, rfl⟩; exact h 0 (Nat.le_refl _) rfl
  | succ k ih =>
    intro h; unfold fI upd; rw [if_neg]
    · exact ih fun j hj => h j (by omega)
    · rintro ⟨rfl, rfl⟩; exact h (k + 1) (Nat.le_refl _) rfl
theorem fI_some (p : Prm) (V R i A B : Int) (j : Nat) (hj : stk p V R i j = (A, B)) : ∀ k, j ≤ k → (∀ a, j < a → a ≤ k → stk p V R i a ≠ (A, B)) → fI p V R i k A B = some (.int .i64 (j : Int)) := by
  intro k
  induction k with
  | zero => intro h _; obtain rfl : j = 0 := by omega
            cases hj; unfold fI upd; rw [if_pos ⟨rfl, rfl⟩]; rfl
  | succ k ih =>
    intro h hn
    by_cases e : j = k + 1
    · subst e; unfold fI upd; rw [hj, if_pos ⟨rfl, rfl⟩]
    · unfold fI upd
      rw [if_neg]
      · exact ih (by omega) fun a h1 h2 => hn a h1 (by omega)
      · rintro ⟨h1, h2⟩; exact hn (k + 1) (by omega) (Nat.le_refl _) (by rw [h1, h2])

/-- What a round of the specification's Cycle finds. -/
structure CsI (p : Prm) (V R i : Int) (mb : Nat) (w : World) (v : Value) (k : Nat) (A : World) : Prop where
  prm : PrmAt p w.heap.size A
  st : StAt (stk p V R i k).1 (stk p V R i k).2 (w.heap.size + 1) A
  map : MapIs A mb (k + 1) (fI p V R i k)
  row : A.ownsRow (mb + 1) 3 1 v (k + 1) ((List.range (k + 1)).map fun j => .int .i64 (nsp p V R i j : Int))
  bel : Below w.heap.size w A

set_option maxRecDepth 100000 in
set_option maxHeartbeats 2000000 in
theorem rcycle_ok (p : Prm) (V R i : Int) (hv : validP p V R = 0) (K j : Nat) (hK : CycS p V R i K j) (w : World) :
    Calls Try.prog 32 #[.agg #[.int .i64 p.lk, .int .i64 p.lv, .int .i64 p.bi, .int .i64 p.th, .int .i64 p.rk, .int .i64 p.rs, .int .i64 p.fl, .int .i64 p.re], .agg #[.int .i64 V, .int .i64 R], .int .i64 i] w fun e w' =>
      e = .returned (.tuple #[.int .i64 (cycR p V R i K j).1, .int .i64 (cycR p V R i K j).2.1, .int .i64 (cycR p V R i K j).2.2.1, .int .i64 (cycR p V R i K j).2.2.2]) ∧ Below w.heap.size w w' := by
  have hv' : (validP p V R != 0) = false := by simp [hv]
  have hv0 : validP p V R = 0 := hv
  obtain ⟨hok, k1, k2, k3, k4⟩ := ok_of_valid hv
  obtain ⟨i0, hi, hz0, hzz1, hzz2⟩ := info_parts Try.info3
  have HK := Lib.hid hok
  have HV0 := Lib.hid hv0
  clear hv hok hv0
  go_enter Try.func32, Try.ntmps32
  go_wp2_with (go_at_call 20; refine (rvalid_any p V R _).mono ?_; rintro e w1 ⟨rfl, hb1⟩; rw [HV0.out])
  have hz1 : w.heap.size + 1 < w1.heap.size := by have := hb1.size; simp at this; omega
  have pA : PrmAt p w.heap.size w1 := by
    unfold PrmAt; rw [hb1.block _ (by simp <;> omega), Below.heap_alloc _ _ _ (by simp <;> omega)]; exact alloc_new_at _ _ _ rfl
  have sA : StAt V R (w.heap.size + 1) w1 := by
    unfold StAt; rw [hb1.block _ (by simp <;> omega)]; exact alloc_new_at _ _ _ (by simp)
  have q1 : Below w.heap.size w w1 := (((Below.refl _ _).alloc (Nat.le_refl _) _).alloc (by simp) _).trans (hb1.mono (by simp <;> omega))
  clear hb1
  have hmm := @run_makeMap Try.prog
  have wfV : (Lit.int .i64 V).wf = true := by
    have := HK.out.fl0
    have := HK.out.reM
    simp [Lit.wf, IntKind.min, IntKind.max, IntKind.signed, IntKind.bits] <;> omega
  have wfR : (Lit.int .i64 R).wf = true := by
    have := HK.out.fl0
    have := HK.out.reM
    simp [Lit.wf, IntKind.min, IntKind.max, IntKind.signed, IntKind.bits] <;> omega
  obtain ⟨W1, hup, hM1, hg1⟩ := (MapIs.made w1).update (by decide) Try.underlying81 V R wfV wfR (.int .i64 0)
  obtain ⟨_, _, _, _⟩ := cells2 sA
  have PA := Lib.hid pA
  have SA := Lib.hid sA
  have Q1 := Lib.hid q1
  have HM1 := Lib.hid hM1
  have HG1 := Lib.hid hg1
  clear pA sA q1 hM1 hg1
  go_simp
  go_wp2_with fail
  have hg1 := HG1.out
  have hM1 := HM1.out
  have hlt1 : w1.heap.size < W1.heap.size := hM1.lt
  have eb : ∀ b, b < w1.heap.size → (W1.alloc (.cells #[.int .i64 (0 : Int)] 3)).heap[b]? = w1.heap[b]? := fun b hb => by
    rw [Below.heap_alloc _ _ _ (by omega), hg1.block _ (by simp; omega) (by simp; omega), Below.heap_alloc _ _ _ hb]
  have hI0 : CsI p V R i w1.heap.size w (.slice (some ⟨W1.heap.size, 0, none⟩) 1 1) 0 (W1.alloc (.cells #[.int .i64 (0 : Int)] 3)) := by
    refine ⟨(eb _ (by omega)).trans PA.out, (eb _ (by omega)).trans SA.out, hM1.of_block (Below.heap_alloc _ _ _ hlt1), ⟨rfl, Or.inr ⟨W1.heap.size, 1, #[.int .i64 (0 : Int)], rfl, hlt1, alloc_new_at _ _ _ rfl, by omega, by decide, rfl, rfl⟩⟩, ?_⟩
    have h1 := hg1.size
    simp at h1
    exact ((Q1.out.alloc (by omega) (.map #[] 0)).grown hg1 (by simp; omega) (fun j hj => by cases hj; omega)).alloc (by omega) _
  have HI0 := Lib.hid hI0
  have HCK := Lib.hid hK
  have HWV := Lib.hid wfV
  have HWR := Lib.hid wfR
  have HHV := Lib.hid hv'
  clear hg1 hM1 eb hI0 hK hup hmm wfV wfR hv'
  go_loopw [12, 13] (fun s n wr => ∃ k : Nat, k < K ∧ n = .int .i64 ((k : Int) + 1) ∧ CsI p V R i w1.heap.size w s k wr) (fun _ n _ => 65540 - (intOf n).toNat)
  case atStart => exact ⟨0, HCK.out.pos, rfl, HI0.out⟩
  case round =>
    obtain ⟨k, hkK, rfl, hI⟩ := hrel
    have hKle := HCK.out.le
    by_cases hle : k + 1 ≤ 65536
    · have hlt : ((k : Int) + 1 ≤ 65536) = True := by simp; omega
      obtain ⟨r1, r2, r3, r4, r5⟩ := hI
      obtain ⟨⟨A, B⟩, hAB⟩ : ∃ X : Int × Int, X = stk p V R i k := ⟨_, rfl⟩
      obtain ⟨⟨X1, X2⟩, hX⟩ : ∃ X : Int × Int, X = stk p V R i (k + 1) := ⟨_, rfl⟩
      obtain ⟨sp, hsp⟩ : ∃ sp, sp = sps p V R i k := ⟨_, rfl⟩
      obtain ⟨nk, hnk⟩ : ∃ nk, nk = nsp p V R i k := ⟨_, rfl⟩
      have hval := stk_valid HK.out i k1 k2 k3 k4 (k + 1)
      rw [← hX] at hval
      obtain ⟨wX1, wX2⟩ : (Lit.int .i64 X1).wf = true ∧ (Lit.int .i64 X2).wf = true := by
        have := HK.out.fl0
        have := HK.out.reM
        have hl := Lib.hid hval
        obtain ⟨v1, v2, v3, v4⟩ := hval
        constructor <;> simp [Lit.wf, IntKind.min, IntKind.max, IntKind.signed, IntKind.bits] <;> omega
      have hva := stk_valid HK.out i k1 k2 k3 k4 k
      have hgo := fun W => rgo_any p HK.out A B i (by rw [← hAB] at hva; exact hva.1) (by rw [← hAB] at hva; exact hva.2.1) (by rw [← hAB] at hva; exact hva.2.2.1) (by rw [← hAB] at hva; exact hva.2.2.2) W
      have hx := stk_succ p V R i k
      rw [← hX, ← hAB] at hx
      have hsp' := hsp
      unfold sps at hsp'
      rw [← hAB] at hsp'
      simp only at hsp'
      obtain ⟨hx1, hx2⟩ : X1 = tV p A B i ∧ X2 = tR p A B i := by simpa using hx
      rw [← hx1, ← hx2, ← hsp'] at hgo
      have nk1 := nsp_le p V R i k
      have hns : nsp p V R i (k + 1) = nk + if sp then 1 else 0 := by rw [hnk, hsp]; rfl
      rw [← hnk] at nk1
      obtain ⟨g, cap, hs12⟩ := ownsRow_succ r4
      have hgb := r4.lt g (by rw [hs12]; rfl)
      have hrow : ∀ j, j < k + 1 → wr.cell? ⟨g, j, none⟩ = some (.int .i64 (nsp p V R i j : Int)) := fun j hj => by
        have r4' := r4
        rw [hs12] at r4'
        rw [r4'.cellAt j (by omega)]
        simp [hj]
      have hck := hrow k (by omega)
      rw [← hnk] at hck
      rw [← hAB] at r2
      subst hs12
      obtain ⟨_, _, _, _, _, _, _, _⟩ := cells8 r1
      obtain ⟨_, _, _, _⟩ := cells2 r2
      have hl1 : w.heap.size + 1 < wr.heap.size := lt_of_block r2
      have hi0 : (0 : Int) ≤ (k : Int) := Int.natCast_nonneg _
      have hi1 : (k : Int) < ((k + 1 : Nat) : Int) := by omega
      have HGO := Lib.hid hgo
      have HAB := Lib.hid hAB
      have HX := Lib.hid hX
      have HSP := Lib.hid hsp
      have HNK := Lib.hid hnk
      have HNS := Lib.hid hns
      have HROW := Lib.hid hrow
      have P1 := Lib.hid r1
      have P2 := Lib.hid r2
      have P3 := Lib.hid r3
      have P4 := Lib.hid r4
      have P5 := Lib.hid r5
      clear hgo hAB hX hsp hnk hns hrow r1 r2 r3 r4 r5 hx hx1 hx2 hsp' hva hval
      cases sp with
      | false =>
        go_wp2_with (go_at_call 44; refine (HGO.out _).mono ?_; rintro e w2 ⟨rfl, hb2⟩; have q2 : Below wr.heap.size wr w2 := ⟨hb2.os, hb2.tape, hb2.output, hb2.size, hb2.block⟩; obtain ⟨_, _, _, _⟩ := cells2 ((q2.block _ (by omega)).trans P2.out); have hce2 : w2.cell? ⟨g, k, none⟩ = some (.int .i64 (nk : Int)) := (q2.cell (p := ⟨g, k, none⟩) (World.block_lt_of_cell? wr _ (by assumption))).trans (by assumption); have hl2 : w.heap.size + 1 < w2.heap.size := (by have := q2.size; omega); have hl3 : g < w2.heap.size := (by have := q2.size; omega); have hl4 : w1.heap.size < w2.heap.size := (by have := q2.size; omega); have Q2 := Lib.hid q2; clear hb2 q2)
        have EB : ∀ b, b < wr.heap.size → b ≠ w.heap.size + 1 → (((w2.setCell ⟨w.heap.size + 1, 0, none⟩ (.int .i64 X1)).setCell ⟨w.heap.size + 1, 1, none⟩ (.int .i64 X2)).alloc (.cells #[.int .i64 X1, .int .i64 X2] 25)).heap[b]? = wr.heap[b]? := fun b hb hn => by
          rw [Below.heap_alloc _ _ _ (by have := Q2.out.size; simp [World.setCell]; omega), Below.heap_setCell _ _ _ _ (by show b ≠ w.heap.size + 1; exact hn), Below.heap_setCell _ _ _ _ (by show b ≠ w.heap.size + 1; exact hn), Q2.out.block _ hb]
        have f2 : (((w2.setCell ⟨w.heap.size + 1, 0, none⟩ (.int .i64 X1)).setCell ⟨w.heap.size + 1, 1, none⟩ (.int .i64 X2)).alloc (.cells #[.int .i64 X1, .int .i64 X2] 25)).heap[w.heap.size + 1]? = some (.cells #[.int .i64 X1, .int .i64 X2] 25) :=
          (Below.heap_alloc _ _ _ (by simp [World.setCell]; omega)).trans (set2_1 (set2_0 ((Q2.out.block _ (by omega)).trans P2.out) _) _)
        have fB : Below w.heap.size w (((w2.setCell ⟨w.heap.size + 1, 0, none⟩ (.int .i64 X1)).setCell ⟨w.heap.size + 1, 1, none⟩ (.int .i64 X2)).alloc (.cells #[.int .i64 X1, .int .i64 X2] 25)) :=
          (((P5.out.trans (Q2.out.mono (by omega))).setCell (p := ⟨w.heap.size + 1, 0, none⟩) (by simp) _).setCell (p := ⟨w.heap.size + 1, 1, none⟩) (by simp) _).alloc (by simp [World.setCell]; omega) _
        have fS : wr.heap.size ≤ (((w2.setCell ⟨w.heap.size + 1, 0, none⟩ (.int .i64 X1)).setCell ⟨w.heap.size + 1, 1, none⟩ (.int .i64 X2)).alloc (.cells #[.int .i64 X1, .int .i64 X2] 25)).heap.size := by have := Q2.out.size; simp [World.setCell]; omega
        generalize ((w2.setCell ⟨w.heap.size + 1, 0, none⟩ (.int .i64 X1)).setCell ⟨w.heap.size + 1, 1, none⟩ (.int .i64 X2)).alloc (.cells #[.int .i64 X1, .int .i64 X2] 25) = W2 at *
        have f1 : PrmAt p w.heap.size W2 := (EB _ (by omega) (by omega)).trans P1.out
        have f3 : MapIs W2 w1.heap.size (k + 1) (fI p V R i k) := P3.out.of_block (EB _ (by omega) (by omega))
        have f4 := ownsRow_of_block P4.out (A' := W2) fun b hb => EB b (P4.out.lt b hb).2 (by have := (P4.out.lt b hb).1; omega)
        have hlk := f3.look Try.underlying81 (z := .int .i64 0) (by kernel_rfl) X1 X2 wX1 wX2
        obtain ⟨_, _, _, _⟩ := cells2 f2
        have F1 := Lib.hid f1
        have F2 := Lib.hid f2
        have F4 := Lib.hid f4
        have FB := Lib.hid fB
        have hNS : nsp p V R i (k + 1) = nk := HNS.out
        have HNN := Lib.hid hNS
        clear f1 f2 fB EB hNS
        by_cases hkK1 : k + 1 = K
        · have hK6 : K ≤ 65536 := by omega
          obtain ⟨hjK, hjs⟩ := HCK.out.hit hK6
          have hf : fI p V R i k X1 X2 = some (.int .i64 (j : Int)) := by
            refine fI_some p V R i X1 X2 j (by rw [hjs, ← hkK1, HX.out]) k (by omega) fun a h1 h2 e => ?_
            exact HCK.out.fresh j a h1 (by omega) (by rw [e, hjs, ← hkK1, HX.out])
          rw [hf] at hlk
          simp only [Option.getD_some, Option.isSome_some] at hlk
          obtain ⟨nj, hnj⟩ : ∃ nj, nj = nsp p V R i j := ⟨_, rfl⟩
          have nj1 := nsp_le p V R i j
          have hcj : W2.cell? ⟨g, j, none⟩ = some (.int .i64 (nj : Int)) := by
            rw [f4.cellAt j (by omega), hnj, List.getElem?_map, List.getElem?_range (by omega)]
            rfl
          rw [← hnj] at nj1
          have hjk : (j : Int) < ((k + 1 : Nat) : Int) := by omega
          have hj0 : (0 : Int) ≤ (j : Int) := Int.natCast_nonneg _
          have HNJ := Lib.hid hnj
          have HF4 := Lib.hid f4
          clear hf f3 f4 hnj hjs
          go_simp
          go_wp2
          have ew1 : IntKind.i64.wrap ((k : Int) + 1 - (j : Int)) = (k : Int) + 1 - (j : Int) := by simp [IntKind.wrap, IntKind.bits, IntKind.signed]; split <;> omega
          have ew2 : IntKind.i64.wrap ((nk : Int) - (nj : Int)) = (nk : Int) - (nj : Int) := by simp [IntKind.wrap, IntKind.bits, IntKind.signed]; split <;> omega
          go_quiet (fail)
          go_wp2
          refine bodyPost_ret (v := .tuple #[.int .i64 (j : Int), .int .i64 ((k : Int) + 1 - j), .int .i64 ((nk : Int) - (nj : Int)), .int .i64 0]) (by simp [results, Try.results32, go_sem]) rfl ⟨?_, by first | exact FB.out | exact below_drewN FB.out _⟩
          rw [cycR, if_pos hK6, ← hkK1, HNN.out, ← HNJ.out]
          push_cast
          rfl
        · have hf : fI p V R i k X1 X2 = none := by
            refine fI_none p V R i X1 X2 k fun a ha e => ?_
            exact HCK.out.fresh a (k + 1) (by omega) (by omega) (by rw [e, HX.out])
          rw [hf] at hlk
          simp only [Option.getD_none, Option.isSome_none] at hlk
          obtain ⟨W5, hup, hM5, hg5⟩ := f3.update (by unfold maxLen; omega) Try.underlying81 X1 X2 wX1 wX2 (.int .i64 ((k : Int) + 1))
          have hg51 := hg5.size
          have hkeep : ∀ b, b < W2.heap.size → b ≠ w1.heap.size → W5.heap[b]? = W2.heap[b]? := fun b h1 h2 => hg5.block b h1 (by simpa using h2)
          have hrow5 := ownsRow_of_block f4 (A' := W5) fun b hb => hkeep b (f4.lt b hb).2 (by have := (f4.lt b hb).1; omega)
          have HKEEP := Lib.hid hkeep
          have HM5 := Lib.hid hM5
          have HG5 := Lib.hid hg5
          have HR5 := Lib.hid hrow5
          clear hf f3 f4 hM5 hg5 hkeep
          go_simp
          go_wp2_with (at_builtin; refine wpList_append_own _ rfl _ _ 35 rfl (w1.heap.size + 1) 3 i0 (.int .i64 0) 1 8 Try.underlying35 hi hz0 hzz1 hzz2 rfl (by decide) (.slice (some ⟨g, 0, none⟩) (k + 1) cap) _ _ rfl (hrow5.alloc _) ⟨W5.heap.size, 0, none⟩ 1 1 [.int .i64 (nk : Int)] rfl rfl (cell_one_new _ _ _) (by simp [Value.oneCell']) (by unfold maxLen; omega) (by omega) (by simp; omega) ?_; intro v' w3 hown' hgrow _; have HO := Lib.hid hown'; have HG := Lib.hid hgrow; clear hown' hgrow)
          have hk3 : ∀ b, b < w1.heap.size → w3.heap[b]? = W2.heap[b]? := fun b hb =>
            (HG.out.block b (by rw [World.size_alloc]; omega) (fun e => by have := (HR5.out.lt b e.symm).1; omega)).trans ((Below.heap_alloc _ _ _ (by omega)).trans (HKEEP.out b (by omega) (by omega)))
          have hk4 : w3.heap[w1.heap.size]? = W5.heap[w1.heap.size]? :=
            (HG.out.block _ (by rw [World.size_alloc]; omega) (fun e => by have := (HR5.out.lt _ e.symm).1; omega)).trans (Below.heap_alloc _ _ _ (by omega))
          have hsz := HG.out.size
          rw [World.size_alloc] at hsz
          refine ⟨⟨k + 1, by omega, by push_cast; rfl, ⟨(hk3 _ (by omega)).trans F1.out, ?_, ?_, ?_, ?_⟩⟩, by simp [intOf]; omega⟩
          · rw [← HX.out]; exact (hk3 _ (by omega)).trans F2.out
          · have e : fI p V R i (k + 1) = upd (fI p V R i k) X1 X2 (.int .i64 ((k : Int) + 1)) := by
              show upd (fI p V R i k) (stk p V R i (k + 1)).1 (stk p V R i (k + 1)).2 (.int .i64 ((k + 1 : Nat) : Int)) = _
              rw [← HX.out]; rfl
            rw [e]; exact HM5.out.of_block hk4
          · have := HO.out
            rw [List.range_succ, List.map_append]
            simp only [List.map_cons, List.map_nil]
            rw [HNN.out]
            exact this
          · exact ((((FB.out.grown HG5.out (by omega) (fun j hj => by cases hj; omega)).alloc (by omega) _).trans ⟨HG.out.os, HG.out.tape, HG.out.output, by rw [World.size_alloc]; omega, fun b hb => (hk3 b (by omega)).trans (((Below.heap_alloc _ _ _ (by omega)).trans (HKEEP.out b (by omega) (by omega))).symm)⟩))
      | true =>
        go_wp2_with (go_at_call 44; refine (HGO.out _).mono ?_; rintro e w2 ⟨rfl, hb2⟩; have q2 : Below wr.heap.size wr w2 := ⟨hb2.os, hb2.tape, hb2.output, hb2.size, hb2.block⟩; obtain ⟨_, _, _, _⟩ := cells2 ((q2.block _ (by omega)).trans P2.out); have hce2 : w2.cell? ⟨g, k, none⟩ = some (.int .i64 (nk : Int)) := (q2.cell (p := ⟨g, k, none⟩) (World.block_lt_of_cell? wr _ (by assumption))).trans (by assumption); have hl2 : w.heap.size + 1 < w2.heap.size := (by have := q2.size; omega); have hl3 : g < w2.heap.size := (by have := q2.size; omega); have hl4 : w1.heap.size < w2.heap.size := (by have := q2.size; omega); have Q2 := Lib.hid q2; clear hb2 q2)
        have EB : ∀ b, b < wr.heap.size → b ≠ w.heap.size + 1 → (((w2.setCell ⟨w.heap.size + 1, 0, none⟩ (.int .i64 X1)).setCell ⟨w.heap.size + 1, 1, none⟩ (.int .i64 X2)).alloc (.cells #[.int .i64 X1, .int .i64 X2] 25)).heap[b]? = wr.heap[b]? := fun b hb hn => by
          rw [Below.heap_alloc _ _ _ (by have := Q2.out.size; simp [World.setCell]; omega), Below.heap_setCell _ _ _ _ (by show b ≠ w.heap.size + 1; exact hn), Below.heap_setCell _ _ _ _ (by show b ≠ w.heap.size + 1; exact hn), Q2.out.block _ hb]
        have f2 : (((w2.setCell ⟨w.heap.size + 1, 0, none⟩ (.int .i64 X1)).setCell ⟨w.heap.size + 1, 1, none⟩ (.int .i64 X2)).alloc (.cells #[.int .i64 X1, .int .i64 X2] 25)).heap[w.heap.size + 1]? = some (.cells #[.int .i64 X1, .int .i64 X2] 25) :=
          (Below.heap_alloc _ _ _ (by simp [World.setCell]; omega)).trans (set2_1 (set2_0 ((Q2.out.block _ (by omega)).trans P2.out) _) _)
        have fB : Below w.heap.size w (((w2.setCell ⟨w.heap.size + 1, 0, none⟩ (.int .i64 X1)).setCell ⟨w.heap.size + 1, 1, none⟩ (.int .i64 X2)).alloc (.cells #[.int .i64 X1, .int .i64 X2] 25)) :=
          (((P5.out.trans (Q2.out.mono (by omega))).setCell (p := ⟨w.heap.size + 1, 0, none⟩) (by simp) _).setCell (p := ⟨w.heap.size + 1, 1, none⟩) (by simp) _).alloc (by simp [World.setCell]; omega) _
        have fS : wr.heap.size ≤ (((w2.setCell ⟨w.heap.size + 1, 0, none⟩ (.int .i64 X1)).setCell ⟨w.heap.size + 1, 1, none⟩ (.int .i64 X2)).alloc (.cells #[.int .i64 X1, .int .i64 X2] 25)).heap.size := by have := Q2.out.size; simp [World.setCell]; omega
        generalize ((w2.setCell ⟨w.heap.size + 1, 0, none⟩ (.int .i64 X1)).setCell ⟨w.heap.size + 1, 1, none⟩ (.int .i64 X2)).alloc (.cells #[.int .i64 X1, .int .i64 X2] 25) = W2 at *
        have f1 : PrmAt p w.heap.size W2 := (EB _ (by omega) (by omega)).trans P1.out
        have f3 : MapIs W2 w1.heap.size (k + 1) (fI p V R i k) := P3.out.of_block (EB _ (by omega) (by omega))
        have f4 := ownsRow_of_block P4.out (A' := W2) fun b hb => EB b (P4.out.lt b hb).2 (by have := (P4.out.lt b hb).1; omega)
        have hlk := f3.look Try.underlying81 (z := .int .i64 0) (by kernel_rfl) X1 X2 wX1 wX2
        obtain ⟨_, _, _, _⟩ := cells2 f2
        have F1 := Lib.hid f1
        have F2 := Lib.hid f2
        have F4 := Lib.hid f4
        have FB := Lib.hid fB
        have hNS : nsp p V R i (k + 1) = nk + 1 := HNS.out
        have HNN := Lib.hid hNS
        clear f1 f2 fB EB hNS
        by_cases hkK1 : k + 1 = K
        · have hK6 : K ≤ 65536 := by omega
          obtain ⟨hjK, hjs⟩ := HCK.out.hit hK6
          have hf : fI p V R i k X1 X2 = some (.int .i64 (j : Int)) := by
            refine fI_some p V R i X1 X2 j (by rw [hjs, ← hkK1, HX.out]) k (by omega) fun a h1 h2 e => ?_
            exact HCK.out.fresh j a h1 (by omega) (by rw [e, hjs, ← hkK1, HX.out])
          rw [hf] at hlk
          simp only [Option.getD_some, Option.isSome_some] at hlk
          obtain ⟨nj, hnj⟩ : ∃ nj, nj = nsp p V R i j := ⟨_, rfl⟩
          have nj1 := nsp_le p V R i j
          have hcj : W2.cell? ⟨g, j, none⟩ = some (.int .i64 (nj : Int)) := by
            rw [f4.cellAt j (by omega), hnj, List.getElem?_map, List.getElem?_range (by omega)]
            rfl
          rw [← hnj] at nj1
          have hjk : (j : Int) < ((k + 1 : Nat) : Int) := by omega
          have hj0 : (0 : Int) ≤ (j : Int) := Int.natCast_nonneg _
          have HNJ := Lib.hid hnj
          have HF4 := Lib.hid f4
          clear hf f3 f4 hnj hjs
          go_simp
          go_wp2
          have ew1 : IntKind.i64.wrap ((k : Int) + 1 - (j : Int)) = (k : Int) + 1 - (j : Int) := by simp [IntKind.wrap, IntKind.bits, IntKind.signed]; split <;> omega
          have ew2 : IntKind.i64.wrap (((nk : Int) + 1) - (nj : Int)) = ((nk : Int) + 1) - (nj : Int) := by simp [IntKind.wrap, IntKind.bits, IntKind.signed]; split <;> omega
          go_quiet (fail)
          go_wp2
          refine bodyPost_ret (v := .tuple #[.int .i64 (j : Int), .int .i64 ((k : Int) + 1 - j), .int .i64 (((nk : Int) + 1) - (nj : Int)), .int .i64 0]) (by simp [results, Try.results32, go_sem]) rfl ⟨?_, by first | exact FB.out | exact below_drewN FB.out _⟩
          rw [cycR, if_pos hK6, ← hkK1, HNN.out, ← HNJ.out]
          push_cast
          rfl
        · have hf : fI p V R i k X1 X2 = none := by
            refine fI_none p V R i X1 X2 k fun a ha e => ?_
            exact HCK.out.fresh a (k + 1) (by omega) (by omega) (by rw [e, HX.out])
          rw [hf] at hlk
          simp only [Option.getD_none, Option.isSome_none] at hlk
          obtain ⟨W5, hup, hM5, hg5⟩ := f3.update (by unfold maxLen; omega) Try.underlying81 X1 X2 wX1 wX2 (.int .i64 ((k : Int) + 1))
          have hg51 := hg5.size
          have hkeep : ∀ b, b < W2.heap.size → b ≠ w1.heap.size → W5.heap[b]? = W2.heap[b]? := fun b h1 h2 => hg5.block b h1 (by simpa using h2)
          have hrow5 := ownsRow_of_block f4 (A' := W5) fun b hb => hkeep b (f4.lt b hb).2 (by have := (f4.lt b hb).1; omega)
          have HKEEP := Lib.hid hkeep
          have HM5 := Lib.hid hM5
          have HG5 := Lib.hid hg5
          have HR5 := Lib.hid hrow5
          clear hf f3 f4 hM5 hg5 hkeep
          go_simp
          go_wp2_with (at_builtin; refine wpList_append_own _ rfl _ _ 35 rfl (w1.heap.size + 1) 3 i0 (.int .i64 0) 1 8 Try.underlying35 hi hz0 hzz1 hzz2 rfl (by decide) (.slice (some ⟨g, 0, none⟩) (k + 1) cap) _ _ rfl (hrow5.alloc _) ⟨W5.heap.size, 0, none⟩ 1 1 [.int .i64 ((nk : Int) + 1)] rfl rfl (cell_one_new _ _ _) (by simp [Value.oneCell']) (by unfold maxLen; omega) (by omega) (by simp; omega) ?_; intro v' w3 hown' hgrow _; have HO := Lib.hid hown'; have HG := Lib.hid hgrow; clear hown' hgrow)
          have hk3 : ∀ b, b < w1.heap.size → w3.heap[b]? = W2.heap[b]? := fun b hb =>
            (HG.out.block b (by rw [World.size_alloc]; omega) (fun e => by have := (HR5.out.lt b e.symm).1; omega)).trans ((Below.heap_alloc _ _ _ (by omega)).trans (HKEEP.out b (by omega) (by omega)))
          have hk4 : w3.heap[w1.heap.size]? = W5.heap[w1.heap.size]? :=
            (HG.out.block _ (by rw [World.size_alloc]; omega) (fun e => by have := (HR5.out.lt _ e.symm).1; omega)).trans (Below.heap_alloc _ _ _ (by omega))
          have hsz := HG.out.size
          rw [World.size_alloc] at hsz
          refine ⟨⟨k + 1, by omega, by push_cast; rfl, ⟨(hk3 _ (by omega)).trans F1.out, ?_, ?_, ?_, ?_⟩⟩, by simp [intOf]; omega⟩
          · rw [← HX.out]; exact (hk3 _ (by omega)).trans F2.out
          · have e : fI p V R i (k + 1) = upd (fI p V R i k) X1 X2 (.int .i64 ((k : Int) + 1)) := by
              show upd (fI p V R i k) (stk p V R i (k + 1)).1 (stk p V R i (k + 1)).2 (.int .i64 ((k + 1 : Nat) : Int)) = _
              rw [← HX.out]; rfl
            rw [e]; exact HM5.out.of_block hk4
          · have := HO.out
            rw [List.range_succ, List.map_append]
            simp only [List.map_cons, List.map_nil]
            rw [HNN.out]
            exact this
          · exact ((((FB.out.grown HG5.out (by omega) (fun j hj => by cases hj; omega)).alloc (by omega) _).trans ⟨HG.out.os, HG.out.tape, HG.out.output, by rw [World.size_alloc]; omega, fun b hb => (hk3 b (by omega)).trans (((Below.heap_alloc _ _ _ (by omega)).trans (HKEEP.out b (by omega) (by omega))).symm)⟩))
    · have hlt : ((k : Int) + 1 ≤ 65536) = False := by simp; omega
      have HI := Lib.hid hI
      clear hI
      go_wp2
      have hK5 : ¬ K ≤ 65536 := by omega
      refine bodyPost_ret (v := .tuple #[.int .i64 0, .int .i64 0, .int .i64 0, .int .i64 8]) (by simp [results, Try.results32, go_sem]) rfl ⟨by rw [cycR, if_neg hK5], HI.out.bel⟩
end Go.Proofs.Ytkpabecnimakpaa
