/- The specification's Next; both Nexts where the state is not valid. -/
import Derived.Test.YtkpabecnimakpaaQ
namespace Go.Proofs.Ytkpabecnimakpaa
set_option linter.unusedVariables false
open Go.RowKit Go.Shelf

set_option maxHeartbeats 1000000 in
theorem rnext_err (p : Prm) (V R : Int) (hv : validP p V R ≠ 0) (w : World) :
    Calls Try.prog 30 #[.agg #[.int .i64 p.lk, .int .i64 p.lv, .int .i64 p.bi, .int .i64 p.th, .int .i64 p.rk, .int .i64 p.rs, .int .i64 p.fl, .int .i64 p.re], .agg #[.int .i64 V, .int .i64 R]] w fun e w' => e = .returned (.tuple #[.int .i64 0, .int .i64 (validP p V R)]) ∧ Below w.heap.size w w' := by
  have hv' : (validP p V R != 0) = true := by simp [hv]
  clear hv
  go_enter Try.func30, Try.ntmps30
  go_wp2_with (go_at_call 20; refine (rvalid_any p V R _).mono ?_; rintro e w1 ⟨rfl, hb1⟩; obtain ⟨hc1, hf1⟩ := bcell hb1; have hz1 : w.heap.size + 1 < w1.heap.size := (by have := hb1.size; simp at this; omega); have hz1a : w.heap.size < w1.heap.size := (by omega))
  refine bodyPost_ret (v := .tuple #[.int .i64 0, .int .i64 (validP p V R)]) (by simp [results, Try.results30]) rfl ⟨rfl, ?_⟩
  (focus (first | (exact Below.refl _ _) | ((repeat (first | exact Below.refl _ _ | refine below_drewN ?_ _ | refine Below.drew ?_ | refine Below.alloc ?_ ?_ _ | refine Below.setCell ?_ ?_ _ | refine Below.trans ?_ (Below.mono (by assumption) ?_))); all_goals (first | omega | (simp; done) | (simp; omega)))))

set_option maxHeartbeats 1000000 in
theorem next_err (p : Prm) (V R : Int) (hv : validP p V R ≠ 0) (w : World) :
    Calls Try.prog 29 #[.agg #[.int .i64 p.lk, .int .i64 p.lv, .int .i64 p.bi, .int .i64 p.th, .int .i64 p.rk, .int .i64 p.rs, .int .i64 p.fl, .int .i64 p.re], .agg #[.int .i64 V, .int .i64 R]] w fun e w' => e = .returned (.tuple #[.int .i64 0, .int .i64 (validP p V R)]) ∧ Below w.heap.size w w' := by
  have hv' : (validP p V R != 0) = true := by simp [hv]
  clear hv
  refine callsIn_wide.1 (show CallsIn Fence.wide 0 Try.prog 29 _ w _ from ?_)
  refine callsIn_of_wp_marks Try.func29 rfl trivial ?_ rfl
  simp only [Try.ntmps29, List.size_toArray, List.length_cons, List.length_nil, Nat.reduceAdd, Nat.reduceSub, Array.replicate_succ, Array.replicate_zero, List.push_toArray, List.append_toArray, List.nil_append, List.cons_append]
  gi_wp2_with (refine ⟨trivial, rfl, ?_⟩; gi_at_call 19; refine (callsIn_wide.2 (valid_any p V R _)).mono ?_; rintro e w1 ⟨rfl, hb1⟩; obtain ⟨hc1, hf1⟩ := bcell hb1; have hz1 : w.heap.size + 3 < w1.heap.size := (by have := hb1.size; simp at this; omega); have hz1a : w.heap.size < w1.heap.size := (by omega); have hz1b : w.heap.size + 1 < w1.heap.size := (by omega); have hz1c : w.heap.size + 1 + 1 < w1.heap.size := (by omega); have hz1d : w.heap.size + 1 + 1 + 1 < w1.heap.size := (by omega))
  obtain ⟨q0', _⟩ : (((w1.setCell ⟨w.heap.size + 1 + 1, 0, none⟩ (.int .i64 0)).setCell ⟨w.heap.size + 1 + 1 + 1, 0, none⟩ (.int .i64 (validP p V R))).cell? ⟨w.heap.size + 1 + 1, 0, none⟩ = some (.int .i64 0)) ∧ True := ⟨by
    refine (cells1 (show ((w1.setCell ⟨w.heap.size + 1 + 1, 0, none⟩ (.int .i64 0)).setCell ⟨w.heap.size + 1 + 1 + 1, 0, none⟩ (.int .i64 (validP p V R))).heap[w.heap.size + 1 + 1]? = some (.cells #[.int .i64 0] 3) from ?_)).1
    rw [Below.heap_setCell _ _ _ _ (by show w.heap.size + 1 + 1 ≠ w.heap.size + 1 + 1 + 1; omega)]
    exact set1_0 (show w1.heap[w.heap.size + 1 + 1]? = some (.cells #[.int .i64 0] 3) from by rw [hb1.block _ (by simp), Below.heap_alloc _ _ _ (by simp)]; exact alloc_new_at _ _ _ (by simp)) _, trivial⟩
  obtain ⟨q1', _⟩ : (((w1.setCell ⟨w.heap.size + 1 + 1, 0, none⟩ (.int .i64 0)).setCell ⟨w.heap.size + 1 + 1 + 1, 0, none⟩ (.int .i64 (validP p V R))).cell? ⟨w.heap.size + 1 + 1 + 1, 0, none⟩ = some (.int .i64 (validP p V R))) ∧ True := ⟨by
    refine (cells1 (show ((w1.setCell ⟨w.heap.size + 1 + 1, 0, none⟩ (.int .i64 0)).setCell ⟨w.heap.size + 1 + 1 + 1, 0, none⟩ (.int .i64 (validP p V R))).heap[w.heap.size + 1 + 1 + 1]? = some (.cells #[.int .i64 (validP p V R)] 26) from ?_)).1
    exact set1_0 (show (w1.setCell ⟨w.heap.size + 1 + 1, 0, none⟩ (.int .i64 0)).heap[w.heap.size + 1 + 1 + 1]? = some (.cells #[.int .i64 0] 26) from by rw [Below.heap_setCell _ _ _ _ (by show w.heap.size + 1 + 1 + 1 ≠ w.heap.size + 1 + 1; omega), hb1.block _ (by simp)]; exact alloc_new_at _ _ _ (by simp)) _, trivial⟩
  refine ⟨.tuple #[.int .i64 0, .int .i64 (validP p V R)], ?_, rfl, ?_⟩
  · simp [results, Try.results29, go_sem, q0', q1']
  · (focus (first | (exact Below.refl _ _) | ((repeat (first | exact Below.refl _ _ | refine below_drewN ?_ _ | refine Below.drew ?_ | refine Below.alloc ?_ ?_ _ | refine Below.setCell ?_ ?_ _ | refine Below.trans ?_ (Below.mono (by assumption) ?_))); all_goals (first | omega | (simp; done) | (simp; omega)))))

theorem rn_step {p : Prm} {A B T S : Int} {w wr w2 W : World} {o : Obj} (r1 : PrmAt p w.heap.size wr) (r2 : StAt A B (w.heap.size + 1) wr) (r3 : Below w.heap.size w wr) (hb : Below wr.heap.size wr w2)
    (h1 : W.heap = (((w2.setCell ⟨w.heap.size + 1, 0, none⟩ (.int .i64 T)).setCell ⟨w.heap.size + 1, 1, none⟩ (.int .i64 S)).alloc o).heap) (h2 : W.os = w2.os) (h3 : W.tape = w2.tape) (h4 : W.output = w2.output) :
    PrmAt p w.heap.size W ∧ StAt T S (w.heap.size + 1) W ∧ Below w.heap.size w W := by
  have hl := lt_of_block r2
  have hq := hb.size
  have hw : w.heap.size + 1 < ((w2.setCell ⟨w.heap.size + 1, 0, none⟩ (.int .i64 T)).setCell ⟨w.heap.size + 1, 1, none⟩ (.int .i64 S)).heap.size := by simp [World.setCell]; omega
  have ho : ∀ b, b ≤ w.heap.size → W.heap[b]? = wr.heap[b]? := fun b hb' => by
    rw [h1, Below.heap_alloc _ _ _ (by omega), Below.heap_setCell _ _ _ _ (by show b ≠ w.heap.size + 1; omega), Below.heap_setCell _ _ _ _ (by show b ≠ w.heap.size + 1; omega), hb.block _ (by omega)]
  refine ⟨(ho _ (Nat.le_refl _)).trans r1, ?_, ⟨h2.trans (hb.os.trans r3.os), h3.trans (hb.tape.trans r3.tape), h4.trans (hb.output.trans r3.output), ?_, fun b hb' => (ho b (by omega)).trans (r3.block b hb')⟩⟩
  · unfold StAt
    rw [h1, Below.heap_alloc _ _ _ hw]
    exact set2_1 (set2_0 ((hb.block _ hl).trans r2) _) _
  · rw [h1]; simp [World.setCell]; omega

set_option maxRecDepth 100000 in
set_option maxHeartbeats 2000000 in
theorem rnext_ok (p : Prm) (V R : Int) (hv : validP p V R = 0) (K : Nat) (hK : StopAt p V R K) (w : World) :
    Calls Try.prog 30 #[.agg #[.int .i64 p.lk, .int .i64 p.lv, .int .i64 p.bi, .int .i64 p.th, .int .i64 p.rk, .int .i64 p.rs, .int .i64 p.fl, .int .i64 p.re], .agg #[.int .i64 V, .int .i64 R]] w fun e w' => e = .returned (.tuple #[.int .i64 (nextR p V R K), .int .i64 0]) ∧ Below w.heap.size w w' := by
  have hv' : (validP p V R != 0) = false := by simp [hv]
  obtain ⟨hok, k1, k2, k3, k4⟩ := ok_of_valid hv
  have hav := fun k => after_valid hok k1 k2 k3 k4 (List.replicate k 0)
  have HOK := Lib.hid hok
  have HAV := Lib.hid hav
  have HKK := Lib.hid hK
  have hKlt := hK.lt
  clear hv hok k1 k2 k3 k4 hav hK
  go_enter Try.func30, Try.ntmps30
  go_wp2_with fail
  go_at_call 20
  refine (rvalid_any p V R _).mono ?_
  rintro e w1 ⟨rfl, hb1⟩
  have hz1 : w.heap.size + 1 < w1.heap.size := by have := hb1.size; simp at this; omega
  have q1 : Below w.heap.size w w1 := by
    (focus (first | (exact Below.refl _ _) | ((repeat (first | exact Below.refl _ _ | refine below_drewN ?_ _ | refine Below.drew ?_ | refine Below.alloc ?_ ?_ _ | refine Below.setCell ?_ ?_ _ | refine Below.trans ?_ (Below.mono (by assumption) ?_))); all_goals (first | omega | (simp; done) | (simp; omega)))))
  have pA : PrmAt p w.heap.size w1 := by
    unfold PrmAt; rw [hb1.block _ (by simp <;> omega), Below.heap_alloc _ _ _ (by simp <;> omega)]; exact alloc_new_at _ _ _ rfl
  have sA : StAt V R (w.heap.size + 1) w1 := by
    unfold StAt; rw [hb1.block _ (by simp <;> omega)]; exact alloc_new_at _ _ _ (by simp)
  have Q1 := Lib.hid q1
  have PA := Lib.hid pA
  have SA := Lib.hid sA
  clear hb1 q1 pA sA
  go_wp2_with fail
  clear hv'
  go_loopw [7] (fun i wr => ∃ k : Nat, k ≤ K ∧ i = .int .i64 k ∧ PrmAt p w.heap.size wr ∧ StAt (sil p V R k).1 (sil p V R k).2 (w.heap.size + 1) wr ∧ Below w.heap.size w wr) (fun i _ => K - (intOf i).toNat)
  case atStart => exact ⟨0, Nat.zero_le _, rfl, PA.out, SA.out, Q1.out⟩
  case round =>
    obtain ⟨k, hk, rfl, r1, r2, r3⟩ := hrel
    have hva := HAV.out k
    have hs := sil_succ p V R k
    obtain ⟨A, B, hAB⟩ : ∃ A B, sil p V R k = (A, B) := ⟨_, _, rfl⟩
    have hsil : after p V R (List.replicate k 0) = (A, B) := hAB
    rw [hAB] at r2 hs
    rw [hsil] at hva
    simp only at hs hva r2
    have hgo := rgo_any p HOK.out A B 0 hva.1 hva.2.1 hva.2.2.1 hva.2.2.2
    obtain ⟨sp, hsp⟩ : ∃ sp, sp = tS p A B 0 := ⟨_, rfl⟩
    have hspk : silS p V R k = sp := by unfold silS; rw [hAB, hsp]
    rw [← hsp] at hgo
    obtain ⟨T, hT⟩ : ∃ T, T = tV p A B 0 := ⟨_, rfl⟩
    obtain ⟨S, hS⟩ : ∃ S, S = tR p A B 0 := ⟨_, rfl⟩
    rw [← hT, ← hS] at hgo hs
    obtain ⟨_, _, _, _, _, _, _, _⟩ := cells8 r1
    obtain ⟨_, _, _, _⟩ := cells2 r2
    have hl1 : w.heap.size + 1 < wr.heap.size := lt_of_block r2
    have hl0 : w.heap.size < wr.heap.size := by omega
    have hk0 : (0 : Int) ≤ (k : Int) := Int.natCast_nonneg _
    have hk1 : (k : Int) < 2097218 := by omega
    have HGO := Lib.hid hgo
    have HS := Lib.hid hs
    have HSP := Lib.hid hspk
    have HAB := Lib.hid hAB
    have R1 := Lib.hid r1
    have R2 := Lib.hid r2
    have R3 := Lib.hid r3
    clear hgo hs hspk hAB r1 r2 r3 hsp hT hS hva hsil
    have bfor := HKK.out.before k
    have hstop := HKK.out.stop
    have BF := Lib.hid bfor
    have ST := Lib.hid hstop
    clear bfor hstop
    cases sp with
    | true =>
      have hkK : k = K := by
        by_cases e : k < K
        · have := (BF.out e).1; rw [HSP.out] at this; cases this
        · omega
      go_wp2_with (go_at_call 44; refine (HGO.out _).mono ?_; rintro e w2 ⟨rfl, hb2⟩; have hz2 : wr.heap.size ≤ w2.heap.size := hb2.size)
      refine bodyPost_ret (v := .tuple #[.int .i64 (K : Int), .int .i64 0]) (by simp [results, Try.results30]) rfl ⟨by rw [nextR, if_pos (by rw [← hkK]; exact HSP.out)], R3.out.trans (Below.mono (B := wr.heap.size) ?_ R3.out.size)⟩
      (focus (first | (exact Below.refl _ _) | ((repeat (first | exact Below.refl _ _ | refine below_drewN ?_ _ | refine Below.drew ?_ | refine Below.alloc ?_ ?_ _ | refine Below.setCell ?_ ?_ _ | refine Below.trans ?_ (Below.mono (by assumption) ?_))); all_goals (first | omega | (simp; done) | (simp; omega)))))
    | false =>
      by_cases hTS : T = A ∧ S = B
      · obtain ⟨rfl, rfl⟩ := hTS
        have hkK : k = K := by
          by_cases e : k < K
          · exact absurd (by rw [HS.out, HAB.out]) (BF.out e).2
          · omega
        go_wp2_with (go_at_call 44; refine (HGO.out _).mono ?_; rintro e w2 ⟨rfl, hb2⟩; obtain ⟨hc2, hf2⟩ := bcell hb2; have hz2 : wr.heap.size ≤ w2.heap.size := hb2.size; have hz2a : w.heap.size + 1 < w2.heap.size := (by omega))
        refine bodyPost_ret (v := .tuple #[.int .i64 (-1), .int .i64 0]) (by simp [results, Try.results30]) rfl ⟨by rw [nextR, if_neg (by rw [← hkK, HSP.out]; simp)], R3.out.trans (Below.mono (B := wr.heap.size) ?_ R3.out.size)⟩
        (focus (first | (exact Below.refl _ _) | ((repeat (first | exact Below.refl _ _ | refine below_drewN ?_ _ | refine Below.drew ?_ | refine Below.alloc ?_ ?_ _ | refine Below.setCell ?_ ?_ _ | refine Below.trans ?_ (Below.mono (by assumption) ?_))); all_goals (first | omega | (simp; done) | (simp; omega)))))
      · have hkK : k < K := by
          by_cases e : k = K
          · have := ST.out
            rw [← e, HSP.out, HS.out, HAB.out] at this
            rcases this with h | h
            · cases h
            · exact absurd (by simpa using h) hTS
          · omega
        have hz0 : w.heap.size + 1 < wr.heap.size := hl1
        by_cases hTA : T = A
        · have hSB : (S = B) = False := by simp; exact fun e => hTS ⟨hTA, e⟩
          subst hTA
          clear hTS
          go_wp2_with (go_at_call 44; refine (HGO.out _).mono ?_; rintro e w2 ⟨rfl, hb2⟩; obtain ⟨hc2, hf2⟩ := bcell hb2; have hz2 : wr.heap.size ≤ w2.heap.size := hb2.size; have hz2a : w.heap.size + 1 < w2.heap.size := (by omega))
          refine ⟨⟨k + 1, by omega, by go_num, ?_⟩, ?_⟩
          · rw [HS.out]
            exact rn_step R1.out R2.out R3.out hb2 rfl rfl rfl rfl
          · simp [intOf]; omega
        · have hTA' : (T = A) = False := by simp [hTA]
          clear hTS hTA
          go_wp2_with (go_at_call 44; refine (HGO.out _).mono ?_; rintro e w2 ⟨rfl, hb2⟩; obtain ⟨hc2, hf2⟩ := bcell hb2; have hz2 : wr.heap.size ≤ w2.heap.size := hb2.size; have hz2a : w.heap.size + 1 < w2.heap.size := (by omega))
          refine ⟨⟨k + 1, by omega, by go_num, ?_⟩, ?_⟩
          · rw [HS.out]
            exact rn_step R1.out R2.out R3.out hb2 rfl rfl rfl rfl
          · simp [intOf]; omega

end Go.Proofs.Ytkpabecnimakpaa
