/- The law NeuronKnown returns true: the chapter's examples. No condition. -/
import Derived.Test.YtkpabecnimakpaaKn
import Derived.Test.YtkpabecnimakpaaM
import Derived.Test.YtkpabecnimakpaaZm
import Derived.Laws.BytesArg
namespace Go.Proofs.Ytkpabecnimakpaa.neuronKnown
open Go.ChangeShapes Go.WideShapes Go.ChangeAt Go.RowKit
set_option linter.unusedVariables false
def TkOf (p : Prm) (V R i A B : Int) (s : Bool) : Prop := ∀ w, Calls Try.prog 22 #[.agg #[.int .i64 p.lk, .int .i64 p.lv, .int .i64 p.bi, .int .i64 p.th, .int .i64 p.rk, .int .i64 p.rs, .int .i64 p.fl, .int .i64 p.re], .agg #[.int .i64 V, .int .i64 R], .int .i64 i] w fun e w' =>
    e = .returned (.tuple #[.agg #[.int .i64 A, .int .i64 B], .bool s, .int .i64 0]) ∧ Below w.heap.size w w'
theorem tk_of {p : Prm} {V R i A B : Int} {s : Bool} (hv : validP p V R = 0) (h : tV p V R i = A ∧ tR p V R i = B ∧ tS p V R i = s) : TkOf p V R i A B s := fun w => by
  obtain ⟨rfl, rfl, rfl⟩ := h
  exact tick_ok p V R i hv w
theorem t1 : TkOf pA 0 0 3 3 0 false := tk_of vA0 tkA1
theorem t2 : TkOf pA 0 1 9 0 0 false := tk_of vdA1 tkA2
theorem t3 : TkOf pA 0 0 (-9) (-4) 0 false := tk_of vA0 tkA3
theorem t4 : TkOf pA 0 0 1152921504606846976 0 1 true := tk_of vA0 tkA4
theorem stA4 : StopAt pA 4 0 4 := by
  refine ⟨by decide, ?_, Or.inr (by decide +kernel)⟩
  have : ∀ j, j < 4 → silS pA 4 0 j = false ∧ sil pA 4 0 (j + 1) ≠ sil pA 4 0 j := by decide +kernel
  exact this
theorem nxA4 : nextR pA 4 0 4 = -1 := by decide +kernel
theorem stB0 : StopAt pB 0 0 2 := by
  refine ⟨by decide, ?_, Or.inl (by decide +kernel)⟩
  have : ∀ j, j < 2 → silS pB 0 0 j = false ∧ sil pB 0 0 (j + 1) ≠ sil pB 0 0 j := by decide +kernel
  exact this
theorem nxB0 : nextR pB 0 0 2 = 2 := by decide +kernel
theorem nA : ∀ w, Calls Try.prog 29 #[.agg #[.int .i64 1, .int .i64 1, .int .i64 0, .int .i64 5, .int .i64 0, .int .i64 0, .int .i64 (-4), .int .i64 1], .agg #[.int .i64 4, .int .i64 0]] w fun e w' =>
    e = .returned (.tuple #[.int .i64 (-1), .int .i64 0]) ∧ Below w.heap.size w w' := fun w => by
  refine (next_ok pA 4 0 vdA4 4 stA4 w).mono fun e w' ⟨he, hb⟩ => ⟨?_, hb⟩
  rw [he, nxA4]
theorem nB : ∀ w, Calls Try.prog 29 #[.agg #[.int .i64 0, .int .i64 0, .int .i64 2, .int .i64 5, .int .i64 1, .int .i64 0, .int .i64 (-4), .int .i64 1], .agg #[.int .i64 0, .int .i64 0]] w fun e w' =>
    e = .returned (.tuple #[.int .i64 2, .int .i64 0]) ∧ Below w.heap.size w w' := fun w => by
  refine (next_ok pB 0 0 vdB0 2 stB0 w).mono fun e w' ⟨he, hb⟩ => ⟨?_, hb⟩
  rw [he, nxB0]
theorem equal_259 (a1 a2 : Option Addr) (c1 c2 : Nat) (w : World) (h1 : IntsAt w (.slice a1 3 c1) [2, 5, 9]) (h2 : IntsAt w (.slice a2 3 c2) [2, 5, 9]) :
    Calls Try.prog 26 #[.slice a1 3 c1, .slice a2 3 c2] w fun e w' => e = .returned (.bool true) ∧ Below w.heap.size w w' :=
  equal_any a1 a2 c1 c2 [2, 5, 9] [2, 5, 9] (by decide) (by decide) w h1 h2
theorem cA1 : ∀ w, Calls Try.prog 31 #[.agg #[.int .i64 1, .int .i64 1, .int .i64 0, .int .i64 5, .int .i64 0, .int .i64 0, .int .i64 (-4), .int .i64 1], .agg #[.int .i64 0, .int .i64 0], .int .i64 2] w fun e w' =>
    e = .returned (.tuple #[.int .i64 0, .int .i64 5, .int .i64 1, .int .i64 0]) ∧ Below w.heap.size w w' := fun w => by
  refine (cycle_ok pA 0 0 2 vA0 5 0 cycA1 w).mono fun e w' ⟨he, hb⟩ => ⟨?_, hb⟩
  rw [he, cycV1]
theorem cA2 : ∀ w, Calls Try.prog 31 #[.agg #[.int .i64 1, .int .i64 1, .int .i64 0, .int .i64 5, .int .i64 0, .int .i64 0, .int .i64 (-4), .int .i64 1], .agg #[.int .i64 3, .int .i64 0], .int .i64 0] w fun e w' =>
    e = .returned (.tuple #[.int .i64 3, .int .i64 1, .int .i64 0, .int .i64 0]) ∧ Below w.heap.size w w' := fun w => by
  refine (cycle_ok pA 3 0 0 vA3 4 3 cycA2 w).mono fun e w' ⟨he, hb⟩ => ⟨?_, hb⟩
  rw [he, cycV2]
def packA : List Int := [1, 0, 0, 1, 0, 0, 0, 0, 0, 5, 0, 0, 0, 255, 255, 252, 1]
theorem bytesA : bytesP pA = packA := by decide +kernel
theorem pkA : ∀ w, Calls Try.prog 33 #[.agg #[.int .i64 1, .int .i64 1, .int .i64 0, .int .i64 5, .int .i64 0, .int .i64 0, .int .i64 (-4), .int .i64 1]] w fun e w' =>
    ∃ a cap, e = .returned (.tuple #[.slice a 17 cap, .int .i64 0]) ∧ KAt .u8 w' (.slice a 17 cap) packA ∧ Below w.heap.size w w' := fun w => by
  refine (pack_ok pA (by decide +kernel) w).mono ?_
  rintro e w' ⟨v, rfl, ho, hb⟩
  rw [bytesA] at ho
  obtain ⟨a, cap, rfl, hk⟩ := kat_of_owns (L := packA) ho (by decide)
  exact ⟨a, cap, rfl, hk, hb⟩
theorem ck1 : ∀ w, Calls Try.prog 17 #[.agg #[.int .i64 1, .int .i64 1, .int .i64 0, .int .i64 5, .int .i64 0, .int .i64 0, .int .i64 1, .int .i64 1]] w fun e w' => e = .returned (.int .i64 3) ∧ Below w.heap.size w w' := fun w => by
  have := check_any ⟨1, 1, 0, 5, 0, 0, 1, 1⟩ w; rw [ckP.1] at this; exact this
theorem ck2 : ∀ w, Calls Try.prog 17 #[.agg #[.int .i64 1, .int .i64 0, .int .i64 0, .int .i64 5, .int .i64 0, .int .i64 0, .int .i64 (-4), .int .i64 1]] w fun e w' => e = .returned (.int .i64 3) ∧ Below w.heap.size w w' := fun w => by
  have := check_any ⟨1, 0, 0, 5, 0, 0, -4, 1⟩ w; rw [ckP.2.1] at this; exact this
theorem ck3 : ∀ w, Calls Try.prog 17 #[.agg #[.int .i64 1, .int .i64 1, .int .i64 0, .int .i64 5, .int .i64 2, .int .i64 0, .int .i64 (-4), .int .i64 1]] w fun e w' => e = .returned (.int .i64 2) ∧ Below w.heap.size w w' := fun w => by
  have := check_any ⟨1, 1, 0, 5, 2, 0, -4, 1⟩ w; rw [ckP.2.2.1] at this; exact this
theorem ck4 : ∀ w, Calls Try.prog 17 #[.agg #[.int .i64 1, .int .i64 1, .int .i64 0, .int .i64 5, .int .i64 0, .int .i64 5, .int .i64 (-4), .int .i64 1]] w fun e w' => e = .returned (.int .i64 3) ∧ Below w.heap.size w w' := fun w => by
  have := check_any ⟨1, 1, 0, 5, 0, 5, -4, 1⟩ w; rw [ckP.2.2.2] at this; exact this
theorem conv_kat {W : World} {a : Option Addr} {n cap : Nat} {L : List Int} (h : KAt .u8 W (.slice a L.length cap) L) (hn : n = L.length) (h0 : 0 < n) : (convert 44 9 (.slice a n cap)).run Try.prog W = .ok (.string (strOfNums L)) W := by
  subst hn
  rcases h with ⟨_, rfl⟩ | ⟨b, off, cap', e, hc⟩
  · simp at h0
  · cases e
    refine run_convert_bytes_arg W 44 5 Try.underlying44 Try.underlying5 b off L.length cap L rfl (fun i hi => ?_) 9 Try.underlying9
    rw [hc i hi, List.getD_eq_getElem?_getD]

set_option maxRecDepth 100000 in
set_option maxHeartbeats 4000000 in
theorem walk (w : World) : Calls Try.prog 14 #[] w fun e w' => e = .returned (.bool true) ∧ Below w.heap.size w w' := by
  go_enter Try.func14, Try.ntmps14
  have bX0 : Below w.heap.size w w := Below.refl _ _
  go_wp2_with fail
  go_at_call 37; refine (A_any _).mono ?_; rintro e w1 ⟨rfl, hb1⟩
  go_wp2_with fail
  go_at_call 22; refine (t1 _).mono ?_; rintro e w2 ⟨rfl, hb2⟩
  have q : Below w.heap.size w (w2.alloc (.cells #[.int .i64 3, .int .i64 0] 25)) := (hb1.trans (hb2.mono hb1.size)).alloc (hb1.trans (hb2.mono hb1.size)).size _
  have bX1 : Below w.heap.size w (w2.alloc (.cells #[.int .i64 3, .int .i64 0] 25)) := bX0.trans (q.mono bX0.size)
  have hs1 : w2.heap.size < (w2.alloc (.cells #[.int .i64 3, .int .i64 0] 25)).heap.size := by simp
  have e1 : (w2.alloc (.cells #[.int .i64 3, .int .i64 0] 25)).heap[w2.heap.size]? = some (.cells #[.int .i64 3, .int .i64 0] 25) := alloc_new_at _ _ _ rfl
  go_wp2_with fail
  clear hb1 hb2 q bX0
  generalize w2.alloc (.cells #[.int .i64 3, .int .i64 0] 25) = X1 at *
  generalize w2.heap.size = c1 at *
  go_wp2_with fail
  go_at_call 37; refine (A_any _).mono ?_; rintro e w1 ⟨rfl, hb1⟩
  go_wp2_with fail
  go_at_call 22; refine (t2 _).mono ?_; rintro e w2 ⟨rfl, hb2⟩
  have q : Below X1.heap.size X1 (w2.alloc (.cells #[.int .i64 0, .int .i64 0] 25)) := (hb1.trans (hb2.mono hb1.size)).alloc (hb1.trans (hb2.mono hb1.size)).size _
  have bX2 : Below w.heap.size w (w2.alloc (.cells #[.int .i64 0, .int .i64 0] 25)) := bX1.trans (q.mono bX1.size)
  have hs2 : w2.heap.size < (w2.alloc (.cells #[.int .i64 0, .int .i64 0] 25)).heap.size := by simp
  have e2 : (w2.alloc (.cells #[.int .i64 0, .int .i64 0] 25)).heap[w2.heap.size]? = some (.cells #[.int .i64 0, .int .i64 0] 25) := alloc_new_at _ _ _ rfl
  have e1' := (q.block _ (lt_of_block e1)).trans e1
  clear e1
  have e1 := e1'
  clear e1'
  go_wp2_with fail
  clear hb1 hb2 q hs1 bX1
  generalize w2.alloc (.cells #[.int .i64 0, .int .i64 0] 25) = X2 at *
  generalize w2.heap.size = c2 at *
  go_wp2_with fail
  go_at_call 37; refine (A_any _).mono ?_; rintro e w1 ⟨rfl, hb1⟩
  go_wp2_with fail
  go_at_call 22; refine (t3 _).mono ?_; rintro e w2 ⟨rfl, hb2⟩
  have q : Below X2.heap.size X2 (w2.alloc (.cells #[.int .i64 (-4), .int .i64 0] 25)) := (hb1.trans (hb2.mono hb1.size)).alloc (hb1.trans (hb2.mono hb1.size)).size _
  have bX3 : Below w.heap.size w (w2.alloc (.cells #[.int .i64 (-4), .int .i64 0] 25)) := bX2.trans (q.mono bX2.size)
  have hs3 : w2.heap.size < (w2.alloc (.cells #[.int .i64 (-4), .int .i64 0] 25)).heap.size := by simp
  have e3 : (w2.alloc (.cells #[.int .i64 (-4), .int .i64 0] 25)).heap[w2.heap.size]? = some (.cells #[.int .i64 (-4), .int .i64 0] 25) := alloc_new_at _ _ _ rfl
  have e1' := (q.block _ (lt_of_block e1)).trans e1
  clear e1
  have e1 := e1'
  clear e1'
  have e2' := (q.block _ (lt_of_block e2)).trans e2
  clear e2
  have e2 := e2'
  clear e2'
  go_wp2_with fail
  clear hb1 hb2 q hs2 bX2
  generalize w2.alloc (.cells #[.int .i64 (-4), .int .i64 0] 25) = X3 at *
  generalize w2.heap.size = c3 at *
  go_wp2_with fail
  go_at_call 37; refine (A_any _).mono ?_; rintro e w1 ⟨rfl, hb1⟩
  go_wp2_with fail
  go_at_call 22; refine (t4 _).mono ?_; rintro e w2 ⟨rfl, hb2⟩
  have q : Below X3.heap.size X3 (w2.alloc (.cells #[.int .i64 0, .int .i64 1] 25)) := (hb1.trans (hb2.mono hb1.size)).alloc (hb1.trans (hb2.mono hb1.size)).size _
  have bX4 : Below w.heap.size w (w2.alloc (.cells #[.int .i64 0, .int .i64 1] 25)) := bX3.trans (q.mono bX3.size)
  have hs4 : w2.heap.size < (w2.alloc (.cells #[.int .i64 0, .int .i64 1] 25)).heap.size := by simp
  have e4 : (w2.alloc (.cells #[.int .i64 0, .int .i64 1] 25)).heap[w2.heap.size]? = some (.cells #[.int .i64 0, .int .i64 1] 25) := alloc_new_at _ _ _ rfl
  have e1' := (q.block _ (lt_of_block e1)).trans e1
  clear e1
  have e1 := e1'
  clear e1'
  have e2' := (q.block _ (lt_of_block e2)).trans e2
  clear e2
  have e2 := e2'
  clear e2'
  have e3' := (q.block _ (lt_of_block e3)).trans e3
  clear e3
  have e3 := e3'
  clear e3'
  obtain ⟨_, _, _, _⟩ := cells2 e1
  obtain ⟨_, _, _, _⟩ := cells2 e2
  obtain ⟨_, _, _, _⟩ := cells2 e3
  obtain ⟨_, _, _, _⟩ := cells2 e4
  go_wp2_with fail
  clear hb1 hb2 q hs3 bX3
  generalize w2.alloc (.cells #[.int .i64 0, .int .i64 1] 25) = X4 at *
  generalize w2.heap.size = c4 at *
  go_at_call 37; refine (A_any _).mono ?_; rintro e w1 ⟨rfl, hb1⟩
  go_wp2_with fail
  go_at_call 29; refine (nA _).mono ?_; rintro e w2 ⟨rfl, hb2⟩
  go_wp2_with fail
  go_at_call 38; refine (B_any _).mono ?_; rintro e w3 ⟨rfl, hb3⟩
  go_wp2_with fail
  go_at_call 29; refine (nB _).mono ?_; rintro e w4 ⟨rfl, hb4⟩
  go_wp2_with fail
  go_at_call 38; refine (B_any _).mono ?_; rintro e w5 ⟨rfl, hb5⟩
  go_wp2_with fail
  go_at_call 27; refine (silent_got pB 0 0 10 silB _).mono ?_; rintro e w6 ⟨sa, sc, rfl, hi6, hb6⟩
  have b5 := bX4.trans (hb1.mono bX4.size)
  have b6 := b5.trans (hb2.mono b5.size)
  have b7 := b6.trans (hb3.mono b6.size)
  have b8 := b7.trans (hb4.mono b7.size)
  have b9 := b8.trans (hb5.mono b8.size)
  have bY := b9.trans (hb6.mono b9.size)
  clear b5 b6 b7 b8 b9 bX4 hb1 hb2 hb3 hb4 hb5 hb6 e1 e2 e3 e4
  have HI6 := Lib.hid hi6
  have BY := Lib.hid bY
  clear hi6 bY
  go_wp2_with fail
  go_at_call 26
  refine (equal_259 _ _ _ _ _ (HI6.out.below (((Below.refl _ w6).alloc (Nat.le_refl _) _).alloc (by simp) _)) (intsAt_block (L := [2, 5, 9]) (alloc_new_at _ _ _ (by simp)))).mono ?_
  rintro e w7 ⟨rfl, hb7⟩
  have t7 : w7.heap[w6.heap.size]? = some (.cells #[.int .i64 1, .int .i64 1] 25) := by
    rw [hb7.block _ (by simp <;> omega), Below.heap_alloc _ _ _ (by simp)]; exact alloc_new_at _ _ _ rfl
  obtain ⟨_, _, _, _⟩ := cells2 t7
  have b7 : Below w.heap.size w w7 := ((BY.out.alloc BY.out.size _).alloc (by have := BY.out.size; simp; omega) _).trans (hb7.mono (by have := BY.out.size; simp; omega))
  clear t7 hb7 HI6
  go_wp2_with fail
  go_at_call 37; refine (A_any _).mono ?_; rintro e v1 ⟨rfl, hb1⟩
  go_wp2_with fail
  go_at_call 31; refine (cA1 _).mono ?_; rintro e v2 ⟨rfl, hb2⟩
  go_wp2_with fail
  go_at_call 37; refine (A_any _).mono ?_; rintro e v3 ⟨rfl, hb3⟩
  go_wp2_with fail
  go_at_call 31; refine (cA2 _).mono ?_; rintro e v4 ⟨rfl, hb4⟩
  go_wp2_with fail
  go_at_call 37; refine (A_any _).mono ?_; rintro e v5 ⟨rfl, hb5⟩
  go_wp2_with fail
  go_at_call 33; refine (pkA _).mono ?_; rintro e v6 ⟨pa, pc, rfl, hk6, hb6⟩
  have b8 := b7.trans (hb1.mono b7.size)
  have b9 := b8.trans (hb2.mono b8.size)
  have b10 := b9.trans (hb3.mono b9.size)
  have b11 := b10.trans (hb4.mono b10.size)
  have b12 := b11.trans (hb5.mono b11.size)
  have b13 := b12.trans (hb6.mono b12.size)
  clear b7 b8 b9 b10 b11 b12 hb1 hb2 hb3 hb4 hb5 hb6
  have B13 := Lib.hid b13
  have HK6 := Lib.hid hk6
  clear b13 hk6
  go_wp2_with fail
  go_at_call 37; refine (A_any _).mono ?_; rintro e y1 ⟨rfl, hb1⟩
  go_wp2_with fail
  go_at_call 37; refine (A_any _).mono ?_; rintro e y2 ⟨rfl, hb2⟩
  go_wp2_with fail
  go_at_call 37; refine (A_any _).mono ?_; rintro e y3 ⟨rfl, hb3⟩
  go_wp2_with fail
  go_at_call 37; refine (A_any _).mono ?_; rintro e y4 ⟨rfl, hb4⟩
  go_wp2_with fail
  have b14 := B13.out.trans (hb1.mono B13.out.size)
  have b15 := b14.trans (hb2.mono b14.size)
  have b16 := b15.trans (hb3.mono b15.size)
  have b17 := b16.trans (hb4.mono b16.size)
  have q4 : Below v6.heap.size v6 y4 := ((hb1.trans (hb2.mono hb1.size)).trans (hb3.mono (by have := hb1.size; have := hb2.size; omega))).trans (hb4.mono (by have := hb1.size; have := hb2.size; have := hb3.size; omega))
  have hz : v6.heap.size ≤ y4.heap.size := q4.size
  have hzw : w.heap.size ≤ y4.heap.size := b17.size
  have qz : Below v6.heap.size v6 ((((y4.alloc (.cells #[.int .i64 1, .int .i64 1, .int .i64 0, .int .i64 5, .int .i64 0, .int .i64 0, .int .i64 1, .int .i64 1] 23)).alloc (.cells #[.int .i64 1, .int .i64 0, .int .i64 0, .int .i64 5, .int .i64 0, .int .i64 0, .int .i64 (-4), .int .i64 1] 23)).alloc (.cells #[.int .i64 1, .int .i64 1, .int .i64 0, .int .i64 5, .int .i64 2, .int .i64 0, .int .i64 (-4), .int .i64 1] 23)).alloc (.cells #[.int .i64 1, .int .i64 1, .int .i64 0, .int .i64 5, .int .i64 0, .int .i64 5, .int .i64 (-4), .int .i64 1] 23)) := (((q4.alloc (by omega) _).alloc (by simp; omega) _).alloc (by simp; omega) _).alloc (by simp; omega) _
  have bz : Below w.heap.size w ((((y4.alloc (.cells #[.int .i64 1, .int .i64 1, .int .i64 0, .int .i64 5, .int .i64 0, .int .i64 0, .int .i64 1, .int .i64 1] 23)).alloc (.cells #[.int .i64 1, .int .i64 0, .int .i64 0, .int .i64 5, .int .i64 0, .int .i64 0, .int .i64 (-4), .int .i64 1] 23)).alloc (.cells #[.int .i64 1, .int .i64 1, .int .i64 0, .int .i64 5, .int .i64 2, .int .i64 0, .int .i64 (-4), .int .i64 1] 23)).alloc (.cells #[.int .i64 1, .int .i64 1, .int .i64 0, .int .i64 5, .int .i64 0, .int .i64 5, .int .i64 (-4), .int .i64 1] 23)) := (((b17.alloc (by omega) _).alloc (by simp; omega) _).alloc (by simp; omega) _).alloc (by simp; omega) _
  have z1 : ((((y4.alloc (.cells #[.int .i64 1, .int .i64 1, .int .i64 0, .int .i64 5, .int .i64 0, .int .i64 0, .int .i64 1, .int .i64 1] 23)).alloc (.cells #[.int .i64 1, .int .i64 0, .int .i64 0, .int .i64 5, .int .i64 0, .int .i64 0, .int .i64 (-4), .int .i64 1] 23)).alloc (.cells #[.int .i64 1, .int .i64 1, .int .i64 0, .int .i64 5, .int .i64 2, .int .i64 0, .int .i64 (-4), .int .i64 1] 23)).alloc (.cells #[.int .i64 1, .int .i64 1, .int .i64 0, .int .i64 5, .int .i64 0, .int .i64 5, .int .i64 (-4), .int .i64 1] 23)).heap[y4.heap.size]? = some (.cells #[.int .i64 1, .int .i64 1, .int .i64 0, .int .i64 5, .int .i64 0, .int .i64 0, .int .i64 1, .int .i64 1] 23) := by
    rw [Below.heap_alloc _ _ _ (by simp <;> omega), Below.heap_alloc _ _ _ (by simp <;> omega), Below.heap_alloc _ _ _ (by simp <;> omega)]; exact alloc_new_at _ _ _ rfl
  have z2 : ((((y4.alloc (.cells #[.int .i64 1, .int .i64 1, .int .i64 0, .int .i64 5, .int .i64 0, .int .i64 0, .int .i64 1, .int .i64 1] 23)).alloc (.cells #[.int .i64 1, .int .i64 0, .int .i64 0, .int .i64 5, .int .i64 0, .int .i64 0, .int .i64 (-4), .int .i64 1] 23)).alloc (.cells #[.int .i64 1, .int .i64 1, .int .i64 0, .int .i64 5, .int .i64 2, .int .i64 0, .int .i64 (-4), .int .i64 1] 23)).alloc (.cells #[.int .i64 1, .int .i64 1, .int .i64 0, .int .i64 5, .int .i64 0, .int .i64 5, .int .i64 (-4), .int .i64 1] 23)).heap[y4.heap.size + 1]? = some (.cells #[.int .i64 1, .int .i64 0, .int .i64 0, .int .i64 5, .int .i64 0, .int .i64 0, .int .i64 (-4), .int .i64 1] 23) := by
    rw [Below.heap_alloc _ _ _ (by simp <;> omega), Below.heap_alloc _ _ _ (by simp <;> omega)]; exact alloc_new_at _ _ _ (by simp)
  have z3 : ((((y4.alloc (.cells #[.int .i64 1, .int .i64 1, .int .i64 0, .int .i64 5, .int .i64 0, .int .i64 0, .int .i64 1, .int .i64 1] 23)).alloc (.cells #[.int .i64 1, .int .i64 0, .int .i64 0, .int .i64 5, .int .i64 0, .int .i64 0, .int .i64 (-4), .int .i64 1] 23)).alloc (.cells #[.int .i64 1, .int .i64 1, .int .i64 0, .int .i64 5, .int .i64 2, .int .i64 0, .int .i64 (-4), .int .i64 1] 23)).alloc (.cells #[.int .i64 1, .int .i64 1, .int .i64 0, .int .i64 5, .int .i64 0, .int .i64 5, .int .i64 (-4), .int .i64 1] 23)).heap[y4.heap.size + 1 + 1]? = some (.cells #[.int .i64 1, .int .i64 1, .int .i64 0, .int .i64 5, .int .i64 2, .int .i64 0, .int .i64 (-4), .int .i64 1] 23) := by
    rw [Below.heap_alloc _ _ _ (by simp <;> omega)]; exact alloc_new_at _ _ _ (by simp)
  have z4 : ((((y4.alloc (.cells #[.int .i64 1, .int .i64 1, .int .i64 0, .int .i64 5, .int .i64 0, .int .i64 0, .int .i64 1, .int .i64 1] 23)).alloc (.cells #[.int .i64 1, .int .i64 0, .int .i64 0, .int .i64 5, .int .i64 0, .int .i64 0, .int .i64 (-4), .int .i64 1] 23)).alloc (.cells #[.int .i64 1, .int .i64 1, .int .i64 0, .int .i64 5, .int .i64 2, .int .i64 0, .int .i64 (-4), .int .i64 1] 23)).alloc (.cells #[.int .i64 1, .int .i64 1, .int .i64 0, .int .i64 5, .int .i64 0, .int .i64 5, .int .i64 (-4), .int .i64 1] 23)).heap[y4.heap.size + 1 + 1 + 1]? = some (.cells #[.int .i64 1, .int .i64 1, .int .i64 0, .int .i64 5, .int .i64 0, .int .i64 5, .int .i64 (-4), .int .i64 1] 23) := alloc_new_at _ _ _ (by simp)
  have kz := HK6.out.below qz
  clear b14 b15 b16 b17 q4 hb1 hb2 hb3 hb4 qz hz hzw
  generalize (((y4.alloc (.cells #[.int .i64 1, .int .i64 1, .int .i64 0, .int .i64 5, .int .i64 0, .int .i64 0, .int .i64 1, .int .i64 1] 23)).alloc (.cells #[.int .i64 1, .int .i64 0, .int .i64 0, .int .i64 5, .int .i64 0, .int .i64 0, .int .i64 (-4), .int .i64 1] 23)).alloc (.cells #[.int .i64 1, .int .i64 1, .int .i64 0, .int .i64 5, .int .i64 2, .int .i64 0, .int .i64 (-4), .int .i64 1] 23)).alloc (.cells #[.int .i64 1, .int .i64 1, .int .i64 0, .int .i64 5, .int .i64 0, .int .i64 5, .int .i64 (-4), .int .i64 1] 23) = Z at *
  have hcv := conv_kat (n := 17) (L := packA) kz rfl (by decide)
  obtain ⟨_, _, _, _, _, _, _, _⟩ := cells8 z1
  obtain ⟨_, _, _, _, _, _, _, _⟩ := cells8 z2
  obtain ⟨_, _, _, _, _, _, _, _⟩ := cells8 z3
  obtain ⟨_, _, _, _, _, _, _, _⟩ := cells8 z4
  have Z1 := Lib.hid z1
  have Z2 := Lib.hid z2
  have Z3 := Lib.hid z3
  have Z4 := Lib.hid z4
  have BZ := Lib.hid bz
  clear z1 z2 z3 z4 bz kz
  go_simp
  go_wp2_with fail
  have qz : Below Z.heap.size Z (Z.alloc (.cells #[.int .u8 1, .int .u8 0, .int .u8 0, .int .u8 1, .int .u8 0, .int .u8 0, .int .u8 0, .int .u8 0, .int .u8 0, .int .u8 5, .int .u8 0, .int .u8 0, .int .u8 0, .int .u8 255, .int .u8 255, .int .u8 252, .int .u8 1] 5)) := (Below.refl _ _).alloc (Nat.le_refl _) _
  have kz : KAt .u8 (Z.alloc (.cells #[.int .u8 1, .int .u8 0, .int .u8 0, .int .u8 1, .int .u8 0, .int .u8 0, .int .u8 0, .int .u8 0, .int .u8 0, .int .u8 5, .int .u8 0, .int .u8 0, .int .u8 0, .int .u8 255, .int .u8 255, .int .u8 252, .int .u8 1] 5)) (.slice (some ⟨Z.heap.size, 0, none⟩) 17 17) packA := by
    refine Or.inr ⟨_, 0, 17, rfl, fun j hj => ?_⟩
    have hb := alloc_new_at Z (.cells #[.int .u8 1, .int .u8 0, .int .u8 0, .int .u8 1, .int .u8 0, .int .u8 0, .int .u8 0, .int .u8 0, .int .u8 0, .int .u8 5, .int .u8 0, .int .u8 0, .int .u8 0, .int .u8 255, .int .u8 255, .int .u8 252, .int .u8 1] 5) _ rfl
    have : ∀ j, j < 17 → (#[.int .u8 1, .int .u8 0, .int .u8 0, .int .u8 1, .int .u8 0, .int .u8 0, .int .u8 0, .int .u8 0, .int .u8 0, .int .u8 5, .int .u8 0, .int .u8 0, .int .u8 0, .int .u8 255, .int .u8 255, .int .u8 252, .int .u8 1] : Array Value)[j]? = some (.int .u8 (packA[j]?.getD 0)) := fun j hj => by
      have hc : j = 0 ∨ j = 1 ∨ j = 2 ∨ j = 3 ∨ j = 4 ∨ j = 5 ∨ j = 6 ∨ j = 7 ∨ j = 8 ∨ j = 9 ∨ j = 10 ∨ j = 11 ∨ j = 12 ∨ j = 13 ∨ j = 14 ∨ j = 15 ∨ j = 16 := by omega
      rcases hc with rfl | rfl | rfl | rfl | rfl | rfl | rfl | rfl | rfl | rfl | rfl | rfl | rfl | rfl | rfl | rfl | rfl <;> rfl
    rw [Nat.zero_add]
    unfold World.cell?
    rw [hb]
    exact this j hj
  have bz : Below w.heap.size w (Z.alloc (.cells #[.int .u8 1, .int .u8 0, .int .u8 0, .int .u8 1, .int .u8 0, .int .u8 0, .int .u8 0, .int .u8 0, .int .u8 0, .int .u8 5, .int .u8 0, .int .u8 0, .int .u8 0, .int .u8 255, .int .u8 255, .int .u8 252, .int .u8 1] 5)) := BZ.out.alloc BZ.out.size _
  have z1 := (qz.block _ (lt_of_block Z1.out)).trans Z1.out
  have z2 := (qz.block _ (lt_of_block Z2.out)).trans Z2.out
  have z3 := (qz.block _ (lt_of_block Z3.out)).trans Z3.out
  have z4 := (qz.block _ (lt_of_block Z4.out)).trans Z4.out
  clear qz
  generalize Z.alloc (.cells #[.int .u8 1, .int .u8 0, .int .u8 0, .int .u8 1, .int .u8 0, .int .u8 0, .int .u8 0, .int .u8 0, .int .u8 0, .int .u8 5, .int .u8 0, .int .u8 0, .int .u8 0, .int .u8 255, .int .u8 255, .int .u8 252, .int .u8 1] 5) = Y at *
  have hcv2 := conv_kat (n := 17) (L := packA) kz rfl (by decide)
  obtain ⟨_, _, _, _, _, _, _, _⟩ := cells8 z1
  have Y1 := Lib.hid z1
  have Y2 := Lib.hid z2
  have Y3 := Lib.hid z3
  have Y4 := Lib.hid z4
  have BY2 := Lib.hid bz
  clear z1 z2 z3 z4 bz kz
  go_simp
  go_wp2_with fail
  go_at_call 17; refine (ck1 _).mono ?_; rintro e x1 ⟨rfl, hb1⟩
  obtain ⟨_, _, _, _, _, _, _, _⟩ := cells8 ((hb1.block _ (lt_of_block Y2.out)).trans Y2.out)
  have y3 := (hb1.block _ (lt_of_block Y3.out)).trans Y3.out
  have y4 := (hb1.block _ (lt_of_block Y4.out)).trans Y4.out
  have bx1 := BY2.out.trans (hb1.mono BY2.out.size)
  have Y3' := Lib.hid y3
  have Y4' := Lib.hid y4
  have BX1 := Lib.hid bx1
  clear hb1 y3 y4 bx1
  go_wp2_with fail
  go_at_call 17; refine (ck2 _).mono ?_; rintro e x2 ⟨rfl, hb1⟩
  obtain ⟨_, _, _, _, _, _, _, _⟩ := cells8 ((hb1.block _ (lt_of_block Y3'.out)).trans Y3'.out)
  have y4 := (hb1.block _ (lt_of_block Y4'.out)).trans Y4'.out
  have bx1 := BX1.out.trans (hb1.mono BX1.out.size)
  have Y4'' := Lib.hid y4
  have BX2 := Lib.hid bx1
  clear hb1 y4 bx1
  go_wp2_with fail
  go_at_call 17; refine (ck3 _).mono ?_; rintro e x3 ⟨rfl, hb1⟩
  obtain ⟨_, _, _, _, _, _, _, _⟩ := cells8 ((hb1.block _ (lt_of_block Y4''.out)).trans Y4''.out)
  have bx1 := BX2.out.trans (hb1.mono BX2.out.size)
  have BX3 := Lib.hid bx1
  clear hb1 bx1
  go_wp2_with fail
  go_at_call 17; refine (ck4 _).mono ?_; rintro e x4 ⟨rfl, hb1⟩
  have bx1 := BX3.out.trans (hb1.mono BX3.out.size)
  have BX4 := Lib.hid bx1
  clear hb1 bx1
  go_wp2_with fail
  go_at_call 21; refine (works_any _).mono ?_; rintro e x5 ⟨rfl, hb1⟩
  have bx1 := BX4.out.trans (hb1.mono BX4.out.size)
  have BX5 := Lib.hid bx1
  clear hb1 bx1
  go_wp2_with fail
  go_ret
  exact ⟨rfl, BX5.out⟩

set_option maxRecDepth 100000 in
theorem lifted (os : Os) (started : os.Started) (H : Type) (enc : TypeId × Value → H) :
    ReturnsInHanded {} Try.checked os 14 .any (Rows.neuronKnownSpec.pre6 enc Try.prog Try.f14 Rows.neuronKnownRow.domain false) (Rows.neuronKnownSpec.post enc Try.prog Try.f14 false true false false) := by
  refine returnsInHanded_of_change (C := Try.checked) own started (by kernel_rfl) Try.func14
    (ChangeSpec.witness6 (enc := enc) (C := Try.checked) false ⟨#[], #[], []⟩ 8 (by kernel_rfl) (by kernel_rfl) (by kernel_rfl) (by kernel_rfl)) ?_
  intro W base args ds gs before hval0 hW hcnd hsz
  have hval : ∀ (j : Nat) t v, Try.f14.params[j]? = some t → args[j]? = some v → Value.okWide Try.prog W .any base t v := hval0
  have hW' := hW
  obtain ⟨p, q, hA0, hV, rfl, hfz, hnd⟩ := hW
  have hA : DataW.TrodAll enc Try.prog W 0 (fun _ => true) true Try.f14.params.toList args.toList ds p := hA0
  rw [Try.params14] at hA hval
  have hAll := hA
  obtain ⟨hargs, rfl, rfl⟩ := trodAll_nil hA
  obtain rfl : args = #[] := by cases args; simp_all
  obtain ⟨rfl, rfl⟩ := trodVars_none hV
  clear hA0 hval0
  refine (walk  W ).mono fun e W' ⟨he, bel⟩ => ?_
  subst he
  have hback := trodAll_below bel [] (by intro t ht; simp at ht) hAll
  exact ⟨_, rfl, _, _, _, [], _, [], hW', trodAll_mk1 (shut_bool Try.underlying4 _), hback, rfl, bel.frame _, fun h => by cases h⟩

theorem over : Rows.neuronKnownRow.holds Try.pinned (OpenSpec.ofChange Rows.neuronKnownSpec) :=
  OpenClaim.holds_of_wide 14 Try.f14 rfl rfl rfl rfl rfl rfl rfl ⟨rfl, rfl, rfl, rfl, rfl⟩ rfl rfl rfl rfl rfl (by kernel_rfl) Try.func14 (by kernel_rfl)
    (of_decide_eq_true (by kernel_rfl)) (by unfold Func.isWrapper; first | (rw [if_pos (by decide +kernel)]; kernel_rfl) | (rw [if_neg (by decide +kernel)]; exact ⟨rfl, rfl⟩))
    (fun os started H enc _ => lifted os started H enc)

theorem proved : Rows.NeuronKnownSaid := over

end Go.Proofs.Ytkpabecnimakpaa.neuronKnown
