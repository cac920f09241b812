/- For every neuron, state and list of inputs the law NeuronStates returns true. No condition. -/
import Derived.Test.YtkpabecnimakpaaP
namespace Go.Proofs.Ytkpabecnimakpaa.neuronStates
open Go.ChangeShapes Go.WideShapes Go.ChangeAt Go.RowKit
set_option linter.unusedVariables false


set_option maxRecDepth 100000 in
set_option maxHeartbeats 2000000 in
theorem out (p : Prm) (V R : Int) (a : Option Addr) (n cap : Nat) (hs : 2000 < n ∨ n ≤ 2000 ∧ validP p V R ≠ 0) (w : World) :
    Calls Try.prog 9 #[.agg #[.int .i64 p.lk, .int .i64 p.lv, .int .i64 p.bi, .int .i64 p.th, .int .i64 p.rk, .int .i64 p.rs, .int .i64 p.fl, .int .i64 p.re], .agg #[.int .i64 V, .int .i64 R], .slice a n cap] w fun e w' => e = .returned (.bool true) ∧ Below w.heap.size w w' := by
  have hcase : ((2000 : Int) < (n : Int)) = True ∨ ((2000 : Int) < (n : Int)) = False ∧ (validP p V R != 0) = true := by
    rcases hs with h | ⟨h, h1⟩
    · left; simp; omega
    · right; refine ⟨?_, ?_⟩
      · simp; omega
      · simp [h1]
  clear hs
  rcases hcase with g1 | ⟨g1, g2⟩
  · go_enter Try.func9, Try.ntmps9
    go_wp2_with (go_at_call 21; refine (works_any _).mono ?_; rintro e w4 ⟨rfl, hb4⟩)
    go_ret
    refine ⟨rfl, ?_⟩
    (focus (first | (exact Below.refl _ _) | ((repeat (first | exact Below.refl _ _ | refine below_drewN ?_ _ | refine Below.drew ?_ | refine Below.alloc ?_ ?_ _ | refine Below.setCell ?_ ?_ _ | refine Below.trans ?_ (Below.mono (by assumption) ?_))); all_goals (first | omega | (simp; done) | (simp; omega)))))
  · go_enter Try.func9, Try.ntmps9
    go_wp2_with fail
    go_at_call 19
    refine (valid_any p V R _).mono ?_
    rintro e w1 ⟨rfl, hb1⟩
    obtain ⟨hc1, hf1⟩ := bcell hb1
    have hz1 : w.heap.size + 1 < w1.heap.size := by have := hb1.size; simp at this; omega
    have hz1a : w.heap.size < w1.heap.size := by omega
    go_wp2_with (go_at_call 21; refine (works_any _).mono ?_; rintro e w4 ⟨rfl, hb4⟩)
    go_ret
    refine ⟨rfl, ?_⟩
    (focus (first | (exact Below.refl _ _) | ((repeat (first | exact Below.refl _ _ | refine below_drewN ?_ _ | refine Below.drew ?_ | refine Below.alloc ?_ ?_ _ | refine Below.setCell ?_ ?_ _ | refine Below.trans ?_ (Below.mono (by assumption) ?_))); all_goals (first | omega | (simp; done) | (simp; omega)))))

/-- Nothing of W has turned in A, the block s apart. -/
def KeepBut (s : Nat) (W A : World) : Prop := A.os = W.os ∧ A.tape = W.tape ∧ A.output = W.output ∧ W.heap.size ≤ A.heap.size ∧ ∀ g, g ≠ s → g < W.heap.size → A.heap[g]? = W.heap[g]?
theorem KeepBut.cell {s : Nat} {W A : World} (h : KeepBut s W A) {b o : Nat} {x : Value} (hb : b ≠ s) (hc : W.cell? ⟨b, o, none⟩ = some x) : A.cell? ⟨b, o, none⟩ = some x := by
  rw [← hc]; exact World.cell?_of_block (h.2.2.2.2 b hb (World.block_lt_of_cell? W _ hc))

theorem states_step {s : Nat} {w3 wr w6 A : World} {A0 B0 T S : Int} (hK : KeepBut s w3 wr) (q : Below wr.heap.size wr w6) (hS : StAt A0 B0 s wr) (h1 : A.heap = ((w6.setCell ⟨s, 0, none⟩ (.int .i64 T)).setCell ⟨s, 1, none⟩ (.int .i64 S)).heap) (h2 : A.os = w6.os) (h3 : A.tape = w6.tape) (h4 : A.output = w6.output) : KeepBut s w3 A ∧ StAt T S s A := by
  have hs := lt_of_block hS
  have hsz : A.heap.size = w6.heap.size := by rw [h1]; simp [World.setCell]
  have hq := q.size
  obtain ⟨k1, k2, k3, k4, k5⟩ := hK
  refine ⟨⟨h2.trans (q.os.trans k1), h3.trans (q.tape.trans k2), h4.trans (q.output.trans k3), by omega, fun g hg hl => ?_⟩, ?_⟩
  · rw [h1, Below.heap_setCell _ _ _ _ (by exact hg), Below.heap_setCell _ _ _ _ (by exact hg), q.block _ (by omega)]; exact k5 g hg hl
  · unfold StAt; rw [h1]; exact set2_1 (set2_0 ((q.block _ hs).trans hS) _) _

/-- Run's result where there is no error: the list lies in a block of its own. -/
theorem run_own (p : Prm) (V R : Int) (hv : validP p V R = 0) (a : Option Addr) (cap : Nat) (zs : List Int) (hlen : zs.length ≤ 10000) (L : List Int) (hL : L = spkL (runL p V R zs) zs.length) (X Y : Int) (hXY : after p V R zs = (X, Y)) (w : World) (hI : IntsAt w (.slice a zs.length cap) zs) :
    Calls Try.prog 24 #[.agg #[.int .i64 p.lk, .int .i64 p.lv, .int .i64 p.bi, .int .i64 p.th, .int .i64 p.rk, .int .i64 p.rs, .int .i64 p.fl, .int .i64 p.re], .agg #[.int .i64 V, .int .i64 R], .slice a zs.length cap] w fun e w' =>
      ∃ a1 c1, e = .returned (.tuple #[.slice a1 L.length c1, .agg #[.int .i64 X, .int .i64 Y], .int .i64 0]) ∧ (∀ k, k < L.length → ∃ b off, a1 = some ⟨b, off, none⟩ ∧ w.heap.size ≤ b ∧ w'.cell? ⟨b, off + k, none⟩ = some (.int .i64 (L[k]?.getD 0))) ∧ Below w.heap.size w w' := by
  refine (run_ok p V R hv a cap zs hlen w hI).mono ?_
  rintro e w' ⟨v, rfl, ho, hb⟩
  rw [← hL] at ho
  rw [hXY]
  have hi := intsAt_of_owns ho
  obtain ⟨a1, c1, rfl⟩ := hi.len
  refine ⟨a1, c1, rfl, fun k hk => ?_, hb⟩
  obtain ⟨b, off, rfl, hc⟩ := intsAt_cell hi k hk
  exact ⟨b, off, rfl, (ho.lt b rfl).1, hc⟩

set_option maxRecDepth 100000 in
set_option maxHeartbeats 4000000 in
theorem ok (p : Prm) (V R : Int) (a : Option Addr) (n cap : Nat) (zs : List Int) (hn : n = zs.length) (h1 : n ≤ 2000) (hv : validP p V R = 0) (w : World) (hI : IntsAt w (.slice a n cap) zs) :
    Calls Try.prog 9 #[.agg #[.int .i64 p.lk, .int .i64 p.lv, .int .i64 p.bi, .int .i64 p.th, .int .i64 p.rk, .int .i64 p.rs, .int .i64 p.fl, .int .i64 p.re], .agg #[.int .i64 V, .int .i64 R], .slice a n cap] w fun e w' => e = .returned (.bool true) ∧ Below w.heap.size w w' := by
  have g1 : ((2000 : Int) < (n : Int)) = False := by simp; omega
  have g2 : (validP p V R != 0) = false := by simp [hv]
  obtain ⟨L, hL⟩ : ∃ L, L = spkL (runL p V R zs) zs.length := ⟨_, rfl⟩
  obtain ⟨X, Y, hXY⟩ : ∃ X Y, after p V R zs = (X, Y) := ⟨_, _, rfl⟩
  obtain ⟨ℓ, hℓ⟩ : ∃ ℓ, ℓ = L.length := ⟨_, rfl⟩
  have hℓn : ℓ ≤ n := by rw [hℓ, hL, hn]; exact spkL_le _ _
  have hvE : validP p X Y = 0 := by
    obtain ⟨hok, k1, k2, k3, k4⟩ := ok_of_valid hv
    have := after_valid hok k1 k2 k3 k4 zs
    rw [hXY] at this
    have hck : checkP p = 0 := by
      unfold validP at hv; split at hv
      · assumption
      · omega
    unfold validP; rw [if_pos hck, if_pos]; simp [inR, this]
  have g3 : (validP p X Y != 0) = false := by simp [hvE]
  have hrun : ∀ w1, Below w.heap.size w w1 → Calls Try.prog 24 #[.agg #[.int .i64 p.lk, .int .i64 p.lv, .int .i64 p.bi, .int .i64 p.th, .int .i64 p.rk, .int .i64 p.rs, .int .i64 p.fl, .int .i64 p.re], .agg #[.int .i64 V, .int .i64 R], .slice a n cap] w1 fun e w' =>
      ∃ a1 c1, e = .returned (.tuple #[.slice a1 ℓ c1, .agg #[.int .i64 X, .int .i64 Y], .int .i64 0]) ∧ (∀ k, k < ℓ → ∃ b off, a1 = some ⟨b, off, none⟩ ∧ w1.heap.size ≤ b ∧ w'.cell? ⟨b, off + k, none⟩ = some (.int .i64 (L[k]?.getD 0))) ∧ Below w1.heap.size w1 w' := fun w1 hb => by
    rw [hn, hℓ]; rw [hn] at hI; exact run_own p V R hv a cap zs (by omega) L hL X Y hXY w1 (hI.below hb)
  have hround := fun t i => states_round p V R zs hv t i
  have HRUN := Lib.hid hrun
  have HROUND := Lib.hid hround
  have HL := Lib.hid hL
  have HXY := Lib.hid hXY
  have HLL := Lib.hid hℓ
  have HN := Lib.hid hn
  have HI := Lib.hid hI
  clear hrun hround hL hXY hℓ hn hI hv hvE
  · go_enter Try.func9, Try.ntmps9
    go_wp2_with fail
    go_at_call 19
    refine (valid_any p V R _).mono ?_
    rintro e w1 ⟨rfl, hb1⟩
    obtain ⟨hc1, hf1⟩ := bcell hb1
    have hz1 : w.heap.size + 1 < w1.heap.size := by have := hb1.size; simp at this; omega
    have hz1a : w.heap.size < w1.heap.size := by omega
    have q1 : Below w.heap.size w w1 := by
      (focus (first | (exact Below.refl _ _) | ((repeat (first | exact Below.refl _ _ | refine below_drewN ?_ _ | refine Below.drew ?_ | refine Below.alloc ?_ ?_ _ | refine Below.setCell ?_ ?_ _ | refine Below.trans ?_ (Below.mono (by assumption) ?_))); all_goals (first | omega | (simp; done) | (simp; omega)))))
    have pA : PrmAt p w.heap.size w1 := by
      unfold PrmAt; rw [hb1.block _ (by simp <;> omega), Below.heap_alloc _ _ _ (by simp <;> omega)]; exact alloc_new_at _ _ _ rfl
    have sA : StAt V R (w.heap.size + 1) w1 := by
      unfold StAt; rw [hb1.block _ (by simp <;> omega)]; exact alloc_new_at _ _ _ (by simp)
    have Q1 := Lib.hid q1
    have PA := Lib.hid pA
    have SA := Lib.hid sA
    clear q1 pA sA
    go_wp2_with fail
    go_at_call 24
    refine (HRUN.out _ Q1.out).mono ?_
    rintro e w2 ⟨a1, c1, rfl, hL1, hb2⟩
    obtain ⟨hc2, hf2⟩ := bcell hb2
    have hz2 : w1.heap.size ≤ w2.heap.size := hb2.size
    have hz2a : w.heap.size < w2.heap.size := by omega
    have hz2b : w.heap.size + 1 < w2.heap.size := by omega
    have HL1 := Lib.hid hL1
    clear hL1
    go_wp2_with fail
    go_at_call 19
    refine (valid_any p X Y _).mono ?_
    rintro e w3 ⟨rfl, hb3⟩
    have hz3 : w2.heap.size < w3.heap.size := by have := hb3.size; simp at this; omega
    have q3 : Below w1.heap.size w1 w3 := by
      (focus (first | (exact Below.refl _ _) | ((repeat (first | exact Below.refl _ _ | refine below_drewN ?_ _ | refine Below.drew ?_ | refine Below.alloc ?_ ?_ _ | refine Below.setCell ?_ ?_ _ | refine Below.trans ?_ (Below.mono (by assumption) ?_))); all_goals (first | omega | (simp; done) | (simp; omega)))))
    have e3 : StAt X Y w2.heap.size w3 := by
      unfold StAt; rw [hb3.block _ (by simp)]; exact alloc_new_at _ _ _ rfl
    have hL3 : ∀ k, k < ℓ → ∃ b off, a1 = some ⟨b, off, none⟩ ∧ w1.heap.size ≤ b ∧ w3.cell? ⟨b, off + k, none⟩ = some (.int .i64 (L[k]?.getD 0)) := fun k hk => by
      obtain ⟨b, off, h1, h2, h3⟩ := HL1.out k hk
      refine ⟨b, off, h1, h2, ?_⟩
      have hlt : b < w2.heap.size := World.block_lt_of_cell? w2 _ h3
      rw [← h3]
      exact World.cell?_of_block (by rw [hb3.block _ (by simp; omega), Below.heap_alloc _ _ _ (by omega)])
    have Q3 := Lib.hid q3
    have E3 := Lib.hid e3
    have HL3 := Lib.hid hL3
    clear q3 e3 hL3 hb1 hb2 hb3 hc1 hf1 hc2 hf2
    go_wp2_with fail
    clear g2 g3
    go_loopw [10, 11] (fun s10 s11 wr => ∃ t : Nat, t ≤ n ∧ s10 = .int .i64 (((spkL (runL p V R zs) t).length : Nat) : Int) ∧ s11 = .int .i64 t ∧ KeepBut (w.heap.size + 1) w3 wr ∧ StAt (after p V R (zs.take t)).1 (after p V R (zs.take t)).2 (w.heap.size + 1) wr) (fun _ s11 _ => n - (intOf s11).toNat)
    case atStart => exact ⟨0, Nat.zero_le _, by simp [spkL], rfl, ⟨rfl, rfl, rfl, Nat.le_refl _, fun _ _ _ => rfl⟩, (Q3.out.block _ (by omega)).trans SA.out⟩
    case round =>
      obtain ⟨t, ht, hs10, rfl, hK, hS⟩ := hrel
      have hPw : PrmAt p w.heap.size wr := (hK.2.2.2.2 _ (by omega) (by omega)).trans ((Q3.out.block _ (by omega)).trans PA.out)
      have hEw : StAt X Y w2.heap.size wr := (hK.2.2.2.2 _ (by omega) (by omega)).trans E3.out
      have hz4 : w3.heap.size ≤ wr.heap.size := hK.2.2.2.1
      have hLw : ∀ k, k < ℓ → ∃ b off, a1 = some ⟨b, off, none⟩ ∧ b < wr.heap.size ∧ wr.cell? ⟨b, off + k, none⟩ = some (.int .i64 (L[k]?.getD 0)) := fun k hk => by
        obtain ⟨b, off, h1, h2, h3⟩ := HL3.out k hk
        have h4 : b < w3.heap.size := World.block_lt_of_cell? w3 _ h3
        exact ⟨b, off, h1, by omega, hK.cell (by omega) h3⟩
      by_cases hlt : t < n
      · obtain ⟨i, hi⟩ : ∃ i, zs[t]? = some i := ⟨_, getD_take zs t (by rw [← HN.out]; exact hlt)⟩
        obtain ⟨A, B, k, Lx, hAB, hk, hLx, v1, v2, hkt, hnext, hor⟩ := HROUND.out t i hi
        rw [← hk] at hs10
        subst hs10
        rw [hAB] at hS
        rw [← HL.out] at hLx
        have hLx' := hLx.symm
        clear hLx
        subst hLx'
        obtain ⟨bx, ox, rfl, hcx⟩ := intsAt_cell HI.out t (by rw [← HN.out]; exact hlt)
        rw [hi] at hcx
        have hbx : bx < w.heap.size := World.block_lt_of_cell? w _ hcx
        have hcx' : wr.cell? ⟨bx, ox + t, none⟩ = some (.int .i64 i) := hK.cell (by omega) (((Q1.out.trans (Q3.out.mono Q1.out.size)).cell (p := ⟨bx, ox + t, none⟩) hbx).trans hcx)
        have hi0 : (0 : Int) ≤ (t : Int) := Int.natCast_nonneg _
        have hi1 : (t : Int) < (n : Int) := by omega
        have K1 := Lib.hid (tick_ok p A B i v1)
        obtain ⟨T, hT⟩ : ∃ T, T = tV p A B i := ⟨_, rfl⟩
        obtain ⟨S, hSS⟩ : ∃ S, S = tR p A B i := ⟨_, rfl⟩
        obtain ⟨sp, hsp⟩ : ∃ sp, sp = tS p A B i := ⟨_, rfl⟩
        rw [← hT, ← hSS, ← hsp] at K1
        rw [← hT, ← hSS] at hnext v2
        rw [← hsp] at hor
        obtain ⟨_, _, _, _, _, _, _, _⟩ := cells8 hPw
        obtain ⟨_, _, _, _⟩ := cells2 hS
        have hl1 : w.heap.size + 1 < wr.heap.size := lt_of_block hS
        have hl0 : w.heap.size < wr.heap.size := by omega
        have HPw := Lib.hid hPw
        have HEw := Lib.hid hEw
        have HLw := Lib.hid hLw
        have HS := Lib.hid hS
        have HK := Lib.hid hK
        have HK' := Lib.hid hk
        have HNX := Lib.hid hnext
        have HOR := Lib.hid hor
        have HV2 := Lib.hid v2
        clear hPw hEw hLw hS hK hk hnext hor v1 v2 hT hSS hsp hi hAB hcx
        go_wp2_with fail
        go_region_held3 (fun w' => w'.cell? ⟨w.heap.size, 0, none⟩ = some (.int .i64 p.lk) ∧ w'.cell? ⟨w.heap.size, 1, none⟩ = some (.int .i64 p.lv) ∧ w'.cell? ⟨w.heap.size, 2, none⟩ = some (.int .i64 p.bi) ∧ w'.cell? ⟨w.heap.size, 3, none⟩ = some (.int .i64 p.th) ∧ w'.cell? ⟨w.heap.size, 4, none⟩ = some (.int .i64 p.rk) ∧ w'.cell? ⟨w.heap.size, 5, none⟩ = some (.int .i64 p.rs) ∧ w'.cell? ⟨w.heap.size, 6, none⟩ = some (.int .i64 p.fl) ∧ w'.cell? ⟨w.heap.size, 7, none⟩ = some (.int .i64 p.re) ∧ w'.cell? ⟨w.heap.size + 1, 0, none⟩ = some (.int .i64 A) ∧ w'.cell? ⟨w.heap.size + 1, 1, none⟩ = some (.int .i64 B) ∧ w'.cell? ⟨bx, ox + t, none⟩ = some (.int .i64 i)) (first | go_keep | (refine ⟨?_, ?_, ?_, ?_, ?_, ?_, ?_, ?_, ?_, ?_, ?_⟩ <;> (refine cell_two_far ?_ ?_; assumption; omega)))
          (first | (go_at_call 22; refine (K1.out _).mono ?_; rintro e w4 ⟨rfl, hb4⟩; have q4 : Below wr.heap.size wr w4 := (by (focus (first | (exact Below.refl _ _) | ((repeat (first | exact Below.refl _ _ | refine below_drewN ?_ _ | refine Below.drew ?_ | refine Below.alloc ?_ ?_ _ | refine Below.setCell ?_ ?_ _ | refine Below.trans ?_ (Below.mono (by assumption) ?_))); all_goals (first | omega | (simp; done) | (simp; omega)))))); have z4 : wr.heap.size ≤ w4.heap.size := q4.size; obtain ⟨_, _, _, _, _, _, _, _⟩ := cells8 ((q4.block _ (by omega)).trans HPw.out); obtain ⟨_, _, _, _⟩ := cells2 ((q4.block _ (by omega)).trans HS.out); have hcx4 : w4.cell? ⟨bx, ox + t, none⟩ = some (.int .i64 i) := ((q4.cell (p := ⟨bx, ox + t, none⟩) (by show bx < _; omega)).trans hcx'); obtain ⟨hc4, hf4⟩ := bcell hb4; (first | (have z5 : wr.heap.size < w4.heap.size := (by have h9 := hb4.size; simp at h9; omega)) | skip); have Q4 := Lib.hid q4; have HB4 := Lib.hid hb4; clear q4 hb4))
        · have c12 : (w4.alloc (.cells #[.int .i64 T, .int .i64 S] 25)).heap[w4.heap.size]? = some (.cells #[.int .i64 T, .int .i64 S] 25) := by
            exact alloc_new_at _ _ _ rfl
          have qq : Below wr.heap.size wr (w4.alloc (.cells #[.int .i64 T, .int .i64 S] 25)) := by
            have q4 := Q4.out
            (focus (first | (exact Below.refl _ _) | ((repeat (first | exact Below.refl _ _ | refine below_drewN ?_ _ | refine Below.drew ?_ | refine Below.alloc ?_ ?_ _ | refine Below.setCell ?_ ?_ _ | refine Below.trans ?_ (Below.mono (by assumption) ?_))); all_goals (first | omega | (simp; done) | (simp; omega)))))
          clear hc4 hf4
          generalize (w4.alloc (.cells #[.int .i64 T, .int .i64 S] 25)) = W5 at *
          have QQ := Lib.hid qq
          have hsz5 : wr.heap.size ≤ W5.heap.size := qq.size
          have hN5 : w4.heap.size < W5.heap.size := lt_of_block c12
          have hw5a : w.heap.size < W5.heap.size := by omega
          have hw5b : w.heap.size + 1 < W5.heap.size := by omega
          have hbx5 : bx < W5.heap.size := by omega
          have hL5 : ∀ k, k < ℓ → ∃ b off, a1 = some ⟨b, off, none⟩ ∧ b < W5.heap.size ∧ W5.cell? ⟨b, off + k, none⟩ = some (.int .i64 (L[k]?.getD 0)) := fun k hk => by
            obtain ⟨b, off, h1, h2, h3⟩ := HLw.out k hk
            exact ⟨b, off, h1, by omega, (qq.cell (p := ⟨b, off + k, none⟩) h2).trans h3⟩
          have HL5 := Lib.hid hL5
          obtain ⟨_, _, _, _, _, _, _, _⟩ := cells8 ((qq.block _ hl0).trans HPw.out)
          obtain ⟨_, _, _, _⟩ := cells2 ((qq.block _ hl1).trans HS.out)
          obtain ⟨_, _, _, _⟩ := cells2 c12
          clear qq c12 hL5
          have hv2 : (validP p T S != 0) = false := by simp [HV2.out]
          have hk0 : (0 : Int) ≤ (k : Int) := Int.natCast_nonneg _
          have hkt' : (k : Int) ≤ (t : Int) := by omega
          have ht2 : (t : Int) < 2000 := by omega
          rcases HOR.out with ⟨rfl, hB, hLk, hlen, hgap⟩ | ⟨rfl, hlen, hno⟩
          · have hkl : k < ℓ := by rw [HLL.out]; exact (List.getElem?_eq_some_iff.1 hLk).1
            have hkl' : ((k : Int) < (ℓ : Int)) = True := by simp; omega
            have hkl2 : (k : Int) < (ℓ : Int) := by omega
            have hB' : (0 < B) = False := by simp; omega
            obtain ⟨b, off, rfl, hb5, hcL⟩ := HL5.out k hkl
            rw [hLk] at hcL
            simp only [Option.getD_some] at hcL
            rcases hgap with rfl | ⟨l, hk1, hl1', hl0', hlt', hgp⟩
            · have HLEN := Lib.hid hlen
              clear hlen hLk hB
              rw [Nat.add_zero] at hcL
              have hkl0 : ((0 : Int) < (ℓ : Int)) = True := by simp; omega
              have hkl02 : (0 : Int) < (ℓ : Int) := by omega
              go_wp2_with (go_at_call 19; refine (valid_any p T S _).mono ?_; rintro e w6 ⟨rfl, hb6⟩; obtain ⟨hc6, hf6⟩ := bcell hb6; have hz6 : W5.heap.size ≤ w6.heap.size := hb6.size; have hz6a : w.heap.size + 1 < w6.heap.size := (by omega); have hz6b : w.heap.size < w6.heap.size := (by omega); have Q6 := Lib.hid (QQ.out.trans (hb6.mono QQ.out.size)); clear hb6)
              have hcL6 : w6.cell? ⟨b, off, none⟩ = some (.int .i64 t) := (hc6 b _ hb5).trans hcL
              go_quiet (fail)
              go_wp2_with fail
              go_roundw
              case rel =>
                obtain ⟨f1, f2⟩ := states_step (T := T) (S := S) HK.out Q6.out HS.out rfl rfl rfl rfl
                exact ⟨t + 1, by omega, (by rw [HLEN.out]; first | rfl | go_num | simp), by go_num, f1, by rw [HNX.out]; exact f2⟩
              case measure => simp [intOf]; omega
            · have hk1' : ((0 : Int) < (k : Int)) = True := by simp; omega
              obtain ⟨b', off', e', hb5', hcL'⟩ := HL5.out (k - 1) (by omega)
              cases e'
              rw [hl1'] at hcL'
              simp only [Option.getD_some] at hcL'
              have hgp' : ((t : Int) - l ≤ p.re) = False := by simp; omega
              have HLEN := Lib.hid hlen
              clear hlen hLk hB hl1'
              go_wp2_with (go_at_call 19; refine (valid_any p T S _).mono ?_; rintro e w6 ⟨rfl, hb6⟩; obtain ⟨hc6, hf6⟩ := bcell hb6; have hz6 : W5.heap.size ≤ w6.heap.size := hb6.size; have hz6a : w.heap.size + 1 < w6.heap.size := (by omega); have hz6b : w.heap.size < w6.heap.size := (by omega); have Q6 := Lib.hid (QQ.out.trans (hb6.mono QQ.out.size)); clear hb6)
              have hcL6 : w6.cell? ⟨b, off + k, none⟩ = some (.int .i64 t) := (hc6 b _ hb5).trans hcL
              have hcL6' : w6.cell? ⟨b, off + (k - 1), none⟩ = some (.int .i64 l) := (hc6 b _ hb5).trans hcL'
              have hd1 : decide ((0 : Int) < (k : Int)) = true := by simp; omega
              have hd2 : decide ((t : Int) - l ≤ p.re) = false := by simp; omega
              have hj0 : (0 : Int) ≤ (k : Int) - 1 := by omega
              have hj1 : (k : Int) - 1 < (ℓ : Int) := by omega
              have htn : ((k : Int) - 1).toNat = k - 1 := by omega
              go_quiet (fail)
              go_wp2_with fail
              go_roundw
              case rel =>
                obtain ⟨f1, f2⟩ := states_step (T := T) (S := S) HK.out Q6.out HS.out rfl rfl rfl rfl
                exact ⟨t + 1, by omega, by rw [HLEN.out]; go_num, by go_num, f1, by rw [HNX.out]; exact f2⟩
              case measure => simp [intOf]; omega
          · have HLEN := Lib.hid hlen
            clear hlen
            rcases hno with hge | ⟨z, hz, hzt⟩
            · have hkl' : ((k : Int) < (ℓ : Int)) = False := by simp; rw [HLL.out]; omega
              go_wp2_with (go_at_call 19; refine (valid_any p T S _).mono ?_; rintro e w6 ⟨rfl, hb6⟩; obtain ⟨hc6, hf6⟩ := bcell hb6; have hz6 : W5.heap.size ≤ w6.heap.size := hb6.size; have hz6a : w.heap.size + 1 < w6.heap.size := (by omega); have hz6b : w.heap.size < w6.heap.size := (by omega); have Q6 := Lib.hid (QQ.out.trans (hb6.mono QQ.out.size)); clear hb6)
              go_roundw
              case rel =>
                obtain ⟨f1, f2⟩ := states_step (T := T) (S := S) HK.out Q6.out HS.out rfl rfl rfl rfl
                exact ⟨t + 1, by omega, by rw [HLEN.out], by go_num, f1, by rw [HNX.out]; exact f2⟩
              case measure => simp [intOf]; omega
            · have hkl : k < ℓ := by rw [HLL.out]; exact (List.getElem?_eq_some_iff.1 hz).1
              have hkl' : ((k : Int) < (ℓ : Int)) = True := by simp; omega
              have hkl2 : (k : Int) < (ℓ : Int) := by omega
              obtain ⟨b, off, rfl, hb5, hcL⟩ := HL5.out k hkl
              rw [hz] at hcL
              simp only [Option.getD_some] at hcL
              have hzt' : (z == (t : Int)) = false := by simp [hzt]
              clear hz hzt
              go_wp2_with (go_at_call 19; refine (valid_any p T S _).mono ?_; rintro e w6 ⟨rfl, hb6⟩; obtain ⟨hc6, hf6⟩ := bcell hb6; have hz6 : W5.heap.size ≤ w6.heap.size := hb6.size; have hz6a : w.heap.size + 1 < w6.heap.size := (by omega); have hz6b : w.heap.size < w6.heap.size := (by omega); have Q6 := Lib.hid (QQ.out.trans (hb6.mono QQ.out.size)); clear hb6)
              go_roundw
              case rel =>
                obtain ⟨f1, f2⟩ := states_step (T := T) (S := S) HK.out Q6.out HS.out rfl rfl rfl rfl
                exact ⟨t + 1, by omega, by rw [HLEN.out], by go_num, f1, by rw [HNX.out]; exact f2⟩
              case measure => simp [intOf]; omega
        · have c12 : ((w4.setCell ⟨wr.heap.size, 0, none⟩ (.int .i64 T)).setCell ⟨wr.heap.size, 1, none⟩ (.int .i64 S)).heap[wr.heap.size]? = some (.cells #[.int .i64 T, .int .i64 S] 25) := by
            exact set2_1 (set2_0 (show w4.heap[wr.heap.size]? = some (.cells #[.int .i64 0, .int .i64 0] 25) from (HB4.out.block _ (by simp)).trans (alloc_new_at _ _ _ rfl)) _) _
          have qq : Below wr.heap.size wr ((w4.setCell ⟨wr.heap.size, 0, none⟩ (.int .i64 T)).setCell ⟨wr.heap.size, 1, none⟩ (.int .i64 S)) := by
            have q4 := Q4.out
            (focus (first | (exact Below.refl _ _) | ((repeat (first | exact Below.refl _ _ | refine below_drewN ?_ _ | refine Below.drew ?_ | refine Below.alloc ?_ ?_ _ | refine Below.setCell ?_ ?_ _ | refine Below.trans ?_ (Below.mono (by assumption) ?_))); all_goals (first | omega | (simp; done) | (simp; omega)))))
          clear hc4 hf4
          generalize ((w4.setCell ⟨wr.heap.size, 0, none⟩ (.int .i64 T)).setCell ⟨wr.heap.size, 1, none⟩ (.int .i64 S)) = W5 at *
          have QQ := Lib.hid qq
          have hsz5 : wr.heap.size ≤ W5.heap.size := qq.size
          have hN5 : wr.heap.size < W5.heap.size := lt_of_block c12
          have hw5a : w.heap.size < W5.heap.size := by omega
          have hw5b : w.heap.size + 1 < W5.heap.size := by omega
          have hbx5 : bx < W5.heap.size := by omega
          have hL5 : ∀ k, k < ℓ → ∃ b off, a1 = some ⟨b, off, none⟩ ∧ b < W5.heap.size ∧ W5.cell? ⟨b, off + k, none⟩ = some (.int .i64 (L[k]?.getD 0)) := fun k hk => by
            obtain ⟨b, off, h1, h2, h3⟩ := HLw.out k hk
            exact ⟨b, off, h1, by omega, (qq.cell (p := ⟨b, off + k, none⟩) h2).trans h3⟩
          have HL5 := Lib.hid hL5
          obtain ⟨_, _, _, _, _, _, _, _⟩ := cells8 ((qq.block _ hl0).trans HPw.out)
          obtain ⟨_, _, _, _⟩ := cells2 ((qq.block _ hl1).trans HS.out)
          obtain ⟨_, _, _, _⟩ := cells2 c12
          clear qq c12 hL5
          have hv2 : (validP p T S != 0) = false := by simp [HV2.out]
          have hk0 : (0 : Int) ≤ (k : Int) := Int.natCast_nonneg _
          have hkt' : (k : Int) ≤ (t : Int) := by omega
          have ht2 : (t : Int) < 2000 := by omega
          rcases HOR.out with ⟨rfl, hB, hLk, hlen, hgap⟩ | ⟨rfl, hlen, hno⟩
          · have hkl : k < ℓ := by rw [HLL.out]; exact (List.getElem?_eq_some_iff.1 hLk).1
            have hkl' : ((k : Int) < (ℓ : Int)) = True := by simp; omega
            have hkl2 : (k : Int) < (ℓ : Int) := by omega
            have hB' : (0 < B) = False := by simp; omega
            obtain ⟨b, off, rfl, hb5, hcL⟩ := HL5.out k hkl
            rw [hLk] at hcL
            simp only [Option.getD_some] at hcL
            rcases hgap with rfl | ⟨l, hk1, hl1', hl0', hlt', hgp⟩
            · have HLEN := Lib.hid hlen
              clear hlen hLk hB
              rw [Nat.add_zero] at hcL
              have hkl0 : ((0 : Int) < (ℓ : Int)) = True := by simp; omega
              have hkl02 : (0 : Int) < (ℓ : Int) := by omega
              go_wp2_with (go_at_call 19; refine (valid_any p T S _).mono ?_; rintro e w6 ⟨rfl, hb6⟩; obtain ⟨hc6, hf6⟩ := bcell hb6; have hz6 : W5.heap.size ≤ w6.heap.size := hb6.size; have hz6a : w.heap.size + 1 < w6.heap.size := (by omega); have hz6b : w.heap.size < w6.heap.size := (by omega); have Q6 := Lib.hid (QQ.out.trans (hb6.mono QQ.out.size)); clear hb6)
              have hcL6 : w6.cell? ⟨b, off, none⟩ = some (.int .i64 t) := (hc6 b _ hb5).trans hcL
              go_quiet (fail)
              go_wp2_with fail
              go_roundw
              case rel =>
                obtain ⟨f1, f2⟩ := states_step (T := T) (S := S) HK.out Q6.out HS.out rfl rfl rfl rfl
                exact ⟨t + 1, by omega, (by rw [HLEN.out]; first | rfl | go_num | simp), by go_num, f1, by rw [HNX.out]; exact f2⟩
              case measure => simp [intOf]; omega
            · have hk1' : ((0 : Int) < (k : Int)) = True := by simp; omega
              obtain ⟨b', off', e', hb5', hcL'⟩ := HL5.out (k - 1) (by omega)
              cases e'
              rw [hl1'] at hcL'
              simp only [Option.getD_some] at hcL'
              have hgp' : ((t : Int) - l ≤ p.re) = False := by simp; omega
              have HLEN := Lib.hid hlen
              clear hlen hLk hB hl1'
              go_wp2_with (go_at_call 19; refine (valid_any p T S _).mono ?_; rintro e w6 ⟨rfl, hb6⟩; obtain ⟨hc6, hf6⟩ := bcell hb6; have hz6 : W5.heap.size ≤ w6.heap.size := hb6.size; have hz6a : w.heap.size + 1 < w6.heap.size := (by omega); have hz6b : w.heap.size < w6.heap.size := (by omega); have Q6 := Lib.hid (QQ.out.trans (hb6.mono QQ.out.size)); clear hb6)
              have hcL6 : w6.cell? ⟨b, off + k, none⟩ = some (.int .i64 t) := (hc6 b _ hb5).trans hcL
              have hcL6' : w6.cell? ⟨b, off + (k - 1), none⟩ = some (.int .i64 l) := (hc6 b _ hb5).trans hcL'
              have hd1 : decide ((0 : Int) < (k : Int)) = true := by simp; omega
              have hd2 : decide ((t : Int) - l ≤ p.re) = false := by simp; omega
              have hj0 : (0 : Int) ≤ (k : Int) - 1 := by omega
              have hj1 : (k : Int) - 1 < (ℓ : Int) := by omega
              have htn : ((k : Int) - 1).toNat = k - 1 := by omega
              go_quiet (fail)
              go_wp2_with fail
              go_roundw
              case rel =>
                obtain ⟨f1, f2⟩ := states_step (T := T) (S := S) HK.out Q6.out HS.out rfl rfl rfl rfl
                exact ⟨t + 1, by omega, by rw [HLEN.out]; go_num, by go_num, f1, by rw [HNX.out]; exact f2⟩
              case measure => simp [intOf]; omega
          · have HLEN := Lib.hid hlen
            clear hlen
            rcases hno with hge | ⟨z, hz, hzt⟩
            · have hkl' : ((k : Int) < (ℓ : Int)) = False := by simp; rw [HLL.out]; omega
              go_wp2_with (go_at_call 19; refine (valid_any p T S _).mono ?_; rintro e w6 ⟨rfl, hb6⟩; obtain ⟨hc6, hf6⟩ := bcell hb6; have hz6 : W5.heap.size ≤ w6.heap.size := hb6.size; have hz6a : w.heap.size + 1 < w6.heap.size := (by omega); have hz6b : w.heap.size < w6.heap.size := (by omega); have Q6 := Lib.hid (QQ.out.trans (hb6.mono QQ.out.size)); clear hb6)
              go_roundw
              case rel =>
                obtain ⟨f1, f2⟩ := states_step (T := T) (S := S) HK.out Q6.out HS.out rfl rfl rfl rfl
                exact ⟨t + 1, by omega, by rw [HLEN.out], by go_num, f1, by rw [HNX.out]; exact f2⟩
              case measure => simp [intOf]; omega
            · have hkl : k < ℓ := by rw [HLL.out]; exact (List.getElem?_eq_some_iff.1 hz).1
              have hkl' : ((k : Int) < (ℓ : Int)) = True := by simp; omega
              have hkl2 : (k : Int) < (ℓ : Int) := by omega
              obtain ⟨b, off, rfl, hb5, hcL⟩ := HL5.out k hkl
              rw [hz] at hcL
              simp only [Option.getD_some] at hcL
              have hzt' : (z == (t : Int)) = false := by simp [hzt]
              clear hz hzt
              go_wp2_with (go_at_call 19; refine (valid_any p T S _).mono ?_; rintro e w6 ⟨rfl, hb6⟩; obtain ⟨hc6, hf6⟩ := bcell hb6; have hz6 : W5.heap.size ≤ w6.heap.size := hb6.size; have hz6a : w.heap.size + 1 < w6.heap.size := (by omega); have hz6b : w.heap.size < w6.heap.size := (by omega); have Q6 := Lib.hid (QQ.out.trans (hb6.mono QQ.out.size)); clear hb6)
              go_roundw
              case rel =>
                obtain ⟨f1, f2⟩ := states_step (T := T) (S := S) HK.out Q6.out HS.out rfl rfl rfl rfl
                exact ⟨t + 1, by omega, by rw [HLEN.out], by go_num, f1, by rw [HNX.out]; exact f2⟩
              case measure => simp [intOf]; omega
      · obtain rfl : t = n := by omega
        have hfin : ((spkL (runL p V R zs) t).length) = ℓ := by rw [HLL.out, HL.out, HN.out]
        rw [hfin] at hs10
        subst hs10
        rw [HN.out, List.take_length, HXY.out] at hS
        obtain ⟨_, _, _, _⟩ := cells2 hS
        obtain ⟨_, _, _, _⟩ := cells2 hEw
        clear hfin
        have B0 := Lib.hid (show Below w.heap.size w wr from ((Q1.out.trans (Q3.out.mono Q1.out.size)).trans (show Below w.heap.size w3 wr from ⟨hK.1, hK.2.1, hK.2.2.1, hK.2.2.2.1, fun b hb => hK.2.2.2.2 b (by omega) (by omega)⟩)))
        clear hK hS hEw hPw hLw
        go_wp2_with (go_at_call 21; refine (works_any _).mono ?_; rintro e w4 ⟨rfl, hb4⟩)
        go_ret
        exact ⟨rfl, B0.out.trans (hb4.mono B0.out.size)⟩

theorem walk (p : Prm) (V R : Int) (a : Option Addr) (cap : Nat) (zs : List Int) (hm : zs.length ≤ 9223372036854775807) (w : World) (hI : IntsAt w (.slice a zs.length cap) zs) :
    Calls Try.prog 9 #[.agg #[.int .i64 p.lk, .int .i64 p.lv, .int .i64 p.bi, .int .i64 p.th, .int .i64 p.rk, .int .i64 p.rs, .int .i64 p.fl, .int .i64 p.re], .agg #[.int .i64 V, .int .i64 R], .slice a zs.length cap] w fun e w' => e = .returned (.bool true) ∧ Below w.heap.size w w' := by
  by_cases h1 : 2000 < zs.length
  · exact out p V R a _ cap (Or.inl h1) w
  by_cases h2 : validP p V R = 0
  · exact ok p V R a _ cap zs rfl (by omega) h2 w hI
  · exact out p V R a _ cap (Or.inr ⟨by omega, h2⟩) w

set_option maxRecDepth 100000 in
theorem lifted (os : Os) (started : os.Started) (H : Type) (enc : TypeId × Value → H) :
    ReturnsInHanded {} Try.checked os 9 .any (Rows.neuronStatesSpec.pre6 enc Try.prog Try.f9 Rows.neuronStatesRow.domain false) (Rows.neuronStatesSpec.post enc Try.prog Try.f9 false true false false) := by
  refine returnsInHanded_of_change (C := Try.checked) own started (by kernel_rfl) Try.func9
    (ChangeSpec.witness6 (enc := enc) (C := Try.checked) false ⟨#[], #[.agg #[.int .i64 0, .int .i64 0, .int .i64 0, .int .i64 0, .int .i64 0, .int .i64 0, .int .i64 0, .int .i64 0], .agg #[.int .i64 0, .int .i64 0], .slice none 0 0], []⟩ 8 (by kernel_rfl) (by kernel_rfl) (by kernel_rfl) (by kernel_rfl)) ?_
  intro W base args ds gs before hval0 hW hcnd hsz
  have hval : ∀ (j : Nat) t v, Try.f9.params[j]? = some t → args[j]? = some v → Value.okWide Try.prog W .any base t v := hval0
  have hW' := hW
  obtain ⟨p, q, hA0, hV, rfl, hfz, hnd⟩ := hW
  have hA : DataW.TrodAll enc Try.prog W 0 (fun _ => true) true Try.f9.params.toList args.toList ds p := hA0
  rw [Try.params9] at hA hval
  have hAll := hA
  obtain ⟨v0, vs0, d0, ds0, p0, q0, hargs, rfl, rfl, h0, r0⟩ := trodAll_cons hA
  obtain ⟨v1, vs1, d1, ds1, p1, q1, rfl, rfl, rfl, h1, r1⟩ := trodAll_cons r0
  obtain ⟨v2, vs2, d2, ds2, p2, q2, rfl, rfl, rfl, h2, r2⟩ := trodAll_cons r1
  obtain ⟨rfl, rfl, rfl⟩ := trodAll_nil r2
  obtain rfl : args = #[v0, v1, v2] := by cases args; simp_all
  obtain ⟨rfl, rfl⟩ := trodVars_none hV
  obtain ⟨x0, rfl⟩ := open_prm (hval 0 23 v0 rfl rfl) h0
  obtain ⟨V1, R1, rfl⟩ := open_st (hval 1 25 v1 rfl rfl) h1
  obtain ⟨sa2, sn2, sc2, zs2, rfl, hl2, hi2, hm2⟩ := open_slice_ints (hval 2 35 v2 rfl rfl) h2
  subst hl2
  clear hA0 hval0
  refine (walk x0 V1 R1 sa2 sc2 zs2 hm2 W hi2).mono fun e W' ⟨he, bel⟩ => ?_
  subst he
  have hback := trodAll_below bel [23, 25, 35] (by intro t ht; simp at ht; rcases ht with rfl | rfl | rfl <;> exact ⟨by kernel_rfl, of_decide_eq_true (by kernel_rfl)⟩) hAll
  exact ⟨_, rfl, _, _, _, [], _, [], hW', trodAll_mk1 (shut_bool Try.underlying4 _), hback, rfl, bel.frame _, fun h => by cases h⟩

theorem over : Rows.neuronStatesRow.holds Try.pinned (OpenSpec.ofChange Rows.neuronStatesSpec) :=
  OpenClaim.holds_of_wide 9 Try.f9 rfl rfl rfl rfl rfl rfl rfl ⟨rfl, rfl, rfl, rfl, rfl⟩ rfl rfl rfl rfl rfl (by kernel_rfl) Try.func9 (by kernel_rfl)
    (of_decide_eq_true (by kernel_rfl)) (by unfold Func.isWrapper; first | (rw [if_pos (by decide +kernel)]; kernel_rfl) | (rw [if_neg (by decide +kernel)]; exact ⟨rfl, rfl⟩))
    (fun os started H enc _ => lifted os started H enc)

theorem proved : Rows.NeuronStatesSaid := over

end Go.Proofs.Ytkpabecnimakpaa.neuronStates
