/- Barriers: the specification's Barrier. Over this seat's program. -/
import Derived.Test.YtlkcpnhepadenaaDoorBe
namespace Go.Proofs.YtlkcpnhepadenaaDoor
set_option linter.unusedVariables false
open Go.RowKit

set_option maxRecDepth 100000 in
set_option maxHeartbeats 1000000 in
theorem rbarrier_err (A H R : Int) (hc : chkM A H R ≠ 0) (sv : Value) (w : World) :
    Calls Tryd.prog 40 #[.agg #[.int .i64 A, .int .i64 H, .int .i64 R], sv] w (BarGot [] (chkM A H R) w) := by
  obtain ⟨X, hX⟩ : ∃ X : Int, X = chkM A H R := ⟨_, rfl⟩
  have hch := rcheck_any A H R
  rw [← hX] at hc hch ⊢
  have hne : (X != 0) = true := by simp [hc]
  clear hc hX
  go_enter Tryd.func40, Tryd.ntmps40
  go_wp2_with (go_at_call 18; refine (hch _).mono ?_; rintro e w1 ⟨rfl, hb1⟩)
  exact bodyPost_ret (v := .tuple #[.slice none 0 0, .int .i64 X]) (by simp [results, Tryd.results40, go_sem]) rfl (barGot_nil (((Below.refl _ _).alloc (Nat.le_refl _) _).trans (hb1.mono (by simp))))

set_option maxRecDepth 100000 in
set_option maxHeartbeats 1000000 in
theorem rbarrier_shape (A H R : Int) (hc : chkM A H R = 0) (a : Option Addr) (n cap : Nat) (hl : n ≤ 4611686018427387904) (hn : (n : Int) ≠ A * H) (w : World) :
    Calls Tryd.prog 40 #[.agg #[.int .i64 A, .int .i64 H, .int .i64 R], .slice a n cap] w (BarGot [] 13 w) := by
  have hch := rcheck_any A H R
  obtain ⟨⟨a1, a2⟩, ⟨b1, b2⟩, _⟩ := chkM_ok hc
  rw [hc] at hch
  obtain ⟨X, hX⟩ : ∃ X : Int, A * H = X := ⟨_, rfl⟩
  rw [hX] at hn
  have x1 : 1 ≤ X := by rw [← hX]; have := Int.mul_le_mul a1 b1 (by decide) (by omega); omega
  have x2 : X ≤ 64 := by rw [← hX]; have := Int.mul_le_mul a2 b2 (by omega) (by decide); omega
  have hne : ((n : Int) != X) = true := by simp [hn]
  clear hc hn
  go_enter Tryd.func40, Tryd.ntmps40
  go_wp2_with (go_at_call 18; refine (hch _).mono ?_; rintro e w1 ⟨rfl, hb1⟩; have hz1 : w.heap.size < w1.heap.size := (by have h9 := hb1.size; simp at h9; omega); have hx1 := (hb1.block w.heap.size (by simp)).trans (alloc_new_at _ _ _ rfl); obtain ⟨_, _, _⟩ := cells3 hx1)
  exact bodyPost_ret (v := .tuple #[.slice none 0 0, .int .i64 13]) (by simp [results, Tryd.results40, go_sem]) rfl (barGot_nil (((Below.refl _ _).alloc (Nat.le_refl _) _).trans (hb1.mono (by simp))))

theorem barL_take {W : Nat} {zs : List Int} {k : Nat} (hk : k < zs.length) : (barL W zs).take (k + 1) = (barL W zs).take k ++ [last W (timeOf zs) zs.length + (dep W k : Nat)] := by
  rw [List.take_add_one]
  congr 1
  simp [barL, hk]

set_option maxRecDepth 100000 in
set_option maxHeartbeats 1000000 in
theorem rbarrier_ok (W H : Nat) (R : Int) (hc : chkM W H R = 0) (a : Option Addr) (n cap : Nat) (zs : List Int) (hn : n = zs.length) (hWH : n = W * H) (w : World) (hI : IntsAt w (.slice a n cap) zs) :
    Calls Tryd.prog 40 #[.agg #[.int .i64 W, .int .i64 H, .int .i64 R], .slice a n cap] w (BarDone W zs w) := by
  obtain ⟨i0, hi, hz0, hzz1, hzz2⟩ := info_parts Tryd.info3
  have hch := rcheck_any W H R
  obtain ⟨⟨a1, a2⟩, ⟨b1, b2⟩, _⟩ := chkM_ok hc
  rw [hc] at hch
  have w1' : 1 ≤ W := by omega
  have w2' : W ≤ 8 := by omega
  have n1 : 1 ≤ n := by rw [hWH]; exact Nat.mul_pos w1' (by omega)
  have n2 : n ≤ 64 := by rw [hWH]; exact Nat.mul_le_mul w2' (by omega : H ≤ 8)
  have hX : (W : Int) * (H : Int) = (n : Int) := by rw [hWH]; simp
  have hne : ((n : Int) != (n : Int)) = false := by simp
  obtain ⟨b, off, rfl, _⟩ := intsAt_cell hI 0 (by omega)
  have g1 : SlAt w b off n (timeOf zs) := by
    refine ⟨?_, fun k hk => ?_⟩
    · obtain ⟨b', o', e, hc⟩ := intsAt_cell hI 0 (by omega)
      cases e; exact World.block_lt_of_cell? w _ hc
    · obtain ⟨b', o', e, hc⟩ := intsAt_cell hI k (by omega)
      cases e; exact hc
  have hrp : ∀ k, 0 < k → k < n → ∀ w, Calls Tryd.prog 77 #[.agg #[.int .i64 (W : Int), .int .i64 H, .int .i64 R], .int .i64 (k : Int)] w fun e w' => e = .returned (.int .i64 ((par W k : Nat) : Int)) ∧ Below w.heap.size w w' := fun k h1 h2 => above_any W k H R w1' w2' h1 (by omega)
  have G1 := Lib.hid g1
  have HR := Lib.hid hrp
  have HN := Lib.hid hn
  have HWH := Lib.hid hWH
  clear hc g1 hrp hI hn hWH
  go_enter Tryd.func40, Tryd.ntmps40
  go_wp2_with (go_at_call 18; refine (hch _).mono ?_; rintro e w2 ⟨rfl, hb1⟩; have hz2 : w.heap.size < w2.heap.size := (by have h9 := hb1.size; simp at h9; omega); have hx1 := (hb1.block w.heap.size (by simp)).trans (alloc_new_at _ _ _ rfl); obtain ⟨_, _, _⟩ := cells3 hx1)
  have hbel : Below w.heap.size w w2 := (((Below.refl _ _).alloc (Nat.le_refl _) _).trans (hb1.mono (by simp)))
  have hsp : RSpecAt w2 w.heap.size W H R := hx1
  have HB2 := Lib.hid hbel
  have HS2 := Lib.hid hsp
  clear hb1 hx1 hbel hsp hch hne hX
  go_loopw [7] (fun i wr => ∃ k : Nat, k ≤ n ∧ i = .int .i64 k ∧ wr = w2 ∧ ∀ j, j < k → inR (timeOf zs j) 0 10000 = true) (fun i _ => n - (intOf i).toNat)
  case atStart => exact ⟨0, Nat.zero_le _, rfl, by trivial, fun _ h => by omega⟩
  case round =>
    obtain ⟨k, hk, rfl, rfl, hok⟩ := hrel
    have HOK := Lib.hid hok
    clear hok
    by_cases hlt : k < n
    · obtain ⟨x, hx⟩ : ∃ x, x = timeOf zs k := ⟨_, rfl⟩
      have c1 : wr.cell? ⟨b, off + k, none⟩ = some (.int .i64 x) := by rw [hx]; exact (G1.out.below HB2.out).2 k hlt
      have HX := Lib.hid hx
      clear hx
      have hi0 : (0 : Int) ≤ (k : Int) := Int.natCast_nonneg _
      have hi1 : (k : Int) < (n : Int) := by omega
      by_cases hr : inR x 0 10000 = true
      · have h01 := inR_true.1 hr
        have q1 : (x < 0) = False := by simp; omega
        have q2 : ((10000 : Int) < x) = False := by simp; omega
        have HRR := Lib.hid hr
        clear hr h01
        go_wp2
        go_roundw
        case rel => exact ⟨k + 1, by omega, by go_num, by trivial, fun j hj => by
          rcases Nat.lt_or_ge j k with h | h
          · exact HOK.out j h
          · have : j = k := by omega
            subst this; rw [← HX.out]; exact HRR.out⟩
        case measure => simp [intOf]; omega
      · have hno : ¬ allIn zs := fun h => by
          have h1 := HN.out
          have h2 := HX.out
          have h3 := h (timeOf zs k) (by unfold timeOf; rw [List.getElem?_eq_getElem (by omega)]; exact List.getElem_mem _)
          rw [← h2] at h3; exact hr h3
        have HNO := Lib.hid hno
        clear hno
        rw [Bool.not_eq_true, inR_false] at hr
        by_cases q0 : x < 0
        · have q1 : (x < 0) = True := by simp [q0]
          clear hr q0
          go_wp2
          exact bodyPost_ret (v := .tuple #[.slice none 0 0, .int .i64 3]) (by simp [results, Tryd.results40, go_sem]) rfl ⟨fun h => absurd h HNO.out, fun _ => barGot_nil HB2.out⟩
        · have q1 : (x < 0) = False := by simp; omega
          have q2 : ((10000 : Int) < x) = True := by simp; omega
          clear hr q0
          go_wp2
          exact bodyPost_ret (v := .tuple #[.slice none 0 0, .int .i64 3]) (by simp [results, Tryd.results40, go_sem]) rfl ⟨fun h => absurd h HNO.out, fun _ => barGot_nil HB2.out⟩
    · have hkn : n = k := by omega
      clear hlt hk
      subst hkn
      have hyes : allIn zs := fun z hz => by
        obtain ⟨j, hj, rfl⟩ := List.getElem_of_mem hz
        have h1 := HN.out
        have := HOK.out j (by omega)
        unfold timeOf at this
        rw [List.getElem?_eq_getElem hj] at this; exact this
      have HY := Lib.hid hyes
      have hbd : ∀ j, j < n → 0 ≤ timeOf zs j ∧ timeOf zs j ≤ 10000 := fun j hj => inR_true.1 (HOK.out j hj)
      have hF : last W (timeOf zs) n ≤ 10014 := by
        have h := last_le (W := W) (H := H) (t := timeOf zs) (n := n) (c := 10000) (by omega) HWH.out (by omega) (fun j hj => (hbd j hj).2)
        have h9 : ((W + H - 2 : Nat) : Int) ≤ 14 := by omega
        omega
      have hF0 : 0 ≤ last W (timeOf zs) n := by
        have h1 := last_ge (W := W) (t := timeOf zs) (n := n) (j := 0) (by omega)
        have h2 := (hbd 0 (by omega)).1
        omega
      have hrep := reports_any W H n R w1' w2' n1 n2 b off cap (timeOf zs) (fun k hk => (hbd k hk).1) hF n 0 (by omega) (by omega)
      rw [rep_last w1' (by omega)] at hrep
      obtain ⟨F, hFd⟩ : ∃ F, F = last W (timeOf zs) n := ⟨_, rfl⟩
      rw [← hFd] at hF hF0 hrep
      have HREP := Lib.hid hrep
      have HFD := Lib.hid hFd
      clear hyes hbd HOK hrep hFd
      obtain ⟨_, _, _⟩ := HS2.out.cells
      go_wp2_with (go_at_call 76; refine (HREP.out _ (G1.out.below HB2.out)).mono ?_; rintro e w3 ⟨rfl, hb3⟩; have HB3 := Lib.hid hb3; clear hb3)
      have s3 : RSpecAt w3 w.heap.size W H R := (HB3.out.block _ hz2).trans HS2.out
      have b3 : Below w.heap.size w w3 := HB2.out.trans (HB3.out.mono (Nat.le_of_lt hz2))
      have hz3 : w.heap.size < w3.heap.size := s3.lt
      have S3 := Lib.hid s3
      have B3 := Lib.hid b3
      clear s3 b3
      go_loopw [9, 10] (fun s9 s10 wr => ∃ k : Nat, k ≤ n ∧ s10 = .int .i64 k ∧ wr.ownsRow (w.heap.size + 1) 3 1 s9 k (((barL W zs).take k).map (Value.int .i64)) ∧ RSpecAt wr w.heap.size W H R ∧ Below w.heap.size w wr) (fun _ s10 _ => n - (intOf s10).toNat)
      case atStart => exact ⟨0, Nat.zero_le _, by go_num, ⟨by simp, .inl ⟨rfl, rfl⟩⟩, S3.out, B3.out⟩
      case round =>
        obtain ⟨k, hk, rfl, ho, hs, hb⟩ := hrel
        have hzr : w.heap.size < wr.heap.size := hs.lt
        have HO := Lib.hid ho
        have HS := Lib.hid hs
        have HB := Lib.hid hb
        clear ho hs hb
        by_cases hlt : k < n
        · have hk3 : (0 : Int) ≤ (k : Int) := Int.natCast_nonneg _
          have hdk := dep_le (W := W) (H := H) (k := k) (by omega) (by have := HWH.out; omega)
          go_wp2
          generalize wr = wo at *
          go_loopw [11, 12] (fun s11 s12 wr => ∃ q : Nat, q ≤ k ∧ s12 = .int .i64 q ∧ s11 = .int .i64 (F + (dep W k : Nat) - (dep W q : Nat)) ∧ Below wo.heap.size wo wr) (fun _ s12 _ => (intOf s12).toNat)
          case atStart => exact ⟨k, Nat.le_refl _, by go_num, by congr 1; omega, Below.refl _ _⟩
          case round =>
            obtain ⟨q, hq, rfl, rfl, hb5⟩ := hrel
            have hs5 : RSpecAt wr w.heap.size W H R := (hb5.block _ hzr).trans HS.out
            have hz5 : wo.heap.size ≤ wr.heap.size := hb5.size
            obtain ⟨_, _, _⟩ := hs5.cells
            have hdq := dep_le (W := W) (H := H) (k := q) (by omega) (by have := HWH.out; omega)
            obtain ⟨D, hD⟩ : ∃ D : Int, D = F + (dep W k : Nat) - (dep W q : Nat) := ⟨_, rfl⟩
            have hD0 : -100 ≤ D := by omega
            have hD1 : D ≤ 10100 := by omega
            rw [← hD]
            have HDD := Lib.hid hD
            have HB5 := Lib.hid hb5
            have HS5 := Lib.hid hs5
            clear hD hb5 hs5
            cases q with
            | succ q =>
              have hcall := HR.out (q + 1) (by omega) (by omega)
              have hdp := dep_par (W := W) (k := q + 1) (by omega) (by omega)
              have hpl := par_lt (W := W) (k := q + 1) (by omega) (by omega)
              obtain ⟨P, hP⟩ : ∃ P, P = par W (q + 1) := ⟨_, rfl⟩
              rw [← hP] at hcall hdp hpl
              have HCALL := Lib.hid hcall
              have gm : ((0 : Int) < ((q + 1 : Nat) : Int)) = True := by simp <;> omega
              clear hcall hP
              go_wp2_with (go_at_call 77; refine (HCALL.out _).mono ?_; rintro e w6 ⟨rfl, hb6⟩; have HB6 := Lib.hid hb6; clear hb6)
              go_roundw
              case rel => exact ⟨P, by omega, rfl, by congr 1; rw [HDD.out]; omega, HB5.out.trans (HB6.out.mono hz5)⟩
              case measure => simp [intOf]; omega
            | zero =>
              rw [show ((0 : Nat) : Int) = 0 from rfl]
              have hown : wr.ownsRow (w.heap.size + 1) 3 1 u9 k (((barL W zs).take k).map (Value.int .i64)) := by
                refine ⟨HO.out.1, HO.out.2.imp id ?_⟩
                rintro ⟨g, c, cur, x1, x2, x3, x4⟩
                exact ⟨g, c, cur, x1, x2, (HB5.out.block g (Array.getElem?_eq_some_iff.1 x3).1).trans x3, x4⟩
              have HOW := Lib.hid hown
              clear hown
              go_wp2_with (at_builtin; refine wpList_append_own _ rfl _ _ 24 rfl (w.heap.size + 1) 3 i0 (.int .i64 0) 1 8 Tryd.underlying24 hi hz0 hzz1 hzz2 rfl (by decide) u9 k _ rfl (HOW.out.alloc _) ⟨wr.heap.size, 0, none⟩ 1 1 [.int .i64 D] rfl rfl (cell_one_new _ _ _) (by simp [Value.oneCell']) (by unfold maxLen; omega) (by omega) (by simp; omega) ?_; intro v' w7 hown' hgrow _; have HO7 := Lib.hid hown'; have HG := Lib.hid hgrow; clear hown' hgrow)
              have hG := HG.out
              have hsz := hG.size
              rw [World.size_alloc] at hsz
              have old : ∀ g, g < w.heap.size + 1 → w7.heap[g]? = wr.heap[g]? := fun g h => by
                rw [hG.block g (by rw [World.size_alloc]; omega) (fun e => by have := (HOW.out.lt g e.symm).1; omega), Below.heap_alloc _ _ _ (by omega)]
              have hbw : Below w.heap.size w wr := HB.out.trans (HB5.out.mono (by omega))
              refine ⟨⟨k + 1, by omega, by go_num, ?_, (old _ (by omega)).trans HS5.out, ⟨hG.os.trans hbw.os, hG.tape.trans hbw.tape, hG.output.trans hbw.output, by have := hbw.size; omega, fun g h => (old g (by omega)).trans (hbw.block g h)⟩⟩, by simp [intOf]; omega⟩
              have e1 := HDD.out
              have e2 := HN.out
              have e3 := HFD.out
              rw [barL_take (by omega), List.map_append, ← e2, ← e3]
              have e4 : F + ((dep W k : Nat) : Int) = D := by rw [e1, dep_zero]; simp
              rw [e4]
              exact HO7.out
        · have hkn : n = k := by omega
          subst hkn
          clear hlt hk
          have hl : (barL W zs).length = n := by rw [barL_len]; exact HN.out.symm
          have hin : IntsAt wr u9 (barL W zs) := by
            refine intsAt_of_owns (base := w.heap.size + 1) ?_
            have h := HO.out
            rw [List.take_of_length_le (by omega)] at h
            rw [hl]; exact h
          obtain ⟨av, cv, he⟩ := hin.len
          have HI := Lib.hid hin
          have HE := Lib.hid he
          clear hin he
          go_wp2
          refine bodyPost_ret (v := .tuple #[u9, .int .i64 0]) (by simp [results, Tryd.results40, go_sem]) rfl ⟨fun _ => ?_, fun h => absurd HY.out h⟩
          exact ⟨av, cv, by rw [HE.out], by rw [← HE.out]; exact HI.out, HB.out⟩
end Go.Proofs.YtlkcpnhepadenaaDoor
