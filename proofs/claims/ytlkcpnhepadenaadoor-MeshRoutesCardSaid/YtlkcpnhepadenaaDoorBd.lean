/- Barriers: mesh.Barrier. Over this seat's program. -/
import Derived.Test.YtlkcpnhepadenaaDoorBc
namespace Go.Proofs.YtlkcpnhepadenaaDoor
set_option linter.unusedVariables false
open Go.RowKit

def SpecAt (W : World) (b : Nat) (A H R : Int) : Prop := W.heap[b]? = some (.cells #[.int .i64 A, .int .i64 H, .int .i64 R] 26)
theorem SpecAt.cells {W : World} {b : Nat} {A H R : Int} (h : SpecAt W b A H R) : W.cell? ⟨b, 0, none⟩ = some (.int .i64 A) ∧ W.cell? ⟨b, 1, none⟩ = some (.int .i64 H) ∧ W.cell? ⟨b, 2, none⟩ = some (.int .i64 R) := cells3 h
/-- A slice of these numbers, and this error. -/
def BarGot (L : List Int) (er : Int) (w : World) (e : Ending) (w' : World) : Prop :=
  ∃ a cap, e = .returned (.tuple #[.slice a L.length cap, .int .i64 er]) ∧ IntsAt w' (.slice a L.length cap) L ∧ Below w.heap.size w w'
theorem barGot_nil {er : Int} {w w' : World} (h : Below w.heap.size w w') : BarGot [] er w (.returned (.tuple #[.slice none 0 0, .int .i64 er])) w' :=
  ⟨none, 0, rfl, Or.inl ⟨rfl, rfl⟩, h⟩
def timeOf (zs : List Int) : Nat → Int := fun j => zs[j]?.getD 0
def barL (W : Nat) (zs : List Int) : List Int := (List.range zs.length).map fun j => last W (timeOf zs) zs.length + (dep W j : Nat)
def allIn (zs : List Int) : Prop := ∀ z ∈ zs, inR z 0 10000 = true
/-- What Barrier returns on a mesh of as many routers. -/
def BarDone (W : Nat) (zs : List Int) (w : World) (e : Ending) (w' : World) : Prop := (allIn zs → BarGot (barL W zs) 0 w e w') ∧ (¬ allIn zs → BarGot [] 3 w e w')
theorem barL_len (W : Nat) (zs : List Int) : (barL W zs).length = zs.length := by simp [barL]

set_option maxRecDepth 100000 in
set_option maxHeartbeats 1000000 in
theorem barrier_err (A H R : Int) (hc : chkM A H R ≠ 0) (sv : Value) (w : World) :
    Calls Tryd.prog 39 #[.agg #[.int .i64 A, .int .i64 H, .int .i64 R], sv] w (BarGot [] (chkM A H R) w) := by
  obtain ⟨X, hX⟩ : ∃ X : Int, X = chkM A H R := ⟨_, rfl⟩
  have hch := check_any A H R
  rw [← hX] at hc hch ⊢
  have hne : (X != 0) = true := by simp [hc]
  clear hc hX
  go_enter Tryd.func39, Tryd.ntmps39
  go_wp2_with (go_at_call 17; refine (hch _).mono ?_; rintro e w1 ⟨rfl, hb1⟩)
  exact bodyPost_ret (v := .tuple #[.slice none 0 0, .int .i64 X]) (by simp [results, Tryd.results39, go_sem]) rfl (barGot_nil (((Below.refl _ _).alloc (Nat.le_refl _) _).trans (hb1.mono (by simp))))

set_option maxRecDepth 100000 in
set_option maxHeartbeats 1000000 in
theorem barrier_shape (A H R : Int) (hc : chkM A H R = 0) (a : Option Addr) (n cap : Nat) (hl : n ≤ 4611686018427387904) (hn : (n : Int) ≠ A * H) (w : World) :
    Calls Tryd.prog 39 #[.agg #[.int .i64 A, .int .i64 H, .int .i64 R], .slice a n cap] w (BarGot [] 13 w) := by
  have hch := check_any A H R
  obtain ⟨⟨a1, a2⟩, ⟨b1, b2⟩, _⟩ := chkM_ok hc
  rw [hc] at hch
  obtain ⟨X, hX⟩ : ∃ X : Int, A * H = X := ⟨_, rfl⟩
  rw [hX] at hn
  have x1 : 1 ≤ X := by rw [← hX]; have := Int.mul_le_mul a1 b1 (by decide) (by omega); omega
  have x2 : X ≤ 64 := by rw [← hX]; have := Int.mul_le_mul a2 b2 (by omega) (by decide); omega
  have hrt := routers_any A H R ⟨a1, a2⟩ ⟨b1, b2⟩ X hX x1 x2
  have hne : ((n : Int) != X) = true := by simp [hn]
  clear hc hX hn
  go_enter Tryd.func39, Tryd.ntmps39
  go_wp2_with (first | (go_at_call 17; refine (hch _).mono ?_; rintro e w1 ⟨rfl, hb1⟩; have hz1 : w.heap.size < w1.heap.size := (by have h9 := hb1.size; simp at h9; omega); have hx1 := (hb1.block w.heap.size (by simp)).trans (alloc_new_at _ _ _ rfl); obtain ⟨_, _, _⟩ := cells3 hx1) | (go_at_call 55; refine (hrt _).mono ?_; rintro e w2 ⟨rfl, hb2⟩))
  exact bodyPost_ret (v := .tuple #[.slice none 0 0, .int .i64 13]) (by simp [results, Tryd.results39, go_sem]) rfl (barGot_nil ((((Below.refl _ _).alloc (Nat.le_refl _) _).trans (hb1.mono (by simp))).trans (hb2.mono (by omega))))

theorem SpecAt.lt {W : World} {b : Nat} {A H R : Int} (h : SpecAt W b A H R) : b < W.heap.size := (Array.getElem?_eq_some_iff.1 h).1
/-- Reports have come together down to m. -/
def BarI (W n : Nat) (R : Int) (H : Nat) (F : Int) (w : World) (g m : Nat) (wr : World) : Prop :=
  ∃ t, TimesAt wr g n t ∧ SpecAt wr w.heap.size W H R ∧ Below w.heap.size w wr ∧ w.heap.size < g ∧ (∀ j, j < n → 0 ≤ t j ∧ t j + (dep W j : Nat) ≤ F) ∧ mx (fun j => t j + (dep W j : Nat)) m = F
/-- Releases have spread up to j. -/
def BarU (W n : Nat) (R : Int) (H : Nat) (F : Int) (w : World) (g j : Nat) (wr : World) : Prop :=
  ∃ t, TimesAt wr g n t ∧ SpecAt wr w.heap.size W H R ∧ Below w.heap.size w wr ∧ w.heap.size < g ∧ ∀ q, q < j → t q = F + (dep W q : Nat)

set_option maxRecDepth 100000 in
set_option maxHeartbeats 600000 in
theorem barrier_ok (W H : Nat) (R : Int) (hc : chkM W H R = 0) (a : Option Addr) (n cap : Nat) (zs : List Int) (hn : n = zs.length) (hWH : n = W * H) (w : World) (hI : IntsAt w (.slice a n cap) zs) :
    Calls Tryd.prog 39 #[.agg #[.int .i64 W, .int .i64 H, .int .i64 R], .slice a n cap] w
      (BarDone W zs w) := by
  have hch := check_any W H R
  obtain ⟨⟨a1, a2⟩, ⟨b1, b2⟩, _⟩ := chkM_ok hc
  rw [hc] at hch
  have w1' : 1 ≤ W := by omega
  have w2' : W ≤ 8 := by omega
  have n1 : 1 ≤ n := by rw [hWH]; exact Nat.mul_pos w1' (by omega)
  have n2 : n ≤ 64 := by rw [hWH]; exact Nat.mul_le_mul w2' (by omega : H ≤ 8)
  have hX : (W : Int) * (H : Int) = (n : Int) := by rw [hWH]; simp
  have hrt := routers_any W H R ⟨a1, a2⟩ ⟨b1, b2⟩ n hX (by omega) (by omega)
  have hne : ((n : Int) != (n : Int)) = false := by simp
  obtain ⟨b, off, rfl, _⟩ := intsAt_cell hI 0 (by omega)
  have g1 : ∀ k, k < n → w.cell? ⟨b, off + k, none⟩ = some (.int .i64 (timeOf zs k)) ∧ b < w.heap.size := fun k hk => by
    obtain ⟨b', o', e, hc⟩ := intsAt_cell hI k (by omega)
    cases e; exact ⟨hc, World.block_lt_of_cell? w _ hc⟩
  have hcl : ∀ w1, Below w.heap.size w w1 → Calls Tryd.prog 74 #[.slice (some ⟨b, off, none⟩) n cap] w1 (Cloned n zs w1) := fun w1 hb => clone_any _ n cap zs hn (by omega) (by omega) w1 (hI.below hb)
  have hrp : ∀ k, 0 < k → k < n → ∀ w, Calls Tryd.prog 75 #[.agg #[.int .i64 (W : Int), .int .i64 H, .int .i64 R], .int .i64 (k : Int)] w fun e w' => e = .returned (.int .i64 ((par W k : Nat) : Int)) ∧ Below w.heap.size w w' := fun k h1 h2 => reportsTo_any W k H R w1' w2' h1 (by omega)
  have G1 := Lib.hid g1
  have HC := Lib.hid hcl
  have HR := Lib.hid hrp
  have HN := Lib.hid hn
  have HWH := Lib.hid hWH
  clear hc hX g1 hcl hrp hI hn hWH
  go_enter Tryd.func39, Tryd.ntmps39
  go_wp2_with (first | (go_at_call 17; refine (hch _).mono ?_; rintro e w1 ⟨rfl, hb1⟩; have hz1 : w.heap.size < w1.heap.size := (by have h9 := hb1.size; simp at h9; omega); have hx1 := (hb1.block w.heap.size (by simp)).trans (alloc_new_at _ _ _ rfl); obtain ⟨_, _, _⟩ := cells3 hx1) | (go_at_call 55; refine (hrt _).mono ?_; rintro e w2 ⟨rfl, hb2⟩))
  have hbel : Below w.heap.size w w2 := (((Below.refl _ _).alloc (Nat.le_refl _) _).trans (hb1.mono (by simp))).trans (hb2.mono (by omega))
  have hsp : SpecAt w2 w.heap.size W H R := (hb2.block _ hz1).trans hx1
  have hz2 : w.heap.size < w2.heap.size := Nat.lt_of_lt_of_le hz1 hb2.size
  have HB2 := Lib.hid hbel
  have HS2 := Lib.hid hsp
  clear hb1 hb2 hx1 hbel hsp hch hrt hne
  go_loopw [25] (fun i wr => ∃ k : Nat, k ≤ n ∧ i = .int .i64 k ∧ wr = w2 ∧ ∀ j, j < k → inR (timeOf zs j) 0 10000 = true) (fun i _ => n - (intOf i).toNat)
  case atStart => exact ⟨0, Nat.zero_le _, rfl, by trivial, fun _ h => by omega⟩
  case round =>
    obtain ⟨k, hk, rfl, rfl, hok⟩ := hrel
    have HOK := Lib.hid hok
    clear hok
    by_cases hlt : k < n
    · obtain ⟨x, hx⟩ : ∃ x, x = timeOf zs k := ⟨_, rfl⟩
      have c1 : wr.cell? ⟨b, off + k, none⟩ = some (.int .i64 x) := by rw [hx]; exact (HB2.out.cell (p := ⟨b, off + k, none⟩) (G1.out k hlt).2).trans (G1.out k hlt).1
      have HX := Lib.hid hx
      clear hx
      have hi0 : (0 : Int) ≤ (k : Int) := Int.natCast_nonneg _
      have hi1 : (k : Int) < (n : Int) := by omega
      obtain ⟨r, hr⟩ : ∃ r, r = inR x 0 10000 := ⟨_, rfl⟩
      have hA := among_any x 0 10000
      rw [← hr] at hA
      have HA := Lib.hid hA
      have HRR := Lib.hid hr
      clear hA hr
      cases r with
      | true =>
        go_wp2_with (go_at_call 49; refine (HA.out _).mono ?_; rintro e w' ⟨rfl, rfl⟩)
        go_roundw
        case rel => exact ⟨k + 1, by omega, by go_num, by trivial, fun j hj => by
          rcases Nat.lt_or_ge j k with h | h
          · exact HOK.out j h
          · have : j = k := by omega
            subst this; rw [← HX.out]; exact HRR.out.symm⟩
        case measure => simp [intOf]; omega
      | false =>
        go_wp2_with (go_at_call 49; refine (HA.out _).mono ?_; rintro e w' ⟨rfl, rfl⟩)
        have hno : ¬ allIn zs := fun h => by
          have h1 := HN.out
          have h2 := HX.out
          have h3 := h (timeOf zs k) (by unfold timeOf; rw [List.getElem?_eq_getElem (by omega)]; exact List.getElem_mem _)
          rw [← h2, ← HRR.out] at h3; cases h3
        exact bodyPost_ret (v := .tuple #[.slice none 0 0, .int .i64 3]) (by simp [results, Tryd.results39, go_sem]) rfl ⟨fun h => absurd h hno, fun _ => barGot_nil HB2.out⟩
    · have hkn : n = k := by omega
      clear hlt hk
      subst hkn
      have hyes : allIn zs := fun z hz => by
        obtain ⟨j, hj, rfl⟩ := List.getElem_of_mem hz
        have h1 := HN.out
        have := HOK.out j (by omega)
        unfold timeOf at this
        rw [List.getElem?_eq_getElem hj] at this; exact this
      have HY := Lib.hid hyes
      have hbd : ∀ j, j < n → 0 ≤ timeOf zs j ∧ timeOf zs j ≤ 10000 := fun j hj => inR_true.1 (HOK.out j hj)
      have HBD := Lib.hid hbd
      clear hyes hbd HOK
      obtain ⟨_, _, _⟩ := HS2.out.cells
      go_wp2_with (go_at_call 74; refine (HC.out _ HB2.out).mono ?_; rintro e w3 ⟨g, c, rfl, hg3, ht3, hb3⟩; have HT3 := Lib.hid ht3; have HB3 := Lib.hid hb3; clear ht3 hb3)
      have t0 : BarI W n R H (last W (timeOf zs) n) w g (n - 1) w3 := by
        refine ⟨timeOf zs, HT3.out, (HB3.out.block _ hz2).trans HS2.out, HB2.out.trans (HB3.out.mono (Nat.le_of_lt hz2)), Nat.lt_of_lt_of_le hz2 hg3, fun j hj => ⟨(HBD.out j hj).1, last_ge hj⟩, rfl⟩
      have hF : last W (timeOf zs) n ≤ 10014 := by
        have h := last_le (W := W) (H := H) (t := timeOf zs) (n := n) (c := 10000) (by omega) HWH.out (by omega) (fun j hj => (HBD.out j hj).2)
        have h9 : ((W + H - 2 : Nat) : Int) ≤ 14 := by omega
        omega
      have hF0 : 0 ≤ last W (timeOf zs) n := by
        have h1 := last_ge (W := W) (t := timeOf zs) (n := n) (j := 0) (by omega)
        have h2 := (HBD.out 0 (by omega)).1
        omega
      obtain ⟨F, hFd⟩ : ∃ F, F = last W (timeOf zs) n := ⟨_, rfl⟩
      rw [← hFd] at t0 hF hF0
      have HF0 := Lib.hid hF0
      clear hF0
      have HFD := Lib.hid hFd
      have HT0 := Lib.hid t0
      have HG3 := Lib.hid hg3
      clear hFd t0 hg3 HT3 HB3 HBD
      go_loopw [10] (fun i wr => ∃ m : Nat, m < n ∧ i = .int .i64 m ∧ BarI W n R H F w g m wr) (fun i _ => (intOf i).toNat)
      case atStart => exact ⟨n - 1, by omega, by go_num, HT0.out⟩
      case round =>
        obtain ⟨m, hm, rfl, hI⟩ := hrel
        cases m with
        | zero =>
          have HI := Lib.hid hI
          clear hI
          rw [show ((0 : Nat) : Int) = 0 from rfl]
          go_wp2
          obtain ⟨t, ht, hs, hb, hgw, htb, hmx⟩ := HI.out
          have u0 : BarU W n R H F w g 1 wr := ⟨t, ht, hs, hb, hgw, fun q hq => by
            have : q = 0 := by omega
            subst this; exact (by have h9 := hmx; simp [mx, dep_zero] at h9; simp [dep_zero, h9])⟩
          have HU0 := Lib.hid u0
          clear u0 ht hs hb htb hmx HI
          go_loopw [12] (fun i wr => ∃ j : Nat, 1 ≤ j ∧ j ≤ n ∧ i = .int .i64 j ∧ BarU W n R H F w g j wr) (fun i _ => n - (intOf i).toNat)
          case atStart => exact ⟨1, by omega, by omega, by go_num, HU0.out⟩
          case round =>
            obtain ⟨j, hj1, hj2, rfl, hI⟩ := hrel
            obtain ⟨t, ht, hs, hb, hgw, htF⟩ := hI
            have HT := Lib.hid ht
            have HS := Lib.hid hs
            have HB := Lib.hid hb
            have HTF := Lib.hid htF
            have hzr : w.heap.size < wr.heap.size := hs.lt
            have hgr : g < wr.heap.size := ht.lt
            clear htF hb
            by_cases hlt : j < n
            · obtain ⟨_, _, _⟩ := hs.cells
              have hpl := par_lt (W := W) (k := j) (by omega) (by omega)
              have hdp := dep_par (W := W) (k := j) (by omega) (by omega)
              have hcall := HR.out j (by omega) hlt
              have hdl := dep_le (W := W) (H := H) (k := j) (by omega) (by have := HWH.out; omega)
              obtain ⟨P, hP⟩ : ∃ P, P = par W j := ⟨_, rfl⟩
              rw [← hP] at hpl hdp hcall
              obtain ⟨A, hA⟩ : ∃ A, A = t P := ⟨_, rfl⟩
              have hA2 : A = F + (dep W P : Nat) := hA.trans (HTF.out P hpl)
              have A1 : A ≤ 10100 := by omega
              have A0 : -10100 ≤ A := by
                have h9 := HF0.out
                omega
              have HP := Lib.hid hP
              have HA := Lib.hid hA
              have HA2 := Lib.hid hA2
              have HCALL := Lib.hid hcall
              have HDP := Lib.hid hdp
              clear ht hs hP hA hA2 hcall hdp hdl
              have hm1 : (0 : Int) ≤ (j : Int) := Int.natCast_nonneg _
              have hm2 : (j : Int) < (n : Int) := by omega
              have hP1 : (0 : Int) ≤ (P : Int) := Int.natCast_nonneg _
              have hP2 : (P : Int) < (n : Int) := by omega
              go_wp2_with (go_at_call 75; refine (HCALL.out _).mono ?_; rintro e w4 ⟨rfl, hb4⟩; have ht4 : TimesAt w4 g n t := HT.out.of_block (hb4.block _ hgr); obtain ⟨c1, f1⟩ := ht4.cell (j := P) (by omega); obtain ⟨c2, f2⟩ := ht4.cell (j := j) hlt; rw [← HA.out] at c1; have HT4 := Lib.hid ht4; have HB4 := Lib.hid hb4; clear ht4 hb4)
              have hzr4 : wr.heap.size ≤ w4.heap.size := HB4.out.size
              go_roundw
              case rel =>
                refine ⟨j + 1, by omega, by omega, by go_num, fun i => if i = j then A + 1 else t i, ?_, ?_, ?_, hgw, fun q hq => ?_⟩
                · exact TimesAt.set (t' := fun i => if i = j then A + 1 else t i) (x := A + 1) HT4.out (j := j) hlt fun q => rfl
                · refine ((Below.heap_setCell _ _ _ _ (by show w.heap.size ≠ g; omega)).trans ?_ : (w4.setCell ⟨g, j, none⟩ _).heap[w.heap.size]? = _)
                  exact (HB4.out.block _ hzr).trans HS.out
                · exact (HB.out.trans (HB4.out.mono (by omega))).setCell (p := ⟨g, j, none⟩) (by show w.heap.size ≤ g; omega) _
                · show (if q = j then A + 1 else t q) = _
                  by_cases hqj : q = j
                  · subst hqj
                    rw [if_pos rfl, HA2.out]
                    have := HDP.out
                    omega
                  · rw [if_neg hqj]; exact HTF.out q (by omega)
              case measure => simp [intOf]; omega
            · have hjn : n = j := by omega
              subst hjn
              clear hlt hj2
              have hin : IntsAt wr (.slice (some ⟨g, 0, none⟩) n c) (barL W zs) := by
                have hl : (barL W zs).length = n := by rw [barL_len]; exact HN.out.symm
                have h := HT.out.ints (cap := c) (L := barL W zs) hl fun j hj => by
                  rw [HTF.out j hj, HFD.out]
                  simp [barL, ← HN.out, hj]
                rw [hl] at h; exact h
              have HI2 := Lib.hid hin
              clear hin ht hs
              go_wp2
              refine bodyPost_ret (v := .tuple #[.slice (some ⟨g, 0, none⟩) n c, .int .i64 0]) (by simp [results, Tryd.results39, go_sem]) rfl ⟨fun _ => ?_, fun h => absurd HY.out h⟩
              have hl : (barL W zs).length = n := by rw [barL_len]; exact HN.out.symm
              exact ⟨some ⟨g, 0, none⟩, c, by rw [hl], by rw [hl]; exact HI2.out, HB.out⟩
        | succ m =>
          obtain ⟨t, ht, hs, hb, hgw, htb, hmx⟩ := hI
          obtain ⟨_, _, _⟩ := hs.cells
          have hzr : w.heap.size < wr.heap.size := hs.lt
          have hgr : g < wr.heap.size := ht.lt
          have hpl := par_lt (W := W) (k := m + 1) (by omega) (by omega)
          have hdp := dep_par (W := W) (k := m + 1) (by omega) (by omega)
          have hcall := HR.out (m + 1) (by omega) hm
          obtain ⟨P, hP⟩ : ∃ P, P = par W (m + 1) := ⟨_, rfl⟩
          rw [← hP] at hpl hdp hcall
          obtain ⟨A, hA⟩ : ∃ A, A = t P := ⟨_, rfl⟩
          obtain ⟨C, hC⟩ : ∃ C, C = t (m + 1) := ⟨_, rfl⟩
          have hA1 := htb P (by omega)
          have hC1 := htb (m + 1) hm
          rw [← hA] at hA1
          rw [← hC] at hC1
          have A0 : 0 ≤ A := hA1.1
          have A1 : A ≤ 10014 := by omega
          have C0 : 0 ≤ C := hC1.1
          have C1 : C ≤ 10014 := by omega
          have HT := Lib.hid ht
          have HS := Lib.hid hs
          have HB := Lib.hid hb
          have HTB := Lib.hid htb
          have HMX := Lib.hid hmx
          have HP := Lib.hid hP
          have HA := Lib.hid hA
          have HC := Lib.hid hC
          have HCALL := Lib.hid hcall
          have HDP := Lib.hid hdp
          clear ht hs hb htb hmx hP hA hC hcall hdp hA1 hC1
          have hm1 : (0 : Int) ≤ ((m + 1 : Nat) : Int) := Int.natCast_nonneg _
          have hm2 : ((m + 1 : Nat) : Int) < (n : Int) := by omega
          have hP1 : (0 : Int) ≤ (P : Int) := Int.natCast_nonneg _
          have hP2 : (P : Int) < (n : Int) := by omega
          have gm : ((0 : Int) < ((m + 1 : Nat) : Int)) = True := by simp <;> omega
          go_wp2_with (go_at_call 75; refine (HCALL.out _).mono ?_; rintro e w4 ⟨rfl, hb4⟩; have ht4 : TimesAt w4 g n t := HT.out.of_block (hb4.block _ hgr); obtain ⟨c1, f1⟩ := ht4.cell (j := P) (by omega); obtain ⟨c2, f2⟩ := ht4.cell (j := m + 1) (by omega); rw [← HA.out] at c1; rw [← HC.out] at c2; have HT4 := Lib.hid ht4; have HB4 := Lib.hid hb4; clear ht4 hb4)
          have hzr4 : wr.heap.size ≤ w4.heap.size := HB4.out.size
          go_region
          go_wp2
          refine ⟨⟨m, by omega, rfl, tell W (m + 1) t, ?_, ?_, ?_, hgw, fun j hj => ?_, ?_⟩, by simp [intOf]⟩
          · refine TimesAt.of_block (TimesAt.set (t' := tell W (m + 1) t) (x := if A < C + 1 then C + 1 else A) HT4.out (j := P) (by omega) fun q => ?_) rfl
            have e1 := HP.out
            have e2 := HA.out
            have e3 := HC.out
            unfold tell
            rw [← e1]
            by_cases hq : q = P
            · subst hq
              rw [if_pos rfl, if_pos rfl, ← e2, ← e3]
              split <;> omega
            · rw [if_neg hq, if_neg hq]
          · refine ((Below.heap_setCell _ _ _ _ (by show w.heap.size ≠ g; omega)).trans ?_ : (w4.setCell ⟨g, P, none⟩ _).heap[w.heap.size]? = _)
            exact (HB4.out.block _ hzr).trans HS.out
          · exact ((HB.out.trans (HB4.out.mono (by omega))).setCell (p := ⟨g, P, none⟩) (by show w.heap.size ≤ g; omega) _).drew
          · have e1 := HP.out
            have e2 := HA.out
            have e3 := HC.out
            have e4 := HDP.out
            have hj1 := HTB.out j hj
            have hm3 := HTB.out (m + 1) hm
            unfold tell
            rw [← e1]
            by_cases hq : j = P
            · subst hq
              rw [if_pos rfl]
              omega
            · rw [if_neg hq]; exact hj1
          · exact (tell_last (W := W) (i := m) (by omega) t).trans HMX.out
end Go.Proofs.YtlkcpnhepadenaaDoor
