/- Learning: code.Train's errors. Over this seat's program; the conditions are named in each. -/
import Derived.Test.YtjdcjcanmeangaaGreatTd
namespace Go.Proofs.YtjdcjcanmeangaaGreat
set_option linter.unusedVariables false
open Go.RowKit

/-- The error of a Train. -/
def trE (l : List Smp) (m R : Int) : Int := if smpE l ≠ 0 then smpE l else if (inR m 0 1000000 && inR R 1 1000) = true then 0 else 3
set_option maxRecDepth 100000 in
set_option maxHeartbeats 4000000 in
theorem train_err (l : List Smp) (m R : Int) (E : Int) (hE : trE l m R = E) (h0 : E ≠ 0) (a : Option Addr) (cap : Nat) (hl : l.length ≤ 100000) (hx : ∀ s ∈ l, s.x.length ≤ 100000) (w : World) (hS : SmpsAt w (.slice a l.length cap) l) :
    Calls Tryz.prog 43 #[.slice a l.length cap, .int .i64 m, .int .i64 R] w (TrGot 0 initS false E w) := by
  have hck := fun W (h : SmpsAt W (.slice a l.length cap) l) => checkSamples_any l a cap hl hx W h
  have hb0 : Below w.heap.size w (w.alloc (.cells #[.slice none 0 0, .int .i64 0, .int .i64 0, .bool false] 76)) := (Below.refl _ _).alloc (Nat.le_refl _) _
  have HRX := Lib.hid (show (w.alloc (.cells #[.slice none 0 0, .int .i64 0, .int .i64 0, .bool false] 76)).heap[w.heap.size]? = some (.cells #[.slice none 0 0, .int .i64 0, .int .i64 0, .bool false] 76) from alloc_new_at _ _ _ rfl)
  have HS0 := Lib.hid (hS.below hb0)
  have H0 := Lib.hid hb0
  unfold trE at hE
  obtain ⟨Z, hZ⟩ : ∃ Z, Z = smpE l := ⟨_, rfl⟩
  rw [← hZ] at hE hck
  have HCK := Lib.hid hck
  clear hck hb0 hS hZ
  by_cases hz : Z ≠ 0
  · rw [if_pos hz] at hE
    subst hE
    have gz : (Z != 0) = true := by simpa using hz
    clear hz h0
    go_enter Tryz.func43, Tryz.ntmps43
    go_upto_region 1 with (fail)
    generalize w.alloc (.cells #[.slice none 0 0, .int .i64 0, .int .i64 0, .bool false] 76) = W0 at *
    go_upto_region 3 with (go_at_call 84; refine (HCK.out _ HS0.out).mono ?_; rintro e w1 ⟨rfl, hb1⟩; have B1 := Lib.hid hb1; clear hb1)
    have HRX1 := Lib.hid ((B1.out.block _ (lt_of_block HRX.out)).trans HRX.out)
    have H1 := Lib.hid (H0.out.trans (B1.out.mono H0.out.size))
    obtain ⟨x0, x1, x2, x3, y0, y1, y2, y3⟩ := cells4 HRX1.out
    go_wp2
    obtain ⟨W', hW', f1, f2, f3, f4, f5, f6⟩ := set4 (W := w1) (g := w.heap.size) (.slice none 0 0) (.int .i64 0) (.int .i64 0) (.bool false) HRX1.out
    rw [← hW']
    exact bodyPost_ret (res43 _ f1 _ rfl rfl) rfl ⟨_, rfl, Or.inl ⟨rfl, rfl⟩, below_set4 H1.out (Nat.le_refl _) f2 f3 f4 f5 f6⟩
  · rw [if_neg hz] at hE
    rw [Decidable.not_not] at hz
    subst hz
    by_cases hc : (inR m 0 1000000 && inR R 1 1000) = true
    · rw [if_pos hc] at hE; exact absurd hE.symm h0
    · rw [if_neg hc] at hE
      subst hE
      clear h0
      cases c1 : inR m 0 1000000 with
      | false =>
        clear hc
        have C1 := Lib.hid c1
        clear c1
        go_enter Tryz.func43, Tryz.ntmps43
        go_upto_region 1 with (fail)
        generalize w.alloc (.cells #[.slice none 0 0, .int .i64 0, .int .i64 0, .bool false] 76) = W0 at *
        go_upto_region 5 with (first
          | (go_at_call 84; refine (HCK.out _ HS0.out).mono ?_; rintro e w1 ⟨rfl, hb1⟩; have B1 := Lib.hid hb1; clear hb1)
          | (go_at_call 52; with_reducible refine (within_new 0 1000000 m _).mono ?_; rintro e w2 ⟨rfl, hb2⟩; rw [C1.out]; have B2 := Lib.hid (B1.out.trans (hb2.mono B1.out.size)); clear hb2))
        have HRX1 := Lib.hid ((B2.out.block _ (lt_of_block HRX.out)).trans HRX.out)
        have H1 := Lib.hid (H0.out.trans (B2.out.mono H0.out.size))
        obtain ⟨x0, x1, x2, x3, y0, y1, y2, y3⟩ := cells4 HRX1.out
        go_wp2
        obtain ⟨W', hW', f1, f2, f3, f4, f5, f6⟩ := set4 (W := w2) (g := w.heap.size) (.slice none 0 0) (.int .i64 0) (.int .i64 0) (.bool false) HRX1.out
        rw [← hW']
        exact bodyPost_ret (res43 _ f1 _ rfl rfl) rfl ⟨_, rfl, Or.inl ⟨rfl, rfl⟩, below_set4 H1.out (Nat.le_refl _) f2 f3 f4 f5 f6⟩
      | true =>
        have c2 : inR R 1 1000 = false := by rw [c1] at hc; simpa using hc
        have C1 := Lib.hid c1
        have C2 := Lib.hid c2
        clear c1 c2 hc
        go_enter Tryz.func43, Tryz.ntmps43
        go_upto_region 1 with (fail)
        generalize w.alloc (.cells #[.slice none 0 0, .int .i64 0, .int .i64 0, .bool false] 76) = W0 at *
        go_upto_region 5 with (first
          | (go_at_call 84; refine (HCK.out _ HS0.out).mono ?_; rintro e w1 ⟨rfl, hb1⟩; have B1 := Lib.hid hb1; clear hb1)
          | (go_at_call 52; with_reducible refine (within_new 0 1000000 m _).mono ?_; rintro e w2 ⟨rfl, hb2⟩; rw [C1.out]; have B2 := Lib.hid (B1.out.trans (hb2.mono B1.out.size)); clear hb2)
          | (go_at_call 52; with_reducible refine (within_new 1 1000 R _).mono ?_; rintro e w3 ⟨rfl, hb3⟩; rw [C2.out]; have B3 := Lib.hid (B2.out.trans (hb3.mono B2.out.size)); clear hb3))
        have HRX1 := Lib.hid ((B3.out.block _ (lt_of_block HRX.out)).trans HRX.out)
        have H1 := Lib.hid (H0.out.trans (B3.out.mono H0.out.size))
        obtain ⟨x0, x1, x2, x3, y0, y1, y2, y3⟩ := cells4 HRX1.out
        go_wp2
        obtain ⟨W', hW', f1, f2, f3, f4, f5, f6⟩ := set4 (W := w3) (g := w.heap.size) (.slice none 0 0) (.int .i64 0) (.int .i64 0) (.bool false) HRX1.out
        rw [← hW']
        exact bodyPost_ret (res43 _ f1 _ rfl rfl) rfl ⟨_, rfl, Or.inl ⟨rfl, rfl⟩, below_set4 H1.out (Nat.le_refl _) f2 f3 f4 f5 f6⟩
end Go.Proofs.YtjdcjcanmeangaaGreat
