/- Barriers: the specification's reports. Over this seat's program. -/
import Derived.Test.YtlkcpnhepadenaaDoorBd
namespace Go.Proofs.YtlkcpnhepadenaaDoor
set_option linter.unusedVariables false
open Go.RowKit

/-- What a router has heard of the routers below k. -/
def acc (W : Nat) (t R : Nat → Int) (r : Nat) : Nat → Int
  | 0 => t r
  | k + 1 => if k ≠ r ∧ 0 < k ∧ par W k = r then max (acc W t R r k) (R k + 1) else acc W t R r k
theorem acc_ge (W : Nat) (t R : Nat → Int) (r : Nat) : ∀ k, t r ≤ acc W t R r k
  | 0 => Int.le_refl _
  | k + 1 => by
    have := acc_ge W t R r k
    simp only [acc]; split <;> omega
theorem acc_mono (W : Nat) (t R : Nat → Int) (r : Nat) {k m : Nat} (h : k ≤ m) : acc W t R r k ≤ acc W t R r m := by
  induction h with
  | refl => exact Int.le_refl _
  | step _ ih => simp only [acc]; split <;> omega
theorem acc_le (W : Nat) (t R : Nat → Int) (r : Nat) (c : Int) (h0 : t r ≤ c) : ∀ n, (∀ k, 0 < k → k < n → par W k = r → R k + 1 ≤ c) → acc W t R r n ≤ c
  | 0, _ => h0
  | n + 1, h => by
    have h1 := acc_le W t R r c h0 n fun k a b => h k a (by omega)
    simp only [acc]
    split
    · rename_i hc
      have h2 := h n hc.2.1 (by omega) hc.2.2
      omega
    · exact h1
theorem acc_congr {W : Nat} {t R R' : Nat → Int} {r : Nat} : ∀ n, (∀ k, 0 < k → k < n → par W k = r → R k = R' k) → acc W t R r n = acc W t R' r n
  | 0, _ => rfl
  | n + 1, h => by
    have h1 := acc_congr (W := W) (t := t) (R := R) (R' := R') (r := r) n fun k a b => h k a (by omega)
    simp only [acc]
    split
    · rename_i hc
      rw [h1, h n hc.2.1 (by omega) hc.2.2]
    · exact h1
def repF (W n : Nat) (t : Nat → Int) : Nat → Nat → Int
  | 0, r => t r
  | f + 1, r => acc W t (repF W n t f) r n
theorem repF_same {W n : Nat} (hW : 0 < W) (t : Nat → Int) : ∀ f f' r, n ≤ r + f → n ≤ r + f' → r < n → repF W n t f r = repF W n t f' r
  | 0, _, r, h, _, hr => by omega
  | _ + 1, 0, r, _, h, hr => by omega
  | f + 1, f' + 1, r, h, h', hr => acc_congr n fun k h1 h2 h3 => by
      have := par_lt hW h1
      exact repF_same hW t f f' k (by omega) (by omega) h2
/-- The tick in which a router reports. -/
def rep (W n : Nat) (t : Nat → Int) (r : Nat) : Int := repF W n t (n + 1) r
theorem rep_eq {W n : Nat} (hW : 0 < W) (t : Nat → Int) {r : Nat} (hr : r < n) : rep W n t r = acc W t (rep W n t) r n := by
  show acc W t (repF W n t n) r n = _
  exact acc_congr n fun k h1 h2 h3 => by
    have := par_lt hW h1
    exact repF_same hW t n (n + 1) k (by omega) (by omega) h2
theorem acc_child {W : Nat} {t R : Nat → Int} {r k n : Nat} (hk : k < n) (h0 : 0 < k) (hne : k ≠ r) (hp : par W k = r) : R k + 1 ≤ acc W t R r n := by
  have h1 : R k + 1 ≤ acc W t R r (k + 1) := by
    simp only [acc]; rw [if_pos ⟨hne, h0, hp⟩]; omega
  exact Int.le_trans h1 (acc_mono W t R r hk)
theorem rep_last {W n : Nat} (hW : 0 < W) (hn : 0 < n) (t : Nat → Int) : rep W n t 0 = last W t n := by
  refine reports_last hW hn (fun r hr => ?_) (fun k h0 hk => ?_) (fun r c hr h1 h2 => ?_)
  · rw [rep_eq hW t hr]; exact acc_ge _ _ _ _ _
  · have hp := par_lt hW h0
    rw [rep_eq hW t (r := par W k) (by omega)]
    exact acc_child hk h0 (by omega) rfl
  · rw [rep_eq hW t hr]; exact acc_le _ _ _ _ _ h1 _ h2
theorem rep_le {W n : Nat} (hW : 0 < W) (t : Nat → Int) : ∀ m r, r < n → n - r ≤ m → rep W n t r + (dep W r : Nat) ≤ last W t n
  | 0, r, hr, hm => by omega
  | m + 1, r, hr, hm => by
    have hl := last_ge (W := W) (t := t) hr
    have h1 := acc_le W t (rep W n t) r (last W t n - (dep W r : Nat)) (by omega) n fun k h0 hk hp => by
      have hlt := par_lt hW h0
      have hd := dep_par hW h0
      rw [hp] at hlt hd
      have := rep_le hW t m k hk (by omega)
      omega
    rw [← rep_eq hW t hr] at h1
    omega

def RSpecAt (W : World) (b : Nat) (A H R : Int) : Prop := W.heap[b]? = some (.cells #[.int .i64 A, .int .i64 H, .int .i64 R] 23)
theorem RSpecAt.cells {W : World} {b : Nat} {A H R : Int} (h : RSpecAt W b A H R) : W.cell? ⟨b, 0, none⟩ = some (.int .i64 A) ∧ W.cell? ⟨b, 1, none⟩ = some (.int .i64 H) ∧ W.cell? ⟨b, 2, none⟩ = some (.int .i64 R) := cells3 h
theorem RSpecAt.lt {W : World} {b : Nat} {A H R : Int} (h : RSpecAt W b A H R) : b < W.heap.size := (Array.getElem?_eq_some_iff.1 h).1
/-- At b, from off on, the numbers t 0 .. t (n - 1). -/
def SlAt (W : World) (b off n : Nat) (t : Nat → Int) : Prop := b < W.heap.size ∧ ∀ k, k < n → W.cell? ⟨b, off + k, none⟩ = some (.int .i64 (t k))
theorem SlAt.below {w W : World} {b off n : Nat} {t : Nat → Int} (h : SlAt w b off n t) (hb : Below w.heap.size w W) : SlAt W b off n t :=
  ⟨Nat.lt_of_lt_of_le h.1 hb.size, fun k hk => (hb.cell (p := ⟨b, off + k, none⟩) h.1).trans (h.2 k hk)⟩

set_option maxRecDepth 100000 in
set_option maxHeartbeats 1000000 in
theorem reports_any (W H n : Nat) (R : Int) (hW1 : 1 ≤ W) (hW2 : W ≤ 8) (n1 : 1 ≤ n) (n2 : n ≤ 64) (b off cap : Nat) (t : Nat → Int) (ht : ∀ k, k < n → 0 ≤ t k) (hF : last W t n ≤ 10014) :
    ∀ m r, r < n → n - r ≤ m → ∀ w, SlAt w b off n t → Calls Tryd.prog 76 #[.agg #[.int .i64 W, .int .i64 H, .int .i64 R], .slice (some ⟨b, off, none⟩) n cap, .int .i64 (r : Int)] w fun e w' => e = .returned (.int .i64 (rep W n t r)) ∧ Below w.heap.size w w' := by
  intro m
  induction m with
  | zero => intro r hr hm; omega
  | succ m ih =>
    intro r hr hm w hsl
    have hrec := rep_eq hW1 t hr
    have hrl := rep_le hW1 t (n - r) r hr (Nat.le_refl _)
    have hrb : rep W n t r ≤ 10014 := by omega
    have hab : ∀ k, 0 < k → k < n → ∀ w, Calls Tryd.prog 77 #[.agg #[.int .i64 (W : Int), .int .i64 H, .int .i64 R], .int .i64 (k : Int)] w fun e w' => e = .returned (.int .i64 ((par W k : Nat) : Int)) ∧ Below w.heap.size w w' := fun k h1 h2 => above_any W k H R hW1 hW2 h1 (by omega)
    obtain ⟨X, hX⟩ : ∃ X, X = rep W n t r := ⟨_, rfl⟩
    rw [← hX] at hrec hrb ⊢
    have hcr := hsl.2 r hr
    have hbl := hsl.1
    obtain ⟨C, hC⟩ : ∃ C, C = t r := ⟨_, rfl⟩
    rw [← hC] at hcr
    have HX := Lib.hid hX
    have HREC := Lib.hid hrec
    have HC := Lib.hid hC
    have HSL := Lib.hid hsl
    have HT := Lib.hid ht
    have HAB := Lib.hid hab
    have HIH := Lib.hid ih
    have HF := Lib.hid hF
    clear hX hrec hC hsl ht hab ih hF hrl
    have hr1 : (0 : Int) ≤ (r : Int) := Int.natCast_nonneg _
    have hr2 : (r : Int) < (n : Int) := by omega
    go_enter Tryd.func76, Tryd.ntmps76
    go_wp2
    have s0 : RSpecAt (w.alloc (.cells #[.int .i64 W, .int .i64 H, .int .i64 R] 23)) w.heap.size W H R := alloc_new_at _ _ _ rfl
    have b0 : Below w.heap.size w (w.alloc (.cells #[.int .i64 W, .int .i64 H, .int .i64 R] 23)) := (Below.refl _ _).alloc (Nat.le_refl _) _
    have S0 := Lib.hid s0
    have B0 := Lib.hid b0
    clear s0 b0
    go_loopw [7, 8] (fun s7 s8 wr => ∃ k : Nat, 1 ≤ k ∧ k ≤ n ∧ s8 = .int .i64 k ∧ s7 = .int .i64 (acc W t (rep W n t) r k) ∧ RSpecAt wr w.heap.size W H R ∧ Below w.heap.size w wr) (fun _ s8 _ => n - (intOf s8).toNat)
    case atStart => exact ⟨1, Nat.le_refl _, n1, by go_num, by rw [HC.out]; simp [acc], S0.out, B0.out⟩
    case round =>
      obtain ⟨k, hk1, hk2, rfl, rfl, hs, hb⟩ := hrel
      have hzr : w.heap.size < wr.heap.size := hs.lt
      obtain ⟨A, hA⟩ : ∃ A, A = acc W t (rep W n t) r k := ⟨_, rfl⟩
      have hA1 : A ≤ X := by rw [hA, HREC.out]; exact acc_mono _ _ _ _ hk2
      have hA0 : 0 ≤ A := by
        have h1 := acc_ge W t (rep W n t) r k
        have h2 := HT.out r hr
        omega
      rw [← hA]
      have HS := Lib.hid hs
      have HB := Lib.hid hb
      have HA := Lib.hid hA
      clear hA hb
      by_cases hlt : k < n
      · have hk3 : (0 : Int) ≤ (k : Int) := Int.natCast_nonneg _
        obtain ⟨_, _, _⟩ := hs.cells
        have hcall := HAB.out k (by omega) hlt
        obtain ⟨P, hP⟩ : ∃ P, P = par W k := ⟨_, rfl⟩
        rw [← hP] at hcall
        have HCALL := Lib.hid hcall
        have HP := Lib.hid hP
        clear hcall hP hs
        by_cases hkr : k = r
        · have g1 : ((k : Int) != (r : Int)) = false := by simp [hkr]
          have HKR := Lib.hid hkr
          clear hkr
          go_wp2
          go_roundw
          case rel => exact ⟨k + 1, by omega, by omega, by go_num, by simp only [acc]; rw [if_neg (fun h => h.1 HKR.out), ← HA.out], HS.out, HB.out⟩
          case measure => simp [intOf]; omega
        · have g1 : ((k : Int) != (r : Int)) = true := by simp; omega
          have HKR := Lib.hid hkr
          clear hkr
          by_cases hPr : P = r
          · have g2 : ((P : Int) == (r : Int)) = true := by simp [hPr]
            have HPR := Lib.hid hPr
            clear hPr
            have hkr2 : r < k := by
              have := par_lt (W := W) (k := k) (by omega) (by omega)
              have h1 := HP.out
              have h2 := HPR.out
              omega
            have hih := HIH.out k hlt (by omega)
            obtain ⟨Y, hY⟩ : ∃ Y, Y = rep W n t k := ⟨_, rfl⟩
            have hY1 : Y + 1 ≤ X := by
              rw [hY, HREC.out]
              exact acc_child hlt (by omega) HKR.out (by rw [← HP.out]; exact HPR.out)
            have hY0 : 0 ≤ Y := by
              have h1 := acc_ge W t (rep W n t) k n
              rw [← rep_eq hW1 t hlt] at h1
              have h2 := HT.out k hlt
              omega
            rw [← hY] at hih
            have HI := Lib.hid hih
            have HY := Lib.hid hY
            clear hih hY
            go_wp2_with (first | (go_at_call 77; refine (HCALL.out _).mono ?_; rintro e w4 ⟨rfl, hb4⟩; have hz4 : wr.heap.size ≤ w4.heap.size := hb4.size; obtain ⟨_, _, _⟩ := RSpecAt.cells (A := W) (H := H) (R := R) ((hb4.block _ hzr).trans HS.out); have HB4 := Lib.hid hb4; clear hb4) | (go_at_call 76; refine (HI.out _ ((HSL.out.below HB.out).below HB4.out)).mono ?_; rintro e w5 ⟨rfl, hb5⟩; have HB5 := Lib.hid hb5; clear hb5))
            go_roundw
            case rel =>
              refine ⟨k + 1, by omega, by omega, by go_num, ?_, (HB5.out.block _ (by omega)).trans ((HB4.out.block _ hzr).trans HS.out), (HB.out.trans (HB4.out.mono (by omega))).trans (HB5.out.mono (by omega))⟩
              have e1 := HA.out
              have e2 := HY.out
              have hc : k ≠ r ∧ 0 < k ∧ par W k = r := ⟨HKR.out, by omega, by rw [← HP.out]; exact HPR.out⟩
              simp only [acc]
              rw [if_pos hc, ← e1, ← e2]
              congr 1
              split <;> omega
            case measure => simp [intOf]; omega
          · have g2 : ((P : Int) == (r : Int)) = false := by simp; omega
            have HPR := Lib.hid hPr
            clear hPr
            go_wp2_with (go_at_call 77; refine (HCALL.out _).mono ?_; rintro e w4 ⟨rfl, hb4⟩; have HB4 := Lib.hid hb4; clear hb4)
            go_roundw
            case rel => exact ⟨k + 1, by omega, by omega, by go_num, by simp only [acc]; rw [if_neg (fun h => HPR.out (HP.out.trans h.2.2)), ← HA.out], (HB4.out.block _ hzr).trans HS.out, HB.out.trans (HB4.out.mono (by omega))⟩
            case measure => simp [intOf]; omega
      · have hkn : n = k := by omega
        subst hkn
        clear hlt hk2 hs
        go_wp2
        go_ret
        exact ⟨by rw [HA.out, ← HREC.out]; rfl, HB.out⟩
end Go.Proofs.YtlkcpnhepadenaaDoor
