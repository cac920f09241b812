/- Codes: Unrate of both packages. Over this seat's program; the conditions are named in each. (mk_Ad.py wrote this.) -/
import Derived.Test.YtjdcjcanmeangaaGreatAc
namespace Go.Proofs.YtjdcjcanmeangaaGreat
set_option linter.unusedVariables false
open Go.RowKit

/-- The value k can have so many spikes. -/
def unP (m n : Nat) (c lost : Int) (k : Nat) : Bool := inR (((n * k / m : Nat) : Int) - c) 0 lost
def unX : Option (Nat × Nat) → Int | none => 0 | some (a, _) => a
def unY : Option (Nat × Nat) → Int | none => 0 | some (_, b) => b
def unE : Option (Nat × Nat) → Int | none => 4 | some _ => 0
def UnGot (X Y E : Int) (w : World) (e : Ending) (w' : World) : Prop := e = .returned (.tuple #[.int .i64 X, .int .i64 Y, .int .i64 E]) ∧ Below w.heap.size w w'
def UnI (o : Option (Nat × Nat)) (x y z : Value) : Prop := (o = none ∧ x = .int .i64 0 ∧ y = .int .i64 0 ∧ z = .bool false) ∨ ∃ a b : Nat, o = some (a, b) ∧ x = .int .i64 (a : Int) ∧ y = .int .i64 (b : Int) ∧ z = .bool true
def RnI (o : Option (Nat × Nat)) (x y : Value) : Prop := (o = none ∧ x = .int .i64 (-1) ∧ y = .int .i64 (-1)) ∨ ∃ a b : Nat, o = some (a, b) ∧ x = .int .i64 (a : Int) ∧ y = .int .i64 (b : Int)
theorem unS_no {P : Nat → Bool} {k : Nat} (h : P k = false) : unS P (k + 1) = unS P k := by simp [unS, h]
theorem unS_none {P : Nat → Bool} {k : Nat} (h : P k = true) (ho : unS P k = none) : unS P (k + 1) = some (k, k) := by simp [unS, h, ho]
theorem unS_some {P : Nat → Bool} {k a b : Nat} (h : P k = true) (ho : unS P k = some (a, b)) : unS P (k + 1) = some (a, k) := by simp [unS, h, ho]

set_option maxRecDepth 100000 in
set_option maxHeartbeats 4000000 in
theorem unrate_ok (c lost : Int) (m n : Nat) (hm : 1 ≤ m ∧ m ≤ 1024) (hn : 1 ≤ n ∧ n ≤ 4096) (hc : 0 ≤ c ∧ c ≤ n) (hlo : 0 ≤ lost) (w : World) :
    Calls Tryz.prog 16 #[.int .i64 c, .int .i64 (m : Int), .int .i64 (n : Int), .int .i64 lost] w (UnGot (unX (unS (unP m n c lost) (m + 1))) (unY (unS (unP m n c lost) (m + 1))) (unE (unS (unP m n c lost) (m + 1))) w) := by
  obtain ⟨O, hO⟩ : ∃ O, O = unS (unP m n c lost) (m + 1) := ⟨_, rfl⟩
  rw [← hO]
  have HOO := Lib.hid hO
  clear hO
  have hm1 := hm.1
  have hm2 := hm.2
  have hn1 := hn.1
  have hn2 := hn.2
  have hc1 := hc.1
  have hc2 := hc.2
  have zlo : (lost < 0) = False := by simp <;> omega
  have R1 := Lib.hid (show inR (m : Int) 1 1024 = true from inR_true.2 ⟨by omega, by omega⟩)
  have R2 := Lib.hid (show inR (n : Int) 1 4096 = true from inR_true.2 ⟨by omega, by omega⟩)
  have R3 := Lib.hid (show inR c 0 (n : Int) = true from inR_true.2 ⟨by omega, by omega⟩)
  have R12 := Lib.hid (show (inR (m : Int) 1 1024 && inR (n : Int) 1 4096) = true by rw [R1.out, R2.out]; rfl)
  have hQ := fun k => show n * k / m ≤ n * k from Nat.div_le_self _ _
  have HQ := Lib.hid hQ
  clear hm hn hc hQ hlo
  go_enter Tryz.func16, Tryz.ntmps16
  go_wp2_with (fail)
  go_at_call 51
  refine (rated_any _ _ _).mono ?_
  rintro e w1 ⟨rfl, hb1⟩
  rw [R12.out]
  have B1 := Lib.hid hb1
  clear hb1
  go_wp2_with (fail)
  go_at_call 52
  refine (within_new _ _ _ _).mono ?_
  rintro e w2 ⟨rfl, hb2⟩
  rw [R3.out]
  have B0 := Lib.hid (B1.out.trans (hb2.mono B1.out.size))
  clear hb2
  go_wp2
  go_loopw [8, 9, 11, 30] (fun s8 s9 s11 s30 wr => ∃ k : Nat, k ≤ m + 1 ∧ s30 = .int .i64 k ∧ UnI (unS (unP m n c lost) k) s8 s9 s11 ∧ Below w.heap.size w wr) (fun _ _ _ s30 _ => m + 1 - (intOf s30).toNat)
  case atStart => exact ⟨0, Nat.zero_le _, rfl, .inl ⟨rfl, rfl, rfl, rfl⟩, B0.out⟩
  case round =>
    obtain ⟨k, hk, rfl, hI, hb⟩ := hrel
    have HB := Lib.hid hb
    have HI := Lib.hid hI
    clear hb hI
    by_cases hlt : k < m + 1
    · have hi0 : (0 : Int) ≤ (k : Int) := Int.natCast_nonneg _
      have hi1 : (k : Int) < (m : Int) + 1 := by omega
      have hi2 : (k : Int) ≤ (m : Int) := by omega
      have hpn : unP m n c lost k = inR (((n * k / m : Nat) : Int) - c) 0 lost := rfl
      have hl : n * k ≤ 4194304 := mul_le_rt (by omega) (by omega)
      obtain ⟨q, hq⟩ : ∃ q, q = n * k / m := ⟨_, rfl⟩
      have hql : q ≤ 4194304 := hq ▸ Nat.le_trans (HQ.out k) hl
      have SP := Lib.hid (fun W => spikes_any k m n (by omega) (by omega) (by omega) W)
      rw [← hq] at SP
      rw [← hq] at hpn
      cases hpk : unP m n c lost k with
      | false =>
        have HP := Lib.hid hpk
        have HP2 := Lib.hid (hpn.symm.trans hpk)
        clear hpn hpk hq
        go_wp2_with (fail)
        go_at_call 53
        refine (SP.out _).mono ?_
        rintro e w' ⟨rfl, rfl⟩
        go_wp2_with (go_at_call 52; refine (within_new _ _ _ _).mono ?_; rintro e w3 ⟨rfl, hb3⟩; rw [HP2.out]; have B3 := Lib.hid (HB.out.trans (hb3.mono HB.out.size)); clear hb3)
        go_roundw
        case rel => exact ⟨k + 1, by omega, by go_num, by rw [unS_no HP.out]; exact HI.out, B3.out⟩
        case measure => simp [intOf]; omega
      | true =>
        have HP := Lib.hid hpk
        have HP2 := Lib.hid (hpn.symm.trans hpk)
        clear hpn hpk hq
        rcases HI.out with ⟨ho, rfl, rfl, rfl⟩ | ⟨a, b, ho, rfl, rfl, rfl⟩
        · have HO := Lib.hid ho
          clear ho
          go_wp2_with (fail)
          go_at_call 53
          refine (SP.out _).mono ?_
          rintro e w' ⟨rfl, rfl⟩
          go_wp2_with (go_at_call 52; refine (within_new _ _ _ _).mono ?_; rintro e w3 ⟨rfl, hb3⟩; rw [HP2.out]; have B3 := Lib.hid (HB.out.trans (hb3.mono HB.out.size)); clear hb3)
          go_roundw
          case rel => exact ⟨k + 1, by omega, by go_num, by rw [unS_none HP.out HO.out]; exact .inr ⟨_, _, rfl, rfl, rfl, rfl⟩, B3.out⟩
          case measure => simp [intOf]; omega
        · have HO := Lib.hid ho
          clear ho
          go_wp2_with (fail)
          go_at_call 53
          refine (SP.out _).mono ?_
          rintro e w' ⟨rfl, rfl⟩
          go_wp2_with (go_at_call 52; refine (within_new _ _ _ _).mono ?_; rintro e w3 ⟨rfl, hb3⟩; rw [HP2.out]; have B3 := Lib.hid (HB.out.trans (hb3.mono HB.out.size)); clear hb3)
          go_roundw
          case rel => exact ⟨k + 1, by omega, by go_num, by rw [unS_some HP.out HO.out]; exact .inr ⟨_, _, rfl, rfl, rfl, rfl⟩, B3.out⟩
          case measure => simp [intOf]; omega
    · obtain rfl : k = m + 1 := by omega
      have z9 : (((m + 1 : Nat) : Int) < (m : Int) + 1) = False := by simp <;> omega
      have z8 : (((m + 1 : Nat) : Int) ≤ (m : Int)) = False := by simp <;> omega
      clear hlt hk
      rcases HI.out with ⟨ho, rfl, rfl, rfl⟩ | ⟨a, b, ho, rfl, rfl, rfl⟩
      · have hOo := HOO.out
        rw [ho] at hOo
        subst hOo
        clear ho
        go_wp2
        exact bodyPost_ret (v := .tuple #[.int .i64 0, .int .i64 0, .int .i64 4]) (by simp [results, Tryz.results16, go_sem]) rfl ⟨by simp [unX, unY, unE], HB.out⟩
      · have hOo := HOO.out
        rw [ho] at hOo
        subst hOo
        clear ho
        go_wp2
        exact bodyPost_ret (v := .tuple #[.int .i64 (a : Int), .int .i64 (b : Int), .int .i64 0]) (by simp [results, Tryz.results16, go_sem]) rfl ⟨by simp [unX, unY, unE], HB.out⟩

set_option maxRecDepth 100000 in
set_option maxHeartbeats 4000000 in
theorem runrate_ok (c lost : Int) (m n : Nat) (hm : 1 ≤ m ∧ m ≤ 1024) (hn : 1 ≤ n ∧ n ≤ 4096) (hc : 0 ≤ c ∧ c ≤ n) (hlo : 0 ≤ lost) (w : World) :
    Calls Tryz.prog 17 #[.int .i64 c, .int .i64 (m : Int), .int .i64 (n : Int), .int .i64 lost] w (UnGot (unX (unS (unP m n c lost) (m + 1))) (unY (unS (unP m n c lost) (m + 1))) (unE (unS (unP m n c lost) (m + 1))) w) := by
  obtain ⟨O, hO⟩ : ∃ O, O = unS (unP m n c lost) (m + 1) := ⟨_, rfl⟩
  rw [← hO]
  have HOO := Lib.hid hO
  clear hO
  have hm1 := hm.1
  have hm2 := hm.2
  have hn1 := hn.1
  have hn2 := hn.2
  have hc1 := hc.1
  have hc2 := hc.2
  have zlo : (lost < 0) = False := by simp <;> omega
  have R1 := Lib.hid (show inR (m : Int) 1 1024 = true from inR_true.2 ⟨by omega, by omega⟩)
  have R2 := Lib.hid (show inR (n : Int) 1 4096 = true from inR_true.2 ⟨by omega, by omega⟩)
  have R3 := Lib.hid (show inR c 0 (n : Int) = true from inR_true.2 ⟨by omega, by omega⟩)
  have R12 := Lib.hid (show (inR (m : Int) 1 1024 && inR (n : Int) 1 4096) = true by rw [R1.out, R2.out]; rfl)
  have hQ := fun k => show n * k / m ≤ n * k from Nat.div_le_self _ _
  have HQ := Lib.hid hQ
  clear hm hn hc hQ hlo
  go_enter Tryz.func17, Tryz.ntmps17
  go_wp2_with (fail)
  go_at_call 54
  refine (rwithin_any _ _ _ _).mono ?_
  rintro e w' ⟨rfl, rfl⟩
  rw [R1.out]
  go_wp2_with (fail)
  go_at_call 54
  refine (rwithin_any _ _ _ _).mono ?_
  rintro e w' ⟨rfl, rfl⟩
  rw [R2.out]
  go_wp2_with (fail)
  go_at_call 54
  refine (rwithin_any _ _ _ _).mono ?_
  rintro e w' ⟨rfl, rfl⟩
  rw [R3.out]
  have B0 := Lib.hid (Below.refl w.heap.size w)
  go_wp2
  go_loopw [11, 12, 13] (fun s11 s12 s13 wr => ∃ k : Nat, k ≤ m + 1 ∧ s13 = .int .i64 k ∧ RnI (unS (unP m n c lost) k) s11 s12 ∧ Below w.heap.size w wr) (fun _ _ s13 _ => m + 1 - (intOf s13).toNat)
  case atStart => exact ⟨0, Nat.zero_le _, rfl, .inl ⟨rfl, rfl, rfl⟩, B0.out⟩
  case round =>
    obtain ⟨k, hk, rfl, hI, hb⟩ := hrel
    have HB := Lib.hid hb
    have HI := Lib.hid hI
    clear hb hI
    by_cases hlt : k < m + 1
    · have hi0 : (0 : Int) ≤ (k : Int) := Int.natCast_nonneg _
      have hi1 : (k : Int) < (m : Int) + 1 := by omega
      have hi2 : (k : Int) ≤ (m : Int) := by omega
      have hpn : unP m n c lost k = inR (((n * k / m : Nat) : Int) - c) 0 lost := rfl
      have hl : n * k ≤ 4194304 := mul_le_rt (by omega) (by omega)
      obtain ⟨q, hq⟩ : ∃ q, q = n * k / m := ⟨_, rfl⟩
      have hql : q ≤ 4194304 := hq ▸ Nat.le_trans (HQ.out k) hl
      obtain ⟨p, hp⟩ : ∃ p, p = n * k := ⟨_, rfl⟩
      have e1 : (n : Int) * (k : Int) = (p : Int) := by rw [hp]; simp
      have e2 : (p : Int).tdiv (m : Int) = (q : Int) := by rw [hq, ← hp]; rfl
      have hm0 : ((m : Int) == 0) = false := by simp; omega
      rw [← hp] at hl
      rw [← hq] at hpn
      cases hpk : unP m n c lost k with
      | false =>
        have HP := Lib.hid hpk
        have HP2 := Lib.hid (hpn.symm.trans hpk)
        have hd := inR_false.1 HP2.out
        by_cases h1 : (q : Int) < c
        · have z1 : ((q : Int) < c) = True := by simp [h1]
          clear hd h1 hpn hpk hq hp
          go_wp2
          go_roundw
          case rel => exact ⟨k + 1, by omega, by go_num, by rw [unS_no HP.out]; exact HI.out, HB.out⟩
          case measure => simp [intOf]; omega
        · have z1 : ((q : Int) < c) = False := by simp [h1]
          have z2 : (lost < (q : Int) - c) = True := by simp <;> omega
          clear hd h1 hpn hpk hq hp
          go_wp2
          go_roundw
          case rel => exact ⟨k + 1, by omega, by go_num, by rw [unS_no HP.out]; exact HI.out, HB.out⟩
          case measure => simp [intOf]; omega
      | true =>
        have HP := Lib.hid hpk
        have HP2 := Lib.hid (hpn.symm.trans hpk)
        have hd := inR_true.1 HP2.out
        have z1 : ((q : Int) < c) = False := by simp <;> omega
        have z2 : (lost < (q : Int) - c) = False := by simp <;> omega
        clear hd hpn hpk hq hp
        rcases HI.out with ⟨ho, rfl, rfl⟩ | ⟨a, b, ho, rfl, rfl⟩
        · have HO := Lib.hid ho
          clear ho
          go_wp2
          go_roundw
          case rel => exact ⟨k + 1, by omega, by go_num, by rw [unS_none HP.out HO.out]; exact .inr ⟨_, _, rfl, rfl, rfl⟩, HB.out⟩
          case measure => simp [intOf]; omega
        · have HO := Lib.hid ho
          have z3 : ((a : Int) < 0) = False := by simp <;> omega
          clear ho
          go_wp2
          go_roundw
          case rel => exact ⟨k + 1, by omega, by go_num, by rw [unS_some HP.out HO.out]; exact .inr ⟨_, _, rfl, rfl, rfl⟩, HB.out⟩
          case measure => simp [intOf]; omega
    · obtain rfl : k = m + 1 := by omega
      have z9 : (((m + 1 : Nat) : Int) < (m : Int) + 1) = False := by simp <;> omega
      have z8 : (((m + 1 : Nat) : Int) ≤ (m : Int)) = False := by simp <;> omega
      clear hlt hk
      rcases HI.out with ⟨ho, rfl, rfl⟩ | ⟨a, b, ho, rfl, rfl⟩
      · have hOo := HOO.out
        rw [ho] at hOo
        subst hOo
        clear ho
        go_wp2
        exact bodyPost_ret (v := .tuple #[.int .i64 0, .int .i64 0, .int .i64 4]) (by simp [results, Tryz.results17, go_sem]) rfl ⟨by simp [unX, unY, unE], HB.out⟩
      · have hOo := HOO.out
        rw [ho] at hOo
        subst hOo
        have z3 : ((a : Int) < 0) = False := by simp <;> omega
        clear ho
        go_wp2
        exact bodyPost_ret (v := .tuple #[.int .i64 (a : Int), .int .i64 (b : Int), .int .i64 0]) (by simp [results, Tryz.results17, go_sem]) rfl ⟨by simp [unX, unY, unE], HB.out⟩

def unV (c m n lost : Int) : Bool := ((inR m 1 1024 && inR n 1 4096) && inR c 0 n) && !decide (lost < 0)

set_option maxRecDepth 100000 in
set_option maxHeartbeats 1000000 in
theorem unrate_err (c m n lost : Int) (h : unV c m n lost = false) (w : World) :
    Calls Tryz.prog 16 #[.int .i64 c, .int .i64 m, .int .i64 n, .int .i64 lost] w (UnGot 0 0 3 w) := by
  unfold unV at h
  cases h1 : (inR m 1 1024 && inR n 1 4096) with
  | false =>
    clear h
    go_enter Tryz.func16, Tryz.ntmps16
    go_wp2_with (go_at_call 51; refine (rated_any _ _ _).mono ?_; rintro e w1 ⟨rfl, hb1⟩; rw [h1])
    exact bodyPost_ret (v := .tuple #[.int .i64 0, .int .i64 0, .int .i64 3]) (by simp [results, Tryz.results16, go_sem]) rfl ⟨rfl, hb1⟩
  | true =>
    rw [h1] at h
    simp only [Bool.true_and] at h
    have H1 := Lib.hid h1
    have H := Lib.hid h
    clear h1 h
    cases h2 : inR c 0 n with
    | false =>
      go_enter Tryz.func16, Tryz.ntmps16
      go_wp2_with (fail)
      go_at_call 51
      refine (rated_any _ _ _).mono ?_
      rintro e w1 ⟨rfl, hb1⟩
      rw [H1.out]
      have B1 := Lib.hid hb1
      clear hb1
      go_wp2_with (go_at_call 52; refine (within_new _ _ _ _).mono ?_; rintro e w2 ⟨rfl, hb2⟩; rw [h2])
      exact bodyPost_ret (v := .tuple #[.int .i64 0, .int .i64 0, .int .i64 3]) (by simp [results, Tryz.results16, go_sem]) rfl ⟨rfl, B1.out.trans (hb2.mono B1.out.size)⟩
    | true =>
      have zl : (lost < 0) = True := by
        have := H.out
        rw [h2] at this
        simpa using this
      go_enter Tryz.func16, Tryz.ntmps16
      go_wp2_with (fail)
      go_at_call 51
      refine (rated_any _ _ _).mono ?_
      rintro e w1 ⟨rfl, hb1⟩
      rw [H1.out]
      have B1 := Lib.hid hb1
      clear hb1
      go_wp2_with (go_at_call 52; refine (within_new _ _ _ _).mono ?_; rintro e w2 ⟨rfl, hb2⟩; rw [h2])
      exact bodyPost_ret (v := .tuple #[.int .i64 0, .int .i64 0, .int .i64 3]) (by simp [results, Tryz.results16, go_sem]) rfl ⟨rfl, B1.out.trans (hb2.mono B1.out.size)⟩

set_option maxRecDepth 100000 in
set_option maxHeartbeats 1000000 in
theorem runrate_err (c m n lost : Int) (h : unV c m n lost = false) (w : World) :
    Calls Tryz.prog 17 #[.int .i64 c, .int .i64 m, .int .i64 n, .int .i64 lost] w (UnGot 0 0 3 w) := by
  unfold unV at h
  cases h1 : inR m 1 1024 with
  | false =>
    clear h
    go_enter Tryz.func17, Tryz.ntmps17
    go_wp2_with (go_at_call 54; refine (rwithin_any _ _ _ _).mono ?_; rintro e w' ⟨rfl, rfl⟩; rw [h1])
    exact bodyPost_ret (v := .tuple #[.int .i64 0, .int .i64 0, .int .i64 3]) (by simp [results, Tryz.results17, go_sem]) rfl ⟨rfl, Below.refl _ _⟩
  | true =>
    cases h2 : inR n 1 4096 with
    | false =>
      clear h
      go_enter Tryz.func17, Tryz.ntmps17
      go_wp2_with (go_at_call 54; refine (rwithin_any _ _ _ _).mono ?_; rintro e w' ⟨rfl, rfl⟩; first | rw [h1] | rw [h2])
      exact bodyPost_ret (v := .tuple #[.int .i64 0, .int .i64 0, .int .i64 3]) (by simp [results, Tryz.results17, go_sem]) rfl ⟨rfl, Below.refl _ _⟩
    | true =>
      cases h3 : inR c 0 n with
      | false =>
        clear h
        go_enter Tryz.func17, Tryz.ntmps17
        go_wp2_with (go_at_call 54; refine (rwithin_any _ _ _ _).mono ?_; rintro e w' ⟨rfl, rfl⟩; first | rw [h1] | rw [h2] | rw [h3])
        exact bodyPost_ret (v := .tuple #[.int .i64 0, .int .i64 0, .int .i64 3]) (by simp [results, Tryz.results17, go_sem]) rfl ⟨rfl, Below.refl _ _⟩
      | true =>
        have zl : (lost < 0) = True := by
          rw [h1, h2, h3] at h
          simpa using h
        go_enter Tryz.func17, Tryz.ntmps17
        go_wp2_with (go_at_call 54; refine (rwithin_any _ _ _ _).mono ?_; rintro e w' ⟨rfl, rfl⟩; first | rw [h1] | rw [h2] | rw [h3])
        exact bodyPost_ret (v := .tuple #[.int .i64 0, .int .i64 0, .int .i64 3]) (by simp [results, Tryz.results17, go_sem]) rfl ⟨rfl, Below.refl _ _⟩

/-- Both Unrates return the same. -/
theorem unrates_any (c m n lost : Int) : ∃ X Y E, (∀ w, Calls Tryz.prog 16 #[.int .i64 c, .int .i64 m, .int .i64 n, .int .i64 lost] w (UnGot X Y E w)) ∧ ∀ w, Calls Tryz.prog 17 #[.int .i64 c, .int .i64 m, .int .i64 n, .int .i64 lost] w (UnGot X Y E w) := by
  cases h : unV c m n lost with
  | false => exact ⟨0, 0, 3, unrate_err c m n lost h, runrate_err c m n lost h⟩
  | true =>
    simp only [unV, Bool.and_eq_true, inR_true, Bool.not_eq_true', decide_eq_false_iff_not] at h
    obtain ⟨⟨⟨⟨h1, h2⟩, h3, h4⟩, h5, h6⟩, h7⟩ := h
    obtain ⟨m', rfl⟩ := Int.eq_ofNat_of_zero_le (a := m) (by omega)
    obtain ⟨n', rfl⟩ := Int.eq_ofNat_of_zero_le (a := n) (by omega)
    exact ⟨_, _, _, unrate_ok c lost m' n' (by omega) (by omega) (by omega) (by omega), runrate_ok c lost m' n' (by omega) (by omega) (by omega) (by omega)⟩
end Go.Proofs.YtjdcjcanmeangaaGreat
