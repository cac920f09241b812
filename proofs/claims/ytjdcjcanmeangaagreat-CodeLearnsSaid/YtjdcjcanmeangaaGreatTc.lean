/- Learning: the samples' errors. Over this seat's program; the conditions are named in each. -/
import Derived.Test.YtjdcjcanmeangaaGreatTb
namespace Go.Proofs.YtjdcjcanmeangaaGreat
set_option linter.unusedVariables false
open Go.RowKit

set_option maxRecDepth 100000 in
set_option maxHeartbeats 1000000 in
theorem within_rin (a b : Int) (zs : List Int) (sa : Option Addr) (n cap : Nat) (hn : n = zs.length) (hl : n ≤ 1000000) (w : World) (hc : RIn w (.slice sa n cap) zs) :
    Calls Tryz.prog 52 #[.int .i64 a, .int .i64 b, .slice sa n cap] w fun e w' => e = .returned (.bool (zs.all fun x => inR x a b)) ∧ w = w' := by
  obtain ⟨A, hA⟩ : ∃ A, A = zs.all fun x => inR x a b := ⟨_, rfl⟩
  rw [← hA]
  have HA := Lib.hid hA
  have HC := Lib.hid hc
  have HN := Lib.hid hn
  clear hA hc hn
  go_enter Tryz.func52, Tryz.ntmps52
  go_wp2
  go_loopw [11] (fun s wr => ∃ k : Nat, k ≤ n ∧ s = .int .i64 k ∧ wr = w ∧ ∀ j z, j < k → zs[j]? = some z → inR z a b = true) (fun s _ => n - (intOf s).toNat)
  case atStart => exact ⟨0, Nat.zero_le _, rfl, by trivial, fun j z hj => by omega⟩
  case round =>
    obtain ⟨k, hk, rfl, rfl, hno⟩ := hrel
    have HNO := Lib.hid hno
    clear hno
    by_cases hlt : k < n
    · have hi0 : (0 : Int) ≤ (k : Int) := Int.natCast_nonneg _
      have hi1 : (k : Int) < (n : Int) := by omega
      obtain ⟨z, hz⟩ : ∃ z, zs[k]? = some z := ⟨_, List.getElem?_eq_getElem (by rw [← HN.out]; exact hlt)⟩
      obtain ⟨ad, rfl, hgl, hcc⟩ := HC.out.at hz
      have HZ := Lib.hid hz
      clear hz
      by_cases h1 : z < a
      · have g1 : (z < a) = True := by simp [h1]
        have hA : A = false := by rw [HA.out]; exact List.all_eq_false.2 ⟨z, List.mem_of_getElem? HZ.out, by simp [inR]; omega⟩
        subst hA
        clear h1
        go_wp2
        go_ret
        exact ⟨rfl, rfl⟩
      · have g1 : (z < a) = False := by simp [h1]
        by_cases h2 : b < z
        · have g2 : (b < z) = True := by simp [h2]
          have hA : A = false := by rw [HA.out]; exact List.all_eq_false.2 ⟨z, List.mem_of_getElem? HZ.out, by simp [inR]; omega⟩
          subst hA
          clear h1 h2
          go_wp2
          go_ret
          exact ⟨rfl, rfl⟩
        · have g2 : (b < z) = False := by simp [h2]
          have hin : inR z a b = true := by simp [inR]; omega
          have HIN := Lib.hid hin
          clear h1 h2 hin
          go_wp2
          go_roundw
          case rel => exact ⟨k + 1, by omega, by go_num, by trivial, fun j y hj hy => by
            rcases Nat.lt_or_ge j k with h | h
            · exact HNO.out j y h hy
            · have : j = k := by omega
              subst this; rw [HZ.out] at hy; cases hy; exact HIN.out⟩
          case measure => simp [intOf]; omega
    · obtain rfl : k = n := by omega
      clear hlt hk
      go_wp2
      go_ret
      have hA : A = true := by
        rw [HA.out]
        refine List.all_eq_true.2 fun x hx => ?_
        obtain ⟨j, hj, rfl⟩ := List.getElem_of_mem hx
        exact HNO.out j _ (by have := HN.out; omega) (List.getElem?_eq_getElem hj)
      subst hA
      exact ⟨rfl, rfl⟩
def okX (X : List Int) : Bool := X.all fun x => inR x (-1000) 1000
/-- The first error of samples that ought to have n features. -/
def firstE (n : Nat) : List Smp → Int
  | [] => 0
  | s :: r => if s.x.length ≠ n then 13 else if okX s.x = false then 3 else firstE n r
def n0 (l : List Smp) : Nat := (l.head?.map fun s => s.x.length).getD 0
def smpE (l : List Smp) : Int := if l.length = 0 then 3 else if 256 < l.length then 9 else if inR (n0 l : Int) 1 30 = false then 3 else firstE (n0 l) l
theorem firstE_at {n : Nat} {l : List Smp} {k : Nat} {s : Smp} {E : Int} (hs : l[k]? = some s) (h : firstE n (l.drop k) = E) :
    (s.x.length ≠ n ∧ E = 13) ∨ (s.x.length = n ∧ okX s.x = false ∧ E = 3) ∨ (s.x.length = n ∧ okX s.x = true ∧ firstE n (l.drop (k + 1)) = E) := by
  obtain ⟨hk, he⟩ := List.getElem?_eq_some_iff.1 hs
  rw [List.drop_eq_getElem_cons hk, he] at h
  simp only [firstE] at h
  by_cases h1 : s.x.length ≠ n
  · rw [if_pos h1] at h; exact .inl ⟨h1, h.symm⟩
  · rw [if_neg h1] at h
    rw [Decidable.not_not] at h1
    by_cases h2 : okX s.x = false
    · rw [if_pos h2] at h; exact .inr (.inl ⟨h1, h2, h.symm⟩)
    · rw [if_neg h2] at h
      exact .inr (.inr ⟨h1, by simpa using h2, h⟩)
theorem firstE_end {n : Nat} {l : List Smp} {E : Int} (h : firstE n (l.drop l.length) = E) : E = 0 := by
  rw [List.drop_of_length_le (Nat.le_refl _)] at h; exact h.symm
theorem firstE_ok {n : Nat} : ∀ {l : List Smp}, firstE n l = 0 → ∀ s ∈ l, SmpOk n s
  | [], _, s, hs => by simp at hs
  | t :: r, h, s, hs => by
    simp only [firstE] at h
    by_cases h1 : t.x.length ≠ n
    · rw [if_pos h1] at h; cases h
    · rw [if_neg h1] at h
      rw [Decidable.not_not] at h1
      by_cases h2 : okX t.x = false
      · rw [if_pos h2] at h; cases h
      · rw [if_neg h2] at h
        rcases List.mem_cons.1 hs with rfl | hm
        · refine ⟨h1, fun z hz => ?_⟩
          have := List.all_eq_true.1 (by simpa using h2 : okX s.x = true) z hz
          exact inR_true.1 this
        · exact firstE_ok h s hm
/-- Samples that have no error. -/
structure SmpsOk (l : List Smp) : Prop where
  len : 1 ≤ l.length ∧ l.length ≤ 256
  n : 1 ≤ n0 l ∧ n0 l ≤ 30
  ok : ∀ s ∈ l, SmpOk (n0 l) s
theorem smpE_ok {l : List Smp} (h : smpE l = 0) : SmpsOk l := by
  unfold smpE at h
  by_cases h1 : l.length = 0
  · rw [if_pos h1] at h; cases h
  · rw [if_neg h1] at h
    by_cases h2 : 256 < l.length
    · rw [if_pos h2] at h; cases h
    · rw [if_neg h2] at h
      by_cases h3 : inR (n0 l : Int) 1 30 = false
      · rw [if_pos h3] at h; cases h
      · rw [if_neg h3] at h
        rw [Bool.not_eq_false, inR_true] at h3
        exact ⟨by omega, by omega, firstE_ok h⟩
theorem n0_at {l : List Smp} {s : Smp} (h : l[0]? = some s) : n0 l = s.x.length := by
  unfold n0; rw [List.head?_eq_getElem?, h]; rfl

set_option maxRecDepth 100000 in
set_option maxHeartbeats 4000000 in
theorem checkSamples_any (l : List Smp) (a : Option Addr) (cap : Nat) (hl : l.length ≤ 100000) (hx : ∀ s ∈ l, s.x.length ≤ 100000) (w : World) (hS : SmpsAt w (.slice a l.length cap) l) :
    Calls Tryz.prog 84 #[.slice a l.length cap] w fun e w' => e = .returned (.int .i64 (smpE l)) ∧ Below w.heap.size w w' := by
  obtain ⟨n, hn⟩ : ∃ n, n = l.length := ⟨_, rfl⟩
  obtain ⟨E, hE⟩ : ∃ E, smpE l = E := ⟨_, rfl⟩
  rw [hE]
  rw [← hn] at hl hS ⊢
  have HS := Lib.hid hS
  have HX := Lib.hid hx
  have HN := Lib.hid hn
  clear hS hx
  unfold smpE at hE
  rw [← hn] at hE
  by_cases c1 : n = 0
  · have z1 : ((n : Int) == 0) = true := by simp [c1]
    rw [if_pos c1] at hE
    subst hE
    clear hn HS HN c1
    go_enter Tryz.func84, Tryz.ntmps84
    go_wp2
    go_ret
    exact ⟨rfl, Below.refl _ _⟩
  · have z1 : ((n : Int) == 0) = false := by simp [c1]
    rw [if_neg c1] at hE
    by_cases c2 : 256 < n
    · have z2 : ((256 : Int) < (n : Int)) = True := by simp <;> omega
      rw [if_pos c2] at hE
      subst hE
      clear hn HS HN c2
      go_enter Tryz.func84, Tryz.ntmps84
      go_wp2
      go_ret
      exact ⟨rfl, Below.refl _ _⟩
    · have z2 : ((256 : Int) < (n : Int)) = False := by simp <;> omega
      rw [if_neg c2] at hE
      obtain ⟨s0, hs0⟩ : ∃ s, l[0]? = some s := ⟨_, List.getElem?_eq_getElem (by omega)⟩
      have hx0 := HX.out s0 (List.mem_of_getElem? hs0)
      rw [n0_at hs0] at hE
      obtain ⟨b, off, sa0, c0, rfl, hbl, q0, q1, hk0⟩ := HS.out.at hs0
      rw [Nat.zero_mul, Nat.add_zero] at q0 q1
      obtain ⟨N, hN⟩ : ∃ N, N = s0.x.length := ⟨_, rfl⟩
      rw [← hN] at hE q0 hk0 hx0
      clear hn hN
      by_cases c3 : inR (N : Int) 1 30 = false
      · rw [if_pos c3] at hE
        subst hE
        have C3 := Lib.hid c3
        clear c2 c3 hs0 hk0
        go_enter Tryz.func84, Tryz.ntmps84
        go_wp2_with (go_at_call 52; refine (within_new _ _ _ _).mono ?_; rintro e w1 ⟨rfl, hb1⟩; rw [C3.out])
        go_ret
        exact ⟨rfl, hb1⟩
      · rw [if_neg c3] at hE
        rw [Bool.not_eq_false] at c3
        have C3 := Lib.hid c3
        have HE := Lib.hid hE
        have HBL := Lib.hid hbl
        have Q0 := Lib.hid q0
        clear c2 c3 hs0 hk0 hE
        go_enter Tryz.func84, Tryz.ntmps84
        go_upto_region 7 with (go_at_call 52; refine (within_new _ _ _ _).mono ?_; rintro e w1 ⟨rfl, hb1⟩; rw [C3.out]; have B1 := Lib.hid hb1; clear hb1)
        clear q0 q1 hbl
        go_wp2
        go_loopw [21] (fun s21 wr => ∃ k : Nat, k ≤ n ∧ s21 = .int .i64 k ∧ firstE N (l.drop k) = E ∧ Below w.heap.size w wr) (fun s21 _ => n - (intOf s21).toNat)
        case atStart => exact ⟨0, Nat.zero_le _, rfl, HE.out, B1.out⟩
        case round =>
          obtain ⟨k, hk, rfl, hfe, hb⟩ := hrel
          have HB := Lib.hid hb
          by_cases hlt : k < n
          · have hi0 : (0 : Int) ≤ (k : Int) := Int.natCast_nonneg _
            have hi1 : (k : Int) < (n : Int) := by omega
            have hi2 : (k : Int) ≤ (n : Int) := by omega
            obtain ⟨s, hs⟩ : ∃ s, l[k]? = some s := ⟨_, List.getElem?_eq_getElem (by rw [← HN.out]; exact hlt)⟩
            have hxl := HX.out s (List.mem_of_getElem? hs)
            have hat := firstE_at hs hfe
            obtain ⟨b', off', sa, c, hbb, hbl', p0, p1, hkx⟩ := (HS.out.below hb).at hs
            cases hbb
            have q0 := ((bcell hb).1 _ _ HBL.out).trans Q0.out
            have hcl : Below wr.heap.size wr (wr.alloc (.cells #[.slice sa s.x.length c, .bool s.y] 74)) := (Below.refl _ _).alloc (Nat.le_refl _) _
            have HKX := Lib.hid (hkx.below hcl)
            have HB5 := Lib.hid (HB.out.trans (hcl.mono HB.out.size))
            obtain ⟨X, hX⟩ : ∃ X, X = s.x := ⟨_, rfl⟩
            obtain ⟨Y, hY⟩ : ∃ Y, Y = s.y := ⟨_, rfl⟩
            rw [← hX] at hat hxl p0 hkx
            rw [← hX, ← hY] at HKX HB5
            rw [← hY] at p1
            obtain ⟨L, hL⟩ : ∃ L, L = X.length := ⟨_, rfl⟩
            rw [← hL] at hat hxl p0 HKX HB5
            have HL := Lib.hid hL
            have q0' := (Below.cell (p := ⟨b, off, none⟩) (Below.alloc (Below.refl wr.heap.size wr) (Nat.le_refl _) (.cells #[.slice sa L c, .bool Y] 74)) (by simpa using hbl')).trans q0
            have HBX := Lib.hid (show (wr.alloc (.cells #[.slice sa L c, .bool Y] 74)).heap[wr.heap.size]? = some (.cells #[.slice sa L c, .bool Y] 74) from alloc_new_at _ _ _ rfl)
            clear hX hY hb hfe hs hkx hcl hL
            rcases hat with ⟨h1, rfl⟩ | ⟨h1, h2, rfl⟩ | ⟨h1, h2, h3⟩
            · have g1 : ((L : Int) != (N : Int)) = true := by simp <;> omega
              clear h1
              go_upto_region 10 with (fail)
              generalize wr.alloc (.cells #[.slice sa L c, .bool Y] 74) = W5 at *
              obtain ⟨d0, d1⟩ := cells2b HBX.out
              go_quiet (fail)
              go_wp2
              go_ret
              exact ⟨rfl, below_drewN HB5.out _⟩
            · have g1 : ((L : Int) != (N : Int)) = false := by simp <;> omega
              have H2 := Lib.hid h2
              clear h1 h2
              go_upto_region 10 with (fail)
              generalize wr.alloc (.cells #[.slice sa L c, .bool Y] 74) = W5 at *
              obtain ⟨d0, d1⟩ := cells2b HBX.out
              go_quiet (fail)
              have HK6 := Lib.hid (show RIn (W5.drewN nq) (.slice sa L c) X from HKX.out)
              go_wp2_with (go_at_call 52; refine (within_rin (-1000) 1000 X sa L c HL.out (by omega) _ HK6.out).mono ?_; rintro e w9 ⟨rfl, rfl⟩; rw [show (X.all fun x => inR x (-1000) 1000) = false from H2.out])
              go_ret
              exact ⟨rfl, below_drewN HB5.out _⟩
            · have g1 : ((L : Int) != (N : Int)) = false := by simp <;> omega
              have H2 := Lib.hid h2
              have H3 := Lib.hid h3
              clear h1 h2 h3
              go_upto_region 10 with (fail)
              generalize wr.alloc (.cells #[.slice sa L c, .bool Y] 74) = W5 at *
              obtain ⟨d0, d1⟩ := cells2b HBX.out
              go_quiet (fail)
              have HK6 := Lib.hid (show RIn (W5.drewN nq) (.slice sa L c) X from HKX.out)
              go_upto_region 14 with (go_at_call 52; refine (within_rin (-1000) 1000 X sa L c HL.out (by omega) _ HK6.out).mono ?_; rintro e w9 ⟨rfl, rfl⟩; rw [show (X.all fun x => inR x (-1000) 1000) = true from H2.out])
              go_wp2
              go_roundw
              case rel => exact ⟨k + 1, by omega, by go_num, H3.out, below_drewN HB5.out _⟩
              case measure => simp [intOf]; omega
          · obtain rfl : k = n := by omega
            have h0 : E = 0 := by
              have := HN.out
              subst this
              exact firstE_end hfe
            subst h0
            clear hlt hb hk hfe
            go_wp2
            go_ret
            exact ⟨rfl, HB.out⟩
end Go.Proofs.YtjdcjcanmeangaaGreat
