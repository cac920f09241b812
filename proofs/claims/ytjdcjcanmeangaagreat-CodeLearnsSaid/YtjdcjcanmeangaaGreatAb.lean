/- Codes: within, rated, spikes; numbers. Over this seat's program; the conditions are named in each. -/
import Derived.Test.YtjdcjcanmeangaaGreatAa
namespace Go.Proofs.YtjdcjcanmeangaaGreat
set_option linter.unusedVariables false
open Go.RowKit

set_option maxRecDepth 100000 in
set_option maxHeartbeats 1000000 in
theorem within_any (a b : Int) (zs : List Int) (sa : Option Addr) (n cap : Nat) (hn : n = zs.length) (hl : n ≤ 1000000) (w : World) (hc : KAt .i64 w (.slice sa n cap) zs) :
    Calls Tryz.prog 52 #[.int .i64 a, .int .i64 b, .slice sa n cap] w fun e w' => e = .returned (.bool (zs.all fun x => inR x a b)) ∧ w = w' := by
  obtain ⟨A, hA⟩ : ∃ A, A = zs.all fun x => inR x a b := ⟨_, rfl⟩
  rw [← hA]
  have HA := Lib.hid hA
  have HC := Lib.hid hc
  have HN := Lib.hid hn
  clear hA hc hn
  go_enter Tryz.func52, Tryz.ntmps52
  go_wp2
  go_loopw [11] (fun s wr => ∃ k : Nat, k ≤ n ∧ s = .int .i64 k ∧ wr = w ∧ ∀ j z, j < k → zs[j]? = some z → inR z a b = true) (fun s _ => n - (intOf s).toNat)
  case atStart => exact ⟨0, Nat.zero_le _, rfl, by trivial, fun j z hj => by omega⟩
  case round =>
    obtain ⟨k, hk, rfl, rfl, hno⟩ := hrel
    have HNO := Lib.hid hno
    clear hno
    by_cases hlt : k < n
    · have hi0 : (0 : Int) ≤ (k : Int) := Int.natCast_nonneg _
      have hi1 : (k : Int) < (n : Int) := by omega
      obtain ⟨z, hz⟩ : ∃ z, zs[k]? = some z := ⟨_, List.getElem?_eq_getElem (by rw [← HN.out]; exact hlt)⟩
      obtain ⟨g, off, rfl, hgl, hcc⟩ := HC.out.at hz
      have HZ := Lib.hid hz
      clear hz
      by_cases h1 : z < a
      · have g1 : (z < a) = True := by simp [h1]
        have hA : A = false := by rw [HA.out]; exact List.all_eq_false.2 ⟨z, List.mem_of_getElem? HZ.out, by simp [inR]; omega⟩
        subst hA
        clear h1
        go_wp2
        go_ret
        exact ⟨rfl, rfl⟩
      · have g1 : (z < a) = False := by simp [h1]
        by_cases h2 : b < z
        · have g2 : (b < z) = True := by simp [h2]
          have hA : A = false := by rw [HA.out]; exact List.all_eq_false.2 ⟨z, List.mem_of_getElem? HZ.out, by simp [inR]; omega⟩
          subst hA
          clear h1 h2
          go_wp2
          go_ret
          exact ⟨rfl, rfl⟩
        · have g2 : (b < z) = False := by simp [h2]
          have hin : inR z a b = true := by simp [inR]; omega
          have HIN := Lib.hid hin
          clear h1 h2 hin
          go_wp2
          go_roundw
          case rel => exact ⟨k + 1, by omega, by go_num, by trivial, fun j y hj hy => by
            rcases Nat.lt_or_ge j k with h | h
            · exact HNO.out j y h hy
            · have : j = k := by omega
              subst this; rw [HZ.out] at hy; cases hy; exact HIN.out⟩
          case measure => simp [intOf]; omega
    · obtain rfl : k = n := by omega
      clear hlt hk
      go_wp2
      go_ret
      have hA : A = true := by
        rw [HA.out]
        refine List.all_eq_true.2 fun x hx => ?_
        obtain ⟨j, hj, rfl⟩ := List.getElem_of_mem hx
        exact HNO.out j _ (by have := HN.out; omega) (List.getElem?_eq_getElem hj)
      subst hA
      exact ⟨rfl, rfl⟩
/-- within of one number, laid in a new block. -/
theorem within_new (a b x : Int) (w : World) :
    Calls Tryz.prog 52 #[.int .i64 a, .int .i64 b, .slice (some ⟨w.heap.size, 0, none⟩) 1 1] (w.alloc (.cells #[.int .i64 x] 3)) fun e w' => e = .returned (.bool (inR x a b)) ∧ Below w.heap.size w w' := by
  refine (within_any a b [x] _ 1 1 rfl (by omega) _ (kat_new w x)).mono ?_
  rintro e w' ⟨rfl, rfl⟩
  exact ⟨by simp, (Below.refl _ _).alloc (Nat.le_refl _) _⟩
set_option maxHeartbeats 400000 in
theorem rwithin_any (x a b : Int) (w : World) :
    Calls Tryz.prog 54 #[.int .i64 x, .int .i64 a, .int .i64 b] w fun e w' => e = .returned (.bool (inR x a b)) ∧ w = w' := by
  by_cases h1 : a ≤ x
  · go_enter Tryz.func54, Tryz.ntmps54
    go_wp2
    go_ret
    exact ⟨by simp [inR, *], rfl⟩
  · go_enter Tryz.func54, Tryz.ntmps54
    go_wp2
    go_ret
    exact ⟨by simp [inR]; omega, rfl⟩
set_option maxHeartbeats 400000 in
theorem rated_any (m n : Int) (w : World) :
    Calls Tryz.prog 51 #[.int .i64 m, .int .i64 n] w fun e w' => e = .returned (.bool (inR m 1 1024 && inR n 1 4096)) ∧ Below w.heap.size w w' := by
  cases h1 : inR m 1 1024 with
  | false =>
    go_enter Tryz.func51, Tryz.ntmps51
    go_wp2_with (go_at_call 52; refine (within_new _ _ _ _).mono ?_; rintro e w1 ⟨rfl, hb1⟩; rw [h1])
    go_ret
    exact ⟨rfl, hb1⟩
  | true =>
    go_enter Tryz.func51, Tryz.ntmps51
    go_wp2_with (fail)
    go_at_call 52
    refine (within_new _ _ _ _).mono ?_
    rintro e w1 ⟨rfl, hb1⟩
    rw [h1]
    have B1 := Lib.hid hb1
    clear hb1
    go_wp2_with (go_at_call 52; refine (within_new _ _ _ _).mono ?_; rintro e w2 ⟨rfl, hb2⟩)
    go_ret
    exact ⟨by simp, B1.out.trans (hb2.mono B1.out.size)⟩
/-- A quotient of naturals. -/
theorem quo_nat {k W : Nat} : (k : Int).tdiv (W : Int) = ((k / W : Nat) : Int) := rfl
theorem mul_le_rt {t v : Nat} (ht : t ≤ 4096) (hv : v ≤ 1024) : t * v ≤ 4194304 := Nat.mul_le_mul ht hv
set_option maxHeartbeats 400000 in
theorem spikes_any (v m t : Nat) (hm : 0 < m) (ht : t ≤ 4096) (hv : v ≤ 1024) (w : World) :
    Calls Tryz.prog 53 #[.int .i64 (v : Int), .int .i64 (m : Int), .int .i64 (t : Int)] w fun e w' => e = .returned (.int .i64 ((t * v / m : Nat) : Int)) ∧ w = w' := by
  obtain ⟨p, hp⟩ : ∃ p, p = t * v := ⟨_, rfl⟩
  have hpl : p ≤ 4194304 := hp ▸ mul_le_rt ht hv
  have e1 : (t : Int) * (v : Int) = (p : Int) := by rw [hp]; simp
  obtain ⟨q, hq⟩ : ∃ q, q = p / m := ⟨_, rfl⟩
  have hql : q ≤ 4194304 := hq ▸ Nat.le_trans (Nat.div_le_self _ _) hpl
  have e2 : (p : Int).tdiv (m : Int) = (q : Int) := by rw [hq]; rfl
  rw [← hp, ← hq]
  have hm0 : ((m : Int) == 0) = false := by simp; omega
  clear hp hq
  go_enter Tryz.func53, Tryz.ntmps53
  go_wp2
  go_ret
  exact ⟨rfl, rfl⟩
set_option maxRecDepth 100000 in
set_option maxHeartbeats 1000000 in
/-- numbers of two equal lists. -/
theorem numbers_same (L : List Int) (sa sb : Value) (hl : L.length ≤ 1000000) (w : World) (ha : KAt .i64 w sa L) (hb : KAt .i64 w sb L) :
    Calls Tryz.prog 15 #[sa, sb] w fun e w' => e = .returned (.bool true) ∧ Below w.heap.size w w' := by
  obtain ⟨a1, c1, rfl⟩ : ∃ a c, sa = .slice a L.length c := by
    rcases ha with ⟨rfl, rfl⟩ | ⟨b, off, cap, rfl, _⟩ <;> exact ⟨_, _, rfl⟩
  obtain ⟨a2, c2, rfl⟩ : ∃ a c, sb = .slice a L.length c := by
    rcases hb with ⟨rfl, rfl⟩ | ⟨b, off, cap, rfl, _⟩ <;> exact ⟨_, _, rfl⟩
  obtain ⟨n, hn⟩ : ∃ n, n = L.length := ⟨_, rfl⟩
  rw [← hn] at hl ha hb ⊢
  have HA := Lib.hid ha
  have HB := Lib.hid hb
  have HN := Lib.hid hn
  clear ha hb hn
  go_enter Tryz.func15, Tryz.ntmps15
  go_wp2
  go_loopw [5] (fun s wr => ∃ k : Nat, k ≤ n ∧ s = .int .i64 k ∧ Below w.heap.size w wr) (fun s _ => n - (intOf s).toNat)
  case atStart => exact ⟨0, Nat.zero_le _, rfl, Below.refl _ _⟩
  case round =>
    obtain ⟨k, hk, rfl, hbl⟩ := hrel
    have HBL := Lib.hid hbl
    by_cases hlt : k < n
    · have hi0 : (0 : Int) ≤ (k : Int) := Int.natCast_nonneg _
      have hi1 : (k : Int) < (n : Int) := by omega
      obtain ⟨z, hz⟩ : ∃ z, L[k]? = some z := ⟨_, List.getElem?_eq_getElem (by rw [← HN.out]; exact hlt)⟩
      obtain ⟨g1, o1, rfl, hg1, hc1⟩ := (HA.out.below hbl).at hz
      obtain ⟨g2, o2, rfl, hg2, hc2⟩ := (HB.out.below hbl).at hz
      clear hz hbl
      go_wp2
      go_quiet (fail)
      go_wp2
      go_roundw
      case rel => exact ⟨k + 1, by omega, by go_num, by repeat (first | exact HBL.out | refine below_drewN ?_ _ | refine Below.drew ?_)⟩
      case measure => simp [intOf]; omega
    · obtain rfl : k = n := by omega
      clear hlt hk hbl
      go_wp2
      go_ret
      exact ⟨rfl, HBL.out⟩
end Go.Proofs.YtjdcjcanmeangaaGreat
