/- within, numbers, events of equal lists. Over this seat's program. (mk_Sd.py wrote this.) -/
import Derived.Test.YtbnjmpjodmlccaaSa
namespace Go.Proofs.Ytbnjmpjodmlccaa
set_option linter.unusedVariables false
open Go.RowKit

set_option maxRecDepth 100000 in
set_option maxHeartbeats 1000000 in
theorem within_any (a b : Int) (zs : List Int) (sa : Option Addr) (n cap : Nat) (hn : n = zs.length) (hl : n ≤ 1000000) (w : World) (hc : KAt .i64 w (.slice sa n cap) zs) :
    Calls Try.prog 51 #[.int .i64 a, .int .i64 b, .slice sa n cap] w fun e w' => e = .returned (.bool (zs.all fun x => inR x a b)) ∧ w = w' := by
  obtain ⟨A, hA⟩ : ∃ A, A = zs.all fun x => inR x a b := ⟨_, rfl⟩
  rw [← hA]
  have HA := Lib.hid hA
  have HC := Lib.hid hc
  have HN := Lib.hid hn
  clear hA hc hn
  go_enter Try.func51, Try.ntmps51
  go_wp2
  go_loopw [11] (fun s wr => ∃ k : Nat, k ≤ n ∧ s = .int .i64 k ∧ wr = w ∧ ∀ j z, j < k → zs[j]? = some z → inR z a b = true) (fun s _ => n - (intOf s).toNat)
  case atStart => exact ⟨0, Nat.zero_le _, rfl, by trivial, fun j z hj => by omega⟩
  case round =>
    obtain ⟨k, hk, rfl, rfl, hno⟩ := hrel
    have HNO := Lib.hid hno
    clear hno
    by_cases hlt : k < n
    · have hi0 : (0 : Int) ≤ (k : Int) := Int.natCast_nonneg _
      have hi1 : (k : Int) < (n : Int) := by omega
      obtain ⟨z, hz⟩ : ∃ z, zs[k]? = some z := ⟨_, List.getElem?_eq_getElem (by rw [← HN.out]; exact hlt)⟩
      obtain ⟨g, off, rfl, hgl, hcc⟩ := HC.out.at hz
      have HZ := Lib.hid hz
      clear hz
      by_cases h1 : z < a
      · have g1 : (z < a) = True := by simp [h1]
        have hA : A = false := by rw [HA.out]; exact List.all_eq_false.2 ⟨z, List.mem_of_getElem? HZ.out, by simp [inR]; omega⟩
        subst hA
        clear h1
        go_wp2
        go_ret
        exact ⟨rfl, rfl⟩
      · have g1 : (z < a) = False := by simp [h1]
        by_cases h2 : b < z
        · have g2 : (b < z) = True := by simp [h2]
          have hA : A = false := by rw [HA.out]; exact List.all_eq_false.2 ⟨z, List.mem_of_getElem? HZ.out, by simp [inR]; omega⟩
          subst hA
          clear h1 h2
          go_wp2
          go_ret
          exact ⟨rfl, rfl⟩
        · have g2 : (b < z) = False := by simp [h2]
          have hin : inR z a b = true := by simp [inR]; omega
          have HIN := Lib.hid hin
          clear h1 h2 hin
          go_wp2
          go_roundw
          case rel => exact ⟨k + 1, by omega, by go_num, by trivial, fun j y hj hy => by
            rcases Nat.lt_or_ge j k with h | h
            · exact HNO.out j y h hy
            · have : j = k := by omega
              subst this; rw [HZ.out] at hy; cases hy; exact HIN.out⟩
          case measure => simp [intOf]; omega
    · obtain rfl : k = n := by omega
      clear hlt hk
      go_wp2
      go_ret
      have hA : A = true := by
        rw [HA.out]
        refine List.all_eq_true.2 fun x hx => ?_
        obtain ⟨j, hj, rfl⟩ := List.getElem_of_mem hx
        exact HNO.out j _ (by have := HN.out; omega) (List.getElem?_eq_getElem hj)
      subst hA
      exact ⟨rfl, rfl⟩
/-- within of one number, laid in a new block. -/
theorem within_new (a b x : Int) (w : World) :
    Calls Try.prog 51 #[.int .i64 a, .int .i64 b, .slice (some ⟨w.heap.size, 0, none⟩) 1 1] (w.alloc (.cells #[.int .i64 x] 3)) fun e w' => e = .returned (.bool (inR x a b)) ∧ Below w.heap.size w w' := by
  refine (within_any a b [x] _ 1 1 rfl (by omega) _ (kat_new w x)).mono ?_
  rintro e w' ⟨rfl, rfl⟩
  exact ⟨by simp, (Below.refl _ _).alloc (Nat.le_refl _) _⟩
set_option maxRecDepth 100000 in
set_option maxHeartbeats 400000 in
theorem rwithin_any (x a b : Int) (w : World) :
    Calls Try.prog 55 #[.int .i64 x, .int .i64 a, .int .i64 b] w fun e w' => e = .returned (.bool (inR x a b)) ∧ w = w' := by
  by_cases h1 : a ≤ x
  · go_enter Try.func55, Try.ntmps55
    go_wp2
    go_ret
    exact ⟨by simp [inR, *], rfl⟩
  · go_enter Try.func55, Try.ntmps55
    go_wp2
    go_ret
    exact ⟨by simp [inR]; omega, rfl⟩
set_option maxRecDepth 100000 in
set_option maxHeartbeats 1000000 in
/-- numbers of two equal lists. -/
theorem numbers_same (L : List Int) (sa sb : Value) (hl : L.length ≤ 1000000) (w : World) (ha : KAt .i64 w sa L) (hb : KAt .i64 w sb L) :
    Calls Try.prog 57 #[sa, sb] w fun e w' => e = .returned (.bool true) ∧ Below w.heap.size w w' := by
  obtain ⟨a1, c1, rfl⟩ : ∃ a c, sa = .slice a L.length c := by
    rcases ha with ⟨rfl, rfl⟩ | ⟨b, off, cap, rfl, _⟩ <;> exact ⟨_, _, rfl⟩
  obtain ⟨a2, c2, rfl⟩ : ∃ a c, sb = .slice a L.length c := by
    rcases hb with ⟨rfl, rfl⟩ | ⟨b, off, cap, rfl, _⟩ <;> exact ⟨_, _, rfl⟩
  obtain ⟨n, hn⟩ : ∃ n, n = L.length := ⟨_, rfl⟩
  rw [← hn] at hl ha hb ⊢
  have HA := Lib.hid ha
  have HB := Lib.hid hb
  have HN := Lib.hid hn
  clear ha hb hn
  go_enter Try.func57, Try.ntmps57
  go_wp2
  go_loopw [5] (fun s wr => ∃ k : Nat, k ≤ n ∧ s = .int .i64 k ∧ Below w.heap.size w wr) (fun s _ => n - (intOf s).toNat)
  case atStart => exact ⟨0, Nat.zero_le _, rfl, Below.refl _ _⟩
  case round =>
    obtain ⟨k, hk, rfl, hbl⟩ := hrel
    have HBL := Lib.hid hbl
    by_cases hlt : k < n
    · have hi0 : (0 : Int) ≤ (k : Int) := Int.natCast_nonneg _
      have hi1 : (k : Int) < (n : Int) := by omega
      obtain ⟨z, hz⟩ : ∃ z, L[k]? = some z := ⟨_, List.getElem?_eq_getElem (by rw [← HN.out]; exact hlt)⟩
      obtain ⟨g1, o1, rfl, hg1, hc1⟩ := (HA.out.below hbl).at hz
      obtain ⟨g2, o2, rfl, hg2, hc2⟩ := (HB.out.below hbl).at hz
      clear hz hbl
      go_wp2
      go_quiet (fail)
      go_wp2
      go_roundw
      case rel => exact ⟨k + 1, by omega, by go_num, by repeat (first | exact HBL.out | refine below_drewN ?_ _ | refine Below.drew ?_)⟩
      case measure => simp [intOf]; omega
    · obtain rfl : k = n := by omega
      clear hlt hk hbl
      go_wp2
      go_ret
      exact ⟨rfl, HBL.out⟩
set_option maxRecDepth 100000 in
set_option maxHeartbeats 1000000 in
/-- events of two equal lists. -/
theorem events_same (L : List Evx) (sa sb : Value) (hl : L.length ≤ 1000000) (w : World) (ha : EvxsAt w sa L) (hb : EvxsAt w sb L) :
    Calls Try.prog 17 #[sa, sb] w fun e w' => e = .returned (.bool true) ∧ Below w.heap.size w w' := by
  obtain ⟨a1, c1, rfl⟩ : ∃ a c, sa = .slice a L.length c := by
    rcases ha with ⟨rfl, rfl⟩ | ⟨b, off, cap, rfl, _⟩ <;> exact ⟨_, _, rfl⟩
  obtain ⟨a2, c2, rfl⟩ : ∃ a c, sb = .slice a L.length c := by
    rcases hb with ⟨rfl, rfl⟩ | ⟨b, off, cap, rfl, _⟩ <;> exact ⟨_, _, rfl⟩
  obtain ⟨n, hn⟩ : ∃ n, n = L.length := ⟨_, rfl⟩
  rw [← hn] at hl ha hb ⊢
  have HA := Lib.hid ha
  have HB := Lib.hid hb
  have HN := Lib.hid hn
  have hn0 : (0 : Int) ≤ (n : Int) := Int.natCast_nonneg _
  clear ha hb hn
  go_enter Try.func17, Try.ntmps17
  go_wp2
  go_loopw [5] (fun s wr => ∃ k : Nat, k ≤ n ∧ s = .int .i64 k ∧ Below w.heap.size w wr) (fun s _ => n - (intOf s).toNat)
  case atStart => exact ⟨0, Nat.zero_le _, rfl, Below.refl _ _⟩
  case round =>
    obtain ⟨k, hk, rfl, hbw⟩ := hrel
    have HBW := Lib.hid hbw
    clear hbw
    have hi0 : (0 : Int) ≤ (k : Int) := Int.natCast_nonneg _
    by_cases hlt : k < n
    · have hi1 : (k : Int) < (n : Int) := by omega
      obtain ⟨z, hz⟩ : ∃ z, L[k]? = some z := ⟨_, List.getElem?_eq_getElem (by rw [← HN.out]; exact hlt)⟩
      obtain ⟨g, off, rfl, hgl, hcc⟩ := (HA.out.below HBW.out).at hz
      obtain ⟨g2, off2, rfl, hgl2, hcc2⟩ := (HB.out.below HBW.out).at hz
      obtain ⟨u0, u1⟩ := hcc
      obtain ⟨v0, v1⟩ := hcc2
      clear hz
      obtain ⟨X, Y⟩ := z
      simp only at u0 u1 v0 v1
      go_upto_region 6 with (fail)
      go_quiet (fail)
      have HBW2 := Lib.hid (below_drewN HBW.out nq)
      clear u0 u1 v0 v1
      go_wp2
      go_roundw
      case rel => exact ⟨k + 1, by omega, by go_num, HBW2.out⟩
      case measure => simp [intOf]; omega
    · obtain rfl : k = n := by omega
      clear hlt hk
      go_wp2
      go_ret
      exact ⟨rfl, HBW.out⟩
end Go.Proofs.Ytbnjmpjodmlccaa
