/- Small functions; nets of networks that read as the same. Over this seat's program. (mk_Gc.py wrote this.) -/
import Derived.Test.YtmgdildbngbibaaGb
import Derived.BigQuiet
namespace Go.Proofs.Ytmgdildbngbibaa
set_option linter.unusedVariables false
open Go.RowKit Go.Shelf

set_option maxRecDepth 100000 in
set_option maxHeartbeats 4000000 in
theorem nets_any (ps : List Prm) (inp : Int) (ss : List Syn) (a1 a2 b1 b2 : Option Addr) (c1 c2 d1 d2 : Nat) (h1 : ps.length ≤ 100000) (h2 : ss.length ≤ 100000) (w : World)
    (hp : PsAt w (.slice a1 ps.length c1) ps) (hs : SsAt w (.slice a2 ss.length c2) ss) (hp' : PsAt w (.slice b1 ps.length d1) ps) (hs' : SsAt w (.slice b2 ss.length d2) ss) :
    Calls Try.prog 17 #[.agg #[.slice a1 ps.length c1, .int .i64 inp, .slice a2 ss.length c2], .agg #[.slice b1 ps.length d1, .int .i64 inp, .slice b2 ss.length d2]] w fun e w' => e = .returned (.bool true) ∧ Below w.heap.size w w' := by
  obtain ⟨k, hk⟩ : ∃ k, k = ps.length := ⟨_, rfl⟩
  obtain ⟨m, hm⟩ : ∃ m, m = ss.length := ⟨_, rfl⟩
  rw [← hk] at h1 hp hp' ⊢
  rw [← hm] at h2 hs hs' ⊢
  have HP := Lib.hid hp
  have HS := Lib.hid hs
  have HP' := Lib.hid hp'
  have HS' := Lib.hid hs'
  have HKK := Lib.hid hk
  have HMM := Lib.hid hm
  clear hp hs hp' hs' hk hm
  go_enter Try.func17, Try.ntmps17
  go_wp2
  go_loopw [5] (fun i wr => ∃ j : Nat, j ≤ k ∧ i = .int .i64 j ∧ Below w.heap.size w wr ∧ NetBox wr w.heap.size (.slice a1 k c1) inp (.slice a2 m c2) ∧ NetBox wr (w.heap.size + 1) (.slice b1 k d1) inp (.slice b2 m d2)) (fun i _ => k - (intOf i).toNat)
  case atStart => exact ⟨0, Nat.zero_le _, rfl, ((Below.refl _ _).alloc (Nat.le_refl _) _).alloc (by simp) _, (Below.heap_alloc _ _ _ (by simp)).trans (alloc_new_at _ _ _ rfl), alloc_new_at _ _ _ (by simp)⟩
  case round =>
    obtain ⟨j, hj, rfl, hb, hb1, hb2⟩ := hrel
    have HB := Lib.hid hb
    have HB1 := Lib.hid hb1
    have HB2 := Lib.hid hb2
    clear hb hb1 hb2
    obtain ⟨u0, u1, u2⟩ := cells3 HB1.out
    obtain ⟨v0, v1, v2⟩ := cells3 HB2.out
    have hl1 : w.heap.size < wr.heap.size := lt_of_block HB1.out
    have hl2 : w.heap.size + 1 < wr.heap.size := lt_of_block HB2.out
    by_cases hlt : j < k
    · obtain ⟨q, hq⟩ : ∃ q, ps[j]? = some q := ⟨_, List.getElem?_eq_getElem (by rw [← HKK.out]; exact hlt)⟩
      obtain ⟨b, off, rfl, hbl, hc⟩ := (HP.out.below HB.out).at hq
      obtain ⟨b', off', rfl, hbl', hc'⟩ := (HP'.out.below HB.out).at hq
      obtain ⟨_, _, _, _, _, _, _, _⟩ := hc
      obtain ⟨_, _, _, _, _, _, _, _⟩ := hc'
      have hi0 : (0 : Int) ≤ (j : Int) := Int.natCast_nonneg _
      have hi1 : (j : Int) < (k : Int) := by omega
      clear hq
      go_wp2
      go_quiet (fail)
      go_wp2
      go_roundw
      case rel => exact ⟨j + 1, by omega, by go_num, by first | exact HB.out | exact below_drewN HB.out _ | exact HB.out.drew, HB1.out, HB2.out⟩
      case measure => simp [intOf]; omega
    · obtain rfl : j = k := by omega
      clear hlt
      go_wp2
      go_loopw [6] (fun i wr => ∃ t : Nat, t ≤ m ∧ i = .int .i64 t ∧ Below w.heap.size w wr ∧ NetBox wr w.heap.size (.slice a1 j c1) inp (.slice a2 m c2) ∧ NetBox wr (w.heap.size + 1) (.slice b1 j d1) inp (.slice b2 m d2)) (fun i _ => m - (intOf i).toNat)
      case atStart => exact ⟨0, Nat.zero_le _, rfl, HB.out, HB1.out, HB2.out⟩
      case round =>
        obtain ⟨t, ht, rfl, hb, hb1, hb2⟩ := hrel
        clear u0 u1 u2 v0 v1 v2 hl1 hl2
        have HB := Lib.hid hb
        have HB1 := Lib.hid hb1
        have HB2 := Lib.hid hb2
        clear hb hb1 hb2
        obtain ⟨u0, u1, u2⟩ := cells3 HB1.out
        obtain ⟨v0, v1, v2⟩ := cells3 HB2.out
        have hl1 : w.heap.size < wr.heap.size := lt_of_block HB1.out
        have hl2 : w.heap.size + 1 < wr.heap.size := lt_of_block HB2.out
        by_cases hlt : t < m
        · obtain ⟨s, hs⟩ : ∃ s, ss[t]? = some s := ⟨_, List.getElem?_eq_getElem (by rw [← HMM.out]; exact hlt)⟩
          obtain ⟨b, off, rfl, hbl, hc⟩ := (HS.out.below HB.out).at hs
          obtain ⟨b', off', rfl, hbl', hc'⟩ := (HS'.out.below HB.out).at hs
          obtain ⟨_, _, _, _⟩ := hc
          obtain ⟨_, _, _, _⟩ := hc'
          have hi0 : (0 : Int) ≤ (t : Int) := Int.natCast_nonneg _
          have hi1 : (t : Int) < (m : Int) := by omega
          clear hs
          go_wp2
          go_quiet (fail)
          go_wp2
          go_roundw
          case rel => exact ⟨t + 1, by omega, by go_num, by first | exact HB.out | exact below_drewN HB.out _ | exact HB.out.drew, HB1.out, HB2.out⟩
          case measure => simp [intOf]; omega
        · obtain rfl : t = m := by omega
          clear hlt
          go_wp2
          go_ret
          exact ⟨rfl, HB.out⟩
set_option maxHeartbeats 400000 in
theorem mamong_any (x a b : Int) (w : World) :
    Calls Try.prog 60 #[.int .i64 x, .int .i64 a, .int .i64 b] w fun e w' => e = .returned (.bool (inR x a b)) ∧ w = w' := by
  by_cases h1 : a ≤ x
  · go_enter Try.func60, Try.ntmps60
    go_wp2
    go_ret
    exact ⟨by simp [inR, *], rfl⟩
  · go_enter Try.func60, Try.ntmps60
    go_wp2
    go_ret
    exact ⟨by simp [inR]; omega, rfl⟩
set_option maxHeartbeats 400000 in
theorem rwithin9_any (x a b : Int) (w : World) :
    Calls Try.prog 59 #[.int .i64 x, .int .i64 a, .int .i64 b] w fun e w' => e = .returned (.bool (inR x a b)) ∧ w = w' := by
  by_cases h1 : a ≤ x
  · go_enter Try.func59, Try.ntmps59
    go_wp2
    go_ret
    exact ⟨by simp [inR, *], rfl⟩
  · go_enter Try.func59, Try.ntmps59
    go_wp2
    go_ret
    exact ⟨by simp [inR]; omega, rfl⟩
theorem input_any (x : Int) (hx : -1000000 ≤ x ∧ x ≤ 1000000) (w : World) :
    Calls Try.prog 53 #[.int .i64 x] w fun e w' => e = .returned (.int .i64 (-1 - x)) ∧ w = w' := by
  go_enter Try.func53, Try.ntmps53
  go_wp2
  go_ret
  exact ⟨rfl, rfl⟩
theorem rinput_any (x : Int) (hx : -1000000 ≤ x ∧ x ≤ 1000000) (w : World) :
    Calls Try.prog 57 #[.int .i64 x] w fun e w' => e = .returned (.int .i64 (-1 - x)) ∧ w = w' := by
  go_enter Try.func57, Try.ntmps57
  go_wp2
  go_ret
  exact ⟨rfl, rfl⟩
theorem start_any (inp : Int) (w : World) :
    Calls Try.prog 48 #[.int .i64 inp] w fun e w' => e = .returned (.pointer (some ⟨w.heap.size, 0, none⟩)) ∧ w' = w.alloc (.cells #[.slice none 0 0, .int .i64 inp, .slice none 0 0] 122) := by
  go_enter Try.func48, Try.ntmps48
  go_wp2
  go_ret
  exact ⟨rfl, rfl⟩
/-- Eight cells of a block hold a neuron. -/
def PBox (W : World) (b : Nat) (p : Prm) : Prop := W.heap[b]? = some (.cells #[.int .i64 p.lk, .int .i64 p.lv, .int .i64 p.bi, .int .i64 p.th, .int .i64 p.rk, .int .i64 p.rs, .int .i64 p.fl, .int .i64 p.re] 125)
end Go.Proofs.Ytmgdildbngbibaa
