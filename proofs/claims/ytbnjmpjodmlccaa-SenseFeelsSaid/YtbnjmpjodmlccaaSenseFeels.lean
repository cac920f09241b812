/- For all sensors, samples and angles the law SenseFeels returns true: the events of an ear and of a whisker, or the errors, are the document's. No condition. (mk_feels.py wrote this.) -/
import Derived.Test.YtbnjmpjodmlccaaSh
import Derived.Test.YtbnjmpjodmlccaaSm
import Derived.Test.YtbnjmpjodmlccaaSc
import Derived.Test.YtbnjmpjodmlccaaWk
namespace Go.Proofs.Ytbnjmpjodmlccaa.senseFeels
open Go.ChangeShapes Go.WideShapes Go.ChangeAt Go.RowKit Go.Proofs.Ytbnjmpjodmlccaa.Lf
set_option linter.unusedVariables false

theorem evsForm {W : World} {v : Value} {L : List Evx} (h : EvxsAt W v L) : ∃ a c, v = .slice a L.length c := by
  rcases h with ⟨rfl, rfl⟩ | ⟨b, off, cap, rfl, _⟩ <;> exact ⟨_, _, rfl⟩
/-- The four ways that a number of samples can be. -/
theorem ways4 (n : Nat) : (((300 : Int) < (n : Int)) = True ∧ ((n : Int) ≤ 4096) = True) ∨ (((300 : Int) < (n : Int)) = True ∧ ((n : Int) ≤ 4096) = False ∧ ((4100 : Int) < (n : Int)) = True) ∨
    (((300 : Int) < (n : Int)) = False ∧ ((4100 : Int) < (n : Int)) = False ∧ n ≤ 10000) ∨ (((300 : Int) < (n : Int)) = True ∧ ((n : Int) ≤ 4096) = False ∧ ((4100 : Int) < (n : Int)) = False ∧ n ≤ 10000) := by
  simp only [eq_iff_iff, iff_true, iff_false]
  omega
set_option maxRecDepth 100000 in
set_option maxHeartbeats 8000000 in
theorem walk (C S : Int) (l1 : List Int) (a1 : Option Addr) (c1 : Nat) (m1 : l1.length ≤ 9223372036854775807) (T B : Int) (l2 : List Int) (a2 : Option Addr) (c2 : Nat) (m2 : l2.length ≤ 9223372036854775807) (w : World) (hk1 : KAt .i64 w (.slice a1 l1.length c1) l1) (hk2 : KAt .i64 w (.slice a2 l2.length c2) l2) :
    Calls Try.prog 4 #[.agg #[.int .i64 C, .int .i64 S], .slice a1 l1.length c1, .agg #[.int .i64 T, .int .i64 B], .slice a2 l2.length c2] w fun e w' => e = .returned (.bool true) ∧ Below w.heap.size w w' := by
  have HH := Lib.hid (fun (hl : l1.length ≤ 10000) (W : World) (hb : Below w.heap.size w W) => hear_any C S l1 hl a1 c1 W (hk1.below hb))
  have HRH := Lib.hid (fun (hl : l1.length ≤ 10000) (W : World) (hb : Below w.heap.size w W) => rhear_any C S l1 hl a1 c1 W (hk1.below hb))
  have HF := Lib.hid (fun (hl : l2.length ≤ 10000) (W : World) (hb : Below w.heap.size w W) => feel_any T B l2 hl a2 c2 W (hk2.below hb))
  have HRF := Lib.hid (fun (hl : l2.length ≤ 10000) (W : World) (hb : Below w.heap.size w W) => rfeel_any T B l2 hl a2 c2 W (hk2.below hb))
  have hl1 := heL_le C S l1
  have hl2 := feL_le T B l2
  obtain ⟨L1, hL1⟩ : ∃ L, L = heL C S l1 := ⟨_, rfl⟩
  obtain ⟨E1, hE1⟩ : ∃ E, E = heE C S l1 := ⟨_, rfl⟩
  obtain ⟨L2, hL2⟩ : ∃ L, L = feL T B l2 := ⟨_, rfl⟩
  obtain ⟨E2, hE2⟩ : ∃ E, E = feE T B l2 := ⟨_, rfl⟩
  rw [← hL1, ← hE1] at HH HRH
  rw [← hL2, ← hE2] at HF HRF
  rw [← hL1] at hl1
  rw [← hL2] at hl2
  obtain ⟨n1, hn1⟩ : ∃ n, n = l1.length := ⟨_, rfl⟩
  obtain ⟨n2, hn2⟩ : ∃ n, n = l2.length := ⟨_, rfl⟩
  rw [← hn1] at HH HRH m1 ⊢
  rw [← hn2] at HF HRF m2 ⊢
  have hw1 := ways4 n1
  have hw2 := ways4 n2
  clear hk1 hk2 hL1 hE1 hL2 hE2 hn1 hn2
  obtain ⟨W2, hW2⟩ : ∃ W2, (w.alloc (.cells #[.int .i64 C, .int .i64 S] 43)).alloc (.cells #[.int .i64 T, .int .i64 B] 45) = W2 := ⟨_, rfl⟩
  have hbe : W2.heap[w.heap.size]? = some (.cells #[.int .i64 C, .int .i64 S] 43) := by rw [← hW2, Below.heap_alloc _ _ _ (by simp)]; exact alloc_new_at _ _ _ rfl
  have hbw : W2.heap[w.heap.size + 1]? = some (.cells #[.int .i64 T, .int .i64 B] 45) := by rw [← hW2]; exact alloc_new_at _ _ _ (by simp)
  have hb2 : Below w.heap.size w W2 := by rw [← hW2]; exact ((Below.refl _ _).alloc (Nat.le_refl _) _).alloc (by simp) _
  have HW2 := Lib.hid hW2
  have HBE := Lib.hid hbe
  have HBW := Lib.hid hbw
  have HB2 := Lib.hid hb2
  clear hW2 hbe hbw hb2
  rcases hw1 with ⟨g1, g2⟩ | ⟨g1, g2, g3⟩ | ⟨g1, g3, hs1⟩ | ⟨g1, g2, g3, hs1⟩
  · clear hw2
    go_enter Try.func4, Try.ntmps4
    go_upto_region 1 with (fail)
    rw [HW2.out]
    go_wp2_with (go_at_call 13; refine (works_any _).mono ?_; rintro e w9 ⟨rfl, hb9⟩)
    go_ret
    exact ⟨rfl, HB2.out.trans (hb9.mono HB2.out.size)⟩
  · clear hw2
    go_enter Try.func4, Try.ntmps4
    go_upto_region 1 with (fail)
    rw [HW2.out]
    go_wp2_with (go_at_call 13; refine (works_any _).mono ?_; rintro e w9 ⟨rfl, hb9⟩)
    go_ret
    exact ⟨rfl, HB2.out.trans (hb9.mono HB2.out.size)⟩
  · rcases hw2 with ⟨k1, k2⟩ | ⟨k1, k2, k3⟩ | ⟨k1, k3, hs2⟩ | ⟨k1, k2, k3, hs2⟩
    · skip
      go_enter Try.func4, Try.ntmps4
      go_upto_region 1 with (fail)
      rw [HW2.out]
      go_wp2_with (go_at_call 13; refine (works_any _).mono ?_; rintro e w9 ⟨rfl, hb9⟩)
      go_ret
      exact ⟨rfl, HB2.out.trans (hb9.mono HB2.out.size)⟩
    · skip
      go_enter Try.func4, Try.ntmps4
      go_upto_region 1 with (fail)
      rw [HW2.out]
      go_wp2_with (go_at_call 13; refine (works_any _).mono ?_; rintro e w9 ⟨rfl, hb9⟩)
      go_ret
      exact ⟨rfl, HB2.out.trans (hb9.mono HB2.out.size)⟩
    · skip
      go_enter Try.func4, Try.ntmps4
      go_upto_region 1 with (fail)
      rw [HW2.out]
      have HBEW2 := HBE
      have HBWW2 := HBW
      obtain ⟨bx0, bx1, _, _⟩ := cells2 HBEW2.out
      have hbx := lt_of_block HBEW2.out
      go_wp2_with (fail)
      go_at_call 23
      refine (HH.out hs1 _ HB2.out).mono ?_
      rintro e w3 ⟨u1, rfl, hev, hbn⟩
      have HEVu1 := Lib.hid hev
      have HB3 := Lib.hid (HB2.out.trans (hbn.mono HB2.out.size))
      have HBEw3 := Lib.hid ((hbn.block _ (lt_of_block HBEW2.out)).trans HBEW2.out)
      have HBWw3 := Lib.hid ((hbn.block _ (lt_of_block HBWW2.out)).trans HBWW2.out)
      have HNw3 := Lib.hid hbn
      obtain ⟨au1, cu1, rfl⟩ := evsForm hev
      clear hev hbn bx0 bx1 hbx
      obtain ⟨bx0, bx1, _, _⟩ := cells2 HBEw3.out
      have hbx := lt_of_block HBEw3.out
      go_wp2_with (fail)
      go_at_call 24
      refine (HRH.out hs1 _ HB3.out).mono ?_
      rintro e w4 ⟨u2, rfl, hev, hbn⟩
      have HEVu2 := Lib.hid hev
      have HB4 := Lib.hid (HB3.out.trans (hbn.mono HB3.out.size))
      have HBEw4 := Lib.hid ((hbn.block _ (lt_of_block HBEw3.out)).trans HBEw3.out)
      have HBWw4 := Lib.hid ((hbn.block _ (lt_of_block HBWw3.out)).trans HBWw3.out)
      have HNw4 := Lib.hid hbn
      obtain ⟨au2, cu2, rfl⟩ := evsForm hev
      clear hev hbn bx0 bx1 hbx
      go_wp2_with (fail)
      go_at_call 17
      refine (events_same _ _ _ (by omega) _ (HEVu1.out.below HNw4.out) HEVu2.out).mono ?_
      rintro e w5 ⟨rfl, hbn⟩
      have HB5 := Lib.hid (HB4.out.trans (hbn.mono HB4.out.size))
      have HBEw5 := Lib.hid ((hbn.block _ (lt_of_block HBEw4.out)).trans HBEw4.out)
      have HBWw5 := Lib.hid ((hbn.block _ (lt_of_block HBWw4.out)).trans HBWw4.out)
      clear hbn
      obtain ⟨bx0, bx1, _, _⟩ := cells2 HBWw5.out
      have hbx := lt_of_block HBWw5.out
      go_wp2_with (fail)
      go_at_call 25
      refine (HF.out hs2 _ HB5.out).mono ?_
      rintro e w6 ⟨u3, rfl, hev, hbn⟩
      have HEVu3 := Lib.hid hev
      have HB6 := Lib.hid (HB5.out.trans (hbn.mono HB5.out.size))
      have HBEw6 := Lib.hid ((hbn.block _ (lt_of_block HBEw5.out)).trans HBEw5.out)
      have HBWw6 := Lib.hid ((hbn.block _ (lt_of_block HBWw5.out)).trans HBWw5.out)
      have HNw6 := Lib.hid hbn
      obtain ⟨au3, cu3, rfl⟩ := evsForm hev
      clear hev hbn bx0 bx1 hbx
      obtain ⟨bx0, bx1, _, _⟩ := cells2 HBWw6.out
      have hbx := lt_of_block HBWw6.out
      go_wp2_with (fail)
      go_at_call 26
      refine (HRF.out hs2 _ HB6.out).mono ?_
      rintro e w7 ⟨u4, rfl, hev, hbn⟩
      have HEVu4 := Lib.hid hev
      have HB7 := Lib.hid (HB6.out.trans (hbn.mono HB6.out.size))
      have HBEw7 := Lib.hid ((hbn.block _ (lt_of_block HBEw6.out)).trans HBEw6.out)
      have HBWw7 := Lib.hid ((hbn.block _ (lt_of_block HBWw6.out)).trans HBWw6.out)
      have HNw7 := Lib.hid hbn
      obtain ⟨au4, cu4, rfl⟩ := evsForm hev
      clear hev hbn bx0 bx1 hbx
      go_wp2_with (fail)
      go_at_call 17
      refine (events_same _ _ _ (by omega) _ (HEVu3.out.below HNw7.out) HEVu4.out).mono ?_
      rintro e w8 ⟨rfl, hbn⟩
      have HB8 := Lib.hid (HB7.out.trans (hbn.mono HB7.out.size))
      have HBEw8 := Lib.hid ((hbn.block _ (lt_of_block HBEw7.out)).trans HBEw7.out)
      have HBWw8 := Lib.hid ((hbn.block _ (lt_of_block HBWw7.out)).trans HBWw7.out)
      clear hbn
      go_wp2_with (go_at_call 13; refine (works_any _).mono ?_; rintro e w9 ⟨rfl, hb9⟩)
      go_ret
      exact ⟨rfl, HB8.out.trans (hb9.mono HB8.out.size)⟩
    · skip
      go_enter Try.func4, Try.ntmps4
      go_upto_region 1 with (fail)
      rw [HW2.out]
      have HBEW2 := HBE
      have HBWW2 := HBW
      obtain ⟨bx0, bx1, _, _⟩ := cells2 HBEW2.out
      have hbx := lt_of_block HBEW2.out
      go_wp2_with (fail)
      go_at_call 23
      refine (HH.out hs1 _ HB2.out).mono ?_
      rintro e w3 ⟨u1, rfl, hev, hbn⟩
      have HEVu1 := Lib.hid hev
      have HB3 := Lib.hid (HB2.out.trans (hbn.mono HB2.out.size))
      have HBEw3 := Lib.hid ((hbn.block _ (lt_of_block HBEW2.out)).trans HBEW2.out)
      have HBWw3 := Lib.hid ((hbn.block _ (lt_of_block HBWW2.out)).trans HBWW2.out)
      have HNw3 := Lib.hid hbn
      obtain ⟨au1, cu1, rfl⟩ := evsForm hev
      clear hev hbn bx0 bx1 hbx
      obtain ⟨bx0, bx1, _, _⟩ := cells2 HBEw3.out
      have hbx := lt_of_block HBEw3.out
      go_wp2_with (fail)
      go_at_call 24
      refine (HRH.out hs1 _ HB3.out).mono ?_
      rintro e w4 ⟨u2, rfl, hev, hbn⟩
      have HEVu2 := Lib.hid hev
      have HB4 := Lib.hid (HB3.out.trans (hbn.mono HB3.out.size))
      have HBEw4 := Lib.hid ((hbn.block _ (lt_of_block HBEw3.out)).trans HBEw3.out)
      have HBWw4 := Lib.hid ((hbn.block _ (lt_of_block HBWw3.out)).trans HBWw3.out)
      have HNw4 := Lib.hid hbn
      obtain ⟨au2, cu2, rfl⟩ := evsForm hev
      clear hev hbn bx0 bx1 hbx
      go_wp2_with (fail)
      go_at_call 17
      refine (events_same _ _ _ (by omega) _ (HEVu1.out.below HNw4.out) HEVu2.out).mono ?_
      rintro e w5 ⟨rfl, hbn⟩
      have HB5 := Lib.hid (HB4.out.trans (hbn.mono HB4.out.size))
      have HBEw5 := Lib.hid ((hbn.block _ (lt_of_block HBEw4.out)).trans HBEw4.out)
      have HBWw5 := Lib.hid ((hbn.block _ (lt_of_block HBWw4.out)).trans HBWw4.out)
      clear hbn
      obtain ⟨bx0, bx1, _, _⟩ := cells2 HBWw5.out
      have hbx := lt_of_block HBWw5.out
      go_wp2_with (fail)
      go_at_call 25
      refine (HF.out hs2 _ HB5.out).mono ?_
      rintro e w6 ⟨u3, rfl, hev, hbn⟩
      have HEVu3 := Lib.hid hev
      have HB6 := Lib.hid (HB5.out.trans (hbn.mono HB5.out.size))
      have HBEw6 := Lib.hid ((hbn.block _ (lt_of_block HBEw5.out)).trans HBEw5.out)
      have HBWw6 := Lib.hid ((hbn.block _ (lt_of_block HBWw5.out)).trans HBWw5.out)
      have HNw6 := Lib.hid hbn
      obtain ⟨au3, cu3, rfl⟩ := evsForm hev
      clear hev hbn bx0 bx1 hbx
      obtain ⟨bx0, bx1, _, _⟩ := cells2 HBWw6.out
      have hbx := lt_of_block HBWw6.out
      go_wp2_with (fail)
      go_at_call 26
      refine (HRF.out hs2 _ HB6.out).mono ?_
      rintro e w7 ⟨u4, rfl, hev, hbn⟩
      have HEVu4 := Lib.hid hev
      have HB7 := Lib.hid (HB6.out.trans (hbn.mono HB6.out.size))
      have HBEw7 := Lib.hid ((hbn.block _ (lt_of_block HBEw6.out)).trans HBEw6.out)
      have HBWw7 := Lib.hid ((hbn.block _ (lt_of_block HBWw6.out)).trans HBWw6.out)
      have HNw7 := Lib.hid hbn
      obtain ⟨au4, cu4, rfl⟩ := evsForm hev
      clear hev hbn bx0 bx1 hbx
      go_wp2_with (fail)
      go_at_call 17
      refine (events_same _ _ _ (by omega) _ (HEVu3.out.below HNw7.out) HEVu4.out).mono ?_
      rintro e w8 ⟨rfl, hbn⟩
      have HB8 := Lib.hid (HB7.out.trans (hbn.mono HB7.out.size))
      have HBEw8 := Lib.hid ((hbn.block _ (lt_of_block HBEw7.out)).trans HBEw7.out)
      have HBWw8 := Lib.hid ((hbn.block _ (lt_of_block HBWw7.out)).trans HBWw7.out)
      clear hbn
      go_wp2_with (go_at_call 13; refine (works_any _).mono ?_; rintro e w9 ⟨rfl, hb9⟩)
      go_ret
      exact ⟨rfl, HB8.out.trans (hb9.mono HB8.out.size)⟩
  · rcases hw2 with ⟨k1, k2⟩ | ⟨k1, k2, k3⟩ | ⟨k1, k3, hs2⟩ | ⟨k1, k2, k3, hs2⟩
    · skip
      go_enter Try.func4, Try.ntmps4
      go_upto_region 1 with (fail)
      rw [HW2.out]
      go_wp2_with (go_at_call 13; refine (works_any _).mono ?_; rintro e w9 ⟨rfl, hb9⟩)
      go_ret
      exact ⟨rfl, HB2.out.trans (hb9.mono HB2.out.size)⟩
    · skip
      go_enter Try.func4, Try.ntmps4
      go_upto_region 1 with (fail)
      rw [HW2.out]
      go_wp2_with (go_at_call 13; refine (works_any _).mono ?_; rintro e w9 ⟨rfl, hb9⟩)
      go_ret
      exact ⟨rfl, HB2.out.trans (hb9.mono HB2.out.size)⟩
    · skip
      go_enter Try.func4, Try.ntmps4
      go_upto_region 1 with (fail)
      rw [HW2.out]
      have HBEW2 := HBE
      have HBWW2 := HBW
      obtain ⟨bx0, bx1, _, _⟩ := cells2 HBEW2.out
      have hbx := lt_of_block HBEW2.out
      go_wp2_with (fail)
      go_at_call 23
      refine (HH.out hs1 _ HB2.out).mono ?_
      rintro e w3 ⟨u1, rfl, hev, hbn⟩
      have HEVu1 := Lib.hid hev
      have HB3 := Lib.hid (HB2.out.trans (hbn.mono HB2.out.size))
      have HBEw3 := Lib.hid ((hbn.block _ (lt_of_block HBEW2.out)).trans HBEW2.out)
      have HBWw3 := Lib.hid ((hbn.block _ (lt_of_block HBWW2.out)).trans HBWW2.out)
      have HNw3 := Lib.hid hbn
      obtain ⟨au1, cu1, rfl⟩ := evsForm hev
      clear hev hbn bx0 bx1 hbx
      obtain ⟨bx0, bx1, _, _⟩ := cells2 HBEw3.out
      have hbx := lt_of_block HBEw3.out
      go_wp2_with (fail)
      go_at_call 24
      refine (HRH.out hs1 _ HB3.out).mono ?_
      rintro e w4 ⟨u2, rfl, hev, hbn⟩
      have HEVu2 := Lib.hid hev
      have HB4 := Lib.hid (HB3.out.trans (hbn.mono HB3.out.size))
      have HBEw4 := Lib.hid ((hbn.block _ (lt_of_block HBEw3.out)).trans HBEw3.out)
      have HBWw4 := Lib.hid ((hbn.block _ (lt_of_block HBWw3.out)).trans HBWw3.out)
      have HNw4 := Lib.hid hbn
      obtain ⟨au2, cu2, rfl⟩ := evsForm hev
      clear hev hbn bx0 bx1 hbx
      go_wp2_with (fail)
      go_at_call 17
      refine (events_same _ _ _ (by omega) _ (HEVu1.out.below HNw4.out) HEVu2.out).mono ?_
      rintro e w5 ⟨rfl, hbn⟩
      have HB5 := Lib.hid (HB4.out.trans (hbn.mono HB4.out.size))
      have HBEw5 := Lib.hid ((hbn.block _ (lt_of_block HBEw4.out)).trans HBEw4.out)
      have HBWw5 := Lib.hid ((hbn.block _ (lt_of_block HBWw4.out)).trans HBWw4.out)
      clear hbn
      obtain ⟨bx0, bx1, _, _⟩ := cells2 HBWw5.out
      have hbx := lt_of_block HBWw5.out
      go_wp2_with (fail)
      go_at_call 25
      refine (HF.out hs2 _ HB5.out).mono ?_
      rintro e w6 ⟨u3, rfl, hev, hbn⟩
      have HEVu3 := Lib.hid hev
      have HB6 := Lib.hid (HB5.out.trans (hbn.mono HB5.out.size))
      have HBEw6 := Lib.hid ((hbn.block _ (lt_of_block HBEw5.out)).trans HBEw5.out)
      have HBWw6 := Lib.hid ((hbn.block _ (lt_of_block HBWw5.out)).trans HBWw5.out)
      have HNw6 := Lib.hid hbn
      obtain ⟨au3, cu3, rfl⟩ := evsForm hev
      clear hev hbn bx0 bx1 hbx
      obtain ⟨bx0, bx1, _, _⟩ := cells2 HBWw6.out
      have hbx := lt_of_block HBWw6.out
      go_wp2_with (fail)
      go_at_call 26
      refine (HRF.out hs2 _ HB6.out).mono ?_
      rintro e w7 ⟨u4, rfl, hev, hbn⟩
      have HEVu4 := Lib.hid hev
      have HB7 := Lib.hid (HB6.out.trans (hbn.mono HB6.out.size))
      have HBEw7 := Lib.hid ((hbn.block _ (lt_of_block HBEw6.out)).trans HBEw6.out)
      have HBWw7 := Lib.hid ((hbn.block _ (lt_of_block HBWw6.out)).trans HBWw6.out)
      have HNw7 := Lib.hid hbn
      obtain ⟨au4, cu4, rfl⟩ := evsForm hev
      clear hev hbn bx0 bx1 hbx
      go_wp2_with (fail)
      go_at_call 17
      refine (events_same _ _ _ (by omega) _ (HEVu3.out.below HNw7.out) HEVu4.out).mono ?_
      rintro e w8 ⟨rfl, hbn⟩
      have HB8 := Lib.hid (HB7.out.trans (hbn.mono HB7.out.size))
      have HBEw8 := Lib.hid ((hbn.block _ (lt_of_block HBEw7.out)).trans HBEw7.out)
      have HBWw8 := Lib.hid ((hbn.block _ (lt_of_block HBWw7.out)).trans HBWw7.out)
      clear hbn
      go_wp2_with (go_at_call 13; refine (works_any _).mono ?_; rintro e w9 ⟨rfl, hb9⟩)
      go_ret
      exact ⟨rfl, HB8.out.trans (hb9.mono HB8.out.size)⟩
    · skip
      go_enter Try.func4, Try.ntmps4
      go_upto_region 1 with (fail)
      rw [HW2.out]
      have HBEW2 := HBE
      have HBWW2 := HBW
      obtain ⟨bx0, bx1, _, _⟩ := cells2 HBEW2.out
      have hbx := lt_of_block HBEW2.out
      go_wp2_with (fail)
      go_at_call 23
      refine (HH.out hs1 _ HB2.out).mono ?_
      rintro e w3 ⟨u1, rfl, hev, hbn⟩
      have HEVu1 := Lib.hid hev
      have HB3 := Lib.hid (HB2.out.trans (hbn.mono HB2.out.size))
      have HBEw3 := Lib.hid ((hbn.block _ (lt_of_block HBEW2.out)).trans HBEW2.out)
      have HBWw3 := Lib.hid ((hbn.block _ (lt_of_block HBWW2.out)).trans HBWW2.out)
      have HNw3 := Lib.hid hbn
      obtain ⟨au1, cu1, rfl⟩ := evsForm hev
      clear hev hbn bx0 bx1 hbx
      obtain ⟨bx0, bx1, _, _⟩ := cells2 HBEw3.out
      have hbx := lt_of_block HBEw3.out
      go_wp2_with (fail)
      go_at_call 24
      refine (HRH.out hs1 _ HB3.out).mono ?_
      rintro e w4 ⟨u2, rfl, hev, hbn⟩
      have HEVu2 := Lib.hid hev
      have HB4 := Lib.hid (HB3.out.trans (hbn.mono HB3.out.size))
      have HBEw4 := Lib.hid ((hbn.block _ (lt_of_block HBEw3.out)).trans HBEw3.out)
      have HBWw4 := Lib.hid ((hbn.block _ (lt_of_block HBWw3.out)).trans HBWw3.out)
      have HNw4 := Lib.hid hbn
      obtain ⟨au2, cu2, rfl⟩ := evsForm hev
      clear hev hbn bx0 bx1 hbx
      go_wp2_with (fail)
      go_at_call 17
      refine (events_same _ _ _ (by omega) _ (HEVu1.out.below HNw4.out) HEVu2.out).mono ?_
      rintro e w5 ⟨rfl, hbn⟩
      have HB5 := Lib.hid (HB4.out.trans (hbn.mono HB4.out.size))
      have HBEw5 := Lib.hid ((hbn.block _ (lt_of_block HBEw4.out)).trans HBEw4.out)
      have HBWw5 := Lib.hid ((hbn.block _ (lt_of_block HBWw4.out)).trans HBWw4.out)
      clear hbn
      obtain ⟨bx0, bx1, _, _⟩ := cells2 HBWw5.out
      have hbx := lt_of_block HBWw5.out
      go_wp2_with (fail)
      go_at_call 25
      refine (HF.out hs2 _ HB5.out).mono ?_
      rintro e w6 ⟨u3, rfl, hev, hbn⟩
      have HEVu3 := Lib.hid hev
      have HB6 := Lib.hid (HB5.out.trans (hbn.mono HB5.out.size))
      have HBEw6 := Lib.hid ((hbn.block _ (lt_of_block HBEw5.out)).trans HBEw5.out)
      have HBWw6 := Lib.hid ((hbn.block _ (lt_of_block HBWw5.out)).trans HBWw5.out)
      have HNw6 := Lib.hid hbn
      obtain ⟨au3, cu3, rfl⟩ := evsForm hev
      clear hev hbn bx0 bx1 hbx
      obtain ⟨bx0, bx1, _, _⟩ := cells2 HBWw6.out
      have hbx := lt_of_block HBWw6.out
      go_wp2_with (fail)
      go_at_call 26
      refine (HRF.out hs2 _ HB6.out).mono ?_
      rintro e w7 ⟨u4, rfl, hev, hbn⟩
      have HEVu4 := Lib.hid hev
      have HB7 := Lib.hid (HB6.out.trans (hbn.mono HB6.out.size))
      have HBEw7 := Lib.hid ((hbn.block _ (lt_of_block HBEw6.out)).trans HBEw6.out)
      have HBWw7 := Lib.hid ((hbn.block _ (lt_of_block HBWw6.out)).trans HBWw6.out)
      have HNw7 := Lib.hid hbn
      obtain ⟨au4, cu4, rfl⟩ := evsForm hev
      clear hev hbn bx0 bx1 hbx
      go_wp2_with (fail)
      go_at_call 17
      refine (events_same _ _ _ (by omega) _ (HEVu3.out.below HNw7.out) HEVu4.out).mono ?_
      rintro e w8 ⟨rfl, hbn⟩
      have HB8 := Lib.hid (HB7.out.trans (hbn.mono HB7.out.size))
      have HBEw8 := Lib.hid ((hbn.block _ (lt_of_block HBEw7.out)).trans HBEw7.out)
      have HBWw8 := Lib.hid ((hbn.block _ (lt_of_block HBWw7.out)).trans HBWw7.out)
      clear hbn
      go_wp2_with (go_at_call 13; refine (works_any _).mono ?_; rintro e w9 ⟨rfl, hb9⟩)
      go_ret
      exact ⟨rfl, HB8.out.trans (hb9.mono HB8.out.size)⟩

set_option maxRecDepth 100000 in
theorem lifted (os : Os) (started : os.Started) (H : Type) (enc : TypeId × Value → H) :
    ReturnsInHanded {} Try.checked os 4 .any (Rows.senseFeelsSpec.pre6 enc Try.prog Try.f4 Rows.senseFeelsRow.domain false) (Rows.senseFeelsSpec.post enc Try.prog Try.f4 false true false false) := by
  refine returnsInHanded_of_change (C := Try.checked) own started (by kernel_rfl) Try.func4
    (ChangeSpec.witness6 (enc := enc) (C := Try.checked) false ⟨#[], #[.agg #[.int .i64 0, .int .i64 0], .slice none 0 0, .agg #[.int .i64 0, .int .i64 0], .slice none 0 0], []⟩ 8 (by kernel_rfl) (by kernel_rfl) (by kernel_rfl) (by kernel_rfl)) ?_
  intro W base args ds gs before hval0 hW hcnd hsz
  have hval : ∀ (j : Nat) t v, Try.f4.params[j]? = some t → args[j]? = some v → Value.okWide Try.prog W .any base t v := hval0
  have hW' := hW
  obtain ⟨p, q, hA0, hV, rfl, hfz, hnd⟩ := hW
  have hA : DataW.TrodAll enc Try.prog W 0 (fun _ => true) true Try.f4.params.toList args.toList ds p := hA0
  rw [Try.params4] at hA hval
  have hAll := hA
  obtain ⟨v0, vs0, d0, ds0, p0, q0, hargs, rfl, rfl, h0, r0⟩ := trodAll_cons hA
  obtain ⟨v1, vs1, d1, ds1, p1, q1, rfl, rfl, rfl, h1, r1⟩ := trodAll_cons r0
  obtain ⟨v2, vs2, d2, ds2, p2, q2, rfl, rfl, rfl, h2, r2⟩ := trodAll_cons r1
  obtain ⟨v3, vs3, d3, ds3, p3, q3, rfl, rfl, rfl, h3, r3⟩ := trodAll_cons r2
  obtain ⟨rfl, rfl, rfl⟩ := trodAll_nil r3
  obtain rfl : args = #[v0, v1, v2, v3] := by cases args; simp_all
  obtain ⟨rfl, rfl⟩ := trodVars_none hV
  obtain ⟨x0, y0, rfl⟩ := open_tworear (hval 0 43 v0 rfl rfl) h0
  obtain ⟨sa1, sc1, l1, rfl, hS1, hm1, hw1⟩ := open_slice_k Try.underlying25 Try.underlying3 (by kernel_rfl) (hval 1 25 v1 rfl rfl) h1
  obtain ⟨x2, y2, rfl⟩ := open_tworwhi (hval 2 45 v2 rfl rfl) h2
  obtain ⟨sa3, sc3, l3, rfl, hS3, hm3, hw3⟩ := open_slice_k Try.underlying25 Try.underlying3 (by kernel_rfl) (hval 3 25 v3 rfl rfl) h3
  clear hA0 hval0
  refine (walk x0 y0 l1 sa1 sc1 hm1 x2 y2 l3 sa3 sc3 hm3 W hS1 hS3).mono fun e W' ⟨he, bel⟩ => ?_
  subst he
  have hback := trodAll_below bel [43, 25, 45, 25] (by intro t ht; simp at ht; rcases ht with rfl | rfl | rfl | rfl <;> exact ⟨by kernel_rfl, of_decide_eq_true (by kernel_rfl)⟩) hAll
  exact ⟨_, rfl, _, _, _, [], _, [], hW', trodAll_mk1 (shut_bool Try.underlying4 _), hback, rfl, bel.frame _, fun h => by cases h⟩

theorem over : Rows.senseFeelsRow.holds Try.pinned (OpenSpec.ofChange Rows.senseFeelsSpec) :=
  OpenClaim.holds_of_wide 4 Try.f4 rfl rfl rfl rfl rfl rfl rfl ⟨rfl, rfl, rfl, rfl, rfl⟩ rfl rfl rfl rfl rfl (by kernel_rfl) Try.func4 (by kernel_rfl)
    (of_decide_eq_true (by kernel_rfl)) (by unfold Func.isWrapper; first | (rw [if_pos (by decide +kernel)]; kernel_rfl) | (rw [if_neg (by decide +kernel)]; exact ⟨rfl, rfl⟩))
    (fun os started H enc _ => lifted os started H enc)

theorem proved : Rows.SenseFeelsSaid := over

end Go.Proofs.Ytbnjmpjodmlccaa.senseFeels
