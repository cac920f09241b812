/- The events before a tick: the law's own function. Over this seat's program; the condition is named. -/
import Derived.Test.YtbnjmpjodmlccaaSm
import Derived.Test.YtbnjmpjodmlccaaSh
import Derived.Test.YtbnjmpjodmlccaaCa
namespace Go.Proofs.Ytbnjmpjodmlccaa
set_option linter.unusedVariables false
open Go.RowKit Go.Shelf

theorem bfr_len (k : Nat) (l : List Evx) : (bfr k l).length ≤ l.length := List.length_filter_le _ _
/-- What before returns. -/
def BfrGot (k : Nat) (L : List Evx) (w : World) (e : Ending) (w' : World) : Prop := ∃ v, e = .returned v ∧ EvxsAt w' v (bfr k L) ∧ Below w.heap.size w w'
set_option maxRecDepth 100000 in
set_option maxHeartbeats 1000000 in
theorem before_any (k : Nat) (L : List Evx) (hL : L.length ≤ 100000) (a : Option Addr) (n cap : Nat) (hn : n = L.length) (hk : k ≤ 1000000) (w : World) (hS : EvxsAt w (.slice a n cap) L) :
    Calls Try.prog 42 #[.slice a n cap, .int .i64 (k : Int)] w (BfrGot k L w) := by
  have HS := Lib.hid hS
  have HN := Lib.hid hn
  have hn0 : (0 : Int) ≤ (n : Int) := Int.natCast_nonneg _
  have hnl : n ≤ 100000 := by omega
  clear hS hn
  go_enter Try.func42, Try.ntmps42
  go_wp2
  go_loopw [5, 10] (fun s5 s10 wr => ∃ j : Nat, j ≤ n ∧ s10 = .int .i64 j ∧ wr.ownsRow w.heap.size 63 2 s5 (bfr k (L.take j)).length (evxCs (bfr k (L.take j))) ∧ Below w.heap.size w wr) (fun _ s10 _ => n - (intOf s10).toNat)
  case atStart => exact ⟨0, Nat.zero_le _, rfl, World.ownsRow_nil _ _ _ _, Below.refl _ _⟩
  case round =>
    obtain ⟨j, hj, rfl, ho, hb⟩ := hrel
    have HB := Lib.hid hb
    have HO := Lib.hid ho
    obtain ⟨va, vc, rfl⟩ := own_slC ho
    have hi0 : (0 : Int) ≤ (j : Int) := Int.natCast_nonneg _
    clear ho hb
    by_cases hlt : j < n
    · have hi1 : (j : Int) < (n : Int) := by omega
      obtain ⟨x, hx⟩ : ∃ x, L[j]? = some x := ⟨_, List.getElem?_eq_getElem (by rw [← HN.out]; exact hlt)⟩
      obtain ⟨b, off, rfl, hbl, hcl⟩ := (HS.out.below HB.out).at hx
      have hsn : bfr k (L.take (j + 1)) = bfr k (L.take j) ++ bfr k [x] := by rw [take_snoc_of hx, bfr_append]
      have hml : (bfr k (L.take j)).length ≤ 100000 := by
        have h1 := bfr_len k (L.take j)
        have h2 : (L.take j).length ≤ j := List.length_take_le _ _
        omega
      obtain ⟨X, Y⟩ := x
      obtain ⟨u1, u2⟩ := hcl
      simp only at u1 u2
      obtain ⟨M, hM⟩ : ∃ M, M = bfr k (L.take j) := ⟨_, rfl⟩
      rw [← hM] at HO hsn hml ⊢
      have HSN := Lib.hid hsn
      clear hx hM hsn
      go_upto_region 5 with (fail)
      have hbn := HB.out.alloc HB.out.size (.cells #[.int .i64 X, .int .i64 Y] 63)
      have htb : (wr.alloc (.cells #[.int .i64 X, .int .i64 Y] 63)).heap[wr.heap.size]? = some (.cells #[.int .i64 X, .int .i64 Y] 63) := alloc_new_at _ _ _ rfl
      have hon := HO.out.alloc (.cells #[.int .i64 X, .int .i64 Y] 63)
      generalize wr.alloc (.cells #[.int .i64 X, .int .i64 Y] 63) = W5 at *
      have HBN := Lib.hid hbn
      have HON := Lib.hid hon
      have hbs := hbn.size
      have hwl := lt_of_block htb
      obtain ⟨q0, q1, _, _⟩ := cells2 htb
      clear hbn htb hon u1 u2 HB HO
      by_cases c : X < (k : Int)
      · have g1 : (X < (k : Int)) = True := by simp [c]
        have hb1 : bfr k [(⟨X, Y⟩ : Evx)] = [⟨X, Y⟩] := by simp [bfr, c]
        have HSN2 := HSN.out
        rw [hb1] at HSN2
        have HSN3 := Lib.hid HSN2
        clear HSN2 hb1 c HSN
        go_wp2_with (at_builtin; refine wpList_app_ev _ rfl _ _ rfl w.heap.size M _ rfl (HON.out.alloc _) W5.heap.size X Y rfl (alloc_new_at _ _ _ rfl) (by omega) (by simp; omega) ?_; intro v' w9 hown' hb9; obtain ⟨va', vc', rfl⟩ := own_slC hown'; have HO9 := Lib.hid hown'; have HB9 := Lib.hid (HBN.out.trans (((Below.refl w.heap.size W5).alloc hbs _).trans hb9)); clear hown' hb9)
        go_roundw
        case rel => exact ⟨j + 1, by omega, by go_num, by have h9 := HO9.out; rw [List.length_append] at h9; rw [HSN3.out, List.length_append]; exact h9, HB9.out⟩
        case measure => simp [intOf]; omega
      · have g1 : (X < (k : Int)) = False := by simp; omega
        have hb1 : bfr k [(⟨X, Y⟩ : Evx)] = [] := by simp [bfr]; omega
        have HSN2 := HSN.out
        rw [hb1, List.append_nil] at HSN2
        have HSN3 := Lib.hid HSN2
        clear HSN2 hb1 c HSN
        go_wp2
        go_roundw
        case rel => exact ⟨j + 1, by omega, by go_num, by rw [HSN3.out]; exact HON.out, HBN.out⟩
        case measure => simp [intOf]; omega
    · have hjn : j = n := by omega
      have HOF := Lib.hid (show wr.ownsRow w.heap.size 63 2 (.slice va (bfr k (L.take j)).length vc) (bfr k L).length (evxCs (bfr k L)) from by
        have e : L.take j = L := by rw [hjn, HN.out, List.take_length]
        have h1 := HO.out
        rw [e] at h1 ⊢
        exact h1)
      obtain ⟨m, hm⟩ : ∃ m, m = (bfr k (L.take j)).length := ⟨_, rfl⟩
      rw [← hm] at HOF ⊢
      clear HO hm
      subst hjn
      go_wp2
      go_ret
      exact ⟨_, rfl, evxAt_of_owns HOF.out, HB.out⟩
end Go.Proofs.Ytbnjmpjodmlccaa
