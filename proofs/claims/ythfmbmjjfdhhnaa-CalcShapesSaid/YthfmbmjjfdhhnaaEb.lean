/- The bucket's step, keeps and numbers, for later times. (mk_Eb.py wrote this.) -/
import Derived.Test.YthfmbmjjfdhhnaaEa
namespace Go.Proofs.Ythfmbmjjfdhhnaa
set_option linter.unusedVariables false
open Go.RowKit

/-- Times within ten million. -/
structure TimesW (T : Nat → Int) (l : List Int) : Prop where
  len : l.length ≤ 1000
  at_ : ∀ (j : Nat) (z : Int), l[j]? = some z → z = T j
  pos : ∀ k, k < l.length → 0 ≤ T k
  top : ∀ k, k < l.length → T k ≤ 10000000
theorem TimesW.get {T : Nat → Int} {l : List Int} (h : TimesW T l) {j : Nat} (hj : j < l.length) : l[j]? = some (T j) := by
  have e := List.getElem?_eq_getElem hj
  rw [e, h.at_ j _ e]
set_option maxRecDepth 100000 in
set_option maxHeartbeats 4000000 in
theorem keeps2_any (T : Nat → Int) (l : List Int) (a : Option Addr) (cap : Nat) (B r : Int) (ht : TimesW T l) (hB : 0 ≤ B ∧ B ≤ 1048576) (hr : 0 ≤ r ∧ r ≤ 1024) (w : World) (hc : KAt .i64 w (.slice a l.length cap) l) :
    Calls Try.prog 16 #[.slice a l.length cap, .agg #[.int .i64 B, .int .i64 r]] w fun e w' => e = .returned (.bool (keepsB T l.length B r)) ∧ Below w.heap.size w w' := by
  have hl := ht.len
  obtain ⟨n, hn⟩ : ∃ n, n = l.length := ⟨_, rfl⟩
  rw [← hn] at hl hc ⊢
  have HC := Lib.hid hc
  have HN := Lib.hid hn
  have HT := Lib.hid ht
  clear hc hn ht
  have hx0 : CBox (w.alloc (.cells #[.int .i64 B, .int .i64 r] 27)) w.heap.size 27 B r := alloc_new_at _ _ _ rfl
  have hb0 : Below w.heap.size w (w.alloc (.cells #[.int .i64 B, .int .i64 r] 27)) := (Below.refl _ _).alloc (Nat.le_refl _) _
  go_enter Try.func16, Try.ntmps16
  go_wp2
  generalize w.alloc (.cells #[.int .i64 B, .int .i64 r] 27) = W0 at *
  go_loopw [9] (fun s9 wr => ∃ i : Nat, i ≤ n ∧ s9 = .int .i64 i ∧ rowsOk T n B r i ∧ CBox wr w.heap.size 27 B r ∧ Below w.heap.size w wr) (fun s9 _ => n - (intOf s9).toNat)
  case atStart => exact ⟨0, Nat.zero_le _, rfl, fun i' k h => absurd h (by omega), hx0, hb0⟩
  case round =>
    obtain ⟨i, hi, rfl, hrs, hx, hb⟩ := hrel
    have HRS := Lib.hid hrs
    have HX := Lib.hid hx
    have HB := Lib.hid hb
    clear hrs hx hb hx0 hb0
    by_cases hlt : i < n
    · have hi0 : (0 : Int) ≤ (i : Int) := Int.natCast_nonneg _
      have hi1 : (i : Int) < (n : Int) := by omega
      go_wp2
      generalize wr = wo at *
      go_loopw [6] (fun s6 wr => ∃ k : Nat, i ≤ k ∧ k ≤ n ∧ s6 = .int .i64 k ∧ rowOk T B r i k ∧ CBox wr w.heap.size 27 B r ∧ Below w.heap.size w wr) (fun s6 _ => n - (intOf s6).toNat)
      case atStart => exact ⟨i, Nat.le_refl _, hi, rfl, fun k' h1 h2 => absurd h1 (by omega), HX.out, HB.out⟩
      case round =>
        obtain ⟨k, hik, hk, rfl, hrk, hx, hb⟩ := hrel
        have HRK := Lib.hid hrk
        have HX2 := Lib.hid hx
        have HB2 := Lib.hid hb
        clear hrk hx hb
        by_cases hlt2 : k < n
        · have hk0 : (0 : Int) ≤ (k : Int) := Int.natCast_nonneg _
          have hk1 : (k : Int) < (n : Int) := by omega
          have hzi : l[i]? = some (T i) := HT.out.get (by rw [← HN.out]; exact hlt)
          have hzk : l[k]? = some (T k) := HT.out.get (by rw [← HN.out]; exact hlt2)
          obtain ⟨g, off, rfl, hgl, hci⟩ := (HC.out.below HB2.out).at hzi
          obtain ⟨g', off', e', hgl', hck⟩ := (HC.out.below HB2.out).at hzk
          cases e'
          have t1 := HT.out.pos i (by rw [← HN.out]; exact hlt)
          have t2 := HT.out.pos k (by rw [← HN.out]; exact hlt2)
          have t3 := HT.out.top i (by rw [← HN.out]; exact hlt)
          have t4 := HT.out.top k (by rw [← HN.out]; exact hlt2)
          have hform := need_form (T := T) (r := r) (B := B) (i := i) (k := k)
          have hki : (i : Int) ≤ (k : Int) := by omega
          have hm0 : -10240000000 ≤ r * (T k - T i + 1) ∧ r * (T k - T i + 1) ≤ 10240001024 := by
            have h1 : r * (T k - T i + 1) ≤ r * 10000001 := Int.mul_le_mul_of_nonneg_left (by omega) hr.1
            have h2 : r * (-10000000) ≤ r * (T k - T i + 1) := Int.mul_le_mul_of_nonneg_left (by omega) hr.1
            omega
          obtain ⟨_, _, _, _⟩ := cells2 HX2.out
          have hwl : w.heap.size < wr.heap.size := lt_of_block HX2.out
          have w1 : wrap64 ((k : Int) - (i : Int)) = (k : Int) - (i : Int) := by unfold wrap64; omega
          have w2 : wrap64 ((k : Int) - (i : Int) + 1) = (k : Int) - (i : Int) + 1 := by unfold wrap64; omega
          have w3 : wrap64 (1024 * ((k : Int) - (i : Int) + 1)) = 1024 * ((k : Int) - (i : Int) + 1) := by unfold wrap64; omega
          have w4 : wrap64 (T k - T i) = T k - T i := by unfold wrap64; omega
          have w5 : wrap64 (T k - T i + 1) = T k - T i + 1 := by unfold wrap64; omega
          have w6 : wrap64 (r * (T k - T i + 1)) = r * (T k - T i + 1) := by unfold wrap64; omega
          have w7 : wrap64 (B + r * (T k - T i + 1)) = B + r * (T k - T i + 1) := by unfold wrap64; omega
          have HF := Lib.hid hform
          clear hzi hzk hform hm0 t1 t2 t3 t4
          by_cases hc : B < need T r i k
          · have z1 : (B + r * (T k - T i + 1) < 1024 * ((k : Int) - (i : Int) + 1)) = True := by rw [HF.out]; simp [hc]
            have hno : ¬ keepsP T n B r := fun h => by have := h i k hik hlt2; omega
            have hkB := keepsB_false hno
            have HKB := Lib.hid hkB
            clear hno hkB hc
            go_wp2
            go_quiet (fail)
            go_wp2
            go_ret
            exact ⟨by rw [HKB.out]; rfl, by first | exact HB2.out | exact below_drewN HB2.out _ | exact HB2.out.drew⟩
          · have z1 : (B + r * (T k - T i + 1) < 1024 * ((k : Int) - (i : Int) + 1)) = False := by rw [HF.out]; simp [hc]
            have HLE := Lib.hid (show need T r i k ≤ B by omega)
            clear hc
            go_wp2
            go_quiet (fail)
            go_wp2
            go_roundw
            case rel => exact ⟨k + 1, by omega, by omega, by go_num, rowOk_succ HRK.out HLE.out, HX2.out, by first | exact HB2.out | exact below_drewN HB2.out _ | exact HB2.out.drew⟩
            case measure => simp [intOf]; omega
        · obtain rfl : n = k := by omega
          go_wp2
          go_roundw
          case rel => exact ⟨i + 1, by omega, by go_num, rowsOk_succ HRS.out HRK.out, HX2.out, HB2.out⟩
          case measure => simp [intOf]; omega
    · obtain rfl : n = i := by omega
      have hkB := keepsB_true (fun i k h1 h2 => HRS.out i k (by omega) h1 h2 : keepsP T n B r)
      have HKB := Lib.hid hkB
      clear hkB
      go_wp2
      go_ret
      exact ⟨by rw [HKB.out]; rfl, HB.out⟩
set_option maxRecDepth 100000 in
theorem stepw_any (x L r P : Int) (gL gR gP : Nat) (w : World) (hL : IBox w gL L) (hR : IBox w gR r) (hP : IBox w gP P) (d1 : gL ≠ gR) (d2 : gL ≠ gP) (d3 : gR ≠ gP)
    (hx : 0 ≤ x ∧ x ≤ 10000000) (hp : 0 ≤ P ∧ P ≤ 10000000) (hr : 0 ≤ r ∧ r ≤ 1024) (hl : -1024 ≤ L ∧ L ≤ 1049600) (hm : 0 ≤ r * (x - P) ∧ r * (x - P) ≤ 10240000000) :
    Calls Try.prog 41 #[.int .i64 x, .pointer (some ⟨gL, 0, none⟩), .pointer (some ⟨gR, 0, none⟩), .pointer (some ⟨gP, 0, none⟩)] w fun e w' => e = .returned (.int .i64 (max (L - r * (x - P)) (-r) + 1024)) ∧ w' = (w.setCell ⟨gL, 0, none⟩ (.int .i64 (max (L - r * (x - P)) (-r) + 1024))).setCell ⟨gP, 0, none⟩ (.int .i64 x) := by
  have l1 := lt_of_block hL
  have l2 := lt_of_block hR
  have l3 := lt_of_block hP
  obtain ⟨_, _⟩ := cells1 hL
  obtain ⟨_, _⟩ := cells1 hR
  obtain ⟨_, _⟩ := cells1 hP
  have d1' := d1.symm
  have d2' := d2.symm
  have d3' := d3.symm
  have w1 : wrap64 (x - P) = x - P := by unfold wrap64; omega
  have w2 : wrap64 (r * (x - P)) = r * (x - P) := by unfold wrap64; omega
  have w3 : wrap64 (L - r * (x - P)) = L - r * (x - P) := by unfold wrap64; omega
  have w4 : wrap64 (-r) = -r := by unfold wrap64; omega
  by_cases h : L - r * (x - P) < -r
  · have z1 : (L - r * (x - P) < -r) = True := by simp [h]
    have w5 : wrap64 (-r + 1024) = -r + 1024 := by unfold wrap64; omega
    rw [Int.max_eq_right (by omega)]
    clear hL hR hP hx hp hr hl hm h
    go_enter Try.func41, Try.ntmps41
    go_wp2
    go_ret
    exact ⟨rfl, rfl⟩
  · have z1 : (L - r * (x - P) < -r) = False := by simp [h]
    have w5 : wrap64 (L - r * (x - P) + 1024) = L - r * (x - P) + 1024 := by unfold wrap64; omega
    rw [Int.max_eq_left (by omega)]
    clear hL hR hP hx hp hr hl hm h
    go_enter Try.func41, Try.ntmps41
    go_wp2
    go_ret
    exact ⟨rfl, rfl⟩

/-- What a step of the bucket at gb changes. -/
structure Stp (gb : Nat) (L x : Int) (W w' : World) : Prop where
  os : w'.os = W.os
  tape : w'.tape = W.tape
  output : w'.output = W.output
  size : W.heap.size ≤ w'.heap.size
  others : ∀ b, b ≠ gb + 1 → b ≠ gb + 2 → w'.heap[b]? = W.heap[b]?
  L : IBox w' (gb + 1) L
  P : IBox w' (gb + 2) x
set_option maxRecDepth 100000 in
theorem step2_any (x L r P : Int) (gb : Nat) (w : World) (hL : IBox w (gb + 1) L) (hR : IBox w gb r) (hP : IBox w (gb + 2) P)
    (hx : 0 ≤ x ∧ x ≤ 10000000) (hp : 0 ≤ P ∧ P ≤ 10000000) (hr : 0 ≤ r ∧ r ≤ 1024) (hl : -1024 ≤ L ∧ L ≤ 1049600) (hm : 0 ≤ r * (x - P) ∧ r * (x - P) ≤ 10240000000) (L' : Int) (hL' : max (L - r * (x - P)) (-r) + 1024 = L') :
    Calls Try.prog 41 #[.int .i64 x, .pointer (some ⟨gb + 1, 0, none⟩), .pointer (some ⟨gb, 0, none⟩), .pointer (some ⟨gb + 2, 0, none⟩)] w fun e w' => e = .returned (.int .i64 L') ∧ Stp gb L' x w w' := by
  subst hL'
  have hst : Stp gb (max (L - r * (x - P)) (-r) + 1024) x w ((w.setCell ⟨gb + 1, 0, none⟩ (.int .i64 (max (L - r * (x - P)) (-r) + 1024))).setCell ⟨gb + 2, 0, none⟩ (.int .i64 x)) :=
    ⟨rfl, rfl, rfl, by simp, fun b h1 h2 => by simp [World.setCell, Array.getElem?_modify, Ne.symm h1, Ne.symm h2], (hL.set _).other (by omega), (hP.other (by omega)).set _⟩
  refine (stepw_any x L r P _ _ _ w hL hR hP (by omega) (by omega) (by omega) hx hp hr hl hm).mono ?_
  rintro e w' ⟨rfl, rfl⟩
  exact ⟨rfl, hst⟩
set_option maxRecDepth 100000 in
set_option maxHeartbeats 2000000 in
theorem numbers_any (l : List Int) (a a' : Option Addr) (cap cap' : Nat) (w : World) (hm : l.length ≤ 1000) (hc : KAt .i64 w (.slice a l.length cap) l) (hc' : KAt .i64 w (.slice a' l.length cap') l) :
    Calls Try.prog 20 #[.slice a l.length cap, .slice a' l.length cap'] w fun e w' => e = .returned (.bool true) ∧ Below w.heap.size w w' := by
  obtain ⟨n, hn⟩ : ∃ n, n = l.length := ⟨_, rfl⟩
  rw [← hn] at hc hc' hm ⊢
  have HC := Lib.hid hc
  have HC' := Lib.hid hc'
  have HN := Lib.hid hn
  clear hc hc' hn
  go_enter Try.func20, Try.ntmps20
  go_wp2
  go_loopw [5] (fun s5 wr => ∃ j : Nat, j ≤ n ∧ s5 = .int .i64 j ∧ Below w.heap.size w wr) (fun s5 _ => n - (intOf s5).toNat)
  case atStart => exact ⟨0, Nat.zero_le _, rfl, Below.refl _ _⟩
  case round =>
    obtain ⟨j, hj, rfl, hb⟩ := hrel
    have HB := Lib.hid hb
    clear hb
    by_cases hlt : j < n
    · obtain ⟨z, hzj⟩ : ∃ z, l[j]? = some z := ⟨_, List.getElem?_eq_getElem (by rw [← HN.out]; exact hlt)⟩
      obtain ⟨g, off, rfl, hgl, hcc⟩ := (HC.out.below HB.out).at hzj
      obtain ⟨g', off', rfl, hgl', hcc'⟩ := (HC'.out.below HB.out).at hzj
      have hi0 : (0 : Int) ≤ (j : Int) := Int.natCast_nonneg _
      have hi1 : (j : Int) < (n : Int) := by omega
      clear hzj
      go_wp2
      go_quiet (fail)
      go_wp2
      go_roundw
      case rel => exact ⟨j + 1, by omega, by go_num, by first | exact HB.out | exact below_drewN HB.out _ | exact HB.out.drew⟩
      case measure => simp [intOf]; omega
    · obtain rfl : n = j := by omega
      go_wp2
      go_ret
      exact ⟨rfl, HB.out⟩
end Go.Proofs.Ythfmbmjjfdhhnaa
