/- Times: keeps, Keeps. (mk_Dc.py wrote this.) -/
import Derived.Test.YthfmbmjjfdhhnaaDb
namespace Go.Proofs.Ythfmbmjjfdhhnaa
set_option linter.unusedVariables false
open Go.RowKit

noncomputable def keepsB (T : Nat → Int) (n : Nat) (B r : Int) : Bool := @decide (keepsP T n B r) (Classical.propDecidable _)
theorem keepsB_true {T : Nat → Int} {n : Nat} {B r : Int} (h : keepsP T n B r) : keepsB T n B r = true := by simp [keepsB, h]
theorem keepsB_false {T : Nat → Int} {n : Nat} {B r : Int} (h : ¬ keepsP T n B r) : keepsB T n B r = false := by simp [keepsB, h]
/-- The times i to k in the code's own form. -/
theorem need_form {T : Nat → Int} {r B : Int} {i k : Nat} : (B + r * (T k - T i + 1) < 1024 * ((k : Int) - (i : Int) + 1)) = (B < need T r i k) := by
  unfold need
  apply propext
  constructor <;> intro h <;> omega
def rowsOk (T : Nat → Int) (n : Nat) (B r : Int) (i : Nat) : Prop := ∀ i' k, i' < i → i' ≤ k → k < n → need T r i' k ≤ B
def rowOk (T : Nat → Int) (B r : Int) (i k : Nat) : Prop := ∀ k', i ≤ k' → k' < k → need T r i k' ≤ B
theorem rowsOk_succ {T : Nat → Int} {n : Nat} {B r : Int} {i : Nat} (h : rowsOk T n B r i) (h2 : rowOk T B r i n) : rowsOk T n B r (i + 1) := fun i' k h1 h3 h4 => by
  rcases Nat.lt_or_ge i' i with h5 | h5
  · exact h i' k h5 h3 h4
  · obtain rfl : i' = i := by omega
    exact h2 k h3 h4
theorem rowOk_succ {T : Nat → Int} {B r : Int} {i k : Nat} (h : rowOk T B r i k) (h2 : need T r i k ≤ B) : rowOk T B r i (k + 1) := fun k' h1 h3 => by
  rcases Nat.lt_or_ge k' k with h5 | h5
  · exact h k' h1 h5
  · obtain rfl : k' = k := by omega
    exact h2
theorem below_drewN {w w' : World} {m : Nat} (h : Below m w w') (n : Nat) : Below m w (w'.drewN n) := ⟨h.os, h.tape, h.output, h.size, h.block⟩
set_option maxRecDepth 100000 in
set_option maxHeartbeats 4000000 in
theorem keeps_any (T : Nat → Int) (l : List Int) (a : Option Addr) (cap : Nat) (B r : Int) (ht : TimesAt T l) (hB : 0 ≤ B ∧ B ≤ 1048576) (hr : 0 ≤ r ∧ r ≤ 1024) (w : World) (hc : KAt .i64 w (.slice a l.length cap) l) :
    Calls Try.prog 16 #[.slice a l.length cap, .agg #[.int .i64 B, .int .i64 r]] w fun e w' => e = .returned (.bool (keepsB T l.length B r)) ∧ Below w.heap.size w w' := by
  have hl := ht.len
  obtain ⟨n, hn⟩ : ∃ n, n = l.length := ⟨_, rfl⟩
  rw [← hn] at hl hc ⊢
  have HC := Lib.hid hc
  have HN := Lib.hid hn
  have HT := Lib.hid ht
  clear hc hn ht
  have hx0 : CBox (w.alloc (.cells #[.int .i64 B, .int .i64 r] 27)) w.heap.size 27 B r := alloc_new_at _ _ _ rfl
  have hb0 : Below w.heap.size w (w.alloc (.cells #[.int .i64 B, .int .i64 r] 27)) := (Below.refl _ _).alloc (Nat.le_refl _) _
  go_enter Try.func16, Try.ntmps16
  go_wp2
  generalize w.alloc (.cells #[.int .i64 B, .int .i64 r] 27) = W0 at *
  go_loopw [9] (fun s9 wr => ∃ i : Nat, i ≤ n ∧ s9 = .int .i64 i ∧ rowsOk T n B r i ∧ CBox wr w.heap.size 27 B r ∧ Below w.heap.size w wr) (fun s9 _ => n - (intOf s9).toNat)
  case atStart => exact ⟨0, Nat.zero_le _, rfl, fun i' k h => absurd h (by omega), hx0, hb0⟩
  case round =>
    obtain ⟨i, hi, rfl, hrs, hx, hb⟩ := hrel
    have HRS := Lib.hid hrs
    have HX := Lib.hid hx
    have HB := Lib.hid hb
    clear hrs hx hb hx0 hb0
    by_cases hlt : i < n
    · have hi0 : (0 : Int) ≤ (i : Int) := Int.natCast_nonneg _
      have hi1 : (i : Int) < (n : Int) := by omega
      go_wp2
      generalize wr = wo at *
      go_loopw [6] (fun s6 wr => ∃ k : Nat, i ≤ k ∧ k ≤ n ∧ s6 = .int .i64 k ∧ rowOk T B r i k ∧ CBox wr w.heap.size 27 B r ∧ Below w.heap.size w wr) (fun s6 _ => n - (intOf s6).toNat)
      case atStart => exact ⟨i, Nat.le_refl _, hi, rfl, fun k' h1 h2 => absurd h1 (by omega), HX.out, HB.out⟩
      case round =>
        obtain ⟨k, hik, hk, rfl, hrk, hx, hb⟩ := hrel
        have HRK := Lib.hid hrk
        have HX2 := Lib.hid hx
        have HB2 := Lib.hid hb
        clear hrk hx hb
        by_cases hlt2 : k < n
        · have hk0 : (0 : Int) ≤ (k : Int) := Int.natCast_nonneg _
          have hk1 : (k : Int) < (n : Int) := by omega
          have hzi : l[i]? = some (T i) := HT.out.get (by rw [← HN.out]; exact hlt)
          have hzk : l[k]? = some (T k) := HT.out.get (by rw [← HN.out]; exact hlt2)
          obtain ⟨g, off, rfl, hgl, hci⟩ := (HC.out.below HB2.out).at hzi
          obtain ⟨g', off', e', hgl', hck⟩ := (HC.out.below HB2.out).at hzk
          cases e'
          have t1 := HT.out.pos i
          have t2 := HT.out.pos k
          have t3 := HT.out.top i (by rw [← HN.out]; exact hlt)
          have t4 := HT.out.top k (by rw [← HN.out]; exact hlt2)
          have hform := need_form (T := T) (r := r) (B := B) (i := i) (k := k)
          have hki : (i : Int) ≤ (k : Int) := by omega
          have hm0 : -10240000 ≤ r * (T k - T i + 1) ∧ r * (T k - T i + 1) ≤ 10241024 := by
            have h1 : r * (T k - T i + 1) ≤ r * 10001 := Int.mul_le_mul_of_nonneg_left (by omega) hr.1
            have h2 : r * (-10000) ≤ r * (T k - T i + 1) := Int.mul_le_mul_of_nonneg_left (by omega) hr.1
            omega
          obtain ⟨_, _, _, _⟩ := cells2 HX2.out
          have hwl : w.heap.size < wr.heap.size := lt_of_block HX2.out
          have w1 : wrap64 ((k : Int) - (i : Int)) = (k : Int) - (i : Int) := by unfold wrap64; omega
          have w2 : wrap64 ((k : Int) - (i : Int) + 1) = (k : Int) - (i : Int) + 1 := by unfold wrap64; omega
          have w3 : wrap64 (1024 * ((k : Int) - (i : Int) + 1)) = 1024 * ((k : Int) - (i : Int) + 1) := by unfold wrap64; omega
          have w4 : wrap64 (T k - T i) = T k - T i := by unfold wrap64; omega
          have w5 : wrap64 (T k - T i + 1) = T k - T i + 1 := by unfold wrap64; omega
          have w6 : wrap64 (r * (T k - T i + 1)) = r * (T k - T i + 1) := by unfold wrap64; omega
          have w7 : wrap64 (B + r * (T k - T i + 1)) = B + r * (T k - T i + 1) := by unfold wrap64; omega
          have HF := Lib.hid hform
          clear hzi hzk hform hm0 t1 t2 t3 t4
          by_cases hc : B < need T r i k
          · have z1 : (B + r * (T k - T i + 1) < 1024 * ((k : Int) - (i : Int) + 1)) = True := by rw [HF.out]; simp [hc]
            have hno : ¬ keepsP T n B r := fun h => by have := h i k hik hlt2; omega
            have hkB := keepsB_false hno
            have HKB := Lib.hid hkB
            clear hno hkB hc
            go_wp2
            go_quiet (fail)
            go_wp2
            go_ret
            exact ⟨by rw [HKB.out]; rfl, by first | exact HB2.out | exact below_drewN HB2.out _ | exact HB2.out.drew⟩
          · have z1 : (B + r * (T k - T i + 1) < 1024 * ((k : Int) - (i : Int) + 1)) = False := by rw [HF.out]; simp [hc]
            have HLE := Lib.hid (show need T r i k ≤ B by omega)
            clear hc
            go_wp2
            go_quiet (fail)
            go_wp2
            go_roundw
            case rel => exact ⟨k + 1, by omega, by omega, by go_num, rowOk_succ HRK.out HLE.out, HX2.out, by first | exact HB2.out | exact below_drewN HB2.out _ | exact HB2.out.drew⟩
            case measure => simp [intOf]; omega
        · obtain rfl : n = k := by omega
          go_wp2
          go_roundw
          case rel => exact ⟨i + 1, by omega, by go_num, rowsOk_succ HRS.out HRK.out, HX2.out, HB2.out⟩
          case measure => simp [intOf]; omega
    · obtain rfl : n = i := by omega
      have hkB := keepsB_true (fun i k h1 h2 => HRS.out i k (by omega) h1 h2 : keepsP T n B r)
      have HKB := Lib.hid hkB
      clear hkB
      go_wp2
      go_ret
      exact ⟨by rw [HKB.out]; rfl, HB.out⟩
/-- What Keeps answers. -/
def KeepsOut (T : Nat → Int) (n : Nat) (B r : Int) (w : World) (e : Ending) (w' : World) : Prop := e = .returned (.tuple #[.bool (decide (bur T r n ≤ B)), .int .i64 0]) ∧ Below w.heap.size w w'
set_option maxRecDepth 100000 in
set_option maxHeartbeats 2000000 in
theorem ckeeps_any (T : Nat → Int) (l : List Int) (a : Option Addr) (cap : Nat) (B r : Int) (ht : TimesAt T l) (hB : 0 ≤ B ∧ B ≤ 65536) (hr : 0 ≤ r ∧ r ≤ 1024) (w : World) (hc : KAt .i64 w (.slice a l.length cap) l) :
    Calls Try.prog 18 #[.slice a l.length cap, .agg #[.int .i64 B, .int .i64 r]] w (KeepsOut T l.length B r w) := by
  have hck : ∀ W, Calls Try.prog 24 #[.agg #[.int .i64 B, .int .i64 r]] W fun e w' => e = .returned (.int .i64 0) ∧ Below W.heap.size W w' := fun W => by
    have h := check_any B r W
    rwa [show cE B r = 0 from if_pos ⟨hB.1, hB.2, hr.1, hr.2⟩] at h
  have hbu : ∀ W, Below w.heap.size w W → Calls Try.prog 15 #[.slice a l.length cap, .int .i64 r] W fun e w' => e = .returned (.tuple #[.int .i64 (bur T r l.length), .int .i64 0]) ∧ Below W.heap.size W w' := fun W h => burst_any T l a cap r ht hr W (hc.below h)
  have hx0 : CBox (w.alloc (.cells #[.int .i64 B, .int .i64 r] 27)) w.heap.size 27 B r := alloc_new_at _ _ _ rfl
  have hb0 : Below w.heap.size w (w.alloc (.cells #[.int .i64 B, .int .i64 r] 27)) := (Below.refl _ _).alloc (Nat.le_refl _) _
  have hfin : ∀ w', Below w.heap.size w w' → KeepsOut T l.length B r w (.returned (.tuple #[.bool (decide (bur T r l.length ≤ B)), .int .i64 0])) w' := fun w' h => ⟨rfl, h⟩
  generalize bur T r l.length = U at *
  have HCK := Lib.hid hck
  have HBU := Lib.hid hbu
  have HF := Lib.hid hfin
  have hcl := lt_of_block hx0
  have HB0 := Lib.hid hb0
  have HX0 := Lib.hid hx0
  obtain ⟨_, _, _, _⟩ := cells2 hx0
  clear hck hbu hfin hc ht hb0
  generalize l.length = n at *
  by_cases h : U ≤ B
  · have z1 : (U ≤ B) = True := by simp [h]
    rw [show decide (U ≤ B) = true by simp [h]] at HF
    go_enter Try.func18, Try.ntmps18
    go_wp2_with (first | (go_at_call 24; refine (HCK.out _).mono ?_; rintro e w1 ⟨rfl, hb1⟩; have hB1 := HB0.out.trans (hb1.mono (Nat.le_of_lt hcl)); have hx1 : CBox w1 w.heap.size 27 B r := (hb1.block _ hcl).trans HX0.out; have hl1 := lt_of_block hx1; obtain ⟨_, _, _, _⟩ := cells2 hx1) | (go_at_call 15; refine (HBU.out _ hB1).mono ?_; rintro e w2 ⟨rfl, hb2⟩; have hB2 := hB1.trans (hb2.mono (Nat.le_of_lt hl1)); have hx2 : CBox w2 w.heap.size 27 B r := (hb2.block _ hl1).trans hx1; have hl2 := lt_of_block hx2; obtain ⟨_, _, _, _⟩ := cells2 hx2))
    exact bodyPost_ret (v := .tuple #[.bool true, .int .i64 0]) (by simp [results, Try.results18, go_sem]) rfl (HF.out _ hB2)
  · have z1 : (U ≤ B) = False := by simp [h]
    rw [show decide (U ≤ B) = false by simp [h]] at HF
    go_enter Try.func18, Try.ntmps18
    go_wp2_with (first | (go_at_call 24; refine (HCK.out _).mono ?_; rintro e w1 ⟨rfl, hb1⟩; have hB1 := HB0.out.trans (hb1.mono (Nat.le_of_lt hcl)); have hx1 : CBox w1 w.heap.size 27 B r := (hb1.block _ hcl).trans HX0.out; have hl1 := lt_of_block hx1; obtain ⟨_, _, _, _⟩ := cells2 hx1) | (go_at_call 15; refine (HBU.out _ hB1).mono ?_; rintro e w2 ⟨rfl, hb2⟩; have hB2 := hB1.trans (hb2.mono (Nat.le_of_lt hl1)); have hx2 : CBox w2 w.heap.size 27 B r := (hb2.block _ hl1).trans hx1; have hl2 := lt_of_block hx2; obtain ⟨_, _, _, _⟩ := cells2 hx2))
    exact bodyPost_ret (v := .tuple #[.bool false, .int .i64 0]) (by simp [results, Try.results18, go_sem]) rfl (HF.out _ hB2)
end Go.Proofs.Ythfmbmjjfdhhnaa
