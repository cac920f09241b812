/- Slices of events in memory; the laws' same, few, some; the network of the examples. -/
import Derived.Test.YtgbcdebnanejpaaNf
import Derived.Test.YtgbcdebnanejpaaNc
import Derived.Deep.RegionHeld3
namespace Go.Proofs.Ytgbcdebnanejpaa
set_option linter.unusedVariables false
open Go.RowKit Go.Shelf

structure EvCells (W : World) (b o : Nat) (e : Evt) : Prop where
  c0 : W.cell? ⟨b, o, none⟩ = some (.int .i64 e.tk)
  c1 : W.cell? ⟨b, o + 1, none⟩ = some (.int .i64 e.id)
def EvsAt (W : World) (sv : Value) (l : List Evt) : Prop :=
  (sv = .slice none 0 0 ∧ l = []) ∨ ∃ b off cap, sv = .slice (some ⟨b, off, none⟩) l.length cap ∧ b < W.heap.size ∧ ∀ k e, l[k]? = some e → EvCells W b (off + k * 2) e
theorem EvCells.below {W w1 : World} {b o : Nat} {e : Evt} (h : EvCells W b o e) (hb : Below W.heap.size W w1) (hl : b < W.heap.size) : EvCells w1 b o e := by
  obtain ⟨hc, _⟩ := bcell hb
  exact ⟨(hc _ _ hl).trans h.c0, (hc _ _ hl).trans h.c1⟩
theorem EvsAt.below {W w1 : World} {sv : Value} {l : List Evt} (h : EvsAt W sv l) (hb : Below W.heap.size W w1) : EvsAt w1 sv l := by
  rcases h with h | ⟨b, off, cap, e, hl, h⟩
  · exact Or.inl h
  · exact Or.inr ⟨b, off, cap, e, Nat.lt_of_lt_of_le hl hb.size, fun k p hk => (h k p hk).below hb hl⟩
theorem EvsAt.form {W : World} {sv : Value} {l : List Evt} (h : EvsAt W sv l) : ∃ a cap, sv = .slice a l.length cap := by
  rcases h with ⟨rfl, rfl⟩ | ⟨b, off, cap, rfl, _⟩
  · exact ⟨none, 0, rfl⟩
  · exact ⟨_, cap, rfl⟩
theorem EvsAt.at {W : World} {a : Option Addr} {n cap : Nat} {l : List Evt} (h : EvsAt W (.slice a n cap) l) {k : Nat} {e : Evt} (hk : l[k]? = some e) : ∃ b off, a = some ⟨b, off, none⟩ ∧ b < W.heap.size ∧ EvCells W b (off + k * 2) e := by
  rcases h with ⟨_, rfl⟩ | ⟨b, off, cap', e, hl, h⟩
  · simp at hk
  · cases e; exact ⟨b, off, rfl, hl, h k _ hk⟩

set_option maxRecDepth 100000 in
set_option maxHeartbeats 2000000 in
theorem same_eq (xs : List Evt) (a1 a2 : Option Addr) (c1 c2 : Nat) (hl : xs.length ≤ 9223372036854775806) (w : World) (h1 : EvsAt w (.slice a1 xs.length c1) xs) (h2 : EvsAt w (.slice a2 xs.length c2) xs) :
    Calls Try.prog 24 #[.slice a1 xs.length c1, .slice a2 xs.length c2] w fun e w' => e = .returned (.bool true) ∧ Below w.heap.size w w' := by
  obtain ⟨n, hn⟩ : ∃ n, n = xs.length := ⟨_, rfl⟩
  rw [← hn] at h1 h2 hl ⊢
  have H1 := Lib.hid h1
  have H2 := Lib.hid h2
  have HN := Lib.hid hn
  clear h1 h2 hn
  go_enter Try.func24, Try.ntmps24
  go_wp2
  go_loopw [5] (fun i wr => ∃ k : Nat, k ≤ n ∧ i = .int .i64 k ∧ Below w.heap.size w wr) (fun i _ => n - (intOf i).toNat)
  case atStart => exact ⟨0, Nat.zero_le _, rfl, Below.refl _ _⟩
  case round =>
    obtain ⟨k, hk, rfl, hb⟩ := hrel
    have HB := Lib.hid hb
    clear hb
    by_cases hlt : k < n
    · obtain ⟨x, hx⟩ : ∃ x, xs[k]? = some x := ⟨_, List.getElem?_eq_getElem (by rw [← HN.out]; exact hlt)⟩
      obtain ⟨b, off, rfl, hbl, hc⟩ := H1.out.at hx
      obtain ⟨b', off', rfl, hbl', hc'⟩ := H2.out.at hx
      obtain ⟨X, Y⟩ := x
      obtain ⟨u1, u2⟩ := hc.below HB.out hbl
      obtain ⟨u3, u4⟩ := hc'.below HB.out hbl'
      simp only at u1 u2 u3 u4
      have hi0 : (0 : Int) ≤ (k : Int) := Int.natCast_nonneg _
      have hi1 : (k : Int) < (n : Int) := by omega
      clear hx hc hc'
      go_wp2
      go_region_held3 (fun w' => w'.cell? ⟨b, off + k * 2, none⟩ = some (.int .i64 X) ∧ w'.cell? ⟨b, off + k * 2 + 1, none⟩ = some (.int .i64 Y) ∧ w'.cell? ⟨b', off' + k * 2, none⟩ = some (.int .i64 X) ∧ w'.cell? ⟨b', off' + k * 2 + 1, none⟩ = some (.int .i64 Y)) (go_keep) (fail)
      go_wp2
      go_roundw
      case rel => exact ⟨k + 1, by omega, by go_num, by first | exact HB.out | exact below_drewN HB.out _ | exact HB.out.drew⟩
      case measure => simp [intOf]; omega
    · obtain rfl : k = n := by omega
      clear hlt
      go_wp2
      go_ret
      exact ⟨rfl, HB.out⟩

/-- What the law few asks. -/
def fewB (k m : Nat) : Bool := (decide (k ≤ 40) || (decide (1024 < k) && decide (k ≤ 1034))) && (decide (m ≤ 200) || (decide (8192 < m) && decide (m ≤ 8202)))
set_option maxRecDepth 100000 in
set_option maxHeartbeats 4000000 in
theorem few_any (a1 a2 : Option Addr) (k m c1 c2 : Nat) (inp : Int) (w : World) :
    Calls Try.prog 17 #[.agg #[.slice a1 k c1, .int .i64 inp, .slice a2 m c2]] w fun e w' => e = .returned (.bool (fewB k m)) ∧ Below w.heap.size w w' := by
  by_cases k0 : k ≤ 40
  · by_cases m0 : m ≤ 200
    · have z0 : ((k : Int) ≤ 40) = True := by simp <;> omega
      have z1 : ((m : Int) ≤ 200) = True := by simp <;> omega
      have e : fewB k m = true := by simp [fewB] <;> omega
      rw [e]
      clear e k0 m0
      go_enter Try.func17, Try.ntmps17
      go_wp2
      go_quiet (fail)
      go_wp2
      go_ret
      exact ⟨rfl, by first | exact (Below.refl _ _).alloc (Nat.le_refl _) _ | exact below_drewN ((Below.refl _ _).alloc (Nat.le_refl _) _) _ | exact ((Below.refl _ _).alloc (Nat.le_refl _) _).drew⟩
    · by_cases m1 : m ≤ 8192
      · have z0 : ((k : Int) ≤ 40) = True := by simp <;> omega
        have z1 : ((m : Int) ≤ 200) = False := by simp <;> omega
        have z2 : ((8192 : Int) < (m : Int)) = False := by simp <;> omega
        have e : fewB k m = false := by simp [fewB] <;> omega
        rw [e]
        clear e k0 m0 m1
        go_enter Try.func17, Try.ntmps17
        go_wp2
        go_quiet (fail)
        go_wp2
        go_ret
        exact ⟨rfl, by first | exact (Below.refl _ _).alloc (Nat.le_refl _) _ | exact below_drewN ((Below.refl _ _).alloc (Nat.le_refl _) _) _ | exact ((Below.refl _ _).alloc (Nat.le_refl _) _).drew⟩
      · by_cases m2 : m ≤ 8202
        · have z0 : ((k : Int) ≤ 40) = True := by simp <;> omega
          have z1 : ((m : Int) ≤ 200) = False := by simp <;> omega
          have z2 : ((8192 : Int) < (m : Int)) = True := by simp <;> omega
          have z3 : ((m : Int) ≤ 8202) = True := by simp <;> omega
          have e : fewB k m = true := by simp [fewB] <;> omega
          rw [e]
          clear e k0 m0 m1 m2
          go_enter Try.func17, Try.ntmps17
          go_wp2
          go_quiet (fail)
          go_wp2
          go_ret
          exact ⟨rfl, by first | exact (Below.refl _ _).alloc (Nat.le_refl _) _ | exact below_drewN ((Below.refl _ _).alloc (Nat.le_refl _) _) _ | exact ((Below.refl _ _).alloc (Nat.le_refl _) _).drew⟩
        · have z0 : ((k : Int) ≤ 40) = True := by simp <;> omega
          have z1 : ((m : Int) ≤ 200) = False := by simp <;> omega
          have z2 : ((8192 : Int) < (m : Int)) = True := by simp <;> omega
          have z3 : ((m : Int) ≤ 8202) = False := by simp <;> omega
          have e : fewB k m = false := by simp [fewB] <;> omega
          rw [e]
          clear e k0 m0 m1 m2
          go_enter Try.func17, Try.ntmps17
          go_wp2
          go_quiet (fail)
          go_wp2
          go_ret
          exact ⟨rfl, by first | exact (Below.refl _ _).alloc (Nat.le_refl _) _ | exact below_drewN ((Below.refl _ _).alloc (Nat.le_refl _) _) _ | exact ((Below.refl _ _).alloc (Nat.le_refl _) _).drew⟩
  · by_cases k1 : k ≤ 1024
    · have z0 : ((k : Int) ≤ 40) = False := by simp <;> omega
      have z1 : ((1024 : Int) < (k : Int)) = False := by simp <;> omega
      have e : fewB k m = false := by simp [fewB] <;> omega
      rw [e]
      clear e k0 k1
      go_enter Try.func17, Try.ntmps17
      go_wp2
      go_quiet (fail)
      go_wp2
      go_ret
      exact ⟨rfl, by first | exact (Below.refl _ _).alloc (Nat.le_refl _) _ | exact below_drewN ((Below.refl _ _).alloc (Nat.le_refl _) _) _ | exact ((Below.refl _ _).alloc (Nat.le_refl _) _).drew⟩
    · by_cases k2 : k ≤ 1034
      · by_cases m0 : m ≤ 200
        · have z0 : ((k : Int) ≤ 40) = False := by simp <;> omega
          have z1 : ((1024 : Int) < (k : Int)) = True := by simp <;> omega
          have z2 : ((k : Int) ≤ 1034) = True := by simp <;> omega
          have z3 : ((m : Int) ≤ 200) = True := by simp <;> omega
          have e : fewB k m = true := by simp [fewB] <;> omega
          rw [e]
          clear e k0 k1 k2 m0
          go_enter Try.func17, Try.ntmps17
          go_wp2
          go_quiet (fail)
          go_wp2
          go_ret
          exact ⟨rfl, by first | exact (Below.refl _ _).alloc (Nat.le_refl _) _ | exact below_drewN ((Below.refl _ _).alloc (Nat.le_refl _) _) _ | exact ((Below.refl _ _).alloc (Nat.le_refl _) _).drew⟩
        · by_cases m1 : m ≤ 8192
          · have z0 : ((k : Int) ≤ 40) = False := by simp <;> omega
            have z1 : ((1024 : Int) < (k : Int)) = True := by simp <;> omega
            have z2 : ((k : Int) ≤ 1034) = True := by simp <;> omega
            have z3 : ((m : Int) ≤ 200) = False := by simp <;> omega
            have z4 : ((8192 : Int) < (m : Int)) = False := by simp <;> omega
            have e : fewB k m = false := by simp [fewB] <;> omega
            rw [e]
            clear e k0 k1 k2 m0 m1
            go_enter Try.func17, Try.ntmps17
            go_wp2
            go_quiet (fail)
            go_wp2
            go_ret
            exact ⟨rfl, by first | exact (Below.refl _ _).alloc (Nat.le_refl _) _ | exact below_drewN ((Below.refl _ _).alloc (Nat.le_refl _) _) _ | exact ((Below.refl _ _).alloc (Nat.le_refl _) _).drew⟩
          · by_cases m2 : m ≤ 8202
            · have z0 : ((k : Int) ≤ 40) = False := by simp <;> omega
              have z1 : ((1024 : Int) < (k : Int)) = True := by simp <;> omega
              have z2 : ((k : Int) ≤ 1034) = True := by simp <;> omega
              have z3 : ((m : Int) ≤ 200) = False := by simp <;> omega
              have z4 : ((8192 : Int) < (m : Int)) = True := by simp <;> omega
              have z5 : ((m : Int) ≤ 8202) = True := by simp <;> omega
              have e : fewB k m = true := by simp [fewB] <;> omega
              rw [e]
              clear e k0 k1 k2 m0 m1 m2
              go_enter Try.func17, Try.ntmps17
              go_wp2
              go_quiet (fail)
              go_wp2
              go_ret
              exact ⟨rfl, by first | exact (Below.refl _ _).alloc (Nat.le_refl _) _ | exact below_drewN ((Below.refl _ _).alloc (Nat.le_refl _) _) _ | exact ((Below.refl _ _).alloc (Nat.le_refl _) _).drew⟩
            · have z0 : ((k : Int) ≤ 40) = False := by simp <;> omega
              have z1 : ((1024 : Int) < (k : Int)) = True := by simp <;> omega
              have z2 : ((k : Int) ≤ 1034) = True := by simp <;> omega
              have z3 : ((m : Int) ≤ 200) = False := by simp <;> omega
              have z4 : ((8192 : Int) < (m : Int)) = True := by simp <;> omega
              have z5 : ((m : Int) ≤ 8202) = False := by simp <;> omega
              have e : fewB k m = false := by simp [fewB] <;> omega
              rw [e]
              clear e k0 k1 k2 m0 m1 m2
              go_enter Try.func17, Try.ntmps17
              go_wp2
              go_quiet (fail)
              go_wp2
              go_ret
              exact ⟨rfl, by first | exact (Below.refl _ _).alloc (Nat.le_refl _) _ | exact below_drewN ((Below.refl _ _).alloc (Nat.le_refl _) _) _ | exact ((Below.refl _ _).alloc (Nat.le_refl _) _).drew⟩
      · have z0 : ((k : Int) ≤ 40) = False := by simp <;> omega
        have z1 : ((1024 : Int) < (k : Int)) = True := by simp <;> omega
        have z2 : ((k : Int) ≤ 1034) = False := by simp <;> omega
        have e : fewB k m = false := by simp [fewB] <;> omega
        rw [e]
        clear e k0 k1 k2
        go_enter Try.func17, Try.ntmps17
        go_wp2
        go_quiet (fail)
        go_wp2
        go_ret
        exact ⟨rfl, by first | exact (Below.refl _ _).alloc (Nat.le_refl _) _ | exact below_drewN ((Below.refl _ _).alloc (Nat.le_refl _) _) _ | exact ((Below.refl _ _).alloc (Nat.le_refl _) _).drew⟩
end Go.Proofs.Ytgbcdebnanejpaa
