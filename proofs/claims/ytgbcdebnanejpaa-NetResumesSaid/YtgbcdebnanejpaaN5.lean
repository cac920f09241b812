/- Slices of events in memory; the laws' same, few, some; the network of the examples. -/
import Derived.Test.YtgbcdebnanejpaaN4
import Derived.Test.YtgbcdebnanejpaaNc
import Derived.Deep.RegionHeld3
namespace Go.Proofs.Ytgbcdebnanejpaa
set_option linter.unusedVariables false
open Go.RowKit Go.Shelf

structure EvCells (W : World) (b o : Nat) (e : Evt) : Prop where
  c0 : W.cell? ⟨b, o, none⟩ = some (.int .i64 e.tk)
  c1 : W.cell? ⟨b, o + 1, none⟩ = some (.int .i64 e.id)
def EvsAt (W : World) (sv : Value) (l : List Evt) : Prop :=
  (sv = .slice none 0 0 ∧ l = []) ∨ ∃ b off cap, sv = .slice (some ⟨b, off, none⟩) l.length cap ∧ b < W.heap.size ∧ ∀ k e, l[k]? = some e → EvCells W b (off + k * 2) e
theorem EvCells.below {W w1 : World} {b o : Nat} {e : Evt} (h : EvCells W b o e) (hb : Below W.heap.size W w1) (hl : b < W.heap.size) : EvCells w1 b o e := by
  obtain ⟨hc, _⟩ := bcell hb
  exact ⟨(hc _ _ hl).trans h.c0, (hc _ _ hl).trans h.c1⟩
theorem EvsAt.below {W w1 : World} {sv : Value} {l : List Evt} (h : EvsAt W sv l) (hb : Below W.heap.size W w1) : EvsAt w1 sv l := by
  rcases h with h | ⟨b, off, cap, e, hl, h⟩
  · exact Or.inl h
  · exact Or.inr ⟨b, off, cap, e, Nat.lt_of_lt_of_le hl hb.size, fun k p hk => (h k p hk).below hb hl⟩
theorem EvsAt.form {W : World} {sv : Value} {l : List Evt} (h : EvsAt W sv l) : ∃ a cap, sv = .slice a l.length cap := by
  rcases h with ⟨rfl, rfl⟩ | ⟨b, off, cap, rfl, _⟩
  · exact ⟨none, 0, rfl⟩
  · exact ⟨_, cap, rfl⟩
theorem EvsAt.at {W : World} {a : Option Addr} {n cap : Nat} {l : List Evt} (h : EvsAt W (.slice a n cap) l) {k : Nat} {e : Evt} (hk : l[k]? = some e) : ∃ b off, a = some ⟨b, off, none⟩ ∧ b < W.heap.size ∧ EvCells W b (off + k * 2) e := by
  rcases h with ⟨_, rfl⟩ | ⟨b, off, cap', e, hl, h⟩
  · simp at hk
  · cases e; exact ⟨b, off, rfl, hl, h k _ hk⟩

set_option maxRecDepth 100000 in
set_option maxHeartbeats 2000000 in
theorem same_eq (xs : List Evt) (a1 a2 : Option Addr) (c1 c2 : Nat) (hl : xs.length ≤ 9223372036854775806) (w : World) (h1 : EvsAt w (.slice a1 xs.length c1) xs) (h2 : EvsAt w (.slice a2 xs.length c2) xs) :
    Calls Try.prog 24 #[.slice a1 xs.length c1, .slice a2 xs.length c2] w fun e w' => e = .returned (.bool true) ∧ Below w.heap.size w w' := by
  obtain ⟨n, hn⟩ : ∃ n, n = xs.length := ⟨_, rfl⟩
  rw [← hn] at h1 h2 hl ⊢
  have H1 := Lib.hid h1
  have H2 := Lib.hid h2
  have HN := Lib.hid hn
  clear h1 h2 hn
  go_enter Try.func24, Try.ntmps24
  go_wp2
  go_loopw [5] (fun i wr => ∃ k : Nat, k ≤ n ∧ i = .int .i64 k ∧ Below w.heap.size w wr) (fun i _ => n - (intOf i).toNat)
  case atStart => exact ⟨0, Nat.zero_le _, rfl, Below.refl _ _⟩
  case round =>
    obtain ⟨k, hk, rfl, hb⟩ := hrel
    have HB := Lib.hid hb
    clear hb
    by_cases hlt : k < n
    · obtain ⟨x, hx⟩ : ∃ x, xs[k]? = some x := ⟨_, List.getElem?_eq_getElem (by rw [← HN.out]; exact hlt)⟩
      obtain ⟨b, off, rfl, hbl, hc⟩ := H1.out.at hx
      obtain ⟨b', off', rfl, hbl', hc'⟩ := H2.out.at hx
      obtain ⟨X, Y⟩ := x
      obtain ⟨u1, u2⟩ := hc.below HB.out hbl
      obtain ⟨u3, u4⟩ := hc'.below HB.out hbl'
      simp only at u1 u2 u3 u4
      have hi0 : (0 : Int) ≤ (k : Int) := Int.natCast_nonneg _
      have hi1 : (k : Int) < (n : Int) := by omega
      clear hx hc hc'
      go_wp2
      go_region_held3 (fun w' => w'.cell? ⟨b, off + k * 2, none⟩ = some (.int .i64 X) ∧ w'.cell? ⟨b, off + k * 2 + 1, none⟩ = some (.int .i64 Y) ∧ w'.cell? ⟨b', off' + k * 2, none⟩ = some (.int .i64 X) ∧ w'.cell? ⟨b', off' + k * 2 + 1, none⟩ = some (.int .i64 Y)) (go_keep) (fail)
      go_wp2
      go_roundw
      case rel => exact ⟨k + 1, by omega, by go_num, by first | exact HB.out | exact below_drewN HB.out _ | exact HB.out.drew⟩
      case measure => simp [intOf]; omega
    · obtain rfl : k = n := by omega
      clear hlt
      go_wp2
      go_ret
      exact ⟨rfl, HB.out⟩

/-- What the law few asks. -/
def fewB (k m : Nat) : Bool := (decide (k ≤ 40) || (decide (1024 < k) && decide (k ≤ 1034))) && (decide (m ≤ 200) || (decide (8192 < m) && decide (m ≤ 8202)))
set_option maxRecDepth 100000 in
set_option maxHeartbeats 4000000 in
theorem few_any (a1 a2 : Option Addr) (k m c1 c2 : Nat) (inp : Int) (w : World) :
    Calls Try.prog 17 #[.agg #[.slice a1 k c1, .int .i64 inp, .slice a2 m c2]] w fun e w' => e = .returned (.bool (fewB k m)) ∧ Below w.heap.size w w' := by
  by_cases k0 : k ≤ 40
  · by_cases m0 : m ≤ 200
    · have z0 : ((k : Int) ≤ 40) = True := by simp <;> omega
      have z1 : ((m : Int) ≤ 200) = True := by simp <;> omega
      have e : fewB k m = true := by simp [fewB] <;> omega
      rw [e]
      clear e k0 m0
      go_enter Try.func17, Try.ntmps17
      go_wp2
      go_quiet (fail)
      go_wp2
      go_ret
      exact ⟨rfl, by first | exact (Below.refl _ _).alloc (Nat.le_refl _) _ | exact below_drewN ((Below.refl _ _).alloc (Nat.le_refl _) _) _ | exact ((Below.refl _ _).alloc (Nat.le_refl _) _).drew⟩
    · by_cases m1 : m ≤ 8192
      · have z0 : ((k : Int) ≤ 40) = True := by simp <;> omega
        have z1 : ((m : Int) ≤ 200) = False := by simp <;> omega
        have z2 : ((8192 : Int) < (m : Int)) = False := by simp <;> omega
        have e : fewB k m = false := by simp [fewB] <;> omega
        rw [e]
        clear e k0 m0 m1
        go_enter Try.func17, Try.ntmps17
        go_wp2
        go_quiet (fail)
        go_wp2
        go_ret
        exact ⟨rfl, by first | exact (Below.refl _ _).alloc (Nat.le_refl _) _ | exact below_drewN ((Below.refl _ _).alloc (Nat.le_refl _) _) _ | exact ((Below.refl _ _).alloc (Nat.le_refl _) _).drew⟩
      · by_cases m2 : m ≤ 8202
        · have z0 : ((k : Int) ≤ 40) = True := by simp <;> omega
          have z1 : ((m : Int) ≤ 200) = False := by simp <;> omega
          have z2 : ((8192 : Int) < (m : Int)) = True := by simp <;> omega
          have z3 : ((m : Int) ≤ 8202) = True := by simp <;> omega
          have e : fewB k m = true := by simp [fewB] <;> omega
          rw [e]
          clear e k0 m0 m1 m2
          go_enter Try.func17, Try.ntmps17
          go_wp2
          go_quiet (fail)
          go_wp2
          go_ret
          exact ⟨rfl, by first | exact (Below.refl _ _).alloc (Nat.le_refl _) _ | exact below_drewN ((Below.refl _ _).alloc (Nat.le_refl _) _) _ | exact ((Below.refl _ _).alloc (Nat.le_refl _) _).drew⟩
        · have z0 : ((k : Int) ≤ 40) = True := by simp <;> omega
          have z1 : ((m : Int) ≤ 200) = False := by simp <;> omega
          have z2 : ((8192 : Int) < (m : Int)) = True := by simp <;> omega
          have z3 : ((m : Int) ≤ 8202) = False := by simp <;> omega
          have e : fewB k m = false := by simp [fewB] <;> omega
          rw [e]
          clear e k0 m0 m1 m2
          go_enter Try.func17, Try.ntmps17
          go_wp2
          go_quiet (fail)
          go_wp2
          go_ret
          exact ⟨rfl, by first | exact (Below.refl _ _).alloc (Nat.le_refl _) _ | exact below_drewN ((Below.refl _ _).alloc (Nat.le_refl _) _) _ | exact ((Below.refl _ _).alloc (Nat.le_refl _) _).drew⟩
  · by_cases k1 : k ≤ 1024
    · have z0 : ((k : Int) ≤ 40) = False := by simp <;> omega
      have z1 : ((1024 : Int) < (k : Int)) = False := by simp <;> omega
      have e : fewB k m = false := by simp [fewB] <;> omega
      rw [e]
      clear e k0 k1
      go_enter Try.func17, Try.ntmps17
      go_wp2
      go_quiet (fail)
      go_wp2
      go_ret
      exact ⟨rfl, by first | exact (Below.refl _ _).alloc (Nat.le_refl _) _ | exact below_drewN ((Below.refl _ _).alloc (Nat.le_refl _) _) _ | exact ((Below.refl _ _).alloc (Nat.le_refl _) _).drew⟩
    · by_cases k2 : k ≤ 1034
      · by_cases m0 : m ≤ 200
        · have z0 : ((k : Int) ≤ 40) = False := by simp <;> omega
          have z1 : ((1024 : Int) < (k : Int)) = True := by simp <;> omega
          have z2 : ((k : Int) ≤ 1034) = True := by simp <;> omega
          have z3 : ((m : Int) ≤ 200) = True := by simp <;> omega
          have e : fewB k m = true := by simp [fewB] <;> omega
          rw [e]
          clear e k0 k1 k2 m0
          go_enter Try.func17, Try.ntmps17
          go_wp2
          go_quiet (fail)
          go_wp2
          go_ret
          exact ⟨rfl, by first | exact (Below.refl _ _).alloc (Nat.le_refl _) _ | exact below_drewN ((Below.refl _ _).alloc (Nat.le_refl _) _) _ | exact ((Below.refl _ _).alloc (Nat.le_refl _) _).drew⟩
        · by_cases m1 : m ≤ 8192
          · have z0 : ((k : Int) ≤ 40) = False := by simp <;> omega
            have z1 : ((1024 : Int) < (k : Int)) = True := by simp <;> omega
            have z2 : ((k : Int) ≤ 1034) = True := by simp <;> omega
            have z3 : ((m : Int) ≤ 200) = False := by simp <;> omega
            have z4 : ((8192 : Int) < (m : Int)) = False := by simp <;> omega
            have e : fewB k m = false := by simp [fewB] <;> omega
            rw [e]
            clear e k0 k1 k2 m0 m1
            go_enter Try.func17, Try.ntmps17
            go_wp2
            go_quiet (fail)
            go_wp2
            go_ret
            exact ⟨rfl, by first | exact (Below.refl _ _).alloc (Nat.le_refl _) _ | exact below_drewN ((Below.refl _ _).alloc (Nat.le_refl _) _) _ | exact ((Below.refl _ _).alloc (Nat.le_refl _) _).drew⟩
          · by_cases m2 : m ≤ 8202
            · have z0 : ((k : Int) ≤ 40) = False := by simp <;> omega
              have z1 : ((1024 : Int) < (k : Int)) = True := by simp <;> omega
              have z2 : ((k : Int) ≤ 1034) = True := by simp <;> omega
              have z3 : ((m : Int) ≤ 200) = False := by simp <;> omega
              have z4 : ((8192 : Int) < (m : Int)) = True := by simp <;> omega
              have z5 : ((m : Int) ≤ 8202) = True := by simp <;> omega
              have e : fewB k m = true := by simp [fewB] <;> omega
              rw [e]
              clear e k0 k1 k2 m0 m1 m2
              go_enter Try.func17, Try.ntmps17
              go_wp2
              go_quiet (fail)
              go_wp2
              go_ret
              exact ⟨rfl, by first | exact (Below.refl _ _).alloc (Nat.le_refl _) _ | exact below_drewN ((Below.refl _ _).alloc (Nat.le_refl _) _) _ | exact ((Below.refl _ _).alloc (Nat.le_refl _) _).drew⟩
            · have z0 : ((k : Int) ≤ 40) = False := by simp <;> omega
              have z1 : ((1024 : Int) < (k : Int)) = True := by simp <;> omega
              have z2 : ((k : Int) ≤ 1034) = True := by simp <;> omega
              have z3 : ((m : Int) ≤ 200) = False := by simp <;> omega
              have z4 : ((8192 : Int) < (m : Int)) = True := by simp <;> omega
              have z5 : ((m : Int) ≤ 8202) = False := by simp <;> omega
              have e : fewB k m = false := by simp [fewB] <;> omega
              rw [e]
              clear e k0 k1 k2 m0 m1 m2
              go_enter Try.func17, Try.ntmps17
              go_wp2
              go_quiet (fail)
              go_wp2
              go_ret
              exact ⟨rfl, by first | exact (Below.refl _ _).alloc (Nat.le_refl _) _ | exact below_drewN ((Below.refl _ _).alloc (Nat.le_refl _) _) _ | exact ((Below.refl _ _).alloc (Nat.le_refl _) _).drew⟩
      · have z0 : ((k : Int) ≤ 40) = False := by simp <;> omega
        have z1 : ((1024 : Int) < (k : Int)) = True := by simp <;> omega
        have z2 : ((k : Int) ≤ 1034) = False := by simp <;> omega
        have e : fewB k m = false := by simp [fewB] <;> omega
        rw [e]
        clear e k0 k1 k2
        go_enter Try.func17, Try.ntmps17
        go_wp2
        go_quiet (fail)
        go_wp2
        go_ret
        exact ⟨rfl, by first | exact (Below.refl _ _).alloc (Nat.le_refl _) _ | exact below_drewN ((Below.refl _ _).alloc (Nat.le_refl _) _) _ | exact ((Below.refl _ _).alloc (Nat.le_refl _) _).drew⟩
end Go.Proofs.Ytgbcdebnanejpaa
namespace Go.Proofs.Ytgbcdebnanejpaa
set_option linter.unusedVariables false
open Go.RowKit Go.Shelf

theorem cells3f {W : World} {b : Nat} {v0 v1 v2 : Value} {t : TypeId} (h : W.heap[b]? = some (.cells #[v0, v1, v2] t)) : W.cell? ⟨b, 0, none⟩ = some v0 ∧ W.cell? ⟨b, 1, none⟩ = some v1 ∧ W.cell? ⟨b, 2, none⟩ = some v2 ∧ W.frozen? ⟨b, 0, none⟩ = false ∧ W.frozen? ⟨b, 1, none⟩ = false ∧ W.frozen? ⟨b, 2, none⟩ = false := by simp [World.cell?, World.frozen?, h]
def netE : NetM := ⟨[pA, pA], 1, [⟨-1, 0, 6, 1⟩, ⟨0, 1, 6, 3⟩]⟩
/-- A value that reads as a network. -/
def NetAt (W : World) (v : Value) (n : NetM) : Prop := ∃ a1 c1 a2 c2, v = .agg #[.slice a1 n.ps.length c1, .int .i64 n.inp, .slice a2 n.ss.length c2] ∧ PsAt W (.slice a1 n.ps.length c1) n.ps ∧ SsAt W (.slice a2 n.ss.length c2) n.ss
def EOut (w : World) (e : Ending) (w' : World) : Prop := ∃ v, e = .returned v ∧ NetAt w' v netE ∧ Below w.heap.size w w'

set_option maxRecDepth 100000 in
set_option maxHeartbeats 2000000 in
theorem E_any (w : World) : Calls Try.prog 51 #[] w (EOut w) := by
  go_enter Try.func51, Try.ntmps51
  go_upto_region 2 with (go_at_call 84; refine (A_any _).mono ?_; rintro e w1 ⟨rfl, hb1⟩; have hz1 : w.heap.size < w1.heap.size := (by have := hb1.size; simp at this; omega))
  have hbk : (w1.alloc (.cells #[.int .i64 1, .int .i64 1, .int .i64 0, .int .i64 5, .int .i64 0, .int .i64 0, .int .i64 (-4), .int .i64 1] 39)).heap[w.heap.size]? = some (.cells #[.slice none 0 0, .int .i64 0, .slice none 0 0] 25) := (Below.heap_alloc _ _ _ hz1).trans ((hb1.block _ (by simp)).trans (alloc_new_at _ _ _ rfl))
  have hbp : (w1.alloc (.cells #[.int .i64 1, .int .i64 1, .int .i64 0, .int .i64 5, .int .i64 0, .int .i64 0, .int .i64 (-4), .int .i64 1] 39)).heap[w1.heap.size]? = some (.cells #[.int .i64 1, .int .i64 1, .int .i64 0, .int .i64 5, .int .i64 0, .int .i64 0, .int .i64 (-4), .int .i64 1] 39) := alloc_new_at _ _ _ rfl
  have hbb : Below w.heap.size w (w1.alloc (.cells #[.int .i64 1, .int .i64 1, .int .i64 0, .int .i64 5, .int .i64 0, .int .i64 0, .int .i64 (-4), .int .i64 1] 39)) := (((Below.refl _ _).alloc (Nat.le_refl _) _).trans (hb1.mono (by simp))).alloc (by omega) _
  have hlp : w1.heap.size < (w1.alloc (.cells #[.int .i64 1, .int .i64 1, .int .i64 0, .int .i64 5, .int .i64 0, .int .i64 0, .int .i64 (-4), .int .i64 1] 39)).heap.size := by simp
  clear hb1
  generalize w1.alloc (.cells #[.int .i64 1, .int .i64 1, .int .i64 0, .int .i64 5, .int .i64 0, .int .i64 0, .int .i64 (-4), .int .i64 1] 39) = W2 at *
  generalize w1.heap.size = B1 at *
  obtain ⟨_, _, _, _, _, _⟩ := cells3f hbk
  obtain ⟨_, _, _, _, _, _, _, _⟩ := cells8 hbp
  have hl0 : w.heap.size < W2.heap.size := lt_of_block hbk
  go_wp2
  have hS : (((W2.setCell ⟨w.heap.size, 0, none⟩ (.slice (some ⟨W2.heap.size, 0, none⟩) 2 2)).setCell ⟨w.heap.size, 1, none⟩ (.int .i64 1)).setCell ⟨w.heap.size, 2, none⟩ (.slice (some ⟨W2.heap.size + 1, 0, none⟩) 2 2)).heap[w.heap.size]? = some (.cells #[.slice (some ⟨W2.heap.size, 0, none⟩) 2 2, .int .i64 1, .slice (some ⟨W2.heap.size + 1, 0, none⟩) 2 2] 25) := by
    simp [World.setCell, Array.getElem?_modify, hbk]
  have hSB : Below w.heap.size w (((W2.setCell ⟨w.heap.size, 0, none⟩ (.slice (some ⟨W2.heap.size, 0, none⟩) 2 2)).setCell ⟨w.heap.size, 1, none⟩ (.int .i64 1)).setCell ⟨w.heap.size, 2, none⟩ (.slice (some ⟨W2.heap.size + 1, 0, none⟩) 2 2)) :=
    ((hbb.setCell (p := ⟨w.heap.size, 0, none⟩) (by simp) _).setCell (p := ⟨w.heap.size, 1, none⟩) (by simp) _).setCell (p := ⟨w.heap.size, 2, none⟩) (by simp) _
  have hSZ : (((W2.setCell ⟨w.heap.size, 0, none⟩ (.slice (some ⟨W2.heap.size, 0, none⟩) 2 2)).setCell ⟨w.heap.size, 1, none⟩ (.int .i64 1)).setCell ⟨w.heap.size, 2, none⟩ (.slice (some ⟨W2.heap.size + 1, 0, none⟩) 2 2)).heap.size = W2.heap.size := by simp [World.setCell]
  generalize ((W2.setCell ⟨w.heap.size, 0, none⟩ (.slice (some ⟨W2.heap.size, 0, none⟩) 2 2)).setCell ⟨w.heap.size, 1, none⟩ (.int .i64 1)).setCell ⟨w.heap.size, 2, none⟩ (.slice (some ⟨W2.heap.size + 1, 0, none⟩) 2 2) = W3 at *
  have h1 : ((W3.alloc (.cells #[.int .i64 1, .int .i64 1, .int .i64 0, .int .i64 5, .int .i64 0, .int .i64 0, .int .i64 (-4), .int .i64 1, .int .i64 1, .int .i64 1, .int .i64 0, .int .i64 5, .int .i64 0, .int .i64 0, .int .i64 (-4), .int .i64 1] 39)).alloc (.cells #[.int .i64 (-1), .int .i64 0, .int .i64 6, .int .i64 1, .int .i64 0, .int .i64 1, .int .i64 6, .int .i64 3] 96)).heap[W2.heap.size]? = some (.cells #[.int .i64 1, .int .i64 1, .int .i64 0, .int .i64 5, .int .i64 0, .int .i64 0, .int .i64 (-4), .int .i64 1, .int .i64 1, .int .i64 1, .int .i64 0, .int .i64 5, .int .i64 0, .int .i64 0, .int .i64 (-4), .int .i64 1] 39) := (Below.heap_alloc _ _ _ (by simp; omega)).trans (alloc_new_at _ _ _ hSZ.symm)
  have h2 : ((W3.alloc (.cells #[.int .i64 1, .int .i64 1, .int .i64 0, .int .i64 5, .int .i64 0, .int .i64 0, .int .i64 (-4), .int .i64 1, .int .i64 1, .int .i64 1, .int .i64 0, .int .i64 5, .int .i64 0, .int .i64 0, .int .i64 (-4), .int .i64 1] 39)).alloc (.cells #[.int .i64 (-1), .int .i64 0, .int .i64 6, .int .i64 1, .int .i64 0, .int .i64 1, .int .i64 6, .int .i64 3] 96)).heap[W2.heap.size + 1]? = some (.cells #[.int .i64 (-1), .int .i64 0, .int .i64 6, .int .i64 1, .int .i64 0, .int .i64 1, .int .i64 6, .int .i64 3] 96) := alloc_new_at _ _ _ (by simp [hSZ])
  have h3 : ((W3.alloc (.cells #[.int .i64 1, .int .i64 1, .int .i64 0, .int .i64 5, .int .i64 0, .int .i64 0, .int .i64 (-4), .int .i64 1, .int .i64 1, .int .i64 1, .int .i64 0, .int .i64 5, .int .i64 0, .int .i64 0, .int .i64 (-4), .int .i64 1] 39)).alloc (.cells #[.int .i64 (-1), .int .i64 0, .int .i64 6, .int .i64 1, .int .i64 0, .int .i64 1, .int .i64 6, .int .i64 3] 96)).heap[w.heap.size]? = _ := ((Below.heap_alloc _ _ _ (by simp; omega)).trans (Below.heap_alloc _ _ _ (by omega))).trans hS
  have h4 : Below w.heap.size w ((W3.alloc (.cells #[.int .i64 1, .int .i64 1, .int .i64 0, .int .i64 5, .int .i64 0, .int .i64 0, .int .i64 (-4), .int .i64 1, .int .i64 1, .int .i64 1, .int .i64 0, .int .i64 5, .int .i64 0, .int .i64 0, .int .i64 (-4), .int .i64 1] 39)).alloc (.cells #[.int .i64 (-1), .int .i64 0, .int .i64 6, .int .i64 1, .int .i64 0, .int .i64 1, .int .i64 6, .int .i64 3] 96)) := (hSB.alloc (by omega) _).alloc (by simp; omega) _
  have h5 : W2.heap.size + 1 < ((W3.alloc (.cells #[.int .i64 1, .int .i64 1, .int .i64 0, .int .i64 5, .int .i64 0, .int .i64 0, .int .i64 (-4), .int .i64 1, .int .i64 1, .int .i64 1, .int .i64 0, .int .i64 5, .int .i64 0, .int .i64 0, .int .i64 (-4), .int .i64 1] 39)).alloc (.cells #[.int .i64 (-1), .int .i64 0, .int .i64 6, .int .i64 1, .int .i64 0, .int .i64 1, .int .i64 6, .int .i64 3] 96)).heap.size := by simp; omega
  generalize (W3.alloc (.cells #[.int .i64 1, .int .i64 1, .int .i64 0, .int .i64 5, .int .i64 0, .int .i64 0, .int .i64 (-4), .int .i64 1, .int .i64 1, .int .i64 1, .int .i64 0, .int .i64 5, .int .i64 0, .int .i64 0, .int .i64 (-4), .int .i64 1] 39)).alloc (.cells #[.int .i64 (-1), .int .i64 0, .int .i64 6, .int .i64 1, .int .i64 0, .int .i64 1, .int .i64 6, .int .i64 3] 96) = W4 at *
  obtain ⟨d0, d1, d2, _, _, _⟩ := cells3f h3
  refine bodyPost_ret (v := .agg #[.slice (some ⟨W2.heap.size, 0, none⟩) 2 2, .int .i64 1, .slice (some ⟨W2.heap.size + 1, 0, none⟩) 2 2]) (by simp [results, Try.results51, go_sem, d0, d1, d2]) rfl ⟨_, rfl, ⟨_, 2, _, 2, rfl, Or.inr ⟨W2.heap.size, 0, 2, rfl, by omega, fun k p hk => ?_⟩, Or.inr ⟨W2.heap.size + 1, 0, 2, rfl, h5, fun k p hk => ?_⟩⟩, h4⟩
  · match k, hk with
    | 0, hk => cases hk; constructor <;> simp [World.cell?, h1, pA]
    | 1, hk => cases hk; constructor <;> simp [World.cell?, h1, pA]
    | n + 2, hk => simp [netE] at hk
  · match k, hk with
    | 0, hk => cases hk; constructor <;> simp [World.cell?, h2]
    | 1, hk => cases hk; constructor <;> simp [World.cell?, h2]
    | n + 2, hk => simp [netE] at hk
end Go.Proofs.Ytgbcdebnanejpaa
namespace Go.Proofs.Ytgbcdebnanejpaa
set_option linter.unusedVariables false
open Go.RowKit Go.Shelf

theorem ncheck_any (n : NetM) (a1 a2 : Option Addr) (c1 c2 : Nat) (w : World) (hp : PsAt w (.slice a1 n.ps.length c1) n.ps) (hs : SsAt w (.slice a2 n.ss.length c2) n.ss) :
    Calls Try.prog 19 #[.agg #[.slice a1 n.ps.length c1, .int .i64 n.inp, .slice a2 n.ss.length c2]] w fun e w' => e = .returned (.int .i64 (ncheck n)) ∧ Below w.heap.size w w' := by
  by_cases h : n.ps.length = 0 ∨ 1024 < n.ps.length ∨ 256 < n.inp ∨ 8192 < n.ss.length ∨ n.inp < 0
  · exact ncheck_early n a1 a2 c1 c2 h w
  · exact ncheck_rest n.ps n.inp n.ss a1 a2 c1 c2 (by omega) (by omega) (by omega) (by omega) (by omega) w hp hs
theorem rncheck_any (n : NetM) (a1 a2 : Option Addr) (c1 c2 : Nat) (w : World) (hp : PsAt w (.slice a1 n.ps.length c1) n.ps) (hs : SsAt w (.slice a2 n.ss.length c2) n.ss) :
    Calls Try.prog 20 #[.agg #[.slice a1 n.ps.length c1, .int .i64 n.inp, .slice a2 n.ss.length c2]] w fun e w' => e = .returned (.int .i64 (ncheck n)) ∧ Below w.heap.size w w' := by
  by_cases h : n.ps.length = 0 ∨ 1024 < n.ps.length ∨ 256 < n.inp ∨ 8192 < n.ss.length ∨ n.inp < 0
  · exact rncheck_early n a1 a2 c1 c2 h w
  · exact rncheck_rest n.ps n.inp n.ss a1 a2 c1 c2 (by omega) (by omega) (by omega) (by omega) (by omega) w hp hs

/-- A valid network, in inequalities. -/
structure NetOk (n : NetM) : Prop where
  p0 : 1 ≤ n.ps.length
  p1 : n.ps.length ≤ 1024
  i0 : 0 ≤ n.inp
  i1 : n.inp ≤ 256
  s1 : n.ss.length ≤ 8192
  ps : ∀ p ∈ n.ps, checkP p = 0
  ss : ∀ s ∈ n.ss, synOk n.ps.length n.inp s = true
theorem netOk_of {n : NetM} (h : ncheck n = 0) : NetOk n := by
  unfold ncheck at h
  by_cases h0 : n.ps.length = 0
  · rw [if_pos h0] at h; omega
  · rw [if_neg h0] at h
    by_cases h1 : 1024 < n.ps.length ∨ 256 < n.inp ∨ 8192 < n.ss.length
    · rw [if_pos h1] at h; omega
    · rw [if_neg h1] at h
      by_cases h2 : n.inp < 0
      · rw [if_pos h2] at h; omega
      · rw [if_neg h2] at h
        by_cases h3 : firstBad n.ps ≠ 0
        · rw [if_pos h3] at h; exact absurd h h3
        · rw [if_neg h3] at h
          by_cases h4 : n.ss.all (synOk n.ps.length n.inp) = true
          · refine ⟨by omega, by omega, by omega, by omega, by omega, firstBad_all.1 (by simpa using h3), fun s hs => List.all_eq_true.1 h4 s hs⟩
          · rw [if_neg h4] at h; omega

def evLt (x y : Evt) : Bool := decide (x.tk < y.tk) || (decide (x.tk = y.tk) && decide (x.id < y.id))
set_option maxHeartbeats 1000000 in
theorem before_any (a b c d : Int) (w : World) :
    Calls Try.prog 91 #[.agg #[.int .i64 a, .int .i64 b], .agg #[.int .i64 c, .int .i64 d]] w fun e w' => e = .returned (.bool (evLt ⟨a, b⟩ ⟨c, d⟩)) ∧ Below w.heap.size w w' := by
  have hbl : Below w.heap.size w ((w.alloc (.cells #[.int .i64 a, .int .i64 b] 85)).alloc (.cells #[.int .i64 c, .int .i64 d] 85)) := ((Below.refl _ _).alloc (Nat.le_refl _) _).alloc (by simp) _
  by_cases h1 : a < c
  · have e : evLt ⟨a, b⟩ ⟨c, d⟩ = true := by simp [evLt, h1]
    rw [e]
    have z1 : (a < c) = True := by simp [h1]
    have HB := Lib.hid hbl
    clear e h1 hbl
    go_enter Try.func91, Try.ntmps91
    go_wp2
    go_ret
    exact ⟨rfl, HB.out⟩
  · have z1 : (a < c) = False := by simp; omega
    by_cases h2 : a = c
    · have z2 : (a == c) = true := by simp [h2]
      by_cases h3 : b < d
      · have e : evLt ⟨a, b⟩ ⟨c, d⟩ = true := by simp [evLt, h2, h3]
        rw [e]
        have z3 : (b < d) = True := by simp [h3]
        have HB := Lib.hid hbl
        clear e h1 h2 h3 hbl
        go_enter Try.func91, Try.ntmps91
        go_wp2
        go_ret
        exact ⟨rfl, HB.out⟩
      · have e : evLt ⟨a, b⟩ ⟨c, d⟩ = false := by simp [evLt, h2]; omega
        rw [e]
        have z3 : (b < d) = False := by simp; omega
        have HB := Lib.hid hbl
        clear e h1 h2 h3 hbl
        go_enter Try.func91, Try.ntmps91
        go_wp2
        go_ret
        exact ⟨rfl, HB.out⟩
    · have z2 : (a == c) = false := by simp [h2]
      have e : evLt ⟨a, b⟩ ⟨c, d⟩ = false := by simp [evLt, h1, h2]
      rw [e]
      have HB := Lib.hid hbl
      clear e h1 h2 hbl
      go_enter Try.func91, Try.ntmps91
      go_wp2
      go_ret
      exact ⟨rfl, HB.out⟩

/-- What the check finds at event i. -/
def evErrAt (l : List Evt) (inp most : Int) (i : Nat) : Int :=
  if inR (l[i]?.getD ⟨0, 0⟩).tk 0 (most - 1) && inR (l[i]?.getD ⟨0, 0⟩).id 0 (inp - 1) then (if 0 < i ∧ evLt (l[i - 1]?.getD ⟨0, 0⟩) (l[i]?.getD ⟨0, 0⟩) = false then 2 else 0) else 3
def firstNz (f : Nat → Int) : Nat → Int
  | 0 => 0
  | n + 1 => if firstNz f n = 0 then f n else firstNz f n
def evsErr (l : List Evt) (inp most : Int) : Int := firstNz (evErrAt l inp most) l.length
theorem firstNz_zero {f : Nat → Int} : ∀ n, (∀ j, j < n → f j = 0) → firstNz f n = 0
  | 0, _ => rfl
  | n + 1, h => by unfold firstNz; rw [if_pos (firstNz_zero n fun j hj => h j (by omega))]; exact h n (by omega)
theorem firstNz_at {f : Nat → Int} {k : Nat} (h : ∀ j, j < k → f j = 0) (hk : f k ≠ 0) : ∀ n, k < n → firstNz f n = f k := by
  intro n
  induction n with
  | zero => intro h; omega
  | succ n ih =>
    intro hn
    unfold firstNz
    by_cases e : k = n
    · subst e; rw [if_pos (firstNz_zero k h)]
    · rw [ih (by omega), if_neg hk]
theorem firstNz_none {f : Nat → Int} : ∀ n, firstNz f n = 0 → ∀ j, j < n → f j = 0
  | 0, _, j, hj => by omega
  | n + 1, h, j, hj => by
    unfold firstNz at h
    by_cases e : firstNz f n = 0
    · rw [if_pos e] at h
      by_cases e2 : j = n
      · subst e2; exact h
      · exact firstNz_none n e j (by omega)
    · rw [if_neg e] at h; exact absurd h e
def checkRunM (n : NetM) (l : List Evt) (ticks most : Int) : Int :=
  if ncheck n ≠ 0 then ncheck n else if inR ticks 0 most = false then 3 else if 65536 < l.length then 9 else evsErr l n.inp most
end Go.Proofs.Ytgbcdebnanejpaa
namespace Go.Proofs.Ytgbcdebnanejpaa
set_option linter.unusedVariables false
open Go.RowKit Go.Shelf

theorem cell_old_alloc' {W : World} {o : Obj} {b o' : Nat} (h : b < W.heap.size) : (W.alloc o).cell? ⟨b, o', none⟩ = W.cell? ⟨b, o', none⟩ := by
  unfold World.cell?; rw [Below.heap_alloc _ _ _ h]

set_option maxRecDepth 100000 in
set_option maxHeartbeats 4000000 in
theorem checkRun_loop (ps : List Prm) (inp : Int) (ss : List Syn) (l : List Evt) (a1 a2 a3 : Option Addr) (c1 c2 c3 : Nat) (ticks most : Int) (hi0 : 0 ≤ inp) (hi1 : inp ≤ 256) (ht : inR ticks 0 most = true) (hm1 : 1 ≤ most) (hm2 : most ≤ 1073741824) (hl : l.length ≤ 65536) (w : World)
    (hc : ∀ o, Calls Try.prog 19 #[.agg #[.slice a1 ps.length c1, .int .i64 inp, .slice a2 ss.length c2]] (w.alloc o) fun e w' => e = .returned (.int .i64 0) ∧ Below (w.alloc o).heap.size (w.alloc o) w')
    (he : EvsAt w (.slice a3 l.length c3) l) :
    Calls Try.prog 58 #[.agg #[.slice a1 ps.length c1, .int .i64 inp, .slice a2 ss.length c2], .slice a3 l.length c3, .int .i64 ticks, .int .i64 most] w fun e w' => e = .returned (.int .i64 (evsErr l inp most)) ∧ Below w.heap.size w w' := by
  obtain ⟨X, hX⟩ : ∃ X : Int, X = evsErr l inp most := ⟨_, rfl⟩
  rw [← hX]
  obtain ⟨n, hn⟩ : ∃ n, n = l.length := ⟨_, rfl⟩
  rw [← hn] at hl he ⊢
  have ha := fun W => namong_any ticks 0 most W
  rw [ht] at ha
  have g1 : ((65536 : Int) < (n : Int)) = False := by simp <;> omega
  have HC := Lib.hid hc
  have HE := Lib.hid he
  have HX := Lib.hid hX
  have HN := Lib.hid hn
  have HA := Lib.hid ha
  clear hc he hX hn ha ht
  go_enter Try.func58, Try.ntmps58
  go_wp2_with (first | (go_at_call 19; refine (HC.out _).mono ?_; rintro e w1 ⟨rfl, hb1⟩) | (go_at_call 55; refine (HA.out _).mono ?_; rintro e wq ⟨rfl, rfl⟩))
  have hbx : NetBox w1 w.heap.size (.slice a1 ps.length c1) inp (.slice a2 ss.length c2) := (hb1.block _ (by simp)).trans (alloc_new_at _ _ _ rfl)
  have hbl : Below w.heap.size w w1 := ((Below.refl _ _).alloc (Nat.le_refl _) _).trans (hb1.mono (by simp))
  have HB1 := Lib.hid hbx
  have HB2 := Lib.hid hbl
  clear hb1 hbx hbl
  go_loopw [26] (fun i wr => ∃ k : Nat, k ≤ n ∧ i = .int .i64 k ∧ Below w.heap.size w wr ∧ NetBox wr w.heap.size (.slice a1 ps.length c1) inp (.slice a2 ss.length c2) ∧ ∀ j, j < k → evErrAt l inp most j = 0) (fun i _ => n - (intOf i).toNat)
  case atStart => exact ⟨0, Nat.zero_le _, rfl, HB2.out, HB1.out, fun j h => by omega⟩
  case round =>
    obtain ⟨k, hk, rfl, hb, hbox, hgood⟩ := hrel
    have HB := Lib.hid hb
    have HBX := Lib.hid hbox
    have HG := Lib.hid hgood
    have hwl : w.heap.size < wr.heap.size := lt_of_block hbox
    obtain ⟨_, _, _⟩ := cells3 hbox
    clear hb hbox hgood
    by_cases hlt : k < n
    · obtain ⟨x, hx⟩ : ∃ x, l[k]? = some x := ⟨_, List.getElem?_eq_getElem (by rw [← HN.out]; exact hlt)⟩
      obtain ⟨b, off, rfl, hbl, hcc⟩ := HE.out.at hx
      obtain ⟨u1, u2⟩ := hcc.below HB.out hbl
      have hbr : b < wr.heap.size := Nat.lt_of_lt_of_le hbl HB.out.size
      obtain ⟨X1, X2⟩ := x
      simp only at u1 u2
      have hi2 : (0 : Int) ≤ (k : Int) := Int.natCast_nonneg _
      have hi3 : (k : Int) < (n : Int) := by omega
      have hev : evErrAt l inp most k = if inR X1 0 (most - 1) && inR X2 0 (inp - 1) then (if 0 < k ∧ evLt (l[k - 1]?.getD ⟨0, 0⟩) ⟨X1, X2⟩ = false then 2 else 0) else 3 := by
        unfold evErrAt; rw [hx]; rfl
      have ha1 := fun W => namong_any X1 0 (most - 1) W
      have ha2 := fun W => namong_any X2 0 (inp - 1) W
      generalize inR X1 0 (most - 1) = B1 at *
      generalize inR X2 0 (inp - 1) = B2 at *
      have HEV := Lib.hid hev
      have HX1 := Lib.hid hx
      have HA1 := Lib.hid ha1
      have HA2 := Lib.hid ha2
      clear hx hcc hev ha1 ha2
      cases B1 with
      | false =>
        have hf : X = 3 := by rw [HX.out, evsErr, firstNz_at HG.out (by rw [HEV.out]; simp) _ (by rw [← HN.out]; exact hlt), HEV.out]; simp
        have HF := Lib.hid hf
        clear hf
        go_wp2_with (go_at_call 55; with_reducible refine (HA1.out _).mono ?_; rintro e wq ⟨rfl, rfl⟩)
        go_ret
        exact ⟨ret_int HF.out.symm, HB.out.trans ((Below.refl _ _).alloc (by omega) _)⟩
      | true =>
        cases B2 with
        | false =>
          have hf : X = 3 := by rw [HX.out, evsErr, firstNz_at HG.out (by rw [HEV.out]; simp) _ (by rw [← HN.out]; exact hlt), HEV.out]; simp
          have HF := Lib.hid hf
          clear hf
          go_wp2_with (first | (go_at_call 55; with_reducible refine (HA1.out _).mono ?_; rintro e wq ⟨rfl, rfl⟩) | (go_at_call 55; with_reducible refine (HA2.out _).mono ?_; rintro e wq ⟨rfl, rfl⟩))
          go_ret
          exact ⟨ret_int HF.out.symm, HB.out.trans ((Below.refl _ _).alloc (by omega) _)⟩
        | true =>
          by_cases hk0 : k = 0
          · have hf : evErrAt l inp most k = 0 := by rw [HEV.out]; simp [hk0]
            have HF := Lib.hid hf
            clear hf
            subst hk0
            simp only [Nat.zero_mul, Nat.add_zero] at u1 u2
            have n0 : 0 < n := hlt
            have n1 : (0 : Int) < (n : Int) := by omega
            go_wp2_with (first | (go_at_call 55; with_reducible refine (HA1.out _).mono ?_; rintro e wq ⟨rfl, rfl⟩) | (go_at_call 55; with_reducible refine (HA2.out _).mono ?_; rintro e wq ⟨rfl, rfl⟩))
            go_quiet (fail)
            go_wp2
            go_roundw
            case rel =>
              refine ⟨1, by omega, rfl, ?_, ?_, fun j h => ?_⟩
              · first | exact HB.out.trans ((Below.refl _ _).alloc (by omega) _) | exact below_drewN (HB.out.trans ((Below.refl _ _).alloc (by omega) _)) _
              · first | exact (Below.heap_alloc _ _ _ (by omega)).trans HBX.out | exact HBX.out
              · obtain rfl : j = 0 := by omega
                exact HF.out
            case measure => simp [intOf]; omega
          · obtain ⟨y, hy⟩ : ∃ y, l[k - 1]? = some y := ⟨_, List.getElem?_eq_getElem (by rw [← HN.out]; omega)⟩
            obtain ⟨b2, off2, e2, hbl2, hcc2⟩ := HE.out.at hy
            cases e2
            obtain ⟨v1, v2⟩ := hcc2.below HB.out hbl
            obtain ⟨Y1, Y2⟩ := y
            simp only at v1 v2
            have hbf := fun W => before_any Y1 Y2 X1 X2 W
            have hev2 : evErrAt l inp most k = if evLt ⟨Y1, Y2⟩ ⟨X1, X2⟩ = false then 2 else 0 := by
              rw [HEV.out, hy]; simp; simp [Nat.pos_of_ne_zero hk0]
            generalize evLt ⟨Y1, Y2⟩ ⟨X1, X2⟩ = B3 at *
            have hk1 : (0 : Int) < (k : Int) := by omega
            have hk2 : 0 < k := by omega
            have hk3 : (1 : Int) ≤ (k : Int) := by omega
            have hk4 : (k : Int) - 1 < (n : Int) := by omega
            have hk5 : ((k : Int) - 1).toNat = k - 1 := by omega
            have hk6 : decide ((0 : Int) < (k : Int)) = true := by simp <;> omega
            have r1 := Lib.hid (IntWalk.i64_in ((k : Int) - 1) (by omega))
            have HBF := Lib.hid hbf
            have HEV2 := Lib.hid hev2
            have HNW := World.new_ne wr
            clear hbf hev2 hy hcc2 hk0 HNW
            cases B3 with
            | false =>
              have hf : X = 2 := by rw [HX.out, evsErr, firstNz_at HG.out (by rw [HEV2.out]; simp) _ (by rw [← HN.out]; exact hlt), HEV2.out]; simp
              have HF := Lib.hid hf
              clear hf
              go_wp2_with (first | (go_at_call 55; with_reducible refine (HA1.out _).mono ?_; rintro e wq ⟨rfl, rfl⟩) | (go_at_call 55; with_reducible refine (HA2.out _).mono ?_; rintro e wq ⟨rfl, rfl⟩))
              have hnb : (wr.alloc (.cells #[.int .i64 X1, .int .i64 X2] 85)).heap[wr.heap.size]? = some (.cells #[.int .i64 X1, .int .i64 X2] 85) := alloc_new_at _ _ _ rfl
              have hbb : Below w.heap.size w (wr.alloc (.cells #[.int .i64 X1, .int .i64 X2] 85)) := HB.out.trans ((Below.refl _ _).alloc (by omega) _)
              have hbx : NetBox (wr.alloc (.cells #[.int .i64 X1, .int .i64 X2] 85)) w.heap.size (.slice a1 ps.length c1) inp (.slice a2 ss.length c2) := (Below.heap_alloc _ _ _ (by omega)).trans HBX.out
              have hsz : (wr.alloc (.cells #[.int .i64 X1, .int .i64 X2] 85)).heap.size = wr.heap.size + 1 := by simp
              rw [← cell_old_alloc' (W := wr) (o := (.cells #[.int .i64 X1, .int .i64 X2] 85)) hbr] at v1 v2
              generalize wr.alloc (.cells #[.int .i64 X1, .int .i64 X2] 85) = W2 at *
              obtain ⟨_, _, _, _⟩ := cells2 hnb
              have hl1 : wr.heap.size < W2.heap.size := by omega
              have hl2 : b < W2.heap.size := by omega
              have HBB := Lib.hid hbb
              have HNB := Lib.hid hnb
              have HBX2 := Lib.hid hbx
              have HSZ := Lib.hid hsz
              clear hbb hnb hbx hsz
              have s1 := r1.out
              go_region_held3 (fun w' => w'.cell? ⟨b, off + (k - 1) * 2, none⟩ = some (.int .i64 Y1) ∧ w'.cell? ⟨b, off + (k - 1) * 2 + 1, none⟩ = some (.int .i64 Y2) ∧ w'.cell? ⟨wr.heap.size, 0, none⟩ = some (.int .i64 X1) ∧ w'.cell? ⟨wr.heap.size, 1, none⟩ = some (.int .i64 X2)) (first | (go_keep; done) | (refine ⟨?_, ?_, ?_, ?_⟩ <;> (refine (Below.cell (by assumption) ?_).trans ?_ <;> first | (simp; omega) | (simp; done) | (go_keep; done)))) ((go_at_call 91; refine (HBF.out _).mono ?_; rintro e w6 ⟨rfl, hb6⟩))
              clear s1
              go_wp2
              go_ret
              refine ⟨ret_int HF.out.symm, ?_⟩
              (repeat (first | exact HBB.out | refine below_drewN ?_ _ | refine Below.drew ?_ | refine Below.trans ?_ (Below.mono (by assumption) ?_)))
              all_goals (first | omega | (simp; done) | (simp; omega))
            | true =>
              have hf : evErrAt l inp most k = 0 := by rw [HEV2.out]; simp
              have HF := Lib.hid hf
              clear hf
              go_wp2_with (first | (go_at_call 55; with_reducible refine (HA1.out _).mono ?_; rintro e wq ⟨rfl, rfl⟩) | (go_at_call 55; with_reducible refine (HA2.out _).mono ?_; rintro e wq ⟨rfl, rfl⟩))
              have hnb : (wr.alloc (.cells #[.int .i64 X1, .int .i64 X2] 85)).heap[wr.heap.size]? = some (.cells #[.int .i64 X1, .int .i64 X2] 85) := alloc_new_at _ _ _ rfl
              have hbb : Below w.heap.size w (wr.alloc (.cells #[.int .i64 X1, .int .i64 X2] 85)) := HB.out.trans ((Below.refl _ _).alloc (by omega) _)
              have hbx : NetBox (wr.alloc (.cells #[.int .i64 X1, .int .i64 X2] 85)) w.heap.size (.slice a1 ps.length c1) inp (.slice a2 ss.length c2) := (Below.heap_alloc _ _ _ (by omega)).trans HBX.out
              have hsz : (wr.alloc (.cells #[.int .i64 X1, .int .i64 X2] 85)).heap.size = wr.heap.size + 1 := by simp
              rw [← cell_old_alloc' (W := wr) (o := (.cells #[.int .i64 X1, .int .i64 X2] 85)) hbr] at v1 v2
              generalize wr.alloc (.cells #[.int .i64 X1, .int .i64 X2] 85) = W2 at *
              obtain ⟨_, _, _, _⟩ := cells2 hnb
              have hl1 : wr.heap.size < W2.heap.size := by omega
              have hl2 : b < W2.heap.size := by omega
              have HBB := Lib.hid hbb
              have HNB := Lib.hid hnb
              have HBX2 := Lib.hid hbx
              have HSZ := Lib.hid hsz
              clear hbb hnb hbx hsz
              have s1 := r1.out
              go_region_held3 (fun w' => w'.cell? ⟨b, off + (k - 1) * 2, none⟩ = some (.int .i64 Y1) ∧ w'.cell? ⟨b, off + (k - 1) * 2 + 1, none⟩ = some (.int .i64 Y2) ∧ w'.cell? ⟨wr.heap.size, 0, none⟩ = some (.int .i64 X1) ∧ w'.cell? ⟨wr.heap.size, 1, none⟩ = some (.int .i64 X2)) (first | (go_keep; done) | (refine ⟨?_, ?_, ?_, ?_⟩ <;> (refine (Below.cell (by assumption) ?_).trans ?_ <;> first | (simp; omega) | (simp; done) | (go_keep; done)))) ((go_at_call 91; refine (HBF.out _).mono ?_; rintro e w6 ⟨rfl, hb6⟩))
              clear s1
              go_wp2
              go_roundw
              case rel =>
                refine ⟨k + 1, by omega, by go_num, ?_, ?_, fun j h => ?_⟩
                · (repeat (first | exact HBB.out | refine below_drewN ?_ _ | refine Below.drew ?_ | refine Below.trans ?_ (Below.mono (by assumption) ?_)))
                  all_goals (first | omega | (simp; done) | (simp; omega))
                · exact (hb6.block _ (by simp; omega)).trans HBX2.out
                · by_cases e : j = k
                  · subst e; exact HF.out
                  · exact HG.out j (by omega)
              case measure => simp [intOf]; omega
    · have hkn : k = n := by omega
      have hf : X = 0 := by rw [HX.out, evsErr]; exact firstNz_zero _ fun j hj => HG.out j (by rw [← HN.out] at hj; omega)
      have HF := Lib.hid hf
      subst hkn
      clear hf hlt
      go_wp2
      go_ret
      exact ⟨ret_int HF.out.symm, HB.out⟩

set_option maxRecDepth 100000 in
set_option maxHeartbeats 2000000 in
theorem checkRun_early (n : NetM) (k : Nat) (a1 a2 a3 : Option Addr) (c1 c2 c3 : Nat) (ticks most E : Int) (hm2 : most ≤ 1073741824) (h : E ≠ 0 ∨ inR ticks 0 most = false ∨ 65536 < k) (w : World)
    (hc : ∀ o, Calls Try.prog 19 #[.agg #[.slice a1 n.ps.length c1, .int .i64 n.inp, .slice a2 n.ss.length c2]] (w.alloc o) fun e w' => e = .returned (.int .i64 E) ∧ Below (w.alloc o).heap.size (w.alloc o) w') :
    Calls Try.prog 58 #[.agg #[.slice a1 n.ps.length c1, .int .i64 n.inp, .slice a2 n.ss.length c2], .slice a3 k c3, .int .i64 ticks, .int .i64 most] w fun e w' => e = .returned (.int .i64 (if E ≠ 0 then E else if inR ticks 0 most = false then 3 else 9)) ∧ Below w.heap.size w w' := by
  have ha := fun W => namong_any ticks 0 most W
  have HC := Lib.hid hc
  clear hc
  by_cases h1 : E ≠ 0
  · rw [if_pos h1]
    have g1 : (E != 0) = true := by simp [h1]
    clear ha h h1
    go_enter Try.func58, Try.ntmps58
    go_wp2_with (go_at_call 19; refine (HC.out _).mono ?_; rintro e w1 ⟨rfl, hb1⟩)
    go_ret
    exact ⟨rfl, ((Below.refl _ _).alloc (Nat.le_refl _) _).trans (hb1.mono (by simp))⟩
  · rw [if_neg h1]
    have h1' : E = 0 := by omega
    subst h1'
    by_cases h2 : inR ticks 0 most = false
    · rw [if_pos h2]
      rw [h2] at ha
      have HA := Lib.hid ha
      clear ha h h1 h2
      go_enter Try.func58, Try.ntmps58
      go_wp2_with (first | (go_at_call 19; refine (HC.out _).mono ?_; rintro e w1 ⟨rfl, hb1⟩) | (go_at_call 55; refine (HA.out _).mono ?_; rintro e wq ⟨rfl, rfl⟩))
      go_ret
      exact ⟨rfl, ((Below.refl _ _).alloc (Nat.le_refl _) _).trans (hb1.mono (by simp))⟩
    · rw [if_neg h2]
      have h2' : inR ticks 0 most = true := by simpa using h2
      rw [h2'] at ha
      have HA := Lib.hid ha
      have g1 : ((65536 : Int) < (k : Int)) = True := by simp <;> (rcases h with h | h | h <;> first | exact absurd h h1 | exact absurd h h2 | omega)
      clear ha h h1 h2 h2'
      go_enter Try.func58, Try.ntmps58
      go_wp2_with (first | (go_at_call 19; refine (HC.out _).mono ?_; rintro e w1 ⟨rfl, hb1⟩) | (go_at_call 55; refine (HA.out _).mono ?_; rintro e wq ⟨rfl, rfl⟩))
      go_ret
      exact ⟨rfl, ((Below.refl _ _).alloc (Nat.le_refl _) _).trans (hb1.mono (by simp))⟩

theorem checkRun_any (n : NetM) (l : List Evt) (a1 a2 a3 : Option Addr) (c1 c2 c3 : Nat) (ticks most : Int) (hm1 : 1 ≤ most) (hm2 : most ≤ 1073741824) (w : World)
    (hp : PsAt w (.slice a1 n.ps.length c1) n.ps) (hs : SsAt w (.slice a2 n.ss.length c2) n.ss) (he : EvsAt w (.slice a3 l.length c3) l) :
    Calls Try.prog 58 #[.agg #[.slice a1 n.ps.length c1, .int .i64 n.inp, .slice a2 n.ss.length c2], .slice a3 l.length c3, .int .i64 ticks, .int .i64 most] w fun e w' => e = .returned (.int .i64 (checkRunM n l ticks most)) ∧ Below w.heap.size w w' := by
  have hc := fun o => ncheck_any n a1 a2 c1 c2 (w.alloc o) (hp.below ((Below.refl _ _).alloc (Nat.le_refl _) o)) (hs.below ((Below.refl _ _).alloc (Nat.le_refl _) o))
  by_cases h : ncheck n ≠ 0 ∨ inR ticks 0 most = false ∨ 65536 < l.length
  · refine (checkRun_early n l.length a1 a2 a3 c1 c2 c3 ticks most (ncheck n) hm2 h w hc).mono fun e w' ⟨h1, h2⟩ => ⟨?_, h2⟩
    rw [h1, checkRunM]
    by_cases q1 : ncheck n ≠ 0
    · rw [if_pos q1, if_pos q1]
    · rw [if_neg q1, if_neg q1]
      by_cases q2 : inR ticks 0 most = false
      · rw [if_pos q2, if_pos q2]
      · rw [if_neg q2, if_neg q2, if_pos (by rcases h with h | h | h <;> first | exact absurd h q1 | exact absurd h q2 | exact h)]
  · have h0 : ncheck n = 0 := by
      by_cases q : ncheck n = 0
      · exact q
      · exact absurd (Or.inl q) h
    have hok := netOk_of h0
    have ht : inR ticks 0 most = true := by
      by_cases q : inR ticks 0 most = true
      · exact q
      · exact absurd (Or.inr (Or.inl (by simpa using q))) h
    have hl : l.length ≤ 65536 := by
      by_cases q : 65536 < l.length
      · exact absurd (Or.inr (Or.inr q)) h
      · omega
    rw [h0] at hc
    refine (checkRun_loop n.ps n.inp n.ss l a1 a2 a3 c1 c2 c3 ticks most hok.i0 hok.i1 ht hm1 hm2 hl w hc he).mono fun e w' ⟨h1, h2⟩ => ⟨?_, h2⟩
    rw [h1, checkRunM, if_neg (by simp [h0]), if_neg (by simp [ht]), if_neg (by omega)]
end Go.Proofs.Ytgbcdebnanejpaa
