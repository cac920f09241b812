/- Curves: the small functions. -/
import Derived.Test.YthfmbmjjfdhhnaaRows
import Derived.WalkKit
import Derived.WalkSpells
import Derived.Laws.EntriesVeiled
import Derived.WalkLawsBesides
import Derived.Deep.QuietTactic
import Derived.BigQuiet
import Derived.WalkSmall
import Derived.OwnWalk
import Derived.StillTailTactics
import Derived.LoopIn
import Derived.LoopNIn
import Derived.BigRegion
import Derived.TacticsInMore
import Derived.Deep.Cut
import Derived.Deep.RegionWith
import Derived.Deep.RegionHeld3
import Derived.OwnWalkIn
import Derived.Deep.DeepMust
import Derived.Lib.Hide
namespace Go.Proofs.Ythfmbmjjfdhhnaa
set_option linter.unusedVariables false
open Go.RowKit

def inR (x a b : Int) : Bool := decide (a ≤ x) && decide (x ≤ b)
theorem alloc_new_at (W : World) (o : Obj) (k : Nat) (h : k = W.heap.size) : (W.alloc o).heap[k]? = some o := by subst h; exact heap_alloc_new W o
theorem bcell {W w1 : World} (hb : Below W.heap.size W w1) : (∀ b o, b < W.heap.size → w1.cell? ⟨b, o, none⟩ = W.cell? ⟨b, o, none⟩) ∧ (∀ b o, b < W.heap.size → w1.frozen? ⟨b, o, none⟩ = W.frozen? ⟨b, o, none⟩) :=
  ⟨fun b o h => hb.cell (p := ⟨b, o, none⟩) h, fun b o h => hb.frozen (p := ⟨b, o, none⟩) h⟩
theorem lt_of_block {W : World} {b : Nat} {o : Obj} (h : W.heap[b]? = some o) : b < W.heap.size := (Array.getElem?_eq_some_iff.1 h).1
theorem cells2 {W : World} {b : Nat} {v0 v1 : Value} {t : TypeId} (h : W.heap[b]? = some (.cells #[v0, v1] t)) : W.cell? ⟨b, 0, none⟩ = some v0 ∧ W.cell? ⟨b, 1, none⟩ = some v1 ∧ W.frozen? ⟨b, 0, none⟩ = false ∧ W.frozen? ⟨b, 1, none⟩ = false := by simp [World.cell?, World.frozen?, h]
theorem ownsRow_of_block {A A' : World} {base : Nat} {e : TypeId} {size : Nat} {v : Value} {n : Nat} {xs : List Value} (h : A.ownsRow base e size v n xs) (hb : ∀ g, v.ownBlock = some g → A'.heap[g]? = A.heap[g]?) : A'.ownsRow base e size v n xs := by
  refine ⟨h.1, ?_⟩
  rcases h.2 with hn | ⟨g, cap, cur, rfl, hbg, hgg, rest⟩
  · exact Or.inl hn
  · exact Or.inr ⟨g, cap, cur, rfl, hbg, (hb g rfl).trans hgg, rest⟩
theorem cells_new {W : World} {b : Nat} {l : List Value} {t : TypeId} {m : Nat × Nat} (h : W.heap[b]? = some (.cells ⟨l⟩ t m)) : ∀ (j : Nat) u, l[j]? = some u → W.cell? ((⟨b, 0, none⟩ : Addr).add j) = some u := fun j u hu => by
  have e : (⟨b, 0, none⟩ : Addr).add j = ⟨b, j, none⟩ := by unfold Addr.add; split <;> simp_all
  rw [e]
  simp [World.cell?, h, hu]
/-- The block of a curve. -/
abbrev CBox (W : World) (g t : Nat) (b r : Int) : Prop := W.heap[g]? = some (.cells #[.int .i64 b, .int .i64 r] t)

theorem camong_any (x a b : Int) (w : World) :
    Calls Try.prog 28 #[.int .i64 x, .int .i64 a, .int .i64 b] w fun e w' => e = .returned (.bool (inR x a b)) ∧ w = w' := by
  by_cases h1 : a ≤ x
  · go_enter Try.func28, Try.ntmps28
    go_wp2
    go_ret
    exact ⟨by simp [inR, *], rfl⟩
  · go_enter Try.func28, Try.ntmps28
    go_wp2
    go_ret
    exact ⟨by simp [inR]; omega, rfl⟩
/-- What Check returns of a curve. -/
def cE (b r : Int) : Int := if 0 ≤ b ∧ b ≤ 65536 ∧ 0 ≤ r ∧ r ≤ 1024 then 0 else 3
theorem cE_zero {b r : Int} (h : cE b r = 0) : 0 ≤ b ∧ b ≤ 65536 ∧ 0 ≤ r ∧ r ≤ 1024 := by
  unfold cE at h
  split at h
  · assumption
  · omega
theorem cE_or (b r : Int) : cE b r = 0 ∨ cE b r = 3 := by unfold cE; split <;> simp
set_option maxRecDepth 100000 in
theorem check_any (b r : Int) (w : World) :
    Calls Try.prog 24 #[.agg #[.int .i64 b, .int .i64 r]] w fun e w' => e = .returned (.int .i64 (cE b r)) ∧ Below w.heap.size w w' := by
  cases h1 : inR b 0 65536 with
  | false =>
    have e : cE b r = 3 := by simp [inR] at h1; unfold cE; rw [if_neg]; omega
    rw [e]
    go_enter Try.func24, Try.ntmps24
    go_wp2_with (go_at_call 28; refine (camong_any _ _ _ _).mono ?_; rintro e w1 ⟨rfl, rfl⟩; rw [h1])
    go_ret
    exact ⟨rfl, (Below.refl _ _).alloc (Nat.le_refl _) _⟩
  | true =>
    cases h2 : inR r 0 1024 with
    | false =>
      have e : cE b r = 3 := by simp [inR] at h1 h2; unfold cE; rw [if_neg]; omega
      rw [e]
      go_enter Try.func24, Try.ntmps24
      go_wp2_with (go_at_call 28; refine (camong_any _ _ _ _).mono ?_; rintro e w1 ⟨rfl, rfl⟩; first | rw [h1] | rw [h2])
      go_ret
      exact ⟨rfl, (Below.refl _ _).alloc (Nat.le_refl _) _⟩
    | true =>
      have e : cE b r = 0 := by simp [inR] at h1 h2; unfold cE; rw [if_pos]; omega
      rw [e]
      go_enter Try.func24, Try.ntmps24
      go_wp2_with (go_at_call 28; refine (camong_any _ _ _ _).mono ?_; rintro e w1 ⟨rfl, rfl⟩; first | rw [h1] | rw [h2])
      go_ret
      exact ⟨rfl, (Below.refl _ _).alloc (Nat.le_refl _) _⟩
set_option maxRecDepth 100000 in
theorem rcheck_any (b r : Int) (w : World) :
    Calls Try.prog 27 #[.agg #[.int .i64 b, .int .i64 r]] w fun e w' => e = .returned (.int .i64 (cE b r)) ∧ Below w.heap.size w w' := by
  have hB : Below w.heap.size w (w.alloc (.cells #[.int .i64 b, .int .i64 r] 24)) := (Below.refl _ _).alloc (Nat.le_refl _) _
  by_cases h1 : b < 0
  · have e : cE b r = 3 := by unfold cE; rw [if_neg]; omega
    have z1 : (b < 0) = True := by simp [h1]
    rw [e]
    clear e h1
    go_enter Try.func27, Try.ntmps27
    go_wp2
    go_ret
    exact ⟨rfl, hB⟩
  · have z1 : (b < 0) = False := by simp [h1]
    by_cases h2 : 65536 < b
    · have e : cE b r = 3 := by unfold cE; rw [if_neg]; omega
      have z2 : (65536 < b) = True := by simp [h2]
      rw [e]
      clear e h1 h2
      go_enter Try.func27, Try.ntmps27
      go_wp2
      go_ret
      exact ⟨rfl, hB⟩
    · have z2 : (65536 < b) = False := by simp; omega
      by_cases h3 : r < 0
      · have e : cE b r = 3 := by unfold cE; rw [if_neg]; omega
        have z3 : (r < 0) = True := by simp [h3]
        rw [e]
        clear e h1 h2 h3
        go_enter Try.func27, Try.ntmps27
        go_wp2
        go_ret
        exact ⟨rfl, hB⟩
      · have z3 : (r < 0) = False := by simp [h3]
        by_cases h4 : 1024 < r
        · have e : cE b r = 3 := by unfold cE; rw [if_neg]; omega
          have z4 : (1024 < r) = True := by simp [h4]
          rw [e]
          clear e h1 h2 h3 h4
          go_enter Try.func27, Try.ntmps27
          go_wp2
          go_ret
          exact ⟨rfl, hB⟩
        · have e : cE b r = 0 := by unfold cE; rw [if_pos]; omega
          have z4 : (1024 < r) = False := by simp; omega
          rw [e]
          clear e h1 h2 h3 h4
          go_enter Try.func27, Try.ntmps27
          go_wp2
          go_ret
          exact ⟨rfl, hB⟩
set_option maxRecDepth 100000 in
theorem bend_any (b r : Int) (w : World) :
    Calls Try.prog 7 #[.agg #[.int .i64 b, .int .i64 r]] w fun e w' => e = .returned (.agg #[.int .i64 b, .int .i64 r]) ∧ Below w.heap.size w w' := by
  go_enter Try.func7, Try.ntmps7
  go_wp2
  exact bodyPost_ret (v := .agg #[.int .i64 b, .int .i64 r]) (by simp [results, Try.results7, go_sem]) rfl ⟨rfl, ((Below.refl _ _).alloc (Nat.le_refl _) _).alloc (by simp) _⟩
end Go.Proofs.Ythfmbmjjfdhhnaa
