/- net.isSource, net.Check. -/
import Derived.Test.YtnbndciididpoaaGreatNb
namespace Go.Proofs.YtnbndciididpoaaGreat
set_option linter.unusedVariables false
open Go.RowKit Go.Shelf

set_option maxHeartbeats 400000 in
theorem nsrc_any (a : Option Addr) (nn cap : Nat) (inp : Int) (ssv : Value) (x : Int) (h0 : 0 ≤ inp) (h1 : inp ≤ 256) (h2 : nn ≤ 1024) (w : World) :
    Calls Tryz.prog 122 #[.agg #[.slice a nn cap, .int .i64 inp, ssv], .int .i64 x] w fun e w' => e = .returned (.bool (srcOk nn inp x)) ∧ Below w.heap.size w w' := by
  go_enter Tryz.func122, Tryz.ntmps122
  go_wp2_with (go_at_call 123; refine (namong_any _ _ _ _).mono ?_; rintro e w1 ⟨rfl, rfl⟩)
  go_ret
  exact ⟨by simp [srcOk], by first | exact (Below.refl _ _).alloc (Nat.le_refl _) _ | exact below_drewN ((Below.refl _ _).alloc (Nat.le_refl _) _) _⟩

/-- Three cells hold a network's header. -/
def NetBox (W : World) (b : Nat) (sp : Value) (inp : Int) (ss : Value) : Prop := W.heap[b]? = some (.cells #[sp, .int .i64 inp, ss] 25)

set_option maxRecDepth 100000 in
set_option maxHeartbeats 2000000 in
theorem ncheck_early (n : NetM) (a1 a2 : Option Addr) (c1 c2 : Nat) (h : n.ps.length = 0 ∨ 1024 < n.ps.length ∨ 256 < n.inp ∨ 8192 < n.ss.length ∨ n.inp < 0) (w : World) :
    Calls Tryz.prog 71 #[.agg #[.slice a1 n.ps.length c1, .int .i64 n.inp, .slice a2 n.ss.length c2]] w fun e w' => e = .returned (.int .i64 (ncheck n)) ∧ Below w.heap.size w w' := by
  obtain ⟨X, hX⟩ : ∃ X : Int, X = ncheck n := ⟨_, rfl⟩
  rw [← hX]
  unfold ncheck at hX
  obtain ⟨ps, inp, ss⟩ := n
  simp only at hX h ⊢
  generalize ps.length = k at *
  generalize ss.length = m at *
  by_cases h0 : k = 0
  · rw [if_pos h0] at hX
    subst hX h0
    clear h
    go_enter Tryz.func71, Tryz.ntmps71
    go_wp2
    go_ret
    exact ⟨rfl, (Below.refl _ _).alloc (Nat.le_refl _) _⟩
  · rw [if_neg h0] at hX
    have g0 : ((k : Int) == 0) = false := by simp; omega
    by_cases h1 : 1024 < k ∨ 256 < inp ∨ 8192 < m
    · rw [if_pos h1] at hX
      subst hX
      clear h
      by_cases h2 : 1024 < k
      · have g1 : ((1024 : Int) < (k : Int)) = True := by simp; omega
        clear h0 h1 h2
        go_enter Tryz.func71, Tryz.ntmps71
        go_wp2
        go_ret
        exact ⟨rfl, (Below.refl _ _).alloc (Nat.le_refl _) _⟩
      · have g1 : ((1024 : Int) < (k : Int)) = False := by simp; omega
        by_cases h3 : 256 < inp
        · have g2 : ((256 : Int) < inp) = True := by simp; omega
          clear h0 h1 h2 h3
          go_enter Tryz.func71, Tryz.ntmps71
          go_wp2
          go_ret
          exact ⟨rfl, (Below.refl _ _).alloc (Nat.le_refl _) _⟩
        · have g2 : ((256 : Int) < inp) = False := by simp; omega
          have g3 : ((8192 : Int) < (m : Int)) = True := by simp; omega
          clear h0 h1 h2 h3
          go_enter Tryz.func71, Tryz.ntmps71
          go_wp2
          go_ret
          exact ⟨rfl, (Below.refl _ _).alloc (Nat.le_refl _) _⟩
    · rw [if_neg h1, if_pos (by omega)] at hX
      subst hX
      have g1 : ((1024 : Int) < (k : Int)) = False := by simp; omega
      have g2 : ((256 : Int) < inp) = False := by simp; omega
      have g3 : ((8192 : Int) < (m : Int)) = False := by simp; omega
      have g4 : (inp < 0) = True := by simp; omega
      clear h0 h1 h
      go_enter Tryz.func71, Tryz.ntmps71
      go_wp2
      go_ret
      exact ⟨rfl, (Below.refl _ _).alloc (Nat.le_refl _) _⟩
end Go.Proofs.YtnbndciididpoaaGreat
