/- A network by its contract: net.Check, ref02.Check. -/
import Derived.Test.YtnbndciididpoaaGreatNf
import Derived.Deep.RegionHeld3
namespace Go.Proofs.YtnbndciididpoaaGreat
set_option linter.unusedVariables false
open Go.RowKit Go.Shelf

theorem cells3f {W : World} {b : Nat} {v0 v1 v2 : Value} {t : TypeId} (h : W.heap[b]? = some (.cells #[v0, v1, v2] t)) : W.cell? ⟨b, 0, none⟩ = some v0 ∧ W.cell? ⟨b, 1, none⟩ = some v1 ∧ W.cell? ⟨b, 2, none⟩ = some v2 ∧ W.frozen? ⟨b, 0, none⟩ = false ∧ W.frozen? ⟨b, 1, none⟩ = false ∧ W.frozen? ⟨b, 2, none⟩ = false := by simp [World.cell?, World.frozen?, h]
def NetAt (W : World) (v : Value) (n : NetM) : Prop := ∃ a1 c1 a2 c2, v = .agg #[.slice a1 n.ps.length c1, .int .i64 n.inp, .slice a2 n.ss.length c2] ∧ PsAt W (.slice a1 n.ps.length c1) n.ps ∧ SsAt W (.slice a2 n.ss.length c2) n.ss
theorem ncheck_any (n : NetM) (a1 a2 : Option Addr) (c1 c2 : Nat) (w : World) (hp : PsAt w (.slice a1 n.ps.length c1) n.ps) (hs : SsAt w (.slice a2 n.ss.length c2) n.ss) :
    Calls Tryz.prog 71 #[.agg #[.slice a1 n.ps.length c1, .int .i64 n.inp, .slice a2 n.ss.length c2]] w fun e w' => e = .returned (.int .i64 (ncheck n)) ∧ Below w.heap.size w w' := by
  by_cases h : n.ps.length = 0 ∨ 1024 < n.ps.length ∨ 256 < n.inp ∨ 8192 < n.ss.length ∨ n.inp < 0
  · exact ncheck_early n a1 a2 c1 c2 h w
  · exact ncheck_rest n.ps n.inp n.ss a1 a2 c1 c2 (by omega) (by omega) (by omega) (by omega) (by omega) w hp hs
theorem rncheck_any (n : NetM) (a1 a2 : Option Addr) (c1 c2 : Nat) (w : World) (hp : PsAt w (.slice a1 n.ps.length c1) n.ps) (hs : SsAt w (.slice a2 n.ss.length c2) n.ss) :
    Calls Tryz.prog 52 #[.agg #[.slice a1 n.ps.length c1, .int .i64 n.inp, .slice a2 n.ss.length c2]] w fun e w' => e = .returned (.int .i64 (ncheck n)) ∧ Below w.heap.size w w' := by
  by_cases h : n.ps.length = 0 ∨ 1024 < n.ps.length ∨ 256 < n.inp ∨ 8192 < n.ss.length ∨ n.inp < 0
  · exact rncheck_early n a1 a2 c1 c2 h w
  · exact rncheck_rest n.ps n.inp n.ss a1 a2 c1 c2 (by omega) (by omega) (by omega) (by omega) (by omega) w hp hs

/-- A valid network, in inequalities. -/
structure NetOk (n : NetM) : Prop where
  p0 : 1 ≤ n.ps.length
  p1 : n.ps.length ≤ 1024
  i0 : 0 ≤ n.inp
  i1 : n.inp ≤ 256
  s1 : n.ss.length ≤ 8192
  ps : ∀ p ∈ n.ps, checkP p = 0
  ss : ∀ s ∈ n.ss, synOk n.ps.length n.inp s = true
theorem netOk_of {n : NetM} (h : ncheck n = 0) : NetOk n := by
  unfold ncheck at h
  by_cases h0 : n.ps.length = 0
  · rw [if_pos h0] at h; omega
  · rw [if_neg h0] at h
    by_cases h1 : 1024 < n.ps.length ∨ 256 < n.inp ∨ 8192 < n.ss.length
    · rw [if_pos h1] at h; omega
    · rw [if_neg h1] at h
      by_cases h2 : n.inp < 0
      · rw [if_pos h2] at h; omega
      · rw [if_neg h2] at h
        by_cases h3 : firstBad n.ps ≠ 0
        · rw [if_pos h3] at h; exact absurd h h3
        · rw [if_neg h3] at h
          by_cases h4 : n.ss.all (synOk n.ps.length n.inp) = true
          · refine ⟨by omega, by omega, by omega, by omega, by omega, firstBad_all.1 (by simpa using h3), fun s hs => List.all_eq_true.1 h4 s hs⟩
          · rw [if_neg h4] at h; omega
end Go.Proofs.YtnbndciididpoaaGreat
