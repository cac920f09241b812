/- learn's table of kinds; learn.checkRule. -/
import Derived.Test.YtipodippfddlpaaLm
import Derived.Carry
namespace Go.Proofs.Ytipodippfddlpaa.Lrn
set_option linter.unusedVariables false
open Go.RowKit

theorem below_grown {w w' : World} {N b : Nat} (hg : w.grownBy w' (some b)) (h1 : N ≤ w.heap.size) (h2 : N ≤ b) : Below N w w' := by
  exact ⟨hg.os, hg.tape, hg.output, hg.size, fun k hk => hg.block k (by omega) (fun e => by cases e; omega)⟩
def kindT : Int → Option Value := upd1 (upd1 (fun _ => none) 1 (some (.func (.func 102) #[] #[]))) 2 (some (.func (.func 103) #[] #[]))
set_option maxRecDepth 100000 in
set_option maxHeartbeats 4000000 in
theorem kinds_any (w : World) :
    Calls Try.prog 73 #[] w fun e w' => e = .returned (.map (some w.heap.size)) ∧ MapIs w' w.heap.size 2 kindT ∧ Below w.heap.size w w' := by
  have hmm := @run_makeMap Try.prog
  have hu : ∃ e, Try.prog.underlying 144 = some (.map 3 e) := ⟨_, Try.underlying144⟩
  obtain ⟨e, hu⟩ := hu
  obtain ⟨W1, e1, m1, g1⟩ := (MapIs.made w).update (by decide) hu 1 (by rfl) (.func (.func 102) #[] #[])
  obtain ⟨W2, e2, m2, g2⟩ := m1.update (by decide) hu 2 (by rfl) (.func (.func 103) #[] #[])
  have hb : Below w.heap.size w W2 := (((Below.refl _ _).alloc (Nat.le_refl _) _).trans (below_grown g1 (by simp) (Nat.le_refl _))).trans (below_grown g2 (Nat.le_of_lt m1.lt) (Nat.le_refl _))
  go_enter Try.func73, Try.ntmps73
  go_wp2
  go_simp
  go_wp2
  go_ret
  exact ⟨rfl, m2, hb⟩
end Go.Proofs.Ytipodippfddlpaa.Lrn
