/- slices.Values, and the functions that make the iterators. -/
import Derived.Test.YtnbndciididpoaaGreatD
namespace Go.Proofs.YtnbndciididpoaaGreat
set_option linter.unusedVariables false
open Go.RowKit Go.Shelf
attribute [local go_sem] Oper.semAt_some

/-- The slice value sv reads as the ints zs. -/
def IntsAt (W : World) (sv : Value) (zs : List Int) : Prop :=
  (sv = .slice none 0 0 ∧ zs = []) ∨ ∃ b off cap, sv = .slice (some ⟨b, off, none⟩) zs.length cap ∧ ∀ j, j < zs.length → W.cell? ⟨b, off + j, none⟩ = some (.int .i64 (zs[j]?.getD 0))

theorem getD_take (zs : List Int) (k : Nat) (h : k < zs.length) : zs[k]? = some (zs[k]?.getD 0) := by simp [h]

theorem Gives.at {α : Type} {P : Program} {gf : Nat} {lb : Array Value} {enc : α → Array Value} {xs : List α} {Cap : Nat → Prop} {w0 w1 : World} (h : Gives P gf lb enc xs Cap w0) (hs : w0.heap.size ≤ w1.heap.size) (hc : ∀ k, Cap k → w1.heap[k]? = w0.heap[k]?) : Gives P gf lb enc xs Cap w1 :=
  fun l J Jx W hW hsame => h l J Jx W (Nat.le_trans hs hW) (fun k hk => (hsame k hk).trans (hc k hk))

end Go.Proofs.YtnbndciididpoaaGreat
