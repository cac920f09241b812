/- Rows of a ring. -/
import Derived.Test.YtgbcdebnanejpaaNk
namespace Go.Proofs.Ytgbcdebnanejpaa
set_option linter.unusedVariables false
open Go.RowKit Go.Shelf

set_option maxHeartbeats 1000000 in
theorem row_any (b o t : Nat) (v : Value) (ht : (t : Int) ≤ 4294967296) (w : World) (hc : w.cell? ⟨b, o + t % 16, none⟩ = some v) :
    Calls Try.prog 80 #[.pointer (some ⟨b, o, none⟩), .int .i64 (t : Int)] w fun e w' => e = .returned v ∧ w = w' := by
  have h1 : (0 : Int) ≤ (t : Int) := Int.natCast_nonneg _
  have h2 : (t : Int) % 16 < 16 := by omega
  have h3 : (0 : Int) ≤ (t : Int) % 16 := by omega
  have h4 : ((t : Int) % 16).toNat = t % 16 := by omega
  go_enter Try.func80, Try.ntmps80
  go_wp2
  go_ret
  trace_state
  exact ⟨rfl, rfl⟩
end Go.Proofs.Ytgbcdebnanejpaa
