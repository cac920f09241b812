/- slices.Grow of nil and slices.Concat of two, of neurons and of synapses. (mk_Jb.py wrote this.) -/
import Derived.Test.YtgbcdebnanejpaaJa
import Derived.Lib.AppendZeros
import Derived.Lib.AppendZerosOnto
import Derived.Laws.AppendOwnNone
namespace Go.Proofs.Ytgbcdebnanejpaa.Rn
set_option linter.unusedVariables false
open Go.RowKit Go.Shelf

theorem own_none {W : World} {B : Nat} {e : TypeId} {sz n : Nat} {xs : List Value} (h : W.ownsRow B e sz (.slice none 0 0) n xs) : n = 0 := by
  rcases h.2 with ⟨_, h0⟩ | ⟨g, cap, cur, e1, _⟩
  · exact h0
  · cases e1

/-- What Grow and Concat leave: a row of one's own. -/
def PsOut (l : List Prm) (w : World) (e : Ending) (w' : World) : Prop :=
  ∃ v, e = .returned v ∧ w'.ownsRow w.heap.size 39 8 v l.length (prmCs l) ∧ Below w.heap.size w w'
set_option maxHeartbeats 1000000 in
set_option maxRecDepth 100000 in
theorem growP_any (n : Nat) (hn : n ≤ 200000) (w : World) : Calls Try.prog 106 #[.slice none 0 0, .int .i64 (n : Int)] w (PsOut [] w) := by
  obtain ⟨i0, hi, hz0, hzz1, hzz2⟩ := info_parts info39
  have h1 : ((n : Int) < 0) = False := by simp
  have hw : wrap64 ((n : Int) - 0) = (n : Int) := by unfold wrap64; omega
  by_cases hn0 : n = 0
  · subst hn0
    go_enter Try.func106, Try.ntmps106
    go_wp2
    go_ret
    exact ⟨_, rfl, World.ownsRow_nil _ _ _ _, Below.refl _ _⟩
  · have h4 : ((n : Int) > 0) = True := by simp; omega
    have hrz : ∀ ty, (Builtin.append_ #[22, 3] ty #[.slice none 0 0, .int .i64 (n : Int)]).run Try.prog w = _ := fun ty =>
      Lib.run_append_grow_zeros w 22 3 ty 39 i0 (.agg #[.int .i64 0, .int .i64 0, .int .i64 0, .int .i64 0, .int .i64 0, .int .i64 0, .int .i64 0, .int .i64 0]) .i64 .i64 Try.underlying22 Try.underlying3 hi hz0 none 0 0 [] (run_firstCells_none w.drew i0.size 0 0 0) n (by omega) (by rw [hzz1]; omega) (by omega) (by omega) (by rw [hzz2]; omega)
        (growslice_fits (by omega) (by rw [hzz2]; omega))
    have hge := grownCap_ge w (0 + n) 0 39
    have hle := grownCap_le_maxLen w (0 + n) 0 39 (by unfold maxLen; omega)
    obtain ⟨G, hG⟩ : ∃ G, G = grownCap w (0 + n) 0 39 := ⟨_, rfl⟩
    rw [← hG] at hrz hge hle
    have hsz : ((#[] : Array Value) ++ Builtin.zeroCells (Value.agg #[.int .i64 0, .int .i64 0, .int .i64 0, .int .i64 0, .int .i64 0, .int .i64 0, .int .i64 0, .int .i64 0]).cells n ++ Builtin.zeroCells (Value.agg #[.int .i64 0, .int .i64 0, .int .i64 0, .int .i64 0, .int .i64 0, .int .i64 0, .int .i64 0, .int .i64 0]).cells (G - (0 + n))).size = G * 8 := by
      simp [Builtin.zeroCells, Value.cells]; omega
    rw [show ([] : List Value).toArray = #[] from rfl] at hrz
    generalize ((#[] : Array Value) ++ Builtin.zeroCells (Value.agg #[.int .i64 0, .int .i64 0, .int .i64 0, .int .i64 0, .int .i64 0, .int .i64 0, .int .i64 0, .int .i64 0]).cells n ++ Builtin.zeroCells (Value.agg #[.int .i64 0, .int .i64 0, .int .i64 0, .int .i64 0, .int .i64 0, .int .i64 0, .int .i64 0, .int .i64 0]).cells (G - (0 + n))) = cur at *
    rw [Nat.zero_add] at hrz hge
    have HR := Lib.hid hrz
    have HS := Lib.hid hsz
    have hg0 : (0 : Int) ≤ (G : Int) := Int.natCast_nonneg _
    have hgn : (0 : Int) ≤ (n : Int) := Int.natCast_nonneg _
    have hgm : G ≤ 9223372036854775807 := by unfold maxLen at hle; omega
    clear hrz hsz hG
    go_enter Try.func106, Try.ntmps106
    go_wp2_with (at_builtin; refine Lib.wpList_append_run _ rfl _ _ _ _ rfl _ _ rfl rfl _ _ (HR.out _) ?_)
    all_goals (go_ret; exact ⟨_, rfl, ⟨rfl, .inr ⟨w.heap.size, G, cur, rfl, Nat.le_refl _, alloc_new_at _ _ _ rfl, Nat.zero_le _, hle, HS.out, rfl⟩⟩, (below_drewN (Below.refl _ _) 1).alloc (Nat.le_refl _) _⟩)

/-- What Grow and Concat leave: a row of one's own. -/
def SsOut (l : List Syn) (w : World) (e : Ending) (w' : World) : Prop :=
  ∃ v, e = .returned v ∧ w'.ownsRow w.heap.size 96 4 v l.length (synCs l) ∧ Below w.heap.size w w'
set_option maxHeartbeats 1000000 in
set_option maxRecDepth 100000 in
theorem growS_any (n : Nat) (hn : n ≤ 200000) (w : World) : Calls Try.prog 107 #[.slice none 0 0, .int .i64 (n : Int)] w (SsOut [] w) := by
  obtain ⟨i0, hi, hz0, hzz1, hzz2⟩ := info_parts info96
  have h1 : ((n : Int) < 0) = False := by simp
  have hw : wrap64 ((n : Int) - 0) = (n : Int) := by unfold wrap64; omega
  by_cases hn0 : n = 0
  · subst hn0
    go_enter Try.func107, Try.ntmps107
    go_wp2
    go_ret
    exact ⟨_, rfl, World.ownsRow_nil _ _ _ _, Below.refl _ _⟩
  · have h4 : ((n : Int) > 0) = True := by simp; omega
    have hrz : ∀ ty, (Builtin.append_ #[23, 3] ty #[.slice none 0 0, .int .i64 (n : Int)]).run Try.prog w = _ := fun ty =>
      Lib.run_append_grow_zeros w 23 3 ty 96 i0 (.agg #[.int .i64 0, .int .i64 0, .int .i64 0, .int .i64 0]) .i64 .i64 Try.underlying23 Try.underlying3 hi hz0 none 0 0 [] (run_firstCells_none w.drew i0.size 0 0 0) n (by omega) (by rw [hzz1]; omega) (by omega) (by omega) (by rw [hzz2]; omega)
        (growslice_fits (by omega) (by rw [hzz2]; omega))
    have hge := grownCap_ge w (0 + n) 0 96
    have hle := grownCap_le_maxLen w (0 + n) 0 96 (by unfold maxLen; omega)
    obtain ⟨G, hG⟩ : ∃ G, G = grownCap w (0 + n) 0 96 := ⟨_, rfl⟩
    rw [← hG] at hrz hge hle
    have hsz : ((#[] : Array Value) ++ Builtin.zeroCells (Value.agg #[.int .i64 0, .int .i64 0, .int .i64 0, .int .i64 0]).cells n ++ Builtin.zeroCells (Value.agg #[.int .i64 0, .int .i64 0, .int .i64 0, .int .i64 0]).cells (G - (0 + n))).size = G * 4 := by
      simp [Builtin.zeroCells, Value.cells]; omega
    rw [show ([] : List Value).toArray = #[] from rfl] at hrz
    generalize ((#[] : Array Value) ++ Builtin.zeroCells (Value.agg #[.int .i64 0, .int .i64 0, .int .i64 0, .int .i64 0]).cells n ++ Builtin.zeroCells (Value.agg #[.int .i64 0, .int .i64 0, .int .i64 0, .int .i64 0]).cells (G - (0 + n))) = cur at *
    rw [Nat.zero_add] at hrz hge
    have HR := Lib.hid hrz
    have HS := Lib.hid hsz
    have hg0 : (0 : Int) ≤ (G : Int) := Int.natCast_nonneg _
    have hgn : (0 : Int) ≤ (n : Int) := Int.natCast_nonneg _
    have hgm : G ≤ 9223372036854775807 := by unfold maxLen at hle; omega
    clear hrz hsz hG
    go_enter Try.func107, Try.ntmps107
    go_wp2_with (at_builtin; refine Lib.wpList_append_run _ rfl _ _ _ _ rfl _ _ rfl rfl _ _ (HR.out _) ?_)
    all_goals (go_ret; exact ⟨_, rfl, ⟨rfl, .inr ⟨w.heap.size, G, cur, rfl, Nat.le_refl _, alloc_new_at _ _ _ rfl, Nat.zero_le _, hle, HS.out, rfl⟩⟩, (below_drewN (Below.refl _ _) 1).alloc (Nat.le_refl _) _⟩)
end Go.Proofs.Ytgbcdebnanejpaa.Rn
