/- Routes: what both Distances, Routes and Trees return. Over this seat's program. -/
import Derived.Test.YtlkcpnhepadenaaDoorRm
namespace Go.Proofs.YtlkcpnhepadenaaDoor
set_option linter.unusedVariables false
open Go.RowKit Go.Shelf

/-- A list and an error, as a pair that a call returns. -/
def ListOut (L : List Int) (er : Int) (w : World) (e : Ending) (w' : World) : Prop := ∃ a2 c2, e = .returned (.tuple #[.slice a2 L.length c2, .int .i64 er]) ∧ IntsAt w' (.slice a2 L.length c2) L ∧ Below w.heap.size w w'
theorem listOut_nil {er : Int} {w w' : World} {e : Ending} (h : e = .returned (.tuple #[.slice none 0 0, .int .i64 er]) ∧ Below w.heap.size w w') : ListOut [] er w e w' := ⟨none, 0, h.1, .inl ⟨rfl, rfl⟩, h.2⟩
theorem listOut_route {xs : List Nat} {w w' : World} {e : Ending} (h : RouteOk xs w e w') : ListOut (xs.map fun x : Nat => (x : Int)) 0 w e w' := by
  obtain ⟨v, rfl, ho, hb⟩ := h
  have hn : natV xs = (xs.map fun x : Nat => (x : Int)).map (Value.int .i64) := by unfold natV; rw [List.map_map]; rfl
  have hl : xs.length = (xs.map fun x : Nat => (x : Int)).length := by simp
  rw [hn, hl] at ho
  have hi := intsAt_of_owns ho
  obtain ⟨a, c, rfl⟩ := hi.len
  exact ⟨a, c, rfl, hi, hb⟩
theorem listOut_tree {W a n : Nat} {ts : List Nat} {w w' : World} {e : Ending} (h : TreeOk W a n ts w e w') : ListOut (listOf (treeM W a ts) n) 0 w e w' := by
  obtain ⟨g, rfl, ht, hb⟩ := h
  have hi := ht.list (cap := n)
  refine ⟨some ⟨g, 0, none⟩, n, by rw [listOf_len], ?_, hb⟩
  rw [listOf_len]; exact hi

theorem routes_any (W H R a b : Int) : ∃ (d er : Int) (L : List Int), L.length ≤ 100 ∧
    (∀ w, Calls Tryd.prog 15 #[.agg #[.int .i64 W, .int .i64 H, .int .i64 R], .int .i64 a, .int .i64 b] w fun e w' => e = .returned (.tuple #[.int .i64 d, .int .i64 er]) ∧ Below w.heap.size w w') ∧
    (∀ w, Calls Tryd.prog 16 #[.agg #[.int .i64 W, .int .i64 H, .int .i64 R], .int .i64 a, .int .i64 b] w fun e w' => e = .returned (.tuple #[.int .i64 d, .int .i64 er]) ∧ Below w.heap.size w w') ∧
    (∀ w, Calls Tryd.prog 19 #[.agg #[.int .i64 W, .int .i64 H, .int .i64 R], .int .i64 a, .int .i64 b] w (ListOut L er w)) ∧
    (∀ w, Calls Tryd.prog 20 #[.agg #[.int .i64 W, .int .i64 H, .int .i64 R], .int .i64 a, .int .i64 b] w (ListOut L er w)) := by
  by_cases h : rerr W H R a b = 0
  · obtain ⟨Wn, Hn, an, bn, rfl, rfl, rfl, rfl, ⟨h1, h2⟩, ⟨hH, hH2⟩, hR, ha, hb⟩ := rerr_ok h
    refine ⟨_, 0, (pth Wn an bn).map fun x : Nat => (x : Int), ?_, fun w => dist_ok Wn an bn Hn R h1 h2 hH hH2 hR ha hb w, fun w => rdist_ok Wn an bn Hn R h1 h2 hH hH2 hR ha hb w,
      fun w => (callsIn_wide.1 (route_in Wn an bn Hn R h1 h2 hH hH2 hR ha hb w)).mono fun e w' h => listOut_route h, fun w => (rroute_ok Wn an bn Hn R h1 h2 hH hH2 hR ha hb w).mono fun e w' h => listOut_route h⟩
    have := ds_le (a := an) (b := bn) h1 ha hb
    simp [pth_length]; omega
  · exact ⟨0, rerr W H R a b, [], by simp, fun w => dist_err W H R a b h w, fun w => rdist_err W H R a b h w, fun w => (route_err W H R a b h w).mono fun e w' h => listOut_nil h, fun w => (rroute_err W H R a b h w).mono fun e w' h => listOut_nil h⟩

theorem trees_any (W H R a : Int) (sa : Option Addr) (m cap : Nat) (zs : List Int) (hm : m = zs.length) (hm2 : m ≤ 100) (w0 : World) (hI : IntsAt w0 (.slice sa m cap) zs) : ∃ (er : Int) (L : List Int), L.length ≤ 100 ∧
    (∀ w, Below w0.heap.size w0 w → Calls Tryd.prog 22 #[.agg #[.int .i64 W, .int .i64 H, .int .i64 R], .int .i64 a, .slice sa m cap] w (ListOut L er w)) ∧
    (∀ w, Below w0.heap.size w0 w → Calls Tryd.prog 23 #[.agg #[.int .i64 W, .int .i64 H, .int .i64 R], .int .i64 a, .slice sa m cap] w (ListOut L er w)) := by
  by_cases h : terr W H R a zs = 0
  · obtain ⟨Wn, Hn, an, ts, rfl, rfl, rfl, rfl, ⟨h1, h2⟩, ⟨hH, hH2⟩, hR, ha, hts, hne⟩ := terr_ok h
    have hm' : m = ts.length := by rw [hm]; simp
    have h64 : Wn * Hn ≤ 64 := Nat.mul_le_mul h2 hH2
    exact ⟨0, listOf (treeM Wn an ts) (Wn * Hn), by rw [listOf_len]; omega, fun w hb => (callsIn_wide.1 (tree_in Wn an Hn R h1 h2 hH hH2 hR ha ts hts hne sa m cap hm' hm2 w (hI.below hb))).mono fun e w' h => listOut_tree h,
      fun w hb => (rtree_ok Wn an Hn R h1 h2 hH hH2 hR ha ts hts hne sa m cap hm' hm2 w (hI.below hb)).mono fun e w' h => listOut_tree h⟩
  · exact ⟨terr W H R a zs, [], by simp, fun w hb => (tree_err W H R a sa m cap zs hm hm2 w (hI.below hb) h).mono fun e w' h => listOut_nil h, fun w hb => (rtree_err W H R a sa m cap zs hm hm2 w (hI.below hb) h).mono fun e w' h => listOut_nil h⟩
end Go.Proofs.YtlkcpnhepadenaaDoor
