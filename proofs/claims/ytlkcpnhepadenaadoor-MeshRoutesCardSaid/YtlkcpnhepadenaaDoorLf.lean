/- The frame of a law over this seat's program, and the chapter's examples that each law of this layer asks for besides. No condition but that the package-level tables hold what their initialisers lay (the row's own condition). -/
import Derived.Test.YtlkcpnhepadenaaDoorRows
import Derived.ProofKit
import Derived.LaidMore
import Derived.OpenShut
import Derived.WalkKit
import Derived.Stop.Joined
import Derived.Lib.LaidTab
import Derived.Test.YtlkcpnhepadenaaDoorEv6
namespace Go.Proofs.YtlkcpnhepadenaaDoor.Lf
set_option linter.unusedVariables false
open Go.ChangeShapes Go.WideShapes Go.ChangeAt Go.RowKit

theorem own : ownKnob Tryd.prog.godebug = none := by kernel_rfl
theorem laidOut : laidOutB Tryd.prog = true := by kernel_rfl
theorem mixed : Tryd.prog.follows .mixedOrders = true := by kernel_rfl
section
variable {H : Type} {enc : TypeId × Value → H} {w : World} {base : Nat} {spare : Nat → Bool} {held : Bool}
/-- All arguments read as they did, where nothing below the old heap's end has turned. -/
theorem trodAll_below {W W' : World} (hb : Below W.heap.size W W') (ts : List TypeId) (hts : ∀ t ∈ ts, Tryd.prog.readableRec t = true ∧ t < Tryd.prog.types.size) :
    ∀ {vs : List Value} {ds : List (DataW H)} {p : List MemPlace}, DataW.TrodAll enc Tryd.prog W 0 (fun _ => true) true ts vs ds p →
      DataW.TrodAll enc Tryd.prog W' 0 (fun b => decide (b < W.heap.size)) true ts vs ds p := by
  induction ts with
  | nil =>
    intro vs ds p h
    obtain ⟨rfl, rfl, rfl⟩ := trodAll_nil h
    exact trodAll_mk0
  | cons t ts ih =>
    intro vs ds p h
    obtain ⟨v0, vs0, d0, ds0, p0, q0, rfl, rfl, rfl, h0, r0⟩ := trodAll_cons h
    have lt0 : ∀ x ∈ p0, x.block < W.heap.size := by obtain ⟨m, hm⟩ := h0; exact DataW.trod_lt m _ _ _ hm
    have ht := hts t (by simp)
    exact trodAll_cons_mk (Below.trod laidOut ht.1 ht.2 h0 hb lt0) (ih (fun t' h' => hts t' (by simp [h'])) r0)
end
/-! ### the package-level tables -/
def outs : List Int := [1, 2, 4, 8, 16]
def nothing : List Int := [-1, -1, -1, -1]
noncomputable def tables : Ev.Tr Ev.AObj := Ev.globs [(1, outs.map (Value.int .i64)), (0, nothing.map (Value.int .i64))]
def laid2 : List (String × DataW Unit) := [("ganglion/mesh.outputs", Rows.laid_ganglion_mesh_outputs), ("ganglion/mesh.nothing", Rows.laid_ganglion_mesh_nothing)]
theorem gOuts : Tryd.prog.globalNamed "ganglion/mesh.outputs" = some 1 := by kernel_rfl
theorem gNothing : Tryd.prog.globalNamed "ganglion/mesh.nothing" = some 0 := by kernel_rfl
theorem tOuts : (Tryd.prog.globals[1]?).map (·.type) = some 205 := by kernel_rfl
theorem tNothing : (Tryd.prog.globals[0]?).map (·.type) = some 167 := by kernel_rfl
theorem u205 : Tryd.prog.underlying 205 = some (.array 5 3) := by kernel_rfl
theorem u167 : Tryd.prog.underlying 167 = some (.array 4 3) := by kernel_rfl
theorem c3 : Tryd.prog.cellsOf 3 = 1 := by kernel_rfl
theorem c205 : Tryd.prog.cellsOf 205 = 5 := by kernel_rfl
theorem c167 : Tryd.prog.cellsOf 167 = 4 := by kernel_rfl
/-- A variable's block. -/
theorem var_block {W : World} {n : String} {g : Nat} {cs : Array Value} (hg : Tryd.prog.globalNamed n = some g) (h : W.var? Tryd.prog n = some cs) : ∃ e fr, W.heap[g]? = some (.cells cs e fr) := by
  simp only [World.var?, hg, Option.bind_some] at h
  split at h
  · rename_i c e fr hb
    cases h
    exact ⟨e, fr, hb⟩
  · cases h
theorem tables_of_laid {W : World} (h : laidMetH Tryd.prog laid2 W) : Ev.GlobIn tables W := by
  rw [MakeChecks.laidMetH_plain _ _ _ (by kernel_rfl)] at h
  obtain ⟨ps, ⟨g0, t0, cs0, f0, p0, q0, hg0, ht0, hv0, hd0, ⟨g1, t1, cs1, f1, p1, q1, hg1, ht1, hv1, hd1, _, _⟩, _⟩, _, _⟩ := h
  obtain rfl := Option.some.inj (gOuts.symm.trans hg0)
  obtain rfl := Option.some.inj (gNothing.symm.trans hg1)
  obtain rfl := Option.some.inj (tOuts.symm.trans ht0)
  obtain rfl := Option.some.inj (tNothing.symm.trans ht1)
  have k0 : cs0.toList = outs.map (Value.int .i64) := Lib.cells_of_tab u205 Tryd.underlying3 c3 c205 hd0
  have k1 : cs1.toList = nothing.map (Value.int .i64) := Lib.cells_of_tab u167 Tryd.underlying3 c3 c167 hd1
  obtain ⟨e0, r0, b0⟩ := var_block gOuts hv0
  obtain ⟨e1, r1, b1⟩ := var_block gNothing hv1
  refine Ev.globs_in fun g l hm => ?_
  simp only [List.mem_cons, Prod.mk.injEq, List.not_mem_nil, or_false] at hm
  rcases hm with ⟨rfl, rfl⟩ | ⟨rfl, rfl⟩
  · refine ⟨by decide, by decide, fun v hv => ?_, _, _, _, b0, fun i v hv => ?_⟩
    · obtain ⟨z, _, rfl⟩ := List.mem_map.1 hv; rfl
    · rw [← k0] at hv; simpa using hv
  · refine ⟨by decide, by decide, fun v hv => ?_, _, _, _, b1, fun i v hv => ?_⟩
    · obtain ⟨z, _, rfl⟩ := List.mem_map.1 hv; rfl
    · rw [← k1] at hv; simpa using hv
/-- The heap that start-up leaves meets the condition. -/
theorem door_met (os : Os) (args : Array Value) : laidMetH Tryd.prog laid2 ((World.doorLaid Tryd.prog 19 os).forCall (fun _ _ => 0) ⟨#[], args, []⟩).memory :=
  laidMetH_of_parts3 (fuel := 8) (laidMet_of_run' 8 (by kernel_rfl) (by kernel_rfl)) (by kernel_rfl) (by kernel_rfl)
end Go.Proofs.YtlkcpnhepadenaaDoor.Lf
