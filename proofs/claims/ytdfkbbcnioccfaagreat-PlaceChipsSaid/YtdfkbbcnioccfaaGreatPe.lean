/- Chips as arguments; the law's own copy of a chip. Over this seat's program. -/
import Derived.Test.YtdfkbbcnioccfaaGreatPd
import Derived.OpenShut
import Derived.ProofKit
import Derived.ChangeSlices
import Derived.WideShapes
namespace Go.Proofs.YtdfkbbcnioccfaaGreat
set_option linter.unusedVariables false
open Go.RowKit Go.ChangeShapes Go.WideShapes Go.ChangeAt

set_option maxHeartbeats 1000000 in
theorem ref_any (Wd Hg R N S E B : Int) (sa : Option Addr) (n cap : Nat) (w : World) :
    Calls Tryz.prog 17 #[chipV Wd Hg R N S E B (.slice sa n cap)] w fun e w' => e = .returned (chipV Wd Hg R N S E B (.slice sa n cap)) ∧ Below w.heap.size w w' := by
  unfold chipV
  go_enter Tryz.func17, Tryz.ntmps17
  go_wp2
  have hB : Below w.heap.size w ((w.alloc (.cells #[.int .i64 Wd, .int .i64 Hg, .int .i64 R, .int .i64 N, .int .i64 S, .int .i64 E, .int .i64 B, .slice sa n cap] 26)).alloc (.cells #[.int .i64 Wd, .int .i64 Hg, .int .i64 R, .int .i64 N, .int .i64 S, .int .i64 E, .int .i64 B, .slice sa n cap] 33)) := ((Below.refl _ _).alloc (Nat.le_refl _) _).alloc (by simp) _
  have hn : ((w.alloc (.cells #[.int .i64 Wd, .int .i64 Hg, .int .i64 R, .int .i64 N, .int .i64 S, .int .i64 E, .int .i64 B, .slice sa n cap] 26)).alloc (.cells #[.int .i64 Wd, .int .i64 Hg, .int .i64 R, .int .i64 N, .int .i64 S, .int .i64 E, .int .i64 B, .slice sa n cap] 33)).heap[w.heap.size + 1]? = some (.cells #[.int .i64 Wd, .int .i64 Hg, .int .i64 R, .int .i64 N, .int .i64 S, .int .i64 E, .int .i64 B, .slice sa n cap] 33) := alloc_new_at _ _ _ (by simp)
  generalize (w.alloc (.cells #[.int .i64 Wd, .int .i64 Hg, .int .i64 R, .int .i64 N, .int .i64 S, .int .i64 E, .int .i64 B, .slice sa n cap] 26)).alloc (.cells #[.int .i64 Wd, .int .i64 Hg, .int .i64 R, .int .i64 N, .int .i64 S, .int .i64 E, .int .i64 B, .slice sa n cap] 33) = W5 at *
  obtain ⟨d0, d1, d2, d3, d4, d5, d6, d7⟩ := cells8 hn
  exact bodyPost_ret (v := .agg #[.int .i64 Wd, .int .i64 Hg, .int .i64 R, .int .i64 N, .int .i64 S, .int .i64 E, .int .i64 B, .slice sa n cap]) (by simp [results, Tryz.results17, go_sem, d0, d1, d2, d3, d4, d5, d6, d7]) rfl ⟨rfl, hB⟩

section
variable {H : Type} {enc : TypeId × Value → H} {w : World} {base : Nat} {held : Bool}
section
variable {P : Program}
theorem has_lt {r : Reach} {b0 e n : Nat} {a : Addr} (h : w.has P r b0 a e n) : a.spot = none ∧ a.block < w.heap.size := by
  obtain ⟨_, hs, row, cells, hsh, _⟩ := h
  refine ⟨hs, ?_⟩
  unfold World.shape? at hsh
  cases hb : w.heap[a.block]? with
  | none => simp [hb] at hsh
  | some o => exact (Array.getElem?_eq_some_iff.mp hb).1
theorem cellOkWide_slice {r : Reach} {b0 t e : Nat} {v : Value} (ht : P.underlying t = some (.slice e)) (hv : Cell.okWide P w r b0 t v) : v = .slice none 0 0 ∨ ∃ b off n cap, v = .slice (some ⟨b, off, none⟩) n cap ∧ b < w.heap.size := by
  simp only [Cell.okWide, ht] at hv
  cases v <;> simp [Cell.ok, ht] at hv
  rename_i a n cap
  cases a with
  | none =>
    left
    cases n <;> cases cap <;> simp_all
  | some a =>
    right
    obtain ⟨_, _, hh⟩ := hv
    obtain ⟨hs, hl⟩ := has_lt hh
    obtain ⟨b, off, sp⟩ := a
    obtain rfl : sp = none := hs
    exact ⟨b, off, n, cap, rfl, hl⟩
end
set_option maxRecDepth 100000 in
theorem open_dead {r : Reach} {b0 fuel : Nat} {v : Value} {x : DataW H × List MemPlace} (hv : Cell.okWide Tryz.prog w r b0 24 v) (h : DataW.trod enc Tryz.prog w base (fun _ => true) held fuel 24 [v] = some x) :
    ∃ zs, DeadAt w v zs := by
  rcases cellOkWide_slice Tryz.underlying24 hv with rfl | ⟨b, off, n, cap, rfl, hl⟩
  · exact ⟨[], none, 0, 0, 0, rfl, fun h => by simp at h, by simp, fun j hj => by simp at hj⟩
  · rcases open_ints Tryz.underlying24 Tryz.underlying3 (by kernel_rfl) h with ⟨h0, _⟩ | ⟨a', len, cap', zs, h1, _, hle, hm, hz, _, hcell, hwf⟩
    · simp at h0
    · simp at h1
      obtain ⟨rfl, rfl, rfl⟩ := h1
      simp at hz
      have hlen : (zs.take n).length = n := by simp; omega
      refine ⟨zs.take n, some ⟨b, off, none⟩, b, off, cap, by rw [hlen], fun _ => rfl, by rw [hlen]; exact hle, fun j hj => ⟨?_, hl⟩⟩
      rw [hlen] at hj
      have := hcell j (by omega)
      rw [List.getElem?_take_of_lt hj, ← List.getD_eq_getElem?_getD, ← this]
      congr 1
      unfold Addr.add
      split <;> simp_all
set_option maxRecDepth 100000 in
/-- A chip by value. -/
theorem open_chip {r : Reach} {b0 : Nat} {v : Value} {d : DataW H} {p : List MemPlace} (hv : Value.okWide Tryz.prog w r b0 26 v) (h : DataW.Trod enc Tryz.prog w base (fun _ => true) held 26 v d p) :
    ∃ Wd Hg R N S E B D zs, v = chipV Wd Hg R N S E B D ∧ DeadAt w D zs := by
  have hv' := hv
  simp only [Value.okWide, Tryz.underlying26] at hv'
  obtain ⟨cs, rfl, hsz, ts, hts, _, hrow⟩ := hv'
  have hts' : Tryz.prog.cellTypes Tryz.prog.depth 26 = some [3, 3, 3, 3, 3, 3, 3, 24] := by kernel_rfl
  rw [hts'] at hts
  cases hts
  have hc : Tryz.prog.cellsOf 26 = 8 := by kernel_rfl
  rw [hc] at hsz
  obtain ⟨cl⟩ := cs
  match cl, hsz with
  | [v0, v1, v2, v3, v4, v5, v6, v7], _ =>
    have hi : ∀ (i : Nat) (u : Value), i < 7 → [v0, v1, v2, v3, v4, v5, v6, v7][i]? = some u → ∃ z, u = .int .i64 z := by
      intro i u hi hu
      obtain ⟨t, e, k⟩ := hrow i u (by simpa using hu)
      have : t = 3 := by
        match i, hi with
        | 0, _ | 1, _ | 2, _ | 3, _ | 4, _ | 5, _ | 6, _ => simpa using e.symm
      subst this
      exact okWide_int Tryz.underlying3 (by simpa only [Value.okWide, Tryz.underlying3] using k)
    obtain ⟨a0, rfl⟩ := hi 0 v0 (by omega) rfl
    obtain ⟨a1, rfl⟩ := hi 1 v1 (by omega) rfl
    obtain ⟨a2, rfl⟩ := hi 2 v2 (by omega) rfl
    obtain ⟨a3, rfl⟩ := hi 3 v3 (by omega) rfl
    obtain ⟨a4, rfl⟩ := hi 4 v4 (by omega) rfl
    obtain ⟨a5, rfl⟩ := hi 5 v5 (by omega) rfl
    obtain ⟨a6, rfl⟩ := hi 6 v6 (by omega) rfl
    obtain ⟨u7, e7, k7⟩ := hrow 7 v7 rfl
    obtain rfl : 24 = u7 := by simpa using e7
    obtain ⟨fuel, hfu⟩ := h
    obtain ⟨xs, g, _, _, hcl, hxl, hg⟩ := DataW.trod_struct Tryz.underlying26 hfu
    have hxl' : xs.length = 6 := hxl
    match xs, hxl' with
    | [x0, x1, x2, x3, x4, x5], _ =>
      have g5 := hg 5 _ rfl
      simp [Value.cells, show Tryz.prog.cellsOf 24 = 1 from by kernel_rfl] at g5
      obtain ⟨zs, hs⟩ := open_dead k7 g5
      exact ⟨a0, a1, a2, a3, a4, a5, a6, v7, zs, rfl, hs⟩
end
end Go.Proofs.YtdfkbbcnioccfaaGreat
