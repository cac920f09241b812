/- Barriers: slices of ints; slices.Clone. Over this seat's program. -/
import Derived.Test.YtlkcpnhepadenaaDoorBb
import Derived.OwnWalkIn
import Derived.Laws.MakeOwn
import Derived.Laws.OwnMore
namespace Go.Proofs.YtlkcpnhepadenaaDoor
set_option linter.unusedVariables false
open Go.RowKit

/-- The slice value sv reads as the ints zs. -/
def IntsAt (W : World) (sv : Value) (zs : List Int) : Prop :=
  (sv = .slice none 0 0 ∧ zs = []) ∨ ∃ b off cap, sv = .slice (some ⟨b, off, none⟩) zs.length cap ∧ ∀ j, j < zs.length → W.cell? ⟨b, off + j, none⟩ = some (.int .i64 (zs[j]?.getD 0))
theorem IntsAt.below {w W : World} {sv : Value} {zs : List Int} (h : IntsAt w sv zs) (hb : Below w.heap.size w W) : IntsAt W sv zs := by
  rcases h with h | ⟨b, off, cap, e, hc⟩
  · exact Or.inl h
  · exact Or.inr ⟨b, off, cap, e, fun j hj => (hb.cell (p := ⟨b, off + j, none⟩) (World.block_lt_of_cell? w _ (hc j hj))).trans (hc j hj)⟩
theorem IntsAt.len {W : World} {sv : Value} {zs : List Int} (h : IntsAt W sv zs) : ∃ a cap, sv = .slice a zs.length cap := by
  rcases h with ⟨rfl, rfl⟩ | ⟨b, off, cap, rfl, _⟩
  · exact ⟨none, 0, rfl⟩
  · exact ⟨_, cap, rfl⟩
theorem intsAt_cell {W : World} {a : Option Addr} {n cap : Nat} {zs : List Int} (h : IntsAt W (.slice a n cap) zs) (k : Nat) (hk : k < zs.length) : ∃ b off, a = some ⟨b, off, none⟩ ∧ W.cell? ⟨b, off + k, none⟩ = some (.int .i64 (zs[k]?.getD 0)) := by
  rcases h with ⟨_, rfl⟩ | ⟨b, off, cap', e, hc⟩
  · simp at hk
  · cases e; exact ⟨b, off, rfl, hc k hk⟩
theorem intsAt_of_owns {W : World} {base : Nat} {v : Value} {L : List Int} (h : W.ownsRow base 3 1 v L.length (L.map (Value.int .i64))) : IntsAt W v L := by
  rcases h.2 with ⟨rfl, h0⟩ | ⟨g, cap, cur, rfl, hb, hg, _, _, _, ht⟩
  · exact Or.inl ⟨rfl, List.eq_nil_of_length_eq_zero h0⟩
  · refine Or.inr ⟨g, 0, cap, rfl, fun j hj => ?_⟩
    have := h.cells (g := g) rfl j (.int .i64 (L[j]?.getD 0)) (by simp [hj])
    have hadd : (⟨g, 0, none⟩ : Addr).add j = ⟨g, j, none⟩ := by unfold Addr.add; split <;> simp_all
    rw [hadd] at this
    rw [Nat.zero_add]; exact this
theorem Tryd.info3 : (Tryd.prog.info? 3).map (fun i => (i.zero, i.size, i.bytes)) = some (some (.int .i64 0), 1, 8) := by kernel_rfl

/-- Block g holds the numbers t 0 .. t (n - 1). -/
def TimesAt (W : World) (g n : Nat) (t : Nat → Int) : Prop :=
  ∃ cur : Array Value, W.heap[g]? = some (.cells cur 3) ∧ ∀ j, j < n → cur[j]? = some (.int .i64 (t j))
theorem TimesAt.cell {W : World} {g n j : Nat} {t : Nat → Int} (h : TimesAt W g n t) (hj : j < n) : W.cell? ⟨g, j, none⟩ = some (.int .i64 (t j)) ∧ W.frozen? ⟨g, j, none⟩ = false := by
  obtain ⟨cur, h1, h2⟩ := h
  have := h2 j hj
  simp [World.cell?, World.frozen?, h1, this]
theorem TimesAt.of_block {W W' : World} {g n : Nat} {t : Nat → Int} (h : TimesAt W g n t) (hb : W'.heap[g]? = W.heap[g]?) : TimesAt W' g n t := by
  obtain ⟨cur, h1, h2⟩ := h
  exact ⟨cur, hb.trans h1, h2⟩
theorem TimesAt.set {W : World} {g n j : Nat} {t t' : Nat → Int} {x : Int} (h : TimesAt W g n t) (hj : j < n) (ht : ∀ i, t' i = if i = j then x else t i) : TimesAt (W.setCell ⟨g, j, none⟩ (.int .i64 x)) g n t' := by
  obtain ⟨cur, h1, h2⟩ := h
  refine ⟨cur.setIfInBounds j (.int .i64 x), by simp [World.setCell, Array.getElem?_modify, h1], fun i hi => ?_⟩
  rw [ht]
  have hjs : j < cur.size := (Array.getElem?_eq_some_iff.1 (h2 j hj)).1
  by_cases e : i = j
  · subst e; simp [hjs]
  · rw [if_neg e, Array.getElem?_setIfInBounds_ne (by omega)]; exact h2 i hi
theorem TimesAt.ints {W : World} {g n cap : Nat} {t : Nat → Int} {L : List Int} (h : TimesAt W g n t) (hl : L.length = n) (hL : ∀ j, j < n → L[j]? = some (t j)) : IntsAt W (.slice (some ⟨g, 0, none⟩) L.length cap) L := by
  refine Or.inr ⟨g, 0, cap, rfl, fun j hj => ?_⟩
  rw [hl] at hj
  rw [Nat.zero_add, (h.cell hj).1, hL j hj]; rfl
theorem TimesAt.lt {W : World} {g n : Nat} {t : Nat → Int} (h : TimesAt W g n t) : g < W.heap.size := by
  obtain ⟨cur, h1, h2⟩ := h
  exact (Array.getElem?_eq_some_iff.1 h1).1

/-- What Clone leaves. -/
def Cloned (n : Nat) (zs : List Int) (w : World) (e : Ending) (w' : World) : Prop :=
  ∃ g c, e = .returned (.slice (some ⟨g, 0, none⟩) n c) ∧ w.heap.size ≤ g ∧ TimesAt w' g n (fun j => zs[j]?.getD 0) ∧ Below w.heap.size w w'
set_option maxHeartbeats 1000000 in
set_option maxRecDepth 100000 in
theorem clone_any (a : Option Addr) (n cap : Nat) (zs : List Int) (hn : n = zs.length) (h0 : 0 < n) (hl : n ≤ 80) (w : World) (hI : IntsAt w (.slice a n cap) zs) :
    Calls Tryd.prog 74 #[.slice a n cap] w (Cloned n zs w) := by
  obtain ⟨i0, hi, hz0, hzz1, hzz2⟩ := info_parts Tryd.info3
  obtain ⟨b, off, rfl, _⟩ := intsAt_cell hI 0 (by omega)
  have hc : ∀ j, j < n → w.cell? ⟨b, off + j, none⟩ = some (.int .i64 (zs[j]?.getD 0)) := fun j hj => by
    obtain ⟨b', off', e, h⟩ := intsAt_cell hI j (by omega)
    cases e; exact h
  have hbl : b < w.heap.size := World.block_lt_of_cell? w _ (hc 0 h0)
  have hnews : ∀ (j : Nat) u, (zs.map (Value.int .i64))[j]? = some u → (w.alloc (.cells #[] 3)).cell? ((⟨b, off, none⟩ : Addr).add j) = some u := fun j u hu => by
    have hj : j < n := by have := (List.getElem?_eq_some_iff.1 hu).1; simpa [hn] using this
    rw [show (⟨b, off, none⟩ : Addr).add j = ⟨b, off + j, none⟩ by unfold Addr.add; split <;> simp_all]
    rw [World.cell?_of_block (w := w) (Below.heap_alloc _ _ _ hbl), hc j hj]
    rw [List.getElem?_map] at hu
    cases hz : zs[j]? with
    | none => rw [hz] at hu; simp at hu
    | some z => rw [hz] at hu; simpa using hu
  have hone : ∀ u ∈ zs.map (Value.int .i64), u.oneCell' = true := fun u hu => by obtain ⟨z, _, rfl⟩ := List.mem_map.1 hu; rfl
  have hown : (w.alloc (.cells #[] 3)).ownsRow w.heap.size 3 1 (.slice (some ⟨w.heap.size, 0, none⟩) 0 0) 0 [] :=
    ⟨rfl, .inr ⟨w.heap.size, 0, #[], rfl, Nat.le_refl _, alloc_new_at _ _ _ rfl, Nat.le_refl _, by unfold maxLen; omega, rfl, rfl⟩⟩
  have HN := Lib.hid hnews
  have HO := Lib.hid hown
  have HE := Lib.hid hone
  have HL := Lib.hid hn
  clear hnews hown hc hone hn
  have heq : ∀ W, (binOp .eql 24 (.slice (some ⟨b, off, none⟩) n cap) (.slice none 0 0)).run Tryd.prog W = .ok (.bool false) W := fun W => by
    simp [binOp, run_equal_slice_nil W 24 3 _ _ _ Tryd.underlying24]
  go_enter Tryd.func74, Tryd.ntmps74
  go_wp2_with (at_builtin; refine wpList_append_own _ rfl _ _ 24 rfl w.heap.size 3 i0 (.int .i64 0) 1 8 Tryd.underlying24 hi hz0 hzz1 hzz2 rfl (by decide) (.slice (some ⟨w.heap.size, 0, none⟩) 0 0) 0 _ rfl HO.out ⟨b, off, none⟩ n cap (zs.map (Value.int .i64)) rfl (by simp [HL.out]) HN.out HE.out (by unfold maxLen; omega) (by omega) (by simp) ?_; intro v' w3 hown' hgrow _; have HO' := Lib.hid hown'; have HG := Lib.hid hgrow; clear hown' hgrow)
  go_ret
  have h1 := HO'.out
  have h2 := HG.out
  have hs := h2.size
  rw [World.size_alloc] at hs
  have hb : Below w.heap.size w w3 := ⟨h2.os, h2.tape, h2.output, by omega, fun k hk => by
    rw [h2.block k (by rw [World.size_alloc]; omega) (fun e => by simp [Value.ownBlock] at e; omega), Below.heap_alloc _ _ _ (by omega)]⟩
  rcases h1.2 with ⟨_, h3⟩ | ⟨g, cap', cur, rfl, hbg, hg, hnc, hcm, hcs, ht⟩
  · omega
  · refine ⟨g, cap', by simp, hbg, ⟨cur, hg, fun j hj => ?_⟩, hb⟩
    have h5 := HL.out
    have h6 : (cur.toList.take ((0 + n) * 1))[j]? = some (Value.int .i64 (zs[j]?.getD 0)) := by
      rw [ht]; simp; rw [List.getElem?_eq_getElem (by omega)]; rfl
    rw [List.getElem?_take] at h6
    rw [if_pos (by omega)] at h6
    simpa using h6
end Go.Proofs.YtlkcpnhepadenaaDoor
