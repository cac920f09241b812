/- Rows of rows of ints; the drawn region that makes a run. Over this seat's program. (mk_Vf.py wrote this.) -/
import Derived.Test.YtimjmofkofjcoaaGreatVe
namespace Go.Proofs.YtimjmofkofjcoaaGreat
set_option linter.unusedVariables false
open Go.RowKit Go.Shelf

theorem ownsC {A A' : World} {base t m k : Nat} {v : Value} {cs : List Value} (h : A.ownsRow base t m v k cs) (hb : ∀ g, v.ownBlock = some g → A'.heap[g]? = A.heap[g]?) : A'.ownsRow base t m v k cs := by
  refine ⟨h.1, ?_⟩
  rcases h.2 with q | ⟨g, cap, cur, rfl, h1, h2, h3⟩
  · exact .inl q
  · exact .inr ⟨g, cap, cur, rfl, h1, (hb g rfl).trans h2, h3⟩
theorem info26 : (Tryz.prog.info? 26).map (fun i => (i.zero, i.size, i.bytes)) = some (some (.slice none 0 0), 1, 24) := by kernel_rfl
theorem eltI : ElT Tryz.prog 26 3 1 8 := by
  obtain ⟨i, h1, h2, h3, h4⟩ := info_parts info3
  exact ⟨Tryz.underlying26, ⟨i, _, h1, h2, h3, h4, rfl⟩, by decide⟩
theorem eltR : ElT Tryz.prog 44 26 1 24 := by
  obtain ⟨i, h1, h2, h3, h4⟩ := info_parts info26
  exact ⟨Tryz.underlying44, ⟨i, _, h1, h2, h3, h4, rfl⟩, by decide⟩
/-- Rows of ints, each in memory of its own, and a row of them. -/
structure RrAt (H : Nat) (vs : List Value) (L : List (List Int)) (v : Value) (W : World) : Prop where
  len : vs.length = L.length
  row : W.ownsRow H 26 1 v L.length vs
  own : ∀ (i : Nat) (u : Value) (x : List Int), vs[i]? = some u → L[i]? = some x → W.ownsRow H 3 1 u x.length (iCs x) ∧ ∀ g, u.ownBlock = some g → v.ownBlock ≠ some g
theorem RrAt.below {H : Nat} {vs : List Value} {L : List (List Int)} {v : Value} {W W' : World} (h : RrAt H vs L v W) (hb : Below W.heap.size W W') : RrAt H vs L v W' :=
  ⟨h.len, ownsBelow h.row hb, fun i u x h1 h2 => ⟨ownsBelow (h.own i u x h1 h2).1 hb, (h.own i u x h1 h2).2⟩⟩
theorem RrAt.mono {H B : Nat} {vs : List Value} {L : List (List Int)} {v : Value} {W : World} (h : RrAt B vs L v W) (hB : H ≤ B) : RrAt H vs L v W :=
  ⟨h.len, ownsMono h.row hB, fun i u x h1 h2 => ⟨ownsMono (h.own i u x h1 h2).1 hB, (h.own i u x h1 h2).2⟩⟩
theorem RrAt.nil (H : Nat) (W : World) : RrAt H [] [] (.slice none 0 0) W := ⟨rfl, World.ownsRow_nil _ _ _ _, fun i u x h => by simp at h⟩
theorem RrAt.one (w : World) : RrAt w.heap.size [.slice none 0 0] [[]] (.slice (some ⟨w.heap.size, 0, none⟩) 1 1) (w.alloc (.cells #[.slice none 0 0] 26)) := by
  refine ⟨rfl, ⟨rfl, .inr ⟨w.heap.size, 1, #[.slice none 0 0], rfl, Nat.le_refl _, alloc_new_at _ _ _ rfl, Nat.le_refl _, by unfold maxLen; omega, rfl, rfl⟩⟩, fun i u x h1 h2 => ?_⟩
  cases i with
  | succ i => simp at h1
  | zero =>
    simp at h1 h2; subst h1 h2
    exact ⟨World.ownsRow_nil _ _ _ _, fun g hg => by cases hg⟩
/-- A row is appended. -/
theorem RrAt.next {H : Nat} {vs : List Value} {L : List (List Int)} {v v' u : Value} {W W' : World} {x : List Int} (h : RrAt H vs L v W)
    (hr : W'.ownsRow H 26 1 v' (L.length + 1) (vs ++ [u])) (hu : W'.ownsRow H 3 1 u x.length (iCs x)) (hune : ∀ g, u.ownBlock = some g → v'.ownBlock ≠ some g)
    (ho : ∀ b, b < W.heap.size → v.ownBlock ≠ some b → W'.heap[b]? = W.heap[b]?)
    (hw : v'.ownBlock = v.ownBlock ∨ ∃ g, v'.ownBlock = some g ∧ W.heap.size ≤ g) : RrAt H (vs ++ [u]) (L ++ [x]) v' W' := by
  refine ⟨by simp [h.len], by simpa using hr, fun i q t hq ht => ?_⟩
  rcases Nat.lt_or_ge i L.length with hi | hi
  · rw [List.getElem?_append_left (by rw [h.len]; exact hi)] at hq
    rw [List.getElem?_append_left hi] at ht
    obtain ⟨h1, h2⟩ := h.own i q t hq ht
    refine ⟨ownsC h1 fun g hg => ho g (h1.lt g hg).2 (h2 g hg), fun g hg => ?_⟩
    rcases hw with e | ⟨g', e, hg'⟩
    · rw [e]; exact h2 g hg
    · rw [e]; intro e2; cases e2; have := (h1.lt _ hg).2; omega
  · have hin : i = L.length := by have := (List.getElem?_eq_some_iff.1 ht).1; simp at this; omega
    subst hin
    rw [List.getElem?_append_right (by rw [h.len]; exact Nat.le_refl _), h.len] at hq
    rw [List.getElem?_append_right (Nat.le_refl _)] at ht
    simp at hq ht
    subst hq ht
    exact ⟨hu, hune⟩
/-- A row that was made meanwhile is appended. -/
theorem RrAt.push {H : Nat} {vs : List Value} {L : List (List Int)} {v v' u : Value} {W3 W W8 : World} {y : List Int} {o : Obj} (h : RrAt H vs L v W3) (hH : H ≤ W3.heap.size) (hb : Below W3.heap.size W3 W)
    (hy : W.ownsRow W3.heap.size 3 1 u y.length (iCs y)) (hown : W8.ownsRow H 26 1 v' (L.length + 1) (vs ++ [u])) (hg : (W.alloc o).grownBy W8 v.ownBlock)
    (hwh : v'.ownBlock = v.ownBlock ∨ v'.ownBlock = some (W.alloc o).heap.size) : RrAt H (vs ++ [u]) (L ++ [y]) v' W8 ∧ Below H W3 W8 := by
  have hz := hb.size
  have hsz : (W.alloc o).heap.size = W.heap.size + 1 := World.size_alloc _ _
  have old : ∀ b, b < W.heap.size → v.ownBlock ≠ some b → W8.heap[b]? = W.heap[b]? := fun b hb1 hn => (hg.block b (by omega) (fun e => hn e.symm)).trans (Below.heap_alloc _ _ _ hb1)
  have hvl : ∀ g, v.ownBlock = some g → g < W3.heap.size := fun g hg => (h.row.lt g hg).2
  refine ⟨(h.below hb).next hown (ownsMono (ownsC hy fun g hgu => old g (hy.lt g hgu).2 fun e => ?_) hH) (fun g hgu e => ?_) old ?_, ?_⟩
  · have := hvl g e; have := (hy.lt g hgu).1; omega
  · have h1 := hy.lt g hgu
    rcases hwh with q | q
    · rw [q] at e; have := hvl g e; omega
    · rw [q] at e; cases e; omega
  · rcases hwh with q | q
    · exact .inl q
    · exact .inr ⟨_, q, by omega⟩
  · have hs8 := hg.size
    refine (hb.mono hH).trans ⟨hg.os, hg.tape, hg.output, by omega, fun b hb1 => ?_⟩
    exact old b (by omega) fun e => by have := (h.row.lt b e).1; omega
/-- What holds in the region that makes a run: a copy of a row with one number more. -/
structure RnR (W0 : World) (X : List Int) (z : Int) (Kv : Nat → Value) (L : Array Bool) (val : Nat → Value) (W : World) : Prop where
  known : ∀ j, [0, 5, 10, 11, 12].contains j = false → L.getD j false = true → val j = Kv j
  bel : Below W0.heap.size W0 W
  m0 : L.getD 0 false = true → L.getD 5 false = false → ∃ g, val 0 = .slice (some ⟨g, 0, none⟩) 0 0 ∧ W0.heap.size ≤ g ∧ W.heap[g]? = some (.cells #[] 3)
  m5 : L.getD 5 false = true → L.getD 11 false = false → W.ownsRow W0.heap.size 3 1 (val 5) X.length (iCs X)
  m10 : L.getD 10 false = true → L.getD 11 false = false → ∃ g, val 10 = .slice (some ⟨g, 0, none⟩) 1 1 ∧ W.heap[g]? = some (.cells #[.int .i64 z] 3)
  m11 : L.getD 11 false = true → W.ownsRow W0.heap.size 3 1 (val 11) (X.length + 1) (iCs X ++ [.int .i64 z])
  e12 : L.getD 12 false = true → val 12 = val 11
  p5 : L.getD 5 false = true → L.getD 0 false = true
  p11 : L.getD 11 false = true → L.getD 5 false = true
  q11 : L.getD 11 false = true → L.getD 10 false = true
  p12 : L.getD 12 false = true → L.getD 11 false = true
section
variable {W0 W : World} {X : List Int} {z : Int} {Kv : Nat → Value} {L : Array Bool} {val : Nat → Value}
theorem RnR.init (N : Nat) : RnR W0 X z Kv (Array.replicate N false) (fun _ => undef) { W0 with drawn := W0.drawn + 1 } := by
  have y : ∀ j, (Array.replicate N false).getD j false = true → False := fun j h => by
    simp [Array.getD_eq_getD_getElem?, Array.getElem?_replicate] at h
    split at h <;> simp_all
  exact ⟨fun j _ h => (y _ h).elim, ⟨rfl, rfl, rfl, Nat.le_refl _, fun _ _ => rfl⟩, fun h => (y _ h).elim, fun h => (y _ h).elim, fun h => (y _ h).elim, fun h => (y _ h).elim, fun h => (y _ h).elim, fun h => (y _ h).elim, fun h => (y _ h).elim, fun h => (y _ h).elim, fun h => (y _ h).elim⟩
theorem RnR.skip (h : RnR W0 X z Kv L val W) (i : Nat) (hi : [0, 5, 10, 11, 12].contains i = false) (u : Value) (hu : u = Kv i) :
    RnR W0 X z Kv (L.setIfInBounds i true) (setV val i u) W := by
  obtain ⟨n0, n5, n10, n11, n12⟩ : 0 ≠ i ∧ 5 ≠ i ∧ 10 ≠ i ∧ 11 ≠ i ∧ 12 ≠ i := by
    refine ⟨?_, ?_, ?_, ?_, ?_⟩ <;> (rintro rfl; simp at hi)
  refine ⟨fun j hj hl => ?_, h.bel, ?_, ?_, ?_, ?_, ?_, ?_, ?_, ?_, ?_⟩
  · by_cases e : j = i
    · subst e; rw [setV_eq]; exact hu
    · rw [setV_ne e]; exact h.known j hj (by rwa [gdD e] at hl)
  · rw [gdD n0, gdD n5, setV_ne n0]; exact h.m0
  · rw [gdD n5, gdD n11, setV_ne n5]; exact h.m5
  · rw [gdD n10, gdD n11, setV_ne n10]; exact h.m10
  · rw [gdD n11, setV_ne n11]; exact h.m11
  · rw [gdD n12, setV_ne n12, setV_ne n11]; exact h.e12
  · rw [gdD n5, gdD n0]; exact h.p5
  · rw [gdD n11, gdD n5]; exact h.p11
  · rw [gdD n11, gdD n10]; exact h.q11
  · rw [gdD n12, gdD n11]; exact h.p12
theorem RnR.zero (h : RnR W0 X z Kv L val W) (hs : 12 < L.size) (f0 : L.getD 0 false = false) :
    RnR W0 X z Kv (L.setIfInBounds 0 true) (setV val 0 (.slice (some ⟨W.heap.size, 0, none⟩) 0 0)) (W.alloc (.cells #[] 3)) := by
  have f5 := not_of h.p5 f0
  have f11 := not_of h.p11 f5
  have f12 := not_of h.p12 f11
  have hz := h.bel.size
  have old : ∀ b, b < W.heap.size → (W.alloc (.cells #[] 3)).heap[b]? = W.heap[b]? := fun b hb => Below.heap_alloc _ _ _ hb
  refine ⟨fun j hj hl => ?_, h.bel.alloc hz _, fun _ _ => ?_, ?_, ?_, ?_, ?_, ?_, ?_, ?_, ?_⟩
  · have e : j ≠ 0 := by rintro rfl; simp at hj
    rw [setV_ne e]; exact h.known j hj (by rwa [gdD e] at hl)
  · rw [setV_eq]; exact ⟨_, rfl, hz, alloc_new_at _ _ _ rfl⟩
  · rw [gdD (by decide), f5]; intro hh; cases hh
  · rw [gdD (by decide), gdD (by decide), setV_ne (by decide)]
    intro l10 l11
    obtain ⟨g, e, c⟩ := h.m10 l10 l11
    exact ⟨g, e, (old g (lt_of_block c)).trans c⟩
  · rw [gdD (by decide), f11]; intro hh; cases hh
  · rw [gdD (by decide), f12]; intro hh; cases hh
  · rw [gdD (by decide), f5]; intro hh; cases hh
  · rw [gdD (by decide), f11]; intro hh; cases hh
  · rw [gdD (by decide), f11]; intro hh; cases hh
  · rw [gdD (by decide), f12]; intro hh; cases hh
theorem RnR.five (h : RnR W0 X z Kv L val W) (hs : 12 < L.size) (f5 : L.getD 5 false = false) (l0 : L.getD 0 false = true) (sa : Option Addr) (n c B : Nat) (hn : n = X.length) (hnl : n ≤ 100000) (hk : W.ownsRow B 3 1 (.slice sa n c) X.length (iCs X)) (ty : TypeId) :
    ∃ v' W', (Builtin.append_ #[26, 26] ty #[val 0, .slice sa n c]).run Tryz.prog W = .ok v' W' ∧ RnR W0 X z Kv (L.setIfInBounds 5 true) (setV val 5 v') W' := by
  have f11 := not_of h.p11 f5
  have f12 := not_of h.p12 f11
  have hz := h.bel.size
  obtain ⟨g, eg, hg1, hg2⟩ := h.m0 l0 f5
  have hown : W.ownsRow W0.heap.size 3 1 (.slice (some ⟨g, 0, none⟩) 0 0) 0 [] := ⟨rfl, .inr ⟨g, 0, #[], rfl, hg1, hg2, Nat.le_refl _, by unfold maxLen; omega, rfl, rfl⟩⟩
  obtain ⟨i0, hi, hz0, hzz1, hzz2⟩ := info_parts info3
  have key : ∃ v' W', (Builtin.append_ #[26, 26] ty #[.slice (some ⟨g, 0, none⟩) 0 0, .slice sa n c]).run Tryz.prog W = .ok v' W' ∧ W'.ownsRow W0.heap.size 3 1 v' X.length (iCs X) ∧ W.grownBy W' (some g) := by
    rcases hk.2 with ⟨e, e2⟩ | ⟨ad, cap, cur, e, _⟩
    · cases e
      have : X = [] := List.eq_nil_of_length_eq_zero e2
      subst this
      exact ⟨_, _, run_append_owned_none (P := Tryz.prog) W W0.heap.size 26 ty 3 i0 1 Tryz.underlying26 hi _ 0 [] hown, hown, ⟨rfl, rfl, rfl, Nat.le_refl _, fun _ _ _ => rfl⟩⟩
    · cases e
      obtain ⟨v', W', r1, r2, r3, _⟩ := run_append_own (P := Tryz.prog) W W0.heap.size 26 ty 3 i0 (.int .i64 0) 1 8 Tryz.underlying26 hi hz0 hzz1 hzz2 rfl (by decide) (.slice (some ⟨g, 0, none⟩) 0 0) 0 [] hown ⟨ad, 0, none⟩ X.length c (iCs X) (by simp [iCs]) (hk.cells (g := ad) rfl) (fun u hu => by simp only [iCs, List.mem_map] at hu; obtain ⟨y, _, rfl⟩ := hu; simp [Value.oneCell']) (by unfold maxLen; omega) (by omega) hz
      refine ⟨v', W', r1, ?_, r3⟩
      simpa using r2
  obtain ⟨v', W', hr, ho', hgr⟩ := key
  rw [eg]
  have hb : Below W0.heap.size W W' := ⟨hgr.os, hgr.tape, hgr.output, hgr.size, fun b hb => hgr.block b (by omega) fun e => by cases e; omega⟩
  refine ⟨v', W', hr, fun j hj hl => ?_, h.bel.trans hb, ?_, fun _ _ => ?_, ?_, ?_, ?_, fun _ => ?_, ?_, ?_, ?_⟩
  · have e : j ≠ 5 := by rintro rfl; simp at hj
    rw [setV_ne e]; exact h.known j hj (by rwa [gdD e] at hl)
  · intro _; rw [getD_set_eq3 (by omega)]; intro hh; cases hh
  · rw [setV_eq]; exact ho'
  · rw [gdD (by decide), gdD (by decide), setV_ne (by decide)]
    intro l10 l11
    obtain ⟨q, e, cq⟩ := h.m10 l10 l11
    refine ⟨q, e, (hgr.block q (lt_of_block cq) fun eq => ?_).trans cq⟩
    cases eq
    rw [hg2] at cq; simp at cq
  · rw [gdD (by decide), f11]; intro hh; cases hh
  · rw [gdD (by decide), f12]; intro hh; cases hh
  · rw [gdD (by decide)]; exact l0
  · rw [gdD (by decide), f11]; intro hh; cases hh
  · rw [gdD (by decide), f11]; intro hh; cases hh
  · rw [gdD (by decide), f12]; intro hh; cases hh
theorem RnR.ten (h : RnR W0 X z Kv L val W) (hs : 12 < L.size) (f10 : L.getD 10 false = false) :
    RnR W0 X z Kv (L.setIfInBounds 10 true) (setV val 10 (.slice (some ⟨W.heap.size, 0, none⟩) 1 1)) (W.alloc (.cells #[.int .i64 z] 3)) := by
  have f11 := not_of h.q11 f10
  have f12 := not_of h.p12 f11
  have hz := h.bel.size
  have old : ∀ b, b < W.heap.size → (W.alloc (.cells #[.int .i64 z] 3)).heap[b]? = W.heap[b]? := fun b hb => Below.heap_alloc _ _ _ hb
  refine ⟨fun j hj hl => ?_, h.bel.alloc hz _, ?_, ?_, fun _ _ => ?_, ?_, ?_, ?_, ?_, ?_, ?_⟩
  · have e : j ≠ 10 := by rintro rfl; simp at hj
    rw [setV_ne e]; exact h.known j hj (by rwa [gdD e] at hl)
  · rw [gdD (by decide), gdD (by decide), setV_ne (by decide)]
    intro l0 l5
    obtain ⟨g, e, e2, c⟩ := h.m0 l0 l5
    exact ⟨g, e, e2, (old g (lt_of_block c)).trans c⟩
  · rw [gdD (by decide), gdD (by decide), setV_ne (by decide)]
    intro l5 l11
    exact ownsC (h.m5 l5 l11) fun g hg => old g ((h.m5 l5 l11).lt g hg).2
  · rw [setV_eq]; exact ⟨_, rfl, alloc_new_at _ _ _ rfl⟩
  · rw [gdD (by decide), f11]; intro hh; cases hh
  · rw [gdD (by decide), f12]; intro hh; cases hh
  · rw [gdD (by decide), gdD (by decide)]; exact h.p5
  · rw [gdD (by decide), f11]; intro hh; cases hh
  · rw [gdD (by decide), f11]; intro hh; cases hh
  · rw [gdD (by decide), f12]; intro hh; cases hh
theorem RnR.app (h : RnR W0 X z Kv L val W) (hs : 12 < L.size) (f11 : L.getD 11 false = false) (l5 : L.getD 5 false = true) (l10 : L.getD 10 false = true) (hX : X.length ≤ 1000000) (ty : TypeId) :
    ∃ v' W', (Builtin.append_ #[26, 26] ty #[val 5, val 10]).run Tryz.prog W = .ok v' W' ∧ RnR W0 X z Kv (L.setIfInBounds 11 true) (setV val 11 v') W' := by
  have f12 := not_of h.p12 f11
  have l0 := h.p5 l5
  have hz := h.bel.size
  obtain ⟨g, e10, c10⟩ := h.m10 l10 f11
  have ho := h.m5 l5 f11
  obtain ⟨v', W', r1, r2, r3, _⟩ := eltI.run ho hX (by decide) (cx := [.int .i64 z]) (by simpa using c10) rfl (by simp [Value.oneCell']) hz ty
  rw [e10]
  have hb : Below W0.heap.size W W' := ⟨r3.os, r3.tape, r3.output, r3.size, fun b hb => r3.block b (by omega) fun e => by have := (ho.lt b e.symm).1; omega⟩
  refine ⟨v', W', r1, fun j hj hl => ?_, h.bel.trans hb, ?_, ?_, ?_, fun _ => ?_, ?_, ?_, fun _ => ?_, fun _ => ?_, ?_⟩
  · have e : j ≠ 11 := by rintro rfl; simp at hj
    rw [setV_ne e]; exact h.known j hj (by rwa [gdD e] at hl)
  · rw [gdD (by decide), gdD (by decide), l5]; intro _ hh; cases hh
  · intro _; rw [getD_set_eq3 (by omega)]; intro hh; cases hh
  · intro _; rw [getD_set_eq3 (by omega)]; intro hh; cases hh
  · rw [setV_eq]; exact r2
  · rw [gdD (by decide), f12]; intro hh; cases hh
  · rw [gdD (by decide), gdD (by decide)]; exact h.p5
  · rw [gdD (by decide)]; exact l5
  · rw [gdD (by decide)]; exact l10
  · rw [gdD (by decide), f12]; intro hh; cases hh
theorem RnR.asg (h : RnR W0 X z Kv L val W) (hs : 12 < L.size) (l11 : L.getD 11 false = true) :
    RnR W0 X z Kv (L.setIfInBounds 12 true) (setV val 12 (val 11)) W := by
  refine ⟨fun j hj hl => ?_, h.bel, ?_, ?_, ?_, ?_, fun _ => ?_, ?_, ?_, ?_, fun _ => ?_⟩
  · have e : j ≠ 12 := by rintro rfl; simp at hj
    rw [setV_ne e]; exact h.known j hj (by rwa [gdD e] at hl)
  · rw [gdD (by decide), gdD (by decide), setV_ne (by decide)]; exact h.m0
  · rw [gdD (by decide), gdD (by decide), setV_ne (by decide)]; exact h.m5
  · rw [gdD (by decide), gdD (by decide), setV_ne (by decide)]; exact h.m10
  · rw [gdD (by decide), setV_ne (by decide)]; exact h.m11
  · rw [setV_eq, setV_ne (by decide)]
  · rw [gdD (by decide), gdD (by decide)]; exact h.p5
  · rw [gdD (by decide), gdD (by decide)]; exact h.p11
  · rw [gdD (by decide), gdD (by decide)]; exact h.q11
  · rw [gdD (by decide)]; exact l11
end
end Go.Proofs.YtimjmofkofjcoaaGreat
