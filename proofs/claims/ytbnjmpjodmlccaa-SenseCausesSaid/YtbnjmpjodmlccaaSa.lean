/- The base of the sense texts: ints, events, rows, what arguments read as. Over this seat's program. (mk_Sa.py wrote this.) -/
import Derived.Test.YtbnjmpjodmlccaaR
import Derived.Test.YtbnjmpjodmlccaaG
import Derived.Test.YtbnjmpjodmlccaaRows
import Derived.WalkKit
import Derived.WalkSpells
import Derived.Laws.EntriesVeiled
import Derived.WalkLawsBesides
import Derived.Deep.QuietTactic
import Derived.BigQuiet
import Derived.WalkSmall
import Derived.OwnWalk
import Derived.StillTailTactics
import Derived.LoopIn
import Derived.LoopNIn
import Derived.BigRegion
import Derived.TacticsInMore
import Derived.Deep.Cut
import Derived.Deep.RegionWith
import Derived.Deep.RegionHeld3
import Derived.OwnWalkIn
import Derived.Deep.DeepMust
import Derived.Lib.Hide
import Derived.Lib.SmallJoins
import Derived.OpenShut
import Derived.ProofKit
import Derived.ChangeSlices
import Derived.WideShapes
import Derived.Sort.CutIn
namespace Go.Proofs.Ytbnjmpjodmlccaa
set_option linter.unusedVariables false
open Go.RowKit Go.Shelf Go.ChangeShapes Go.WideShapes Go.ChangeAt

def inR (x a b : Int) : Bool := decide (a ≤ x) && decide (x ≤ b)
theorem alloc_new_at (W : World) (o : Obj) (k : Nat) (h : k = W.heap.size) : (W.alloc o).heap[k]? = some o := by subst h; exact heap_alloc_new W o
theorem bcell {W w1 : World} (hb : Below W.heap.size W w1) : (∀ b o, b < W.heap.size → w1.cell? ⟨b, o, none⟩ = W.cell? ⟨b, o, none⟩) ∧ (∀ b o, b < W.heap.size → w1.frozen? ⟨b, o, none⟩ = W.frozen? ⟨b, o, none⟩) :=
  ⟨fun b o h => hb.cell (p := ⟨b, o, none⟩) h, fun b o h => hb.frozen (p := ⟨b, o, none⟩) h⟩
theorem lt_of_block {W : World} {b : Nat} {o : Obj} (h : W.heap[b]? = some o) : b < W.heap.size := (Array.getElem?_eq_some_iff.1 h).1
theorem cells2 {W : World} {b : Nat} {v0 v1 : Value} {t : TypeId} (h : W.heap[b]? = some (.cells #[v0, v1] t)) : W.cell? ⟨b, 0, none⟩ = some v0 ∧ W.cell? ⟨b, 1, none⟩ = some v1 ∧ W.frozen? ⟨b, 0, none⟩ = false ∧ W.frozen? ⟨b, 1, none⟩ = false := by simp [World.cell?, World.frozen?, h]
theorem cells_new {W : World} {b : Nat} {l : List Value} {t : TypeId} {m : Nat × Nat} (h : W.heap[b]? = some (.cells ⟨l⟩ t m)) : ∀ (j : Nat) u, l[j]? = some u → W.cell? ((⟨b, 0, none⟩ : Addr).add j) = some u := fun j u hu => by
  have e : (⟨b, 0, none⟩ : Addr).add j = ⟨b, j, none⟩ := by unfold Addr.add; split <;> simp_all
  rw [e]
  simp [World.cell?, h, hu]
def KAt (k : IntKind) (W : World) (sv : Value) (zs : List Int) : Prop :=
  (sv = .slice none 0 0 ∧ zs = []) ∨ ∃ b off cap, sv = .slice (some ⟨b, off, none⟩) zs.length cap ∧ b < W.heap.size ∧ ∀ j z, zs[j]? = some z → W.cell? ⟨b, off + j, none⟩ = some (.int k z)
theorem KAt.below {k : IntKind} {W w1 : World} {sv : Value} {zs : List Int} (h : KAt k W sv zs) (hb : Below W.heap.size W w1) : KAt k w1 sv zs := by
  rcases h with h | ⟨b, off, cap, e, hl, h⟩
  · exact Or.inl h
  · exact Or.inr ⟨b, off, cap, e, Nat.lt_of_lt_of_le hl hb.size, fun j z hz => ((bcell hb).1 _ _ hl).trans (h j z hz)⟩
theorem KAt.at {kd : IntKind} {W : World} {a : Option Addr} {n cap : Nat} {l : List Int} (h : KAt kd W (.slice a n cap) l) {k : Nat} {z : Int} (hk : l[k]? = some z) : ∃ b off, a = some ⟨b, off, none⟩ ∧ b < W.heap.size ∧ W.cell? ⟨b, off + k, none⟩ = some (.int kd z) := by
  rcases h with ⟨_, rfl⟩ | ⟨b, off, cap', e, hl, h⟩
  · simp at hk
  · cases e; exact ⟨b, off, rfl, hl, h k z hk⟩
def iCs (l : List Int) : List Value := l.map (Value.int .i64)
theorem kat_of_owns {W : World} {base : Nat} {e : TypeId} {v : Value} {l : List Int} (h : W.ownsRow base e 1 v l.length (iCs l)) : KAt .i64 W v l := by
  rcases h.2 with ⟨rfl, h0⟩ | ⟨g, cap, cur, rfl, hb, hg, _, _, _, ht⟩
  · exact Or.inl ⟨rfl, List.eq_nil_of_length_eq_zero h0⟩
  · refine Or.inr ⟨g, 0, cap, rfl, (Array.getElem?_eq_some_iff.1 hg).1, fun j z hz => ?_⟩
    have h1 := h.cells (g := g) rfl j (.int .i64 z) (by simp [iCs, hz])
    have hadd : (⟨g, 0, none⟩ : Addr).add j = ⟨g, 0 + j, none⟩ := by unfold Addr.add; split <;> simp_all
    rwa [hadd] at h1
theorem info3 : (Try.prog.info? 3).map (fun i => (i.zero, i.size, i.bytes)) = some (some (.int .i64 0), 1, 8) := by kernel_rfl

theorem inR_true {x a b : Int} : inR x a b = true ↔ a ≤ x ∧ x ≤ b := by simp [inR]
theorem inR_false {x a b : Int} : inR x a b = false ↔ x < a ∨ b < x := by
  rw [← Bool.not_eq_true, inR_true]; omega
theorem kat_new (w : World) (x : Int) : KAt .i64 (w.alloc (.cells #[.int .i64 x] 3)) (.slice (some ⟨w.heap.size, 0, none⟩) 1 1) [x] := by
  refine Or.inr ⟨w.heap.size, 0, 1, rfl, by simp, fun j z hz => ?_⟩
  have h := alloc_new_at w (.cells #[.int .i64 x] 3) w.heap.size rfl
  cases j with
  | zero => simp at hz; subst hz; show (w.alloc (.cells #[.int .i64 x] 3)).cell? ⟨w.heap.size, 0, none⟩ = _; unfold World.cell?; rw [h]; rfl
  | succ j => simp at hz
theorem cells1 {W : World} {b : Nat} {v0 : Value} {t : TypeId} (h : W.heap[b]? = some (.cells #[v0] t)) : W.cell? ⟨b, 0, none⟩ = some v0 ∧ W.frozen? ⟨b, 0, none⟩ = false := by simp [World.cell?, World.frozen?, h]
theorem cells3 {W : World} {b : Nat} {v0 v1 v2 : Value} {t : TypeId} (h : W.heap[b]? = some (.cells #[v0, v1, v2] t)) : W.cell? ⟨b, 0, none⟩ = some v0 ∧ W.cell? ⟨b, 1, none⟩ = some v1 ∧ W.cell? ⟨b, 2, none⟩ = some v2 := by simp [World.cell?, h]
theorem set2_0 {W : World} {b : Nat} {v0 v1 : Value} {t : TypeId} {m : Nat × Nat} (h : W.heap[b]? = some (.cells #[v0, v1] t m)) (u : Value) : (W.setCell ⟨b, 0, none⟩ u).heap[b]? = some (.cells #[u, v1] t m) := by
  simp [World.setCell, Array.getElem?_modify, h]
theorem set2_1 {W : World} {b : Nat} {v0 v1 : Value} {t : TypeId} {m : Nat × Nat} (h : W.heap[b]? = some (.cells #[v0, v1] t m)) (u : Value) : (W.setCell ⟨b, 1, none⟩ u).heap[b]? = some (.cells #[v0, u] t m) := by
  simp [World.setCell, Array.getElem?_modify, h]
theorem set1_0 {W : World} {b : Nat} {v0 : Value} {t : TypeId} {m : Nat × Nat} (h : W.heap[b]? = some (.cells #[v0] t m)) (u : Value) : (W.setCell ⟨b, 0, none⟩ u).heap[b]? = some (.cells #[u] t m) := by
  simp [World.setCell, Array.getElem?_modify, h]

theorem ownsRow_forms {W : World} {base : Nat} {e : TypeId} {size : Nat} {v : Value} {n : Nat} {xs : List Value} (h : W.ownsRow base e size v n xs) : (v = .slice none 0 0 ∧ n = 0) ∨ ∃ g cap, v = .slice (some ⟨g, 0, none⟩) n cap := by
  rcases h.2 with hn | ⟨g, cap, _, rfl, _⟩
  · exact Or.inl hn
  · exact Or.inr ⟨g, cap, rfl⟩

def rowC (n : Nat) (f : Nat → Int) : List Value := (List.range n).map fun i => .int .i64 (f i)
theorem rowC_length (n : Nat) (f : Nat → Int) : (rowC n f).length = n := by simp [rowC]
theorem rowC_at {n : Nat} {f : Nat → Int} {i : Nat} (h : i < n) : (rowC n f)[i]? = some (.int .i64 (f i)) := by simp [rowC, h]
theorem rowC_congr {n : Nat} {f g : Nat → Int} (h : ∀ i, i < n → f i = g i) : rowC n f = rowC n g := by
  apply List.ext_getElem
  · simp [rowC]
  · intro j h1 h2
    simp only [rowC, List.getElem_map, List.getElem_range]
    rw [h j (by simpa [rowC] using h1)]
/-- A block that holds a row of ints. -/
def RowAt (W : World) (b n : Nat) (f : Nat → Int) : Prop := W.heap[b]? = some (.cells (rowC n f).toArray 3)
theorem RowAt.cell {W : World} {b n i : Nat} {f : Nat → Int} (h : RowAt W b n f) (hi : i < n) : W.cell? ⟨b, i, none⟩ = some (.int .i64 (f i)) ∧ W.frozen? ⟨b, i, none⟩ = false := by
  unfold RowAt at h
  have := rowC_at (f := f) hi
  constructor
  · simp [World.cell?, h]; simpa using this
  · simp [World.frozen?, h]
theorem RowAt.set {W : World} {b n i : Nat} {f : Nat → Int} (h : RowAt W b n f) (hi : i < n) (x : Int) : RowAt (W.setCell ⟨b, i, none⟩ (.int .i64 x)) b n (fun j => if j = i then x else f j) := by
  have e0 : (W.setCell ⟨b, i, none⟩ (.int .i64 x)).heap[b]? = some (.cells ((rowC n f).set i (.int .i64 x)).toArray 3) := by
    unfold RowAt at h
    simp [World.setCell, Array.getElem?_modify, h]
  unfold RowAt
  rw [e0]
  have e1 : (rowC n f).set i (.int .i64 x) = rowC n (fun j => if j = i then x else f j) := by
    apply List.ext_getElem
    · simp [rowC]
    · intro j h1 h2
      simp only [rowC, List.getElem_set, List.getElem_map, List.getElem_range]
      by_cases e : i = j
      · subst e; simp
      · rw [if_neg e, if_neg (fun h => e h.symm)]
  rw [e1]
theorem RowAt.congr {W : World} {b n : Nat} {f g : Nat → Int} (h : RowAt W b n f) (e : ∀ i, i < n → f i = g i) : RowAt W b n g := by
  unfold RowAt at *; rw [h, rowC_congr e]
theorem make_row (n : Nat) (hn : n ≤ 10000) (W : World) :
    (Instr.makeSlice 25 (.int .i64 (n : Int)) (.int .i64 (n : Int))).run Try.prog W = .ok (.slice (some ⟨W.heap.size, 0, none⟩) n n) (W.alloc (.cells (rowC n fun _ => 0).toArray 3)) := by
  obtain ⟨i, h1, h2, h3, h4⟩ := info_parts info3
  have hr := run_make (P := Try.prog) W 25 3 i (.int .i64 0) Try.underlying25 h1 h2 .i64 .i64 n n (by omega) (by omega) (by rw [h4]; omega) (by omega)
  rw [hr, h3]
  have e : madeCells (Value.int .i64 0).cells ((n : Int).toNat * 1) = (rowC n fun _ => 0).toArray := by
    apply Array.toList_inj.1
    rw [Int.toNat_natCast, Nat.mul_one, show (Value.int .i64 0).cells = #[.int .i64 0] from rfl, toList_madeCells_one]
    simp [rowC, List.map_const']
  rw [e]
  simp
/-! ### events -/
structure Evx where
  tk : Int
  id : Int
def evxV (s : Evx) : List Value := [.int .i64 s.tk, .int .i64 s.id]
def evxCs (l : List Evx) : List Value := l.flatMap evxV
theorem evxCs_length (l : List Evx) : (evxCs l).length = l.length * 2 := by
  induction l with
  | nil => rfl
  | cons s l ih => simp [evxCs, evxV] at *; omega
theorem evxCs_snoc (l : List Evx) (s : Evx) : evxCs (l ++ [s]) = evxCs l ++ evxV s := by simp [evxCs]
theorem evxCs_get : ∀ (l : List Evx) (i c : Nat) (s : Evx), c < 2 → l[i]? = some s → (evxCs l)[i * 2 + c]? = (evxV s)[c]?
  | [], i, c, r, _, h => by simp at h
  | x :: rs, 0, c, r, hc, h => by
    simp at h; subst h
    rw [evxCs, List.flatMap_cons, List.getElem?_append_left (by simp [evxV]; omega)]
    simp
  | x :: rs, i + 1, c, r, hc, h => by
    rw [evxCs, List.flatMap_cons, List.getElem?_append_right (by simp [evxV]; omega)]
    have := evxCs_get rs i c r hc (by simpa using h)
    rw [← this, evxCs]
    congr 1
    simp [evxV]; omega
structure EvxCells (W : World) (b o : Nat) (s : Evx) : Prop where
  c0 : W.cell? ⟨b, o, none⟩ = some (.int .i64 s.tk)
  c1 : W.cell? ⟨b, o + 1, none⟩ = some (.int .i64 s.id)
def EvxsAt (W : World) (sv : Value) (l : List Evx) : Prop :=
  (sv = .slice none 0 0 ∧ l = []) ∨ ∃ b off cap, sv = .slice (some ⟨b, off, none⟩) l.length cap ∧ b < W.heap.size ∧ ∀ k s, l[k]? = some s → EvxCells W b (off + k * 2) s
theorem EvxCells.below {W w1 : World} {b o : Nat} {s : Evx} (h : EvxCells W b o s) (hb : Below W.heap.size W w1) (hl : b < W.heap.size) : EvxCells w1 b o s := by
  obtain ⟨hc, _⟩ := bcell hb
  exact ⟨(hc _ _ hl).trans h.c0, (hc _ _ hl).trans h.c1⟩
theorem EvxsAt.below {W w1 : World} {sv : Value} {l : List Evx} (h : EvxsAt W sv l) (hb : Below W.heap.size W w1) : EvxsAt w1 sv l := by
  rcases h with h | ⟨b, off, cap, e, hl, h⟩
  · exact Or.inl h
  · exact Or.inr ⟨b, off, cap, e, Nat.lt_of_lt_of_le hl hb.size, fun k p hk => (h k p hk).below hb hl⟩
theorem EvxsAt.at {W : World} {a : Option Addr} {n cap : Nat} {l : List Evx} (h : EvxsAt W (.slice a n cap) l) {k : Nat} {s : Evx} (hk : l[k]? = some s) : ∃ b off, a = some ⟨b, off, none⟩ ∧ b < W.heap.size ∧ EvxCells W b (off + k * 2) s := by
  rcases h with ⟨_, rfl⟩ | ⟨b, off, cap', e, hl, h⟩
  · simp at hk
  · cases e; exact ⟨b, off, rfl, hl, h k _ hk⟩
theorem evxAt_of_owns {W : World} {base e : Nat} {v : Value} {l : List Evx} (h : W.ownsRow base e 2 v l.length (evxCs l)) : EvxsAt W v l := by
  rcases h.2 with ⟨rfl, h0⟩ | ⟨g, cap, cur, rfl, hb, hg, _, _, _, ht⟩
  · exact Or.inl ⟨rfl, List.eq_nil_of_length_eq_zero h0⟩
  · refine Or.inr ⟨g, 0, cap, rfl, (Array.getElem?_eq_some_iff.1 hg).1, fun k r hk => ?_⟩
    have key : ∀ c u, c < 2 → (evxV r)[c]? = some u → W.cell? ⟨g, 0 + k * 2 + c, none⟩ = some u := fun c u hc hu => by
      have h1 := h.cells (g := g) rfl (k * 2 + c) u (by rw [evxCs_get l k c r hc hk]; exact hu)
      have hadd : (⟨g, 0, none⟩ : Addr).add (k * 2 + c) = ⟨g, k * 2 + c, none⟩ := by unfold Addr.add; split <;> simp_all
      rw [hadd] at h1
      rw [show 0 + k * 2 + c = k * 2 + c by omega]; exact h1
    exact ⟨key 0 _ (by omega) rfl, key 1 _ (by omega) rfl⟩
theorem list_of {α : Type} {P : Nat → α → Prop} : ∀ (n : Nat), (∀ i, i < n → ∃ s, P i s) → ∃ l : List α, l.length = n ∧ ∀ i s, l[i]? = some s → P i s
  | 0, _ => ⟨[], rfl, fun i s h => by simp at h⟩
  | n + 1, h => by
    obtain ⟨l, h1, h2⟩ := list_of n fun i hi => h i (by omega)
    obtain ⟨s, hs⟩ := h n (by omega)
    refine ⟨l ++ [s], by simp [h1], fun i t ht => ?_⟩
    rcases Nat.lt_or_ge i n with hi | hi
    · rw [List.getElem?_append_left (by omega)] at ht; exact h2 i t ht
    · have hin : i = n := by have := (List.getElem?_eq_some_iff.1 ht).1; simp at this; omega
      subst hin
      rw [List.getElem?_append_right (by omega), h1] at ht
      simp at ht; subst ht; exact hs
section
variable {H : Type} {enc : TypeId × Value → H} {w : World} {base : Nat} {held : Bool}
section
variable {P : Program} {spare : Nat → Bool}
theorem has_lt {r : Reach} {b0 e n : Nat} {a : Addr} (h : w.has P r b0 a e n) : a.spot = none ∧ a.block < w.heap.size := by
  obtain ⟨_, hs, row, cells, hsh, _⟩ := h
  refine ⟨hs, ?_⟩
  unfold World.shape? at hsh
  cases hb : w.heap[a.block]? with
  | none => simp [hb] at hsh
  | some o => exact (Array.getElem?_eq_some_iff.mp hb).1
theorem cellOkWide_slice {r : Reach} {b0 t e : Nat} {v : Value} (ht : P.underlying t = some (.slice e)) (hv : Cell.okWide P w r b0 t v) : v = .slice none 0 0 ∨ ∃ b off n cap, v = .slice (some ⟨b, off, none⟩) n cap ∧ b < w.heap.size := by
  simp only [Cell.okWide, ht] at hv
  cases v <;> simp [Cell.ok, ht] at hv
  rename_i a n cap
  cases a with
  | none =>
    left
    cases n <;> cases cap <;> simp_all
  | some a =>
    right
    obtain ⟨_, _, hh⟩ := hv
    obtain ⟨hs, hl⟩ := has_lt hh
    obtain ⟨b, off, sp⟩ := a
    obtain rfl : sp = none := hs
    exact ⟨b, off, n, cap, rfl, hl⟩
theorem open_slice_cells {t e m : Nat} {fs : Array Field} {fuel b off n cap : Nat} {x : DataW H × List MemPlace} (ht : P.underlying t = some (.slice e)) (hs : P.underlying e = some (.struct fs))
    (hf : ∀ (i : Nat) (f : Field), fs[i]? = some f → f.offset = i ∧ P.cellsOf f.type = 1) (hm : fs.size = m) (hC : P.cellsOf e = m)
    (h : DataW.trod enc P w base spare held fuel t [.slice (some ⟨b, off, none⟩) n cap] = some x) :
    n ≤ maxLen ∧ ∀ (i j : Nat) (f : Field), i < n → fs[j]? = some f → ∃ c g y, w.cell? ⟨b, off + i * m + j, none⟩ = some c ∧ DataW.trod enc P w base spare held g f.type [c] = some y := by
  rcases DataW.trod_slice ht h with ⟨h0, _⟩ | ⟨a, len, cap', elems, rest, g, _, h1, _, _, hl, hmx, hlen, hel, _, _⟩
  · simp at h0
  · simp at h1
    obtain ⟨rfl, rfl, rfl⟩ := h1
    refine ⟨Nat.le_trans hl hmx, fun i j f hin hfj => ?_⟩
    have hj : j < m := by have := (Array.getElem?_eq_some_iff.1 hfj).1; omega
    have h2 := hel i hin
    rw [List.getElem?_eq_getElem (by omega), Option.bind_eq_some_iff] at h2
    obtain ⟨cs, h3, h4⟩ := h2
    obtain ⟨xs, g', _, _, hcl, hxl, hg⟩ := DataW.trod_struct hs h4
    obtain ⟨ho, hk⟩ := hf j f hfj
    have h5 := hg j f hfj
    rw [ho, hk, List.getElem?_eq_getElem (by omega)] at h5
    have hjl : j < cs.length := by omega
    have e5 : List.take 1 (List.drop j cs) = [cs[j]] := by rw [List.drop_eq_getElem_cons hjl]; rfl
    rw [e5] at h5
    refine ⟨cs[j], g', _, ?_, h5⟩
    unfold World.cells? at h3
    split at h3
    · have h8 := mapM_some_get h3 j j (by simp [hC, hj])
      rw [List.getElem?_eq_getElem hjl] at h8
      rw [hC] at h8
      rw [← h8]
      congr 1
      unfold Addr.add
      split <;> split <;> simp_all <;> omega
    · simp at h3
end
theorem cells_Evx : Try.prog.cellsOf 63 = 2 := by kernel_rfl
set_option maxRecDepth 100000 in
/-- Events as an argument. -/
theorem open_Evxs {r : Reach} {b0 : Nat} {v : Value} {d : DataW H} {p : List MemPlace} (hv : Value.okWide Try.prog w r b0 26 v) (h : DataW.Trod enc Try.prog w base (fun _ => true) held 26 v d p) :
    ∃ l a c, v = .slice a l.length c ∧ EvxsAt w (.slice a l.length c) l ∧ l.length ≤ maxLen ∧ ∀ s ∈ l, (Lit.int .i64 s.tk).wf = true ∧ (Lit.int .i64 s.id).wf = true := by
  have hv' : Cell.okWide Try.prog w r b0 26 v := by simpa only [Value.okWide, Try.underlying26] using hv
  obtain ⟨fuel, hfu⟩ := h
  rcases cellOkWide_slice Try.underlying26 hv' with rfl | ⟨b, off, n, cap, rfl, hl⟩
  · exact ⟨[], none, 0, rfl, Or.inl ⟨rfl, rfl⟩, by simp, by simp⟩
  · obtain ⟨hm, hc⟩ := open_slice_cells (m := 2) Try.underlying26 Try.underlying63 (by
      intro i f hf
      match i, hf with
      | 0, hf | 1, hf => cases hf; exact ⟨rfl, by kernel_rfl⟩
      | n + 2, hf => simp at hf) (by rfl) cells_Evx hfu
    have hrow : ∀ i, i < n → ∃ s : Evx, EvxCells w b (off + i * 2) s ∧ ((Lit.int .i64 s.tk).wf = true ∧ (Lit.int .i64 s.id).wf = true) := fun i hi => by
      obtain ⟨c0, g0, y0, h0, k0⟩ := hc i 0 _ hi rfl
      obtain ⟨z0, q0, _, f0⟩ := DataW.trod_int Try.underlying3 k0
      obtain rfl : c0 = .int .i64 z0 := by simpa using q0
      obtain ⟨c1, g1, y1, h1, k1⟩ := hc i 1 _ hi rfl
      obtain ⟨z1, q1, _, f1⟩ := DataW.trod_int Try.underlying3 k1
      obtain rfl : c1 = .int .i64 z1 := by simpa using q1
      exact ⟨⟨z0, z1⟩, ⟨by simpa using h0, h1⟩, f0, f1⟩
    obtain ⟨l, hll, hls⟩ := list_of n hrow
    exact ⟨l, some ⟨b, off, none⟩, cap, by rw [hll], .inr ⟨b, off, cap, rfl, hl, fun j s hs => (hls j s hs).1⟩, by rw [hll]; exact hm, fun s hs => by
      obtain ⟨j, hj⟩ := List.getElem?_of_mem hs
      exact (hls j s hj).2⟩
end

section
variable {H : Type} {enc : TypeId × Value → H} {P : Program} {w : World} {base : Nat} {spare : Nat → Bool} {held : Bool}
/-- A struct by value whose fields are all ints. -/
theorem open_ints_struct {r : Reach} {b0 t e : Nat} {fs : Array Field} {v : Value} {d : DataW H} {p : List MemPlace} (he : P.underlying e = some (.int .i64)) (hs : P.underlying t = some (.struct fs))
    (hf : ∀ (i : Nat) (f : Field), fs[i]? = some f → f.offset = i ∧ f.type = e ∧ P.cellsOf f.type = 1) (hC : P.cellsOf t = fs.size)
    (hv : Value.okWide P w r b0 t v) (h : DataW.Trod enc P w base spare held t v d p) : ∃ l : List Int, v = .agg (l.map (Value.int .i64)).toArray ∧ l.length = fs.size := by
  obtain ⟨cs, rfl, hsz⟩ := okWide_struct hs hv
  obtain ⟨fuel, hfu⟩ := h
  obtain ⟨xs, n, _, hx, hcl, hlen, hg⟩ := DataW.trod_struct hs hfu
  have hsz2 : cs.size = fs.size := hsz.trans hC
  have key : ∀ (i : Nat) (hi : i < cs.size), ∃ a, cs[i] = .int .i64 a := by
    intro i hi
    have hfi : fs[i]? = some (fs[i]'(by omega)) := Array.getElem?_eq_getElem (by omega)
    obtain ⟨ho, ht, hk⟩ := hf i _ hfi
    have h1 := hg i _ hfi
    have hxi : xs[i]? = some (xs[i]'(by omega)) := List.getElem?_eq_getElem (by omega)
    rw [ho, hk, hxi, ht] at h1
    obtain ⟨a, e0, _, _⟩ := DataW.trod_int he h1
    refine ⟨a, ?_⟩
    have e1 : (Value.agg cs).cells.toList = cs.toList := by simp [Value.cells]
    rw [e1, List.drop_eq_getElem_cons (by simpa using hi)] at e0
    simpa using e0
  refine ⟨cs.toList.map intOf, ?_, by simpa using hsz2⟩
  congr 1
  apply Array.ext (by simp)
  intro i h1 h2
  obtain ⟨a, ha⟩ := key i h1
  simp [ha, intOf]
end

theorem list8 {l : List Int} (h : l.length = 8) : ∃ a0 a1 a2 a3 a4 a5 a6 a7, l = [a0, a1, a2, a3, a4, a5, a6, a7] := by
  match l, h with
  | [a0, a1, a2, a3, a4, a5, a6, a7], _ => exact ⟨a0, a1, a2, a3, a4, a5, a6, a7, rfl⟩
theorem list2 {l : List Int} (h : l.length = 2) : ∃ a0 a1, l = [a0, a1] := by
  match l, h with
  | [a0, a1], _ => exact ⟨a0, a1, rfl⟩
section
variable {H : Type} {enc : TypeId × Value → H} {P : Program} {w : World} {base : Nat} {held : Bool}
theorem open_slice_k {r : Reach} {b0 t e : Nat} {k : IntKind} {v : Value} {d : DataW H} {p : List MemPlace} (ht : P.underlying t = some (.slice e)) (he : P.underlying e = some (.int k)) (hc : P.cellsOf e = 1)
    (hv : Value.okWide P w r b0 t v) (h : DataW.Trod enc P w base (fun _ => true) held t v d p) :
    ∃ (sa : Option Addr) (sc : Nat) (zs : List Int), v = .slice sa zs.length sc ∧ KAt k w (.slice sa zs.length sc) zs ∧ zs.length ≤ 9223372036854775807 ∧ ∀ z ∈ zs, (Lit.int k z).wf = true := by
  have hv' : Cell.okWide P w r b0 t v := by simpa only [Value.okWide, ht] using hv
  rcases cellOkWide_slice ht hv' with rfl | ⟨b, off, n, cap, rfl, hlt⟩
  · exact ⟨none, 0, [], rfl, Or.inl ⟨rfl, rfl⟩, by simp, by simp⟩
  · obtain ⟨fuel, hf⟩ := h
    rcases open_ints ht he hc hf with ⟨h0, _⟩ | ⟨a', len, cap', zs, h1, _, hl, hm, hz, _, hcell, hwf⟩
    · simp [Value.cells] at h0
    · simp [Value.cells] at h1
      obtain ⟨rfl, rfl, rfl⟩ := h1
      simp at hz
      have hlen : (zs.take n).length = n := by simp; omega
      refine ⟨some ⟨b, off, none⟩, cap, zs.take n, by rw [hlen], Or.inr ⟨b, off, cap, rfl, hlt, ?_⟩, ?_, fun z hz' => hwf z (List.mem_of_mem_take hz')⟩
      · intro j z hj
        have hjn : j < n := by have := (List.getElem?_eq_some_iff.1 hj).1; omega
        have h2 := hcell j (by omega)
        have hadd : (⟨b, off, none⟩ : Addr).add j = ⟨b, off + j, none⟩ := by unfold Addr.add; split <;> simp_all
        rw [hadd] at h2
        rw [List.getElem?_take_of_lt hjn] at hj
        have hjz : j < zs.length := (List.getElem?_eq_some_iff.1 hj).1
        have e2 : zs[j] = z := (List.getElem?_eq_some_iff.1 hj).2
        rw [h2]; simp [hjz, e2]
      · rw [hlen]; unfold maxLen at hm; omega
end
end Go.Proofs.Ytbnjmpjodmlccaa
