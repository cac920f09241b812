/- Rows of ints, events; the mathematics of disturbances. Over this seat's program. (mk_Va.py wrote this.) -/
import Derived.Test.YtnbndciididpoaaGreatGa
import Derived.Test.YtnbndciididpoaaGreatJ
import Derived.Deep.RegionHeld3
import Derived.BigQuiet
import Derived.OpenShut
import Derived.ProofKit
import Derived.ChangeSlices
import Derived.WideShapes
namespace Go.Proofs.YtnbndciididpoaaGreat
set_option linter.unusedVariables false
open Go.RowKit Go.Shelf Go.ChangeShapes Go.WideShapes Go.ChangeAt

theorem info3 : (Tryz.prog.info? 3).map (fun i => (i.zero, i.size, i.bytes)) = some (some (.int .i64 0), 1, 8) := by kernel_rfl
def rowC (n : Nat) (f : Nat → Int) : List Value := (List.range n).map fun i => .int .i64 (f i)
theorem rowC_length (n : Nat) (f : Nat → Int) : (rowC n f).length = n := by simp [rowC]
theorem rowC_at {n : Nat} {f : Nat → Int} {i : Nat} (h : i < n) : (rowC n f)[i]? = some (.int .i64 (f i)) := by simp [rowC, h]
theorem rowC_congr {n : Nat} {f g : Nat → Int} (h : ∀ i, i < n → f i = g i) : rowC n f = rowC n g := by
  apply List.ext_getElem
  · simp [rowC]
  · intro j h1 h2
    simp only [rowC, List.getElem_map, List.getElem_range]
    rw [h j (by simpa [rowC] using h1)]
/-- A block that holds a row of ints. -/
def RowAt (W : World) (b n : Nat) (f : Nat → Int) : Prop := W.heap[b]? = some (.cells (rowC n f).toArray 3)
theorem RowAt.cell {W : World} {b n i : Nat} {f : Nat → Int} (h : RowAt W b n f) (hi : i < n) : W.cell? ⟨b, i, none⟩ = some (.int .i64 (f i)) ∧ W.frozen? ⟨b, i, none⟩ = false := by
  unfold RowAt at h
  have := rowC_at (f := f) hi
  constructor
  · simp [World.cell?, h]; simpa using this
  · simp [World.frozen?, h]
theorem RowAt.set {W : World} {b n i : Nat} {f : Nat → Int} (h : RowAt W b n f) (hi : i < n) (x : Int) : RowAt (W.setCell ⟨b, i, none⟩ (.int .i64 x)) b n (fun j => if j = i then x else f j) := by
  have e0 : (W.setCell ⟨b, i, none⟩ (.int .i64 x)).heap[b]? = some (.cells ((rowC n f).set i (.int .i64 x)).toArray 3) := by
    unfold RowAt at h
    simp [World.setCell, Array.getElem?_modify, h]
  unfold RowAt
  rw [e0]
  have e1 : (rowC n f).set i (.int .i64 x) = rowC n (fun j => if j = i then x else f j) := by
    apply List.ext_getElem
    · simp [rowC]
    · intro j h1 h2
      simp only [rowC, List.getElem_set, List.getElem_map, List.getElem_range]
      by_cases e : i = j
      · subst e; simp
      · rw [if_neg e, if_neg (fun h => e h.symm)]
  rw [e1]
theorem RowAt.congr {W : World} {b n : Nat} {f g : Nat → Int} (h : RowAt W b n f) (e : ∀ i, i < n → f i = g i) : RowAt W b n g := by
  unfold RowAt at *; rw [h, rowC_congr e]
theorem make_row (n : Nat) (hn : n ≤ 10000) (W : World) :
    (Instr.makeSlice 26 (.int .i64 (n : Int)) (.int .i64 (n : Int))).run Tryz.prog W = .ok (.slice (some ⟨W.heap.size, 0, none⟩) n n) (W.alloc (.cells (rowC n fun _ => 0).toArray 3)) := by
  obtain ⟨i, h1, h2, h3, h4⟩ := info_parts info3
  have hr := run_make (P := Tryz.prog) W 26 3 i (.int .i64 0) Tryz.underlying26 h1 h2 .i64 .i64 n n (by omega) (by omega) (by rw [h4]; omega) (by omega)
  rw [hr, h3]
  have e : madeCells (Value.int .i64 0).cells ((n : Int).toNat * 1) = (rowC n fun _ => 0).toArray := by
    apply Array.toList_inj.1
    rw [Int.toNat_natCast, Nat.mul_one, show (Value.int .i64 0).cells = #[.int .i64 0] from rfl, toList_madeCells_one]
    simp [rowC, List.map_const']
  rw [e]
  simp
/-! ### events -/
structure Evx where
  tk : Int
  id : Int
def evxV (s : Evx) : List Value := [.int .i64 s.tk, .int .i64 s.id]
def evxCs (l : List Evx) : List Value := l.flatMap evxV
theorem evxCs_length (l : List Evx) : (evxCs l).length = l.length * 2 := by
  induction l with
  | nil => rfl
  | cons s l ih => simp [evxCs, evxV] at *; omega
theorem evxCs_snoc (l : List Evx) (s : Evx) : evxCs (l ++ [s]) = evxCs l ++ evxV s := by simp [evxCs]
theorem evxCs_get : ∀ (l : List Evx) (i c : Nat) (s : Evx), c < 2 → l[i]? = some s → (evxCs l)[i * 2 + c]? = (evxV s)[c]?
  | [], i, c, r, _, h => by simp at h
  | x :: rs, 0, c, r, hc, h => by
    simp at h; subst h
    rw [evxCs, List.flatMap_cons, List.getElem?_append_left (by simp [evxV]; omega)]
    simp
  | x :: rs, i + 1, c, r, hc, h => by
    rw [evxCs, List.flatMap_cons, List.getElem?_append_right (by simp [evxV]; omega)]
    have := evxCs_get rs i c r hc (by simpa using h)
    rw [← this, evxCs]
    congr 1
    simp [evxV]; omega
structure EvxCells (W : World) (b o : Nat) (s : Evx) : Prop where
  c0 : W.cell? ⟨b, o, none⟩ = some (.int .i64 s.tk)
  c1 : W.cell? ⟨b, o + 1, none⟩ = some (.int .i64 s.id)
def EvxsAt (W : World) (sv : Value) (l : List Evx) : Prop :=
  (sv = .slice none 0 0 ∧ l = []) ∨ ∃ b off cap, sv = .slice (some ⟨b, off, none⟩) l.length cap ∧ b < W.heap.size ∧ ∀ k s, l[k]? = some s → EvxCells W b (off + k * 2) s
theorem EvxCells.below {W w1 : World} {b o : Nat} {s : Evx} (h : EvxCells W b o s) (hb : Below W.heap.size W w1) (hl : b < W.heap.size) : EvxCells w1 b o s := by
  obtain ⟨hc, _⟩ := bcell hb
  exact ⟨(hc _ _ hl).trans h.c0, (hc _ _ hl).trans h.c1⟩
theorem EvxsAt.below {W w1 : World} {sv : Value} {l : List Evx} (h : EvxsAt W sv l) (hb : Below W.heap.size W w1) : EvxsAt w1 sv l := by
  rcases h with h | ⟨b, off, cap, e, hl, h⟩
  · exact Or.inl h
  · exact Or.inr ⟨b, off, cap, e, Nat.lt_of_lt_of_le hl hb.size, fun k p hk => (h k p hk).below hb hl⟩
theorem EvxsAt.at {W : World} {a : Option Addr} {n cap : Nat} {l : List Evx} (h : EvxsAt W (.slice a n cap) l) {k : Nat} {s : Evx} (hk : l[k]? = some s) : ∃ b off, a = some ⟨b, off, none⟩ ∧ b < W.heap.size ∧ EvxCells W b (off + k * 2) s := by
  rcases h with ⟨_, rfl⟩ | ⟨b, off, cap', e, hl, h⟩
  · simp at hk
  · cases e; exact ⟨b, off, rfl, hl, h k _ hk⟩
theorem evxAt_of_owns {W : World} {base e : Nat} {v : Value} {l : List Evx} (h : W.ownsRow base e 2 v l.length (evxCs l)) : EvxsAt W v l := by
  rcases h.2 with ⟨rfl, h0⟩ | ⟨g, cap, cur, rfl, hb, hg, _, _, _, ht⟩
  · exact Or.inl ⟨rfl, List.eq_nil_of_length_eq_zero h0⟩
  · refine Or.inr ⟨g, 0, cap, rfl, (Array.getElem?_eq_some_iff.1 hg).1, fun k r hk => ?_⟩
    have key : ∀ c u, c < 2 → (evxV r)[c]? = some u → W.cell? ⟨g, 0 + k * 2 + c, none⟩ = some u := fun c u hc hu => by
      have h1 := h.cells (g := g) rfl (k * 2 + c) u (by rw [evxCs_get l k c r hc hk]; exact hu)
      have hadd : (⟨g, 0, none⟩ : Addr).add (k * 2 + c) = ⟨g, k * 2 + c, none⟩ := by unfold Addr.add; split <;> simp_all
      rw [hadd] at h1
      rw [show 0 + k * 2 + c = k * 2 + c by omega]; exact h1
    exact ⟨key 0 _ (by omega) rfl, key 1 _ (by omega) rfl⟩
theorem list_of {α : Type} {P : Nat → α → Prop} : ∀ (n : Nat), (∀ i, i < n → ∃ s, P i s) → ∃ l : List α, l.length = n ∧ ∀ i s, l[i]? = some s → P i s
  | 0, _ => ⟨[], rfl, fun i s h => by simp at h⟩
  | n + 1, h => by
    obtain ⟨l, h1, h2⟩ := list_of n fun i hi => h i (by omega)
    obtain ⟨s, hs⟩ := h n (by omega)
    refine ⟨l ++ [s], by simp [h1], fun i t ht => ?_⟩
    rcases Nat.lt_or_ge i n with hi | hi
    · rw [List.getElem?_append_left (by omega)] at ht; exact h2 i t ht
    · have hin : i = n := by have := (List.getElem?_eq_some_iff.1 ht).1; simp at this; omega
      subst hin
      rw [List.getElem?_append_right (by omega), h1] at ht
      simp at ht; subst ht; exact hs
section
variable {H : Type} {enc : TypeId × Value → H} {w : World} {base : Nat} {held : Bool}
section
variable {P : Program} {spare : Nat → Bool}
theorem has_lt {r : Reach} {b0 e n : Nat} {a : Addr} (h : w.has P r b0 a e n) : a.spot = none ∧ a.block < w.heap.size := by
  obtain ⟨_, hs, row, cells, hsh, _⟩ := h
  refine ⟨hs, ?_⟩
  unfold World.shape? at hsh
  cases hb : w.heap[a.block]? with
  | none => simp [hb] at hsh
  | some o => exact (Array.getElem?_eq_some_iff.mp hb).1
theorem cellOkWide_slice {r : Reach} {b0 t e : Nat} {v : Value} (ht : P.underlying t = some (.slice e)) (hv : Cell.okWide P w r b0 t v) : v = .slice none 0 0 ∨ ∃ b off n cap, v = .slice (some ⟨b, off, none⟩) n cap ∧ b < w.heap.size := by
  simp only [Cell.okWide, ht] at hv
  cases v <;> simp [Cell.ok, ht] at hv
  rename_i a n cap
  cases a with
  | none =>
    left
    cases n <;> cases cap <;> simp_all
  | some a =>
    right
    obtain ⟨_, _, hh⟩ := hv
    obtain ⟨hs, hl⟩ := has_lt hh
    obtain ⟨b, off, sp⟩ := a
    obtain rfl : sp = none := hs
    exact ⟨b, off, n, cap, rfl, hl⟩
theorem open_slice_cells {t e m : Nat} {fs : Array Field} {fuel b off n cap : Nat} {x : DataW H × List MemPlace} (ht : P.underlying t = some (.slice e)) (hs : P.underlying e = some (.struct fs))
    (hf : ∀ (i : Nat) (f : Field), fs[i]? = some f → f.offset = i ∧ P.cellsOf f.type = 1) (hm : fs.size = m) (hC : P.cellsOf e = m)
    (h : DataW.trod enc P w base spare held fuel t [.slice (some ⟨b, off, none⟩) n cap] = some x) :
    n ≤ maxLen ∧ ∀ (i j : Nat) (f : Field), i < n → fs[j]? = some f → ∃ c g y, w.cell? ⟨b, off + i * m + j, none⟩ = some c ∧ DataW.trod enc P w base spare held g f.type [c] = some y := by
  rcases DataW.trod_slice ht h with ⟨h0, _⟩ | ⟨a, len, cap', elems, rest, g, _, h1, _, _, hl, hmx, hlen, hel, _, _⟩
  · simp at h0
  · simp at h1
    obtain ⟨rfl, rfl, rfl⟩ := h1
    refine ⟨Nat.le_trans hl hmx, fun i j f hin hfj => ?_⟩
    have hj : j < m := by have := (Array.getElem?_eq_some_iff.1 hfj).1; omega
    have h2 := hel i hin
    rw [List.getElem?_eq_getElem (by omega), Option.bind_eq_some_iff] at h2
    obtain ⟨cs, h3, h4⟩ := h2
    obtain ⟨xs, g', _, _, hcl, hxl, hg⟩ := DataW.trod_struct hs h4
    obtain ⟨ho, hk⟩ := hf j f hfj
    have h5 := hg j f hfj
    rw [ho, hk, List.getElem?_eq_getElem (by omega)] at h5
    have hjl : j < cs.length := by omega
    have e5 : List.take 1 (List.drop j cs) = [cs[j]] := by rw [List.drop_eq_getElem_cons hjl]; rfl
    rw [e5] at h5
    refine ⟨cs[j], g', _, ?_, h5⟩
    unfold World.cells? at h3
    split at h3
    · have h8 := mapM_some_get h3 j j (by simp [hC, hj])
      rw [List.getElem?_eq_getElem hjl] at h8
      rw [hC] at h8
      rw [← h8]
      congr 1
      unfold Addr.add
      split <;> split <;> simp_all <;> omega
    · simp at h3
end
theorem cells_Evx : Tryz.prog.cellsOf 76 = 2 := by kernel_rfl
set_option maxRecDepth 100000 in
/-- Events as an argument. -/
theorem open_Evxs {r : Reach} {b0 : Nat} {v : Value} {d : DataW H} {p : List MemPlace} (hv : Value.okWide Tryz.prog w r b0 27 v) (h : DataW.Trod enc Tryz.prog w base (fun _ => true) held 27 v d p) :
    ∃ l a c, v = .slice a l.length c ∧ EvxsAt w (.slice a l.length c) l ∧ l.length ≤ maxLen ∧ ∀ s ∈ l, (Lit.int .i64 s.tk).wf = true ∧ (Lit.int .i64 s.id).wf = true := by
  have hv' : Cell.okWide Tryz.prog w r b0 27 v := by simpa only [Value.okWide, Tryz.underlying27] using hv
  obtain ⟨fuel, hfu⟩ := h
  rcases cellOkWide_slice Tryz.underlying27 hv' with rfl | ⟨b, off, n, cap, rfl, hl⟩
  · exact ⟨[], none, 0, rfl, Or.inl ⟨rfl, rfl⟩, by simp, by simp⟩
  · obtain ⟨hm, hc⟩ := open_slice_cells (m := 2) Tryz.underlying27 Tryz.underlying76 (by
      intro i f hf
      match i, hf with
      | 0, hf | 1, hf => cases hf; exact ⟨rfl, by kernel_rfl⟩
      | n + 2, hf => simp at hf) (by rfl) cells_Evx hfu
    have hrow : ∀ i, i < n → ∃ s : Evx, EvxCells w b (off + i * 2) s ∧ ((Lit.int .i64 s.tk).wf = true ∧ (Lit.int .i64 s.id).wf = true) := fun i hi => by
      obtain ⟨c0, g0, y0, h0, k0⟩ := hc i 0 _ hi rfl
      obtain ⟨z0, q0, _, f0⟩ := DataW.trod_int Tryz.underlying3 k0
      obtain rfl : c0 = .int .i64 z0 := by simpa using q0
      obtain ⟨c1, g1, y1, h1, k1⟩ := hc i 1 _ hi rfl
      obtain ⟨z1, q1, _, f1⟩ := DataW.trod_int Tryz.underlying3 k1
      obtain rfl : c1 = .int .i64 z1 := by simpa using q1
      exact ⟨⟨z0, z1⟩, ⟨by simpa using h0, h1⟩, f0, f1⟩
    obtain ⟨l, hll, hls⟩ := list_of n hrow
    exact ⟨l, some ⟨b, off, none⟩, cap, by rw [hll], .inr ⟨b, off, cap, rfl, hl, fun j s hs => (hls j s hs).1⟩, by rw [hll]; exact hm, fun s hs => by
      obtain ⟨j, hj⟩ := List.getElem?_of_mem hs
      exact (hls j s hj).2⟩
end

/-! ### the mathematics -/
def tickN (t : Int) (j : Nat) : Nat := min t.toNat j + 1 + min (9999 - t).toNat j
def wayS (T : Nat) (W : Nat → Nat) : Nat → Nat := fun q => W q * T + (if q = 0 then 0 else W (q - 1))
def wayM (T : Nat) (W : Nat → Nat) : Nat → Nat := fun q => min (W q * T + (if q = 0 then 0 else W (q - 1))) 20001
def way0 : Nat → Nat := fun q => if q = 0 then 1 else 0
/-- How many ways there are, for each number of losses. -/
def wayG (j : Nat) (l : List Evx) : Nat → Nat := l.foldl (fun W x => wayS (tickN x.tk j) W) way0
/-- The same, bounded in each step. -/
def wayC (j : Nat) (l : List Evx) : Nat → Nat := l.foldl (fun W x => wayM (tickN x.tk j) W) way0
def sumTo (f : Nat → Nat) : Nat → Nat
  | 0 => 0
  | n + 1 => sumTo f n + f n
theorem tickN_pos (t : Int) (j : Nat) : 1 ≤ tickN t j := by unfold tickN; omega
theorem tickN_le (t : Int) (j : Nat) (hj : j ≤ 64) : tickN t j ≤ 129 := by unfold tickN; omega
theorem wayG_snoc (j : Nat) (l : List Evx) (x : Evx) : wayG j (l ++ [x]) = wayS (tickN x.tk j) (wayG j l) := by simp [wayG]
theorem wayC_snoc (j : Nat) (l : List Evx) (x : Evx) : wayC j (l ++ [x]) = wayM (tickN x.tk j) (wayC j l) := by simp [wayC]
theorem cap_step {T : Nat} (hT : 1 ≤ T) {W C : Nat → Nat} (h : ∀ q, C q = min (W q) 20001) : ∀ q, wayM T C q = min (wayS T W q) 20001 := by
  intro q
  unfold wayM wayS
  have key : ∀ q, min (C q * T) 20001 = min (W q * T) 20001 := fun q => by
    have h1 := h q
    by_cases c : W q ≤ 20001
    · rw [show C q = W q by omega]
    · have e : C q = 20001 := by omega
      have h2 : 20001 ≤ 20001 * T := Nat.le_mul_of_pos_right _ hT
      have h3 : W q ≤ W q * T := Nat.le_mul_of_pos_right _ hT
      rw [e]; omega
  have k1 := key q
  by_cases hq : q = 0
  · rw [if_pos hq, if_pos hq]; omega
  · rw [if_neg hq, if_neg hq]
    have k2 := h (q - 1)
    omega
theorem wayC_eq (j : Nat) : ∀ (l : List Evx) (q : Nat), wayC j l q = min (wayG j l q) 20001 := by
  have key : ∀ (l : List Evx) (W C : Nat → Nat), (∀ q, C q = min (W q) 20001) → ∀ q, l.foldl (fun W x => wayM (tickN x.tk j) W) C q = min (l.foldl (fun W x => wayS (tickN x.tk j) W) W q) 20001 := by
    intro l
    induction l with
    | nil => intro W C h q; exact h q
    | cons x r ih => intro W C h q; exact ih _ _ (cap_step (tickN_pos _ _) h) q
  intro l q
  exact key l way0 way0 (fun q => by unfold way0; split <;> omega) q
theorem wayC_le (j : Nat) (l : List Evx) (q : Nat) : wayC j l q ≤ 20001 := by rw [wayC_eq]; omega
theorem sumTo_le {f g : Nat → Nat} (h : ∀ q, f q ≤ g q) : ∀ n, sumTo f n ≤ sumTo g n
  | 0 => Nat.le_refl _
  | n + 1 => Nat.add_le_add (sumTo_le h n) (h n)
theorem sumTo_bound {f : Nat → Nat} {b : Nat} (h : ∀ q, f q ≤ b) : ∀ n, sumTo f n ≤ n * b
  | 0 => by simp [sumTo]
  | n + 1 => by have := sumTo_bound h n; have := h n; rw [Nat.succ_mul]; simp only [sumTo]; omega
theorem sumTo_mono {f : Nat → Nat} {n : Nat} : ∀ m, n ≤ m → sumTo f n ≤ sumTo f m
  | 0, h => by rw [Nat.le_zero.1 h]; exact Nat.le_refl _
  | m + 1, h => by
    by_cases e : n = m + 1
    · rw [e]; exact Nat.le_refl _
    · exact Nat.le_trans (sumTo_mono m (by omega)) (Nat.le_add_right _ _)
theorem sumC_eq (j : Nat) (l : List Evx) : ∀ n, sumTo (wayC j l) n ≤ 20000 → sumTo (wayG j l) n = sumTo (wayC j l) n
  | 0, _ => rfl
  | n + 1, h => by
    simp only [sumTo] at h ⊢
    have h1 := wayC_eq j l n
    rw [sumC_eq j l n (by omega)]
    omega
/-- What Runs returns: a number and an error. -/
def runsR (l : List Evx) (j s : Int) : Int × Int :=
  if 64 < l.length then (0, 9) else if (inR j 0 64 && inR s 0 64) = false then (0, 3) else if (l.all fun x => inR x.tk 0 9999) = false then (0, 3) else
    if 20000 < sumTo (wayG j.toNat l) (s.toNat + 1) then (0, 9) else ((sumTo (wayG j.toNat l) (s.toNat + 1) : Nat), 0)
theorem runsR_C (l : List Evx) (j s : Int) (h1 : ¬ 64 < l.length) (h2 : (inR j 0 64 && inR s 0 64) = true) (h3 : (l.all fun x => inR x.tk 0 9999) = true) :
    runsR l j s = if 20000 < sumTo (wayC j.toNat l) (s.toNat + 1) then ((0 : Int), (9 : Int)) else (((sumTo (wayC j.toNat l) (s.toNat + 1) : Nat) : Int), (0 : Int)) := by
  unfold runsR
  rw [if_neg h1, if_neg (by simp [h2]), if_neg (by simp [h3])]
  have hle : sumTo (wayC j.toNat l) (s.toNat + 1) ≤ sumTo (wayG j.toNat l) (s.toNat + 1) := sumTo_le (fun q => by rw [wayC_eq]; omega) _
  by_cases c : 20000 < sumTo (wayC j.toNat l) (s.toNat + 1)
  · rw [if_pos c, if_pos (by omega)]
  · rw [if_neg c, sumC_eq _ _ _ (by omega), if_neg c]
end Go.Proofs.YtnbndciididpoaaGreat
