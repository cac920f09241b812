/- A simulation in memory. -/
import Derived.Test.YtgbcdebnanejpaaNp
namespace Go.Proofs.Ytgbcdebnanejpaa
set_option linter.unusedVariables false
open Go.RowKit Go.Shelf

def rowC (n : Nat) (f : Nat → Int) : List Value := (List.range n).map fun i => .int .i64 (f i)
def stC (st : List (Int × Int)) : List Value := st.flatMap fun s => [.int .i64 s.1, .int .i64 s.2]
theorem rowC_length (n : Nat) (f : Nat → Int) : (rowC n f).length = n := by simp [rowC]
theorem rowC_at {n : Nat} {f : Nat → Int} {i : Nat} (h : i < n) : (rowC n f)[i]? = some (.int .i64 (f i)) := by simp [rowC, h]
theorem stC_length (st : List (Int × Int)) : (stC st).length = st.length * 2 := by
  induction st with
  | nil => rfl
  | cons s l ih => simp [stC] at *; omega
theorem stC_at : ∀ (st : List (Int × Int)) (j : Nat) (s : Int × Int), st[j]? = some s → (stC st)[j * 2]? = some (.int .i64 s.1) ∧ (stC st)[j * 2 + 1]? = some (.int .i64 s.2)
  | [], j, s, h => by simp at h
  | x :: l, 0, s, h => by cases h; simp [stC]
  | x :: l, j + 1, s, h => by
    have ih := stC_at l j s (by simpa using h)
    have e : stC (x :: l) = [.int .i64 x.1, .int .i64 x.2] ++ stC l := by simp [stC]
    rw [e, List.getElem?_append_right (by simp; omega), List.getElem?_append_right (by simp; omega)]
    simp only [List.length_cons, List.length_nil]
    rw [show (j + 1) * 2 - (0 + 1 + 1) = j * 2 from by omega, show (j + 1) * 2 + 1 - (0 + 1 + 1) = j * 2 + 1 from by omega]
    exact ih
/-- A block that holds a row of ints. -/
def RowAt (W : World) (b n : Nat) (f : Nat → Int) : Prop := W.heap[b]? = some (.cells (rowC n f).toArray 3)
theorem RowAt.cell {W : World} {b n i : Nat} {f : Nat → Int} (h : RowAt W b n f) (hi : i < n) : W.cell? ⟨b, i, none⟩ = some (.int .i64 (f i)) ∧ W.frozen? ⟨b, i, none⟩ = false := by
  unfold RowAt at h
  have := rowC_at (f := f) hi
  constructor
  · simp [World.cell?, h]; simpa using this
  · simp [World.frozen?, h]
theorem RowAt.set {W : World} {b n i : Nat} {f : Nat → Int} (h : RowAt W b n f) (hi : i < n) (x : Int) : RowAt (W.setCell ⟨b, i, none⟩ (.int .i64 x)) b n (fun j => if j = i then x else f j) := by
  have e0 : (W.setCell ⟨b, i, none⟩ (.int .i64 x)).heap[b]? = some (.cells ((rowC n f).set i (.int .i64 x)).toArray 3) := by
    unfold RowAt at h
    simp [World.setCell, Array.getElem?_modify, h]
  unfold RowAt
  rw [e0]
  have e1 : (rowC n f).set i (.int .i64 x) = rowC n (fun j => if j = i then x else f j) := by
    apply List.ext_getElem
    · simp [rowC]
    · intro j h1 h2
      simp only [rowC, List.getElem_set, List.getElem_map, List.getElem_range]
      by_cases e : i = j
      · subst e; simp
      · rw [if_neg e, if_neg (fun h => e h.symm)]
  rw [e1]

structure SimZ where
  bs : Nat
  nv : Value
  mb : Nat
  base : Nat
  mn : Nat
  sl : Int → Value
  sb : Nat
  rb : Nat → Nat
def simHead (n : NetM) (z : SimZ) (t : Nat) : List Value := [.pointer (some ⟨z.bs, 0, none⟩), z.nv, .int .i64 n.inp, .map (some z.mb), .int .i64 (t : Int), .slice (some ⟨z.sb, 0, none⟩) n.ps.length n.ps.length]
def simRows (n : NetM) (z : SimZ) : List Value := (List.range 16).map fun d => .slice (some ⟨z.rb d, 0, none⟩) n.ps.length n.ps.length
/-- The blocks that a simulation writes. -/
def SimZ.mut (z : SimZ) (b : Nat) : Prop := b = z.bs ∨ b = z.sb ∨ ∃ d, d < 16 ∧ b = z.rb d
/-- A simulation in the tick t; its rows stand for the ticks from r0 on. -/
structure SimAt (n : NetM) (A : World) (B : Nat) (z : SimZ) (t r0 : Nat) (st : List (Int × Int)) (due : Due) : Prop where
  blk : A.heap[z.bs]? = some (.cells (simHead n z t ++ simRows n z).toArray 104)
  ps : PsAt A z.nv n.ps
  psM : ∀ g, z.nv.ownBlock = some g → ¬ z.mut g
  wires : WiresAt A z.mb z.base z.mn n.ss z.sl
  wiM : ∀ x g, (z.sl x).ownBlock = some g → ¬ z.mut g
  mbM : ¬ z.mut z.mb
  stb : A.heap[z.sb]? = some (.cells (stC st).toArray 98)
  len : st.length = n.ps.length
  row : ∀ a, r0 ≤ a → a < r0 + 16 → RowAt A (z.rb (a % 16)) n.ps.length (due a)
  zero : ∀ a i, r0 + 16 ≤ a → due a i = 0
  inj : ∀ d d', d < 16 → d' < 16 → z.rb d = z.rb d' → d = d'
  ne1 : z.bs ≠ z.sb
  ne2 : ∀ d, d < 16 → z.bs ≠ z.rb d
  ne3 : ∀ d, d < 16 → z.sb ≠ z.rb d
  lo : ∀ b, z.mut b → B ≤ b
theorem SimAt.head {n : NetM} {A : World} {B : Nat} {z : SimZ} {t r0 : Nat} {st : List (Int × Int)} {due : Due} (h : SimAt n A B z t r0 st due) :
    A.cell? ⟨z.bs, 0, none⟩ = some (.pointer (some ⟨z.bs, 0, none⟩)) ∧ A.cell? ⟨z.bs, 1, none⟩ = some z.nv ∧ A.cell? ⟨z.bs, 2, none⟩ = some (.int .i64 n.inp) ∧ A.cell? ⟨z.bs, 3, none⟩ = some (.map (some z.mb)) ∧ A.cell? ⟨z.bs, 4, none⟩ = some (.int .i64 (t : Int)) ∧ A.cell? ⟨z.bs, 5, none⟩ = some (.slice (some ⟨z.sb, 0, none⟩) n.ps.length n.ps.length) := by
  have hb := h.blk
  simp only [simHead, List.cons_append, List.nil_append] at hb
  refine ⟨?_, ?_, ?_, ?_, ?_, ?_⟩ <;> simp [World.cell?, hb]
theorem SimAt.rowSlice {n : NetM} {A : World} {B : Nat} {z : SimZ} {t r0 : Nat} {st : List (Int × Int)} {due : Due} (h : SimAt n A B z t r0 st due) (a : Nat) : A.cell? ⟨z.bs, 6 + a % 16, none⟩ = some (.slice (some ⟨z.rb (a % 16), 0, none⟩) n.ps.length n.ps.length) := by
  have hb := h.blk
  have hd : a % 16 < 16 := Nat.mod_lt _ (by omega)
  have e : (simHead n z t ++ simRows n z)[6 + a % 16]? = some (.slice (some ⟨z.rb (a % 16), 0, none⟩) n.ps.length n.ps.length) := by
    rw [List.getElem?_append_right (by simp [simHead])]
    simp [simHead, simRows, hd]
  unfold World.cell?
  rw [hb]
  simpa using e
/-- What a simulation does not write may change. -/
theorem SimAt.keep {n : NetM} {A A' : World} {B : Nat} {z : SimZ} {t r0 : Nat} {st : List (Int × Int)} {due : Due} (h : SimAt n A B z t r0 st due) (hb : ∀ b, b < A.heap.size → A'.heap[b]? = A.heap[b]?) (hs : A.heap.size ≤ A'.heap.size) : SimAt n A' B z t r0 st due := by
  have hc : ∀ b o, b < A.heap.size → A'.cell? ⟨b, o, none⟩ = A.cell? ⟨b, o, none⟩ := fun b o hl => by unfold World.cell?; rw [hb b hl]
  refine ⟨(hb _ (lt_of_block h.blk)).trans h.blk, ?_, h.psM, h.wires.of_block (hb _ h.wires.map.lt) (fun b _ h2 => hb b h2), h.wiM, h.mbM, (hb _ (lt_of_block h.stb)).trans h.stb, h.len, fun a h1 h2 => (hb _ (lt_of_block (h.row a h1 h2))).trans (h.row a h1 h2), h.zero, h.inj, h.ne1, h.ne2, h.ne3, h.lo⟩
  rcases h.ps with h0 | ⟨b, off, cap, e, hl, h1⟩
  · exact Or.inl h0
  · refine Or.inr ⟨b, off, cap, e, by omega, fun k p hk => ?_⟩
    obtain ⟨c0, c1, c2, c3, c4, c5, c6, c7⟩ := h1 k p hk
    exact ⟨(hc _ _ hl).trans c0, (hc _ _ hl).trans c1, (hc _ _ hl).trans c2, (hc _ _ hl).trans c3, (hc _ _ hl).trans c4, (hc _ _ hl).trans c5, (hc _ _ hl).trans c6, (hc _ _ hl).trans c7⟩
end Go.Proofs.Ytgbcdebnanejpaa
