/- Rows of neurons, synapses, taps and marks; such arguments. Over this seat's program. (mk_Gb.py wrote this.) -/
import Derived.Test.YtmgdildbngbibaaGa
import Derived.Test.YtmgdildbngbibaaNd
import Derived.Deep.RegionHeld3
import Derived.OpenShut
import Derived.ProofKit
import Derived.ChangeSlices
import Derived.WideShapes
namespace Go.Proofs.Ytmgdildbngbibaa
set_option linter.unusedVariables false
open Go.RowKit Go.Shelf Go.ChangeShapes Go.WideShapes Go.ChangeAt

def prmV (p : Prm) : List Value := [.int .i64 p.lk, .int .i64 p.lv, .int .i64 p.bi, .int .i64 p.th, .int .i64 p.rk, .int .i64 p.rs, .int .i64 p.fl, .int .i64 p.re]
def prmCs (l : List Prm) : List Value := l.flatMap prmV
theorem prmCs_length (l : List Prm) : (prmCs l).length = l.length * 8 := by
  induction l with
  | nil => rfl
  | cons s l ih => simp [prmCs, prmV] at *; omega
theorem prmCs_append (l m : List Prm) : prmCs (l ++ m) = prmCs l ++ prmCs m := by simp [prmCs]
theorem prmCs_one (p : Prm) : prmCs [p] = prmV p := by simp [prmCs]
theorem prmCs_get : ∀ (l : List Prm) (i c : Nat) (s : Prm), c < 8 → l[i]? = some s → (prmCs l)[i * 8 + c]? = (prmV s)[c]?
  | [], i, c, r, _, h => by simp at h
  | x :: rs, 0, c, r, hc, h => by
    simp at h; subst h
    rw [prmCs, List.flatMap_cons, List.getElem?_append_left (by simp [prmV]; omega)]
    simp
  | x :: rs, i + 1, c, r, hc, h => by
    rw [prmCs, List.flatMap_cons, List.getElem?_append_right (by simp [prmV]; omega)]
    have := prmCs_get rs i c r hc (by simpa using h)
    rw [← this, prmCs]
    congr 1
    simp [prmV]; omega
theorem prmV_one {u : Value} {l : List Prm} (h : u ∈ prmCs l) : u.oneCell' = true := by
  obtain ⟨s, _, hs⟩ := List.mem_flatMap.1 h
  simp [prmV] at hs
  rcases hs with rfl | rfl | rfl | rfl | rfl | rfl | rfl | rfl <;> rfl
theorem psAt_of_owns {W : World} {base : Nat} {v : Value} {l : List Prm} (h : W.ownsRow base 125 8 v l.length (prmCs l)) : PsAt W v l := by
  rcases h.2 with ⟨rfl, h0⟩ | ⟨g, cap, cur, rfl, hb, hg, _, _, _, ht⟩
  · exact Or.inl ⟨rfl, List.eq_nil_of_length_eq_zero h0⟩
  · refine Or.inr ⟨g, 0, cap, rfl, (Array.getElem?_eq_some_iff.1 hg).1, fun k r hk => ?_⟩
    have key : ∀ c u, c < 8 → (prmV r)[c]? = some u → W.cell? ⟨g, 0 + k * 8 + c, none⟩ = some u := fun c u hc hu => by
      have h1 := h.cells (g := g) rfl (k * 8 + c) u (by rw [prmCs_get l k c r hc hk]; exact hu)
      have hadd : (⟨g, 0, none⟩ : Addr).add (k * 8 + c) = ⟨g, k * 8 + c, none⟩ := by unfold Addr.add; split <;> simp_all
      rw [hadd] at h1
      rw [show 0 + k * 8 + c = k * 8 + c by omega]; exact h1
    exact ⟨key 0 _ (by omega) rfl, key 1 _ (by omega) rfl, key 2 _ (by omega) rfl, key 3 _ (by omega) rfl, key 4 _ (by omega) rfl, key 5 _ (by omega) rfl, key 6 _ (by omega) rfl, key 7 _ (by omega) rfl⟩
theorem prmCs_cell {W : World} {b off : Nat} {l : List Prm} (h : ∀ k s, l[k]? = some s → PrmCells W b (off + k * 8) s) : ∀ (j : Nat) u, (prmCs l)[j]? = some u → W.cell? ⟨b, off + j, none⟩ = some u := fun j u hu => by
  have hj : j < l.length * 8 := by rw [← prmCs_length]; exact (List.getElem?_eq_some_iff.1 hu).1
  obtain ⟨s, hs⟩ : ∃ s, l[j / 8]? = some s := ⟨_, List.getElem?_eq_getElem (by omega)⟩
  have h1 := prmCs_get l (j / 8) (j % 8) s (by omega) hs
  rw [show j / 8 * 8 + j % 8 = j by omega, hu] at h1
  obtain ⟨c0, c1, c2, c3, c4, c5, c6, c7⟩ := h _ _ hs
  have hq : j = j / 8 * 8 + j % 8 := by omega
  have hm : j % 8 = 0 ∨ j % 8 = 1 ∨ j % 8 = 2 ∨ j % 8 = 3 ∨ j % 8 = 4 ∨ j % 8 = 5 ∨ j % 8 = 6 ∨ j % 8 = 7 := by omega
  rcases hm with e | e | e | e | e | e | e | e <;> rw [e] at h1 hq <;> simp [prmV] at h1 <;> subst h1 <;> rw [hq]
  · exact c0
  · rw [← Nat.add_assoc]; exact c1
  · rw [← Nat.add_assoc]; exact c2
  · rw [← Nat.add_assoc]; exact c3
  · rw [← Nat.add_assoc]; exact c4
  · rw [← Nat.add_assoc]; exact c5
  · rw [← Nat.add_assoc]; exact c6
  · rw [← Nat.add_assoc]; exact c7

def synV (s : Syn) : List Value := [.int .i64 s.fr, .int .i64 s.to, .int .i64 s.wt, .int .i64 s.dl]
def synCs (l : List Syn) : List Value := l.flatMap synV
theorem synCs_length (l : List Syn) : (synCs l).length = l.length * 4 := by
  induction l with
  | nil => rfl
  | cons s l ih => simp [synCs, synV] at *; omega
theorem synCs_snoc (l : List Syn) (s : Syn) : synCs (l ++ [s]) = synCs l ++ synV s := by simp [synCs]
theorem synCs_get : ∀ (l : List Syn) (i c : Nat) (s : Syn), c < 4 → l[i]? = some s → (synCs l)[i * 4 + c]? = (synV s)[c]?
  | [], i, c, r, _, h => by simp at h
  | x :: rs, 0, c, r, hc, h => by
    simp at h; subst h
    rw [synCs, List.flatMap_cons, List.getElem?_append_left (by simp [synV]; omega)]
    simp
  | x :: rs, i + 1, c, r, hc, h => by
    rw [synCs, List.flatMap_cons, List.getElem?_append_right (by simp [synV]; omega)]
    have := synCs_get rs i c r hc (by simpa using h)
    rw [← this, synCs]
    congr 1
    simp [synV]; omega
theorem synV_one {u : Value} {l : List Syn} (h : u ∈ synCs l) : u.oneCell' = true := by
  obtain ⟨s, _, hs⟩ := List.mem_flatMap.1 h
  simp [synV] at hs
  rcases hs with rfl | rfl | rfl | rfl <;> rfl
theorem ssAt_of_owns {W : World} {base : Nat} {v : Value} {l : List Syn} (h : W.ownsRow base 128 4 v l.length (synCs l)) : SsAt W v l := by
  rcases h.2 with ⟨rfl, h0⟩ | ⟨g, cap, cur, rfl, hb, hg, _, _, _, ht⟩
  · exact Or.inl ⟨rfl, List.eq_nil_of_length_eq_zero h0⟩
  · refine Or.inr ⟨g, 0, cap, rfl, (Array.getElem?_eq_some_iff.1 hg).1, fun k r hk => ?_⟩
    have key : ∀ c u, c < 4 → (synV r)[c]? = some u → W.cell? ⟨g, 0 + k * 4 + c, none⟩ = some u := fun c u hc hu => by
      have h1 := h.cells (g := g) rfl (k * 4 + c) u (by rw [synCs_get l k c r hc hk]; exact hu)
      have hadd : (⟨g, 0, none⟩ : Addr).add (k * 4 + c) = ⟨g, k * 4 + c, none⟩ := by unfold Addr.add; split <;> simp_all
      rw [hadd] at h1
      rw [show 0 + k * 4 + c = k * 4 + c by omega]; exact h1
    exact ⟨key 0 _ (by omega) rfl, key 1 _ (by omega) rfl, key 2 _ (by omega) rfl, key 3 _ (by omega) rfl⟩
theorem synCs_cell {W : World} {b off m : Nat} {l : List Syn} (h : ∀ k s, l[k]? = some s → SynCells W b (off + k * 4) s) : ∀ (j : Nat) u, (synCs l)[j]? = some u → W.cell? ⟨b, off + j, none⟩ = some u := fun j u hu => by
  have hj : j < l.length * 4 := by rw [← synCs_length]; exact (List.getElem?_eq_some_iff.1 hu).1
  obtain ⟨s, hs⟩ : ∃ s, l[j / 4]? = some s := ⟨_, List.getElem?_eq_getElem (by omega)⟩
  have h1 := synCs_get l (j / 4) (j % 4) s (by omega) hs
  rw [show j / 4 * 4 + j % 4 = j by omega, hu] at h1
  obtain ⟨c0, c1, c2, c3⟩ := h _ _ hs
  have hq : j = j / 4 * 4 + j % 4 := by omega
  have hm : j % 4 = 0 ∨ j % 4 = 1 ∨ j % 4 = 2 ∨ j % 4 = 3 := by omega
  rcases hm with e | e | e | e <;> rw [e] at h1 hq <;> simp [synV] at h1 <;> subst h1 <;> rw [hq]
  · exact c0
  · rw [← Nat.add_assoc]; exact c1
  · rw [← Nat.add_assoc]; exact c2
  · rw [← Nat.add_assoc]; exact c3

/-! ### taps -/
structure Tap where
  ip : Int
  wt : Int
  dl : Int
def tapV (s : Tap) : List Value := [.int .i64 s.ip, .int .i64 s.wt, .int .i64 s.dl]
def tapCs (l : List Tap) : List Value := l.flatMap tapV
theorem tapCs_length (l : List Tap) : (tapCs l).length = l.length * 3 := by
  induction l with
  | nil => rfl
  | cons s l ih => simp [tapCs, tapV] at *; omega
theorem tapCs_snoc (l : List Tap) (s : Tap) : tapCs (l ++ [s]) = tapCs l ++ tapV s := by simp [tapCs]
theorem tapCs_get : ∀ (l : List Tap) (i c : Nat) (s : Tap), c < 3 → l[i]? = some s → (tapCs l)[i * 3 + c]? = (tapV s)[c]?
  | [], i, c, r, _, h => by simp at h
  | x :: rs, 0, c, r, hc, h => by
    simp at h; subst h
    rw [tapCs, List.flatMap_cons, List.getElem?_append_left (by simp [tapV]; omega)]
    simp
  | x :: rs, i + 1, c, r, hc, h => by
    rw [tapCs, List.flatMap_cons, List.getElem?_append_right (by simp [tapV]; omega)]
    have := tapCs_get rs i c r hc (by simpa using h)
    rw [← this, tapCs]
    congr 1
    simp [tapV]; omega
structure TapCells (W : World) (b o : Nat) (s : Tap) : Prop where
  c0 : W.cell? ⟨b, o, none⟩ = some (.int .i64 s.ip)
  c1 : W.cell? ⟨b, o + 1, none⟩ = some (.int .i64 s.wt)
  c2 : W.cell? ⟨b, o + 2, none⟩ = some (.int .i64 s.dl)
def TapsAt (W : World) (sv : Value) (l : List Tap) : Prop :=
  (sv = .slice none 0 0 ∧ l = []) ∨ ∃ b off cap, sv = .slice (some ⟨b, off, none⟩) l.length cap ∧ b < W.heap.size ∧ ∀ k s, l[k]? = some s → TapCells W b (off + k * 3) s
theorem TapCells.below {W w1 : World} {b o : Nat} {s : Tap} (h : TapCells W b o s) (hb : Below W.heap.size W w1) (hl : b < W.heap.size) : TapCells w1 b o s := by
  obtain ⟨hc, _⟩ := bcell hb
  exact ⟨(hc _ _ hl).trans h.c0, (hc _ _ hl).trans h.c1, (hc _ _ hl).trans h.c2⟩
theorem TapsAt.below {W w1 : World} {sv : Value} {l : List Tap} (h : TapsAt W sv l) (hb : Below W.heap.size W w1) : TapsAt w1 sv l := by
  rcases h with h | ⟨b, off, cap, e, hl, h⟩
  · exact Or.inl h
  · exact Or.inr ⟨b, off, cap, e, Nat.lt_of_lt_of_le hl hb.size, fun k p hk => (h k p hk).below hb hl⟩
theorem TapsAt.at {W : World} {a : Option Addr} {n cap : Nat} {l : List Tap} (h : TapsAt W (.slice a n cap) l) {k : Nat} {s : Tap} (hk : l[k]? = some s) : ∃ b off, a = some ⟨b, off, none⟩ ∧ b < W.heap.size ∧ TapCells W b (off + k * 3) s := by
  rcases h with ⟨_, rfl⟩ | ⟨b, off, cap', e, hl, h⟩
  · simp at hk
  · cases e; exact ⟨b, off, rfl, hl, h k _ hk⟩
theorem tapAt_of_owns {W : World} {base e : Nat} {v : Value} {l : List Tap} (h : W.ownsRow base e 3 v l.length (tapCs l)) : TapsAt W v l := by
  rcases h.2 with ⟨rfl, h0⟩ | ⟨g, cap, cur, rfl, hb, hg, _, _, _, ht⟩
  · exact Or.inl ⟨rfl, List.eq_nil_of_length_eq_zero h0⟩
  · refine Or.inr ⟨g, 0, cap, rfl, (Array.getElem?_eq_some_iff.1 hg).1, fun k r hk => ?_⟩
    have key : ∀ c u, c < 3 → (tapV r)[c]? = some u → W.cell? ⟨g, 0 + k * 3 + c, none⟩ = some u := fun c u hc hu => by
      have h1 := h.cells (g := g) rfl (k * 3 + c) u (by rw [tapCs_get l k c r hc hk]; exact hu)
      have hadd : (⟨g, 0, none⟩ : Addr).add (k * 3 + c) = ⟨g, k * 3 + c, none⟩ := by unfold Addr.add; split <;> simp_all
      rw [hadd] at h1
      rw [show 0 + k * 3 + c = k * 3 + c by omega]; exact h1
    exact ⟨key 0 _ (by omega) rfl, key 1 _ (by omega) rfl, key 2 _ (by omega) rfl⟩
/-! ### marks -/
structure Mrk where
  ip : Int
  of : Int
def mrkV (s : Mrk) : List Value := [.int .i64 s.ip, .int .i64 s.of]
def mrkCs (l : List Mrk) : List Value := l.flatMap mrkV
theorem mrkCs_length (l : List Mrk) : (mrkCs l).length = l.length * 2 := by
  induction l with
  | nil => rfl
  | cons s l ih => simp [mrkCs, mrkV] at *; omega
theorem mrkCs_snoc (l : List Mrk) (s : Mrk) : mrkCs (l ++ [s]) = mrkCs l ++ mrkV s := by simp [mrkCs]
theorem mrkCs_get : ∀ (l : List Mrk) (i c : Nat) (s : Mrk), c < 2 → l[i]? = some s → (mrkCs l)[i * 2 + c]? = (mrkV s)[c]?
  | [], i, c, r, _, h => by simp at h
  | x :: rs, 0, c, r, hc, h => by
    simp at h; subst h
    rw [mrkCs, List.flatMap_cons, List.getElem?_append_left (by simp [mrkV]; omega)]
    simp
  | x :: rs, i + 1, c, r, hc, h => by
    rw [mrkCs, List.flatMap_cons, List.getElem?_append_right (by simp [mrkV]; omega)]
    have := mrkCs_get rs i c r hc (by simpa using h)
    rw [← this, mrkCs]
    congr 1
    simp [mrkV]; omega
structure MrkCells (W : World) (b o : Nat) (s : Mrk) : Prop where
  c0 : W.cell? ⟨b, o, none⟩ = some (.int .i64 s.ip)
  c1 : W.cell? ⟨b, o + 1, none⟩ = some (.int .i64 s.of)
def MrksAt (W : World) (sv : Value) (l : List Mrk) : Prop :=
  (sv = .slice none 0 0 ∧ l = []) ∨ ∃ b off cap, sv = .slice (some ⟨b, off, none⟩) l.length cap ∧ b < W.heap.size ∧ ∀ k s, l[k]? = some s → MrkCells W b (off + k * 2) s
theorem MrkCells.below {W w1 : World} {b o : Nat} {s : Mrk} (h : MrkCells W b o s) (hb : Below W.heap.size W w1) (hl : b < W.heap.size) : MrkCells w1 b o s := by
  obtain ⟨hc, _⟩ := bcell hb
  exact ⟨(hc _ _ hl).trans h.c0, (hc _ _ hl).trans h.c1⟩
theorem MrksAt.below {W w1 : World} {sv : Value} {l : List Mrk} (h : MrksAt W sv l) (hb : Below W.heap.size W w1) : MrksAt w1 sv l := by
  rcases h with h | ⟨b, off, cap, e, hl, h⟩
  · exact Or.inl h
  · exact Or.inr ⟨b, off, cap, e, Nat.lt_of_lt_of_le hl hb.size, fun k p hk => (h k p hk).below hb hl⟩
theorem MrksAt.at {W : World} {a : Option Addr} {n cap : Nat} {l : List Mrk} (h : MrksAt W (.slice a n cap) l) {k : Nat} {s : Mrk} (hk : l[k]? = some s) : ∃ b off, a = some ⟨b, off, none⟩ ∧ b < W.heap.size ∧ MrkCells W b (off + k * 2) s := by
  rcases h with ⟨_, rfl⟩ | ⟨b, off, cap', e, hl, h⟩
  · simp at hk
  · cases e; exact ⟨b, off, rfl, hl, h k _ hk⟩
theorem mrkAt_of_owns {W : World} {base e : Nat} {v : Value} {l : List Mrk} (h : W.ownsRow base e 2 v l.length (mrkCs l)) : MrksAt W v l := by
  rcases h.2 with ⟨rfl, h0⟩ | ⟨g, cap, cur, rfl, hb, hg, _, _, _, ht⟩
  · exact Or.inl ⟨rfl, List.eq_nil_of_length_eq_zero h0⟩
  · refine Or.inr ⟨g, 0, cap, rfl, (Array.getElem?_eq_some_iff.1 hg).1, fun k r hk => ?_⟩
    have key : ∀ c u, c < 2 → (mrkV r)[c]? = some u → W.cell? ⟨g, 0 + k * 2 + c, none⟩ = some u := fun c u hc hu => by
      have h1 := h.cells (g := g) rfl (k * 2 + c) u (by rw [mrkCs_get l k c r hc hk]; exact hu)
      have hadd : (⟨g, 0, none⟩ : Addr).add (k * 2 + c) = ⟨g, k * 2 + c, none⟩ := by unfold Addr.add; split <;> simp_all
      rw [hadd] at h1
      rw [show 0 + k * 2 + c = k * 2 + c by omega]; exact h1
    exact ⟨key 0 _ (by omega) rfl, key 1 _ (by omega) rfl⟩
theorem info_P : (Try.prog.info? 125).map (fun i => (i.zero, i.size, i.bytes)) = some (some (.agg #[.int .i64 0, .int .i64 0, .int .i64 0, .int .i64 0, .int .i64 0, .int .i64 0, .int .i64 0, .int .i64 0]), 8, 64) := by kernel_rfl
theorem el_P : ElT Try.prog 29 125 8 64 := by
  obtain ⟨i, h1, h2, h3, h4⟩ := info_parts info_P
  exact ⟨Try.underlying29, ⟨i, _, h1, h2, h3, h4, rfl⟩, by decide⟩
theorem info_Y : (Try.prog.info? 128).map (fun i => (i.zero, i.size, i.bytes)) = some (some (.agg #[.int .i64 0, .int .i64 0, .int .i64 0, .int .i64 0]), 4, 32) := by kernel_rfl
theorem el_Y : ElT Try.prog 30 128 4 32 := by
  obtain ⟨i, h1, h2, h3, h4⟩ := info_parts info_Y
  exact ⟨Try.underlying30, ⟨i, _, h1, h2, h3, h4, rfl⟩, by decide⟩
theorem info_T : (Try.prog.info? 70).map (fun i => (i.zero, i.size, i.bytes)) = some (some (.agg #[.int .i64 0, .int .i64 0, .int .i64 0]), 3, 24) := by kernel_rfl
theorem el_T : ElT Try.prog 67 70 3 24 := by
  obtain ⟨i, h1, h2, h3, h4⟩ := info_parts info_T
  exact ⟨Try.underlying67, ⟨i, _, h1, h2, h3, h4, rfl⟩, by decide⟩
theorem info_K : (Try.prog.info? 76).map (fun i => (i.zero, i.size, i.bytes)) = some (some (.agg #[.int .i64 0, .int .i64 0]), 2, 16) := by kernel_rfl
theorem el_K : ElT Try.prog 73 76 2 16 := by
  obtain ⟨i, h1, h2, h3, h4⟩ := info_parts info_K
  exact ⟨Try.underlying73, ⟨i, _, h1, h2, h3, h4, rfl⟩, by decide⟩

/-! ### arguments -/
theorem list_of {α : Type} {P : Nat → α → Prop} : ∀ (n : Nat), (∀ i, i < n → ∃ s, P i s) → ∃ l : List α, l.length = n ∧ ∀ i s, l[i]? = some s → P i s
  | 0, _ => ⟨[], rfl, fun i s h => by simp at h⟩
  | n + 1, h => by
    obtain ⟨l, h1, h2⟩ := list_of n fun i hi => h i (by omega)
    obtain ⟨s, hs⟩ := h n (by omega)
    refine ⟨l ++ [s], by simp [h1], fun i t ht => ?_⟩
    rcases Nat.lt_or_ge i n with hi | hi
    · rw [List.getElem?_append_left (by omega)] at ht; exact h2 i t ht
    · have hin : i = n := by have := (List.getElem?_eq_some_iff.1 ht).1; simp at this; omega
      subst hin
      rw [List.getElem?_append_right (by omega), h1] at ht
      simp at ht; subst ht; exact hs
section
variable {H : Type} {enc : TypeId × Value → H} {w : World} {base : Nat} {held : Bool}
section
variable {P : Program} {spare : Nat → Bool}
theorem has_lt {r : Reach} {b0 e n : Nat} {a : Addr} (h : w.has P r b0 a e n) : a.spot = none ∧ a.block < w.heap.size := by
  obtain ⟨_, hs, row, cells, hsh, _⟩ := h
  refine ⟨hs, ?_⟩
  unfold World.shape? at hsh
  cases hb : w.heap[a.block]? with
  | none => simp [hb] at hsh
  | some o => exact (Array.getElem?_eq_some_iff.mp hb).1
theorem cellOkWide_slice {r : Reach} {b0 t e : Nat} {v : Value} (ht : P.underlying t = some (.slice e)) (hv : Cell.okWide P w r b0 t v) : v = .slice none 0 0 ∨ ∃ b off n cap, v = .slice (some ⟨b, off, none⟩) n cap ∧ b < w.heap.size := by
  simp only [Cell.okWide, ht] at hv
  cases v <;> simp [Cell.ok, ht] at hv
  rename_i a n cap
  cases a with
  | none =>
    left
    cases n <;> cases cap <;> simp_all
  | some a =>
    right
    obtain ⟨_, _, hh⟩ := hv
    obtain ⟨hs, hl⟩ := has_lt hh
    obtain ⟨b, off, sp⟩ := a
    obtain rfl : sp = none := hs
    exact ⟨b, off, n, cap, rfl, hl⟩
theorem open_slice_cells {t e m : Nat} {fs : Array Field} {fuel b off n cap : Nat} {x : DataW H × List MemPlace} (ht : P.underlying t = some (.slice e)) (hs : P.underlying e = some (.struct fs))
    (hf : ∀ (i : Nat) (f : Field), fs[i]? = some f → f.offset = i ∧ P.cellsOf f.type = 1) (hm : fs.size = m) (hC : P.cellsOf e = m)
    (h : DataW.trod enc P w base spare held fuel t [.slice (some ⟨b, off, none⟩) n cap] = some x) :
    n ≤ maxLen ∧ ∀ (i j : Nat) (f : Field), i < n → fs[j]? = some f → ∃ c g y, w.cell? ⟨b, off + i * m + j, none⟩ = some c ∧ DataW.trod enc P w base spare held g f.type [c] = some y := by
  rcases DataW.trod_slice ht h with ⟨h0, _⟩ | ⟨a, len, cap', elems, rest, g, _, h1, _, _, hl, hmx, hlen, hel, _, _⟩
  · simp at h0
  · simp at h1
    obtain ⟨rfl, rfl, rfl⟩ := h1
    refine ⟨Nat.le_trans hl hmx, fun i j f hin hfj => ?_⟩
    have hj : j < m := by have := (Array.getElem?_eq_some_iff.1 hfj).1; omega
    have h2 := hel i hin
    rw [List.getElem?_eq_getElem (by omega), Option.bind_eq_some_iff] at h2
    obtain ⟨cs, h3, h4⟩ := h2
    obtain ⟨xs, g', _, _, hcl, hxl, hg⟩ := DataW.trod_struct hs h4
    obtain ⟨ho, hk⟩ := hf j f hfj
    have h5 := hg j f hfj
    rw [ho, hk, List.getElem?_eq_getElem (by omega)] at h5
    have hjl : j < cs.length := by omega
    have e5 : List.take 1 (List.drop j cs) = [cs[j]] := by rw [List.drop_eq_getElem_cons hjl]; rfl
    rw [e5] at h5
    refine ⟨cs[j], g', _, ?_, h5⟩
    unfold World.cells? at h3
    split at h3
    · have h8 := mapM_some_get h3 j j (by simp [hC, hj])
      rw [List.getElem?_eq_getElem hjl] at h8
      rw [hC] at h8
      rw [← h8]
      congr 1
      unfold Addr.add
      split <;> split <;> simp_all <;> omega
    · simp at h3
end
theorem cells_Tap : Try.prog.cellsOf 69 = 3 := by kernel_rfl
set_option maxRecDepth 100000 in
/-- Taps as an argument. -/
theorem open_Taps {r : Reach} {b0 : Nat} {v : Value} {d : DataW H} {p : List MemPlace} (hv : Value.okWide Try.prog w r b0 65 v) (h : DataW.Trod enc Try.prog w base (fun _ => true) held 65 v d p) :
    ∃ l a c, v = .slice a l.length c ∧ TapsAt w (.slice a l.length c) l ∧ l.length ≤ maxLen ∧ ∀ s ∈ l, (Lit.int .i64 s.ip).wf = true ∧ (Lit.int .i64 s.wt).wf = true ∧ (Lit.int .i64 s.dl).wf = true := by
  have hv' : Cell.okWide Try.prog w r b0 65 v := by simpa only [Value.okWide, Try.underlying65] using hv
  obtain ⟨fuel, hfu⟩ := h
  rcases cellOkWide_slice Try.underlying65 hv' with rfl | ⟨b, off, n, cap, rfl, hl⟩
  · exact ⟨[], none, 0, rfl, Or.inl ⟨rfl, rfl⟩, by simp, by simp⟩
  · obtain ⟨hm, hc⟩ := open_slice_cells (m := 3) Try.underlying65 Try.underlying69 (by
      intro i f hf
      match i, hf with
      | 0, hf | 1, hf | 2, hf => cases hf; exact ⟨rfl, by kernel_rfl⟩
      | n + 3, hf => simp at hf) (by rfl) cells_Tap hfu
    have hrow : ∀ i, i < n → ∃ s : Tap, TapCells w b (off + i * 3) s ∧ ((Lit.int .i64 s.ip).wf = true ∧ (Lit.int .i64 s.wt).wf = true ∧ (Lit.int .i64 s.dl).wf = true) := fun i hi => by
      obtain ⟨c0, g0, y0, h0, k0⟩ := hc i 0 _ hi rfl
      obtain ⟨z0, q0, _, f0⟩ := DataW.trod_int Try.underlying3 k0
      obtain rfl : c0 = .int .i64 z0 := by simpa using q0
      obtain ⟨c1, g1, y1, h1, k1⟩ := hc i 1 _ hi rfl
      obtain ⟨z1, q1, _, f1⟩ := DataW.trod_int Try.underlying3 k1
      obtain rfl : c1 = .int .i64 z1 := by simpa using q1
      obtain ⟨c2, g2, y2, h2, k2⟩ := hc i 2 _ hi rfl
      obtain ⟨z2, q2, _, f2⟩ := DataW.trod_int Try.underlying3 k2
      obtain rfl : c2 = .int .i64 z2 := by simpa using q2
      exact ⟨⟨z0, z1, z2⟩, ⟨by simpa using h0, h1, h2⟩, f0, f1, f2⟩
    obtain ⟨l, hll, hls⟩ := list_of n hrow
    exact ⟨l, some ⟨b, off, none⟩, cap, by rw [hll], .inr ⟨b, off, cap, rfl, hl, fun j s hs => (hls j s hs).1⟩, by rw [hll]; exact hm, fun s hs => by
      obtain ⟨j, hj⟩ := List.getElem?_of_mem hs
      exact (hls j s hj).2⟩
theorem cells_Mrk : Try.prog.cellsOf 75 = 2 := by kernel_rfl
set_option maxRecDepth 100000 in
/-- Marks as an argument. -/
theorem open_Mrks {r : Reach} {b0 : Nat} {v : Value} {d : DataW H} {p : List MemPlace} (hv : Value.okWide Try.prog w r b0 66 v) (h : DataW.Trod enc Try.prog w base (fun _ => true) held 66 v d p) :
    ∃ l a c, v = .slice a l.length c ∧ MrksAt w (.slice a l.length c) l ∧ l.length ≤ maxLen ∧ ∀ s ∈ l, (Lit.int .i64 s.ip).wf = true ∧ (Lit.int .i64 s.of).wf = true := by
  have hv' : Cell.okWide Try.prog w r b0 66 v := by simpa only [Value.okWide, Try.underlying66] using hv
  obtain ⟨fuel, hfu⟩ := h
  rcases cellOkWide_slice Try.underlying66 hv' with rfl | ⟨b, off, n, cap, rfl, hl⟩
  · exact ⟨[], none, 0, rfl, Or.inl ⟨rfl, rfl⟩, by simp, by simp⟩
  · obtain ⟨hm, hc⟩ := open_slice_cells (m := 2) Try.underlying66 Try.underlying75 (by
      intro i f hf
      match i, hf with
      | 0, hf | 1, hf => cases hf; exact ⟨rfl, by kernel_rfl⟩
      | n + 2, hf => simp at hf) (by rfl) cells_Mrk hfu
    have hrow : ∀ i, i < n → ∃ s : Mrk, MrkCells w b (off + i * 2) s ∧ ((Lit.int .i64 s.ip).wf = true ∧ (Lit.int .i64 s.of).wf = true) := fun i hi => by
      obtain ⟨c0, g0, y0, h0, k0⟩ := hc i 0 _ hi rfl
      obtain ⟨z0, q0, _, f0⟩ := DataW.trod_int Try.underlying3 k0
      obtain rfl : c0 = .int .i64 z0 := by simpa using q0
      obtain ⟨c1, g1, y1, h1, k1⟩ := hc i 1 _ hi rfl
      obtain ⟨z1, q1, _, f1⟩ := DataW.trod_int Try.underlying3 k1
      obtain rfl : c1 = .int .i64 z1 := by simpa using q1
      exact ⟨⟨z0, z1⟩, ⟨by simpa using h0, h1⟩, f0, f1⟩
    obtain ⟨l, hll, hls⟩ := list_of n hrow
    exact ⟨l, some ⟨b, off, none⟩, cap, by rw [hll], .inr ⟨b, off, cap, rfl, hl, fun j s hs => (hls j s hs).1⟩, by rw [hll]; exact hm, fun s hs => by
      obtain ⟨j, hj⟩ := List.getElem?_of_mem hs
      exact (hls j s hj).2⟩
end
/-- A network by its lists. -/
def NetAt (W : World) (v : Value) (n : NetM) : Prop := ∃ a1 c1 a2 c2, v = .agg #[.slice a1 n.ps.length c1, .int .i64 n.inp, .slice a2 n.ss.length c2] ∧ PsAt W (.slice a1 n.ps.length c1) n.ps ∧ SsAt W (.slice a2 n.ss.length c2) n.ss
theorem NetAt.below {W w1 : World} {v : Value} {n : NetM} (h : NetAt W v n) (hb : Below W.heap.size W w1) : NetAt w1 v n := by
  obtain ⟨a1, c1, a2, c2, rfl, h1, h2⟩ := h
  exact ⟨a1, c1, a2, c2, rfl, h1.below hb, h2.below hb⟩
def netZ : NetM := ⟨[], 0, []⟩
theorem netZ_at (W : World) : NetAt W (.agg #[.slice none 0 0, .int .i64 0, .slice none 0 0]) netZ := ⟨none, 0, none, 0, rfl, Or.inl ⟨rfl, rfl⟩, Or.inl ⟨rfl, rfl⟩⟩
/-- What makes a network leaves: a network and an error. -/
def NetGot (X : Int) (N : NetM) (w : World) (e : Ending) (w' : World) : Prop := ∃ v, e = .returned (.tuple #[v, .int .i64 X]) ∧ NetAt w' v N ∧ Below w.heap.size w w'
end Go.Proofs.Ytmgdildbngbibaa
