/- What Join returns: the mathematics; own rows of neurons. -/
import Derived.Test.YtgbcdebnanejpaaRh
namespace Go.Proofs.Ytgbcdebnanejpaa.Rn
set_option linter.unusedVariables false
open Go.RowKit Go.Shelf

/-- A synapse of the second network, with its new numbers. -/
def shS (k : Nat) (i : Int) (s : Syn) : Syn := ⟨if s.fr < 0 then s.fr - i else s.fr + (k : Int), s.to + (k : Int), s.wt, s.dl⟩
def joinN (a b : NetM) : NetM := ⟨a.ps ++ b.ps, a.inp + b.inp, a.ss ++ b.ss.map (shS a.ps.length a.inp)⟩
def joinE (a b : NetM) : Int := if ncheck a ≠ 0 then ncheck a else if ncheck b ≠ 0 then ncheck b else ncheck (joinN a b)
def joinR (a b : NetM) : NetM := if joinE a b = 0 then joinN a b else netZ
/-- The synapses, after j of the second network's have been renamed. -/
def midJ (xs ss : List Syn) (k : Nat) (i : Int) (j : Nat) : List Syn := xs ++ ((ss.take j).map (shS k i) ++ ss.drop j)
theorem midJ_length (xs ss : List Syn) (k : Nat) (i : Int) (j : Nat) : (midJ xs ss k i j).length = xs.length + ss.length := by
  simp [midJ]; omega
theorem midJ_zero (xs ss : List Syn) (k : Nat) (i : Int) : midJ xs ss k i 0 = xs ++ ss := by simp [midJ]
theorem midJ_all (xs ss : List Syn) (k : Nat) (i : Int) : midJ xs ss k i ss.length = xs ++ ss.map (shS k i) := by simp [midJ]
theorem midJ_at (xs ss : List Syn) (k : Nat) (i : Int) {j : Nat} {s : Syn} (h : ss[j]? = some s) : (midJ xs ss k i j)[xs.length + j]? = some s := by
  have hj := (List.getElem?_eq_some_iff.1 h).1
  rw [midJ, List.getElem?_append_right (by omega), show xs.length + j - xs.length = j by omega, List.getElem?_append_right (by simp; omega)]
  simp
  rw [show j - min j ss.length = 0 by omega, Nat.add_zero]; exact h
theorem midJ_succ (xs ss : List Syn) (k : Nat) (i : Int) {j : Nat} {s : Syn} (h : ss[j]? = some s) : midJ xs ss k i (j + 1) = (midJ xs ss k i j).set (xs.length + j) (shS k i s) := by
  obtain ⟨hj, he⟩ := List.getElem?_eq_some_iff.1 h
  unfold midJ
  rw [List.set_append_right _ _ (by omega), show xs.length + j - xs.length = j by omega, List.set_append_right _ _ (by simp; omega)]
  have e1 : ss.drop j = s :: ss.drop (j + 1) := by rw [List.drop_eq_getElem_cons hj, he]
  rw [e1, List.take_add_one, h]
  have e2 : j - ((ss.take j).map (shS k i)).length = 0 := by simp; omega
  rw [e2]
  simp

/-! ### own rows of neurons -/
def prmV (p : Prm) : List Value := [.int .i64 p.lk, .int .i64 p.lv, .int .i64 p.bi, .int .i64 p.th, .int .i64 p.rk, .int .i64 p.rs, .int .i64 p.fl, .int .i64 p.re]
def prmCs (l : List Prm) : List Value := l.flatMap prmV
theorem prmCs_length (l : List Prm) : (prmCs l).length = l.length * 8 := by
  induction l with
  | nil => rfl
  | cons s l ih => simp [prmCs, prmV] at *; omega
theorem prmCs_append (l m : List Prm) : prmCs (l ++ m) = prmCs l ++ prmCs m := by simp [prmCs]
theorem prmCs_one (p : Prm) : prmCs [p] = prmV p := by simp [prmCs]
theorem synCs_append (l m : List Syn) : synCs (l ++ m) = synCs l ++ synCs m := by simp [synCs]
theorem prmCs_get : ∀ (l : List Prm) (i c : Nat) (s : Prm), c < 8 → l[i]? = some s → (prmCs l)[i * 8 + c]? = (prmV s)[c]?
  | [], i, c, r, _, h => by simp at h
  | x :: rs, 0, c, r, hc, h => by
    simp at h; subst h
    rw [prmCs, List.flatMap_cons, List.getElem?_append_left (by simp [prmV]; omega)]
    simp
  | x :: rs, i + 1, c, r, hc, h => by
    rw [prmCs, List.flatMap_cons, List.getElem?_append_right (by simp [prmV]; omega)]
    have := prmCs_get rs i c r hc (by simpa using h)
    rw [← this, prmCs]
    congr 1
    simp [prmV]; omega
theorem prmV_one {u : Value} {l : List Prm} (h : u ∈ prmCs l) : u.oneCell' = true := by
  obtain ⟨s, _, hs⟩ := List.mem_flatMap.1 h
  simp [prmV] at hs
  rcases hs with rfl | rfl | rfl | rfl | rfl | rfl | rfl | rfl <;> rfl
theorem psAt_of_owns {W : World} {base : Nat} {v : Value} {l : List Prm} (h : W.ownsRow base 39 8 v l.length (prmCs l)) : PsAt W v l := by
  rcases h.2 with ⟨rfl, h0⟩ | ⟨g, cap, cur, rfl, hb, hg, _, _, _, ht⟩
  · exact Or.inl ⟨rfl, List.eq_nil_of_length_eq_zero h0⟩
  · refine Or.inr ⟨g, 0, cap, rfl, (Array.getElem?_eq_some_iff.1 hg).1, fun k r hk => ?_⟩
    have key : ∀ c u, c < 8 → (prmV r)[c]? = some u → W.cell? ⟨g, 0 + k * 8 + c, none⟩ = some u := fun c u hc hu => by
      have h1 := h.cells (g := g) rfl (k * 8 + c) u (by rw [prmCs_get l k c r hc hk]; exact hu)
      have hadd : (⟨g, 0, none⟩ : Addr).add (k * 8 + c) = ⟨g, k * 8 + c, none⟩ := by unfold Addr.add; split <;> simp_all
      rw [hadd] at h1
      rw [show 0 + k * 8 + c = k * 8 + c by omega]; exact h1
    exact ⟨key 0 _ (by omega) rfl, key 1 _ (by omega) rfl, key 2 _ (by omega) rfl, key 3 _ (by omega) rfl, key 4 _ (by omega) rfl, key 5 _ (by omega) rfl, key 6 _ (by omega) rfl, key 7 _ (by omega) rfl⟩
theorem prmCs_cell {W : World} {b off : Nat} {l : List Prm} (h : ∀ k s, l[k]? = some s → PrmCells W b (off + k * 8) s) : ∀ (j : Nat) u, (prmCs l)[j]? = some u → W.cell? ⟨b, off + j, none⟩ = some u := fun j u hu => by
  have hj : j < l.length * 8 := by rw [← prmCs_length]; exact (List.getElem?_eq_some_iff.1 hu).1
  obtain ⟨s, hs⟩ : ∃ s, l[j / 8]? = some s := ⟨_, List.getElem?_eq_getElem (by omega)⟩
  have h1 := prmCs_get l (j / 8) (j % 8) s (by omega) hs
  rw [show j / 8 * 8 + j % 8 = j by omega, hu] at h1
  obtain ⟨c0, c1, c2, c3, c4, c5, c6, c7⟩ := h _ _ hs
  have hq : j = j / 8 * 8 + j % 8 := by omega
  have hm : j % 8 = 0 ∨ j % 8 = 1 ∨ j % 8 = 2 ∨ j % 8 = 3 ∨ j % 8 = 4 ∨ j % 8 = 5 ∨ j % 8 = 6 ∨ j % 8 = 7 := by omega
  rcases hm with e | e | e | e | e | e | e | e <;> rw [e] at h1 hq <;> simp [prmV] at h1 <;> subst h1 <;> rw [hq]
  · exact c0
  · rw [← Nat.add_assoc]; exact c1
  · rw [← Nat.add_assoc]; exact c2
  · rw [← Nat.add_assoc]; exact c3
  · rw [← Nat.add_assoc]; exact c4
  · rw [← Nat.add_assoc]; exact c5
  · rw [← Nat.add_assoc]; exact c6
  · rw [← Nat.add_assoc]; exact c7
end Go.Proofs.Ytgbcdebnanejpaa.Rn
