/- The mathematics of networks: what Check says, how a run goes. -/
import Derived.Test.YtnbndciididpoaaGreatA
namespace Go.Proofs.YtnbndciididpoaaGreat
set_option linter.unusedVariables false

structure Syn where
  fr : Int
  to : Int
  wt : Int
  dl : Int
structure Evt where
  tk : Int
  id : Int
structure NetM where
  ps : List Prm
  inp : Int
  ss : List Syn

def srcOk (nn : Nat) (inp x : Int) : Bool := inR x (-inp) ((nn : Int) - 1)
def synOk (nn : Nat) (inp : Int) (s : Syn) : Bool := srcOk nn inp s.fr && inR s.to 0 ((nn : Int) - 1) && inR s.wt (-32768) 32768 && inR s.dl 1 16
def firstBad : List Prm → Int
  | [] => 0
  | p :: l => if checkP p = 0 then firstBad l else checkP p
/-- What Check returns. -/
def ncheck (n : NetM) : Int :=
  if n.ps.length = 0 then 2
  else if 1024 < n.ps.length ∨ 256 < n.inp ∨ 8192 < n.ss.length then 9
  else if n.inp < 0 then 3
  else if firstBad n.ps ≠ 0 then firstBad n.ps
  else if n.ss.all (synOk n.ps.length n.inp) then 0 else 3

theorem firstBad_all {l : List Prm} : firstBad l = 0 ↔ ∀ p ∈ l, checkP p = 0 := by
  induction l with
  | nil => simp [firstBad]
  | cons p l ih =>
    unfold firstBad
    by_cases h : checkP p = 0
    · rw [if_pos h, ih]; simp [h]
    · rw [if_neg h]; simp [h]
theorem firstBad_at {l : List Prm} {k : Nat} {p : Prm} (h : l[k]? = some p) (hb : ∀ j q, j < k → l[j]? = some q → checkP q = 0) (hp : checkP p ≠ 0) : firstBad l = checkP p := by
  induction l generalizing k with
  | nil => simp at h
  | cons q l ih =>
    unfold firstBad
    match k, h with
    | 0, h => obtain rfl : q = p := by simpa using h
              rw [if_neg hp]
    | k + 1, h =>
      rw [if_pos (hb 0 q (by omega) rfl)]
      exact ih (by simpa using h) fun j q hj hq => hb (j + 1) q (by omega) (by simpa using hq)
theorem firstBad_none {l : List Prm} (hb : ∀ j q, j < l.length → l[j]? = some q → checkP q = 0) : firstBad l = 0 := by
  rw [firstBad_all]
  intro p hp
  obtain ⟨j, hj, e⟩ := List.getElem_of_mem hp
  exact hb j p hj (by rw [List.getElem?_eq_getElem hj, e])
theorem all_at {l : List Syn} {f : Syn → Bool} {k : Nat} {s : Syn} (h : l[k]? = some s) (hs : f s = false) : l.all f = false := by
  rw [Bool.eq_false_iff]
  intro h'
  rw [List.all_eq_true] at h'
  have := h' s (List.mem_of_getElem? h)
  rw [hs] at this
  cases this
theorem all_none {l : List Syn} {f : Syn → Bool} (h : ∀ j s, j < l.length → l[j]? = some s → f s = true) : l.all f = true := by
  rw [List.all_eq_true]
  intro s hs
  obtain ⟨j, hj, e⟩ := List.getElem_of_mem hs
  exact h j s hj (by rw [List.getElem?_eq_getElem hj, e])
end Go.Proofs.YtnbndciididpoaaGreat
