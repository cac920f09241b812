/- The mathematics of a run: a tick of a network, the ticks one after another. -/
import Derived.Test.YtgbcdebnanejpaaNa
namespace Go.Proofs.Ytgbcdebnanejpaa
set_option linter.unusedVariables false
open Go.RowKit

/-- What arrives: at which tick, at which neuron. -/
abbrev Due := Nat → Nat → Int
/-- A synapse sends in the tick now. -/
def addS (now : Nat) (due : Due) (s : Syn) : Due := fun a i => if (a : Int) = now + s.dl ∧ (i : Int) = s.to then wrap64 (due a i + s.wt) else due a i
/-- The synapses of a source, in their order. -/
def ofSrc (ss : List Syn) (x : Int) : List Syn := ss.filter fun s => decide (s.fr = x)
def sendM (ss : List Syn) (now : Nat) (due : Due) (x : Int) : Due := (ofSrc ss x).foldl (addS now) due
def pAt (ps : List Prm) (i : Nat) : Prm := ps[i]?.getD ⟨0, 0, 0, 0, 0, 0, 0, 0⟩
def sAt (st : List (Int × Int)) (i : Nat) : Int × Int := st[i]?.getD (0, 0)
/-- Neuron i behind a tick; whether it has a spike in it. -/
def newS (ps : List Prm) (st : List (Int × Int)) (row : Nat → Int) (i : Nat) : Int × Int := (tV (pAt ps i) (sAt st i).1 (sAt st i).2 (row i), tR (pAt ps i) (sAt st i).1 (sAt st i).2 (row i))
def spkB (ps : List Prm) (st : List (Int × Int)) (row : Nat → Int) (i : Nat) : Bool := tS (pAt ps i) (sAt st i).1 (sAt st i).2 (row i)
def spkN (ps : List Prm) (st : List (Int × Int)) (row : Nat → Int) (k : Nat) : List Int := ((List.range k).filter (spkB ps st row)).map fun i : Nat => (i : Int)
/-- The first k neurons have done the tick. -/
def midS (ps : List Prm) (st : List (Int × Int)) (row : Nat → Int) (k : Nat) : List (Int × Int) := (List.range st.length).map fun i => if i < k then newS ps st row i else sAt st i
structure RunS where
  st : List (Int × Int)
  due : Due
def tickM (n : NetM) (now : Nat) (S : RunS) (ids : List Int) : RunS :=
  ⟨midS n.ps S.st (S.due now) n.ps.length, (spkN n.ps S.st (S.due now) n.ps.length ++ ids.map fun x => -1 - x).foldl (sendM n.ss now) S.due⟩
def tickO (n : NetM) (now : Nat) (S : RunS) : List Int := spkN n.ps S.st (S.due now) n.ps.length
def idsAt (l : List Evt) (t : Nat) : List Int := (l.filter fun e => decide (e.tk = (t : Int))).map Evt.id
def beginM (n : NetM) : RunS := ⟨List.replicate n.ps.length (0, 0), fun _ _ => 0⟩
/-- The state before tick t, the spikes of the ticks before it. -/
def runS (n : NetM) (l : List Evt) : Nat → RunS
  | 0 => beginM n
  | t + 1 => tickM n t (runS n l t) (idsAt l t)
def runO (n : NetM) (l : List Evt) : Nat → List Evt
  | 0 => []
  | t + 1 => runO n l t ++ (tickO n t (runS n l t)).map fun i => ⟨(t : Int), i⟩

theorem spkN_succ (ps : List Prm) (st : List (Int × Int)) (row : Nat → Int) (k : Nat) : spkN ps st row (k + 1) = spkN ps st row k ++ if spkB ps st row k then [(k : Int)] else [] := by
  unfold spkN
  rw [List.range_succ, List.filter_append, List.map_append]
  congr 1
  by_cases h : spkB ps st row k = true
  · simp [h]
  · simp [h]
theorem midS_length (ps : List Prm) (st : List (Int × Int)) (row : Nat → Int) (k : Nat) : (midS ps st row k).length = st.length := by simp [midS]
theorem midS_zero (ps : List Prm) (st : List (Int × Int)) (row : Nat → Int) : midS ps st row 0 = st := by
  apply List.ext_getElem (by simp [midS])
  intro i h1 h2
  simp [midS, sAt, h2]
theorem sAt_midS (ps : List Prm) (st : List (Int × Int)) (row : Nat → Int) (k i : Nat) (hi : i < st.length) : sAt (midS ps st row k) i = if i < k then newS ps st row i else sAt st i := by
  simp [midS, sAt, hi]
theorem spkN_range {ps : List Prm} {st : List (Int × Int)} {row : Nat → Int} {k : Nat} {x : Int} (h : x ∈ spkN ps st row k) : 0 ≤ x ∧ x < k := by
  simp only [spkN, List.mem_map, List.mem_filter, List.mem_range] at h
  obtain ⟨i, ⟨h1, _⟩, rfl⟩ := h
  omega
theorem spkN_length (ps : List Prm) (st : List (Int × Int)) (row : Nat → Int) (k : Nat) : (spkN ps st row k).length ≤ k := by
  unfold spkN
  rw [List.length_map]
  have := List.length_filter_le (spkB ps st row) (List.range k)
  simpa using this
end Go.Proofs.Ytgbcdebnanejpaa
