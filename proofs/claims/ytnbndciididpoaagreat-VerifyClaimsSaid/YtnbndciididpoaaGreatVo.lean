/- The mathematics of claims: the spikes that a claim is about, the least tick, how many. No condition. -/
import Derived.Test.YtnbndciididpoaaGreatVk
namespace Go.Proofs.YtnbndciididpoaaGreat
set_option linter.unusedVariables false

theorem nodup_at {l : List Int} (h : l.Nodup) {i j : Nat} {x : Int} (hi : l[i]? = some x) (hj : l[j]? = some x) : i = j := by
  obtain ⟨a1, b1⟩ := List.getElem?_eq_some_iff.1 hi
  obtain ⟨a2, b2⟩ := List.getElem?_eq_some_iff.1 hj
  have hp := List.pairwise_iff_getElem.1 h
  rcases Nat.lt_trichotomy i j with q | q | q
  · exact absurd (b1.trans b2.symm) (hp i j a1 a2 q)
  · exact q
  · exact absurd (b2.trans b1.symm) (hp j i a2 a1 q)
def inC (c : Clm) (x : Evx) : Bool := inR x.tk c.fr (c.to - 1)
def ownB (c : Clm) (x : Evx) : Bool := c.ns.contains x.id && inC c x
/-- The spikes that a claim is about. -/
def ownL (c : Clm) (l : List Evx) : List Evx := l.filter (ownB c)
theorem ownL_append (c : Clm) (l r : List Evx) : ownL c (l ++ r) = ownL c l ++ ownL c r := by simp [ownL]
/-- The least tick, at most v. -/
def mnT (v : Int) (l : List Evx) : Int := l.foldl (fun m x => min m x.tk) v
theorem mnT_snoc (v : Int) (l : List Evx) (x : Evx) : mnT v (l ++ [x]) = min (mnT v l) x.tk := by simp [mnT]
theorem lt_mnT (m v : Int) (l : List Evx) : m < mnT v l ↔ m < v ∧ ∀ x ∈ l, m < x.tk := by
  induction l generalizing v with
  | nil => simp [mnT]
  | cons x r ih =>
    show m < mnT (min v x.tk) r ↔ _
    rw [ih]
    constructor
    · rintro ⟨h1, h2⟩
      refine ⟨by omega, fun y hy => ?_⟩
      rcases List.mem_cons.1 hy with rfl | hy
      · omega
      · exact h2 y hy
    · rintro ⟨h1, h2⟩
      have := h2 x (by simp)
      exact ⟨by omega, fun y hy => h2 y (by simp [hy])⟩
/-- The spikes of one neuron that a claim is about. -/
def atN (c : Clm) (i : Int) (l : List Evx) : List Evx := l.filter fun x => decide (x.id = i) && inC c x
theorem atN_append (c : Clm) (i : Int) (l r : List Evx) : atN c i (l ++ r) = atN c i l ++ atN c i r := by simp [atN]
/-- The first spike of a neuron of a claim. -/
def fsT (c : Clm) (i : Int) (l : List Evx) : Int := mnT c.to (atN c i l)
def n0 (c : Clm) : Int := (c.ns[0]?).getD 0
/-- What First says, by the program. -/
def firstB (c : Clm) (l : List Evx) : Bool := decide (mnT c.to ((ownL c l).filter fun x => decide (x.id = n0 c)) < mnT c.to ((ownL c l).filter fun x => !decide (x.id = n0 c)))
def holdsB (c : Clm) (l : List Evx) : Bool := if c.kd = 2 then inR ((ownL c l).length : Int) c.lo c.hi else firstB c l
theorem own0 {c : Clm} (h : c.ns ≠ []) (l : List Evx) : (ownL c l).filter (fun x => decide (x.id = n0 c)) = atN c (n0 c) l := by
  unfold ownL atN
  rw [List.filter_filter]
  congr 1
  funext x
  unfold ownB
  by_cases e : x.id = n0 c
  · have hm : c.ns.contains x.id = true := by
      rw [e]
      unfold n0
      cases hn : c.ns with
      | nil => exact absurd hn h
      | cons a r => simp
    rw [hm, e]; simp
  · simp [e]
theorem nsE_nodup {nn : Nat} : ∀ (l seen : List Int), nsE nn seen l = 0 → (∀ x ∈ l, inR x 0 ((nn : Int) - 1) = true) ∧ l.Nodup ∧ ∀ x ∈ l, x ∉ seen
  | [], seen, _ => ⟨by simp, List.nodup_nil, by simp⟩
  | x :: r, seen, h => by
    unfold nsE at h
    split at h
    · cases h
    · rename_i h1
      split at h
      · cases h
      · rename_i h2
        obtain ⟨a, b, d⟩ := nsE_nodup r (seen ++ [x]) h
        have h3 : x ∉ seen := by simpa using h2
        refine ⟨fun y hy => ?_, List.nodup_cons.2 ⟨fun hx => (d x hx) (by simp), b⟩, fun y hy => ?_⟩
        · rcases List.mem_cons.1 hy with rfl | hy
          · simpa using h1
          · exact a y hy
        · rcases List.mem_cons.1 hy with rfl | hy
          · exact h3
          · exact fun hs => d y hy (by simp [hs])
/-- What First says, by the specification: the first neuron's spike is before the others' and before the end. -/
theorem first_iff {c : Clm} (hne : c.ns ≠ []) (hnd : c.ns.Nodup) (l : List Evx) :
    firstB c l = true ↔ (∀ (i : Nat) (y : Int), 1 ≤ i → c.ns[i]? = some y → fsT c (n0 c) l < fsT c y l) ∧ fsT c (n0 c) l < c.to := by
  unfold firstB
  rw [own0 hne, decide_eq_true_iff, lt_mnT]
  have e0 : fsT c (n0 c) l = mnT c.to (atN c (n0 c) l) := rfl
  rw [← e0]
  generalize fsT c (n0 c) l = m
  have hlen : 0 < c.ns.length := List.length_pos_iff.2 hne
  have hz : c.ns[0]? = some (n0 c) := by unfold n0; rw [List.getElem?_eq_getElem hlen]; rfl
  constructor
  · rintro ⟨h1, h2⟩
    refine ⟨fun i y hi hy => ?_, h1⟩
    unfold fsT
    rw [lt_mnT]
    refine ⟨h1, fun x hx => h2 x ?_⟩
    simp only [atN, List.mem_filter, Bool.and_eq_true, decide_eq_true_eq] at hx
    obtain ⟨hxl, hxi, hxc⟩ := hx
    have hyn : y ≠ n0 c := fun e => by
      rw [e] at hy
      have := nodup_at hnd hz hy
      omega
    simp only [ownL, ownB, List.mem_filter, Bool.and_eq_true, Bool.not_eq_true', decide_eq_false_iff_not]
    exact ⟨⟨hxl, by rw [hxi]; simpa using List.mem_of_getElem? hy, hxc⟩, by rw [hxi]; exact hyn⟩
  · rintro ⟨h1, h2⟩
    refine ⟨h2, fun x hx => ?_⟩
    simp only [ownL, ownB, List.mem_filter, Bool.and_eq_true, Bool.not_eq_true', decide_eq_false_iff_not] at hx
    obtain ⟨⟨hxl, hxm, hxc⟩, hxn⟩ := hx
    obtain ⟨i, hi⟩ := List.getElem?_of_mem (show x.id ∈ c.ns by simpa using hxm)
    have hi1 : 1 ≤ i := by
      rcases Nat.eq_zero_or_pos i with rfl | h
      · rw [hz] at hi; exact absurd (Option.some.inj hi).symm hxn
      · exact h
    have h3 := h1 i x.id hi1 hi
    unfold fsT at h3
    rw [lt_mnT] at h3
    exact h3.2 x (by simp [atN, hxl, hxc])
/-- How many of the first i neurons of a claim a spike is of: one, or none. -/
def inN (c : Clm) (i : Nat) (x : Evx) : Nat := if (c.ns.take i).contains x.id = true ∧ inC c x = true then 1 else 0
theorem inN_zero (c : Clm) (x : Evx) : inN c 0 x = 0 := by simp [inN]
theorem inN_step {c : Clm} (hnd : c.ns.Nodup) {i : Nat} {y : Int} (h : c.ns[i]? = some y) (x : Evx) : inN c (i + 1) x = inN c i x + if x.id = y ∧ inC c x = true then 1 else 0 := by
  unfold inN
  rw [List.take_add_one, h]
  have hni : y ∉ c.ns.take i := fun hm => by
    obtain ⟨j, hj⟩ := List.getElem?_of_mem hm
    have hji : j < i := by have := (List.getElem?_eq_some_iff.1 hj).1; simp at this; omega
    rw [List.getElem?_take_of_lt hji] at hj
    have := nodup_at hnd hj h
    omega
  by_cases hc : inC c x = true
  · by_cases e : x.id = y
    · subst e
      simp [hc, hni]
    · simp [hc, e]
  · simp [hc]
theorem inN_all (c : Clm) (l : List Evx) (x : Evx) : ((ownL c (l ++ [x])).length : Nat) = (ownL c l).length + inN c c.ns.length x := by
  rw [ownL_append, List.length_append]
  congr 1
  unfold inN ownL ownB
  rw [List.take_length]
  by_cases h : c.ns.contains x.id = true ∧ inC c x = true
  · rw [if_pos h]; simp only [List.filter_cons, h.1, h.2]; rfl
  · rw [if_neg h]
    have : (c.ns.contains x.id && inC c x) = false := by
      cases h1 : c.ns.contains x.id <;> cases h2 : inC c x <;> simp_all
    simp only [List.filter_cons, this]; rfl
end Go.Proofs.YtnbndciididpoaaGreat
