/- The plain mathematics of the neuron (layer 1): what its functions compute, over the integers. Not yet tied to the program. -/
import Derived.WalkKit
namespace Go.Proofs.YtnbndciididpoaaGreat
set_option linter.unusedVariables false

/-- x lies from a to b. -/
def inR (x a b : Int) : Bool := decide (a ≤ x) && decide (x ≤ b)
theorem inR_true {x a b : Int} : inR x a b = true ↔ a ≤ x ∧ x ≤ b := by simp [inR]
theorem inR_false {x a b : Int} : inR x a b = false ↔ x < a ∨ b < x := by simp [inR]; omega

/-- The parameters of a neuron. -/
structure Prm where
  lk : Int
  lv : Int
  bi : Int
  th : Int
  rk : Int
  rs : Int
  fl : Int
  re : Int

/-- The leak's number fits its kind. -/
def lvOk (p : Prm) : Bool := if p.lk = 1 then inR p.lv 1 1048576 else if p.lk = 2 then inR p.lv 1 256 else inR p.lv 0 0
/-- The reset's number fits its kind. -/
def rsOk (th rk rs fl : Int) : Bool := if rk = 1 then inR rs 0 0 else inR rs fl (th - 1)
/-- The numbers are in range. -/
def numsOk (p : Prm) : Bool :=
  lvOk p && inR p.bi (-1048576) 1048576 && inR p.fl (-1048576) 0 && inR p.th 1 1048576 && inR p.re 0 64 && rsOk p.th p.rk p.rs p.fl
/-- What Check returns. -/
def checkP (p : Prm) : Int :=
  if inR p.lk 0 2 && inR p.rk 0 1 then (if numsOk p then 0 else 3) else 2
/-- What Valid returns. -/
def validP (p : Prm) (V R : Int) : Int := if checkP p = 0 then (if inR V p.fl 1048576 && inR R 0 p.re then 0 else 3) else checkP p

/-- What the leak makes of a potential. -/
def leakP (p : Prm) (v : Int) : Int :=
  if p.lk = 1 then (if 0 < v then max (v - p.lv) 0 else min (v + p.lv) 0) else if p.lk = 2 then v - (v * p.lv).tdiv 256 else v

def clampI (x : Int) : Int := max (-4194304) (min x 4194304)
/-- The potential that a tick without rest comes to, before a spike. -/
def nextV (p : Prm) (V i : Int) : Int := max p.fl (min (leakP p V + clampI i + p.bi) 1048576)
def tV (p : Prm) (V R i : Int) : Int := if 0 < R then V else if nextV p V i < p.th then nextV p V i else if p.rk = 1 then nextV p V i - p.th else p.rs
def tR (p : Prm) (V R i : Int) : Int := if 0 < R then R - 1 else if nextV p V i < p.th then 0 else p.re
def tS (p : Prm) (V R i : Int) : Bool := if 0 < R then false else decide (p.th ≤ nextV p V i)

/-- A valid neuron, in inequalities. -/
structure Ok (p : Prm) : Prop where
  lk0 : 0 ≤ p.lk
  lk2 : p.lk ≤ 2
  rk0 : 0 ≤ p.rk
  rk1 : p.rk ≤ 1
  lv0 : 0 ≤ p.lv
  lvM : p.lv ≤ 1048576
  line : p.lk = 1 → 1 ≤ p.lv
  share : p.lk = 2 → 1 ≤ p.lv ∧ p.lv ≤ 256
  none : p.lk = 0 → p.lv = 0
  bi0 : -1048576 ≤ p.bi
  biM : p.bi ≤ 1048576
  fl0 : -1048576 ≤ p.fl
  flM : p.fl ≤ 0
  th0 : 1 ≤ p.th
  thM : p.th ≤ 1048576
  re0 : 0 ≤ p.re
  reM : p.re ≤ 64
  sub : p.rk = 1 → p.rs = 0
  to : p.rk = 0 → p.fl ≤ p.rs ∧ p.rs < p.th

theorem ok_of_check {p : Prm} (h : checkP p = 0) : Ok p := by
  unfold checkP at h
  by_cases h1 : (inR p.lk 0 2 && inR p.rk 0 1) = true
  · rw [if_pos h1] at h
    by_cases h2 : numsOk p = true
    · simp only [Bool.and_eq_true, inR_true] at h1
      simp only [numsOk, lvOk, rsOk, Bool.and_eq_true, inR_true] at h2
      obtain ⟨⟨⟨⟨⟨hl, hb⟩, hf⟩, ht⟩, hr⟩, hs⟩ := h2
      have hl' : (p.lk = 1 → 1 ≤ p.lv ∧ p.lv ≤ 1048576) ∧ (p.lk = 2 → 1 ≤ p.lv ∧ p.lv ≤ 256) ∧ (p.lk = 0 → p.lv = 0) := by
        by_cases e1 : p.lk = 1
        · rw [if_pos e1, inR_true] at hl; omega
        · by_cases e2 : p.lk = 2
          · rw [if_neg e1, if_pos e2, inR_true] at hl; omega
          · rw [if_neg e1, if_neg e2, inR_true] at hl; omega
      have hs' : (p.rk = 1 → p.rs = 0) ∧ (p.rk = 0 → p.fl ≤ p.rs ∧ p.rs < p.th) := by
        by_cases e1 : p.rk = 1
        · rw [if_pos e1, inR_true] at hs; omega
        · rw [if_neg e1, inR_true] at hs; omega
      constructor <;> omega
    · rw [if_neg h2] at h; omega
  · rw [if_neg h1] at h; omega

theorem ok_of_valid {p : Prm} {V R : Int} (h : validP p V R = 0) : Ok p ∧ p.fl ≤ V ∧ V ≤ 1048576 ∧ 0 ≤ R ∧ R ≤ p.re := by
  unfold validP at h
  by_cases hc : checkP p = 0
  · rw [if_pos hc] at h
    by_cases h1 : (inR V p.fl 1048576 && inR R 0 p.re) = true
    · simp only [Bool.and_eq_true, inR_true] at h1
      exact ⟨ok_of_check hc, h1.1.1, h1.1.2, h1.2.1, h1.2.2⟩
    · rw [if_neg h1] at h; omega
  · rw [if_neg hc] at h; omega

theorem tdiv_bd (v l : Int) (hl0 : 0 ≤ l) (hl : l ≤ 256) (hv0 : 0 ≤ v) : 0 ≤ (v * l).tdiv 256 ∧ (v * l).tdiv 256 ≤ v := by
  have h0 : 0 ≤ v * l := Int.mul_nonneg hv0 hl0
  have h1 : v * l ≤ v * 256 := Int.mul_le_mul_of_nonneg_left hl hv0
  rw [Int.tdiv_eq_ediv_of_nonneg h0]
  omega

theorem mul_bd (v a : Int) (h1 : -1048576 ≤ v) (h2 : v ≤ 1048576) (h3 : 0 ≤ a) (h4 : a ≤ 256) : -268435456 ≤ v * a ∧ v * a ≤ 268435456 := by
  have a1 : v * a ≤ 1048576 * a := Int.mul_le_mul_of_nonneg_right h2 h3
  have a2 : -1048576 * a ≤ v * a := Int.mul_le_mul_of_nonneg_right h1 h3
  omega
theorem tdiv_bds (v a : Int) (h1 : -1048576 ≤ v) (h2 : v ≤ 1048576) (h3 : 0 ≤ a) (h4 : a ≤ 256) : -1048576 ≤ (v * a).tdiv 256 ∧ (v * a).tdiv 256 ≤ 1048576 := by
  by_cases h : 0 ≤ v
  · have := tdiv_bd v a h3 h4 h; omega
  · have := tdiv_bd (-v) a h3 h4 (by omega)
    rw [Int.neg_mul, Int.neg_tdiv] at this
    omega

/-- The leak brings a potential nearer to 0, and never beyond. -/
theorem leak_bd {p : Prm} (h : Ok p) (v : Int) : (0 ≤ v → 0 ≤ leakP p v ∧ leakP p v ≤ v) ∧ (v ≤ 0 → v ≤ leakP p v ∧ leakP p v ≤ 0) := by
  obtain ⟨_, _, _, _, _, _, hl, hs, _, _, _, _, _, _, _, _, _, _, _⟩ := h
  unfold leakP
  by_cases e1 : p.lk = 1
  · rw [if_pos e1]
    have := hl e1
    split <;> omega
  · rw [if_neg e1]
    by_cases e2 : p.lk = 2
    · rw [if_pos e2]
      obtain ⟨a, b⟩ := hs e2
      refine ⟨fun hv => ?_, fun hv => ?_⟩
      · have := tdiv_bd v p.lv (by omega) b hv
        omega
      · have := tdiv_bd (-v) p.lv (by omega) b (by omega)
        rw [Int.neg_mul, Int.neg_tdiv] at this
        omega
    · rw [if_neg e2]
      omega

theorem clamp_bd (x : Int) : -4194304 ≤ clampI x ∧ clampI x ≤ 4194304 := by unfold clampI; omega
theorem next_bd {p : Prm} (h : Ok p) (V i : Int) : p.fl ≤ nextV p V i ∧ nextV p V i ≤ 1048576 := by
  have := h.flM
  unfold nextV; omega

theorem t_low {p : Prm} {V i N : Int} (hN : nextV p V i = N) (h : N < p.th) : tV p V 0 i = N ∧ tR p V 0 i = 0 ∧ tS p V 0 i = false := by
  subst hN
  refine ⟨?_, ?_, ?_⟩
  · simp [tV, h]
  · simp [tR, h]
  · simp [tS]; omega
theorem t_sub {p : Prm} {V i N : Int} (hN : nextV p V i = N) (h : p.th ≤ N) (hk : (p.rk == 1) = true) : tV p V 0 i = N - p.th ∧ tR p V 0 i = p.re ∧ tS p V 0 i = true := by
  subst hN
  have h' : ¬ nextV p V i < p.th := by omega
  have hk' : p.rk = 1 := by simpa using hk
  refine ⟨?_, ?_, ?_⟩
  · simp [tV, h', hk']
  · simp [tR, h']
  · simp [tS, h]
theorem t_to {p : Prm} {V i N : Int} (hN : nextV p V i = N) (h : p.th ≤ N) (hk : (p.rk == 1) = false) : tV p V 0 i = p.rs ∧ tR p V 0 i = p.re ∧ tS p V 0 i = true := by
  subst hN
  have h' : ¬ nextV p V i < p.th := by omega
  have hk' : ¬ p.rk = 1 := by simpa using hk
  refine ⟨?_, ?_, ?_⟩
  · simp [tV, h', hk']
  · simp [tR, h']
  · simp [tS, h]

/-- A state stays valid. -/
theorem tick_valid {p : Prm} (h : Ok p) {V R : Int} (i : Int) (hV : p.fl ≤ V) (hV' : V ≤ 1048576) (hR : 0 ≤ R) (hR' : R ≤ p.re) :
    p.fl ≤ tV p V R i ∧ tV p V R i ≤ 1048576 ∧ 0 ≤ tR p V R i ∧ tR p V R i ≤ p.re := by
  have hn := next_bd h V i
  obtain ⟨_, _, h1, h2, _, _, _, _, _, _, _, _, _, _, _, _, _, hs, ht⟩ := h
  unfold tV tR
  by_cases a : 0 < R
  · simp only [if_pos a]; omega
  · simp only [if_neg a]
    by_cases b : nextV p V i < p.th
    · simp only [if_pos b]; omega
    · simp only [if_neg b]
      by_cases c : p.rk = 1
      · rw [if_pos c]; omega
      · rw [if_neg c]; omega

end Go.Proofs.YtnbndciididpoaaGreat
