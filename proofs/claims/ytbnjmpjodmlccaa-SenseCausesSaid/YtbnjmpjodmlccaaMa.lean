/- The mathematics of ears and whiskers. No condition. -/
import Derived.Test.YtbnjmpjodmlccaaSa
namespace Go.Proofs.Ytbnjmpjodmlccaa
set_option linter.unusedVariables false

/-! ### lists that are made piece by piece -/
def pieces {α : Type} (f : Nat → List α) (n : Nat) : List α := (List.range n).flatMap f
theorem pieces_succ {α : Type} (f : Nat → List α) (n : Nat) : pieces f (n + 1) = pieces f n ++ f n := by simp [pieces, List.range_succ]
theorem pieces_le {α : Type} {f : Nat → List α} {b : Nat} (h : ∀ k, (f k).length ≤ b) : ∀ n, (pieces f n).length ≤ n * b
  | 0 => by simp [pieces]
  | n + 1 => by rw [pieces_succ, List.length_append]; have := pieces_le h n; have := h n; rw [Nat.succ_mul]; omega
theorem pieces_prefix {α : Type} (f : Nat → List α) (n : Nat) : ∀ m, n ≤ m → pieces f n <+: pieces f m
  | 0, h => by rw [Nat.le_zero.1 h]; exact List.prefix_rfl
  | m + 1, h => by
    by_cases e : n = m + 1
    · rw [e]; exact List.prefix_rfl
    · rw [pieces_succ]; exact (pieces_prefix f n m (by omega)).trans (List.prefix_append _ _)
theorem at_prefix {α : Type} {p xs : List α} {x : α} (h : p ++ [x] <+: xs) : xs[p.length]? = some x := by
  obtain ⟨r, rfl⟩ := h
  simp

/-! ### whiskers: the state 2 is free, 0 bent to the left, 1 bent to the right -/
def whN (T B s a : Int) : Int := if s = 2 then (if T ≤ a then 1 else if a ≤ -T then 0 else 2) else if s = 1 then (if a ≤ T - B - 1 then 2 else 1) else (if -a ≤ T - B - 1 then 2 else 0)
def whS (T B : Int) (l : List Int) : Int := l.foldl (whN T B) 2
theorem whS_snoc (T B : Int) (l : List Int) (a : Int) : whS T B (l ++ [a]) = whN T B (whS T B l) a := by simp [whS]
theorem whN_in (T B s a : Int) : whN T B s a = 0 ∨ whN T B s a = 1 ∨ whN T B s a = 2 := by unfold whN; split <;> (repeat (first | split | omega)) <;> simp
theorem whS_in (T B : Int) (l : List Int) : whS T B l = 0 ∨ whS T B l = 1 ∨ whS T B l = 2 := by
  rcases List.eq_nil_or_concat l with rfl | ⟨r, a, rfl⟩
  · simp [whS]
  · rw [List.concat_eq_append, whS_snoc]; exact whN_in _ _ _ _
/-- The events of the tick t. -/
def whE (T B : Int) (l : List Int) (t : Nat) : List Evx := if whS T B (l.take (t + 1)) = whS T B (l.take t) then [] else [⟨t, whS T B (l.take (t + 1))⟩]
def whL (T B : Int) (l : List Int) : List Evx := pieces (whE T B l) l.length
theorem whE_le (T B : Int) (l : List Int) (t : Nat) : (whE T B l t).length ≤ 1 := by unfold whE; split <;> simp
theorem whL_le (T B : Int) (l : List Int) : (whL T B l).length ≤ l.length := by
  have := pieces_le (whE_le T B l) l.length
  unfold whL; omega
theorem take_snoc_of {α : Type} {l : List α} {k : Nat} {x : α} (h : l[k]? = some x) : l.take (k + 1) = l.take k ++ [x] := by
  rw [List.take_add_one, h]; rfl
theorem whS_at (T B : Int) {l : List Int} {t : Nat} {a : Int} (h : l[t]? = some a) : whS T B (l.take (t + 1)) = whN T B (whS T B (l.take t)) a := by rw [take_snoc_of h, whS_snoc]
theorem whE_at (T B : Int) {l : List Int} {t : Nat} {a : Int} (h : l[t]? = some a) :
    whE T B l t = if whN T B (whS T B (l.take t)) a = whS T B (l.take t) then [] else [⟨t, whN T B (whS T B (l.take t)) a⟩] := by unfold whE; rw [whS_at T B h]

/-! ### ears -/
def zN (x : Int) (z : Nat → Int) : Nat → Int := fun k => z k + (256 * x - z k) / (2 : Int) ^ (k + 1)
def zA (l : List Int) : Nat → Int := l.foldl (fun z x => zN x z) fun _ => 0
theorem zA_snoc (l : List Int) (x : Int) : zA (l ++ [x]) = zN x (zA l) := by simp [zA]
theorem zA_at {l : List Int} {t : Nat} {x : Int} (h : l[t]? = some x) : zA (l.take (t + 1)) = zN x (zA (l.take t)) := by rw [take_snoc_of h, zA_snoc]
def lN (z : Nat → Int) : Nat → Int := fun k => (z k - z (k + 1)) / 256
theorem pow2_pos (k : Nat) : (0 : Int) < (2 : Int) ^ k := Int.pow_pos (by decide)
/-- What lies between bounds stays between them. -/
theorem zN_in {a b x z : Int} {k : Nat} (h1 : a ≤ z) (h2 : z ≤ b) (h3 : a ≤ 256 * x) (h4 : 256 * x ≤ b) : a ≤ z + (256 * x - z) / (2 : Int) ^ (k + 1) ∧ z + (256 * x - z) / (2 : Int) ^ (k + 1) ≤ b := by
  have hp := pow2_pos (k + 1)
  generalize (2 : Int) ^ (k + 1) = p at *
  obtain ⟨d, hd⟩ : ∃ d, 256 * x - z = d := ⟨_, rfl⟩
  rw [hd]
  have hq1 : 0 ≤ d → 0 ≤ d / p ∧ d / p ≤ d := fun h => ⟨Int.ediv_nonneg h (by omega), Int.ediv_le_self _ h⟩
  have hq2 : d ≤ 0 → d ≤ d / p ∧ d / p ≤ 0 := fun h => by
    refine ⟨?_, Int.ediv_nonpos_of_nonpos_of_neg h (by omega)⟩
    rw [Int.le_ediv_iff_mul_le hp]
    have : d * (p - 1) ≤ 0 := Int.mul_nonpos_of_nonpos_of_nonneg h (by omega)
    rw [Int.mul_sub] at this
    omega
  rcases Int.le_total 0 d with h | h
  · have := hq1 h; omega
  · have := hq2 h; omega
theorem zA_in {a b : Int} (ha : a ≤ 0) (hb : 0 ≤ b) : ∀ (l : List Int), (∀ x ∈ l, a ≤ 256 * x ∧ 256 * x ≤ b) → ∀ k, a ≤ zA l k ∧ zA l k ≤ b := by
  have key : ∀ (l : List Int) (z : Nat → Int), (∀ k, a ≤ z k ∧ z k ≤ b) → (∀ x ∈ l, a ≤ 256 * x ∧ 256 * x ≤ b) → ∀ k, a ≤ l.foldl (fun z x => zN x z) z k ∧ l.foldl (fun z x => zN x z) z k ≤ b := by
    intro l
    induction l with
    | nil => intro z hz _ k; exact hz k
    | cons x r ih =>
      intro z hz hx k
      refine ih (zN x z) (fun j => ?_) (fun y hy => hx y (by simp [hy])) k
      have h1 := hx x (by simp)
      exact zN_in (hz j).1 (hz j).2 h1.1 h1.2
  intro l hl k
  exact key l (fun _ => 0) (fun _ => ⟨ha, hb⟩) hl k
/-- The events of a channel: before and after: its loudness. -/
def erC (S : Int) (t k : Nat) (before after : Int) : List Evx := if S ≤ after ∧ before < S then [⟨t, 2 * k + 1⟩] else if after ≤ -S ∧ -S < before then [⟨t, 2 * k⟩] else []
def erE (S : Int) (l : List Int) (t : Nat) (k : Nat) : List Evx := erC S t k (lN (zA (l.take t)) k) (lN (zA (l.take (t + 1))) k)
def erT (S : Int) (C : Nat) (l : List Int) (t : Nat) : List Evx := pieces (erE S l t) C
def erL (S : Int) (C : Nat) (l : List Int) : List Evx := pieces (erT S C l) l.length
theorem erC_le (S : Int) (t k : Nat) (b a : Int) : (erC S t k b a).length ≤ 1 := by unfold erC; split; simp; split <;> simp
theorem erT_le (S : Int) (C : Nat) (l : List Int) (t : Nat) : (erT S C l t).length ≤ C := by
  have := pieces_le (f := erE S l t) (b := 1) (fun k => erC_le _ _ _ _ _) C
  unfold erT; omega
theorem erL_le (S : Int) (C : Nat) (l : List Int) : (erL S C l).length ≤ l.length * C := pieces_le (fun t => erT_le S C l t) _
/-- What has come behind t ticks, and k channels of the next one. -/
def erM (S : Int) (C : Nat) (l : List Int) (t k : Nat) : List Evx := pieces (erT S C l) t ++ pieces (erE S l t) k
theorem erM_zero (S : Int) (C : Nat) (l : List Int) (t : Nat) : erM S C l t 0 = pieces (erT S C l) t := by simp [erM, pieces]
theorem erM_succ (S : Int) (C : Nat) (l : List Int) (t k : Nat) : erM S C l t (k + 1) = erM S C l t k ++ erE S l t k := by unfold erM; rw [pieces_succ, List.append_assoc]
theorem erM_full (S : Int) (C : Nat) (l : List Int) (t : Nat) : erM S C l t C = pieces (erT S C l) (t + 1) := by unfold erM; rw [pieces_succ]; rfl
theorem erM_prefix (S : Int) (C : Nat) (l : List Int) {t k : Nat} (ht : t < l.length) (hk : k ≤ C) : erM S C l t k <+: erL S C l := by
  have h1 : erM S C l t k <+: erM S C l t C := by unfold erM; exact (List.prefix_append_right_inj _).2 (pieces_prefix _ _ _ hk)
  rw [erM_full] at h1
  exact h1.trans (pieces_prefix _ _ _ (by omega))
theorem erM_le (S : Int) (C : Nat) (l : List Int) {t k : Nat} (ht : t < l.length) (hk : k ≤ C) : (erM S C l t k).length ≤ l.length * C :=
  Nat.le_trans (erM_prefix S C l ht hk).length_le (erL_le S C l)
end Go.Proofs.Ytbnjmpjodmlccaa
