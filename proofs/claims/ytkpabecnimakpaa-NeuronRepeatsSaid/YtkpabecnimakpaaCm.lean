/- The mathematics of cycles: states under a constant input; what has been seen. -/
import Derived.Test.YtkpabecnimakpaaQ
import Derived.Test.YtkpabecnimakpaaMp
namespace Go.Proofs.Ytkpabecnimakpaa
set_option linter.unusedVariables false
open Go.RowKit

/-- The state number k under the input i; whether there is a spike in the tick from it; how many there were before. -/
def stk (p : Prm) (V R i : Int) (k : Nat) : Int × Int := after p V R (List.replicate k i)
def sps (p : Prm) (V R i : Int) (k : Nat) : Bool := tS p (stk p V R i k).1 (stk p V R i k).2 i
def nsp (p : Prm) (V R i : Int) : Nat → Nat
  | 0 => 0
  | k + 1 => nsp p V R i k + if sps p V R i k then 1 else 0
theorem nsp_le (p : Prm) (V R i : Int) (k : Nat) : nsp p V R i k ≤ k := by
  induction k with
  | zero => simp [nsp]
  | succ k ih => unfold nsp; split <;> omega
theorem nsp_mono (p : Prm) (V R i : Int) {a b : Nat} (h : a ≤ b) : nsp p V R i a ≤ nsp p V R i b := by
  induction b with
  | zero => have : a = 0 := by omega
            subst this; exact Nat.le_refl _
  | succ b ih =>
    by_cases e : a = b + 1
    · subst e; exact Nat.le_refl _
    · have := ih (by omega)
      have e : nsp p V R i (b + 1) = nsp p V R i b + if sps p V R i b then 1 else 0 := rfl
      omega
theorem stk_zero (p : Prm) (V R i : Int) : stk p V R i 0 = (V, R) := rfl
theorem stk_succ (p : Prm) (V R i : Int) (k : Nat) : stk p V R i (k + 1) = (tV p (stk p V R i k).1 (stk p V R i k).2 i, tR p (stk p V R i k).1 (stk p V R i k).2 i) := by
  unfold stk; rw [List.replicate_succ', after_snoc]
theorem runL_stk (p : Prm) (V R i : Int) (n k : Nat) (x : (Int × Int) × Bool) (h : (runL p V R (List.replicate n i))[k]? = some x) : k < n ∧ x = (stk p V R i (k + 1), sps p V R i k) := by
  have hk : k < n := by have := (List.getElem?_eq_some_iff.1 h).1; rw [runL_length] at this; simpa using this
  have := runL_get p V R (List.replicate n i) k i (by simp [hk])
  rw [h] at this
  refine ⟨hk, ?_⟩
  have e1 : (List.replicate n i).take (k + 1) = List.replicate (k + 1) i := by rw [List.take_replicate]; congr 1; omega
  have e2 : (List.replicate n i).take k = List.replicate k i := by rw [List.take_replicate]; congr 1; omega
  rw [e1, e2] at this
  exact Option.some.inj this
/-- What is kept of a state's first visit. -/
def vis (p : Prm) (V R i : Int) (k : Nat) : Value := .agg #[.int .i64 (k : Int), .int .i64 (nsp p V R i k : Int)]
def fS (p : Prm) (V R i : Int) : Nat → Int → Int → Option Value
  | 0 => upd (fun _ _ => none) V R (vis p V R i 0)
  | k + 1 => upd (fS p V R i k) (stk p V R i (k + 1)).1 (stk p V R i (k + 1)).2 (vis p V R i (k + 1))
theorem fS_none (p : Prm) (V R i A B : Int) : ∀ k, (∀ j, j ≤ k → stk p V R i j ≠ (A, B)) → fS p V R i k A B = none := by
  intro k
  induction k with
  | zero => intro h; unfold fS upd; rw [if_neg]; rintro ⟨rfl, rfl⟩; exact h 0 (Nat.le_refl _) rfl
  | succ k ih =>
    intro h; unfold fS upd; rw [if_neg]
    · exact ih fun j hj => h j (by omega)
    · rintro ⟨rfl, rfl⟩; exact h (k + 1) (Nat.le_refl _) rfl
theorem fS_some (p : Prm) (V R i A B : Int) (j : Nat) (hj : stk p V R i j = (A, B)) : ∀ k, j ≤ k → (∀ a, j < a → a ≤ k → stk p V R i a ≠ (A, B)) → fS p V R i k A B = some (vis p V R i j) := by
  intro k
  induction k with
  | zero => intro h _; obtain rfl : j = 0 := by omega
            cases hj; unfold fS upd; rw [if_pos ⟨rfl, rfl⟩]
  | succ k ih =>
    intro h hn
    by_cases e : j = k + 1
    · subst e; unfold fS upd; rw [hj, if_pos ⟨rfl, rfl⟩]
    · unfold fS upd
      rw [if_neg]
      · exact ih (by omega) fun a h1 h2 => hn a h1 (by omega)
      · rintro ⟨h1, h2⟩; exact hn (k + 1) (by omega) (Nat.le_refl _) (by rw [h1, h2])

/-- The state number K is the first that has occurred before, as number j; or K is beyond the greatest number. -/
structure CycS (p : Prm) (V R i : Int) (K j : Nat) : Prop where
  pos : 1 ≤ K
  le : K ≤ 65537
  hit : K ≤ 65536 → j < K ∧ stk p V R i j = stk p V R i K
  fresh : ∀ a b, a < b → b < K → stk p V R i a ≠ stk p V R i b
theorem cyc_at (p : Prm) (V R i : Int) : ∃ K j, CycS p V R i K j := by
  by_cases h : ∃ k, k < 65537 ∧ ∃ j, j < k ∧ stk p V R i j = stk p V R i k
  · obtain ⟨K, h1, ⟨j, h2, h3⟩, h4⟩ := least (P := fun k => ∃ j, j < k ∧ stk p V R i j = stk p V R i k) 65537 h
    exact ⟨K, j, by omega, by omega, fun _ => ⟨h2, h3⟩, fun a b hab hb e => h4 b hb ⟨a, hab, e⟩⟩
  · refine ⟨65537, 0, by omega, by omega, fun h => by omega, fun a b hab hb e => h ⟨b, hb, a, hab, e⟩⟩
def cycR (p : Prm) (V R i : Int) (K j : Nat) : Int × Int × Int × Int := if K ≤ 65536 then ((j : Int), (K : Int) - j, (nsp p V R i K : Int) - nsp p V R i j, 0) else (0, 0, 0, 8)
theorem stk_valid {p : Prm} (h : Ok p) {V R : Int} (i : Int) (hV : p.fl ≤ V) (hV' : V ≤ 1048576) (hR : 0 ≤ R) (hR' : R ≤ p.re) (k : Nat) : p.fl ≤ (stk p V R i k).1 ∧ (stk p V R i k).1 ≤ 1048576 ∧ 0 ≤ (stk p V R i k).2 ∧ (stk p V R i k).2 ≤ p.re :=
  after_valid h hV hV' hR hR' (List.replicate k i)
end Go.Proofs.Ytkpabecnimakpaa
