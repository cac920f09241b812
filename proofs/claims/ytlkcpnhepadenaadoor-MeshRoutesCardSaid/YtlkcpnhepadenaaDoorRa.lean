/- Routes: the mathematics of a route on a mesh. Over this seat's program. -/
import Derived.Test.YtlkcpnhepadenaaDoorBa
namespace Go.Proofs.YtlkcpnhepadenaaDoor
set_option linter.unusedVariables false
open Go.RowKit

/-- The output that the route to b takes at a, the router behind it, and how far it is. -/
def tw (W a b : Nat) : Nat := if a % W < b % W then 1 else if b % W < a % W then 4 else if a / W < b / W then 2 else if b / W < a / W then 8 else 16
def nx (W a b : Nat) : Nat := if a % W < b % W then a + 1 else if b % W < a % W then a - 1 else if a / W < b / W then a + W else if b / W < a / W then a - W else a
def ds (W a b : Nat) : Nat := (b % W - a % W) + (a % W - b % W) + ((b / W - a / W) + (a / W - b / W))
theorem dm {W q r : Nat} (h : r < W) : (W * q + r) / W = q ∧ (W * q + r) % W = r := by
  constructor
  · rw [Nat.mul_add_div (by omega), Nat.div_eq_of_lt h]; rfl
  · rw [Nat.mul_add_mod, Nat.mod_eq_of_lt h]
theorem dm_of {W a q r : Nat} (h : r < W) (e : a = W * q + r) : a / W = q ∧ a % W = r := by rw [e]; exact dm h
theorem split_at (W a : Nat) : a = W * (a / W) + a % W := (Nat.div_add_mod a W).symm
theorem same_of {W a b : Nat} (h1 : a % W = b % W) (h2 : a / W = b / W) : a = b := by rw [split_at W a, split_at W b, h1, h2]
theorem nx_facts {W a b : Nat} (hW : 0 < W) (hne : a ≠ b) : ds W (nx W a b) b + 1 = ds W a b ∧ nx W a b / W ≤ max (a / W) (b / W) := by
  have ha := split_at W a
  have hm := Nat.mod_lt a hW
  have hb := Nat.mod_lt b hW
  unfold nx ds
  split
  · rename_i h
    obtain ⟨e1, e2⟩ := dm_of (W := W) (a := a + 1) (q := a / W) (r := a % W + 1) (by omega) (by omega)
    rw [e1, e2]; clear e1 e2 ha; generalize a / W = A at *; generalize b / W = B at *; generalize a % W = p at *; generalize b % W = q at *; omega
  split
  · rename_i h
    obtain ⟨e1, e2⟩ := dm_of (W := W) (a := a - 1) (q := a / W) (r := a % W - 1) (by omega) (by omega)
    rw [e1, e2]; clear e1 e2 ha; generalize a / W = A at *; generalize b / W = B at *; generalize a % W = p at *; generalize b % W = q at *; omega
  split
  · rename_i h
    obtain ⟨e1, e2⟩ := dm_of (W := W) (a := a + W) (q := a / W + 1) (r := a % W) hm (by rw [Nat.mul_add]; omega)
    rw [e1, e2]; clear e1 e2 ha; generalize a / W = A at *; generalize b / W = B at *; generalize a % W = p at *; generalize b % W = q at *; omega
  split
  · rename_i h
    have h1 : W * (a / W - 1) + W = W * (a / W) := by
      have : a / W = (a / W - 1) + 1 := (Nat.sub_add_cancel (Nat.lt_of_le_of_lt (Nat.zero_le _) h)).symm
      conv => rhs; rw [this, Nat.mul_add, Nat.mul_one]
    obtain ⟨e1, e2⟩ := dm_of (W := W) (a := a - W) (q := a / W - 1) (r := a % W) hm (by omega)
    rw [e1, e2]; clear e1 e2 ha; generalize a / W = A at *; generalize b / W = B at *; generalize a % W = p at *; generalize b % W = q at *; omega
  · exact absurd (same_of (W := W) (by omega) (by omega)) hne
theorem in_iff {W H a : Nat} (hW : 0 < W) : a < W * H ↔ a / W < H := by rw [Nat.div_lt_iff_lt_mul hW, Nat.mul_comm]
theorem nx_in {W H a b : Nat} (hW : 0 < W) (ha : a < W * H) (hb : b < W * H) : nx W a b < W * H := by
  by_cases h : a = b
  · subst h
    have : nx W a a = a := by unfold nx; simp
    rw [this]; exact ha
  · have h1 := (nx_facts (W := W) hW h).2
    have h2 := (in_iff hW).1 ha
    have h3 := (in_iff hW).1 hb
    exact (in_iff hW).2 (by omega)
theorem ds_zero {W a b : Nat} : ds W a b = 0 ↔ a = b := by
  constructor
  · intro h; unfold ds at h; exact same_of (W := W) (by omega) (by omega)
  · rintro rfl; unfold ds; omega
theorem tw_end {W a b : Nat} : tw W a b = 16 ↔ a = b := by
  constructor
  · intro h
    unfold tw at h
    by_cases h1 : a % W < b % W
    · rw [if_pos h1] at h; omega
    rw [if_neg h1] at h
    by_cases h2 : b % W < a % W
    · rw [if_pos h2] at h; omega
    rw [if_neg h2] at h
    by_cases h3 : a / W < b / W
    · rw [if_pos h3] at h; omega
    rw [if_neg h3] at h
    by_cases h4 : b / W < a / W
    · rw [if_pos h4] at h; omega
    exact same_of (W := W) (by omega) (by omega)
  · rintro rfl; unfold tw; simp
theorem ds_le {W H a b : Nat} (hW : 0 < W) (ha : a < W * H) (hb : b < W * H) : ds W a b + 2 ≤ W + H := by
  have h2 := (in_iff hW).1 ha
  have h3 := (in_iff hW).1 hb
  have h4 := Nat.mod_lt a hW
  have h5 := Nat.mod_lt b hW
  unfold ds; generalize a / W = A at *; generalize b / W = B at *; generalize a % W = p at *; generalize b % W = q at *; omega
/-- The router behind k links. -/
def itr (W b a : Nat) : Nat → Nat
  | 0 => a
  | k + 1 => nx W (itr W b a k) b
theorem itr_in {W H a b : Nat} (hW : 0 < W) (ha : a < W * H) (hb : b < W * H) : ∀ k, itr W b a k < W * H
  | 0 => ha
  | k + 1 => nx_in hW (itr_in hW ha hb k) hb
theorem itr_ds {W a b : Nat} (hW : 0 < W) : ∀ k, k ≤ ds W a b → ds W (itr W b a k) b + k = ds W a b
  | 0, _ => rfl
  | k + 1, h => by
    have h1 := itr_ds (a := a) (b := b) hW k (by omega)
    have h2 : itr W b a k ≠ b := fun e => by have := (ds_zero (W := W)).2 e; omega
    have h3 := (nx_facts hW h2).1
    show ds W (nx W (itr W b a k) b) b + (k + 1) = _
    omega
theorem itr_ne {W a b k : Nat} (hW : 0 < W) (h : k < ds W a b) : itr W b a k ≠ b := fun e => by
  have h1 := itr_ds (a := a) (b := b) hW k (by omega)
  have h2 := (ds_zero (W := W)).2 e
  omega
theorem itr_end {W a b : Nat} (hW : 0 < W) : itr W b a (ds W a b) = b := by
  have h1 := itr_ds (a := a) (b := b) hW _ (Nat.le_refl _)
  exact (ds_zero (W := W)).1 (by omega)
/-- The routers of the route from a to b. -/
def pth (W a b : Nat) : List Nat := (List.range (ds W a b + 1)).map (itr W b a)
theorem pth_length (W a b : Nat) : (pth W a b).length = ds W a b + 1 := by simp [pth]
theorem pth_get {W a b k : Nat} (h : k ≤ ds W a b) : (pth W a b)[k]? = some (itr W b a k) := by
  simp [pth, List.getElem?_map, List.getElem?_range (show k < ds W a b + 1 by omega)]
end Go.Proofs.YtlkcpnhepadenaaDoor
