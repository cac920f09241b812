/- What can be reached in a network: the mathematics of the work list, and of the rounds. Over any program. -/
import Derived.Test.YtgbcdebnanejpaaNc
namespace Go.Proofs.Ytgbcdebnanejpaa
set_option linter.unusedVariables false

/-- Events of zs can lead to x. -/
inductive Rch (ss : List Syn) (zs : List Int) : Int → Prop
  | base {x : Int} : x ∈ zs → Rch ss zs x
  | step {s : Syn} : s ∈ ss → s.wt ≠ 0 → Rch ss zs s.fr → Rch ss zs s.to
/-- All that x leads to is marked. -/
def DoneR (ss : List Syn) (f : Nat → Bool) (x : Int) : Prop := ∀ s ∈ ss, s.fr = x → s.wt ≠ 0 → f s.to.toNat = true
/-- What is known of x already. -/
def SeenR (zs : List Int) (n : Nat) (f : Nat → Bool) (x : Int) : Prop := x ∈ zs ∨ ∃ r, r < n ∧ f r = true ∧ x = (r : Int)
/-- The marks, the work that is left, and the source that is being worked on. -/
structure WkI (ss : List Syn) (zs : List Int) (n : Nat) (f : Nat → Bool) (work : List Int) (src : Option Int) : Prop where
  sound : ∀ r, r < n → f r = true → Rch ss zs r
  works : ∀ x ∈ work, Rch ss zs x
  base : ∀ x ∈ zs, 0 ≤ x → f x.toNat = true
  now : ∀ x, src = some x → Rch ss zs x
  cover : ∀ x, SeenR zs n f x → x ∈ work ∨ src = some x ∨ DoneR ss f x
def markF (f : Nat → Bool) (t : Nat) : Nat → Bool := fun r => if r = t then true else f r
theorem markF_up {f : Nat → Bool} {t r : Nat} (h : f r = true) : markF f t r = true := by unfold markF; split <;> simp [h]
theorem DoneR.up {ss : List Syn} {f : Nat → Bool} {x : Int} {t : Nat} (h : DoneR ss f x) : DoneR ss (markF f t) x := fun s hs hf hw => markF_up (h s hs hf hw)
theorem WkI.start {ss : List Syn} {zs : List Int} {n : Nat} {f : Nat → Bool} (h1 : ∀ r, r < n → f r = true → (r : Int) ∈ zs) (h2 : ∀ x ∈ zs, 0 ≤ x → f x.toNat = true) : WkI ss zs n f zs none :=
  ⟨fun r hr h => .base (h1 r hr h), fun x hx => .base hx, h2, fun x h => (by cases h), fun x hx => by
    rcases hx with hx | ⟨r, hr, hf, rfl⟩
    · exact .inl hx
    · exact .inl (h1 r hr hf)⟩
theorem WkI.pop {ss : List Syn} {zs : List Int} {n : Nat} {f : Nat → Bool} {w : List Int} {x : Int} (h : WkI ss zs n f (w ++ [x]) none) : WkI ss zs n f w (some x) :=
  ⟨h.sound, fun y hy => h.works y (by simp [hy]), h.base, fun y hy => (by cases hy; exact h.works x (by simp)), fun y hy => by
    rcases h.cover y hy with h1 | h1 | h1
    · rcases List.mem_append.1 h1 with h1 | h1
      · exact .inl h1
      · simp at h1; exact .inr (.inl (by rw [h1]))
    · cases h1
    · exact .inr (.inr h1)⟩
theorem WkI.push {ss : List Syn} {zs : List Int} {n : Nat} {f : Nat → Bool} {w : List Int} {s : Syn} (h : WkI ss zs n f w (some s.fr)) (hs : s ∈ ss) (hw : s.wt ≠ 0) (h0 : 0 ≤ s.to) : WkI ss zs n (markF f s.to.toNat) (w ++ [s.to]) (some s.fr) := by
  have hr : Rch ss zs s.to := .step hs hw (h.now _ rfl)
  refine ⟨fun r hr' hf => ?_, fun y hy => ?_, fun y hy h1 => markF_up (h.base y hy h1), h.now, fun y hy => ?_⟩
  · unfold markF at hf
    split at hf
    · rename_i e; rw [e, Int.toNat_of_nonneg h0]; exact hr
    · exact h.sound r hr' hf
  · rcases List.mem_append.1 hy with hy | hy
    · exact h.works y hy
    · simp at hy; rw [hy]; exact hr
  · have hc : y = s.to ∨ SeenR zs n f y := by
      rcases hy with hy | ⟨r, hr', hf, rfl⟩
      · exact .inr (.inl hy)
      · unfold markF at hf
        split at hf
        · rename_i e; left; rw [e, Int.toNat_of_nonneg h0]
        · exact .inr (.inr ⟨r, hr', hf, rfl⟩)
    rcases hc with rfl | hc
    · exact .inl (by simp)
    · rcases h.cover y hc with h1 | h1 | h1
      · exact .inl (by simp [h1])
      · exact .inr (.inl h1)
      · exact .inr (.inr h1.up)
theorem WkI.close {ss : List Syn} {zs : List Int} {n : Nat} {f : Nat → Bool} {w : List Int} {x : Int} (h : WkI ss zs n f w (some x)) (hd : DoneR ss f x) : WkI ss zs n f w none :=
  ⟨h.sound, h.works, h.base, fun y hy => (by cases hy), fun y hy => by
    rcases h.cover y hy with h1 | h1 | h1
    · exact .inl h1
    · cases h1; exact .inr (.inr hd)
    · exact .inr (.inr h1)⟩
/-- What is marked at the end. -/
theorem WkI.final {ss : List Syn} {zs : List Int} {n : Nat} {f : Nat → Bool} (h : WkI ss zs n f [] none) (hto : ∀ s ∈ ss, 0 ≤ s.to ∧ s.to.toNat < n) (r : Nat) (hr : r < n) : f r = true ↔ Rch ss zs r := by
  refine ⟨h.sound r hr, fun hR => ?_⟩
  have key : ∀ x : Int, Rch ss zs x → 0 ≤ x → f x.toNat = true := by
    intro x hx
    have hd : ∀ y, SeenR zs n f y → DoneR ss f y := fun y hy => by
      rcases h.cover y hy with h1 | h1 | h1
      · simp at h1
      · cases h1
      · exact h1
    induction hx with
    | base hx => exact fun h0 => h.base _ hx h0
    | step hs hw hfr ih =>
      rename_i s
      intro h0
      refine hd s.fr ?_ s hs rfl hw
      generalize s.fr = y at hfr ih
      cases hfr with
      | base hb => exact .inl hb
      | step hs' hw' hr' =>
        rename_i s'
        have h1 := (hto s' hs').1
        exact .inr ⟨s'.to.toNat, (hto s' hs').2, ih h1, by rw [Int.toNat_of_nonneg h1]⟩
  have := key r hR (Int.natCast_nonneg _)
  simpa using this

/-- How many of the first n are not marked. -/
def offN (f : Nat → Bool) : Nat → Nat
  | 0 => 0
  | n + 1 => offN f n + if f n = true then 0 else 1
theorem offN_le (f : Nat → Bool) : ∀ n, offN f n ≤ n
  | 0 => Nat.le_refl _
  | n + 1 => by have := offN_le f n; simp only [offN]; split <;> omega
theorem offN_same {f : Nat → Bool} {t : Nat} : ∀ n, n ≤ t → offN (markF f t) n = offN f n
  | 0, _ => rfl
  | n + 1, h => by
    simp only [offN]
    rw [offN_same n (by omega)]
    have : markF f t n = f n := by unfold markF; rw [if_neg (by omega)]
    rw [this]
theorem offN_mark {f : Nat → Bool} {t : Nat} (ht : f t = false) : ∀ n, t < n → offN (markF f t) n + 1 = offN f n
  | 0, h => by omega
  | n + 1, h => by
    simp only [offN]
    by_cases e : n = t
    · subst e
      rw [offN_same n (Nat.le_refl _)]
      have : markF f n n = true := by unfold markF; rw [if_pos rfl]
      rw [this, ht]; simp
    · have h1 := offN_mark ht n (by omega)
      have : markF f t n = f n := by unfold markF; rw [if_neg e]
      rw [this]; omega

/-- The specification's rounds: met, all of it reached; where nothing more comes, it is closed. -/
structure MetI (ss : List Syn) (zs : List Int) (g : Int → Bool) : Prop where
  sound : ∀ x, g x = true → Rch ss zs x
  base : ∀ x ∈ zs, g x = true
theorem MetI.add {ss : List Syn} {zs : List Int} {g : Int → Bool} {s : Syn} (h : MetI ss zs g) (hs : s ∈ ss) (hw : s.wt ≠ 0) (hf : g s.fr = true) : MetI ss zs fun x => if x = s.to then true else g x :=
  ⟨fun x hx => by
    by_cases e : x = s.to
    · rw [e]; exact .step hs hw (h.sound _ hf)
    · rw [if_neg e] at hx; exact h.sound x hx, fun x hx => by simp [h.base x hx]⟩
theorem MetI.final {ss : List Syn} {zs : List Int} {g : Int → Bool} (h : MetI ss zs g) (hc : ∀ s ∈ ss, s.wt ≠ 0 → g s.fr = true → g s.to = true) (x : Int) : g x = true ↔ Rch ss zs x := by
  refine ⟨h.sound x, fun hx => ?_⟩
  induction hx with
  | base hx => exact h.base _ hx
  | step hs hw _ ih => exact hc _ hs hw ih
end Go.Proofs.Ytgbcdebnanejpaa
