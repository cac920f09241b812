/- Learning: how many updates it takes at most; what is learned. Over any numbers. -/
import Derived.Test.YtjdcjcanmeangaaGreatTh
namespace Go.Proofs.YtjdcjcanmeangaaGreat
set_option linter.unusedVariables false
open Go.RowKit

theorem sq_nonneg (a : Int) : 0 ≤ a * a := by
  rcases Int.le_total 0 a with h | h
  · exact Int.mul_nonneg h h
  · exact Int.mul_nonneg_of_nonpos_of_nonpos h h
theorem le_of_sq {a b : Int} (hb : 0 ≤ b) (h : a * a ≤ b * b) : a ≤ b := by
  rcases Int.lt_or_le b a with h1 | h1
  · have := Int.mul_self_lt_mul_self hb h1; omega
  · exact h1
/-- One coordinate more in Cauchy's inequality. -/
theorem cauchy_step (A B C x y : Int) (hA : 0 ≤ A) (hB : 0 ≤ B) (h : C * C ≤ A * B) : (C + x * y) * (C + x * y) ≤ (A + x * x) * (B + y * y) := by
  have e1 : (2*C*x*y)*(2*C*x*y) = 4 * ((C*C) * ((x*x)*(y*y))) := by grind
  have e2 : (A*(y*y) + B*(x*x))*(A*(y*y) + B*(x*x)) = 4 * ((A*B) * ((x*x)*(y*y))) + (A*(y*y) - B*(x*x)) * (A*(y*y) - B*(x*x)) := by grind
  have h1 : 0 ≤ (A*(y*y) - B*(x*x)) * (A*(y*y) - B*(x*x)) := sq_nonneg _
  have h2 : 0 ≤ (x*x)*(y*y) := Int.mul_nonneg (sq_nonneg _) (sq_nonneg _)
  have h3 := Int.mul_le_mul_of_nonneg_right h h2
  have h4 : 0 ≤ A*(y*y) + B*(x*x) := Int.add_nonneg (Int.mul_nonneg hA (sq_nonneg _)) (Int.mul_nonneg hB (sq_nonneg _))
  have h5 : 2*C*x*y ≤ A*(y*y) + B*(x*x) := le_of_sq h4 (by omega)
  have e3 : (C + x * y) * (C + x * y) = C * C + 2*C*x*y + (x*x)*(y*y) := by grind
  have e4 : (A + x * x) * (B + y * y) = A * B + (A*(y*y) + B*(x*x)) + (x*x)*(y*y) := by grind
  omega
theorem dot_nonneg (f : Nat → Int) : ∀ n, 0 ≤ dotF f f n
  | 0 => Int.le_refl _
  | n + 1 => Int.add_nonneg (dot_nonneg f n) (sq_nonneg _)
theorem cauchy (f g : Nat → Int) (a b : Int) : ∀ n, (a * b + dotF f g n) * (a * b + dotF f g n) ≤ (a * a + dotF f f n) * (b * b + dotF g g n)
  | 0 => by
    have e : (a * b + dotF f g 0) * (a * b + dotF f g 0) = (a * a + dotF f f 0) * (b * b + dotF g g 0) := by simp only [dotF]; grind
    omega
  | n + 1 => by
    have ih := cauchy f g a b n
    have h := cauchy_step (a * a + dotF f f n) (b * b + dotF g g n) (a * b + dotF f g n) (f n) (g n) (Int.add_nonneg (sq_nonneg _) (dot_nonneg f n)) (Int.add_nonneg (sq_nonneg _) (dot_nonneg g n)) ih
    simp only [dotF]
    rw [← Int.add_assoc, ← Int.add_assoc, ← Int.add_assoc]
    exact h
theorem dot_add (f g h : Nat → Int) (S : Int) : ∀ n, dotF f (fun i => g i + S * h i) n = dotF f g n + S * dotF f h n
  | 0 => by simp [dotF]
  | n + 1 => by
    simp only [dotF]
    rw [dot_add f g h S n]
    grind
theorem dot_comm (f g : Nat → Int) : ∀ n, dotF f g n = dotF g f n
  | 0 => rfl
  | n + 1 => by simp only [dotF]; rw [dot_comm f g n, Int.mul_comm]
theorem dot_sq_add (g h : Nat → Int) (S : Int) (hS : S * S = 1) (n : Nat) : dotF (fun i => g i + S * h i) (fun i => g i + S * h i) n = dotF g g n + 2 * (S * dotF g h n) + dotF h h n := by
  rw [dot_add, dot_comm _ g, dot_comm _ h, dot_add, dot_add, dot_comm h g]
  grind
/-- The bound of updates from the two invariants. -/
theorem updates (U : Nat) (least P Q norm M : Int) (hl : 0 ≤ least) (hP : (U : Int) * least ≤ P) (hQ : Q ≤ U * M) (hC : P * P ≤ norm * Q) (hn : 0 ≤ norm) (hM : 0 ≤ M) : (U : Int) * least * least ≤ M * norm := by
  rcases Nat.eq_zero_or_pos U with rfl | hU
  · simp; exact Int.mul_nonneg hM hn
  · have h0 : 0 ≤ (U : Int) * least := Int.mul_nonneg (by omega) hl
    have h1 := Int.mul_self_le_mul_self h0 hP
    have h2 : norm * Q ≤ norm * (U * M) := Int.mul_le_mul_of_nonneg_left hQ hn
    have h3 : (U : Int) * ((U : Int) * least * least) ≤ (U : Int) * (M * norm) := by
      have e1 : (U : Int) * ((U : Int) * least * least) = (U : Int) * least * ((U : Int) * least) := by grind
      have e2 : (U : Int) * (M * norm) = norm * (U * M) := by grind
      omega
    exact Int.le_of_mul_le_mul_left h3 (by omega)

/-- A sample that weights separate. -/
structure Sep (n : Nat) (c : Nat → Int) (c0 least most : Int) (s : Smp) : Prop where
  pos : least ≤ sg s.y * (c0 + dotF c (xg s.x) n)
  sz : 1 + dotF (xg s.x) (xg s.x) n ≤ most
/-- What holds of what has been learned. -/
structure LInv (n : Nat) (c : Nat → Int) (c0 least M : Int) (st : TS) : Prop where
  P : (st.u : Int) * least ≤ c0 * st.b + dotF c st.f n
  Q : st.b * st.b + dotF st.f st.f n ≤ (st.u : Int) * M
theorem sg_sq (y : Bool) : sg y * sg y = 1 := by cases y <;> rfl
theorem LInv.init (n : Nat) (c : Nat → Int) (c0 least M : Int) : LInv n c c0 least M initS := by
  have h : ∀ (f : Nat → Int) k, dotF f (fun _ => 0) k = 0 := fun f k => by
    induction k with
    | zero => rfl
    | succ k ih => simp [dotF, ih]
  exact ⟨by simp [initS, h], by simp [initS, h]⟩
theorem LInv.learn {n : Nat} {c : Nat → Int} {c0 least most m : Int} {st : TS} {s : Smp} (h : LInv n c c0 least (most + 2 * m) st) (hs : Sep n c c0 least most s) : LInv n c c0 least (most + 2 * m) (learnS n m st s) := by
  unfold learnS
  split
  · exact h
  · rename_i hgo
    refine ⟨?_, ?_⟩
    · have h1 := h.P
      have h2 := hs.pos
      simp only
      rw [dot_add]
      have e : c0 * (st.b + sg s.y) + (dotF c st.f n + sg s.y * dotF c (xg s.x) n) = (c0 * st.b + dotF c st.f n) + sg s.y * (c0 + dotF c (xg s.x) n) := by grind
      have e2 : ((st.u + 1 : Nat) : Int) * least = (st.u : Int) * least + least := by push_cast; grind
      rw [e, e2]
      omega
    · have h1 := h.Q
      have h2 := hs.sz
      simp only
      rw [dot_sq_add _ _ _ (sg_sq s.y)]
      have e : (st.b + sg s.y) * (st.b + sg s.y) + (dotF st.f st.f n + 2 * (sg s.y * dotF st.f (xg s.x) n) + dotF (xg s.x) (xg s.x) n) = (st.b * st.b + dotF st.f st.f n) + 2 * (sg s.y * (st.b + dotF st.f (xg s.x) n)) + (sg s.y * sg s.y + dotF (xg s.x) (xg s.x) n) := by grind
      have e2 : ((st.u + 1 : Nat) : Int) * (most + 2 * m) = (st.u : Int) * (most + 2 * m) + (most + 2 * m) := by push_cast; grind
      rw [e, e2, sg_sq]
      omega
theorem LInv.round {n : Nat} {c : Nat → Int} {c0 least most m : Int} : ∀ (l : List Smp) (st : TS), (∀ s ∈ l, Sep n c c0 least most s) → LInv n c c0 least (most + 2 * m) st → LInv n c c0 least (most + 2 * m) (roundS n m l st)
  | [], _, _, h => h
  | s :: r, st, hl, h => LInv.round r (learnS n m st s) (fun t ht => hl t (List.mem_cons_of_mem _ ht)) (h.learn (hl s (List.mem_cons_self ..)))
theorem LInv.train {n : Nat} {c : Nat → Int} {c0 least most m : Int} {l : List Smp} (hl : ∀ s ∈ l, Sep n c c0 least most s) : ∀ r, LInv n c c0 least (most + 2 * m) (trainS n m l r).1
  | 0 => LInv.init _ _ _ _ _
  | r + 1 => by
    have ih := LInv.train (m := m) hl r
    simp only [trainS]
    split
    · exact ih
    · exact LInv.round l _ hl ih
/-- The bound of updates. -/
theorem train_updates {n : Nat} {c : Nat → Int} {c0 least most m : Int} {l : List Smp} (hl : ∀ s ∈ l, Sep n c c0 least most s) (h1 : 0 ≤ least) (h2 : 0 ≤ most + 2 * m) (r : Nat) :
    ((trainS n m l r).1.u : Int) * least * least ≤ (most + 2 * m) * (c0 * c0 + dotF c c n) := by
  have h := LInv.train (m := m) hl r
  exact updates _ least _ _ _ _ h1 h.P h.Q (cauchy c (trainS n m l r).1.f c0 (trainS n m l r).1.b n) (Int.add_nonneg (sq_nonneg _) (dot_nonneg _ _)) h2
/-- A round without an update. -/
theorem round_same {n : Nat} {m : Int} : ∀ (l : List Smp) (st : TS), (roundS n m l st).u = st.u → roundS n m l st = st ∧ ∀ s ∈ l, m < sg s.y * (st.b + dotF st.f (xg s.x) n)
  | [], st, _ => ⟨rfl, by simp⟩
  | s :: r, st, h => by
    have h1 := (roundS_u n m (learnS n m st s) r).1
    have h2 := (learnS_u n m st s).1
    have e : roundS n m (s :: r) st = roundS n m r (learnS n m st s) := rfl
    rw [e] at h ⊢
    have h3 : (learnS n m st s).u = st.u := by omega
    have h4 : m < sg s.y * (st.b + dotF st.f (xg s.x) n) := by
      by_cases q : m < sg s.y * (st.b + dotF st.f (xg s.x) n)
      · exact q
      · unfold learnS at h3; rw [if_neg q] at h3; simp at h3
    have h5 : learnS n m st s = st := by unfold learnS; rw [if_pos h4]
    rw [h5] at h ⊢
    obtain ⟨h6, h7⟩ := round_same r st h
    refine ⟨h6, fun t ht => ?_⟩
    rcases List.mem_cons.1 ht with rfl | ht
    · exact h4
    · exact h7 t ht
/-- When it is done, each sample is on its side of the margin. -/
theorem train_done {n : Nat} {m : Int} {l : List Smp} : ∀ r, (trainS n m l r).2 = true → ∀ s ∈ l, m < sg s.y * ((trainS n m l r).1.b + dotF (trainS n m l r).1.f (xg s.x) n)
  | 0, h => by simp [trainS] at h
  | r + 1, h => by
    by_cases hd : (trainS n m l r).2 = true
    · have e : trainS n m l (r + 1) = trainS n m l r := by simp only [trainS]; rw [if_pos hd]
      rw [e]; exact train_done r hd
    · have e := roundS_step (n := n) (m := m) (l := l) (r := r) (by simpa using hd)
      rw [e] at h ⊢
      simp only [beq_iff_eq] at h
      obtain ⟨h1, h2⟩ := round_same l _ h
      rw [h1]; exact h2
end Go.Proofs.YtjdcjcanmeangaaGreat
