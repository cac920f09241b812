/- The mathematics of causes: what comes later changes nothing, what is quiet is not heard; a whisker is bent and free in turns. No condition. -/
import Derived.Test.YtbnjmpjodmlccaaMa
namespace Go.Proofs.Ytbnjmpjodmlccaa
set_option linter.unusedVariables false

def bfr (k : Nat) (l : List Evx) : List Evx := l.filter fun e => decide (e.tk < (k : Int))
theorem bfr_append (k : Nat) (l r : List Evx) : bfr k (l ++ r) = bfr k l ++ bfr k r := by simp [bfr]
theorem bfr_all {k : Nat} {l : List Evx} (h : ∀ e ∈ l, e.tk < (k : Int)) : bfr k l = l := List.filter_eq_self.2 fun e he => by simpa using h e he
theorem bfr_none {k : Nat} {l : List Evx} (h : ∀ e ∈ l, (k : Int) ≤ e.tk) : bfr k l = [] := List.filter_eq_nil_iff.2 fun e he => by have := h e he; simp; omega
theorem pieces_mem {α : Type} {f : Nat → List α} {n : Nat} {x : α} (h : x ∈ pieces f n) : ∃ t, t < n ∧ x ∈ f t := by
  simp only [pieces, List.mem_flatMap, List.mem_range] at h
  exact h
theorem pieces_bfr {f : Nat → List Evx} (hf : ∀ t, ∀ e ∈ f t, e.tk = (t : Int)) (k : Nat) : ∀ n, k ≤ n → bfr k (pieces f n) = pieces f k
  | 0, h => by rw [Nat.le_zero.1 h]; rfl
  | n + 1, h => by
    by_cases e : k = n + 1
    · rw [← e]
      exact bfr_all fun x hx => by obtain ⟨t, ht, hm⟩ := pieces_mem hx; rw [hf t x hm]; omega
    · rw [pieces_succ, bfr_append, pieces_bfr hf k n (by omega), bfr_none fun x hx => by rw [hf n x hx]; omega, List.append_nil]
theorem pieces_congr {α : Type} {f g : Nat → List α} : ∀ n, (∀ t, t < n → f t = g t) → pieces f n = pieces g n
  | 0, _ => rfl
  | n + 1, h => by rw [pieces_succ, pieces_succ, pieces_congr n (fun t ht => h t (by omega)), h n (by omega)]
theorem erC_tk {S : Int} {t k : Nat} {b a : Int} {e : Evx} (h : e ∈ erC S t k b a) : e.tk = (t : Int) := by
  unfold erC at h
  split at h
  · simp at h; subst h; rfl
  · split at h
    · simp at h; subst h; rfl
    · cases h
theorem erT_tk (S : Int) (C : Nat) (l : List Int) (t : Nat) : ∀ e ∈ erT S C l t, e.tk = (t : Int) := fun e h => by
  obtain ⟨k, _, hk⟩ := pieces_mem h
  exact erC_tk hk
/-- What an ear hears does not depend on what comes later. -/
theorem erL_before (S : Int) (C : Nat) (l : List Int) (k : Nat) (hk : k ≤ l.length) : bfr k (erL S C l) = erL S C (l.take k) := by
  unfold erL
  rw [pieces_bfr (erT_tk S C l) k _ hk, show (l.take k).length = k by simp; omega]
  refine pieces_congr k fun t ht => ?_
  unfold erT
  refine pieces_congr C fun j _ => ?_
  unfold erE
  rw [List.take_take, List.take_take, show min t k = t by omega, show min (t + 1) k = t + 1 by omega]
theorem whE_tk (T B : Int) (l : List Int) (t : Nat) : ∀ e ∈ whE T B l t, e.tk = (t : Int) := fun e h => by
  unfold whE at h
  split at h
  · cases h
  · simp at h; subst h; rfl
theorem whL_before (T B : Int) (l : List Int) (k : Nat) (hk : k ≤ l.length) : bfr k (whL T B l) = whL T B (l.take k) := by
  unfold whL
  rw [pieces_bfr (whE_tk T B l) k _ hk, show (l.take k).length = k by simp; omega]
  refine pieces_congr k fun t ht => ?_
  unfold whE
  rw [List.take_take, List.take_take, show min t k = t by omega, show min (t + 1) k = t + 1 by omega]
theorem pieces_nil {α : Type} {f : Nat → List α} (h : ∀ t, f t = []) : ∀ n, pieces f n = []
  | 0 => rfl
  | n + 1 => by rw [pieces_succ, pieces_nil h n, h n]; rfl
/-- What is not loud is not heard. -/
theorem erL_quiet (S : Int) (C : Nat) (hS : 1 ≤ S) (l : List Int) (hl : ∀ x ∈ l, 0 ≤ x ∧ x < S) : erL S C l = [] := by
  have hz : ∀ (t k : Nat), -(S - 1) ≤ lN (zA (l.take t)) k ∧ lN (zA (l.take t)) k ≤ S - 1 := fun t k => by
    have hb := zA_in (a := 0) (b := 256 * (S - 1)) (by omega) (by omega) (l.take t) (fun x hx => by have := hl x (List.mem_of_mem_take hx); omega)
    have h1 := hb k
    have h2 := hb (k + 1)
    unfold lN
    omega
  unfold erL
  refine pieces_nil (fun t => ?_) _
  unfold erT
  refine pieces_nil (fun k => ?_) _
  unfold erE erC
  have h1 := hz (t + 1) k
  rw [if_neg (by omega), if_neg (by omega)]
/-- What does not bend a whisker is not felt. -/
theorem whL_quiet (T B : Int) (l : List Int) (hl : ∀ x ∈ l, -T < x ∧ x < T) : whL T B l = [] := by
  have key : ∀ t, whS T B (l.take t) = 2 := by
    intro t
    induction t with
    | zero => rfl
    | succ t ih =>
      rcases Nat.lt_or_ge t l.length with h | h
      · have hx : l[t]? = some l[t] := List.getElem?_eq_getElem h
        rw [whS_at T B hx, ih]
        have := hl _ (List.mem_of_getElem? hx)
        unfold whN
        rw [if_pos rfl, if_neg (by omega), if_neg (by omega)]
      · rw [List.take_of_length_le (by omega)]
        rw [List.take_of_length_le (by omega)] at ih
        exact ih
  unfold whL
  refine pieces_nil (fun t => ?_) _
  unfold whE
  rw [key, key, if_pos rfl]
/-- An event of a whisker at the place n of its events. -/
def TurnOk (T : Int) (l : List Int) (n : Nat) (e : Evx) : Prop :=
  (0 ≤ e.tk ∧ e.tk < (l.length : Int)) ∧ (n % 2 = 0 → (e.id = 1 ∧ ∃ x, l[e.tk.toNat]? = some x ∧ T ≤ x) ∨ (e.id = 0 ∧ ∃ x, l[e.tk.toNat]? = some x ∧ x ≤ -T)) ∧ (n % 2 = 1 → e.id = 2)
theorem turns (T B : Int) (l : List Int) : ∀ t, t ≤ l.length → ((pieces (whE T B l) t).length % 2 = 0 ↔ whS T B (l.take t) = 2) ∧ ∀ (n : Nat) (e : Evx), (pieces (whE T B l) t)[n]? = some e → TurnOk T l n e
  | 0, _ => ⟨by simp [pieces, whS], fun n e h => by simp [pieces] at h⟩
  | t + 1, ht => by
    obtain ⟨h1, h2⟩ := turns T B l t (by omega)
    obtain ⟨x, hx⟩ : ∃ x, l[t]? = some x := ⟨_, List.getElem?_eq_getElem (by omega)⟩
    have hs := whS_at T B hx
    have he := whE_at T B hx
    have hin := whS_in T B (l.take t)
    rw [pieces_succ, he, hs]
    generalize whS T B (l.take t) = s at *
    generalize hP : pieces (whE T B l) t = P at *
    have hcase : whN T B s x = s ∨ (s = 2 ∧ ((whN T B s x = 1 ∧ T ≤ x) ∨ (whN T B s x = 0 ∧ x ≤ -T))) ∨ (s ≠ 2 ∧ whN T B s x = 2) := by
      rcases hin with rfl | rfl | rfl
      · unfold whN
        by_cases c : -x ≤ T - B - 1
        · exact .inr (.inr ⟨by decide, by simp [c]⟩)
        · exact .inl (by simp [c])
      · unfold whN
        by_cases c : x ≤ T - B - 1
        · exact .inr (.inr ⟨by decide, by simp [c]⟩)
        · exact .inl (by simp [c])
      · unfold whN
        by_cases c : T ≤ x
        · exact .inr (.inl ⟨rfl, .inl ⟨by simp [c], c⟩⟩)
        · by_cases c2 : x ≤ -T
          · exact .inr (.inl ⟨rfl, .inr ⟨by simp [c, c2], c2⟩⟩)
          · exact .inl (by simp [c, c2])
    have hlen : (t : Int) < (l.length : Int) := by omega
    have last : ∀ (N : Int), (P.length % 2 = 0 → (N = 1 ∧ T ≤ x) ∨ (N = 0 ∧ x ≤ -T)) → (P.length % 2 = 1 → N = 2) → ∀ (n : Nat) (e : Evx), (P ++ [(⟨(t : Int), N⟩ : Evx)])[n]? = some e → TurnOk T l n e := by
      intro N ha hb n e hn
      rcases Nat.lt_or_ge n P.length with h | h
      · rw [List.getElem?_append_left h] at hn; exact h2 n e hn
      · have hnl : n = P.length := by have := (List.getElem?_eq_some_iff.1 hn).1; simp at this; omega
        subst hnl
        simp at hn
        subst hn
        refine ⟨⟨Int.natCast_nonneg _, hlen⟩, fun h0 => ?_, hb⟩
        rcases ha h0 with ⟨a, b⟩ | ⟨a, b⟩
        · exact .inl ⟨a, x, by simpa using hx, b⟩
        · exact .inr ⟨a, x, by simpa using hx, b⟩
    rcases hcase with hc | ⟨rfl, hc⟩ | ⟨hs2, hc⟩
    · rw [if_pos hc, List.append_nil, hc]; exact ⟨h1, h2⟩
    · have hne : whN T B 2 x ≠ 2 := by rcases hc with h | h <;> (rw [h.1]; decide)
      rw [if_neg hne]
      have hev := h1.2 rfl
      refine ⟨by rw [List.length_append, List.length_singleton]; constructor <;> intro h <;> first | omega | exact absurd h hne, last _ (fun _ => hc) (fun h => by omega)⟩
    · rw [if_neg (by rw [hc]; exact fun h => hs2 h.symm), hc]
      have hod : P.length % 2 = 1 := by
        have : ¬ P.length % 2 = 0 := fun h => hs2 (h1.1 h)
        omega
      refine ⟨by rw [List.length_append, List.length_singleton]; constructor <;> intro h <;> first | rfl | omega, last _ (fun h => by omega) (fun _ => rfl)⟩
theorem whL_turns (T B : Int) (l : List Int) (n : Nat) (e : Evx) (h : (whL T B l)[n]? = some e) : TurnOk T l n e := (turns T B l l.length (Nat.le_refl _)).2 n e h
end Go.Proofs.Ytbnjmpjodmlccaa
