/- The specification's runs: the mathematics, rows of rows, the drawn region that makes a run. Over this seat's program. (mk_Ve.py wrote this.) -/
import Derived.Test.YtimjmofkofjcoaaGreatVd
namespace Go.Proofs.YtimjmofkofjcoaaGreat
set_option linter.unusedVariables false
open Go.RowKit Go.Shelf

/-! ### the mathematics -/
def negs (x : List Int) : Nat := x.countP fun a => decide (a < 0)
theorem negs_snoc (x : List Int) (o : Int) : negs (x ++ [o]) = negs x + if o < 0 then 1 else 0 := by
  unfold negs; rw [List.countP_append]; simp only [List.countP_cons, List.countP_nil]; simp
/-- What a run becomes with each of an event's options. -/
def growR (s : Nat) (opts : List Int) (x : List Int) : List (List Int) := (opts.map fun o => x ++ [o]).filter fun y => decide (negs y ≤ s)
theorem growR_snoc (s : Nat) (opts x : List Int) (o : Int) : growR s (opts ++ [o]) x = growR s opts x ++ if negs (x ++ [o]) ≤ s then [x ++ [o]] else [] := by
  unfold growR
  rw [List.map_append, List.filter_append]
  congr 1
  by_cases h : negs (x ++ [o]) ≤ s
  · rw [if_pos h]; simp [h]
  · rw [if_neg h]; simp [h]
theorem growR_le (s : Nat) (opts x : List Int) : (growR s opts x).length ≤ opts.length := by
  unfold growR; exact Nat.le_trans (List.length_filter_le _ _) (by simp)
theorem growR_mem {s : Nat} {opts x y : List Int} (h : y ∈ growR s opts x) : y.length = x.length + 1 ∧ negs y ≤ s := by
  unfold growR at h
  rw [List.mem_filter, List.mem_map] at h
  obtain ⟨⟨o, _, rfl⟩, h2⟩ := h
  exact ⟨by simp, by simpa using h2⟩
def extR (s : Nat) (opts : List Int) (L : List (List Int)) (k : Nat) : List (List Int) := (L.take k).flatMap (growR s opts)
theorem extR_succ {s : Nat} {opts : List Int} {L : List (List Int)} {k : Nat} {x : List Int} (h : L[k]? = some x) : extR s opts L (k + 1) = extR s opts L k ++ growR s opts x := by
  unfold extR; rw [List.take_add_one, h]; simp
theorem extR_full {s : Nat} {opts : List Int} {L : List (List Int)} : extR s opts L L.length = L.flatMap (growR s opts) := by unfold extR; rw [List.take_length]
theorem extR_le {s : Nat} {opts : List Int} {L : List (List Int)} (k : Nat) : (extR s opts L k).length ≤ (L.flatMap (growR s opts)).length := by
  unfold extR
  conv => rhs; rw [← List.take_append_drop k L, List.flatMap_append, List.length_append]
  omega
theorem extR_mem {s : Nat} {opts : List Int} {L : List (List Int)} {k i : Nat} (hL : ∀ x ∈ L, x.length = i) {y : List Int} (h : y ∈ extR s opts L k) : y.length = i + 1 ∧ negs y ≤ s := by
  unfold extR at h
  rw [List.mem_flatMap] at h
  obtain ⟨x, hx, hy⟩ := h
  obtain ⟨h1, h2⟩ := growR_mem hy
  exact ⟨by rw [h1, hL x (List.mem_of_mem_take hx)], h2⟩
/-- All runs. -/
def runE (j s : Nat) (l : List Evx) : List (List Int) := l.foldl (fun L x => L.flatMap (growR s (optL x.tk j))) [[]]
theorem runE_snoc (j s : Nat) (l : List Evx) (x : Evx) : runE j s (l ++ [x]) = (runE j s l).flatMap (growR s (optL x.tk j)) := by simp [runE]
theorem growR_pos {s : Nat} {t : Int} {j : Nat} {x : List Int} (h0 : 0 ≤ t) (h1 : t ≤ 9999) (hx : negs x ≤ s) : 1 ≤ (growR s (optL t j) x).length := by
  have hm : ∃ o, o ∈ optM t j := by
    have h := optM_len h0 h1 j
    have h2 := tickN_pos t j
    cases hh : optM t j with
    | nil => rw [hh] at h; simp at h; omega
    | cons a r => exact ⟨a, by simp⟩
  obtain ⟨o, ho⟩ := hm
  have : x ++ [o] ∈ growR s (optL t j) x := by
    unfold growR
    rw [List.mem_filter, List.mem_map]
    refine ⟨⟨o, by unfold optL; simp [ho], rfl⟩, ?_⟩
    have hp := optM_pos h0 j o ho
    rw [negs_snoc, if_neg (by omega)]
    simpa using hx
  exact List.length_pos_of_mem this
theorem flat_ge {s : Nat} {t : Int} {j : Nat} (h0 : 0 ≤ t) (h1 : t ≤ 9999) : ∀ (L : List (List Int)), (∀ x ∈ L, negs x ≤ s) → L.length ≤ (L.flatMap (growR s (optL t j))).length
  | [], _ => by simp
  | x :: r, h => by
    have h2 := flat_ge (j := j) h0 h1 r fun y hy => h y (by simp [hy])
    have h3 := growR_pos (j := j) h0 h1 (h x (by simp))
    rw [List.flatMap_cons, List.length_append, List.length_cons]
    omega
/-- What holds of the runs behind so many events. -/
structure StgR (j s : Nat) (l : List Evx) (i : Nat) (L : List (List Int)) : Prop where
  len : L.length ≤ 20130
  each : ∀ x ∈ L, x.length = i ∧ negs x ≤ s
  is : L = runE j s (l.take i) ∨ (20000 < L.length ∧ 20000 < (runE j s (l.take i)).length)
theorem rev_ind {P : List Evx → Prop} (h0 : P []) (h1 : ∀ r y, P r → P (r ++ [y])) (l : List Evx) : P l := by
  rw [← List.reverse_reverse l]
  induction l.reverse with
  | nil => exact h0
  | cons a r ih => rw [List.reverse_cons]; exact h1 _ _ ih
theorem runE_mem (j s : Nat) : ∀ (l : List Evx) (x : List Int), x ∈ runE j s l → negs x ≤ s := by
  intro l
  refine rev_ind (P := fun l => ∀ x : List Int, x ∈ runE j s l → negs x ≤ s) ?_ (fun r y ih => ?_) l
  · intro x h; simp [runE] at h; subst h; simp [negs]
  · intro x h
    rw [runE_snoc, List.mem_flatMap] at h
    obtain ⟨z, _, hz⟩ := h
    exact (growR_mem hz).2
theorem StgR.zero (j s : Nat) (l : List Evx) : StgR j s l 0 [[]] := ⟨by simp, fun x h => by simp at h; subst h; simp [negs], .inl (by simp [runE])⟩
theorem StgR.next {j s : Nat} {l : List Evx} {i : Nat} {L : List (List Int)} (h : StgR j s l i L) {e : Evx} (he : l[i]? = some e) (h0 : 0 ≤ e.tk) (h1 : e.tk ≤ 9999) {k : Nat} (hk : k = L.length ∨ 20000 < (extR s (optL e.tk j) L k).length) (hl : (extR s (optL e.tk j) L k).length ≤ 20130) :
    StgR j s l (i + 1) (extR s (optL e.tk j) L k) := by
  have hE : runE j s (l.take (i + 1)) = (runE j s (l.take i)).flatMap (growR s (optL e.tk j)) := by
    rw [List.take_add_one, he]; exact runE_snoc _ _ _ _
  refine ⟨hl, fun x hx => extR_mem (fun y hy => (h.each y hy).1) hx, ?_⟩
  rw [hE]
  rcases h.is with rfl | ⟨hb1, hb2⟩
  · rcases hk with rfl | hk
    · exact .inl extR_full
    · exact .inr ⟨hk, Nat.lt_of_lt_of_le hk (extR_le _)⟩
  · refine .inr ⟨?_, Nat.lt_of_lt_of_le hb2 (flat_ge h0 h1 _ (runE_mem _ _ _))⟩
    rcases hk with rfl | hk
    · rw [extR_full]; exact Nat.lt_of_lt_of_le hb1 (flat_ge h0 h1 _ fun x hx => (h.each x hx).2)
    · exact hk
/-! how many runs there are -/
def cntR (q : Nat) (L : List (List Int)) : Nat := L.countP fun x => decide (negs x = q)
theorem cnt_opts {s q : Nat} (x : List Int) (hq : q ≤ s) : ∀ (M : List Int), (∀ o ∈ M, 0 ≤ o) → cntR q (growR s M x) = if negs x = q then M.length else 0
  | [], _ => by simp [growR, cntR]
  | o :: r, h => by
    have ih := cnt_opts x hq r fun a ha => h a (by simp [ha])
    have ho : negs (x ++ [o]) = negs x := by rw [negs_snoc, if_neg (by have := h o (by simp); omega)]; omega
    unfold growR cntR at *
    rw [List.map_cons, List.filter_cons]
    by_cases e : negs x = q
    · rw [if_pos (by simp [ho]; omega), List.countP_cons, ih, if_pos e, if_pos e]
      simp [ho, e]
    · rw [if_neg e]; rw [if_neg e] at ih
      by_cases e2 : negs x ≤ s
      · rw [if_pos (by simp [ho, e2]), List.countP_cons, ih]; simp [ho, e]
      · rw [if_neg (by simp [ho, e2]), ih]
theorem cnt_grow {s q j : Nat} {t : Int} (h0 : 0 ≤ t) (h1 : t ≤ 9999) (x : List Int) (hq : q ≤ s) : cntR q (growR s (optL t j) x) = (if negs x = q then tickN t j else 0) + (if negs x + 1 = q then 1 else 0) := by
  unfold optL
  rw [growR_snoc, cntR, List.countP_append]
  have h := cnt_opts x hq (optM t j) (optM_pos h0 j)
  unfold cntR at h
  have e1 : negs (x ++ [-1]) = negs x + 1 := by rw [negs_snoc]; rfl
  rw [h, optM_len h0 h1, e1]
  congr 1
  by_cases e : negs x + 1 ≤ s
  · rw [if_pos e, List.countP_cons, List.countP_nil, e1]; simp
  · rw [if_neg e, if_neg (by omega)]; simp
theorem cnt_flat {s q j : Nat} {t : Int} (h0 : 0 ≤ t) (h1 : t ≤ 9999) (hq : q ≤ s) : ∀ L : List (List Int), cntR q (L.flatMap (growR s (optL t j))) = cntR q L * tickN t j + (if q = 0 then 0 else cntR (q - 1) L)
  | [] => by simp [cntR]
  | x :: r => by
    have ih := cnt_flat h0 h1 hq r (j := j)
    have hg := cnt_grow (j := j) h0 h1 x hq
    unfold cntR at *
    rw [List.flatMap_cons, List.countP_append, ih, hg, List.countP_cons, List.countP_cons, Nat.add_mul]
    by_cases e : negs x = q
    · have e2 : ¬ negs x + 1 = q := by omega
      have e3 : ¬ negs x = q - 1 ∨ q = 0 := by omega
      rw [if_pos e, if_neg e2]
      rcases e3 with e3 | rfl
      · simp [e]
        by_cases e4 : q = 0
        · simp [e4]; omega
        · have : ¬ q = q - 1 := by omega
          simp [e4, this]; omega
      · simp [e]; omega
    · rw [if_neg e]
      by_cases e2 : negs x + 1 = q
      · have e3 : negs x = q - 1 := by omega
        have e4 : ¬ q = 0 := by omega
        have e5 : ¬ q - 1 = q := by omega
        simp [e3, e4, e5, show q - 1 + 1 = q by omega]; omega
      · by_cases e4 : q = 0
        · subst e4; simp [e]
        · have e3 : ¬ negs x = q - 1 := by omega
          simp [e, e4, e2, e3]
theorem cnt_runE {j s : Nat} (l : List Evx) : (∀ x ∈ l, 0 ≤ x.tk ∧ x.tk ≤ 9999) → ∀ q, q ≤ s → cntR q (runE j s l) = wayG j l q := by
  refine rev_ind (P := fun l => (∀ x ∈ l, 0 ≤ x.tk ∧ x.tk ≤ 9999) → ∀ q, q ≤ s → cntR q (runE j s l) = wayG j l q) ?_ (fun r y ih => ?_) l
  · intro _ q hq
    by_cases e : q = 0
    · subst e; simp [runE, cntR, wayG, way0, negs]
    · have e2 : ¬ 0 = q := fun h => e h.symm
      simp [runE, cntR, wayG, way0, negs, e, e2]
  · intro h q hq
    have hy := h y (by simp)
    have ih2 := ih fun x hx => h x (by simp [hx])
    rw [runE_snoc, cnt_flat hy.1 hy.2 hq, wayG_snoc, wayS, ih2 q hq]
    by_cases e : q = 0
    · rw [if_pos e, if_pos e]
    · rw [if_neg e, if_neg e, ih2 (q - 1) (by omega)]
theorem sumTo_congr {f g : Nat → Nat} : ∀ n, (∀ q, q < n → f q = g q) → sumTo f n = sumTo g n
  | 0, _ => rfl
  | n + 1, h => by simp only [sumTo]; rw [sumTo_congr n fun q hq => h q (by omega), h n (by omega)]
theorem sumTo_ind {c : Nat} {f : Nat → Nat} : ∀ n, sumTo (fun q => f q + if decide (c = q) = true then 1 else 0) n = sumTo f n + if c < n then 1 else 0
  | 0 => by simp [sumTo]
  | n + 1 => by
    simp only [sumTo]
    rw [sumTo_ind n]
    by_cases e : c = n
    · subst e; simp; omega
    · by_cases e2 : c < n
      · simp [e, e2, show c < n + 1 by omega]; omega
      · simp [e, e2, show ¬ c < n + 1 by omega]
theorem sum_cnt (n : Nat) : ∀ L : List (List Int), (∀ x ∈ L, negs x < n) → sumTo (fun q => cntR q L) n = L.length
  | [], _ => by
    have : ∀ n, sumTo (fun q => cntR q []) n = 0 := fun n => by
      induction n with
      | zero => rfl
      | succ n ih => simp only [sumTo, ih]; simp [cntR]
    rw [this]; rfl
  | x :: r, h => by
    have ih := sum_cnt n r fun y hy => h y (by simp [hy])
    unfold cntR at *
    simp only [List.countP_cons]
    rw [sumTo_ind, ih, if_pos (h x (by simp)), List.length_cons]
theorem runE_len (j s : Nat) (l : List Evx) (h : ∀ x ∈ l, 0 ≤ x.tk ∧ x.tk ≤ 9999) : (runE j s l).length = sumTo (wayG j l) (s + 1) := by
  rw [← sum_cnt (s + 1) (runE j s l) fun x hx => Nat.lt_succ_of_le (runE_mem _ _ _ x hx)]
  exact sumTo_congr _ fun q hq => cnt_runE l h q (by omega)
end Go.Proofs.YtimjmofkofjcoaaGreat
