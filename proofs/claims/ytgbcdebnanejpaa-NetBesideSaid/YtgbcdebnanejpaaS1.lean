/- Sums that are due: the order in which they are added doesn't matter; sorted events. The mathematics. Over any program. -/
import Derived.Test.YtgbcdebnanejpaaC1
import Derived.Test.YtgbcdebnanejpaaR2
import Derived.Test.YtgbcdebnanejpaaJ1
namespace Go.Proofs.Ytgbcdebnanejpaa
set_option linter.unusedVariables false
open Go.RowKit

theorem wrap_add (x y : Int) : wrap64 (wrap64 x + y) = wrap64 (x + y) := by unfold wrap64; omega
/-- What a list of synapses adds up to, at the tick a and the neuron i. -/
def sumP (t a i : Nat) (l : List Syn) : Int := (l.map fun s => if (a : Int) = t + s.dl ∧ (i : Int) = s.to then s.wt else 0).sum
theorem sumP_nil {t a i : Nat} : sumP t a i [] = 0 := rfl
theorem sumP_cons {t a i : Nat} {s : Syn} {l : List Syn} : sumP t a i (s :: l) = (if (a : Int) = t + s.dl ∧ (i : Int) = s.to then s.wt else 0) + sumP t a i l := by simp [sumP]
theorem foldP_sum {t a i : Nat} : ∀ (l : List Syn) {v : Int}, rng64 v → l.foldl (addP t a i) v = wrap64 (v + sumP t a i l)
  | [], v, h => by rw [sumP_nil, Int.add_zero, List.foldl_nil, wrap_id h]
  | s :: l, v, h => by
    rw [List.foldl_cons, foldP_sum l (addP_rng h), sumP_cons]
    unfold addP
    by_cases hc : (a : Int) = t + s.dl ∧ (i : Int) = s.to
    · rw [if_pos hc, if_pos hc, wrap_add, Int.add_assoc]
    · rw [if_neg hc, if_neg hc, Int.zero_add]
/-- What sources send, as one sum. -/
theorem sends_sum {ss : List Syn} {t a i : Nat} (X : List Int) {due : Due} (h : rng64 (due a i)) : X.foldl (sendM ss t) due a i = wrap64 (due a i + sumP t a i (X.flatMap (ofSrc ss))) := by
  rw [sends_at, ← List.foldl_flatMap, foldP_sum _ h]
theorem sumP_perm {t a i : Nat} {l l' : List Syn} (h : l.Perm l') : sumP t a i l = sumP t a i l' := by
  unfold sumP
  induction h with
  | nil => rfl
  | cons x _ ih => simp only [List.map_cons, List.sum_cons, ih]
  | swap x y l => simp only [List.map_cons, List.sum_cons]; omega
  | trans _ _ h1 h2 => rw [h1, h2]
theorem due_rng (n : NetM) (l : List Evt) : ∀ t a i, rng64 ((runS n l t).due a i)
  | 0, a, i => by show rng64 0; unfold rng64; omega
  | t + 1, a, i => by
    show rng64 ((_ ++ _ : List Int).foldl (sendM n.ss t) (runS n l t).due a i)
    rw [sends_at, ← List.foldl_flatMap]
    exact foldP_rng _ (due_rng n l t a i)

/-! ### sorted events -/
def evLe (x y : Evt) : Bool := decide (x.tk < y.tk) || (decide (x.tk = y.tk) && decide (x.id ≤ y.id))
/-- How many of the first k events stay ahead of x. -/
def stayN (out : List Evt) (x : Evt) : Nat → Nat
  | 0 => 0
  | k + 1 => if evLe (out[k]?.getD ⟨0, 0⟩) x = true then k + 1 else stayN out x k
def insE (out : List Evt) (x : Evt) : List Evt := out.take (stayN out x out.length) ++ x :: out.drop (stayN out x out.length)
def sortE (l : List Evt) : List Evt := l.foldl insE []
theorem stayN_le (out : List Evt) (x : Evt) : ∀ k, stayN out x k ≤ k
  | 0 => Nat.le_refl _
  | k + 1 => by unfold stayN; split; exact Nat.le_refl _; have := stayN_le out x k; omega
theorem insE_perm (out : List Evt) (x : Evt) : (insE out x).Perm (x :: out) := by
  unfold insE
  have h1 : (out.take (stayN out x out.length) ++ x :: out.drop (stayN out x out.length)).Perm (x :: (out.take (stayN out x out.length) ++ out.drop (stayN out x out.length))) := List.perm_middle
  rw [List.take_append_drop] at h1
  exact h1
theorem sortE_perm (l : List Evt) : (sortE l).Perm l := by
  have key : ∀ (l out : List Evt), (l.foldl insE out).Perm (out ++ l) := fun l => by
    induction l with
    | nil => intro out; simp
    | cons x l ih =>
      intro out
      rw [List.foldl_cons]
      refine (ih (insE out x)).trans (((insE_perm out x).append_right l).trans ?_)
      exact (List.perm_middle (l₁ := out)).symm
  exact key l []
theorem evLe_trans {a b c : Evt} (h1 : evLe a b = true) (h2 : evLe b c = true) : evLe a c = true := by simp [evLe] at *; omega
theorem evLe_total {a b : Evt} (h : ¬ evLe a b = true) : evLe b a = true := by simp [evLe] at *; omega
abbrev SrtE (l : List Evt) : Prop := l.Pairwise fun a b => evLe a b = true
theorem stayN_spec {out : List Evt} {x : Evt} (hs : SrtE out) : ∀ k, k ≤ out.length → (∀ j, j < stayN out x k → evLe (out[j]?.getD ⟨0, 0⟩) x = true) ∧ ∀ j, stayN out x k ≤ j → j < k → ¬ evLe (out[j]?.getD ⟨0, 0⟩) x = true
  | 0, _ => ⟨fun j h => by simp [stayN] at h, fun j _ h => by omega⟩
  | k + 1, hk => by
    unfold stayN
    by_cases h : evLe (out[k]?.getD ⟨0, 0⟩) x = true
    · rw [if_pos h]
      refine ⟨fun j hj => ?_, fun j h1 h2 => by omega⟩
      by_cases e : j = k
      · rw [e]; exact h
      · have h1 := List.pairwise_iff_getElem.1 hs j k (by omega) (by omega) (by omega)
        rw [List.getElem?_eq_getElem (by omega)] at h ⊢
        simp only [Option.getD_some] at h ⊢
        exact evLe_trans h1 h
    · rw [if_neg h]
      obtain ⟨i1, i2⟩ := stayN_spec hs k (by omega)
      refine ⟨i1, fun j h1 h2 => ?_⟩
      by_cases e : j = k
      · rw [e]; exact h
      · exact i2 j h1 (by omega)
theorem insE_sorted {out : List Evt} {x : Evt} (hs : SrtE out) : SrtE (insE out x) := by
  obtain ⟨h1, h2⟩ := stayN_spec (x := x) hs out.length (Nat.le_refl _)
  have hle := stayN_le out x out.length
  unfold insE
  generalize stayN out x out.length = k at *
  refine List.pairwise_append.2 ⟨hs.sublist (List.take_sublist _ _), List.pairwise_cons.2 ⟨fun y hy => ?_, hs.sublist (List.drop_sublist _ _)⟩, fun a ha b hb => ?_⟩
  · obtain ⟨j, hj, rfl⟩ := List.getElem_of_mem hy
    rw [List.getElem_drop]
    have h3 := h2 (k + j) (by omega) (by simp at hj; omega)
    rw [List.getElem?_eq_getElem (by simp at hj; omega), Option.getD_some] at h3
    exact evLe_total h3
  · obtain ⟨j, hj, rfl⟩ := List.getElem_of_mem ha
    have hjk : j < k := by simp at hj; omega
    have hjl : j < out.length := by simp at hj; omega
    have h3 := h1 j hjk
    rw [List.getElem?_eq_getElem hjl, Option.getD_some] at h3
    rw [List.getElem_take]
    rcases List.mem_cons.1 hb with rfl | hb
    · exact h3
    · obtain ⟨i, hi, rfl⟩ := List.getElem_of_mem hb
      rw [List.getElem_drop]
      exact List.pairwise_iff_getElem.1 hs j (k + i) hjl (by simp at hi; omega) (by omega)
theorem sortE_sorted (l : List Evt) : SrtE (sortE l) := by
  have key : ∀ (l out : List Evt), SrtE out → SrtE (l.foldl insE out) := fun l => by
    induction l with
    | nil => exact fun out h => h
    | cons x l ih => exact fun out h => ih _ (insE_sorted h)
  exact key l [] List.Pairwise.nil
theorem evLe_anti {a b : Evt} (h1 : evLe a b = true) (h2 : evLe b a = true) : a = b := by
  cases a; cases b
  simp [evLe] at *
  omega
/-- Sorted lists with the same events are equal. -/
theorem srt_unique : ∀ {l l' : List Evt}, SrtE l → SrtE l' → l.Perm l' → l = l'
  | [], l', _, _, h => (List.nil_perm.1 h).symm
  | x :: l, [], _, _, h => absurd h.length_eq (by simp)
  | x :: l, y :: l', h1, h2, h => by
    obtain ⟨a1, a2⟩ := List.pairwise_cons.1 h1
    obtain ⟨b1, b2⟩ := List.pairwise_cons.1 h2
    have hxy : x = y := by
      have hx : x ∈ y :: l' := h.subset (by simp)
      have hy : y ∈ x :: l := h.symm.subset (by simp)
      rcases List.mem_cons.1 hx with e | hx
      · exact e
      · rcases List.mem_cons.1 hy with e | hy
        · exact e.symm
        · exact evLe_anti (a1 y hy) (b1 x hx)
    subst hxy
    rw [srt_unique a2 b2 ((List.perm_cons x).1 h)]
theorem sortE_eq {l l' : List Evt} (h : SrtE l') (hp : l.Perm l') : sortE l = l' := srt_unique (sortE_sorted l) h ((sortE_perm l).trans hp)
/-- A run's spikes are sorted. -/
theorem runO_sorted (n : NetM) (l : List Evt) : ∀ T, SrtE (runO n l T) ∧ ∀ e ∈ runO n l T, 0 ≤ e.tk ∧ e.tk < (T : Int)
  | 0 => ⟨List.Pairwise.nil, fun e h => by simp [runO] at h⟩
  | T + 1 => by
    obtain ⟨h1, h2⟩ := runO_sorted n l T
    rw [runO_succ]
    refine ⟨List.pairwise_append.2 ⟨h1, ?_, fun a ha b hb => ?_⟩, fun e he => ?_⟩
    · unfold tickO spkN
      rw [List.map_map]
      refine List.pairwise_map.2 ((List.pairwise_lt_range.sublist List.filter_sublist).imp fun {a b} hab => ?_)
      simp [evLe, evI]; omega
    · obtain ⟨i, _, rfl⟩ := List.mem_map.1 hb
      show (decide (a.tk < ((T : Nat) : Int)) || _) = true
      rw [decide_eq_true (h2 a ha).2]; rfl
    · rcases List.mem_append.1 he with he | he
      · have := h2 e he; omega
      · obtain ⟨i, _, rfl⟩ := List.mem_map.1 he
        simp [evI]; omega
end Go.Proofs.Ytgbcdebnanejpaa
namespace Go.Proofs.Ytgbcdebnanejpaa
set_option linter.unusedVariables false
open Go.RowKit Rn

theorem permF_nodup {n : Nat} : ∀ (l seen : List Int), permF n seen l = 0 → l.Nodup ∧ ∀ x ∈ l, x ∉ seen
  | [], _, _ => ⟨List.nodup_nil, fun x h => by simp at h⟩
  | y :: r, seen, h => by
    unfold permF at h
    by_cases h1 : y < 0 ∨ (n : Int) ≤ y
    · rw [if_pos h1] at h; omega
    · rw [if_neg h1] at h
      by_cases h2 : y ∈ seen
      · rw [if_pos h2] at h; omega
      · rw [if_neg h2] at h
        obtain ⟨h3, h4⟩ := permF_nodup r _ h
        refine ⟨List.nodup_cons.2 ⟨fun hy => h4 y hy (by simp), h3⟩, fun x hx => ?_⟩
        rcases List.mem_cons.1 hx with rfl | hx
        · exact h2
        · exact fun hs => h4 x hx (by simp [hs])
theorem len_of_subset : ∀ {l l' : List Int}, l.Nodup → (∀ x ∈ l, x ∈ l') → l.length ≤ l'.length
  | [], _, _, _ => Nat.zero_le _
  | x :: r, l', hn, hs => by
    obtain ⟨h1, h2⟩ := List.nodup_cons.1 hn
    have h3 := len_of_subset (l := r) (l' := l'.erase x) h2 fun y hy => (List.mem_erase_of_ne (fun e => h1 (by rw [← e]; exact hy))).2 (hs y (by simp [hy]))
    rw [List.length_erase_of_mem (hs x (by simp))] at h3
    have : 0 < l'.length := List.length_pos_of_mem (hs x (by simp))
    simp; omega
/-- An order of n things. -/
structure Ord (p : List Int) (N : Nat) : Prop where
  len : p.length = N
  rng : ∀ x ∈ p, 0 ≤ x ∧ x < (N : Int)
  nd : p.Nodup
theorem ord_of {p : List Int} {N : Nat} (h : permE p N = 0) : Ord p N := by
  obtain ⟨h1, h2⟩ := permE_zero h
  unfold permE at h
  rw [if_neg (by simp [h1])] at h
  exact ⟨h1, h2, (permF_nodup p [] h).1⟩
section
variable {p : List Int} {N : Nat}
theorem Ord.at (h : Ord p N) {i : Nat} (hi : i < N) : p[i]? = some (toI p i) := by
  unfold toI
  rw [Int.toNat_natCast, List.getElem?_eq_getElem (by rw [h.len]; exact hi)]; rfl
theorem Ord.to_rng (h : Ord p N) {i : Nat} (hi : i < N) : 0 ≤ toI p i ∧ toI p i < (N : Int) := h.rng _ (List.mem_of_getElem? (h.at hi))
theorem Ord.inj (h : Ord p N) {i j : Nat} (hi : i < N) (hj : j < N) (e : toI p i = toI p j) : i = j := by
  have h1 := h.at hi
  have h2 := h.at hj
  rw [e, ← h2] at h1
  have hil : i < p.length := by rw [h.len]; exact hi
  exact (List.getElem?_inj hil h.nd).1 h1
theorem Ord.surj (h : Ord p N) {k : Nat} (hk : k < N) : ∃ i, i < N ∧ toI p i = (k : Int) := by
  have hm : (k : Int) ∈ p := by
    apply Classical.byContradiction
    intro hn
    have h1 := len_of_subset (l := (k : Int) :: p) (l' := (List.range N).map fun i : Nat => (i : Int)) (List.nodup_cons.2 ⟨hn, h.nd⟩) fun x hx => by
      rcases List.mem_cons.1 hx with rfl | hx
      · exact List.mem_map.2 ⟨k, List.mem_range.2 hk, rfl⟩
      · have := h.rng x hx
        exact List.mem_map.2 ⟨x.toNat, List.mem_range.2 (by omega), by omega⟩
    simp [h.len] at h1
    omega
  obtain ⟨i, hi, e⟩ := List.getElem_of_mem hm
  have hiN : i < N := by rw [← h.len]; exact hi
  refine ⟨i, hiN, ?_⟩
  have h1 := h.at hiN
  rw [List.getElem?_eq_getElem hi, e] at h1
  exact (Option.some.inj h1).symm
theorem fillP_at (h : Ord p N) {ps : List Prm} (hps : ps.length = N) : ∀ j, j ≤ N → ∀ i, i < j → (fillP ps p j)[(toI p i).toNat]? = ps[i]?
  | 0, _, i, hi => by omega
  | j + 1, hj, i, hi => by
    have hjN : j < N := by omega
    have e1 : p[j]?.getD 0 = toI p j := by rw [h.at hjN]; rfl
    have r1 := h.to_rng hjN
    simp only [fillP, e1]
    by_cases e : i = j
    · subst e
      rw [List.getElem?_set_self (by rw [fillP_length, hps]; omega), List.getElem?_eq_getElem (by rw [hps]; exact hjN)]; rfl
    · have r2 := h.to_rng (i := i) (by omega)
      have hne : toI p i ≠ toI p j := fun q => e (h.inj (by omega) hjN q)
      rw [List.getElem?_set_ne (by omega)]
      exact fillP_at h hps j (by omega) i (by omega)
end
/-- A source's other number. -/
def tauI (p : List Int) (x : Int) : Int := if 0 ≤ x then toI p x else x
structure SameR (n : NetM) (p : List Int) (S S' : RunS) : Prop where
  st : ∀ i, i < n.ps.length → sAt S'.st (toI p i).toNat = sAt S.st i
  due : ∀ a i, i < n.ps.length → S'.due a (toI p i).toNat = S.due a i
  r1 : ∀ a i, rng64 (S.due a i)
  r2 : ∀ a i, rng64 (S'.due a i)
  l1 : S.st.length = n.ps.length
  l2 : S'.st.length = n.ps.length
section
variable {n : NetM} {p : List Int} {S S' : RunS} {t : Nat}
theorem ren_len : (renN n p).ps.length = n.ps.length := fillP_length _ _ _
theorem ren_p (ho : Ord p n.ps.length) {i : Nat} (hi : i < n.ps.length) : pAt (renN n p).ps (toI p i).toNat = pAt n.ps i := by
  unfold pAt
  show ((fillP n.ps p n.ps.length)[(toI p i).toNat]?).getD _ = _
  rw [fillP_at ho rfl _ (Nat.le_refl _) i hi]
theorem spkB_ren (ho : Ord p n.ps.length) (h : SameR n p S S') {i : Nat} (hi : i < n.ps.length) : spkB (renN n p).ps S'.st (S'.due t) (toI p i).toNat = spkB n.ps S.st (S.due t) i := by
  unfold spkB
  rw [ren_p ho hi, h.st i hi, h.due t i hi]
theorem tickO_ren (ho : Ord p n.ps.length) (h : SameR n p S S') : (tickO (renN n p) t S').Perm ((tickO n t S).map (toI p)) := by
  have nd : ∀ (ps : List Prm) (st : List (Int × Int)) (row : Nat → Int) (k : Nat), (spkN ps st row k).Nodup := fun ps st row k => by
    unfold spkN
    exact List.Pairwise.map _ (fun a b hab e => hab (by omega)) ((List.nodup_range (n := k)).sublist List.filter_sublist)
  refine (List.perm_ext_iff_of_nodup (nd _ _ _ _) ?_).2 fun x => ?_
  · unfold tickO spkN
    rw [List.map_map]
    refine List.pairwise_map.2 (List.Pairwise.imp_of_mem (fun {a b} ha hb hab e => ?_) ((List.nodup_range (n := n.ps.length)).sublist List.filter_sublist))
    have ha' := List.mem_range.1 (List.mem_filter.1 ha).1
    have hb' := List.mem_range.1 (List.mem_filter.1 hb).1
    exact hab (ho.inj ha' hb' e)
  · constructor
    · intro hx
      obtain ⟨k, hk, rfl⟩ := List.mem_map.1 hx
      obtain ⟨hk1, hk2⟩ := List.mem_filter.1 hk
      rw [List.mem_range, ren_len] at hk1
      obtain ⟨i, hi, e⟩ := ho.surj hk1
      refine List.mem_map.2 ⟨(i : Int), List.mem_map.2 ⟨i, List.mem_filter.2 ⟨List.mem_range.2 hi, ?_⟩, rfl⟩, e⟩
      rw [← spkB_ren ho h hi, e, Int.toNat_natCast]; exact hk2
    · intro hx
      obtain ⟨y, hy, rfl⟩ := List.mem_map.1 hx
      obtain ⟨i, hi, rfl⟩ := List.mem_map.1 hy
      obtain ⟨hi1, hi2⟩ := List.mem_filter.1 hi
      rw [List.mem_range] at hi1
      have hr := ho.to_rng hi1
      refine List.mem_map.2 ⟨(toI p i).toNat, List.mem_filter.2 ⟨List.mem_range.2 (by rw [ren_len]; omega), ?_⟩, by omega⟩
      rw [spkB_ren ho h hi1]; exact hi2
theorem ofSrc_ren (ho : Ord p n.ps.length) (hss : ∀ s ∈ n.ss, s.fr < (n.ps.length : Int) ∧ 0 ≤ s.to ∧ s.to < (n.ps.length : Int)) {x : Int} (hx : x < (n.ps.length : Int)) : ofSrc (renN n p).ss (tauI p x) = (ofSrc n.ss x).map (renS p) := by
  unfold ofSrc
  show (n.ss.map (renS p)).filter _ = _
  rw [List.filter_map]
  congr 1
  apply List.filter_congr
  intro s hs
  have h1 := (hss s hs).1
  show decide ((if 0 ≤ s.fr then toI p s.fr else s.fr) = tauI p x) = decide (s.fr = x)
  unfold tauI
  by_cases a : 0 ≤ s.fr <;> by_cases b : 0 ≤ x
  · rw [if_pos a, if_pos b]
    have e1 : ((s.fr.toNat : Nat) : Int) = s.fr := Int.toNat_of_nonneg a
    have e2 : ((x.toNat : Nat) : Int) = x := Int.toNat_of_nonneg b
    by_cases q : s.fr = x
    · rw [q]; simp
    · have : ¬ toI p s.fr = toI p x := fun e => q (by
        have := ho.inj (i := s.fr.toNat) (j := x.toNat) (by omega) (by omega) (by rw [e1, e2]; exact e)
        omega)
      simp [q, this]
  · rw [if_pos a, if_neg b]
    have := ho.to_rng (i := s.fr.toNat) (by omega)
    rw [Int.toNat_of_nonneg a] at this
    have q1 : ¬ toI p s.fr = x := by omega
    have q2 : ¬ s.fr = x := by omega
    simp [q1, q2]
  · rw [if_neg a, if_pos b]
    have := ho.to_rng (i := x.toNat) (by omega)
    rw [Int.toNat_of_nonneg b] at this
    have q1 : ¬ s.fr = toI p x := by omega
    have q2 : ¬ s.fr = x := by omega
    simp [q1, q2]
  · rw [if_neg a, if_neg b]
theorem sumP_ren (ho : Ord p n.ps.length) {a i : Nat} (hi : i < n.ps.length) : ∀ l : List Syn, (∀ s ∈ l, 0 ≤ s.to ∧ s.to < (n.ps.length : Int)) → sumP t a (toI p i).toNat (l.map (renS p)) = sumP t a i l
  | [], _ => rfl
  | s :: l, h => by
    rw [List.map_cons, sumP_cons, sumP_cons, sumP_ren ho hi l fun s' hs' => h s' (by simp [hs'])]
    congr 1
    have hs := h s (by simp)
    have hr := ho.to_rng hi
    have e1 : ((s.to.toNat : Nat) : Int) = s.to := Int.toNat_of_nonneg hs.1
    have e2 : (((toI p i).toNat : Nat) : Int) = toI p i := Int.toNat_of_nonneg hr.1
    show (if (a : Int) = t + s.dl ∧ (((toI p i).toNat : Nat) : Int) = toI p s.to then s.wt else 0) = _
    rw [e2]
    have hiff : toI p i = toI p s.to ↔ (i : Int) = s.to := by
      constructor
      · intro e
        have := ho.inj hi (j := s.to.toNat) (by omega) (by rw [e1]; exact e)
        omega
      · intro e; rw [← e]
    by_cases q : (i : Int) = s.to
    · simp [q]
    · have : ¬ toI p i = toI p s.to := fun e => q (hiff.1 e)
      simp [q, this]
theorem sameR_tick (ho : Ord p n.ps.length) (hss : ∀ s ∈ n.ss, s.fr < (n.ps.length : Int) ∧ 0 ≤ s.to ∧ s.to < (n.ps.length : Int)) (h : SameR n p S S') {ids : List Int} (hid : ∀ x ∈ ids, 0 ≤ x) : SameR n p (tickM n t S ids) (tickM (renN n p) t S' ids) := by
  refine ⟨fun i hi => ?_, fun a i hi => ?_, fun a i => ?_, fun a i => ?_, ?_, ?_⟩
  · have hr := ho.to_rng hi
    show sAt (midS (renN n p).ps S'.st (S'.due t) (renN n p).ps.length) (toI p i).toNat = sAt (midS n.ps S.st (S.due t) n.ps.length) i
    rw [ren_len, sAt_midS _ _ _ _ _ (by rw [h.l2]; omega), sAt_midS _ _ _ _ _ (by rw [h.l1]; exact hi), if_pos (by omega), if_pos hi]
    unfold newS
    rw [ren_p ho hi, h.st i hi, h.due t i hi]
  · show (tickO (renN n p) t S' ++ ids.map fun x => -1 - x).foldl (sendM (renN n p).ss t) S'.due a (toI p i).toNat = (tickO n t S ++ ids.map fun x => -1 - x).foldl (sendM n.ss t) S.due a i
    rw [sends_sum _ (h.r2 a _), sends_sum _ (h.r1 a i), h.due a i hi]
    congr 2
    have hX : (tickO (renN n p) t S' ++ ids.map fun x => -1 - x).Perm ((tickO n t S ++ ids.map fun x => -1 - x).map (tauI p)) := by
      rw [List.map_append]
      refine List.Perm.append ((tickO_ren ho h).trans (List.Perm.of_eq ?_)) (List.Perm.of_eq ?_)
      · apply List.map_congr_left
        intro x hx
        have := spkN_range hx
        unfold tauI; rw [if_pos this.1]
      · rw [List.map_map]
        apply List.map_congr_left
        intro x hx
        have := hid x hx
        show -1 - x = tauI p (-1 - x)
        unfold tauI; rw [if_neg (by omega)]
    have hv : ∀ x ∈ (tickO n t S ++ ids.map fun x => -1 - x), x < (n.ps.length : Int) := fun x hx => by
      rcases List.mem_append.1 hx with hx | hx
      · exact (spkN_range hx).2
      · obtain ⟨y, hy, rfl⟩ := List.mem_map.1 hx
        have := hid y hy
        omega
    rw [sumP_perm (hX.flatMap_right _)]
    generalize (tickO n t S ++ ids.map fun x => -1 - x) = X at hv
    have hfl : (X.map (tauI p)).flatMap (ofSrc (renN n p).ss) = (X.flatMap (ofSrc n.ss)).map (renS p) := by
      clear hX
      induction X with
      | nil => rfl
      | cons x X ih =>
        rw [List.map_cons, List.flatMap_cons, List.flatMap_cons, List.map_append, ofSrc_ren ho hss (hv x (by simp)), ih fun y hy => hv y (by simp [hy])]
    rw [hfl]
    refine sumP_ren ho hi _ fun s hs => ?_
    obtain ⟨x, _, hs⟩ := List.mem_flatMap.1 hs
    exact (hss s (List.mem_filter.1 hs).1).2
  · show rng64 ((_ ++ _ : List Int).foldl (sendM n.ss t) S.due a i)
    rw [sends_at, ← List.foldl_flatMap]
    exact foldP_rng _ (h.r1 a i)
  · show rng64 ((_ ++ _ : List Int).foldl (sendM (renN n p).ss t) S'.due a i)
    rw [sends_at, ← List.foldl_flatMap]
    exact foldP_rng _ (h.r2 a i)
  · show (midS _ _ _ _).length = _; rw [midS_length]; exact h.l1
  · show (midS _ _ _ _).length = _; rw [midS_length]; exact h.l2
end
theorem sameR_run {n : NetM} {p : List Int} (hok : NetOk n) (ho : Ord p n.ps.length) (l : List Evt) (hl : ∀ e ∈ l, 0 ≤ e.id) : ∀ t, SameR n p (runS n l t) (runS (renN n p) l t)
  | 0 => by
    refine ⟨fun i hi => ?_, fun a i hi => rfl, fun _ _ => by show rng64 0; unfold rng64; omega, fun _ _ => by show rng64 0; unfold rng64; omega, by simp [runS, beginM], by simp [runS, beginM, ren_len]⟩
    have hr := ho.to_rng hi
    have hk : (toI p i).toNat < n.ps.length := by omega
    simp [runS, beginM, sAt, ren_len, hi, hk]
  | t + 1 => by
    refine sameR_tick ho (fun s hs => ?_) (sameR_run hok ho l hl t) fun x hx => ?_
    · have := hok.ss s hs
      simp [synOk, srcOk, inR] at this
      omega
    · unfold idsAt at hx
      obtain ⟨e, he, rfl⟩ := List.mem_map.1 hx
      exact hl e (List.mem_filter.1 he).1
/-- The spikes with their other numbers. -/
def renO (p : List Int) (l : List Evt) : List Evt := l.map fun e => ⟨e.tk, toI p e.id⟩
theorem runO_ren {n : NetM} {p : List Int} (hok : NetOk n) (ho : Ord p n.ps.length) (l : List Evt) (hl : ∀ e ∈ l, 0 ≤ e.id) : ∀ T, (renO p (runO n l T)).Perm (runO (renN n p) l T)
  | 0 => List.Perm.refl _
  | T + 1 => by
    rw [runO_succ, runO_succ]
    unfold renO
    rw [List.map_append]
    refine List.Perm.append (runO_ren hok ho l hl T) ?_
    rw [List.map_map]
    have h := (tickO_ren (t := T) ho (sameR_run hok ho l hl T)).map (evI T)
    rw [List.map_map] at h
    exact h.symm
/-- What the law asks. -/
theorem sortE_ren {n : NetM} {p : List Int} (hok : NetOk n) (ho : Ord p n.ps.length) (l : List Evt) (hl : ∀ e ∈ l, 0 ≤ e.id) (T : Nat) : sortE (renO p (runO n l T)) = runO (renN n p) l T :=
  sortE_eq (runO_sorted _ _ T).1 (runO_ren hok ho l hl T)
end Go.Proofs.Ytgbcdebnanejpaa
namespace Go.Proofs.Ytgbcdebnanejpaa
set_option linter.unusedVariables false
open Go.RowKit Rn

theorem ncheck_of {n : NetM} (h : NetOk n) : ncheck n = 0 := by
  unfold ncheck
  have h0 := h.p0
  have h1 := h.p1
  have h2 := h.i0
  have h3 := h.i1
  have h4 := h.s1
  rw [if_neg (by omega), if_neg (by omega), if_neg (by omega), if_neg (by rw [Classical.not_not]; exact firstBad_all.2 h.ps), if_pos]
  rw [List.all_eq_true]
  exact h.ss
/-- A source of the second network, with its new number. -/
def shX (k : Nat) (i : Int) (x : Int) : Int := if x < 0 then x - i else x + (k : Int)
def shE (k : Int) (e : Evt) : Evt := ⟨e.tk, e.id + k⟩
def InS (n : NetM) (x : Int) : Prop := -n.inp ≤ x ∧ x < (n.ps.length : Int)
theorem NetOk.syn {n : NetM} (h : NetOk n) : ∀ s ∈ n.ss, InS n s.fr ∧ 0 ≤ s.to ∧ s.to < (n.ps.length : Int) := fun s hs => by
  have := h.ss s hs
  simp [synOk, srcOk, inR] at this
  unfold InS
  omega
structure SideR (a b : NetM) (A B S : RunS) : Prop where
  s1 : ∀ i, i < a.ps.length → sAt S.st i = sAt A.st i
  s2 : ∀ i, i < b.ps.length → sAt S.st (a.ps.length + i) = sAt B.st i
  d1 : ∀ t i, i < a.ps.length → S.due t i = A.due t i
  d2 : ∀ t i, i < b.ps.length → S.due t (a.ps.length + i) = B.due t i
  rA : ∀ t i, rng64 (A.due t i)
  rB : ∀ t i, rng64 (B.due t i)
  rS : ∀ t i, rng64 (S.due t i)
  lA : A.st.length = a.ps.length
  lB : B.st.length = b.ps.length
  lS : S.st.length = a.ps.length + b.ps.length
section
variable {a b : NetM} {A B S : RunS} {t : Nat}
theorem pAt_l {i : Nat} (h : i < a.ps.length) : pAt (joinN a b).ps i = pAt a.ps i := by
  unfold pAt joinN
  rw [List.getElem?_append_left h]
theorem pAt_r {i : Nat} : pAt (joinN a b).ps (a.ps.length + i) = pAt b.ps i := by
  unfold pAt joinN
  rw [List.getElem?_append_right (by omega), Nat.add_sub_cancel_left]
theorem join_len : (joinN a b).ps.length = a.ps.length + b.ps.length := by simp [joinN]
theorem tickO_join (h : SideR a b A B S) : tickO (joinN a b) t S = tickO a t A ++ (tickO b t B).map fun x => x + (a.ps.length : Int) := by
  unfold tickO spkN
  rw [join_len, List.range_add, List.filter_append, List.map_append]
  congr 1
  · congr 1
    apply List.filter_congr
    intro i hi
    rw [List.mem_range] at hi
    unfold spkB
    rw [pAt_l hi, h.s1 i hi, h.d1 t i hi]
  · rw [List.filter_map, List.map_map, List.map_map]
    have e : (List.range b.ps.length).filter (spkB (joinN a b).ps S.st (S.due t) ∘ fun x => a.ps.length + x) = (List.range b.ps.length).filter (spkB b.ps B.st (B.due t)) := by
      apply List.filter_congr
      intro i hi
      rw [List.mem_range] at hi
      show spkB _ _ _ (a.ps.length + i) = _
      unfold spkB
      rw [pAt_r, h.s2 i hi, h.d2 t i hi]
    rw [e]
    apply List.map_congr_left
    intro i _
    show ((a.ps.length + i : Nat) : Int) = (i : Int) + (a.ps.length : Int)
    omega
theorem sumP_append {a' i : Nat} : ∀ l l' : List Syn, sumP t a' i (l ++ l') = sumP t a' i l + sumP t a' i l'
  | [], l' => by rw [List.nil_append, sumP_nil, Int.zero_add]
  | s :: l, l' => by rw [List.cons_append, sumP_cons, sumP_cons, sumP_append l l', Int.add_assoc]
theorem sumP_zero {a' i : Nat} : ∀ l : List Syn, (∀ s ∈ l, (i : Int) ≠ s.to) → sumP t a' i l = 0
  | [], _ => rfl
  | s :: l, h => by rw [sumP_cons, sumP_zero l fun s' hs => h s' (by simp [hs]), if_neg (fun q => h s (by simp) q.2), Int.add_zero]
theorem sumP_sh {k a' i : Nat} {ia : Int} : ∀ l : List Syn, sumP t a' (k + i) (l.map (shS k ia)) = sumP t a' i l
  | [] => rfl
  | s :: l => by
    rw [List.map_cons, sumP_cons, sumP_cons, sumP_sh l]
    congr 1
    show (if (a' : Int) = t + s.dl ∧ ((k + i : Nat) : Int) = s.to + (k : Int) then s.wt else 0) = _
    by_cases q : (i : Int) = s.to
    · have q1 : ((k + i : Nat) : Int) = s.to + (k : Int) := by omega
      rw [q1, q]; simp
    · have q1 : ¬ ((k + i : Nat) : Int) = s.to + (k : Int) := by omega
      rw [if_neg (fun h => q1 h.2), if_neg (fun h => q h.2)]
theorem ofSrc_l (ha : NetOk a) (hb : NetOk b) {x : Int} (hx : InS a x) : ofSrc (joinN a b).ss x = ofSrc a.ss x := by
  unfold ofSrc joinN
  rw [List.filter_append, List.filter_map]
  have e : b.ss.filter ((fun s => decide (s.fr = x)) ∘ shS a.ps.length a.inp) = [] := by
    rw [List.filter_eq_nil_iff]
    intro s hs
    have h1 := (hb.syn s hs).1
    have h2 := ha.i0
    unfold InS at hx h1
    show ¬ decide ((if s.fr < 0 then s.fr - a.inp else s.fr + (a.ps.length : Int)) = x) = true
    rw [decide_eq_true_eq]
    split <;> omega
  rw [e, List.map_nil, List.append_nil]
theorem ofSrc_r (ha : NetOk a) (hb : NetOk b) {y : Int} (hy : InS b y) : ofSrc (joinN a b).ss (shX a.ps.length a.inp y) = (ofSrc b.ss y).map (shS a.ps.length a.inp) := by
  unfold ofSrc joinN
  rw [List.filter_append, List.filter_map]
  have h2 := ha.i0
  have e : a.ss.filter (fun s => decide (s.fr = shX a.ps.length a.inp y)) = [] := by
    rw [List.filter_eq_nil_iff]
    intro s hs
    have h1 := (ha.syn s hs).1
    unfold InS at hy h1
    rw [decide_eq_true_eq]
    unfold shX
    split <;> omega
  rw [e, List.nil_append]
  congr 1
  apply List.filter_congr
  intro s hs
  have h1 := (hb.syn s hs).1
  unfold InS at hy h1
  show decide ((if s.fr < 0 then s.fr - a.inp else s.fr + (a.ps.length : Int)) = (if y < 0 then y - a.inp else y + (a.ps.length : Int))) = decide (s.fr = y)
  have : ((if s.fr < 0 then s.fr - a.inp else s.fr + (a.ps.length : Int)) = (if y < 0 then y - a.inp else y + (a.ps.length : Int))) ↔ s.fr = y := by
    split <;> split <;> omega
  simp [this]
theorem flat_l (ha : NetOk a) (hb : NetOk b) : ∀ X : List Int, (∀ x ∈ X, InS a x) → X.flatMap (ofSrc (joinN a b).ss) = X.flatMap (ofSrc a.ss)
  | [], _ => rfl
  | x :: X, h => by rw [List.flatMap_cons, List.flatMap_cons, ofSrc_l ha hb (h x (by simp)), flat_l ha hb X fun y hy => h y (by simp [hy])]
theorem flat_r (ha : NetOk a) (hb : NetOk b) : ∀ Y : List Int, (∀ y ∈ Y, InS b y) → (Y.map (shX a.ps.length a.inp)).flatMap (ofSrc (joinN a b).ss) = (Y.flatMap (ofSrc b.ss)).map (shS a.ps.length a.inp)
  | [], _ => rfl
  | y :: Y, h => by rw [List.map_cons, List.flatMap_cons, List.flatMap_cons, List.map_append, ofSrc_r ha hb (h y (by simp)), flat_r ha hb Y fun z hz => h z (by simp [hz])]
theorem side_tick (ha : NetOk a) (hb : NetOk b) (h : SideR a b A B S) {i1 i2 ids : List Int} (h1 : ∀ x ∈ i1, 0 ≤ x ∧ x < a.inp) (h2 : ∀ x ∈ i2, 0 ≤ x ∧ x < b.inp) (hp : ids.Perm (i1 ++ i2.map fun x => x + a.inp)) :
    SideR a b (tickM a t A i1) (tickM b t B i2) (tickM (joinN a b) t S ids) := by
  have ha0 := ha.i0
  have hX : (tickO (joinN a b) t S ++ ids.map fun x => -1 - x).Perm ((tickO a t A ++ i1.map fun x => -1 - x) ++ (tickO b t B ++ i2.map fun x => -1 - x).map (shX a.ps.length a.inp)) := by
    rw [tickO_join h, List.map_append]
    have e1 : (tickO b t B).map (shX a.ps.length a.inp) = (tickO b t B).map fun x => x + (a.ps.length : Int) := by
      apply List.map_congr_left
      intro x hx
      have := spkN_range hx
      unfold shX; rw [if_neg (by omega)]
    have e2 : (i2.map fun x => -1 - x).map (shX a.ps.length a.inp) = (i2.map fun x => x + a.inp).map fun x => -1 - x := by
      rw [List.map_map, List.map_map]
      apply List.map_congr_left
      intro x hx
      have := h2 x hx
      show shX _ _ (-1 - x) = -1 - (x + a.inp)
      unfold shX; rw [if_pos (by omega)]; omega
    rw [e1, e2]
    have hq := hp.map fun x => -1 - x
    rw [List.map_append] at hq
    refine (List.Perm.append_left _ hq).trans ?_
    generalize tickO a t A = P1
    generalize (tickO b t B).map (fun x => x + (a.ps.length : Int)) = P2
    generalize i1.map (fun x => -1 - x) = P3
    generalize (i2.map fun x => x + a.inp).map (fun x => -1 - x) = P4
    rw [List.append_assoc, List.append_assoc]
    refine List.Perm.append_left _ ?_
    rw [← List.append_assoc, ← List.append_assoc]
    exact List.Perm.append_right _ List.perm_append_comm
  have vA : ∀ x ∈ (tickO a t A ++ i1.map fun x => -1 - x), InS a x := fun x hx => by
    unfold InS
    rcases List.mem_append.1 hx with hx | hx
    · have := spkN_range hx; omega
    · obtain ⟨y, hy, rfl⟩ := List.mem_map.1 hx
      have := h1 y hy; omega
  have vB : ∀ x ∈ (tickO b t B ++ i2.map fun x => -1 - x), InS b x := fun x hx => by
    have := hb.i0
    unfold InS
    rcases List.mem_append.1 hx with hx | hx
    · have := spkN_range hx; omega
    · obtain ⟨y, hy, rfl⟩ := List.mem_map.1 hx
      have := h2 y hy; omega
  have hsum : ∀ a' i, sumP t a' i ((tickO (joinN a b) t S ++ ids.map fun x => -1 - x).flatMap (ofSrc (joinN a b).ss)) = sumP t a' i ((tickO a t A ++ i1.map fun x => -1 - x).flatMap (ofSrc a.ss)) + sumP t a' i (((tickO b t B ++ i2.map fun x => -1 - x).flatMap (ofSrc b.ss)).map (shS a.ps.length a.inp)) := fun a' i => by
    rw [sumP_perm (hX.flatMap_right _), List.flatMap_append, sumP_append, flat_l ha hb _ vA, flat_r ha hb _ vB]
  have tA : ∀ s ∈ (tickO a t A ++ i1.map fun x => -1 - x).flatMap (ofSrc a.ss), 0 ≤ s.to ∧ s.to < (a.ps.length : Int) := fun s hs => by
    obtain ⟨x, _, hs⟩ := List.mem_flatMap.1 hs
    exact (ha.syn s (List.mem_filter.1 hs).1).2
  have tB : ∀ s ∈ ((tickO b t B ++ i2.map fun x => -1 - x).flatMap (ofSrc b.ss)).map (shS a.ps.length a.inp), (a.ps.length : Int) ≤ s.to := fun s hs => by
    obtain ⟨s', hs', rfl⟩ := List.mem_map.1 hs
    obtain ⟨x, _, hs'⟩ := List.mem_flatMap.1 hs'
    have := (hb.syn s' (List.mem_filter.1 hs').1).2
    show (a.ps.length : Int) ≤ s'.to + (a.ps.length : Int)
    omega
  have zB : ∀ a' i, i < a.ps.length → sumP t a' i (((tickO b t B ++ i2.map fun x => -1 - x).flatMap (ofSrc b.ss)).map (shS a.ps.length a.inp)) = 0 := fun a' i hi => sumP_zero _ fun s hs => by have := tB s hs; omega
  have zA : ∀ a' i, sumP t a' (a.ps.length + i) ((tickO a t A ++ i1.map fun x => -1 - x).flatMap (ofSrc a.ss)) = 0 := fun a' i => sumP_zero _ fun s hs => by have := (tA s hs).2; omega
  refine ⟨fun i hi => ?_, fun i hi => ?_, fun a' i hi => ?_, fun a' i hi => ?_, fun a' i => ?_, fun a' i => ?_, fun a' i => ?_, ?_, ?_, ?_⟩
  · show sAt (midS (joinN a b).ps S.st (S.due t) (joinN a b).ps.length) i = sAt (midS a.ps A.st (A.due t) a.ps.length) i
    rw [join_len, sAt_midS _ _ _ _ _ (by rw [h.lS]; omega), sAt_midS _ _ _ _ _ (by rw [h.lA]; exact hi), if_pos (by omega), if_pos hi]
    unfold newS
    rw [pAt_l hi, h.s1 i hi, h.d1 t i hi]
  · show sAt (midS (joinN a b).ps S.st (S.due t) (joinN a b).ps.length) (a.ps.length + i) = sAt (midS b.ps B.st (B.due t) b.ps.length) i
    rw [join_len, sAt_midS _ _ _ _ _ (by rw [h.lS]; omega), sAt_midS _ _ _ _ _ (by rw [h.lB]; exact hi), if_pos (by omega), if_pos hi]
    unfold newS
    rw [pAt_r, h.s2 i hi, h.d2 t i hi]
  · show (tickO (joinN a b) t S ++ ids.map fun x => -1 - x).foldl (sendM (joinN a b).ss t) S.due a' i = (tickO a t A ++ i1.map fun x => -1 - x).foldl (sendM a.ss t) A.due a' i
    rw [sends_sum _ (h.rS a' i), sends_sum _ (h.rA a' i), h.d1 a' i hi, hsum, zB a' i hi, Int.add_zero]
  · show (tickO (joinN a b) t S ++ ids.map fun x => -1 - x).foldl (sendM (joinN a b).ss t) S.due a' (a.ps.length + i) = (tickO b t B ++ i2.map fun x => -1 - x).foldl (sendM b.ss t) B.due a' i
    rw [sends_sum _ (h.rS a' _), sends_sum _ (h.rB a' i), h.d2 a' i hi, hsum, zA a' i, Int.zero_add, sumP_sh]
  · show rng64 ((_ ++ _ : List Int).foldl (sendM a.ss t) A.due a' i)
    rw [sends_at, ← List.foldl_flatMap]; exact foldP_rng _ (h.rA a' i)
  · show rng64 ((_ ++ _ : List Int).foldl (sendM b.ss t) B.due a' i)
    rw [sends_at, ← List.foldl_flatMap]; exact foldP_rng _ (h.rB a' i)
  · show rng64 ((_ ++ _ : List Int).foldl (sendM (joinN a b).ss t) S.due a' i)
    rw [sends_at, ← List.foldl_flatMap]; exact foldP_rng _ (h.rS a' i)
  · show (midS _ _ _ _).length = _; rw [midS_length]; exact h.lA
  · show (midS _ _ _ _).length = _; rw [midS_length]; exact h.lB
  · show (midS _ _ _ _).length = _; rw [midS_length]; exact h.lS
end
section
variable {a b : NetM} {l1 l2 L : List Evt}
theorem idsAt_perm {k : Int} {L l1 l2 : List Evt} (hp : L.Perm (l1 ++ l2.map (shE k))) (t : Nat) : (idsAt L t).Perm (idsAt l1 t ++ (idsAt l2 t).map fun x => x + k) := by
  unfold idsAt
  have h := (hp.filter fun e => decide (e.tk = (t : Int))).map Evt.id
  rw [List.filter_append, List.map_append, List.filter_map, List.map_map] at h
  rw [List.map_map]
  exact h
theorem idsAt_mem {l : List Evt} {t : Nat} {x : Int} (h : x ∈ idsAt l t) : ∃ e ∈ l, e.id = x := by
  unfold idsAt at h
  obtain ⟨e, he, rfl⟩ := List.mem_map.1 h
  exact ⟨e, (List.mem_filter.1 he).1, rfl⟩
theorem side_run (ha : NetOk a) (hb : NetOk b) (h1 : ∀ e ∈ l1, 0 ≤ e.id ∧ e.id < a.inp) (h2 : ∀ e ∈ l2, 0 ≤ e.id ∧ e.id < b.inp) (hp : L.Perm (l1 ++ l2.map (shE a.inp))) : ∀ t, SideR a b (runS a l1 t) (runS b l2 t) (runS (joinN a b) L t)
  | 0 => by
    have z : rng64 0 := by unfold rng64; omega
    refine ⟨fun i hi => ?_, fun i hi => ?_, fun _ _ _ => rfl, fun _ _ _ => rfl, fun _ _ => z, fun _ _ => z, fun _ _ => z, by simp [runS, beginM], by simp [runS, beginM], by simp [runS, beginM, join_len]⟩
    · have : i < a.ps.length + b.ps.length := by omega
      simp [runS, beginM, sAt, join_len, hi, this]
    · simp [runS, beginM, sAt, join_len, hi]
  | t + 1 => side_tick ha hb (side_run ha hb h1 h2 hp t)
      (fun x hx => by obtain ⟨e, he, rfl⟩ := idsAt_mem hx; exact h1 e he)
      (fun x hx => by obtain ⟨e, he, rfl⟩ := idsAt_mem hx; exact h2 e he) (idsAt_perm hp t)
theorem runO_side (ha : NetOk a) (hb : NetOk b) (h1 : ∀ e ∈ l1, 0 ≤ e.id ∧ e.id < a.inp) (h2 : ∀ e ∈ l2, 0 ≤ e.id ∧ e.id < b.inp) (hp : L.Perm (l1 ++ l2.map (shE a.inp))) : ∀ T, (runO a l1 T ++ (runO b l2 T).map (shE a.ps.length)).Perm (runO (joinN a b) L T)
  | 0 => List.Perm.refl _
  | T + 1 => by
    rw [runO_succ, runO_succ, runO_succ, tickO_join (side_run ha hb h1 h2 hp T)]
    simp only [List.map_append, List.map_map]
    have e : (fun x => (evI T ∘ fun x => x + (a.ps.length : Int)) x) = fun x => (shE a.ps.length ∘ evI T) x := by
      funext x; rfl
    have ih := runO_side ha hb h1 h2 hp T
    rw [show (evI T ∘ fun x => x + (a.ps.length : Int)) = (shE a.ps.length ∘ evI T) from e]
    generalize (tickO b T (runS b l2 T)).map (shE a.ps.length ∘ evI T) = P4
    generalize (tickO a T (runS a l1 T)).map (evI T) = P3
    refine List.Perm.trans ?_ (List.Perm.append_right _ ih)
    generalize (runO b l2 T).map (shE a.ps.length) = P2
    generalize runO a l1 T = P1
    rw [List.append_assoc, List.append_assoc]
    refine List.Perm.append_left _ ?_
    rw [← List.append_assoc, ← List.append_assoc]
    exact List.Perm.append_right _ List.perm_append_comm
/-- What the law asks of the spikes. -/
theorem sortE_side (ha : NetOk a) (hb : NetOk b) (h1 : ∀ e ∈ l1, 0 ≤ e.id ∧ e.id < a.inp) (h2 : ∀ e ∈ l2, 0 ≤ e.id ∧ e.id < b.inp) (T : Nat) :
    sortE (runO a l1 T ++ (runO b l2 T).map (shE a.ps.length)) = runO (joinN a b) (sortE (l1 ++ l2.map (shE a.inp))) T :=
  sortE_eq (runO_sorted _ _ T).1 (runO_side ha hb h1 h2 (sortE_perm _) T)
/-- The joined network is a good one. -/
theorem join_ok (ha : NetOk a) (hb : NetOk b) (h1 : a.ps.length + b.ps.length ≤ 1024) (h2 : a.inp + b.inp ≤ 256) (h3 : a.ss.length + b.ss.length ≤ 8192) : NetOk (joinN a b) := by
  have a0 := ha.i0
  have b0 := hb.i0
  have p0 := ha.p0
  refine ⟨by rw [join_len]; omega, by rw [join_len]; omega, by show 0 ≤ a.inp + b.inp; omega, by show a.inp + b.inp ≤ 256; omega, by show (a.ss ++ b.ss.map _).length ≤ _; simp; omega, fun p hp => ?_, fun s hs => ?_⟩
  · rcases List.mem_append.1 hp with hp | hp
    · exact ha.ps p hp
    · exact hb.ps p hp
  · rw [join_len]
    rcases List.mem_append.1 hs with hs | hs
    · have := ha.ss s hs
      simp [synOk, srcOk, inR] at this ⊢
      show (_ ∧ _) ∧ _
      simp only [joinN]
      omega
    · obtain ⟨s', hs', rfl⟩ := List.mem_map.1 hs
      have := hb.ss s' hs'
      simp [synOk, srcOk, inR] at this ⊢
      simp only [joinN, shS]
      by_cases q : s'.fr < 0
      · rw [if_pos q]; omega
      · rw [if_neg q]; omega
/-- The joined events are good ones. -/
theorem side_evs {most : Int} (ha : NetOk a) (hb : NetOk b) (h1 : evsErr l1 a.inp most = 0) (h2 : evsErr l2 b.inp most = 0) : evsErr (sortE (l1 ++ l2.map (shE a.inp))) (a.inp + b.inp) most = 0 := by
  have ha0 := ha.i0
  obtain ⟨p1, q1⟩ := evs_iff.1 h1
  obtain ⟨p2, q2⟩ := evs_iff.1 h2
  have hnd : (l1 ++ l2.map (shE a.inp)).Nodup := by
    refine List.nodup_append.2 ⟨p1.imp fun {x y} h e => ?_, List.pairwise_map.2 (p2.imp fun {x y} h e => ?_), fun x hx y hy e => ?_⟩
    · subst e; simp [evLt] at h
    · have e0 : shE a.inp x = shE a.inp y := e
      have e1 : (shE a.inp x).tk = (shE a.inp y).tk := by rw [e0]
      have e2 : (shE a.inp x).id = (shE a.inp y).id := by rw [e0]
      simp only [shE] at e1 e2
      simp [evLt] at h
      omega
    · subst e
      have hx1 := (q1 x hx).2
      obtain ⟨y', hy', rfl⟩ := List.mem_map.1 hy
      have hy1 := (q2 y' hy').2
      have : (shE a.inp y').id = y'.id + a.inp := rfl
      omega
  have hpm := sortE_perm (l1 ++ l2.map (shE a.inp))
  refine evs_iff.2 ⟨?_, fun e he => ?_⟩
  · have hs := sortE_sorted (l1 ++ l2.map (shE a.inp))
    have hn : (sortE (l1 ++ l2.map (shE a.inp))).Nodup := hpm.nodup_iff.2 hnd
    refine (hs.and hn).imp fun {x y} h => ?_
    obtain ⟨u, v⟩ := h
    cases x; cases y
    simp [evLe, evLt] at *
    omega
  · rcases List.mem_append.1 (hpm.subset he) with h | h
    · have := q1 e h
      unfold EvIn at this ⊢
      have hb0 := hb.i0
      obtain ⟨c1, c2, c3⟩ := this
      exact ⟨c1, c2, by omega⟩
    · obtain ⟨y, hy, rfl⟩ := List.mem_map.1 h
      have := q2 y hy
      unfold EvIn at this ⊢
      show (0 ≤ y.tk ∧ y.tk ≤ most - 1) ∧ 0 ≤ y.id + a.inp ∧ y.id + a.inp ≤ a.inp + b.inp - 1
      omega
end
end Go.Proofs.Ytgbcdebnanejpaa
namespace Go.Proofs.Ytgbcdebnanejpaa
set_option linter.unusedVariables false
open Go.RowKit Rn

theorem ren_netok {n : NetM} {p : List Int} (hok : NetOk n) (ho : Ord p n.ps.length) : NetOk (renN n p) := by
  refine ⟨by rw [ren_len]; exact hok.p0, by rw [ren_len]; exact hok.p1, hok.i0, hok.i1, by show (n.ss.map _).length ≤ _; rw [List.length_map]; exact hok.s1, fun q hq => ?_, fun s hs => ?_⟩
  · obtain ⟨k, hk, rfl⟩ := List.getElem_of_mem hq
    have hkN : k < n.ps.length := by rw [← ren_len (n := n) (p := p)]; exact hk
    obtain ⟨i, hi, e⟩ := ho.surj hkN
    have h1 := fillP_at ho rfl _ (Nat.le_refl _) i hi
    rw [e, Int.toNat_natCast] at h1
    have h2 : (renN n p).ps[k]? = some ((renN n p).ps[k]) := List.getElem?_eq_getElem hk
    have h3 : (renN n p).ps[k]? = n.ps[i]? := h1
    rw [h2] at h3
    exact hok.ps _ (List.mem_of_getElem? h3.symm)
  · obtain ⟨s', hs', rfl⟩ := List.mem_map.1 hs
    have h := hok.ss s' hs'
    rw [ren_len]
    show synOk n.ps.length n.inp (renS p s') = true
    simp [synOk, srcOk, inR] at h
    have r2 := ho.to_rng (i := s'.to.toNat) (by omega)
    rw [Int.toNat_of_nonneg (by omega)] at r2
    simp only [renS]
    by_cases q : 0 ≤ s'.fr
    · have r1 := ho.to_rng (i := s'.fr.toNat) (by omega)
      rw [Int.toNat_of_nonneg q] at r1
      rw [if_pos q]
      have := hok.i0
      simp [synOk, srcOk, inR]; omega
    · rw [if_neg q]
      simp [synOk, srcOk, inR]; omega
theorem runE_of {n m : NetM} {l l' : List Evt} {T : Int} (h : runE n l T = 0) (hm : NetOk m) (hl : l'.length ≤ 65536) (he : evsErr l' m.inp 10000 = 0) (ho : (runO m l' T.toNat).length ≤ 65536) : runE m l' T = 0 := by
  have h1 := check_of_runE h
  have h2 : checkRunM m l' T 10000 = 0 := by
    unfold checkRunM at h1 ⊢
    rw [if_neg (by rw [ncheck_of hm]; simp)]
    by_cases q1 : ncheck n ≠ 0
    · rw [if_pos q1] at h1; exact absurd h1 q1
    · rw [if_neg q1] at h1
      by_cases q2 : inR T 0 10000 = false
      · rw [if_pos q2] at h1; cases h1
      · rw [if_neg q2, if_neg (by omega)]
        exact he
  unfold runE
  rw [if_neg (by rw [h2]; simp), if_neg (by omega)]
theorem evs_of_runE {n : NetM} {l : List Evt} {T : Int} (h : runE n l T = 0) : l.length ≤ 65536 ∧ evsErr l n.inp 10000 = 0 := by
  have h1 := check_of_runE h
  unfold checkRunM at h1
  by_cases q1 : ncheck n ≠ 0
  · rw [if_pos q1] at h1; exact absurd h1 q1
  · rw [if_neg q1] at h1
    by_cases q2 : inR T 0 10000 = false
    · rw [if_pos q2] at h1; cases h1
    · rw [if_neg q2] at h1
      by_cases q3 : 65536 < l.length
      · rw [if_pos q3] at h1; cases h1
      · rw [if_neg q3] at h1
        exact ⟨by omega, h1⟩
theorem ok_of_runE {n : NetM} {l : List Evt} {T : Int} (h : runE n l T = 0) : NetOk n := by
  have h1 := check_of_runE h
  unfold checkRunM at h1
  by_cases q1 : ncheck n ≠ 0
  · rw [if_pos q1] at h1; exact absurd h1 q1
  · exact netOk_of (by simpa using q1)
theorem short_of_runE {n : NetM} {l : List Evt} {T : Int} (h : runE n l T = 0) : (runO n l T.toNat).length ≤ 65536 := by
  have hc := check_of_runE h
  unfold runE at h
  rw [if_neg (by simp [hc])] at h
  by_cases q : 65536 < (runO n l T.toNat).length
  · rw [if_pos q] at h; cases h
  · omega
theorem runO_ids {n : NetM} {l : List Evt} : ∀ (T : Nat), ∀ e ∈ runO n l T, 0 ≤ e.id ∧ e.id < (n.ps.length : Int)
  | 0, e, h => by simp [runO] at h
  | T + 1, e, h => by
    rw [runO_succ] at h
    rcases List.mem_append.1 h with h | h
    · exact runO_ids T e h
    · obtain ⟨i, hi, rfl⟩ := List.mem_map.1 h
      exact spkN_range hi
/-- What the law NetSame asks. -/
theorem same_ren {n : NetM} {p : List Int} {l : List Evt} {T : Int} (h : runE n l T = 0) (hp : renE n p = 0) :
    p.length = n.ps.length ∧ (∀ e ∈ runO n l T.toNat, 0 ≤ e.id ∧ e.id < (p.length : Int)) ∧ runE (renN n p) l T = 0 ∧ sortE (renO p (runO n l T.toNat)) = runO (renN n p) l T.toNat := by
  have hok := ok_of_runE h
  have hpe : permE p n.ps.length = 0 := by
    unfold renE at hp
    rwa [if_neg (by rw [ncheck_of hok]; simp)] at hp
  have ho := ord_of hpe
  obtain ⟨h1, h2⟩ := evs_of_runE h
  have hid : ∀ e ∈ l, 0 ≤ e.id := fun e he => ((evs_iff.1 h2).2 e he).2.1
  have hs := sortE_ren hok ho l hid T.toNat
  refine ⟨ho.len, fun e he => by rw [ho.len]; exact runO_ids _ e he, ?_, hs⟩
  refine runE_of h (ren_netok hok ho) h1 h2 ?_
  rw [← (runO_ren hok ho l hid T.toNat).length_eq]
  simp only [renO, List.length_map]
  exact short_of_runE h
/-- What the law NetBeside asks. -/
theorem beside_ok {a b : NetM} {l1 l2 : List Evt} {T : Int} (h1 : runE a l1 T = 0) (h2 : runE b l2 T = 0) (hp : a.ps.length + b.ps.length ≤ 1024) (hi : a.inp + b.inp ≤ 256) (hs : a.ss.length + b.ss.length ≤ 8192) (hl : l1.length + l2.length ≤ 65536) :
    joinE a b = 0 ∧ sortE (runO a l1 T.toNat ++ (runO b l2 T.toNat).map (shE a.ps.length)) = runO (joinN a b) (sortE (l1 ++ l2.map (shE a.inp))) T.toNat ∧
      (65536 < (runO a l1 T.toNat ++ (runO b l2 T.toNat).map (shE a.ps.length)).length → runE (joinN a b) (sortE (l1 ++ l2.map (shE a.inp))) T = 8) ∧
      ((runO a l1 T.toNat ++ (runO b l2 T.toNat).map (shE a.ps.length)).length ≤ 65536 → runE (joinN a b) (sortE (l1 ++ l2.map (shE a.inp))) T = 0) := by
  have ha := ok_of_runE h1
  have hb := ok_of_runE h2
  obtain ⟨q1, q2⟩ := evs_of_runE h1
  obtain ⟨q3, q4⟩ := evs_of_runE h2
  have hj := join_ok ha hb hp hi hs
  have e1 : ∀ e ∈ l1, 0 ≤ e.id ∧ e.id < a.inp := fun e he => by have := ((evs_iff.1 q2).2 e he).2; omega
  have e2 : ∀ e ∈ l2, 0 ≤ e.id ∧ e.id < b.inp := fun e he => by have := ((evs_iff.1 q4).2 e he).2; omega
  have hso := sortE_side ha hb e1 e2 T.toNat
  have hev := side_evs ha hb q2 q4
  have hlen : (sortE (l1 ++ l2.map (shE a.inp))).length ≤ 65536 := by rw [(sortE_perm _).length_eq]; simpa using hl
  have hlo : (runO (joinN a b) (sortE (l1 ++ l2.map (shE a.inp))) T.toNat).length = (runO a l1 T.toNat ++ (runO b l2 T.toNat).map (shE a.ps.length)).length := by rw [← hso, (sortE_perm _).length_eq]
  refine ⟨?_, hso, fun hgt => ?_, fun hle => runE_of h1 hj hlen hev (by rw [hlo]; exact hle)⟩
  · unfold joinE
    rw [if_neg (by rw [ncheck_of ha]; simp), if_neg (by rw [ncheck_of hb]; simp), ncheck_of hj]
  · have hT : inR T 0 10000 = true := by
      have h3 := check_of_runE h1
      unfold checkRunM at h3
      rw [if_neg (by rw [ncheck_of ha]; simp)] at h3
      cases q : inR T 0 10000 with
      | true => rfl
      | false => rw [q, if_pos rfl] at h3; cases h3
    have h4 : checkRunM (joinN a b) (sortE (l1 ++ l2.map (shE a.inp))) T 10000 = 0 := by
      unfold checkRunM
      rw [if_neg (by rw [ncheck_of hj]; simp), if_neg (by rw [hT]; simp), if_neg (by omega)]
      exact hev
    unfold runE
    rw [if_neg (by rw [h4]; simp), if_pos (by rw [hlo]; exact hgt)]

set_option maxRecDepth 100000 in
set_option maxHeartbeats 1000000 in
theorem order_long (l : List Int) (n : Nat) (a : Option Addr) (c : Nat) (hne : l.length ≠ n) (w : World) :
    Calls Try.prog 72 #[.slice a l.length c, .int .i64 n] w fun e w' => e = .returned (.int .i64 13) ∧ Below w.heap.size w w' := by
  have z1 : ((l.length : Int) == (n : Int)) = false := by simp; omega
  have z2 : ((l.length : Int) != (n : Int)) = true := by simp; omega
  have z3 : ((l.length : Int) = (n : Int)) = False := by simp; omega
  generalize l.length = k at *
  go_enter Try.func72, Try.ntmps72
  go_wp2
  go_ret
  exact ⟨rfl, Below.refl _ _⟩
set_option maxRecDepth 100000 in
set_option maxHeartbeats 4000000 in
theorem ren_long (n : NetM) (l : List Int) (a1 a2 al : Option Addr) (c1 c2 cl : Nat) (he : ncheck n = 0) (hl : l.length ≠ n.ps.length) (w : World)
    (hp : PsAt w (.slice a1 n.ps.length c1) n.ps) (hs : SsAt w (.slice a2 n.ss.length c2) n.ss) (hi : IntsAt w (.slice al l.length cl) l) :
    Calls Try.prog 30 #[.agg #[.slice a1 n.ps.length c1, .int .i64 n.inp, .slice a2 n.ss.length c2], .slice al l.length cl] w (RenOut (renE n l) (renR n l) w) := by
  have hq : permE l n.ps.length ≠ 0 := by rw [show permE l n.ps.length = 13 from if_pos hl]; decide
  have hE : renE n l = permE l n.ps.length := if_neg (by simpa using he)
  have hR : renR n l = netZ := if_neg (by rw [hE]; exact hq)
  rw [hE, hR]
  have hck : ∀ w1, Below w.heap.size w w1 → Calls Try.prog 19 #[.agg #[.slice a1 n.ps.length c1, .int .i64 n.inp, .slice a2 n.ss.length c2]] w1 fun e w' => e = .returned (.int .i64 0) ∧ Below w1.heap.size w1 w' := fun w1 hb => by
    have := ncheck_any n a1 a2 c1 c2 w1 (hp.below hb) (hs.below hb)
    rwa [he] at this
  have hps := (netOk_of he).p1
  have hor : ∀ w1, Below w.heap.size w w1 → Calls Try.prog 72 #[.slice al l.length cl, .int .i64 n.ps.length] w1 (PermOut (permE l n.ps.length) w1) := fun w1 hb => (by have := order_long l n.ps.length al cl hl w1; rw [show permE l n.ps.length = 13 from if_pos hl]; exact this)
  have hne : (permE l n.ps.length != 0) = true := by simp [hq]
  generalize permE l n.ps.length = X at *
  generalize n.ps.length = k at *
  generalize n.ss.length = m at *
  generalize n.inp = I at *
  generalize l.length = q at *
  have HCK := Lib.hid hck
  have HOR := Lib.hid hor
  clear hck hp hs hi hE hR he hor hq
  go_enter Try.func30, Try.ntmps30
  go_wp2_with (first | (go_at_call 19; refine (HCK.out _ (((Below.refl _ _).alloc (Nat.le_refl _) _).alloc (by simp) _)).mono ?_; rintro e w1 ⟨rfl, hb1⟩; have hbx1 : NetBox w1 (w.heap.size + 1) (.slice none 0 0) 0 (.slice none 0 0) := (hb1.block _ (by simp)).trans (alloc_new_at _ _ _ (by simp)); have hbx0 : NetBox w1 w.heap.size (.slice a1 k c1) I (.slice a2 m c2) := (hb1.block _ (by simp <;> omega)).trans ((Below.heap_alloc _ _ _ (by simp)).trans (alloc_new_at _ _ _ rfl)); obtain ⟨_, _, _, _, _, _⟩ := cells3f hbx0; have hz1 : w.heap.size + 1 < w1.heap.size := lt_of_block hbx1; have hb2 : Below w.heap.size w w1 := (((Below.refl _ _).alloc (Nat.le_refl _) _).alloc (by simp) _).trans (hb1.mono (by simp; omega))) | (go_at_call 72; refine (HOR.out _ hb2).mono ?_; rintro e w2 ⟨rfl, hb3⟩; have hbx2 : NetBox w2 (w.heap.size + 1) (.slice none 0 0) 0 (.slice none 0 0) := (hb3.block _ hz1).trans hbx1; obtain ⟨_, _, _, _, _, _⟩ := cells3f hbx2; have hz2 : w.heap.size + 1 < w2.heap.size := lt_of_block hbx2))
  have hb4 : Below w.heap.size w w2 := hb2.trans (hb3.mono (by omega))
  have hS := netBox_set (a := .slice none 0 0) (b := 0) (c := .slice none 0 0) hbx2
  have hB := ((hb4.setCell (p := ⟨w.heap.size + 1, 0, none⟩) (by simp) (.slice none 0 0)).setCell (p := ⟨w.heap.size + 1, 1, none⟩) (by simp) (.int .i64 0)).setCell (p := ⟨w.heap.size + 1, 2, none⟩) (by simp) (.slice none 0 0)
  generalize ((w2.setCell ⟨w.heap.size + 1, 0, none⟩ (.slice none 0 0)).setCell ⟨w.heap.size + 1, 1, none⟩ (.int .i64 0)).setCell ⟨w.heap.size + 1, 2, none⟩ (.slice none 0 0) = S at *
  obtain ⟨d0, d1, d2, _, _, _⟩ := cells3f hS
  exact bodyPost_ret (v := .tuple #[.agg #[.slice none 0 0, .int .i64 0, .slice none 0 0], .int .i64 X]) (by simp [results, Try.results30, go_sem, d0, d1, d2]) rfl ⟨_, rfl, netZ_at _, hB⟩

theorem ren_all (n : NetM) (l : List Int) (a1 a2 al : Option Addr) (c1 c2 cl : Nat) (w : World)
    (hp : PsAt w (.slice a1 n.ps.length c1) n.ps) (hs : SsAt w (.slice a2 n.ss.length c2) n.ss) (hi : IntsAt w (.slice al l.length cl) l) :
    Calls Try.prog 30 #[.agg #[.slice a1 n.ps.length c1, .int .i64 n.inp, .slice a2 n.ss.length c2], .slice al l.length cl] w (RenOut (renE n l) (renR n l) w) := by
  by_cases he : ncheck n = 0
  · by_cases hq : l.length = n.ps.length
    · exact ren_any n l a1 a2 al c1 c2 cl (by have := (netOk_of he).p1; omega) w hp hs hi
    · exact ren_long n l a1 a2 al c1 c2 cl he hq w hp hs hi
  · exact ren_bad1 n l a1 a2 al c1 c2 cl he w hp hs
end Go.Proofs.Ytgbcdebnanejpaa
