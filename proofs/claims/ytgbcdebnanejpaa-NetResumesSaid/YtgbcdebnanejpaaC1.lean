/- Causes: what comes later, and what does not reach, changes nothing. The mathematics. Over any program. -/
import Derived.Test.YtgbcdebnanejpaaB2
import Derived.Test.YtgbcdebnanejpaaVb
namespace Go.Proofs.Ytgbcdebnanejpaa
set_option linter.unusedVariables false
open Go.RowKit

/-! ### events that pass the check -/
theorem evLt_trans {a b c : Evt} (h1 : evLt a b = true) (h2 : evLt b c = true) : evLt a c = true := by
  simp [evLt] at *; omega
def EvIn (inp most : Int) (e : Evt) : Prop := (0 ≤ e.tk ∧ e.tk ≤ most - 1) ∧ 0 ≤ e.id ∧ e.id ≤ inp - 1
theorem evs_iff {l : List Evt} {inp most : Int} : evsErr l inp most = 0 ↔ l.Pairwise (fun a b => evLt a b = true) ∧ ∀ e ∈ l, EvIn inp most e := by
  constructor
  · intro h
    have h0 := firstNz_none _ h
    have hr : ∀ j, j < l.length → EvIn inp most (l[j]?.getD ⟨0, 0⟩) ∧ (0 < j → evLt (l[j - 1]?.getD ⟨0, 0⟩) (l[j]?.getD ⟨0, 0⟩) = true) := fun j hj => by
      have h1 := h0 j hj
      unfold evErrAt at h1
      split at h1
      · rename_i hc
        simp [inR] at hc
        refine ⟨⟨by omega, by omega⟩, fun hj0 => ?_⟩
        split at h1
        · cases h1
        · rename_i hn
          cases hb : evLt (l[j - 1]?.getD ⟨0, 0⟩) (l[j]?.getD ⟨0, 0⟩) with
          | true => rfl
          | false => exact absurd ⟨hj0, hb⟩ hn
      · cases h1
    have hle : ∀ i d, i + (d + 1) < l.length → evLt (l[i]?.getD ⟨0, 0⟩) (l[i + (d + 1)]?.getD ⟨0, 0⟩) = true := fun i d => by
      induction d with
      | zero => intro hd; exact (hr (i + 1) hd).2 (by omega)
      | succ d ih =>
        intro hd
        have h1 := ih (by omega)
        have h2 := (hr (i + (d + 1) + 1) hd).2 (by omega)
        rw [Nat.add_sub_cancel] at h2
        exact evLt_trans h1 h2
    refine ⟨List.pairwise_iff_getElem.2 fun i j hi hj hij => ?_, fun e he => ?_⟩
    · have h1 := hle i (j - i - 1) (by omega)
      rw [show i + (j - i - 1 + 1) = j by omega, List.getElem?_eq_getElem hi, List.getElem?_eq_getElem hj] at h1
      simpa using h1
    · obtain ⟨j, hj, rfl⟩ := List.getElem_of_mem he
      have h1 := (hr j hj).1
      rw [List.getElem?_eq_getElem hj] at h1
      exact h1
  · rintro ⟨h1, h2⟩
    refine firstNz_zero _ fun j hj => ?_
    unfold evErrAt
    have hm := h2 _ (List.getElem_mem hj)
    rw [List.getElem?_eq_getElem hj, Option.getD_some]
    obtain ⟨⟨a, b⟩, c, d⟩ := hm
    rw [if_pos (by simp [inR, a, b, c, d]), if_neg]
    rintro ⟨hj0, hf⟩
    have h3 := List.pairwise_iff_getElem.1 h1 (j - 1) j (by omega) hj (by omega)
    rw [List.getElem?_eq_getElem (show j - 1 < l.length by omega), Option.getD_some, h3] at hf
    cases hf
theorem evsErr_filter {l : List Evt} {inp most : Int} (p : Evt → Bool) (h : evsErr l inp most = 0) : evsErr (l.filter p) inp most = 0 := by
  obtain ⟨h1, h2⟩ := evs_iff.1 h
  exact evs_iff.2 ⟨h1.sublist List.filter_sublist, fun e he => h2 e (List.mem_filter.1 he).1⟩
theorem checkRun_filter {n : NetM} {l : List Evt} {ticks : Int} (p : Evt → Bool) (h : checkRunM n l ticks 10000 = 0) : checkRunM n (l.filter p) ticks 10000 = 0 := by
  unfold checkRunM at h ⊢
  by_cases q1 : ncheck n ≠ 0
  · rw [if_pos q1] at h; exact absurd h q1
  · rw [if_neg q1] at h ⊢
    by_cases q2 : inR ticks 0 10000 = false
    · rw [if_pos q2] at h; cases h
    · rw [if_neg q2] at h ⊢
      by_cases q3 : 65536 < l.length
      · rw [if_pos q3] at h; cases h
      · rw [if_neg q3] at h
        have := List.length_filter_le p l
        rw [if_neg (by omega)]
        exact evsErr_filter p h
theorem runE_two {n : NetM} {l : List Evt} {ticks : Int} (h : checkRunM n l ticks 10000 = 0) : runE n l ticks = 0 ∨ runE n l ticks = 8 := by
  unfold runE
  rw [if_neg (by simp [h])]
  by_cases q : 65536 < (runO n l ticks.toNat).length
  · rw [if_pos q]; exact .inr rfl
  · rw [if_neg q]; exact .inl rfl
theorem check_of_runE {n : NetM} {l : List Evt} {ticks : Int} (h : runE n l ticks = 0) : checkRunM n l ticks 10000 = 0 := by
  unfold runE at h
  by_cases q : checkRunM n l ticks 10000 = 0
  · exact q
  · rw [if_pos q] at h; exact absurd h q

/-! ### later events -/
theorem idsAt_early {l : List Evt} {k t : Nat} (h : t < k) : idsAt (l.filter fun e => decide (e.tk < (k : Int))) t = idsAt l t := by
  unfold idsAt
  rw [List.filter_filter]
  congr 1
  apply List.filter_congr
  intro e he
  by_cases q : e.tk = (t : Int) <;> simp [q]; omega
theorem runS_early (n : NetM) (l : List Evt) (k : Nat) : ∀ t, t ≤ k → runS n (l.filter fun e => decide (e.tk < (k : Int))) t = runS n l t
  | 0, _ => rfl
  | t + 1, h => by
    show tickM n t (runS n _ t) (idsAt _ t) = tickM n t (runS n l t) (idsAt l t)
    rw [runS_early n l k t (by omega), idsAt_early (by omega)]
theorem runO_early (n : NetM) (l : List Evt) (k : Nat) : ∀ t, t ≤ k + 1 → runO n (l.filter fun e => decide (e.tk < (k : Int))) t = runO n l t
  | 0, _ => rfl
  | t + 1, h => by rw [runO_succ, runO_succ, runO_early n l k t (by omega), runS_early n l k t (by omega)]
theorem runO_until (n : NetM) (l : List Evt) (k : Nat) : ∀ T, (runO n l T).filter (fun e => decide (e.tk ≤ (k : Int))) = runO n l (min T (k + 1))
  | 0 => by simp [runO]
  | T + 1 => by
    rw [runO_succ, List.filter_append, runO_until n l k T]
    by_cases q : T ≤ k
    · rw [show min T (k + 1) = T by omega, show min (T + 1) (k + 1) = T + 1 by omega, runO_succ]
      congr 1
      rw [List.filter_eq_self]
      intro e he
      obtain ⟨i, _, rfl⟩ := List.mem_map.1 he
      simp [evI]; omega
    · rw [show min T (k + 1) = min (T + 1) (k + 1) by omega]
      have : ((tickO n T (runS n l T)).map (evI T)).filter (fun e => decide (e.tk ≤ (k : Int))) = [] := by
        rw [List.filter_eq_nil_iff]
        intro e he
        obtain ⟨i, _, rfl⟩ := List.mem_map.1 he
        simp [evI]; omega
      rw [this, List.append_nil]
theorem until_early (n : NetM) (l : List Evt) (k T : Nat) : (runO n (l.filter fun e => decide (e.tk < (k : Int))) T).filter (fun e => decide (e.tk ≤ (k : Int))) = (runO n l T).filter (fun e => decide (e.tk ≤ (k : Int))) := by
  rw [runO_until, runO_until, runO_early n l k _ (by omega)]

/-! ### inputs that do not reach -/
def rng64 (x : Int) : Prop := -9223372036854775808 ≤ x ∧ x ≤ 9223372036854775807
theorem wrap_rng (x : Int) : rng64 (wrap64 x) := by unfold rng64 wrap64; omega
theorem wrap_id {x : Int} (h : rng64 x) : wrap64 x = x := by unfold rng64 at h; unfold wrap64; omega
/-- What a synapse does to one sum. -/
def addP (t a i : Nat) (v : Int) (s : Syn) : Int := if (a : Int) = t + s.dl ∧ (i : Int) = s.to then wrap64 (v + s.wt) else v
theorem addP_rng {t a i : Nat} {v : Int} {s : Syn} (h : rng64 v) : rng64 (addP t a i v s) := by
  unfold addP; split
  · exact wrap_rng _
  · exact h
theorem foldP_rng {t a i : Nat} : ∀ (l : List Syn) {v : Int}, rng64 v → rng64 (l.foldl (addP t a i) v)
  | [], _, h => h
  | s :: l, _, h => foldP_rng l (addP_rng h)
theorem foldS_at {t a i : Nat} : ∀ (l : List Syn) (due : Due), l.foldl (addS t) due a i = l.foldl (addP t a i) (due a i)
  | [], _ => rfl
  | s :: l, due => by
    rw [List.foldl_cons, List.foldl_cons, foldS_at l (addS t due s)]
    rfl
theorem sendM_at {ss : List Syn} {t a i : Nat} {x : Int} {due : Due} : sendM ss t due x a i = (ofSrc ss x).foldl (addP t a i) (due a i) := foldS_at _ _
theorem sends_at {ss : List Syn} {t a i : Nat} : ∀ (X : List Int) (due : Due), X.foldl (sendM ss t) due a i = X.foldl (fun v x => (ofSrc ss x).foldl (addP t a i) v) (due a i)
  | [], _ => rfl
  | x :: X, due => by rw [List.foldl_cons, List.foldl_cons, sends_at X (sendM ss t due x), sendM_at]
theorem fold_still {t a i : Nat} : ∀ (l : List Syn) {v : Int}, rng64 v → (∀ s ∈ l, s.to = (i : Int) → s.wt = 0) → l.foldl (addP t a i) v = v
  | [], _, _, _ => rfl
  | s :: l, v, h, hs => by
    have h1 : addP t a i v s = v := by
      unfold addP; split
      · rename_i hc; rw [hs s (by simp) hc.2.symm, Int.add_zero, wrap_id h]
      · rfl
    rw [List.foldl_cons, h1]
    exact fold_still l h fun s' hs' => hs s' (by simp [hs'])
/-- Sources that send nothing to i can be left out. -/
theorem sends_filter {ss : List Syn} {t a i : Nat} (q : Int → Bool) (hq : ∀ x, q x = false → ∀ s ∈ ofSrc ss x, s.to = (i : Int) → s.wt = 0) : ∀ (X : List Int) {v : Int}, rng64 v →
    X.foldl (fun v x => (ofSrc ss x).foldl (addP t a i) v) v = (X.filter q).foldl (fun v x => (ofSrc ss x).foldl (addP t a i) v) v
  | [], _, _ => rfl
  | x :: X, v, h => by
    rw [List.foldl_cons]
    by_cases hx : q x = true
    · rw [List.filter_cons_of_pos hx, List.foldl_cons]
      exact sends_filter q hq X (foldP_rng _ h)
    · rw [List.filter_cons_of_neg hx, fold_still _ h (hq x (by simpa using hx))]
      exact sends_filter q hq X h
noncomputable def freeB (ss : List Syn) (zs : List Int) (x : Int) : Bool := @decide (¬ Rch ss zs x) (Classical.propDecidable _)
theorem freeB_iff {ss : List Syn} {zs : List Int} {x : Int} : freeB ss zs x = true ↔ ¬ Rch ss zs x := by
  unfold freeB; exact @decide_eq_true_iff _ (Classical.propDecidable _)
theorem freeB_not {ss : List Syn} {zs : List Int} {x : Int} : freeB ss zs x = false ↔ Rch ss zs x := by
  constructor
  · intro h
    apply Classical.byContradiction
    intro hn
    rw [freeB_iff.2 hn] at h; cases h
  · intro h
    cases hb : freeB ss zs x with
    | false => rfl
    | true => exact absurd h (freeB_iff.1 hb)
/-- The same for all neurons that are not reached. -/
structure SameU (n : NetM) (zs : List Int) (S S' : RunS) : Prop where
  st : ∀ i, i < n.ps.length → freeB n.ss zs i = true → sAt S.st i = sAt S'.st i
  due : ∀ a i, freeB n.ss zs (i : Nat) = true → S.due a i = S'.due a i
  r1 : ∀ a i, rng64 (S.due a i)
  r2 : ∀ a i, rng64 (S'.due a i)
  l1 : S.st.length = n.ps.length
  l2 : S'.st.length = n.ps.length
theorem spk_same {n : NetM} {zs : List Int} {S S' : RunS} (h : SameU n zs S S') (t : Nat) : (tickO n t S).filter (freeB n.ss zs) = (tickO n t S').filter (freeB n.ss zs) := by
  unfold tickO spkN
  rw [List.filter_map, List.filter_map, List.filter_filter, List.filter_filter]
  congr 1
  apply List.filter_congr
  intro i hi
  rw [List.mem_range] at hi
  by_cases q : freeB n.ss zs (i : Int) = true
  · have h1 := h.st i hi q
    have h2 := h.due t i q
    simp [spkB, h1, h2, q]
  · simp [q]
theorem sameU_tick {n : NetM} {x : Int} {S S' : RunS} {ids ids' : List Int} {t : Nat} (h : SameU n [x] S S') (hi : (ids.map fun y => -1 - y).filter (freeB n.ss [x]) = (ids'.map fun y => -1 - y).filter (freeB n.ss [x])) : SameU n [x] (tickM n t S ids) (tickM n t S' ids') := by
  have hq : ∀ i : Nat, freeB n.ss [x] i = true → ∀ y, freeB n.ss [x] y = false → ∀ s ∈ ofSrc n.ss y, s.to = (i : Int) → s.wt = 0 := fun i hf y hy s hs hto => by
    apply Classical.byContradiction
    intro hw
    have hs' := List.mem_filter.1 hs
    have hfr : s.fr = y := by simpa using hs'.2
    have hr : Rch n.ss [x] s.to := .step hs'.1 hw (by rw [hfr]; exact freeB_not.1 hy)
    rw [hto] at hr
    exact freeB_iff.1 hf hr
  refine ⟨fun i hl hf => ?_, fun a i hf => ?_, fun a i => ?_, fun a i => ?_, ?_, ?_⟩
  · show sAt (midS n.ps S.st (S.due t) n.ps.length) i = sAt (midS n.ps S'.st (S'.due t) n.ps.length) i
    rw [sAt_midS _ _ _ _ _ (by rw [h.l1]; exact hl), sAt_midS _ _ _ _ _ (by rw [h.l2]; exact hl), if_pos hl, if_pos hl]
    unfold newS
    rw [h.st i hl hf, h.due t i hf]
  · show (_ ++ _ : List Int).foldl (sendM n.ss t) S.due a i = (_ ++ _ : List Int).foldl (sendM n.ss t) S'.due a i
    rw [sends_at, sends_at, sends_filter (freeB n.ss [x]) (hq i hf) _ (h.r1 a i), sends_filter (freeB n.ss [x]) (hq i hf) _ (h.r2 a i), List.filter_append, List.filter_append, hi, h.due a i hf]
    have := spk_same h t
    unfold tickO at this
    rw [this]
  · show rng64 ((_ ++ _ : List Int).foldl (sendM n.ss t) S.due a i)
    rw [sends_at, ← List.foldl_flatMap]
    exact foldP_rng _ (h.r1 a i)
  · show rng64 ((_ ++ _ : List Int).foldl (sendM n.ss t) S'.due a i)
    rw [sends_at, ← List.foldl_flatMap]
    exact foldP_rng _ (h.r2 a i)
  · show (midS _ _ _ _).length = _; rw [midS_length]; exact h.l1
  · show (midS _ _ _ _).length = _; rw [midS_length]; exact h.l2
theorem ids_other {l : List Evt} {x : Int} (t : Nat) {q : Int → Bool} (hx : q (-1 - x) = false) : ((idsAt (l.filter fun e => decide (e.id ≠ x)) t).map fun y => -1 - y).filter q = ((idsAt l t).map fun y => -1 - y).filter q := by
  unfold idsAt
  rw [List.filter_filter]
  induction l with
  | nil => rfl
  | cons e l ih =>
    by_cases h1 : e.tk = (t : Int)
    · by_cases h2 : e.id = x
      · rw [List.filter_cons_of_neg (by simp [h2]), List.filter_cons_of_pos (by simp [h1])]
        rw [List.map_cons, List.map_cons, h2, List.filter_cons_of_neg (by simp [hx]), ih]
      · rw [List.filter_cons_of_pos (by simp [h1, h2]), List.filter_cons_of_pos (by simp [h1])]
        rw [List.map_cons, List.map_cons, List.map_cons, List.map_cons]
        by_cases h3 : q (-1 - e.id) = true
        · rw [List.filter_cons_of_pos h3, List.filter_cons_of_pos h3, ih]
        · rw [List.filter_cons_of_neg h3, List.filter_cons_of_neg h3, ih]
    · rw [List.filter_cons_of_neg (by simp [h1]), List.filter_cons_of_neg (by simp [h1]), ih]
theorem sameU_run (n : NetM) (l : List Evt) (x : Int) : ∀ t, SameU n [-1 - x] (runS n (l.filter fun e => decide (e.id ≠ x)) t) (runS n l t)
  | 0 => ⟨fun _ _ _ => rfl, fun _ _ _ => rfl, fun _ _ => by show rng64 0; unfold rng64; omega, fun _ _ => by show rng64 0; unfold rng64; omega, st_len n _ 0, st_len n _ 0⟩
  | t + 1 => sameU_tick (sameU_run n l x t) (ids_other t (freeB_not.2 (.base (by simp))))
/-- The predicate of the law: not reached. -/
noncomputable def outB (n : NetM) (zs : List Int) (e : Evt) : Bool := decide (e.id < 0) || (decide ((n.ps.length : Int) ≤ e.id) || !rchB n.ss zs e.id.toNat)
theorem without_other (n : NetM) (l : List Evt) (x : Int) : ∀ T, (runO n (l.filter fun e => decide (e.id ≠ x)) T).filter (outB n [-1 - x]) = (runO n l T).filter (outB n [-1 - x])
  | 0 => rfl
  | T + 1 => by
    rw [runO_succ, runO_succ, List.filter_append, List.filter_append, without_other n l x T]
    congr 1
    have h := spk_same (sameU_run n l x T) T
    have key : ∀ S : RunS, ((tickO n T S).map (evI T)).filter (outB n [-1 - x]) = ((tickO n T S).filter (freeB n.ss [-1 - x])).map (evI T) := fun S => by
      rw [List.filter_map]
      congr 1
      apply List.filter_congr
      intro y hy
      have hr := spkN_range hy
      have h1 : freeB n.ss [-1 - x] y = !rchB n.ss [-1 - x] y.toNat := by
        have hyy : ((y.toNat : Nat) : Int) = y := Int.toNat_of_nonneg hr.1
        unfold freeB rchB
        rw [hyy]
        by_cases hR : Rch n.ss [-1 - x] y <;> simp [hR]
      show outB n [-1 - x] (evI T y) = _
      rw [h1]
      have h2 : decide (y < 0) = false := by simp; omega
      have h3 : decide ((n.ps.length : Int) ≤ y) = false := by simp; omega
      show (decide (y < 0) || (decide ((n.ps.length : Int) ≤ y) || !rchB n.ss [-1 - x] y.toNat)) = _
      rw [h2, h3]; rfl
    rw [key, key, h]
end Go.Proofs.Ytgbcdebnanejpaa
namespace Go.Proofs.Ytgbcdebnanejpaa
set_option linter.unusedVariables false
open Go.RowKit Go.Shelf

/-- A list of events of one's own. -/
def EvOwn (ys : List Evt) (w : World) (e : Ending) (w' : World) : Prop := ∃ v, e = .returned v ∧ w'.ownsRow w.heap.size 85 2 v ys.length (evCs ys) ∧ Below w.heap.size w w'
theorem filt_succ {p : Evt → Bool} {xs : List Evt} {j : Nat} {x : Evt} (h : xs[j]? = some x) : (xs.take (j + 1)).filter p = (xs.take j).filter p ++ if p x = true then [x] else [] := by
  rw [List.take_add_one, h, List.filter_append]
  congr 1
  by_cases hp : p x = true <;> simp [hp]
theorem app_below {w wr w5 : World} {v : Value} {n : Nat} {xs : List Value} {o : Obj} (hr : wr.ownsRow w.heap.size 85 2 v n xs) (hb : Below w.heap.size w wr) (hg : (wr.alloc o).grownBy w5 v.ownBlock) : Below w.heap.size w w5 :=
  (hb.alloc hb.size o).grown hg (by have := hb.size; simp; omega) fun k hk => (hr.lt k hk).1

set_option maxRecDepth 100000 in
set_option maxHeartbeats 2000000 in
theorem until_any (xs : List Evt) (a : Option Addr) (c : Nat) (k : Int) (hl : xs.length ≤ 65536) (w : World) (he : EvsAt w (.slice a xs.length c) xs) :
    Calls Try.prog 49 #[.slice a xs.length c, .int .i64 k] w (EvOwn (xs.filter fun e => decide (e.tk ≤ k)) w) := by
  obtain ⟨i0, hi, hz0, hzz1, hzz2⟩ := info_parts infoE
  obtain ⟨m, hm⟩ : ∃ m, m = xs.length := ⟨_, rfl⟩
  rw [← hm] at hl he ⊢
  have HE := Lib.hid he
  have HM := Lib.hid hm
  have hm0 : (0 : Int) ≤ (m : Int) := Int.natCast_nonneg _
  clear he hm
  go_enter Try.func49, Try.ntmps49
  go_wp2
  go_loopw [5, 6] (fun s5 s6 wr => ∃ j : Nat, j ≤ m ∧ s6 = .int .i64 j ∧ wr.ownsRow w.heap.size 85 2 s5 ((xs.take j).filter fun e => decide (e.tk ≤ k)).length (evCs ((xs.take j).filter fun e => decide (e.tk ≤ k))) ∧ Below w.heap.size w wr) (fun _ s6 _ => m - (intOf s6).toNat)
  case atStart => exact ⟨0, Nat.zero_le _, rfl, World.ownsRow_nil _ _ _ _, Below.refl _ _⟩
  case round =>
    obtain ⟨j, hj, rfl, hrow, hb⟩ := hrel
    have hj0 : (0 : Int) ≤ (j : Int) := Int.natCast_nonneg _
    have HROW := Lib.hid hrow
    have HB := Lib.hid hb
    have hzw := hb.size
    by_cases hlt : j < m
    · have hj1 : ((j : Int) < (m : Int)) = True := by simp; omega
      obtain ⟨x, hx⟩ : ∃ x, xs[j]? = some x := ⟨_, List.getElem?_eq_getElem (by rw [← HM.out]; exact hlt)⟩
      obtain ⟨b, off, rfl, hbl, hcc⟩ := HE.out.at hx
      obtain ⟨u1, u2⟩ := hcc.below hb hbl
      obtain ⟨X1, X2⟩ := x
      simp only at u1 u2
      have hflen : ((xs.take j).filter fun e => decide (e.tk ≤ k)).length ≤ 65536 := by
        have h1 := List.length_filter_le (fun e : Evt => decide (e.tk ≤ k)) (xs.take j)
        have h2 : (xs.take j).length ≤ j := by simp; omega
        omega
      have HX := Lib.hid hx
      have hbr : b < wr.heap.size := by omega
      clear hrow hb hcc hx
      by_cases hp : X1 ≤ k
      · have hp1 : (X1 ≤ k) = True := eq_true hp
        have hfs : (xs.take (j + 1)).filter (fun e => decide (e.tk ≤ k)) = (xs.take j).filter (fun e => decide (e.tk ≤ k)) ++ [⟨X1, X2⟩] := by rw [filt_succ HX.out]; simp [hp]
        have HFS := Lib.hid hfs
        clear hfs hp
        generalize (xs.take j).filter (fun e => decide (e.tk ≤ k)) = ys at *
        go_wp2_with (at_builtin; (refine wpList_append_own _ rfl _ _ 30 rfl w.heap.size 85 i0 (.agg #[.int .i64 0, .int .i64 0]) 2 16 Try.underlying30 hi hz0 hzz1 hzz2 rfl (by decide) u5 _ _ rfl (HROW.out.alloc _) ⟨wr.heap.size, 0, none⟩ 1 1 [.int .i64 X1, .int .i64 X2] rfl rfl (cell_two_new _ _ _ _) (by simp [Value.oneCell']) (by unfold maxLen; omega) (by omega) (by simp; omega) ?_; intro v' w5 hown' hgrow _; have HO := Lib.hid hown'; have HG := Lib.hid hgrow; clear hown' hgrow))
        go_roundw
        case rel => exact ⟨j + 1, hlt, by go_num, by rw [HFS.out, List.length_append, evCs_snoc]; exact HO.out, app_below HROW.out HB.out HG.out⟩
        case measure => simp [intOf]; omega
      · have hp1 : (X1 ≤ k) = False := eq_false hp
        have hfs : (xs.take (j + 1)).filter (fun e => decide (e.tk ≤ k)) = (xs.take j).filter (fun e => decide (e.tk ≤ k)) := by rw [filt_succ HX.out]; simp [hp]
        have HFS := Lib.hid hfs
        clear hfs hp
        go_wp2
        go_roundw
        case rel => exact ⟨j + 1, hlt, by go_num, by rw [HFS.out]; exact HROW.out, HB.out⟩
        case measure => simp [intOf]; omega
    · obtain rfl : m = j := by omega
      have hj1 : ((m : Int) < (m : Int)) = False := by simp
      have HR2 : Hid (wr.ownsRow w.heap.size 85 2 u5 (xs.filter fun e => decide (e.tk ≤ k)).length (evCs (xs.filter fun e => decide (e.tk ≤ k)))) := Lib.hid (by rw [HM.out, List.take_of_length_le (Nat.le_refl _)] at hrow; exact hrow)
      clear hrow hb hlt hj
      go_wp2
      go_ret
      exact ⟨_, rfl, HR2.out, HB.out⟩

/-- Not among the marked ones. -/
def outF (K : Nat) (f : Nat → Bool) (e : Evt) : Bool := decide (e.id < 0) || (decide ((K : Int) ≤ e.id) || !f e.id.toNat)
set_option maxRecDepth 100000 in
set_option maxHeartbeats 2000000 in
theorem without_any (xs : List Evt) (a : Option Addr) (c : Nat) (g K : Nat) (f : Nat → Bool) (hK : K ≤ 100000) (hl : xs.length ≤ 65536) (w : World) (he : EvsAt w (.slice a xs.length c) xs) (hg : BoolsAt w g K f) :
    Calls Try.prog 50 #[.slice a xs.length c, .slice (some ⟨g, 0, none⟩) K K] w (EvOwn (xs.filter (outF K f)) w) := by
  obtain ⟨i0, hi, hz0, hzz1, hzz2⟩ := info_parts infoE
  obtain ⟨m, hm⟩ : ∃ m, m = xs.length := ⟨_, rfl⟩
  rw [← hm] at hl he ⊢
  have HE := Lib.hid he
  have HM := Lib.hid hm
  have HGB := Lib.hid hg
  have hgl := hg.lt
  have hm0 : (0 : Int) ≤ (m : Int) := Int.natCast_nonneg _
  have hK0 : (0 : Int) ≤ (K : Int) := Int.natCast_nonneg _
  clear he hm hg
  go_enter Try.func50, Try.ntmps50
  go_wp2
  go_loopw [5, 6] (fun s5 s6 wr => ∃ j : Nat, j ≤ m ∧ s6 = .int .i64 j ∧ wr.ownsRow w.heap.size 85 2 s5 ((xs.take j).filter (outF K f)).length (evCs ((xs.take j).filter (outF K f))) ∧ Below w.heap.size w wr) (fun _ s6 _ => m - (intOf s6).toNat)
  case atStart => exact ⟨0, Nat.zero_le _, rfl, World.ownsRow_nil _ _ _ _, Below.refl _ _⟩
  case round =>
    obtain ⟨j, hj, rfl, hrow, hb⟩ := hrel
    have hj0 : (0 : Int) ≤ (j : Int) := Int.natCast_nonneg _
    have HROW := Lib.hid hrow
    have HB := Lib.hid hb
    have hzw := hb.size
    by_cases hlt : j < m
    · have hj1 : ((j : Int) < (m : Int)) = True := by simp; omega
      obtain ⟨x, hx⟩ : ∃ x, xs[j]? = some x := ⟨_, List.getElem?_eq_getElem (by rw [← HM.out]; exact hlt)⟩
      obtain ⟨b, off, rfl, hbl, hcc⟩ := HE.out.at hx
      obtain ⟨u1, u2⟩ := hcc.below hb hbl
      obtain ⟨X1, X2⟩ := x
      simp only at u1 u2
      have hflen : ((xs.take j).filter (outF K f)).length ≤ 65536 := by
        have h1 := List.length_filter_le (outF K f) (xs.take j)
        have h2 : (xs.take j).length ≤ j := by simp; omega
        omega
      have hbr : b < wr.heap.size := by omega
      have hfs := filt_succ (p := outF K f) hx
      have HBA := Lib.hid (HGB.out.of_block (hb.block _ hgl))
      clear hrow hb hcc hx
      have HFS := Lib.hid hfs
      clear hfs
      generalize (xs.take j).filter (outF K f) = ys at *
      by_cases q1 : X2 < 0
      · have q2 : (X2 < 0) = True := eq_true q1
        have hp : outF K f ⟨X1, X2⟩ = true := by simp [outF, q1]
        have HP := Lib.hid hp
        clear hp q1
        go_wp2_with (at_builtin; (refine wpList_append_own _ rfl _ _ 30 rfl w.heap.size 85 i0 (.agg #[.int .i64 0, .int .i64 0]) 2 16 Try.underlying30 hi hz0 hzz1 hzz2 rfl (by decide) u5 _ _ rfl (HROW.out.alloc _) ⟨wr.heap.size, 0, none⟩ 1 1 [.int .i64 X1, .int .i64 X2] rfl rfl (cell_two_new _ _ _ _) (by simp [Value.oneCell']) (by unfold maxLen; omega) (by omega) (by simp; omega) ?_; intro v' w5 hown' hgrow _; have HO := Lib.hid hown'; have HG := Lib.hid hgrow; clear hown' hgrow))
        go_roundw
        case rel => exact ⟨j + 1, hlt, by go_num, by rw [HFS.out, if_pos HP.out, List.length_append, evCs_snoc]; exact HO.out, app_below HROW.out HB.out HG.out⟩
        case measure => simp [intOf]; omega
      · have q2 : (X2 < 0) = False := eq_false q1
        by_cases q3 : (K : Int) ≤ X2
        · have q4 : (X2 ≥ (K : Int)) = True := eq_true q3
          have q5 : ((K : Int) ≤ X2) = True := eq_true q3
          have hp : outF K f ⟨X1, X2⟩ = true := by simp [outF, q3]
          have HP := Lib.hid hp
          clear hp q1 q3
          go_wp2_with (at_builtin; (refine wpList_append_own _ rfl _ _ 30 rfl w.heap.size 85 i0 (.agg #[.int .i64 0, .int .i64 0]) 2 16 Try.underlying30 hi hz0 hzz1 hzz2 rfl (by decide) u5 _ _ rfl (HROW.out.alloc _) ⟨wr.heap.size, 0, none⟩ 1 1 [.int .i64 X1, .int .i64 X2] rfl rfl (cell_two_new _ _ _ _) (by simp [Value.oneCell']) (by unfold maxLen; omega) (by omega) (by simp; omega) ?_; intro v' w5 hown' hgrow _; have HO := Lib.hid hown'; have HG := Lib.hid hgrow; clear hown' hgrow))
          go_roundw
          case rel => exact ⟨j + 1, hlt, by go_num, by rw [HFS.out, if_pos HP.out, List.length_append, evCs_snoc]; exact HO.out, app_below HROW.out HB.out HG.out⟩
          case measure => simp [intOf]; omega
        · have q4 : (X2 ≥ (K : Int)) = False := eq_false q3
          have q5 : ((K : Int) ≤ X2) = False := eq_false q3
          have q6 : X2.toNat < K := by omega
          have q7 : 0 ≤ X2 := by omega
          have q8 : X2 < (K : Int) := by omega
          obtain ⟨_, _⟩ := HBA.out.cell q6
          by_cases q9 : f X2.toNat = true
          · have hp : ¬ outF K f ⟨X1, X2⟩ = true := by simp [outF, q9]; omega
            have HP := Lib.hid hp
            clear hp q1 q3
            go_wp2
            go_roundw
            case rel => exact ⟨j + 1, hlt, by go_num, by rw [HFS.out, if_neg HP.out, List.append_nil]; exact HROW.out, HB.out⟩
            case measure => simp [intOf]; omega
          · have q9' : f X2.toNat = false := by simpa using q9
            have hp : outF K f ⟨X1, X2⟩ = true := by simp [outF, q9']
            have HP := Lib.hid hp
            clear hp q1 q3 q9
            go_wp2_with (at_builtin; (refine wpList_append_own _ rfl _ _ 30 rfl w.heap.size 85 i0 (.agg #[.int .i64 0, .int .i64 0]) 2 16 Try.underlying30 hi hz0 hzz1 hzz2 rfl (by decide) u5 _ _ rfl (HROW.out.alloc _) ⟨wr.heap.size, 0, none⟩ 1 1 [.int .i64 X1, .int .i64 X2] rfl rfl (cell_two_new _ _ _ _) (by simp [Value.oneCell']) (by unfold maxLen; omega) (by omega) (by simp; omega) ?_; intro v' w5 hown' hgrow _; have HO := Lib.hid hown'; have HG := Lib.hid hgrow; clear hown' hgrow))
            go_roundw
            case rel => exact ⟨j + 1, hlt, by go_num, by rw [HFS.out, if_pos HP.out, List.length_append, evCs_snoc]; exact HO.out, app_below HROW.out HB.out HG.out⟩
            case measure => simp [intOf]; omega
    · obtain rfl : m = j := by omega
      have hj1 : ((m : Int) < (m : Int)) = False := by simp
      have HR2 : Hid (wr.ownsRow w.heap.size 85 2 u5 (xs.filter (outF K f)).length (evCs (xs.filter (outF K f)))) := Lib.hid (by rw [HM.out, List.take_of_length_le (Nat.le_refl _)] at hrow; exact hrow)
      clear hrow hb hlt hj
      go_wp2
      go_ret
      exact ⟨_, rfl, HR2.out, HB.out⟩

def runB (n : NetM) (l : List Evt) (T : Int) : Bool := fewB n.ps.length n.ss.length && decide (l.length ≤ 300) && decide (0 ≤ T) && decide (T ≤ 300) && decide (runE n l T = 0)
def RunBOut (n : NetM) (l : List Evt) (T : Int) (w : World) (e : Ending) (w' : World) : Prop := ∃ v, e = .returned (.tuple #[v, .bool (runB n l T)]) ∧ (runB n l T = true → EvsAt w' v (runO n l T.toNat)) ∧ Below w.heap.size w w'
set_option maxRecDepth 100000 in
set_option maxHeartbeats 2000000 in
theorem runLaw_any (n : NetM) (l : List Evt) (a1 a2 a3 : Option Addr) (c1 c2 c3 : Nat) (T : Int) (w : World) (hp : PsAt w (.slice a1 n.ps.length c1) n.ps) (hs : SsAt w (.slice a2 n.ss.length c2) n.ss) (he : EvsC w (.slice a3 l.length c3) l) :
    Calls Try.prog 46 #[.agg #[.slice a1 n.ps.length c1, .int .i64 n.inp, .slice a2 n.ss.length c2], .slice a3 l.length c3, .int .i64 T] w (RunBOut n l T w) := by
  have hrun := fun W (hb : Below w.heap.size w W) => run_any n l a1 a2 a3 c1 c2 c3 T W (hp.below hb) (hs.below hb) (he.below hb)
  have hfew := few_any a1 a2 n.ps.length n.ss.length c1 c2 n.inp
  have hR : runE n l T = 0 → runR n l T = runO n l T.toNat := fun h => by unfold runR; rw [if_pos h]
  have hl0 : (0 : Int) ≤ (l.length : Int) := Int.natCast_nonneg _
  unfold RunBOut runB
  unfold NRunOut at hrun
  generalize runR n l T = R at *
  generalize runO n l T.toNat = O at *
  generalize runE n l T = X at *
  obtain ⟨F, hF⟩ : ∃ F, F = fewB n.ps.length n.ss.length := ⟨_, rfl⟩
  rw [← hF] at hfew ⊢
  have HRUN := Lib.hid hrun
  have HFEW := Lib.hid hfew
  have HR := Lib.hid hR
  clear hrun hfew hR hp hs he hF
  cases F with
  | false =>
    go_enter Try.func46, Try.ntmps46
    go_wp2_with (go_at_call 17; refine (HFEW.out _).mono ?_; rintro e w1 ⟨rfl, hb1⟩)
    go_ret2
    exact ⟨.slice none 0 0, by simp, fun h => by simp at h, ((Below.refl _ _).alloc (Nat.le_refl _) _).trans (hb1.mono (by simp))⟩
  | true =>
    by_cases h1 : l.length ≤ 300
    · have z1 : ((300 : Int) < (l.length : Int)) = False := by simp; omega
      by_cases h2 : 0 ≤ T
      · have z2 : (T < 0) = False := by simp; omega
        by_cases h3 : T ≤ 300
        · have z3 : ((300 : Int) < T) = False := by simp; omega
          have hB : ((true && decide (l.length ≤ 300)) && decide (0 ≤ T) && decide (T ≤ 300) && decide (X = 0)) = (X == 0) := by
            rw [decide_eq_true h1, decide_eq_true h2, decide_eq_true h3]; by_cases q : X = 0 <;> simp [q]
          rw [hB]
          have HB := Lib.hid hB
          clear hB
          go_enter Try.func46, Try.ntmps46
          go_wp2_with (first | (go_at_call 17; refine (HFEW.out _).mono ?_; rintro e w1 ⟨rfl, hb1⟩; have hbx1 : NetBox w1 w.heap.size (.slice a1 n.ps.length c1) n.inp (.slice a2 n.ss.length c2) := (hb1.block _ (by simp)).trans (alloc_new_at _ _ _ rfl); obtain ⟨_, _, _⟩ := cells3 hbx1; have hz1 := lt_of_block hbx1; have B1 := Lib.hid (((Below.refl _ _).alloc (Nat.le_refl _) _).trans (hb1.mono (by simp)) : Below w.heap.size w w1); clear hb1 hbx1) | (go_at_call 22; refine (HRUN.out _ B1.out).mono ?_; rintro e w2 ⟨v, rfl, hv, hb2⟩; have HV := Lib.hid hv; have HB2 := Lib.hid hb2; clear hv hb2))
          go_ret2
          exact ⟨_, rfl, fun h => by rw [← HR.out (by simpa using h)]; exact HV.out, B1.out.trans (HB2.out.mono (by omega))⟩
        · have z3 : ((300 : Int) < T) = True := by simp; omega
          have hB : ((true && decide (l.length ≤ 300)) && decide (0 ≤ T) && decide (T ≤ 300) && decide (X = 0)) = false := by rw [decide_eq_false h3]; simp
          rw [hB]
          have HB := Lib.hid hB
          clear hB
          go_enter Try.func46, Try.ntmps46
          go_wp2_with (go_at_call 17; refine (HFEW.out _).mono ?_; rintro e w1 ⟨rfl, hb1⟩)
          go_ret2
          exact ⟨_, rfl, fun h => (by cases h), ((Below.refl _ _).alloc (Nat.le_refl _) _).trans (hb1.mono (by simp))⟩
      · have z2 : (T < 0) = True := by simp; omega
        have hB : ((true && decide (l.length ≤ 300)) && decide (0 ≤ T) && decide (T ≤ 300) && decide (X = 0)) = false := by rw [decide_eq_false h2]; simp
        rw [hB]
        have HB := Lib.hid hB
        clear hB
        go_enter Try.func46, Try.ntmps46
        go_wp2_with (go_at_call 17; refine (HFEW.out _).mono ?_; rintro e w1 ⟨rfl, hb1⟩)
        go_ret2
        exact ⟨_, rfl, fun h => (by cases h), ((Below.refl _ _).alloc (Nat.le_refl _) _).trans (hb1.mono (by simp))⟩
    · have z1 : ((300 : Int) < (l.length : Int)) = True := by simp; omega
      have hB : ((true && decide (l.length ≤ 300)) && decide (0 ≤ T) && decide (T ≤ 300) && decide (X = 0)) = false := by rw [decide_eq_false h1]; simp
      rw [hB]
      have HB := Lib.hid hB
      clear hB
      go_enter Try.func46, Try.ntmps46
      go_wp2_with (go_at_call 17; refine (HFEW.out _).mono ?_; rintro e w1 ⟨rfl, hb1⟩)
      go_ret2
      exact ⟨_, rfl, fun h => (by cases h), ((Below.refl _ _).alloc (Nat.le_refl _) _).trans (hb1.mono (by simp))⟩
end Go.Proofs.Ytgbcdebnanejpaa
