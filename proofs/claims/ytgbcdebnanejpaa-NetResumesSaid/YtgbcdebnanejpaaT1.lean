/- The specification's tick: what is due, by one pass over the synapses. The mathematics. Over any program. -/
import Derived.Test.YtgbcdebnanejpaaSy
import Derived.StillTailTactics
namespace Go.Proofs.Ytgbcdebnanejpaa
set_option linter.unusedVariables false
open Go.RowKit

/-- Whether a source fires in a tick. -/
def firedB (ps : List Prm) (st : List (Int × Int)) (row : Nat → Int) (ids : List Int) (x : Int) : Bool := decide (x ∈ spkN ps st row ps.length) || decide (x ∈ ids.map fun y => -1 - y)
/-- What is due once the synapses l have sent. -/
def dueF (due : Due) (t : Nat) (l : List Syn) : Due := fun a i => l.foldl (addP t a i) (due a i)
theorem sumP_flat {t a i : Nat} (ss : List Syn) : ∀ X : List Int, X.Nodup → sumP t a i (X.flatMap (ofSrc ss)) = sumP t a i (ss.filter fun s => decide (s.fr ∈ X))
  | [], _ => by
    have e : ss.filter (fun s => decide (s.fr ∈ ([] : List Int))) = [] := by rw [List.filter_eq_nil_iff]; intro s _; simp
    rw [e]; rfl
  | x :: X, h => by
    obtain ⟨h1, h2⟩ := List.nodup_cons.1 h
    rw [List.flatMap_cons, sumP_append, sumP_flat ss X h2]
    unfold ofSrc
    clear h2 h
    induction ss with
    | nil => simp [sumP_nil]
    | cons s ss ih =>
      by_cases q : s.fr = x
      · have q1 : ¬ s.fr ∈ X := by rw [q]; exact h1
        rw [List.filter_cons_of_pos (by simpa using q), List.filter_cons_of_neg (by simpa using q1), List.filter_cons_of_pos (by simp [q]), sumP_cons, sumP_cons, ← ih]
        omega
      · rw [List.filter_cons_of_neg (by simpa using q)]
        by_cases q1 : s.fr ∈ X
        · rw [List.filter_cons_of_pos (by simpa using q1), List.filter_cons_of_pos (by simp [q1]), sumP_cons, sumP_cons, ← ih]
          omega
        · rw [List.filter_cons_of_neg (by simpa using q1), List.filter_cons_of_neg (by simp [q, q1]), ← ih]
theorem dueF_tick {n : NetM} {t : Nat} {S : RunS} {ids : List Int} (hr : ∀ a i, rng64 (S.due a i)) (hd : ids.Nodup) (h0 : ∀ x ∈ ids, 0 ≤ x) :
    dueF S.due t (n.ss.filter fun s => firedB n.ps S.st (S.due t) ids s.fr) = (tickM n t S ids).due := by
  funext a i
  show _ = (spkN n.ps S.st (S.due t) n.ps.length ++ ids.map fun x => -1 - x).foldl (sendM n.ss t) S.due a i
  rw [sends_sum _ (hr a i)]
  unfold dueF
  rw [foldP_sum _ (hr a i), sumP_flat]
  · congr 2
    apply congrArg
    apply List.filter_congr
    intro s _
    unfold firedB
    simp only [List.mem_append, Bool.decide_or]
  · refine List.nodup_append.2 ⟨?_, ?_, ?_⟩
    · unfold spkN
      exact List.Pairwise.map _ (fun a b hab e => hab (by omega)) ((List.nodup_range (n := n.ps.length)).sublist List.filter_sublist)
    · exact List.Pairwise.map _ (fun a b hab e => hab (by omega)) hd
    · intro x hx y hy e
      have h1 := spkN_range hx
      obtain ⟨z, hz, rfl⟩ := List.mem_map.1 hy
      have := h0 z hz
      omega
theorem foldP_none {t a i : Nat} : ∀ (l : List Syn) (v : Int), (∀ s ∈ l, (a : Int) ≠ t + s.dl) → l.foldl (addP t a i) v = v
  | [], _, _ => rfl
  | s :: l, v, h => by
    have e : addP t a i v s = v := by unfold addP; rw [if_neg fun q => h s (by simp) q.1]
    rw [List.foldl_cons, e, foldP_none l v fun s' hs' => h s' (by simp [hs'])]
theorem due_zero {n : NetM} (hok : NetOk n) (l : List Evt) : ∀ t a i, t + 16 ≤ a → (runS n l t).due a i = 0
  | 0, a, i, _ => rfl
  | t + 1, a, i, h => by
    show (_ ++ _ : List Int).foldl (sendM n.ss t) (runS n l t).due a i = 0
    rw [sends_at, ← List.foldl_flatMap, due_zero hok l t a i (by omega)]
    refine foldP_none _ _ fun s hs => ?_
    obtain ⟨x, _, hs⟩ := List.mem_flatMap.1 hs
    have := hok.ss s (List.mem_filter.1 hs).1
    simp [synOk, inR] at this
    omega
theorem ids_nodup {l : List Evt} {inp most : Int} (h : evsErr l inp most = 0) (t : Nat) : (idsAt l t).Nodup := by
  obtain ⟨h1, _⟩ := evs_iff.1 h
  unfold idsAt
  refine List.pairwise_map.2 (List.Pairwise.imp_of_mem (fun {x y} hx hy hxy e => ?_) (h1.sublist (List.filter_sublist (p := fun e : Evt => decide (e.tk = (t : Int))))))
  have hx := (List.mem_filter.1 hx).2
  have hy := (List.mem_filter.1 hy).2
  simp at hx hy
  simp [evLt] at hxy
  omega
theorem ids_nonneg {l : List Evt} {inp most : Int} (h : evsErr l inp most = 0) (t : Nat) : ∀ x ∈ idsAt l t, 0 ≤ x ∧ x < inp := fun x hx => by
  obtain ⟨e, he, rfl⟩ := idsAt_mem hx
  have := ((evs_iff.1 h).2 e he).2
  omega
end Go.Proofs.Ytgbcdebnanejpaa
namespace Go.Proofs.Ytgbcdebnanejpaa
set_option linter.unusedVariables false
open Go.RowKit Go.Shelf

structure RZ where
  bs : Nat
  sb : Nat
  db : Nat
  dc : Nat
  rb : Nat → Nat
  sc : Nat
  rc : Nat → Nat
def rowsV (N : Nat) (rb rc : Nat → Nat) : List Value := (List.range 16).map fun d => .slice (some ⟨rb d, 0, none⟩) N (rc d)
theorem rowsV_length (N : Nat) (rb rc : Nat → Nat) : (rowsV N rb rc).length = 16 := by simp [rowsV]
theorem rowsV_at {N : Nat} {rb rc : Nat → Nat} {d : Nat} (h : d < 16) : (rowsV N rb rc)[d]? = some (.slice (some ⟨rb d, 0, none⟩) N (rc d)) := by simp [rowsV, h]
/-- A row of numbers, whatever lies behind it. -/
def RowX (W : World) (b n : Nat) (f : Nat → Int) : Prop := ∃ xs, W.heap[b]? = some (.cells (rowC n f ++ xs).toArray 3)
theorem RowAt.rowX {W : World} {b n : Nat} {f : Nat → Int} (h : RowAt W b n f) : RowX W b n f := ⟨[], by rw [List.append_nil]; exact h⟩
theorem RowX.lt {W : World} {b n : Nat} {f : Nat → Int} (h : RowX W b n f) : b < W.heap.size := by
  obtain ⟨xs, h⟩ := h
  exact lt_of_block h
theorem RowX.of_eq {W W' : World} {b n : Nat} {f : Nat → Int} (h : RowX W b n f) (e : W'.heap[b]? = W.heap[b]?) : RowX W' b n f := by
  obtain ⟨xs, h⟩ := h
  exact ⟨xs, e.trans h⟩
theorem RowX.congr {W : World} {b n : Nat} {f g : Nat → Int} (h : RowX W b n f) (e : ∀ i, i < n → f i = g i) : RowX W b n g := by
  have e1 : rowC n f = rowC n g := List.map_congr_left fun i hi => by rw [e i (List.mem_range.1 hi)]
  unfold RowX at h ⊢
  rwa [← e1]
theorem RowX.cell {W : World} {b n i : Nat} {f : Nat → Int} (h : RowX W b n f) (hi : i < n) : W.cell? ⟨b, i, none⟩ = some (.int .i64 (f i)) ∧ W.frozen? ⟨b, i, none⟩ = false := by
  obtain ⟨xs, h⟩ := h
  have e : (rowC n f ++ xs)[i]? = some (.int .i64 (f i)) := by rw [List.getElem?_append_left (by rw [rowC_length]; exact hi)]; exact rowC_at hi
  constructor
  · simp [World.cell?, h]; simpa using e
  · simp [World.frozen?, h]
theorem RowX.set {W : World} {b n i : Nat} {f : Nat → Int} (h : RowX W b n f) (hi : i < n) (x : Int) : RowX (W.setCell ⟨b, i, none⟩ (.int .i64 x)) b n (fun j => if j = i then x else f j) := by
  obtain ⟨xs, h⟩ := h
  refine ⟨xs, ?_⟩
  have e0 : (W.setCell ⟨b, i, none⟩ (.int .i64 x)).heap[b]? = some (.cells ((rowC n f ++ xs).set i (.int .i64 x)).toArray 3) := by
    simp [World.setCell, Array.getElem?_modify, h]
  rw [e0, List.set_append_left _ _ (by rw [rowC_length]; exact hi)]
  have e1 : (rowC n f).set i (.int .i64 x) = rowC n (fun j => if j = i then x else f j) := by
    apply List.ext_getElem
    · simp [rowC]
    · intro j h1 h2
      simp only [rowC, List.getElem_set, List.getElem_map, List.getElem_range]
      by_cases e : i = j
      · subst e; simp
      · rw [if_neg e, if_neg (fun h => e h.symm)]
  rw [e1]
/-- The states, whatever lies behind them. -/
def StX (W : World) (b : Nat) (st : List (Int × Int)) : Prop := ∃ xs, W.heap[b]? = some (.cells (stC st ++ xs).toArray 98)
theorem StX.lt {W : World} {b : Nat} {st : List (Int × Int)} (h : StX W b st) : b < W.heap.size := by
  obtain ⟨xs, h⟩ := h
  exact lt_of_block h
theorem StX.of_eq {W W' : World} {b : Nat} {st : List (Int × Int)} (h : StX W b st) (e : W'.heap[b]? = W.heap[b]?) : StX W' b st := by
  obtain ⟨xs, h⟩ := h
  exact ⟨xs, e.trans h⟩
theorem StX.cells {W : World} {b : Nat} {st : List (Int × Int)} (h : StX W b st) (k : Nat) (hk : k < st.length) :
    W.cell? ⟨b, k * 2, none⟩ = some (.int .i64 (sAt st k).1) ∧ W.cell? ⟨b, k * 2 + 1, none⟩ = some (.int .i64 (sAt st k).2) ∧ W.frozen? ⟨b, k * 2, none⟩ = false ∧ W.frozen? ⟨b, k * 2 + 1, none⟩ = false := by
  obtain ⟨xs, h⟩ := h
  have hs : st[k]? = some (sAt st k) := by simp [sAt, hk]
  obtain ⟨e1, e2⟩ := stC_at st k _ hs
  have hl := stC_length st
  have f1 : (stC st ++ xs)[k * 2]? = some (.int .i64 (sAt st k).1) := by rw [List.getElem?_append_left (by omega)]; exact e1
  have f2 : (stC st ++ xs)[k * 2 + 1]? = some (.int .i64 (sAt st k).2) := by rw [List.getElem?_append_left (by omega)]; exact e2
  refine ⟨?_, ?_, ?_, ?_⟩
  · simp [World.cell?, h]; simpa using f1
  · simp [World.cell?, h]; simpa using f2
  · simp [World.frozen?, h]
  · simp [World.frozen?, h]
/-- The blocks that the specification's simulation writes. -/
def RZ.mut (z : RZ) (b : Nat) : Prop := b = z.bs ∨ b = z.sb ∨ b = z.db ∨ ∃ d, d < 16 ∧ b = z.rb d
/-- The specification's simulation with the tick t; its rows stand for the ticks from r0 on. -/
structure RefAt (n : NetM) (A : World) (B : Nat) (z : RZ) (a1 a2 : Option Addr) (c1 c2 t r0 : Nat) (st : List (Int × Int)) (due : Due) : Prop where
  blk : A.heap[z.bs]? = some (.cells #[.slice a1 n.ps.length c1, .int .i64 n.inp, .slice a2 n.ss.length c2, .int .i64 (t : Int), .slice (some ⟨z.sb, 0, none⟩) n.ps.length z.sc, .slice (some ⟨z.db, 0, none⟩) 16 z.dc] 64)
  ps : PsAt A (.slice a1 n.ps.length c1) n.ps
  psB : ∀ g, (Value.slice a1 n.ps.length c1).ownBlock = some g → g < B
  ss : SsAt A (.slice a2 n.ss.length c2) n.ss
  ssB : ∀ g, (Value.slice a2 n.ss.length c2).ownBlock = some g → g < B
  stb : StX A z.sb st
  len : st.length = n.ps.length
  dv : A.ownsRow B 44 1 (.slice (some ⟨z.db, 0, none⟩) 16 z.dc) 16 (rowsV n.ps.length z.rb z.rc)
  row : ∀ d, d < 16 → RowX A (z.rb d) n.ps.length (due (r0 + d))
  lo : ∀ b, z.mut b → B ≤ b
  inj : ∀ d d', d < 16 → d' < 16 → z.rb d = z.rb d' → d = d'
  ne1 : z.bs ≠ z.sb
  ne2 : z.bs ≠ z.db
  ne3 : z.sb ≠ z.db
  ne4 : ∀ d, d < 16 → z.bs ≠ z.rb d
  ne5 : ∀ d, d < 16 → z.sb ≠ z.rb d
  ne6 : ∀ d, d < 16 → z.db ≠ z.rb d
section
variable {n : NetM} {A A' : World} {B : Nat} {z : RZ} {a1 a2 : Option Addr} {c1 c2 t r0 : Nat} {st : List (Int × Int)} {due : Due}
theorem RefAt.lt (h : RefAt n A B z a1 a2 c1 c2 t r0 st due) {b : Nat} (hb : z.mut b) : b < A.heap.size := by
  rcases hb with rfl | rfl | rfl | ⟨d, hd, rfl⟩
  · exact lt_of_block h.blk
  · exact h.stb.lt
  · exact (h.dv.lt z.db rfl).2
  · exact (h.row d hd).lt
theorem psAt_of {v : Value} {l : List Prm} (h : PsAt A v l) (hb : ∀ g, v.ownBlock = some g → A'.heap[g]? = A.heap[g]?) (hs : A.heap.size ≤ A'.heap.size) : PsAt A' v l := by
  rcases h with h0 | ⟨b, off, cap, e, hl, h1⟩
  · exact Or.inl h0
  · have hc : ∀ o, A'.cell? ⟨b, o, none⟩ = A.cell? ⟨b, o, none⟩ := fun o => World.cell?_of_block (hb b (by rw [e]; rfl))
    refine Or.inr ⟨b, off, cap, e, by omega, fun k p hk => ?_⟩
    obtain ⟨c0, c1, c2, c3, c4, c5, c6, c7⟩ := h1 k p hk
    exact ⟨(hc _).trans c0, (hc _).trans c1, (hc _).trans c2, (hc _).trans c3, (hc _).trans c4, (hc _).trans c5, (hc _).trans c6, (hc _).trans c7⟩
theorem ssAt_of {v : Value} {l : List Syn} (h : SsAt A v l) (hb : ∀ g, v.ownBlock = some g → A'.heap[g]? = A.heap[g]?) (hs : A.heap.size ≤ A'.heap.size) : SsAt A' v l := by
  rcases h with h0 | ⟨b, off, cap, e, hl, h1⟩
  · exact Or.inl h0
  · have hc : ∀ o, A'.cell? ⟨b, o, none⟩ = A.cell? ⟨b, o, none⟩ := fun o => World.cell?_of_block (hb b (by rw [e]; rfl))
    refine Or.inr ⟨b, off, cap, e, by omega, fun k p hk => ?_⟩
    obtain ⟨c0, c1, c2, c3⟩ := h1 k p hk
    exact ⟨(hc _).trans c0, (hc _).trans c1, (hc _).trans c2, (hc _).trans c3⟩
theorem RefAt.inB (h : RefAt n A B z a1 a2 c1 c2 t r0 st due) {g : Nat} (hg : g < B) : ¬ z.mut g := fun hm => by have := h.lo g hm; omega
/-- What the simulation doesn't write may change. -/
theorem RefAt.keep (h : RefAt n A B z a1 a2 c1 c2 t r0 st due) (hb : ∀ b, b < B ∨ z.mut b → A'.heap[b]? = A.heap[b]?) (hs : A.heap.size ≤ A'.heap.size) : RefAt n A' B z a1 a2 c1 c2 t r0 st due :=
  ⟨(hb _ (.inr (.inl rfl))).trans h.blk, psAt_of h.ps (fun g hg => hb g (.inl (h.psB g hg))) hs, h.psB, ssAt_of h.ss (fun g hg => hb g (.inl (h.ssB g hg))) hs, h.ssB,
    h.stb.of_eq (hb _ (.inr (.inr (.inl rfl)))), h.len, ownsRow_of_block h.dv fun g hg => by cases hg; exact hb _ (.inr (.inr (.inr (.inl rfl)))),
    fun d hd => (h.row d hd).of_eq (hb _ (.inr (.inr (.inr (.inr ⟨d, hd, rfl⟩))))), h.lo, h.inj, h.ne1, h.ne2, h.ne3, h.ne4, h.ne5, h.ne6⟩
theorem RefAt.below (h : RefAt n A B z a1 a2 c1 c2 t r0 st due) (hb : Below A.heap.size A A') (hB : B ≤ A.heap.size) : RefAt n A' B z a1 a2 c1 c2 t r0 st due :=
  h.keep (fun b hb' => hb.block b (by rcases hb' with h1 | h1; omega; exact h.lt h1)) hb.size
/-- The store of a state. -/
theorem RefAt.setSt (h : RefAt n A B z a1 a2 c1 c2 t r0 st due) (k : Nat) (hk : k < st.length) (v r : Int) : RefAt n ((A.setCell ⟨z.sb, k * 2, none⟩ (.int .i64 v)).setCell ⟨z.sb, k * 2 + 1, none⟩ (.int .i64 r)) B z a1 a2 c1 c2 t r0 (st.set k (v, r)) due := by
  have e : ∀ b, b ≠ z.sb → ((A.setCell ⟨z.sb, k * 2, none⟩ (.int .i64 v)).setCell ⟨z.sb, k * 2 + 1, none⟩ (.int .i64 r)).heap[b]? = A.heap[b]? := fun b hb => by simp [World.setCell, Array.getElem?_modify, Ne.symm hb]
  have hlo := h.lo z.sb (.inr (.inl rfl))
  refine ⟨(e _ h.ne1).trans h.blk, psAt_of h.ps (fun g hg => e g (by have := h.psB g hg; omega)) (by simp [World.setCell]), h.psB, ssAt_of h.ss (fun g hg => e g (by have := h.ssB g hg; omega)) (by simp [World.setCell]), h.ssB, ?_, by simpa using h.len,
    ownsRow_of_block h.dv fun g hg => by cases hg; exact e _ (Ne.symm h.ne3), fun d hd => (h.row d hd).of_eq (e _ (Ne.symm (h.ne5 d hd))), h.lo, h.inj, h.ne1, h.ne2, h.ne3, h.ne4, h.ne5, h.ne6⟩
  obtain ⟨xs, hs⟩ := h.stb
  refine ⟨xs, ?_⟩
  have hl := stC_length st
  rw [← stC_set _ _ _ _ hk, ← List.set_append_left _ _ (by rw [List.length_set]; omega), ← List.set_append_left _ _ (by omega)]
  simp [World.setCell, Array.getElem?_modify, hs]
/-- The store of the tick. -/
theorem RefAt.setTick (h : RefAt n A B z a1 a2 c1 c2 t r0 st due) (t' : Nat) : RefAt n (A.setCell ⟨z.bs, 3, none⟩ (.int .i64 (t' : Int))) B z a1 a2 c1 c2 t' r0 st due := by
  have e : ∀ b, b ≠ z.bs → (A.setCell ⟨z.bs, 3, none⟩ (.int .i64 (t' : Int))).heap[b]? = A.heap[b]? := fun b hb => by simp [World.setCell, Array.getElem?_modify, Ne.symm hb]
  have hlo := h.lo z.bs (.inl rfl)
  refine ⟨?_, psAt_of h.ps (fun g hg => e g (by have := h.psB g hg; omega)) (by simp [World.setCell]), h.psB, ssAt_of h.ss (fun g hg => e g (by have := h.ssB g hg; omega)) (by simp [World.setCell]), h.ssB, h.stb.of_eq (e _ (Ne.symm h.ne1)), h.len,
    ownsRow_of_block h.dv fun g hg => by cases hg; exact e _ (Ne.symm h.ne2), fun d hd => (h.row d hd).of_eq (e _ (Ne.symm (h.ne4 d hd))), h.lo, h.inj, h.ne1, h.ne2, h.ne3, h.ne4, h.ne5, h.ne6⟩
  have hs := h.blk
  simp [World.setCell, Array.getElem?_modify, hs]
/-- The store of what is due. -/
theorem RefAt.setDue (h : RefAt n A B z a1 a2 c1 c2 t r0 st due) {d i : Nat} (hd : d < 16) (hi : i < n.ps.length) (x : Int) : RefAt n (A.setCell ⟨z.rb d, i, none⟩ (.int .i64 x)) B z a1 a2 c1 c2 t r0 st (fun a j => if a = r0 + d ∧ j = i then x else due a j) := by
  have e : ∀ b, b ≠ z.rb d → (A.setCell ⟨z.rb d, i, none⟩ (.int .i64 x)).heap[b]? = A.heap[b]? := fun b hb => by simp [World.setCell, Array.getElem?_modify, Ne.symm hb]
  have hlo := h.lo (z.rb d) (.inr (.inr (.inr ⟨d, hd, rfl⟩)))
  refine ⟨(e _ (h.ne4 d hd)).trans h.blk, psAt_of h.ps (fun g hg => e g (by have := h.psB g hg; omega)) (by simp [World.setCell]), h.psB, ssAt_of h.ss (fun g hg => e g (by have := h.ssB g hg; omega)) (by simp [World.setCell]), h.ssB, h.stb.of_eq (e _ (h.ne5 d hd)), h.len,
    ownsRow_of_block h.dv fun g hg => by cases hg; exact e _ (h.ne6 d hd), fun d' hd' => ?_, h.lo, h.inj, h.ne1, h.ne2, h.ne3, h.ne4, h.ne5, h.ne6⟩
  by_cases q : d' = d
  · subst q
    refine ((h.row d' hd').set hi x).congr fun j _ => ?_
    show (if j = i then x else due (r0 + d') j) = if r0 + d' = r0 + d' ∧ j = i then x else due (r0 + d') j
    simp
  · have e1 : z.rb d' ≠ z.rb d := fun q' => q (h.inj d' d hd' hd q')
    refine ((h.row d' hd').of_eq (e _ e1)).congr fun j _ => ?_
    show due (r0 + d') j = if r0 + d' = r0 + d ∧ j = i then x else due (r0 + d') j
    rw [if_neg (by omega)]
/-- The rows move on by a tick. -/
theorem RefAt.shift (h : RefAt n A B z a1 a2 c1 c2 t r0 st due) (hB : B ≤ A.heap.size) (db' dc' nb : Nat) (hs : A.heap.size ≤ A'.heap.size)
    (hold : ∀ b, b < A.heap.size → b ≠ z.bs → A'.heap[b]? = A.heap[b]?)
    (hbox : A'.heap[z.bs]? = some (.cells #[.slice a1 n.ps.length c1, .int .i64 n.inp, .slice a2 n.ss.length c2, .int .i64 (t : Int), .slice (some ⟨z.sb, 0, none⟩) n.ps.length z.sc, .slice (some ⟨db', 0, none⟩) 16 dc'] 64))
    (hdv : A'.ownsRow A.heap.size 44 1 (.slice (some ⟨db', 0, none⟩) 16 dc') 16 ((rowsV n.ps.length z.rb z.rc).drop 1 ++ [.slice (some ⟨nb, 0, none⟩) n.ps.length n.ps.length]))
    (hnb : A.heap.size ≤ nb) (hne : nb ≠ db') (hrow : RowAt A' nb n.ps.length (fun _ => 0)) (hz : ∀ i, due (r0 + 16) i = 0) :
    RefAt n A' B { z with db := db', dc := dc', rb := fun d => if d < 15 then z.rb (d + 1) else nb, rc := fun d => if d < 15 then z.rc (d + 1) else n.ps.length } a1 a2 c1 c2 t (r0 + 1) st due := by
  have hdb := (hdv.lt db' rfl).1
  have l1 := h.lt (.inl rfl : z.mut z.bs)
  have l2 := h.lt (.inr (.inl rfl) : z.mut z.sb)
  have l4 : ∀ d, d < 16 → z.rb d < A.heap.size := fun d hd => h.lt (.inr (.inr (.inr ⟨d, hd, rfl⟩)))
  have b1 := h.lo z.bs (.inl rfl)
  refine ⟨hbox, psAt_of h.ps (fun g hg => hold g (by have := h.psB g hg; omega) (by have := h.psB g hg; omega)) hs, h.psB, ssAt_of h.ss (fun g hg => hold g (by have := h.ssB g hg; omega) (by have := h.ssB g hg; omega)) hs, h.ssB, h.stb.of_eq (hold _ l2 (Ne.symm h.ne1)), h.len, ?_, fun d hd => ?_, fun b hb => ?_, fun d d' hd hd' e => ?_, h.ne1, ?_, ?_, fun d hd => ?_, fun d hd => ?_, fun d hd => ?_⟩
  · have e : rowsV n.ps.length (fun d => if d < 15 then z.rb (d + 1) else nb) (fun d => if d < 15 then z.rc (d + 1) else n.ps.length) = (rowsV n.ps.length z.rb z.rc).drop 1 ++ [.slice (some ⟨nb, 0, none⟩) n.ps.length n.ps.length] := by
      simp [rowsV, List.range_succ]
    rw [e]
    exact own_base hdv hB
  · by_cases q : d < 15
    · simp only [if_pos q]
      have hr := h.row (d + 1) (by omega)
      rw [show r0 + (d + 1) = r0 + 1 + d by omega] at hr
      exact hr.of_eq (hold _ (l4 (d + 1) (by omega)) (fun e => h.ne4 (d + 1) (by omega) e.symm))
    · simp only [if_neg q]
      have e15 : d = 15 := by omega
      subst e15
      refine hrow.rowX.congr fun i _ => ?_
      rw [show r0 + 1 + 15 = r0 + 16 by omega, hz]
  · rcases hb with hb | hb | hb | ⟨d, hd, hb⟩
    · rw [hb]; exact b1
    · rw [hb]; exact h.lo _ (.inr (.inl rfl))
    · rw [hb]; show B ≤ db'; omega
    · rw [hb]
      show B ≤ if d < 15 then z.rb (d + 1) else nb
      by_cases q : d < 15
      · rw [if_pos q]; exact h.lo _ (.inr (.inr (.inr ⟨d + 1, by omega, rfl⟩)))
      · rw [if_neg q]; omega
  · simp only at e
    by_cases q : d < 15 <;> by_cases q' : d' < 15
    · rw [if_pos q, if_pos q'] at e
      have := h.inj _ _ (by omega) (by omega) e
      omega
    · rw [if_pos q, if_neg q'] at e
      have := l4 (d + 1) (by omega)
      omega
    · rw [if_neg q, if_pos q'] at e
      have := l4 (d' + 1) (by omega)
      omega
    · omega
  · show z.bs ≠ db'; omega
  · show z.sb ≠ db'; omega
  · show z.bs ≠ if d < 15 then z.rb (d + 1) else nb
    by_cases q : d < 15
    · rw [if_pos q]; exact h.ne4 _ (by omega)
    · rw [if_neg q]; omega
  · show z.sb ≠ if d < 15 then z.rb (d + 1) else nb
    by_cases q : d < 15
    · rw [if_pos q]; exact h.ne5 _ (by omega)
    · rw [if_neg q]; omega
  · show db' ≠ if d < 15 then z.rb (d + 1) else nb
    by_cases q : d < 15
    · rw [if_pos q]; have := l4 (d + 1) (by omega); omega
    · rw [if_neg q]; exact Ne.symm hne
end
end Go.Proofs.Ytgbcdebnanejpaa
namespace Go.Proofs.Ytgbcdebnanejpaa
set_option linter.unusedVariables false
open Go.RowKit Go.Shelf

def gk7 (bs sb db dc r0 pb po c1 nn scp rcp k : Nat) (p : Prm) (V R d X1 X2 : Int) (sp : Bool) : Nat → Value
  | 0 => .pointer (some ⟨bs, 0, none⟩)
  | 1 => .pointer (some ⟨bs, 0, none⟩)
  | 2 => .pointer (some ⟨bs, 4, none⟩)
  | 3 => .slice (some ⟨sb, 0, none⟩) nn scp
  | 4 => .int .i64 (k : Int)
  | 5 => .pointer (some ⟨bs, 0, none⟩)
  | 6 => .pointer (some ⟨bs, 0, none⟩)
  | 7 => .pointer (some ⟨bs, 0, none⟩)
  | 8 => .pointer (some ⟨bs, 0, none⟩)
  | 9 => .slice (some ⟨pb, po, none⟩) nn c1
  | 10 => .int .i64 (k : Int)
  | 11 => .pointer (some ⟨pb, po + k * 8, none⟩)
  | 12 => .agg #[.int .i64 p.lk, .int .i64 p.lv, .int .i64 p.bi, .int .i64 p.th, .int .i64 p.rk, .int .i64 p.rs, .int .i64 p.fl, .int .i64 p.re]
  | 13 => .pointer (some ⟨bs, 0, none⟩)
  | 14 => .pointer (some ⟨bs, 0, none⟩)
  | 15 => .pointer (some ⟨bs, 4, none⟩)
  | 16 => .slice (some ⟨sb, 0, none⟩) nn scp
  | 17 => .int .i64 (k : Int)
  | 18 => .pointer (some ⟨sb, k * 2, none⟩)
  | 19 => .agg #[.int .i64 V, .int .i64 R]
  | 20 => .pointer (some ⟨bs, 0, none⟩)
  | 21 => .pointer (some ⟨bs, 0, none⟩)
  | 22 => .pointer (some ⟨bs, 5, none⟩)
  | 23 => .slice (some ⟨db, 0, none⟩) 16 dc
  | 24 => .pointer (some ⟨db, 0, none⟩)
  | 25 => .slice (some ⟨r0, 0, none⟩) nn rcp
  | 26 => .int .i64 (k : Int)
  | 27 => .pointer (some ⟨r0, k, none⟩)
  | 28 => .int .i64 d
  | 29 => .tuple #[.agg #[.int .i64 X1, .int .i64 X2], .bool sp]
  | 30 => .tuple #[.agg #[.int .i64 X1, .int .i64 X2], .bool sp]
  | 31 => .agg #[.int .i64 X1, .int .i64 X2]
  | 32 => .bool sp
  | 33 => .pointer (some ⟨sb, k * 2, none⟩)
  | 35 => .bool sp
  | _ => undef

def G7 (wr : World) (sb k : Nat) (X1 X2 : Int) (L : Array Bool) (W1 : World) : Prop := (L.getD 34 false = false → Below wr.heap.size wr W1) ∧ (L.getD 34 false = true → ∃ W2, Below wr.heap.size wr W2 ∧ W1 = (W2.setCell ⟨sb, k * 2, none⟩ (.int .i64 X1)).setCell ⟨sb, k * 2 + 1, none⟩ (.int .i64 X2))
theorem G7.skip {wr : World} {sb k : Nat} {X1 X2 : Int} {L : Array Bool} {W1 : World} (h34 : L.getD 34 false = false) (hb : Below wr.heap.size wr W1) (i : Nat) (hi : i ≠ 34) : G7 wr sb k X1 X2 (L.setIfInBounds i true) W1 :=
  ⟨fun _ => hb, fun h => by rw [gdD (Ne.symm hi), h34] at h; cases h⟩
theorem G7.other {wr : World} {sb k : Nat} {X1 X2 : Int} {L : Array Bool} {W1 : World} (h : G7 wr sb k X1 X2 L W1) (i : Nat) (hi : i ≠ 34) : G7 wr sb k X1 X2 (L.setIfInBounds i true) W1 := by
  unfold G7
  rw [gdD (Ne.symm hi)]
  exact h
theorem G7.store {wr : World} {sb k : Nat} {X1 X2 : Int} {L : Array Bool} {W1 : World} (hs : 34 < L.size) (hb : Below wr.heap.size wr W1) : G7 wr sb k X1 X2 (L.setIfInBounds 34 true) ((W1.setCell ⟨sb, k * 2, none⟩ (.int .i64 X1)).setCell ⟨sb, k * 2 + 1, none⟩ (.int .i64 X2)) :=
  ⟨fun h => (by rw [getD_set_eq3 hs] at h; cases h), fun _ => ⟨W1, hb, rfl⟩⟩
def lateAll (l : List Oper) (c : Nat) (is : List Nat) : Bool := match l[c]? with
  | none => false
  | some o => is.all fun i => o.after.toList.any fun e => Region.binds .any e && e.on == i
theorem late_first {l : List Oper} {c i : Nat} {is : List Nat} {L : Array Bool} (hl : lateAll l c is = true) (hC : ClosedL l L) (hi : i ∈ is) (hlF : L.getD i false = false) : L.getD c false = false := by
  unfold lateAll at hl
  cases ho : l[c]? with
  | none => rw [ho] at hl; cases hl
  | some o =>
    rw [ho] at hl
    have h1 := List.all_eq_true.1 hl i hi
    simp only [List.any_eq_true, Bool.and_eq_true, beq_iff_eq] at h1
    obtain ⟨e, he, hb, hon⟩ := h1
    cases hL : L.getD c false with
    | false => rfl
    | true => have := hC c o ho hL e (by simpa using he) hb; rw [hon, hlF] at this; cases this
theorem cells6 {W : World} {b : Nat} {v0 v1 v2 v3 v4 v5 : Value} {t : TypeId} (h : W.heap[b]? = some (.cells #[v0, v1, v2, v3, v4, v5] t)) :
    W.cell? ⟨b, 0, none⟩ = some v0 ∧ W.cell? ⟨b, 1, none⟩ = some v1 ∧ W.cell? ⟨b, 2, none⟩ = some v2 ∧ W.cell? ⟨b, 3, none⟩ = some v3 ∧ W.cell? ⟨b, 4, none⟩ = some v4 ∧ W.cell? ⟨b, 5, none⟩ = some v5 := by
  refine ⟨?_, ?_, ?_, ?_, ?_, ?_⟩ <;> simp [World.cell?, h]
/-- What the first loop holds. -/
structure Go1 (n : NetM) (B : Nat) (z : RZ) (a1 a2 : Option Addr) (c1 c2 t : Nat) (st : List (Int × Int)) (due : Due) (w : World) (k : Nat) (v : Value) (A : World) : Prop where
  sim : RefAt n A B z a1 a2 c1 c2 t t (midS n.ps st (due t) k) due
  row : A.ownsRow (w.heap.size + 1) 3 1 v (spkN n.ps st (due t) k).length ((spkN n.ps st (due t) k).map (Value.int .i64))
  map : ∃ c, c ≤ k ∧ MapIs A w.heap.size c (metM fun x => decide (x ∈ spkN n.ps st (due t) k))
  bel : Bel z.mut w.heap.size w A
  big : w.heap.size < A.heap.size
/-- What the second loop holds. -/
structure Go2 (n : NetM) (B : Nat) (z : RZ) (a1 a2 : Option Addr) (c1 c2 t : Nat) (stN : List (Int × Int)) (due : Due) (L ids : List Int) (w : World) (v : Value) (j : Nat) (A : World) : Prop where
  sim : RefAt n A B z a1 a2 c1 c2 t t stN due
  row : A.ownsRow (w.heap.size + 1) 3 1 v L.length (L.map (Value.int .i64))
  map : ∃ c, c ≤ 2048 + j ∧ MapIs A w.heap.size c (metM fun x => decide (x ∈ L) || decide (x ∈ (ids.take j).map fun y => -1 - y))
  bel : Bel z.mut w.heap.size w A
  big : w.heap.size < A.heap.size
theorem cell_one_new2 (W : World) (o : Obj) (u : Value) (t : TypeId) : ∀ (j : Nat) v, [u][j]? = some v → ((W.alloc o).alloc (.cells #[u] t)).cell? ((⟨W.heap.size + 1, 0, none⟩ : Addr).add j) = some v := fun j v hv => by
  match j, hv with
  | 0, hv =>
    have e : ((W.alloc o).alloc (.cells #[u] t)).heap[W.heap.size + 1]? = some (.cells #[u] t) := alloc_new_at _ _ _ (by simp)
    simp at hv
    subst hv
    show ((W.alloc o).alloc (.cells #[u] t)).cell? ⟨W.heap.size + 1, 0, none⟩ = _
    unfold World.cell?
    rw [e]
    rfl
  | j + 1, hv => simp at hv
/-- What the third loop holds. -/
structure Go3 (n : NetM) (B : Nat) (zz z : RZ) (a1 a2 : Option Addr) (c1 c2 t : Nat) (stN : List (Int × Int)) (due : Due) (F : Int → Bool) (L : List Int) (w : World) (v : Value) (A : World) : Prop where
  sim : RefAt n A B zz a1 a2 c1 c2 t (t + 1) stN due
  row : A.ownsRow (w.heap.size + 1) 3 1 v L.length (L.map (Value.int .i64))
  map : ∃ c, MapIs A w.heap.size c (metM F)
  bel : Bel z.mut w.heap.size w A
  big : w.heap.size < A.heap.size
theorem dueF_none {due : Due} {t : Nat} : dueF due t [] = due := rfl
theorem dueF_take {due : Due} {t k : Nat} {ss : List Syn} {s : Syn} {F : Syn → Bool} (h : ss[k]? = some s) (hf : F s = true) : dueF due t ((ss.take (k + 1)).filter F) = fun a i => addP t a i (dueF due t ((ss.take k).filter F) a i) s := by
  funext a i
  unfold dueF
  rw [List.take_add_one, h, List.filter_append]
  simp [hf]
theorem dueF_take_no {due : Due} {t k : Nat} {ss : List Syn} {s : Syn} {F : Syn → Bool} (h : ss[k]? = some s) (hf : F s = false) : dueF due t ((ss.take (k + 1)).filter F) = dueF due t ((ss.take k).filter F) := by
  rw [List.take_add_one, h, List.filter_append]
  simp [hf]
theorem rowsV_one {N : Nat} {rb rc : Nat → Nat} {u : Value} (h : u ∈ rowsV N rb rc) : u.oneCell' = true := by
  obtain ⟨d, _, rfl⟩ := List.mem_map.1 h
  rfl
theorem info44s : (Try.prog.info? 44).map (fun i => (i.zero, i.size, i.bytes)) = some (some (.slice none 0 0), 1, 24) := by kernel_rfl
def RefGoOut (n : NetM) (B : Nat) (z : RZ) (a1 a2 : Option Addr) (c1 c2 t : Nat) (st : List (Int × Int)) (due : Due) (ids : List Int) (w : World) (e : Ending) (w' : World) : Prop :=
  ∃ v z', e = .returned v ∧ w'.ownsRow w.heap.size 3 1 v (tickO n t ⟨st, due⟩).length ((tickO n t ⟨st, due⟩).map (Value.int .i64)) ∧ RefAt n w' B z' a1 a2 c1 c2 (t + 1) (t + 1) (tickM n t ⟨st, due⟩ ids).st (tickM n t ⟨st, due⟩ ids).due ∧
    Bel z.mut w.heap.size w w' ∧ z'.bs = z.bs ∧ (∀ b, z'.mut b → z.mut b ∨ w.heap.size ≤ b) ∧ ∀ g, v.ownBlock = some g → ¬ z'.mut g

set_option maxRecDepth 100000 in
set_option maxHeartbeats 8000000 in
theorem refGo_any (n : NetM) (hok : NetOk n) (B : Nat) (z : RZ) (a1 a2 : Option Addr) (c1 c2 t : Nat) (st : List (Int × Int)) (due : Due) (ht : (t : Int) ≤ 4294967000) (hst : StOk n.ps st) (hrng : ∀ a i, rng64 (due a i)) (hzero : ∀ a i, t + 16 ≤ a → due a i = 0)
    (ids : List Int) (hid : ∀ x ∈ ids, 0 ≤ x ∧ x < n.inp) (hnd : ids.Nodup) (ai : Option Addr) (ci : Nat) (hil : ids.length ≤ 65536) (w : World) (h : RefAt n w B z a1 a2 c1 c2 t t st due) (hB : B ≤ w.heap.size)
    (hi : IntsAt w (.slice ai ids.length ci) ids) (hiM : ∀ g, (Value.slice ai ids.length ci).ownBlock = some g → ¬ z.mut g) :
    Calls Try.prog 64 #[.pointer (some ⟨z.bs, 0, none⟩), .slice ai ids.length ci] w (RefGoOut n B z a1 a2 c1 c2 t st due ids w) := by
  have hlen := h.len
  have hnn := hok.p1
  have hmk := @run_makeMap Try.prog
  have H := Lib.hid h
  have HI := Lib.hid hi
  have HIM := Lib.hid hiM
  have HOK := Lib.hid hok
  have HST := Lib.hid hst
  have HID := Lib.hid hid
  have HLEN := Lib.hid hlen
  have HRNG := Lib.hid hrng
  have HZERO := Lib.hid hzero
  have HND := Lib.hid hnd
  clear h hi hiM hok hst hid hlen hrng hzero hnd
  go_enter Try.func64, Try.ntmps64
  go_wp2
  have hG0 : Go1 n B z a1 a2 c1 c2 t st due w 0 (.slice none 0 0) (w.alloc (.map #[] 0)) := by
    refine ⟨?_, World.ownsRow_nil _ _ _ _, ⟨0, Nat.le_refl _, ?_⟩, (Bel.refl _ _ _).alloc (Nat.le_refl _) _, by simp⟩
    · rw [midS_zero]; exact H.out.below ((Below.refl _ _).alloc (Nat.le_refl _) _) hB
    · have hm := MapIs.made w
      rw [metM_none] at hm
      exact hm
  have HG0 := Lib.hid hG0
  clear hG0
  go_loopw [6, 7, 8] (fun v i _ wr => ∃ k : Nat, k ≤ n.ps.length ∧ i = .int .i64 k ∧ Go1 n B z a1 a2 c1 c2 t st due w k v wr) (fun _ i _ _ => n.ps.length - (intOf i).toNat)
  case atStart => exact ⟨0, Nat.zero_le _, rfl, HG0.out⟩
  case round =>
    obtain ⟨k, hk, rfl, hG⟩ := hrel
    have HG := Lib.hid hG
    have hk0 : (0 : Int) ≤ (k : Int) := Int.natCast_nonneg _
    obtain ⟨_, _, _, _, _, _⟩ := cells6 hG.sim.blk
    have hzbs : z.bs < wr.heap.size := lt_of_block hG.sim.blk
    by_cases hlt : k < n.ps.length
    · have hk1 : (k : Int) < (n.ps.length : Int) := by omega
      obtain ⟨p, hp⟩ : ∃ p, n.ps[k]? = some p := ⟨_, List.getElem?_eq_getElem hlt⟩
      obtain ⟨pb, po, rfl, hzpb, hpc⟩ := hG.sim.ps.at hp
      have hpA : pAt n.ps k = p := by simp [pAt, hp]
      have hsA : sAt (midS n.ps st (due t) k) k = sAt st k := by rw [sAt_midS _ _ _ _ _ (by rw [HLEN.out]; exact hlt), if_neg (by omega)]
      obtain ⟨⟨V, R⟩, hVR⟩ : ∃ X : Int × Int, X = sAt st k := ⟨_, rfl⟩
      obtain ⟨⟨X1, X2⟩, hX⟩ : ∃ X : Int × Int, X = newS n.ps st (due t) k := ⟨_, rfl⟩
      obtain ⟨sp, hsp⟩ : ∃ sp, sp = spkB n.ps st (due t) k := ⟨_, rfl⟩
      obtain ⟨d, hd⟩ : ∃ d, d = due t k := ⟨_, rfl⟩
      obtain ⟨hOk, v1, v2, v3, v4⟩ := ok_of_valid (by have := HST.out k p hp; rw [← hVR] at this; exact this)
      have hgo := fun W => rgo_any p hOk V R d v1 v2 v3 v4 W
      have hx : (X1, X2) = (tV p V R d, tR p V R d) := by rw [hX]; unfold newS; rw [hpA, ← hVR, ← hd]
      have hs' : sp = tS p V R d := by rw [hsp]; unfold spkB; rw [hpA, ← hVR, ← hd]
      obtain ⟨hx1, hx2⟩ : X1 = tV p V R d ∧ X2 = tR p V R d := by simpa using hx
      rw [← hx1, ← hx2, ← hs'] at hgo
      have hstc := hG.sim.stb.cells k (by rw [hG.sim.len]; exact hlt)
      rw [hsA, ← hVR] at hstc
      have hzsb : z.sb < wr.heap.size := hG.sim.stb.lt
      have hzdb : z.db < wr.heap.size := (hG.sim.dv.lt z.db rfl).2
      have hrow0 := hG.sim.row 0 (by omega)
      rw [Nat.add_zero] at hrow0
      have hzrb : z.rb 0 < wr.heap.size := hrow0.lt
      have hd0 : wr.cell? ⟨z.db, 0, none⟩ = some (.slice (some ⟨z.rb 0, 0, none⟩) n.ps.length (z.rc 0)) := by
        have := hG.sim.dv.cells (g := z.db) rfl 0 _ (rowsV_at (N := n.ps.length) (rb := z.rb) (rc := z.rc) (show 0 < 16 by omega))
        simpa [Addr.add] using this
      have hr0 := (hrow0.cell hlt).1
      rw [← hd] at hr0
      have HBLK := Lib.hid hG.sim.blk
      have HPC := Lib.hid hpc
      have HS1 := Lib.hid hstc.1
      have HS2 := Lib.hid hstc.2.1
      have HF1 := Lib.hid hstc.2.2.1
      have HF2 := Lib.hid hstc.2.2.2
      have HD1 := Lib.hid hd0
      have HR1 := Lib.hid hr0
      have HGO := Lib.hid hgo
      have HX := Lib.hid hX
      have HSP := Lib.hid hsp
      clear hG hp hpc hpA hsA hVR hX hsp hd hOk v1 v2 v3 v4 hgo hx hs' hx1 hx2 hstc hrow0 hd0 hr0
      go_upto_region 7 with (fail)
      refine wp_region_fix (gk7 z.bs z.sb z.db z.dc (z.rb 0) pb po c1 n.ps.length z.sc (z.rc 0) k p V R d X1 X2 sp) (fun _ => true) (fun _ => true) (G7 wr z.sb k X1 X2) (by kernel_rfl) (by kernel_rfl) (by kernel_rfl) (by kernel_rfl) (by simp [dstIn]) ?gv ?un ⟨fun _ => (Below.refl _ _).drew, fun h => by simp at h⟩ (fun _ _ _ hw => by simp at hw) ?stp ?dn
      case gv => intro i hi; simp [isGd] at hi
      case un => intro i hi hw; simp at hw
      case stp =>
        intro L W1 i o b' hs ho hwt hlF hcl hd hI hh hlate
        have hi := (List.getElem?_eq_some_iff.1 ho).1
        have hc : i = 0 ∨ i = 1 ∨ i = 2 ∨ i = 3 ∨ i = 4 ∨ i = 5 ∨ i = 6 ∨ i = 7 ∨ i = 8 ∨ i = 9 ∨ i = 10 ∨ i = 11 ∨ i = 12 ∨ i = 13 ∨ i = 14 ∨ i = 15 ∨ i = 16 ∨ i = 17 ∨ i = 18 ∨ i = 19 ∨ i = 20 ∨ i = 21 ∨ i = 22 ∨ i = 23 ∨ i = 24 ∨ i = 25 ∨ i = 26 ∨ i = 27 ∨ i = 28 ∨ i = 29 ∨ i = 30 ∨ i = 31 ∨ i = 32 ∨ i = 33 ∨ i = 34 ∨ i = 35 := by simp at hi; omega
        have hsL : 34 < L.size := by rw [hs]; simp
        by_cases h35 : i = 35
        · subst h35
          simp only [List.getElem?_cons_zero, List.getElem?_cons_succ, Option.some.injEq] at ho
          subst ho
          have g32 := hh.got 32 _ 55 rfl rfl ⟨⟨32, .data⟩, by simp, rfl, rfl⟩ (by simp)
          simp [gk7] at g32
          have HI := Lib.hid hI
          clear hi hI hs hlF hcl hd hc
          go_simp
          exact ⟨rfl, HI.out.other 35 (by decide)⟩
        by_cases h30 : i = 30
        · subst h30
          simp only [List.getElem?_cons_zero, List.getElem?_cons_succ, Option.some.injEq] at ho
          subst ho
          have g29 := hh.got 29 _ 53 rfl rfl ⟨⟨29, .data⟩, by simp, rfl, rfl⟩ (by simp)
          simp [gk7] at g29
          have HI := Lib.hid hI
          clear hi hI hs hlF hcl hd hc
          go_simp
          exact ⟨rfl, HI.out.other 30 (by decide)⟩
        by_cases h32 : i = 32
        · subst h32
          simp only [List.getElem?_cons_zero, List.getElem?_cons_succ, Option.some.injEq] at ho
          subst ho
          have g30 := hh.got 30 _ 23 rfl rfl ⟨⟨30, .data⟩, by simp, rfl, rfl⟩ (by simp)
          simp [gk7] at g30
          have HI := Lib.hid hI
          clear hi hI hs hlF hcl hd hc
          go_simp
          exact ⟨rfl, HI.out.other 32 (by decide)⟩
        · have h34 : L.getD 34 false = false := by
            by_cases e : i = 34
            · rw [← e]; exact hlF
            · exact late_first (c := 34) (i := i) (is := List.range 30 ++ [31, 33]) (by kernel_rfl) hcl (by simp; omega) hlF
          have hI := hI.1 h34
          obtain ⟨_, _, _, _, _, _⟩ := cells6 ((hI.block _ hzbs).trans HBLK.out)
          obtain ⟨_, _, _, _, _, _, _, _⟩ := HPC.out.below hI hzpb
          have hs1 := (World.cell?_of_block (a := ⟨z.sb, k * 2, none⟩) (hI.block _ hzsb)).trans HS1.out
          have hs2 := (World.cell?_of_block (a := ⟨z.sb, k * 2 + 1, none⟩) (hI.block _ hzsb)).trans HS2.out
          have hf1 := (World.frozen?_of_block (a := ⟨z.sb, k * 2, none⟩) (hI.block _ hzsb)).trans HF1.out
          have hf2 := (World.frozen?_of_block (a := ⟨z.sb, k * 2 + 1, none⟩) (hI.block _ hzsb)).trans HF2.out
          have hd1 := (World.cell?_of_block (a := ⟨z.db, 0, none⟩) (hI.block _ hzdb)).trans HD1.out
          have hr1 := (World.cell?_of_block (a := ⟨z.rb 0, k, none⟩) (hI.block _ hzrb)).trans HR1.out
          have hw1 := hI.size
          have hlbs : z.bs < W1.heap.size := by omega
          have hlsb : z.sb < W1.heap.size := by omega
          have hldb : z.db < W1.heap.size := by omega
          have hlrb : z.rb 0 < W1.heap.size := by omega
          have hlpb : pb < W1.heap.size := by omega
          have HI := Lib.hid hI
          clear hi hI hs hlF hcl hd
          have k0 := hh.kept 0 (by simp)
          simp at k0
          have k7 := hh.kept 7 (by simp)
          simp at k7
          rcases hc with rfl | rfl | rfl | rfl | rfl | rfl | rfl | rfl | rfl | rfl | rfl | rfl | rfl | rfl | rfl | rfl | rfl | rfl | rfl | rfl | rfl | rfl | rfl | rfl | rfl | rfl | rfl | rfl | rfl | rfl | rfl | rfl | rfl | rfl | rfl | rfl
          · simp only [List.getElem?_cons_zero, Option.some.injEq] at ho
            subst ho
            go_simp
            exact ⟨rfl, G7.skip h34 HI.out _ (by decide)⟩
          · simp only [List.getElem?_cons_zero, List.getElem?_cons_succ, Option.some.injEq] at ho
            subst ho
            have g0 := hh.got 0 _ 24 rfl rfl ⟨⟨0, .data⟩, by simp, rfl, rfl⟩ (by simp)
            simp [gk7] at g0
            go_simp
            exact ⟨rfl, G7.skip h34 HI.out _ (by decide)⟩
          · simp only [List.getElem?_cons_zero, List.getElem?_cons_succ, Option.some.injEq] at ho
            subst ho
            have g1 := hh.got 1 _ 25 rfl rfl ⟨⟨1, .data⟩, by simp, rfl, rfl⟩ (by simp)
            simp [gk7] at g1
            go_simp
            exact ⟨rfl, G7.skip h34 HI.out _ (by decide)⟩
          · simp only [List.getElem?_cons_zero, List.getElem?_cons_succ, Option.some.injEq] at ho
            subst ho
            have g2 := hh.got 2 _ 26 rfl rfl ⟨⟨2, .data⟩, by simp, rfl, rfl⟩ (by simp)
            simp [gk7] at g2
            go_simp
            exact ⟨rfl, G7.skip h34 HI.out _ (by decide)⟩
          · simp only [List.getElem?_cons_zero, List.getElem?_cons_succ, Option.some.injEq] at ho
            subst ho
            go_simp
            exact ⟨rfl, G7.skip h34 HI.out _ (by decide)⟩
          · simp only [List.getElem?_cons_zero, List.getElem?_cons_succ, Option.some.injEq] at ho
            subst ho
            go_simp
            exact ⟨rfl, G7.skip h34 HI.out _ (by decide)⟩
          · simp only [List.getElem?_cons_zero, List.getElem?_cons_succ, Option.some.injEq] at ho
            subst ho
            have g5 := hh.got 5 _ 29 rfl rfl ⟨⟨5, .data⟩, by simp, rfl, rfl⟩ (by simp)
            simp [gk7] at g5
            go_simp
            exact ⟨rfl, G7.skip h34 HI.out _ (by decide)⟩
          · simp only [List.getElem?_cons_zero, List.getElem?_cons_succ, Option.some.injEq] at ho
            subst ho
            have g6 := hh.got 6 _ 30 rfl rfl ⟨⟨6, .data⟩, by simp, rfl, rfl⟩ (by simp)
            simp [gk7] at g6
            go_simp
            exact ⟨rfl, G7.skip h34 HI.out _ (by decide)⟩
          · simp only [List.getElem?_cons_zero, List.getElem?_cons_succ, Option.some.injEq] at ho
            subst ho
            have g7 := hh.got 7 _ 31 rfl rfl ⟨⟨7, .data⟩, by simp, rfl, rfl⟩ (by simp)
            simp [gk7] at g7
            go_simp
            exact ⟨rfl, G7.skip h34 HI.out _ (by decide)⟩
          · simp only [List.getElem?_cons_zero, List.getElem?_cons_succ, Option.some.injEq] at ho
            subst ho
            have g8 := hh.got 8 _ 32 rfl rfl ⟨⟨8, .data⟩, by simp, rfl, rfl⟩ (by simp)
            simp [gk7] at g8
            go_simp
            exact ⟨rfl, G7.skip h34 HI.out _ (by decide)⟩
          · simp only [List.getElem?_cons_zero, List.getElem?_cons_succ, Option.some.injEq] at ho
            subst ho
            go_simp
            exact ⟨rfl, G7.skip h34 HI.out _ (by decide)⟩
          · simp only [List.getElem?_cons_zero, List.getElem?_cons_succ, Option.some.injEq] at ho
            subst ho
            have g9 := hh.got 9 _ 33 rfl rfl ⟨⟨9, .data⟩, by simp, rfl, rfl⟩ (by simp)
            have g10 := hh.got 10 _ 34 rfl rfl ⟨⟨10, .data⟩, by simp, rfl, rfl⟩ (by simp)
            simp [gk7] at g9 g10
            go_simp
            exact ⟨rfl, G7.skip h34 HI.out _ (by decide)⟩
          · simp only [List.getElem?_cons_zero, List.getElem?_cons_succ, Option.some.injEq] at ho
            subst ho
            have g11 := hh.got 11 _ 35 rfl rfl ⟨⟨11, .data⟩, by simp, rfl, rfl⟩ (by simp)
            simp [gk7] at g11
            go_simp
            exact ⟨rfl, G7.skip h34 HI.out _ (by decide)⟩
          · simp only [List.getElem?_cons_zero, List.getElem?_cons_succ, Option.some.injEq] at ho
            subst ho
            go_simp
            exact ⟨rfl, G7.skip h34 HI.out _ (by decide)⟩
          · simp only [List.getElem?_cons_zero, List.getElem?_cons_succ, Option.some.injEq] at ho
            subst ho
            have g13 := hh.got 13 _ 37 rfl rfl ⟨⟨13, .data⟩, by simp, rfl, rfl⟩ (by simp)
            simp [gk7] at g13
            go_simp
            exact ⟨rfl, G7.skip h34 HI.out _ (by decide)⟩
          · simp only [List.getElem?_cons_zero, List.getElem?_cons_succ, Option.some.injEq] at ho
            subst ho
            have g14 := hh.got 14 _ 38 rfl rfl ⟨⟨14, .data⟩, by simp, rfl, rfl⟩ (by simp)
            simp [gk7] at g14
            go_simp
            exact ⟨rfl, G7.skip h34 HI.out _ (by decide)⟩
          · simp only [List.getElem?_cons_zero, List.getElem?_cons_succ, Option.some.injEq] at ho
            subst ho
            have g15 := hh.got 15 _ 39 rfl rfl ⟨⟨15, .data⟩, by simp, rfl, rfl⟩ (by simp)
            simp [gk7] at g15
            go_simp
            exact ⟨rfl, G7.skip h34 HI.out _ (by decide)⟩
          · simp only [List.getElem?_cons_zero, List.getElem?_cons_succ, Option.some.injEq] at ho
            subst ho
            go_simp
            exact ⟨rfl, G7.skip h34 HI.out _ (by decide)⟩
          · simp only [List.getElem?_cons_zero, List.getElem?_cons_succ, Option.some.injEq] at ho
            subst ho
            have g16 := hh.got 16 _ 40 rfl rfl ⟨⟨16, .data⟩, by simp, rfl, rfl⟩ (by simp)
            have g17 := hh.got 17 _ 41 rfl rfl ⟨⟨17, .data⟩, by simp, rfl, rfl⟩ (by simp)
            simp [gk7] at g16 g17
            go_simp
            exact ⟨rfl, G7.skip h34 HI.out _ (by decide)⟩
          · simp only [List.getElem?_cons_zero, List.getElem?_cons_succ, Option.some.injEq] at ho
            subst ho
            have g18 := hh.got 18 _ 42 rfl rfl ⟨⟨18, .data⟩, by simp, rfl, rfl⟩ (by simp)
            simp [gk7] at g18
            go_simp
            exact ⟨rfl, G7.skip h34 HI.out _ (by decide)⟩
          · simp only [List.getElem?_cons_zero, List.getElem?_cons_succ, Option.some.injEq] at ho
            subst ho
            go_simp
            exact ⟨rfl, G7.skip h34 HI.out _ (by decide)⟩
          · simp only [List.getElem?_cons_zero, List.getElem?_cons_succ, Option.some.injEq] at ho
            subst ho
            have g20 := hh.got 20 _ 44 rfl rfl ⟨⟨20, .data⟩, by simp, rfl, rfl⟩ (by simp)
            simp [gk7] at g20
            go_simp
            exact ⟨rfl, G7.skip h34 HI.out _ (by decide)⟩
          · simp only [List.getElem?_cons_zero, List.getElem?_cons_succ, Option.some.injEq] at ho
            subst ho
            have g21 := hh.got 21 _ 45 rfl rfl ⟨⟨21, .data⟩, by simp, rfl, rfl⟩ (by simp)
            simp [gk7] at g21
            go_simp
            exact ⟨rfl, G7.skip h34 HI.out _ (by decide)⟩
          · simp only [List.getElem?_cons_zero, List.getElem?_cons_succ, Option.some.injEq] at ho
            subst ho
            have g22 := hh.got 22 _ 46 rfl rfl ⟨⟨22, .data⟩, by simp, rfl, rfl⟩ (by simp)
            simp [gk7] at g22
            go_simp
            exact ⟨rfl, G7.skip h34 HI.out _ (by decide)⟩
          · simp only [List.getElem?_cons_zero, List.getElem?_cons_succ, Option.some.injEq] at ho
            subst ho
            have g23 := hh.got 23 _ 47 rfl rfl ⟨⟨23, .data⟩, by simp, rfl, rfl⟩ (by simp)
            simp [gk7] at g23
            go_simp
            exact ⟨rfl, G7.skip h34 HI.out _ (by decide)⟩
          · simp only [List.getElem?_cons_zero, List.getElem?_cons_succ, Option.some.injEq] at ho
            subst ho
            have g24 := hh.got 24 _ 48 rfl rfl ⟨⟨24, .data⟩, by simp, rfl, rfl⟩ (by simp)
            simp [gk7] at g24
            go_simp
            exact ⟨rfl, G7.skip h34 HI.out _ (by decide)⟩
          · simp only [List.getElem?_cons_zero, List.getElem?_cons_succ, Option.some.injEq] at ho
            subst ho
            go_simp
            exact ⟨rfl, G7.skip h34 HI.out _ (by decide)⟩
          · simp only [List.getElem?_cons_zero, List.getElem?_cons_succ, Option.some.injEq] at ho
            subst ho
            have g25 := hh.got 25 _ 49 rfl rfl ⟨⟨25, .data⟩, by simp, rfl, rfl⟩ (by simp)
            have g26 := hh.got 26 _ 50 rfl rfl ⟨⟨26, .data⟩, by simp, rfl, rfl⟩ (by simp)
            simp [gk7] at g25 g26
            go_simp
            exact ⟨rfl, G7.skip h34 HI.out _ (by decide)⟩
          · simp only [List.getElem?_cons_zero, List.getElem?_cons_succ, Option.some.injEq] at ho
            subst ho
            have g27 := hh.got 27 _ 51 rfl rfl ⟨⟨27, .data⟩, by simp, rfl, rfl⟩ (by simp)
            simp [gk7] at g27
            go_simp
            exact ⟨rfl, G7.skip h34 HI.out _ (by decide)⟩
          · simp only [List.getElem?_cons_zero, List.getElem?_cons_succ, Option.some.injEq] at ho
            subst ho
            have g12 := hh.got 12 _ 36 rfl rfl ⟨⟨12, .data⟩, by simp, rfl, rfl⟩ (by simp)
            have g19 := hh.got 19 _ 43 rfl rfl ⟨⟨19, .data⟩, by simp, rfl, rfl⟩ (by simp)
            have g28 := hh.got 28 _ 52 rfl rfl ⟨⟨28, .data⟩, by simp, rfl, rfl⟩ (by simp)
            simp [gk7] at g12 g19 g28
            go_simp
            go_at_call 96
            refine (HGO.out _).mono ?_
            rintro e w6 ⟨rfl, hb6⟩
            exact ⟨rfl, G7.skip h34 (HI.out.trans (hb6.mono HI.out.size)) _ (by decide)⟩
          · simp only [List.getElem?_cons_zero, List.getElem?_cons_succ, Option.some.injEq] at ho
            subst ho
            have g29 := hh.got 29 _ 53 rfl rfl ⟨⟨29, .data⟩, by simp, rfl, rfl⟩ (by simp)
            simp [gk7] at g29
            exact absurd rfl h30
          · simp only [List.getElem?_cons_zero, List.getElem?_cons_succ, Option.some.injEq] at ho
            subst ho
            have g30 := hh.got 30 _ 23 rfl rfl ⟨⟨30, .data⟩, by simp, rfl, rfl⟩ (by simp)
            simp [gk7] at g30
            go_simp
            exact ⟨rfl, G7.skip h34 HI.out _ (by decide)⟩
          · simp only [List.getElem?_cons_zero, List.getElem?_cons_succ, Option.some.injEq] at ho
            subst ho
            have g30 := hh.got 30 _ 23 rfl rfl ⟨⟨30, .data⟩, by simp, rfl, rfl⟩ (by simp)
            simp [gk7] at g30
            exact absurd rfl h32
          · simp only [List.getElem?_cons_zero, List.getElem?_cons_succ, Option.some.injEq] at ho
            subst ho
            have g3 := hh.got 3 _ 27 rfl rfl ⟨⟨3, .data⟩, by simp, rfl, rfl⟩ (by simp)
            have g4 := hh.got 4 _ 28 rfl rfl ⟨⟨4, .data⟩, by simp, rfl, rfl⟩ (by simp)
            simp [gk7] at g3 g4
            go_simp
            exact ⟨rfl, G7.skip h34 HI.out _ (by decide)⟩
          · simp only [List.getElem?_cons_zero, List.getElem?_cons_succ, Option.some.injEq] at ho
            subst ho
            have g33 := hh.got 33 _ 56 rfl rfl ⟨⟨33, .data⟩, by simp, rfl, rfl⟩ (by simp)
            have g31 := hh.got 31 _ 54 rfl rfl ⟨⟨31, .data⟩, by simp, rfl, rfl⟩ (by simp)
            simp [gk7] at g33 g31
            go_simp
            first | exact G7.store hsL HI.out | exact ⟨rfl, G7.store hsL HI.out⟩
          · simp only [List.getElem?_cons_zero, List.getElem?_cons_succ, Option.some.injEq] at ho
            subst ho
            have g32 := hh.got 32 _ 55 rfl rfl ⟨⟨32, .data⟩, by simp, rfl, rfl⟩ (by simp)
            simp [gk7] at g32
            exact absurd rfl h35
      case dn =>
        intro W1 b' hI hb
        obtain ⟨W2, hb2, rfl⟩ := hI.2 (by simp)
        simp only [puts, gk7] at hb
        subst hb
        simp only [Act.put, List.setIfInBounds_toArray, List.set_cons_succ, List.set_cons_zero]
        have hb2z := hb2.size
        have hsW2 : RefAt n W2 B z (some ⟨pb, po, none⟩) a2 c1 c2 t t (midS n.ps st (due t) k) due := HG.out.sim.below hb2 (by have := HG.out.big; omega)
        have hsW : RefAt n ((W2.setCell ⟨z.sb, k * 2, none⟩ (.int .i64 X1)).setCell ⟨z.sb, k * 2 + 1, none⟩ (.int .i64 X2)) B z (some ⟨pb, po, none⟩) a2 c1 c2 t t (midS n.ps st (due t) (k + 1)) due := by
          have h := hsW2.setSt k (by rw [hsW2.len]; exact hlt) X1 X2
          rw [midS_succ _ _ _ _ (by rw [HLEN.out]; exact hlt), ← HX.out]
          exact h
        have hkeep : ∀ b, b < wr.heap.size → b ≠ z.sb → ((W2.setCell ⟨z.sb, k * 2, none⟩ (.int .i64 X1)).setCell ⟨z.sb, k * 2 + 1, none⟩ (.int .i64 X2)).heap[b]? = wr.heap[b]? := fun b hb hn => by
          rw [← hb2.block b hb]
          simp [World.setCell, Array.getElem?_modify, Ne.symm hn]
        have hbl : Bel z.mut w.heap.size w ((W2.setCell ⟨z.sb, k * 2, none⟩ (.int .i64 X1)).setCell ⟨z.sb, k * 2 + 1, none⟩ (.int .i64 X2)) :=
          ((HG.out.bel.trans (Bel.ofBelow hb2 (by have := HG.out.big; omega))).setCell (p := ⟨z.sb, k * 2, none⟩) (.inl (.inr (.inl rfl))) _).setCell (p := ⟨z.sb, k * 2 + 1, none⟩) (.inl (.inr (.inl rfl))) _
        have hsz : ((W2.setCell ⟨z.sb, k * 2, none⟩ (.int .i64 X1)).setCell ⟨z.sb, k * 2 + 1, none⟩ (.int .i64 X2)).heap.size = W2.heap.size := by simp [World.setCell]
        generalize (W2.setCell ⟨z.sb, k * 2, none⟩ (.int .i64 X1)).setCell ⟨z.sb, k * 2 + 1, none⟩ (.int .i64 X2) = W3 at *
        have hW3 : wr.heap.size ≤ W3.heap.size := by omega
        have hmutlt : ∀ b, z.mut b → b < w.heap.size := fun b hb => H.out.lt hb
        have hsb0 : z.sb < w.heap.size := hmutlt z.sb (.inr (.inl rfl))
        have hrow3 : W3.ownsRow (w.heap.size + 1) 3 1 u6 (spkN n.ps st (due t) k).length ((spkN n.ps st (due t) k).map (Value.int .i64)) := ownsRow_of_block HG.out.row fun g hg => hkeep g (HG.out.row.lt g hg).2 (by have := (HG.out.row.lt g hg).1; omega)
        obtain ⟨cnt, hcnt, hmap0⟩ := HG.out.map
        have hmap3 : MapIs W3 w.heap.size cnt (metM fun x => decide (x ∈ spkN n.ps st (due t) k)) := hmap0.of_block (hkeep _ HG.out.big (by omega))
        have hbig3 : w.heap.size < W3.heap.size := by have := HG.out.big; omega
        have HSW := Lib.hid hsW
        have HBL := Lib.hid hbl
        have HROW3 := Lib.hid hrow3
        have HMAP3 := Lib.hid hmap3
        have hnK : spkN n.ps st (due t) (k + 1) = spkN n.ps st (due t) k ++ if sp then [(k : Int)] else [] := by rw [spkN_succ, ← HSP.out]
        have hkS := spkN_length n.ps st (due t) k
        have HNK := Lib.hid hnK
        clear hsW2 hsW hkeep hbl hsz hrow3 hmap0 hmap3 hb2 hb2z hI hnK hmutlt
        cases sp with
        | false =>
          go_wp2
          go_roundw
          case rel =>
            refine ⟨k + 1, hlt, by go_num, HSW.out, ?_, ⟨cnt, by omega, ?_⟩, HBL.out, hbig3⟩
            · rw [HNK.out]; simpa using HROW3.out
            · rw [HNK.out]; simpa using HMAP3.out
          case measure => simp [intOf]; omega
        | true =>
          have hwf := wf64 (x := (k : Int)) (by omega) (by omega)
          obtain ⟨W4, hrun, hm4, hg4⟩ := HMAP3.out.update (by unfold maxLen; omega) Try.underlying131 (k : Int) hwf (.bool true)
          rw [metM_upd] at hm4
          have hz4 := hg4.size
          have hke : ∀ b, b ≠ w.heap.size → b < W3.heap.size → W4.heap[b]? = W3.heap[b]? := fun b hb hl => hg4.block b hl (fun e => hb (Option.some.inj e))
          have hrow4 : W4.ownsRow (w.heap.size + 1) 3 1 u6 (spkN n.ps st (due t) k).length ((spkN n.ps st (due t) k).map (Value.int .i64)) := ownsRow_of_block HROW3.out fun g hg => hke g (by have := (HROW3.out.lt g hg).1; omega) (HROW3.out.lt g hg).2
          have hsim4 : RefAt n W4 B z (some ⟨pb, po, none⟩) a2 c1 c2 t t (midS n.ps st (due t) (k + 1)) due := HSW.out.keep (fun b hb => hke b (by rcases hb with hb | hb; omega; have := H.out.lt hb; omega) (by rcases hb with hb | hb; omega; exact HSW.out.lt hb)) hz4
          have hbl4 : Bel z.mut w.heap.size w W4 := HBL.out.trans ⟨hg4.os, hg4.tape, hg4.output, hz4, fun b hb _ => hke b (by omega) (by omega)⟩
          have HM4 := Lib.hid hm4
          have HROW4 := Lib.hid hrow4
          have HSIM4 := Lib.hid hsim4
          have HBL4 := Lib.hid hbl4
          obtain ⟨i0, hi, hz0, hzz1, hzz2⟩ := info_parts Try.info3
          clear hm4 hg4 hke hrow4 hsim4 hbl4 hwf
          go_wp2_with (at_builtin; (refine wpList_append_own _ rfl _ _ 44 rfl (w.heap.size + 1) 3 i0 (.int .i64 0) 1 8 Try.underlying44 hi hz0 hzz1 hzz2 rfl (by decide) u6 _ _ rfl (HROW4.out.alloc _) ⟨W4.heap.size, 0, none⟩ 1 1 [.int .i64 (k : Int)] rfl rfl (cell_one_new _ _ _) (by simp [Value.oneCell']) (by unfold maxLen; omega) (by omega) (by simp; omega) ?_; intro v' w5 hown' hgrow _; have HO := Lib.hid hown'; have HGR := Lib.hid hgrow; clear hown' hgrow))
          go_roundw
          case rel =>
            have hs5 := HGR.out.size
            rw [World.size_alloc] at hs5
            have hk5 : ∀ b, b < w.heap.size + 1 → w5.heap[b]? = W4.heap[b]? := fun b hb => (HGR.out.block b (by rw [World.size_alloc]; omega) fun e => by have := (HROW4.out.lt b e.symm).1; omega).trans (Below.heap_alloc _ _ _ (by omega))
            refine ⟨k + 1, hlt, by go_num, HSIM4.out.keep (fun b hb => hk5 b (by rcases hb with hb | hb; omega; have := H.out.lt hb; omega)) (by omega), ?_, ⟨cnt + 1, by omega, ?_⟩, HBL4.out.trans ⟨HGR.out.os, HGR.out.tape, HGR.out.output, by omega, fun b hb _ => hk5 b (by omega)⟩, by omega⟩
            · rw [HNK.out, if_pos rfl, List.length_append, List.map_append]; exact HO.out
            · rw [HNK.out, if_pos rfl]
              have h6 := HM4.out.of_block (hk5 w.heap.size (by omega))
              have e : (fun y => if y = (k : Int) then true else decide (y ∈ spkN n.ps st (due t) k)) = fun y => decide (y ∈ spkN n.ps st (due t) k ++ [(k : Int)]) := by
                funext y
                by_cases e : y = (k : Int) <;> simp [e]
              rw [e] at h6
              exact h6
          case measure => simp [intOf]; omega
    · obtain rfl : k = n.ps.length := by omega
      obtain ⟨L, hL⟩ : ∃ L, spkN n.ps st (due t) n.ps.length = L := ⟨_, rfl⟩
      obtain ⟨stN, hS⟩ : ∃ stN, midS n.ps st (due t) n.ps.length = stN := ⟨_, rfl⟩
      have hLl : L.length ≤ n.ps.length := by rw [← hL]; exact spkN_length _ _ _ _
      have hsim := HG.out.sim
      have hrow := HG.out.row
      obtain ⟨cnt, hcnt, hmap⟩ := HG.out.map
      rw [hS] at hsim
      rw [hL] at hrow hmap
      obtain ⟨va, vc, rfl⟩ := own_sl hrow
      have hG2 : Go2 n B z a1 a2 c1 c2 t stN due L ids w (.slice va L.length vc) 0 wr := ⟨hsim, hrow, ⟨cnt, by omega, by simpa using hmap⟩, HG.out.bel, HG.out.big⟩
      have HG2 := Lib.hid hG2
      have HL := Lib.hid hL
      have HS := Lib.hid hS
      have hil0 : (0 : Int) ≤ (ids.length : Int) := Int.natCast_nonneg _
      clear hL hS hsim hrow hmap hG2 hG HG hlt hk
      go_wp2
      go_loopw [9] (fun s9 wr => ∃ j : Nat, j ≤ ids.length ∧ s9 = .int .i64 j ∧ Go2 n B z a1 a2 c1 c2 t stN due L ids w (.slice va L.length vc) j wr) (fun s9 _ => ids.length - (intOf s9).toNat)
      case atStart => exact ⟨0, Nat.zero_le _, rfl, HG2.out⟩
      case round =>
        obtain ⟨j, hj, rfl, hG⟩ := hrel
        have HG := Lib.hid hG
        have hj0 : (0 : Int) ≤ (j : Int) := Int.natCast_nonneg _
        have hbig := hG.big
        by_cases hlt : j < ids.length
        · have hj1 : (j : Int) < (ids.length : Int) := by omega
          obtain ⟨x, hx⟩ : ∃ x, ids[j]? = some x := ⟨_, List.getElem?_eq_getElem hlt⟩
          obtain ⟨x0, x1⟩ := HID.out x (List.mem_of_getElem? hx)
          have x2 := HOK.out.i1
          obtain ⟨bi, oi, hai, hbi, hci⟩ : ∃ bi oi, ai = some ⟨bi, oi, none⟩ ∧ bi < w.heap.size ∧ w.cell? ⟨bi, oi + j, none⟩ = some (.int .i64 x) := by
            rcases HI.out with ⟨_, h2⟩ | ⟨bi, oi, cap, h1, h2⟩
            · rw [h2] at hx; simp at hx
            · have h3 := h2 j hlt
              simp at h1
              rw [hx] at h3
              exact ⟨bi, oi, h1.1, World.block_lt_of_cell? w _ h3, h3⟩
          subst hai
          have hci2 : wr.cell? ⟨bi, oi + j, none⟩ = some (.int .i64 x) := (hG.bel.cell (p := ⟨bi, oi + j, none⟩) hbi (HIM.out bi rfl)).trans hci
          have hbir : bi < wr.heap.size := by omega
          have hwf := wf64 (x := -1 - x) (by omega) (by omega)
          obtain ⟨cnt, hcnt, hmap⟩ := hG.map
          obtain ⟨W4, hrun, hm4, hg4⟩ := hmap.update (by unfold maxLen; omega) Try.underlying131 (-1 - x) hwf (.bool true)
          rw [metM_upd] at hm4
          have hz4 := hg4.size
          have hke : ∀ b, b ≠ w.heap.size → b < wr.heap.size → W4.heap[b]? = wr.heap[b]? := fun b hb hl => hg4.block b hl (fun e => hb (Option.some.inj e))
          have hG4 : Go2 n B z a1 a2 c1 c2 t stN due L ids w (.slice va L.length vc) (j + 1) W4 := by
            refine ⟨hG.sim.keep (fun b hb => hke b (by rcases hb with hb | hb; omega; have := H.out.lt hb; omega) (by rcases hb with hb | hb; omega; exact hG.sim.lt hb)) hz4, ownsRow_of_block hG.row fun g hg => hke g (by have := (hG.row.lt g hg).1; omega) (hG.row.lt g hg).2, ⟨cnt + 1, by omega, ?_⟩, hG.bel.trans ⟨hg4.os, hg4.tape, hg4.output, hz4, fun b hb _ => hke b (by omega) (by omega)⟩, by omega⟩
            have e : (fun y => if y = -1 - x then true else (decide (y ∈ L) || decide (y ∈ (ids.take j).map fun y => -1 - y))) = fun y => (decide (y ∈ L) || decide (y ∈ (ids.take (j + 1)).map fun y => -1 - y)) := by
              funext y
              rw [List.take_add_one, hx]
              by_cases e : y = -1 - x <;> simp [e]
            rw [e] at hm4
            exact hm4
          have HG4 := Lib.hid hG4
          clear hx hci hmap hm4 hg4 hke hG4 hG hwf
          go_wp2
          go_roundw
          case rel => exact ⟨j + 1, hlt, by go_num, HG4.out⟩
          case measure => simp [intOf]; omega
        · obtain rfl : j = ids.length := by omega
          have hmapF : ∃ c, MapIs wr w.heap.size c (metM (firedB n.ps st (due t) ids)) := by
            obtain ⟨cnt, _, hmap⟩ := hG.map
            rw [List.take_of_length_le (Nat.le_refl _), ← HL.out] at hmap
            exact ⟨cnt, hmap⟩
          obtain ⟨_, _, _, _, _, _⟩ := cells6 hG.sim.blk
          have hzbs : z.bs < wr.heap.size := lt_of_block hG.sim.blk
          generalize wr = wq at *
          have hdc : 16 ≤ z.dc := by
            rcases hG.sim.dv.2 with ⟨h1, _⟩ | ⟨g, cap, cur, h1, _, _, h2, _⟩
            · simp at h1
            · simp at h1; omega
          have hfr : (wq.alloc (.cells #[] 44)).ownsRow wq.heap.size 44 1 (.slice (some ⟨wq.heap.size, 0, none⟩) 0 0) 0 [] :=
            ⟨rfl, .inr ⟨wq.heap.size, 0, #[], rfl, Nat.le_refl _, alloc_new_at _ _ _ rfl, Nat.le_refl _, by unfold maxLen; omega, rfl, rfl⟩⟩
          have hpt : ∀ (j : Nat) u, ((rowsV n.ps.length z.rb z.rc).drop 1)[j]? = some u → (wq.alloc (.cells #[] 44)).cell? ((⟨z.db, 1, none⟩ : Addr).add j) = some u := fun j u hu => by
            rw [List.getElem?_drop] at hu
            have h1 := (ownsRow_of_block (A' := wq.alloc (.cells #[] 44)) hG.sim.dv fun g hg => Below.heap_alloc _ _ _ (hG.sim.dv.lt g hg).2).cells (g := z.db) rfl (1 + j) u hu
            have e : (⟨z.db, 0, none⟩ : Addr).add (1 + j) = (⟨z.db, 1, none⟩ : Addr).add j := by
              unfold Addr.add
              by_cases q : j = 0
              · subst q; rfl
              · rw [if_neg (by omega), if_neg q]; simp
            rw [← e]; exact h1
          have hdc1 : (z.dc = 1) = False := eq_false (by omega)
          have hdc2 : (z.dc == 1) = false := by simp; omega
          have HFR := Lib.hid hfr
          have HPT := Lib.hid hpt
          have HMF := Lib.hid hmapF
          have HGQ := Lib.hid hG
          have hmr := Bg.make_row n.ps.length (by omega)
          obtain ⟨i4, hi4, hz4, hzz41, hzz42⟩ := info_parts info44s
          clear hfr hpt hmapF hG hlt hj
          go_upto_region 16 with (at_builtin; refine wpList_append_own _ rfl _ _ 62 rfl wq.heap.size 44 i4 (.slice none 0 0) 1 24 Try.underlying62 hi4 hz4 hzz41 hzz42 rfl (by decide) (.slice (some ⟨wq.heap.size, 0, none⟩) 0 0) 0 [] rfl HFR.out ⟨z.db, 1, none⟩ _ _ ((rowsV n.ps.length z.rb z.rc).drop 1) rfl (by simp [rowsV]) HPT.out (fun u hu => rowsV_one (List.mem_of_mem_drop hu)) (by unfold maxLen; omega) (by omega) (by simp) ?_; intro v10 w15 hown' hgrow _; have HO15 := Lib.hid hown'; have HG15 := Lib.hid hgrow; clear hown' hgrow)
          have hn15 : w15.ownsRow wq.heap.size 44 1 v10 15 ((rowsV n.ps.length z.rb z.rc).drop 1) := by have h := HO15.out; rw [Nat.zero_add, List.nil_append] at h; exact h
          obtain ⟨v10a, v10c, rfl⟩ := own_sl hn15
          have hs15 := HG15.out.size
          rw [World.size_alloc] at hs15
          have hk15 : ∀ b, b < wq.heap.size → w15.heap[b]? = wq.heap[b]? := fun b hb => (HG15.out.block b (by rw [World.size_alloc]; omega) (by simp [Value.ownBlock]; omega)).trans (Below.heap_alloc _ _ _ hb)
          have hsim15 : RefAt n w15 B z a1 a2 c1 c2 t t stN due := HGQ.out.sim.keep (fun b hb => hk15 b (by rcases hb with hb | hb; omega; exact HGQ.out.sim.lt hb)) (by omega)
          obtain ⟨_, _, _, _, _, _⟩ := cells6 hsim15.blk
          have hfz : w15.frozen? ⟨z.bs, 5, none⟩ = false := by simp [World.frozen?, hsim15.blk]
          have hzbs15 : z.bs < w15.heap.size := lt_of_block hsim15.blk
          have HN15 := Lib.hid hn15
          have HK15 := Lib.hid hk15
          have HSIM15 := Lib.hid hsim15
          have hnn0 : (0 : Int) ≤ (n.ps.length : Int) := Int.natCast_nonneg _
          clear hn15 hk15 hsim15 HO15
          have hbxf : ∀ w16 : World, ((w15.alloc (.cells (rowC n.ps.length fun _ => 0).toArray 3)).alloc (.cells #[.slice (some ⟨w15.heap.size, 0, none⟩) n.ps.length n.ps.length] 44)).grownBy w16 (Value.slice v10a 15 v10c).ownBlock → w16.heap[z.bs]? = some (.cells #[.slice a1 n.ps.length c1, .int .i64 n.inp, .slice a2 n.ss.length c2, .int .i64 (t : Int), .slice (some ⟨z.sb, 0, none⟩) n.ps.length z.sc, .slice (some ⟨z.db, 0, none⟩) 16 z.dc] 64) := fun w16 hgr => by
            refine (hgr.block z.bs (by simp; omega) (fun e => ?_)).trans ((Below.heap_alloc _ _ _ (by simp; omega)).trans ((Below.heap_alloc _ _ _ (by omega)).trans HSIM15.out.blk))
            have := (HN15.out.lt z.bs e.symm).1
            omega
          have HBXF := Lib.hid hbxf
          clear hbxf
          go_upto_region 17 with (at_builtin; (refine wpList_append_where _ rfl _ _ 62 rfl wq.heap.size 44 i4 (.slice none 0 0) 1 24 Try.underlying62 hi4 hz4 hzz41 hzz42 rfl (by decide) (.slice v10a 15 v10c) 15 ((rowsV n.ps.length z.rb z.rc).drop 1) rfl (ownsRow_of_block HN15.out fun g hg => (Below.heap_alloc _ _ _ (by have := (HN15.out.lt g hg).2; first | omega | (simp; done) | (simp; omega))).trans (Below.heap_alloc _ _ _ (HN15.out.lt g hg).2)) ⟨w15.heap.size + 1, 0, none⟩ 1 1 (by decide) [.slice (some ⟨w15.heap.size, 0, none⟩) n.ps.length n.ps.length] rfl rfl (cell_one_new2 _ _ _ _) (by simp [Value.oneCell']) (by unfold maxLen; omega) (by omega) (by first | omega | (simp; done) | (simp; omega)) ?_; intro v' w16 hown' hgrow hwh; obtain ⟨g16, c16, hv16⟩ := own_form hown' (by omega); subst hv16; have hbx16 := HBXF.out _ hgrow; have hfz16 : w16.frozen? ⟨z.bs, 5, none⟩ = false := (by simp [World.frozen?, hbx16]); have hzb16 : z.bs < w16.heap.size := lt_of_block hbx16; obtain ⟨_, _, _, _, _, hcl16⟩ := cells6 hbx16; have HBX16 := Lib.hid hbx16; have HO16 := Lib.hid hown'; have HG16 := Lib.hid hgrow; have HW16 := Lib.hid hwh; clear hown' hgrow hwh hbx16))
          have hs16 := HG16.out.size
          simp only [World.size_alloc] at hs16
          have hk16 : ∀ b, b < wq.heap.size → w16.heap[b]? = wq.heap[b]? := fun b hb => by
            refine (HG16.out.block b (by simp; omega) (fun e => ?_)).trans ((Below.heap_alloc _ _ _ (by simp; omega)).trans ((Below.heap_alloc _ _ _ (by omega)).trans (HK15.out b hb)))
            have := (HN15.out.lt b e.symm).1
            omega
          have hnew : w16.heap[w15.heap.size]? = some (.cells (rowC n.ps.length fun _ => 0).toArray 3) := by
            refine (HG16.out.block _ (by simp; omega) (fun e => ?_)).trans ((Below.heap_alloc _ _ _ (by simp)).trans (alloc_new_at _ _ _ rfl))
            have := (HN15.out.lt _ e.symm).2
            omega
          have hg16ne : w15.heap.size ≠ g16 := by
            rcases HW16.out with h | h
            · intro e
              have h' : (Value.slice v10a 15 v10c).ownBlock = some g16 := h.symm
              have := (HN15.out.lt _ h').2
              omega
            · simp [Value.ownBlock] at h; omega
          have hbsq := HGQ.out.sim.lt (.inl rfl : z.mut z.bs)
          have hsim18 : RefAt n (w16.setCell ⟨z.bs, 5, none⟩ (.slice (some ⟨g16, 0, none⟩) 16 c16)) B { z with db := g16, dc := c16, rb := fun d => if d < 15 then z.rb (d + 1) else w15.heap.size, rc := fun d => if d < 15 then z.rc (d + 1) else n.ps.length } a1 a2 c1 c2 t (t + 1) stN due := by
            have e : ∀ b, b ≠ z.bs → (w16.setCell ⟨z.bs, 5, none⟩ (.slice (some ⟨g16, 0, none⟩) 16 c16)).heap[b]? = w16.heap[b]? := fun b hb => by simp [World.setCell, Array.getElem?_modify, Ne.symm hb]
            have hbx := HBX16.out
            refine HGQ.out.sim.shift (by omega) g16 c16 w15.heap.size (by simp [World.setCell]; omega) (fun b hb hn => (e b hn).trans (hk16 b hb)) (by simp [World.setCell, Array.getElem?_modify, hbx]) (ownsRow_of_block HO16.out fun g hg => by cases hg; exact e g16 (by have := (HO16.out.lt g16 rfl).1; omega)) (by omega) hg16ne ((e _ (by omega)).trans hnew) (fun i => HZERO.out _ i (Nat.le_refl _))
          have hkeep18 : ∀ b, b < wq.heap.size → b ≠ z.bs → (w16.setCell ⟨z.bs, 5, none⟩ (.slice (some ⟨g16, 0, none⟩) 16 c16)).heap[b]? = wq.heap[b]? := fun b hb hn => by
            rw [← hk16 b hb]
            simp [World.setCell, Array.getElem?_modify, Ne.symm hn]
          have hbs0 : z.bs < w.heap.size := H.out.lt (.inl rfl)
          have hrow18 := ownsRow_of_block HGQ.out.row (A' := w16.setCell ⟨z.bs, 5, none⟩ (.slice (some ⟨g16, 0, none⟩) 16 c16)) fun g hg => hkeep18 g (HGQ.out.row.lt g hg).2 (by have := (HGQ.out.row.lt g hg).1; omega)
          have hmap18 : ∃ c, MapIs (w16.setCell ⟨z.bs, 5, none⟩ (.slice (some ⟨g16, 0, none⟩) 16 c16)) w.heap.size c (metM (firedB n.ps st (due t) ids)) := by
            obtain ⟨c, hc⟩ := HMF.out
            exact ⟨c, hc.of_block (hkeep18 _ HGQ.out.big (by omega))⟩
          have hbl18 : Bel z.mut w.heap.size w (w16.setCell ⟨z.bs, 5, none⟩ (.slice (some ⟨g16, 0, none⟩) 16 c16)) := by
            refine HGQ.out.bel.trans ⟨?_, ?_, ?_, by simp [World.setCell]; omega, fun b hb hn => hkeep18 b (by have := HGQ.out.big; omega) (fun e => hn (.inl e))⟩
            · exact HG16.out.os.trans HG15.out.os
            · exact HG16.out.tape.trans HG15.out.tape
            · exact HG16.out.output.trans HG15.out.output
          have hbig18 : w.heap.size < (w16.setCell ⟨z.bs, 5, none⟩ (.slice (some ⟨g16, 0, none⟩) 16 c16)).heap.size := by simp [World.setCell]; have := HGQ.out.big; omega
          obtain ⟨zz, hzz⟩ : ∃ zz : RZ, zz = { z with db := g16, dc := c16, rb := fun d => if d < 15 then z.rb (d + 1) else w15.heap.size, rc := fun d => if d < 15 then z.rc (d + 1) else n.ps.length } := ⟨_, rfl⟩
          have hzzbs : zz.bs = z.bs := by rw [hzz]
          have hzm : ∀ b, zz.mut b → z.mut b ∨ w.heap.size < b := fun b hb => by
            have hq := HGQ.out.big
            rw [hzz] at hb
            rcases hb with hb | hb | hb | ⟨d, hd, hb⟩
            · exact .inl (.inl hb)
            · exact .inl (.inr (.inl hb))
            · have := (HO16.out.lt g16 rfl).1
              have hb' : b = g16 := hb
              exact .inr (by omega)
            · have hb' : b = if d < 15 then z.rb (d + 1) else w15.heap.size := hb
              by_cases q : d < 15
              · rw [if_pos q] at hb'; exact .inl (.inr (.inr (.inr ⟨d + 1, by omega, hb'⟩)))
              · rw [if_neg q] at hb'; exact .inr (by omega)
          have hzrow : ∀ g, (Value.slice va L.length vc).ownBlock = some g → ¬ zz.mut g := fun g hg hm => by
            have hg1 := HGQ.out.row.lt g hg
            rw [hzz] at hm
            rcases hm with hm | hm | hm | ⟨d, hd, hm⟩
            · have hm' : g = z.bs := hm; omega
            · have hm' : g = z.sb := hm
              have := H.out.lt (.inr (.inl rfl) : z.mut z.sb); omega
            · have hm' : g = g16 := hm
              have := (HO16.out.lt g16 rfl).1; omega
            · have hm' : g = if d < 15 then z.rb (d + 1) else w15.heap.size := hm
              by_cases q : d < 15
              · rw [if_pos q] at hm'
                have := H.out.lt (.inr (.inr (.inr ⟨d + 1, by omega, rfl⟩)) : z.mut (z.rb (d + 1))); omega
              · rw [if_neg q] at hm'; omega
          rw [← hzz] at hsim18
          generalize w16.setCell ⟨z.bs, 5, none⟩ (.slice (some ⟨g16, 0, none⟩) 16 c16) = W18 at *
          have hG3 : Go3 n B zz z a1 a2 c1 c2 t stN (dueF due t ((n.ss.take 0).filter fun s => firedB n.ps st (due t) ids s.fr)) (firedB n.ps st (due t) ids) L w (.slice va L.length vc) W18 := ⟨by rw [List.take_zero, List.filter_nil, dueF_none]; exact hsim18, hrow18, hmap18, hbl18, hbig18⟩
          have HG3 := Lib.hid hG3
          have HZM := Lib.hid hzm
          have HZR := Lib.hid hzrow
          have HZB := Lib.hid hzzbs
          have hmm0 : (0 : Int) ≤ (n.ss.length : Int) := Int.natCast_nonneg _
          have hmm1 := HOK.out.s1
          clear hG3 hsim18 hrow18 hmap18 hbl18 hbig18 hzm hzrow hzz hkeep18 hk16 hnew hg16ne hbsq HO16 HG16 HW16 HBX16 HBXF HN15 HK15 HSIM15 HG15 HFR HPT HMF HGQ HG2
          obtain ⟨F, hF⟩ : ∃ F, firedB n.ps st (due t) ids = F := ⟨_, rfl⟩
          rw [hF] at HG3
          have HF := Lib.hid hF
          clear hF
          go_wp2
          go_loopw [11, 12] (fun s11 _ wr => ∃ k : Nat, k ≤ n.ss.length ∧ s11 = .int .i64 k ∧ Go3 n B zz z a1 a2 c1 c2 t stN (dueF due t ((n.ss.take k).filter fun s => F s.fr)) F L w (.slice va L.length vc) wr) (fun s11 _ _ => n.ss.length - (intOf s11).toNat)
          case atStart => exact ⟨0, Nat.zero_le _, rfl, HG3.out⟩
          case round =>
            obtain ⟨k, hk, rfl, hG⟩ := hrel
            have hk0 : (0 : Int) ≤ (k : Int) := Int.natCast_nonneg _
            have HG := Lib.hid hG
            have hbk := hG.sim.blk
            rw [HZB.out] at hbk
            obtain ⟨_, _, _, _, _, _⟩ := cells6 hbk
            have hzb := lt_of_block hbk
            have hbig := hG.big
            by_cases hlt : k < n.ss.length
            · have hk1 : (k : Int) < (n.ss.length : Int) := by omega
              obtain ⟨s, hs⟩ : ∃ s, n.ss[k]? = some s := ⟨_, List.getElem?_eq_getElem hlt⟩
              obtain ⟨ssb, so, rfl, hsb, hsc⟩ := hG.sim.ss.at hs
              obtain ⟨y0, y1, y2, y3⟩ := hsc
              have hso := HOK.out.ss s (List.mem_of_getElem? hs)
              obtain ⟨SF, ST, SW, SD⟩ := s
              simp only at y0 y1 y2 y3
              simp [synOk, srcOk, inR] at hso
              have i1 := HOK.out.i1
              obtain ⟨d, rfl⟩ : ∃ d : Nat, SD = (d : Int) + 1 := ⟨(SD - 1).toNat, by omega⟩
              obtain ⟨tt, rfl⟩ : ∃ tt : Nat, ST = (tt : Int) := ⟨ST.toNat, by omega⟩
              have hd16 : d < 16 := by omega
              have httn : tt < n.ps.length := by omega
              have wf1 := wf64 (x := SF) (by omega) (by omega)
              have hold : ∀ b, b < wr.heap.size → (wr.alloc (.cells #[.int .i64 SF, .int .i64 (tt : Int), .int .i64 SW, .int .i64 ((d : Int) + 1)] 96)).heap[b]? = wr.heap[b]? := fun b hb => Below.heap_alloc _ _ _ hb
              have hGX : Go3 n B zz z a1 (some ⟨ssb, so, none⟩) c1 c2 t stN (dueF due t ((n.ss.take k).filter fun s => F s.fr)) F L w (.slice va L.length vc) (wr.alloc (.cells #[.int .i64 SF, .int .i64 (tt : Int), .int .i64 SW, .int .i64 ((d : Int) + 1)] 96)) := by
                refine ⟨hG.sim.below ((Below.refl _ _).alloc (Nat.le_refl _) _) (by omega), ownsRow_of_block hG.row fun g hg => hold g (hG.row.lt g hg).2, ?_, hG.bel.alloc (by omega) _, by simp; omega⟩
                obtain ⟨c, hc⟩ := hG.map
                exact ⟨c, hc.of_block (hold _ hbig)⟩
              obtain ⟨cm, hcm⟩ := hGX.map
              have l1 := hcm.met SF wf1
              have hxb : (wr.alloc (.cells #[.int .i64 SF, .int .i64 (tt : Int), .int .i64 SW, .int .i64 ((d : Int) + 1)] 96)).heap[wr.heap.size]? = some (.cells #[.int .i64 SF, .int .i64 (tt : Int), .int .i64 SW, .int .i64 ((d : Int) + 1)] 96) := alloc_new_at _ _ _ rfl
              have HGX := Lib.hid hGX
              have HXB := Lib.hid hxb
              have HS := Lib.hid hs
              have HSO := Lib.hid hso
              clear hG hGX hxb hcm hold hs hso hbk
              cases hf : F SF with
              | false =>
                rw [hf] at l1
                have HFF := Lib.hid hf
                clear hf
                go_wp2
                go_roundw
                case rel => exact ⟨k + 1, hlt, by go_num, by rw [dueF_take_no HS.out HFF.out]; exact HGX.out⟩
                case measure => simp [intOf]; omega
              | true =>
                rw [hf] at l1
                have HFF := Lib.hid hf
                clear hf
                go_upto_region 22 with (fail)
                generalize wr.alloc (.cells #[.int .i64 SF, .int .i64 (tt : Int), .int .i64 SW, .int .i64 ((d : Int) + 1)] 96) = X at *
                generalize wr.heap.size = PB at *
                have hbk7 := HGX.out.sim.blk
                rw [HZB.out] at hbk7
                obtain ⟨_, _, _, _, _, _⟩ := cells6 hbk7
                obtain ⟨_, _, _, _⟩ := cells4q HXB.out
                have hzb7 := lt_of_block hbk7
                have hPB7 := lt_of_block HXB.out
                have hdc7 : X.cell? ⟨zz.db, d, none⟩ = some (.slice (some ⟨zz.rb d, 0, none⟩) n.ps.length (zz.rc d)) := by
                  have := HGX.out.sim.dv.cells (g := zz.db) rfl d _ (rowsV_at (N := n.ps.length) (rb := zz.rb) (rc := zz.rc) hd16)
                  have e : (⟨zz.db, 0, none⟩ : Addr).add d = ⟨zz.db, d, none⟩ := by unfold Addr.add; split <;> simp_all
                  rw [← e]; exact this
                have hdb7 : zz.db < X.heap.size := (HGX.out.sim.dv.lt zz.db rfl).2
                have hrw7 := HGX.out.sim.row d hd16
                have hrb7 : zz.rb d < X.heap.size := hrw7.lt
                obtain ⟨hrc7, hrf7⟩ := hrw7.cell httn
                obtain ⟨old, hold⟩ : ∃ old, dueF due t ((n.ss.take k).filter fun s => F s.fr) (t + 1 + d) tt = old := ⟨_, rfl⟩
                rw [hold] at hrc7
                have hd0' : (0 : Int) ≤ (d : Int) := Int.natCast_nonneg _
                have hd16' : (d : Int) < 16 := by omega
                have ht0' : (0 : Int) ≤ (tt : Int) := Int.natCast_nonneg _
                have httn' : (tt : Int) < (n.ps.length : Int) := by omega
                have hw3 : IntKind.i64.wrap (d : Int) = (d : Int) := by rw [wrap_eq]; unfold wrap64; omega
                have hw4 : IntKind.i64.wrap ((d : Int) + 1 - 1) = (d : Int) := by rw [wrap_eq]; unfold wrap64; omega
                have hw5 : (d : Int) + 1 - 1 = (d : Int) := by omega
                have HOLD := Lib.hid hold
                have HSO2 := Lib.hid hd16
                have HTT2 := Lib.hid httn
                clear hbk7 hrw7 hold l1
                go_still_tail 17, (by kernel_rfl)
                change wpList _ _ _ _ _ X.drew
                have hGD : Go3 n B zz z a1 (some ⟨ssb, so, none⟩) c1 c2 t stN (dueF due t ((n.ss.take k).filter fun s => F s.fr)) F L w (.slice va L.length vc) X.drew := by
                  have e : ∀ b : Nat, X.drew.heap[b]? = X.heap[b]? := fun b => rfl
                  refine ⟨HGX.out.sim.keep (fun b _ => e b) (Nat.le_refl _), ownsRow_of_block HGX.out.row fun g _ => e g, ?_, HGX.out.bel.drew, HGX.out.big⟩
                  obtain ⟨c, hc⟩ := HGX.out.map
                  exact ⟨c, hc.of_block (e _)⟩
                have hxc : X.drew.cell? ⟨zz.rb d, tt, none⟩ = some (.int .i64 old) := hrc7
                have hxf : X.drew.frozen? ⟨zz.rb d, tt, none⟩ = false := hrf7
                have hxl : zz.rb d < X.drew.heap.size := hrb7
                generalize X.drew = X7 at *
                have HGD := Lib.hid hGD
                clear hGD HGX HXB
                go_wp2
                go_roundw
                case rel =>
                  have hd16 := HSO2.out
                  have httn := HTT2.out
                  have hs := HGD.out.sim.setDue hd16 httn (wrap64 (old + SW))
                  have hmr : zz.mut (zz.rb d) := .inr (.inr (.inr ⟨d, hd16, rfl⟩))
                  have hzm := HZM.out _ hmr
                  have hne : zz.rb d ≠ w.heap.size := by
                    rcases hzm with h | h
                    · have := H.out.lt h; omega
                    · omega
                  have e : dueF due t ((n.ss.take (k + 1)).filter fun s => F s.fr) = fun a j => if a = t + 1 + d ∧ j = tt then wrap64 (old + SW) else dueF due t ((n.ss.take k).filter fun s => F s.fr) a j := by
                    rw [dueF_take (F := fun s => F s.fr) HS.out HFF.out]
                    funext a j
                    unfold addP
                    by_cases q : a = t + 1 + d ∧ j = tt
                    · rw [if_pos q, if_pos ⟨by show (a : Int) = (t : Int) + ((d : Int) + 1); omega, by show (j : Int) = (tt : Int); omega⟩, q.1, q.2, HOLD.out]
                    · rw [if_neg q, if_neg]
                      rintro ⟨q1, q2⟩
                      have q1' : (a : Int) = (t : Int) + ((d : Int) + 1) := q1
                      have q2' : (j : Int) = (tt : Int) := q2
                      exact q ⟨by omega, by omega⟩
                  have eb : ∀ b, b ≠ zz.rb d → (X7.setCell ⟨zz.rb d, tt, none⟩ (.int .i64 (wrap64 (old + SW)))).heap[b]? = X7.heap[b]? := fun b hb => by simp [World.setCell, Array.getElem?_modify, Ne.symm hb]
                  refine ⟨k + 1, hlt, by go_num, by rw [e]; exact hs, ownsRow_of_block HGD.out.row fun g hg => eb g (fun q => HZR.out g hg (by rw [q]; exact hmr)), ?_, HGD.out.bel.setCell (p := ⟨zz.rb d, tt, none⟩) (by rcases hzm with h | h; exact .inl h; exact .inr (by show w.heap.size ≤ zz.rb d; omega)) _, by simp [World.setCell]; exact HGD.out.big⟩
                  obtain ⟨c, hc⟩ := HGD.out.map
                  exact ⟨c, hc.of_block (eb _ (Ne.symm hne))⟩
                case measure => simp [intOf]; omega
            · obtain rfl : k = n.ss.length := by omega
              have hdue : dueF due t ((n.ss.take n.ss.length).filter fun s => F s.fr) = (tickM n t ⟨st, due⟩ ids).due := by
                rw [List.take_of_length_le (Nat.le_refl _), ← HF.out]
                exact dueF_tick (S := ⟨st, due⟩) HRNG.out HND.out fun x hx => (HID.out x hx).1
              have hfz : wr.frozen? ⟨z.bs, 3, none⟩ = false := by simp [World.frozen?, hbk]
              have HG4 := HG
              have HDUE := Lib.hid hdue
              clear hG hbk hdue hk hlt HG
              go_wp2
              go_ret
              have hG := HG4.out
              have hs := hG.sim.setTick (t + 1)
              rw [HDUE.out, HZB.out] at hs
              have eb : ∀ b, b ≠ z.bs → (wr.setCell ⟨z.bs, 3, none⟩ (.int .i64 ((t : Int) + 1))).heap[b]? = wr.heap[b]? := fun b hb => by simp [World.setCell, Array.getElem?_modify, Ne.symm hb]
              have hrw := own_base (ownsRow_of_block hG.row fun g hg => eb g (fun q => HZR.out g hg (by rw [q, ← HZB.out]; exact .inl rfl))) (Nat.le_succ w.heap.size)
              refine ⟨_, zz, rfl, ?_, ?_, hG.bel.setCell (p := ⟨z.bs, 3, none⟩) (.inl (.inl rfl)) _, HZB.out, fun b hb => (HZM.out b hb).imp_right Nat.le_of_lt, HZR.out⟩
              · rw [← HL.out] at hrw ⊢
                exact hrw
              · rw [← HS.out] at hs
                exact hs
end Go.Proofs.Ytgbcdebnanejpaa
