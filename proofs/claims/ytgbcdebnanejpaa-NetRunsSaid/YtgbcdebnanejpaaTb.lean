/- The specification's simulation in memory. Over this seat's program. -/
import Derived.Test.YtgbcdebnanejpaaTa
namespace Go.Proofs.Ytgbcdebnanejpaa
set_option linter.unusedVariables false
open Go.RowKit Go.Shelf

structure RZ where
  bs : Nat
  sb : Nat
  db : Nat
  dc : Nat
  rb : Nat → Nat
def rowsV (N : Nat) (rb : Nat → Nat) : List Value := (List.range 16).map fun d => .slice (some ⟨rb d, 0, none⟩) N N
theorem rowsV_length (N : Nat) (rb : Nat → Nat) : (rowsV N rb).length = 16 := by simp [rowsV]
theorem rowsV_at {N : Nat} {rb : Nat → Nat} {d : Nat} (h : d < 16) : (rowsV N rb)[d]? = some (.slice (some ⟨rb d, 0, none⟩) N N) := by simp [rowsV, h]
/-- The blocks that the specification's simulation writes. -/
def RZ.mut (z : RZ) (b : Nat) : Prop := b = z.bs ∨ b = z.sb ∨ b = z.db ∨ ∃ d, d < 16 ∧ b = z.rb d
/-- The specification's simulation with the tick t; its rows stand for the ticks from r0 on. -/
structure RefAt (n : NetM) (A : World) (B : Nat) (z : RZ) (a1 a2 : Option Addr) (c1 c2 t r0 : Nat) (st : List (Int × Int)) (due : Due) : Prop where
  blk : A.heap[z.bs]? = some (.cells #[.slice a1 n.ps.length c1, .int .i64 n.inp, .slice a2 n.ss.length c2, .int .i64 (t : Int), .slice (some ⟨z.sb, 0, none⟩) n.ps.length n.ps.length, .slice (some ⟨z.db, 0, none⟩) 16 z.dc] 64)
  ps : PsAt A (.slice a1 n.ps.length c1) n.ps
  psB : ∀ g, (Value.slice a1 n.ps.length c1).ownBlock = some g → g < B
  ss : SsAt A (.slice a2 n.ss.length c2) n.ss
  ssB : ∀ g, (Value.slice a2 n.ss.length c2).ownBlock = some g → g < B
  stb : A.heap[z.sb]? = some (.cells (stC st).toArray 98)
  len : st.length = n.ps.length
  dv : A.ownsRow B 44 1 (.slice (some ⟨z.db, 0, none⟩) 16 z.dc) 16 (rowsV n.ps.length z.rb)
  row : ∀ d, d < 16 → RowAt A (z.rb d) n.ps.length (due (r0 + d))
  lo : ∀ b, z.mut b → B ≤ b
  inj : ∀ d d', d < 16 → d' < 16 → z.rb d = z.rb d' → d = d'
  ne1 : z.bs ≠ z.sb
  ne2 : z.bs ≠ z.db
  ne3 : z.sb ≠ z.db
  ne4 : ∀ d, d < 16 → z.bs ≠ z.rb d
  ne5 : ∀ d, d < 16 → z.sb ≠ z.rb d
  ne6 : ∀ d, d < 16 → z.db ≠ z.rb d
section
variable {n : NetM} {A A' : World} {B : Nat} {z : RZ} {a1 a2 : Option Addr} {c1 c2 t r0 : Nat} {st : List (Int × Int)} {due : Due}
theorem RefAt.lt (h : RefAt n A B z a1 a2 c1 c2 t r0 st due) {b : Nat} (hb : z.mut b) : b < A.heap.size := by
  rcases hb with rfl | rfl | rfl | ⟨d, hd, rfl⟩
  · exact lt_of_block h.blk
  · exact lt_of_block h.stb
  · exact (h.dv.lt z.db rfl).2
  · exact lt_of_block (h.row d hd)
theorem psAt_of {v : Value} {l : List Prm} (h : PsAt A v l) (hb : ∀ g, v.ownBlock = some g → A'.heap[g]? = A.heap[g]?) (hs : A.heap.size ≤ A'.heap.size) : PsAt A' v l := by
  rcases h with h0 | ⟨b, off, cap, e, hl, h1⟩
  · exact Or.inl h0
  · have hc : ∀ o, A'.cell? ⟨b, o, none⟩ = A.cell? ⟨b, o, none⟩ := fun o => World.cell?_of_block (hb b (by rw [e]; rfl))
    refine Or.inr ⟨b, off, cap, e, by omega, fun k p hk => ?_⟩
    obtain ⟨c0, c1, c2, c3, c4, c5, c6, c7⟩ := h1 k p hk
    exact ⟨(hc _).trans c0, (hc _).trans c1, (hc _).trans c2, (hc _).trans c3, (hc _).trans c4, (hc _).trans c5, (hc _).trans c6, (hc _).trans c7⟩
theorem ssAt_of {v : Value} {l : List Syn} (h : SsAt A v l) (hb : ∀ g, v.ownBlock = some g → A'.heap[g]? = A.heap[g]?) (hs : A.heap.size ≤ A'.heap.size) : SsAt A' v l := by
  rcases h with h0 | ⟨b, off, cap, e, hl, h1⟩
  · exact Or.inl h0
  · have hc : ∀ o, A'.cell? ⟨b, o, none⟩ = A.cell? ⟨b, o, none⟩ := fun o => World.cell?_of_block (hb b (by rw [e]; rfl))
    refine Or.inr ⟨b, off, cap, e, by omega, fun k p hk => ?_⟩
    obtain ⟨c0, c1, c2, c3⟩ := h1 k p hk
    exact ⟨(hc _).trans c0, (hc _).trans c1, (hc _).trans c2, (hc _).trans c3⟩
theorem RefAt.inB (h : RefAt n A B z a1 a2 c1 c2 t r0 st due) {g : Nat} (hg : g < B) : ¬ z.mut g := fun hm => by have := h.lo g hm; omega
/-- What the simulation doesn't write may change. -/
theorem RefAt.keep (h : RefAt n A B z a1 a2 c1 c2 t r0 st due) (hb : ∀ b, b < B ∨ z.mut b → A'.heap[b]? = A.heap[b]?) (hs : A.heap.size ≤ A'.heap.size) : RefAt n A' B z a1 a2 c1 c2 t r0 st due :=
  ⟨(hb _ (.inr (.inl rfl))).trans h.blk, psAt_of h.ps (fun g hg => hb g (.inl (h.psB g hg))) hs, h.psB, ssAt_of h.ss (fun g hg => hb g (.inl (h.ssB g hg))) hs, h.ssB,
    (hb _ (.inr (.inr (.inl rfl)))).trans h.stb, h.len, ownsRow_of_block h.dv fun g hg => by cases hg; exact hb _ (.inr (.inr (.inr (.inl rfl)))),
    fun d hd => (hb _ (.inr (.inr (.inr (.inr ⟨d, hd, rfl⟩))))).trans (h.row d hd), h.lo, h.inj, h.ne1, h.ne2, h.ne3, h.ne4, h.ne5, h.ne6⟩
theorem RefAt.below (h : RefAt n A B z a1 a2 c1 c2 t r0 st due) (hb : Below A.heap.size A A') (hB : B ≤ A.heap.size) : RefAt n A' B z a1 a2 c1 c2 t r0 st due :=
  h.keep (fun b hb' => hb.block b (by rcases hb' with h1 | h1; omega; exact h.lt h1)) hb.size
/-- The store of a state. -/
theorem RefAt.setSt (h : RefAt n A B z a1 a2 c1 c2 t r0 st due) (k : Nat) (hk : k < st.length) (v r : Int) : RefAt n ((A.setCell ⟨z.sb, k * 2, none⟩ (.int .i64 v)).setCell ⟨z.sb, k * 2 + 1, none⟩ (.int .i64 r)) B z a1 a2 c1 c2 t r0 (st.set k (v, r)) due := by
  have e : ∀ b, b ≠ z.sb → ((A.setCell ⟨z.sb, k * 2, none⟩ (.int .i64 v)).setCell ⟨z.sb, k * 2 + 1, none⟩ (.int .i64 r)).heap[b]? = A.heap[b]? := fun b hb => by simp [World.setCell, Array.getElem?_modify, Ne.symm hb]
  have hlo := h.lo z.sb (.inr (.inl rfl))
  refine ⟨(e _ h.ne1).trans h.blk, psAt_of h.ps (fun g hg => e g (by have := h.psB g hg; omega)) (by simp [World.setCell]), h.psB, ssAt_of h.ss (fun g hg => e g (by have := h.ssB g hg; omega)) (by simp [World.setCell]), h.ssB, ?_, by simpa using h.len,
    ownsRow_of_block h.dv fun g hg => by cases hg; exact e _ (Ne.symm h.ne3), fun d hd => (e _ (Ne.symm (h.ne5 d hd))).trans (h.row d hd), h.lo, h.inj, h.ne1, h.ne2, h.ne3, h.ne4, h.ne5, h.ne6⟩
  have hs := h.stb
  rw [← stC_set _ _ _ _ hk]
  simp [World.setCell, Array.getElem?_modify, hs]
/-- The store of the tick. -/
theorem RefAt.setTick (h : RefAt n A B z a1 a2 c1 c2 t r0 st due) (t' : Nat) : RefAt n (A.setCell ⟨z.bs, 3, none⟩ (.int .i64 (t' : Int))) B z a1 a2 c1 c2 t' r0 st due := by
  have e : ∀ b, b ≠ z.bs → (A.setCell ⟨z.bs, 3, none⟩ (.int .i64 (t' : Int))).heap[b]? = A.heap[b]? := fun b hb => by simp [World.setCell, Array.getElem?_modify, Ne.symm hb]
  have hlo := h.lo z.bs (.inl rfl)
  refine ⟨?_, psAt_of h.ps (fun g hg => e g (by have := h.psB g hg; omega)) (by simp [World.setCell]), h.psB, ssAt_of h.ss (fun g hg => e g (by have := h.ssB g hg; omega)) (by simp [World.setCell]), h.ssB, (e _ (Ne.symm h.ne1)).trans h.stb, h.len,
    ownsRow_of_block h.dv fun g hg => by cases hg; exact e _ (Ne.symm h.ne2), fun d hd => (e _ (Ne.symm (h.ne4 d hd))).trans (h.row d hd), h.lo, h.inj, h.ne1, h.ne2, h.ne3, h.ne4, h.ne5, h.ne6⟩
  have hs := h.blk
  simp [World.setCell, Array.getElem?_modify, hs]
/-- The store of what is due. -/
theorem RefAt.setDue (h : RefAt n A B z a1 a2 c1 c2 t r0 st due) {d i : Nat} (hd : d < 16) (hi : i < n.ps.length) (x : Int) : RefAt n (A.setCell ⟨z.rb d, i, none⟩ (.int .i64 x)) B z a1 a2 c1 c2 t r0 st (fun a j => if a = r0 + d ∧ j = i then x else due a j) := by
  have e : ∀ b, b ≠ z.rb d → (A.setCell ⟨z.rb d, i, none⟩ (.int .i64 x)).heap[b]? = A.heap[b]? := fun b hb => by simp [World.setCell, Array.getElem?_modify, Ne.symm hb]
  have hlo := h.lo (z.rb d) (.inr (.inr (.inr ⟨d, hd, rfl⟩)))
  refine ⟨(e _ (h.ne4 d hd)).trans h.blk, psAt_of h.ps (fun g hg => e g (by have := h.psB g hg; omega)) (by simp [World.setCell]), h.psB, ssAt_of h.ss (fun g hg => e g (by have := h.ssB g hg; omega)) (by simp [World.setCell]), h.ssB, (e _ (h.ne5 d hd)).trans h.stb, h.len,
    ownsRow_of_block h.dv fun g hg => by cases hg; exact e _ (h.ne6 d hd), fun d' hd' => ?_, h.lo, h.inj, h.ne1, h.ne2, h.ne3, h.ne4, h.ne5, h.ne6⟩
  by_cases q : d' = d
  · subst q
    have := (h.row d' hd').set hi x
    unfold RowAt at this ⊢
    rw [this]
    congr 3
    unfold rowC
    apply List.map_congr_left
    intro j _
    simp
  · have e1 : z.rb d' ≠ z.rb d := fun q' => q (h.inj d' d hd' hd q')
    have := h.row d' hd'
    unfold RowAt at this ⊢
    rw [e _ e1, this]
    congr 3
    unfold rowC
    apply List.map_congr_left
    intro j _
    show Value.int .i64 (due (r0 + d') j) = .int .i64 (if r0 + d' = r0 + d ∧ j = i then x else due (r0 + d') j)
    rw [if_neg (by omega)]
/-- The rows move on by a tick. -/
theorem RefAt.shift (h : RefAt n A B z a1 a2 c1 c2 t r0 st due) (hB : B ≤ A.heap.size) (db' dc' nb : Nat) (hs : A.heap.size ≤ A'.heap.size)
    (hold : ∀ b, b < A.heap.size → b ≠ z.bs → A'.heap[b]? = A.heap[b]?)
    (hbox : A'.heap[z.bs]? = some (.cells #[.slice a1 n.ps.length c1, .int .i64 n.inp, .slice a2 n.ss.length c2, .int .i64 (t : Int), .slice (some ⟨z.sb, 0, none⟩) n.ps.length n.ps.length, .slice (some ⟨db', 0, none⟩) 16 dc'] 64))
    (hdv : A'.ownsRow A.heap.size 44 1 (.slice (some ⟨db', 0, none⟩) 16 dc') 16 ((rowsV n.ps.length z.rb).drop 1 ++ [.slice (some ⟨nb, 0, none⟩) n.ps.length n.ps.length]))
    (hnb : A.heap.size ≤ nb) (hne : nb ≠ db') (hrow : RowAt A' nb n.ps.length (fun _ => 0)) (hz : ∀ i, due (r0 + 16) i = 0) :
    RefAt n A' B { z with db := db', dc := dc', rb := fun d => if d < 15 then z.rb (d + 1) else nb } a1 a2 c1 c2 t (r0 + 1) st due := by
  have hdb := (hdv.lt db' rfl).1
  have l1 := h.lt (.inl rfl : z.mut z.bs)
  have l2 := h.lt (.inr (.inl rfl) : z.mut z.sb)
  have l4 : ∀ d, d < 16 → z.rb d < A.heap.size := fun d hd => h.lt (.inr (.inr (.inr ⟨d, hd, rfl⟩)))
  have b1 := h.lo z.bs (.inl rfl)
  refine ⟨hbox, psAt_of h.ps (fun g hg => hold g (by have := h.psB g hg; omega) (by have := h.psB g hg; omega)) hs, h.psB, ssAt_of h.ss (fun g hg => hold g (by have := h.ssB g hg; omega) (by have := h.ssB g hg; omega)) hs, h.ssB, (hold _ l2 (Ne.symm h.ne1)).trans h.stb, h.len, ?_, fun d hd => ?_, fun b hb => ?_, fun d d' hd hd' e => ?_, h.ne1, ?_, ?_, fun d hd => ?_, fun d hd => ?_, fun d hd => ?_⟩
  · have e : rowsV n.ps.length (fun d => if d < 15 then z.rb (d + 1) else nb) = (rowsV n.ps.length z.rb).drop 1 ++ [.slice (some ⟨nb, 0, none⟩) n.ps.length n.ps.length] := by
      simp [rowsV, List.range_succ]
    rw [e]
    exact own_base hdv hB
  · by_cases q : d < 15
    · simp only [if_pos q]
      have hr := h.row (d + 1) (by omega)
      rw [show r0 + (d + 1) = r0 + 1 + d by omega] at hr
      exact (hold _ (l4 (d + 1) (by omega)) (fun e => h.ne4 (d + 1) (by omega) e.symm)).trans hr
    · simp only [if_neg q]
      have e15 : d = 15 := by omega
      subst e15
      unfold RowAt at hrow ⊢
      rw [hrow]
      congr 3
      unfold rowC
      apply List.map_congr_left
      intro i _
      rw [show r0 + 1 + 15 = r0 + 16 by omega, hz]
  · rcases hb with hb | hb | hb | ⟨d, hd, hb⟩
    · rw [hb]; exact b1
    · rw [hb]; exact h.lo _ (.inr (.inl rfl))
    · rw [hb]; show B ≤ db'; omega
    · rw [hb]
      show B ≤ if d < 15 then z.rb (d + 1) else nb
      by_cases q : d < 15
      · rw [if_pos q]; exact h.lo _ (.inr (.inr (.inr ⟨d + 1, by omega, rfl⟩)))
      · rw [if_neg q]; omega
  · simp only at e
    by_cases q : d < 15 <;> by_cases q' : d' < 15
    · rw [if_pos q, if_pos q'] at e
      have := h.inj _ _ (by omega) (by omega) e
      omega
    · rw [if_pos q, if_neg q'] at e
      have := l4 (d + 1) (by omega)
      omega
    · rw [if_neg q, if_pos q'] at e
      have := l4 (d' + 1) (by omega)
      omega
    · omega
  · show z.bs ≠ db'; omega
  · show z.sb ≠ db'; omega
  · show z.bs ≠ if d < 15 then z.rb (d + 1) else nb
    by_cases q : d < 15
    · rw [if_pos q]; exact h.ne4 _ (by omega)
    · rw [if_neg q]; omega
  · show z.sb ≠ if d < 15 then z.rb (d + 1) else nb
    by_cases q : d < 15
    · rw [if_pos q]; exact h.ne5 _ (by omega)
    · rw [if_neg q]; omega
  · show db' ≠ if d < 15 then z.rb (d + 1) else nb
    by_cases q : d < 15
    · rw [if_pos q]; have := l4 (d + 1) (by omega); omega
    · rw [if_neg q]; exact Ne.symm hne
end
end Go.Proofs.Ytgbcdebnanejpaa
