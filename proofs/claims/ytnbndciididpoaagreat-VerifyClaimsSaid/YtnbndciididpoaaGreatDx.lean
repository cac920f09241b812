/- The law for drawn regions with guards whose operations only read (calls may make memory): each operation once. Over any program. -/
import Derived.Test.YtnbndciididpoaaGreatDv
namespace Go.Proofs.YtnbndciididpoaaGreat
set_option linter.unusedVariables false
open Go

/-- Each guarded operation hangs, by an edge that binds, on the operation that guards it, and wt says whether it is carried out. -/
def gdOk (l : List Oper) (wt gb : Nat → Bool) : Bool := l.zipIdx.all fun x => match x.1.guard with
  | none => wt x.2
  | some (j, s) => (wt x.2 == (gb j == s)) && x.1.after.toList.any (fun e => Region.binds .any e && e.on == j) && (match l[j]? with | some o => (match o.dst with | some t => true | none => false) | none => false)
def isGd (l : List Oper) (j : Nat) : Bool := l.any fun o => match o.guard with | none => false | some (i, _) => i == j
def dstIn (l : List Oper) (m : Nat) : Bool := l.all fun o => match o.dst with | none => true | some t => decide (t < m)

section
variable {P : Program} {Q : Exit → Act → World → Prop}
theorem gd_wanted {l : List Oper} {wt gb : Nat → Bool} {val : Nat → Value} {a b : Act} {i : Nat} {o : Oper} (hgd : gdOk l wt gb = true) (hgv : ∀ j, isGd l j = true → val j = .bool (gb j)) (hsz : dstIn l a.tmps.size = true)
    (ho : l[i]? = some o) (hh : Has l val a (fun j => ∃ e ∈ o.after, Region.binds .any e = true ∧ e.on = j) b) : Region.wanted o (yielded l.toArray b.tmps) = wt i := by
  have h1 := List.all_eq_true.1 hgd (o, i) (by rw [List.mem_zipIdx_iff_getElem?]; exact ho)
  cases hg : o.guard with
  | none =>
    simp only [hg] at h1
    simp [Region.wanted, hg, h1]
  | some x =>
    obtain ⟨j, s⟩ := x
    simp only [hg, Bool.and_eq_true, List.any_eq_true, beq_iff_eq] at h1
    obtain ⟨⟨h2, e, he, hb, hj⟩, h3⟩ := h1
    have hm : o ∈ l := List.mem_of_getElem? ho
    have hgj := hgv j (List.any_eq_true.2 ⟨o, hm, by simp [hg]⟩)
    cases hl : l[j]? with
    | none => rw [hl] at h3; cases h3
    | some o1 =>
      rw [hl] at h3
      cases hd : o1.dst with
      | none => simp only [hd] at h3; cases h3
      | some t =>
        have h4 := List.all_eq_true.1 hsz o1 (List.mem_of_getElem? hl)
        simp only [hd, decide_eq_true_eq] at h4
        have h5 := hh.got j o1 t hl hd ⟨e, by simpa using he, hb, hj⟩ h4
        rw [hgj] at h5
        have h6 : b.tmps[t]? = some (.bool (gb j)) := by
          rw [Array.getD_eq_getD_getElem?] at h5
          cases h7 : b.tmps[t]? with
          | none => rw [h7] at h5; cases h5
          | some v => rw [h7] at h5; simp at h5; rw [h5]
        have h8 : yielded l.toArray b.tmps j = some (gb j) := by
          unfold yielded
          simp [hl, hd, h6]
        simp only [Region.wanted, hg]
        rw [h8, h2]
        cases gb j <;> cases s <;> rfl

/-- Each operation comes to its own value, whatever the order; those that are not wanted leave nothing. -/
theorem wp_region_reads {id : Nat} {a : Act} {w : World} {l : List Oper} (val : Nat → Value) (wt gb : Nat → Bool) (I : World → Prop) (hm : P.follows .mixedOrders = true) (hlex : lexOkB l = true) (hdst : dstOk l = true)
    (hgd : gdOk l wt gb = true) (hsz : dstIn l a.tmps.size = true) (hgv : ∀ j, isGd l j = true → val j = .bool (gb j)) (hun : ∀ i, i < l.length → wt i = false → val i = undef)
    (hI : I { w with drawn := w.drawn + 1 })
    (hstep : ∀ (W : World) (i : Nat) (o : Oper) (b : Act), l[i]? = some o → wt i = true → I W → Has l val a (fun j => ∃ e ∈ o.after, Region.binds .any e = true ∧ e.on = j) b →
      o.wp P b W (fun a' w' => a' = b.put o.dst (val i) ∧ I w') Q)
    (hdone : ∀ w b, I w → b = puts val l 0 a → Q .normal b w) : (Code.region id l.toArray true).wp P Q a w := by
  refine wp_region_any hm ?_
  refine wpAny_inv (fun L b W => b = accs L val l 0 a ∧ I W) (fun L b W i hs hi ⟨hb, hI⟩ => ?_) (fun L b W hs hr ⟨hb, hI⟩ => ?_) _ _ _ _ (by simp) (by simp) ⟨by simpa using (init_false).symm, hI⟩
  · obtain ⟨h1, o, h2, h3⟩ := mem_ready.1 hi
    have ho : l[i]? = some o := by simpa using h2
    have hs' : L.size = l.length := by simpa using hs
    have hil := (List.getElem?_eq_some_iff.1 ho).1
    have hlF : L.getD i false = false := by
      have : i < L.size := by omega
      simp [this] at h1 ⊢; exact h1
    subst hb
    have hh : Has l val a (fun j => ∃ e ∈ o.after, Region.binds .any e = true ∧ e.on = j) (accs L val l 0 a) :=
      ⟨fun j o1 t h1 h2 h5 h4 => by obtain ⟨e, he, hb, rfl⟩ := h5; exact (ghost_has hdst).got _ o1 t h1 h2 (h3 e he hb) h4, (ghost_has (L := L) (val := val) (a := a) hdst).kept, (ghost_has (L := L) (val := val) (a := a) hdst).defers⟩
    have hst : ∀ v, v = val i → (accs L val l 0 a).put o.dst v = accs (L.setIfInBounds i true) val l 0 a := fun v hv => by
      have := ghost_step (L := L) (val := val) (a := a) hdst hs' ho hlF (v := v) rfl
      rw [this]
      exact accs_vals _ _ _ fun j _ hj => by unfold setV; split
                                             · rename_i hji; rw [hji, hv]
                                             · rfl
    have hw := gd_wanted hgd hgv hsz ho hh
    unfold wpOp
    have ho' : l.toArray[i]? = some o := by simpa using ho
    simp only [ho']
    rw [hw]
    cases hwt : wt i with
    | false =>
      rw [if_neg (by simp)]
      exact ⟨hst _ (hun i hil hwt).symm, hI⟩
    | true =>
      rw [if_pos rfl]
      exact Or.inl (Oper.wp_mono (fun a' w' h => ⟨by rw [h.1]; exact hst _ rfl, h.2⟩) (hstep W i o _ ho hwt hI hh))
  · have hL := all_true (m := l.length) (by simpa using hs) (all_listedB (fun i o h e he hb => lexOkB_spec hlex i o (by simpa using h) e he hb) hs hr)
    subst hL hb
    exact hdone W _ hI (accs_all l 0 a (by omega))
end
end Go.Proofs.YtnbndciididpoaaGreat
