/- The ghost law for drawn regions, with slots that are read before the region writes them. Over any program. -/
import Derived.Test.YtnbndciididpoaaGreatDy
namespace Go.Proofs.YtnbndciididpoaaGreat
set_option linter.unusedVariables false
open Go

section
variable {P : Program} {Q : Exit → Act → World → Prop}
theorem wp_region_late {id : Nat} {a : Act} {w : World} {l : List Oper} (I : Array Bool → (Nat → Value) → World → Prop) (hm : P.follows .mixedOrders = true) (hlex : lexOkB l = true) (hdst : dstOk l = true) (hgd : l.all (fun o => o.guard.isNone) = true)
    (hI : I (Array.replicate l.length false) (fun _ => undef) { w with drawn := w.drawn + 1 })
    (hstep : ∀ (L : Array Bool) (val : Nat → Value) (W : World) (i : Nat) (o : Oper) (b : Act), L.size = l.length → l[i]? = some o → L.getD i false = false → (∀ e ∈ o.after, Region.binds .any e = true → L.getD e.on false = true) → I L val W → Has l val a (fun j => L.getD j false = true) b → (∀ t, lateT l i t = true → b.tmps.getD t undef = a.tmps.getD t undef) →
      o.wp P b W (fun a' w' => ∃ v, a' = b.put o.dst v ∧ I (L.setIfInBounds i true) (setV val i v) w') Q)
    (hdone : ∀ val w b, I (Array.replicate l.length true) val w → b = puts val l 0 a → Q .normal b w) : (Code.region id l.toArray true).wp P Q a w := by
  refine wp_region_any hm ?_
  refine wpAny_inv (fun L b W => ∃ val, b = accs L val l 0 a ∧ ClosedL l L ∧ I L val W) (fun L b W i hs hi ⟨val, hb, hC, hI⟩ => ?_) (fun L b W hs hr ⟨val, hb, _, hI⟩ => ?_) _ _ _ _ (by simp) (by simp) ⟨fun _ => undef, by simpa using (init_false).symm, ?_, by simpa using hI⟩
  · obtain ⟨h1, o, h2, h3⟩ := mem_ready.1 hi
    have ho : l[i]? = some o := by simpa using h2
    have hs' : L.size = l.length := by simpa using hs
    have hil := (List.getElem?_eq_some_iff.1 ho).1
    have hlF : L.getD i false = false := by
      have : i < L.size := by omega
      simp [this] at h1 ⊢; exact h1
    subst hb
    have hlate : ∀ t, lateT l i t = true → (accs L val l 0 a).tmps.getD t undef = a.tmps.getD t undef := fun t ht => accs_late t l 0 a fun j o' hj hd => by
      rw [Nat.zero_add]
      have h7 := List.all_eq_true.1 ht o' (List.mem_of_getElem? hj)
      simp only [hd, beq_self_eq_true, Bool.not_true, Bool.false_or, List.any_eq_true, Bool.and_eq_true, beq_iff_eq] at h7
      obtain ⟨e, he, hb, hon⟩ := h7
      cases hL : L.getD j false with
      | false => rfl
      | true => have := hC j o' hj hL e (by simpa using he) hb; rw [hon, hlF] at this; cases this
    have hC' : ClosedL l (L.setIfInBounds i true) := fun j o' hj hL e he hb => by
      have up : ∀ k, L.getD k false = true → (L.setIfInBounds i true).getD k false = true := fun k hk => by
        simp only [Array.getD_eq_getD_getElem?] at hk ⊢
        by_cases e : i = k
        · subst e; rw [Array.getElem?_setIfInBounds_self]; simp [hs', hil]
        · rw [Array.getElem?_setIfInBounds_ne e]; exact hk
      by_cases e' : i = j
      · subst e'
        rw [ho] at hj; cases hj
        exact up _ (h3 e he hb)
      · refine up _ (hC j o' hj ?_ e he hb)
        simp only [Array.getD_eq_getD_getElem?] at hL ⊢
        rw [Array.getElem?_setIfInBounds_ne e'] at hL; exact hL
    refine wpOp_mono (fun a' w' h => ?_) (wpOp_of (by simpa using ho) (by have := List.all_eq_true.1 hgd o (List.mem_of_getElem? ho); simpa using this) (hstep L val W i o _ hs' ho hlF h3 hI (ghost_has hdst) hlate))
    obtain ⟨v, h4, h5⟩ := h
    exact ⟨_, ghost_step hdst hs' ho hlF h4, hC', h5⟩
  · intro j o hj hL
    have hjl := (List.getElem?_eq_some_iff.1 hj).1
    simp [Array.getD_eq_getD_getElem?, hjl] at hL
  · have hL := all_true (m := l.length) (by simpa using hs) (all_listedB (fun i o h e he hb => lexOkB_spec hlex i o (by simpa using h) e he hb) hs hr)
    subst hL hb
    exact hdone val W _ hI (accs_all l 0 a (by omega))
end
end Go.Proofs.YtnbndciididpoaaGreat
