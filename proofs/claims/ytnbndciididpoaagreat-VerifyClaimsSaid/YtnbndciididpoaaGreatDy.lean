/- The law for drawn regions with guards whose operations come to fixed values; slots that are read before they are written. Over any program. -/
import Derived.Test.YtnbndciididpoaaGreatDx
namespace Go.Proofs.YtnbndciididpoaaGreat
set_option linter.unusedVariables false
open Go

/-- Every operation that writes the slot t waits for operation i. -/
def lateT (l : List Oper) (i t : Nat) : Bool := l.all fun o => !(o.dst == some t) || o.after.toList.any (fun e => Region.binds .any e && e.on == i)
/-- What has been carried out holds all that it waits for. -/
def ClosedL (l : List Oper) (L : Array Bool) : Prop := ∀ j o, l[j]? = some o → L.getD j false = true → ∀ e ∈ o.after, Region.binds .any e = true → L.getD e.on false = true
theorem accs_late {L : Array Bool} {val : Nat → Value} (t : Nat) : ∀ (l : List Oper) (k : Nat) (a : Act), (∀ j o, l[j]? = some o → o.dst = some t → L.getD (k + j) false = false) → (accs L val l k a).tmps.getD t undef = a.tmps.getD t undef
  | [], _, _, _ => rfl
  | o :: r, k, a, h => by
    unfold accs
    rw [accs_late t r (k + 1) _ fun j o' h1 h2 => by have := h (j + 1) o' (by simpa using h1) h2; rw [← this]; congr 1; omega]
    split
    · rename_i hL
      cases hd : o.dst with
      | none => rfl
      | some d =>
        rw [put_get, if_neg]
        rintro ⟨rfl, _⟩
        have := h 0 o (by simp) hd
        rw [Nat.add_zero, hL] at this
        cases this
    · rfl

section
variable {P : Program} {Q : Exit → Act → World → Prop}
theorem wp_region_fix {id : Nat} {a : Act} {w : World} {l : List Oper} (val : Nat → Value) (wt gb : Nat → Bool) (I : Array Bool → World → Prop) (hm : P.follows .mixedOrders = true) (hlex : lexOkB l = true) (hdst : dstOk l = true)
    (hgd : gdOk l wt gb = true) (hsz : dstIn l a.tmps.size = true) (hgv : ∀ j, isGd l j = true → val j = .bool (gb j)) (hun : ∀ i, i < l.length → wt i = false → val i = undef)
    (hI : I (Array.replicate l.length false) { w with drawn := w.drawn + 1 }) (hskip : ∀ L W i, wt i = false → I L W → I (L.setIfInBounds i true) W)
    (hstep : ∀ (L : Array Bool) (W : World) (i : Nat) (o : Oper) (b : Act), L.size = l.length → l[i]? = some o → wt i = true → L.getD i false = false → ClosedL l L → (∀ e ∈ o.after, Region.binds .any e = true → L.getD e.on false = true) → I L W →
      Has l val a (fun j => ∃ e ∈ o.after, Region.binds .any e = true ∧ e.on = j) b → (∀ t, lateT l i t = true → b.tmps.getD t undef = a.tmps.getD t undef) →
      o.wp P b W (fun a' w' => a' = b.put o.dst (val i) ∧ I (L.setIfInBounds i true) w') Q)
    (hdone : ∀ w b, I (Array.replicate l.length true) w → b = puts val l 0 a → Q .normal b w) : (Code.region id l.toArray true).wp P Q a w := by
  refine wp_region_any hm ?_
  refine wpAny_inv (fun L b W => b = accs L val l 0 a ∧ ClosedL l L ∧ I L W) (fun L b W i hs hi ⟨hb, hC, hI⟩ => ?_) (fun L b W hs hr ⟨hb, _, hI⟩ => ?_) _ _ _ _ (by simp) (by simp) ⟨by simpa using (init_false).symm, ?_, by simpa using hI⟩
  · obtain ⟨h1, o, h2, h3⟩ := mem_ready.1 hi
    have ho : l[i]? = some o := by simpa using h2
    have hs' : L.size = l.length := by simpa using hs
    have hil := (List.getElem?_eq_some_iff.1 ho).1
    have hlF : L.getD i false = false := by
      have : i < L.size := by omega
      simp [this] at h1 ⊢; exact h1
    subst hb
    have hh : Has l val a (fun j => ∃ e ∈ o.after, Region.binds .any e = true ∧ e.on = j) (accs L val l 0 a) :=
      ⟨fun j o1 t h1 h2 h5 h4 => by obtain ⟨e, he, hb, rfl⟩ := h5; exact (ghost_has hdst).got _ o1 t h1 h2 (h3 e he hb) h4, (ghost_has (L := L) (val := val) (a := a) hdst).kept, (ghost_has (L := L) (val := val) (a := a) hdst).defers⟩
    have hst : ∀ v, v = val i → (accs L val l 0 a).put o.dst v = accs (L.setIfInBounds i true) val l 0 a := fun v hv => by
      have := ghost_step (L := L) (val := val) (a := a) hdst hs' ho hlF (v := v) rfl
      rw [this]
      exact accs_vals _ _ _ fun j _ hj => by unfold setV; split
                                             · rename_i hji; rw [hji, hv]
                                             · rfl
    have hC' : ClosedL l (L.setIfInBounds i true) := fun j o' hj hL e he hb => by
      have up : ∀ k, L.getD k false = true → (L.setIfInBounds i true).getD k false = true := fun k hk => by
        simp only [Array.getD_eq_getD_getElem?] at hk ⊢
        by_cases e : i = k
        · subst e; rw [Array.getElem?_setIfInBounds_self]; simp [hs', hil]
        · rw [Array.getElem?_setIfInBounds_ne e]; exact hk
      by_cases e' : i = j
      · subst e'
        rw [ho] at hj; cases hj
        exact up _ (h3 e he hb)
      · refine up _ (hC j o' hj ?_ e he hb)
        simp only [Array.getD_eq_getD_getElem?] at hL ⊢
        rw [Array.getElem?_setIfInBounds_ne e'] at hL; exact hL
    have hlate : ∀ t, lateT l i t = true → (accs L val l 0 a).tmps.getD t undef = a.tmps.getD t undef := fun t ht => accs_late t l 0 a fun j o' hj hd => by
      rw [Nat.zero_add]
      have h7 := List.all_eq_true.1 ht o' (List.mem_of_getElem? hj)
      simp only [hd, beq_self_eq_true, Bool.not_true, Bool.false_or, List.any_eq_true, Bool.and_eq_true, beq_iff_eq] at h7
      obtain ⟨e, he, hb, hon⟩ := h7
      cases hL : L.getD j false with
      | false => rfl
      | true => have := hC j o' hj hL e (by simpa using he) hb; rw [hon, hlF] at this; cases this
    have hw := gd_wanted hgd hgv hsz ho hh
    unfold wpOp
    have ho' : l.toArray[i]? = some o := by simpa using ho
    simp only [ho']
    rw [hw]
    cases hwt : wt i with
    | false =>
      rw [if_neg (by simp)]
      exact ⟨hst _ (hun i hil hwt).symm, hC', hskip _ _ _ hwt hI⟩
    | true =>
      rw [if_pos rfl]
      exact Or.inl (Oper.wp_mono (fun a' w' h => ⟨by rw [h.1]; exact hst _ rfl, hC', h.2⟩) (hstep L W i o _ hs' ho hwt hlF hC h3 hI hh hlate))
  · intro j o hj hL
    have hjl := (List.getElem?_eq_some_iff.1 hj).1
    simp [Array.getD_eq_getD_getElem?, hjl] at hL
  · have hL := all_true (m := l.length) (by simpa using hs) (all_listedB (fun i o h e he hb => lexOkB_spec hlex i o (by simpa using h) e he hb) hs hr)
    subst hL hb
    exact hdone W _ hI (accs_all l 0 a (by omega))

/-- An operation that waits for all before it is not carried out as long as one of them is not. -/
def lastAll (l : List Oper) (c : Nat) : Bool := match l[c]? with
  | none => false
  | some o => (List.range c).all fun i => o.after.toList.any fun e => Region.binds .any e && e.on == i
theorem last_first {l : List Oper} {c i : Nat} {L : Array Bool} (hl : lastAll l c = true) (hC : ClosedL l L) (hi : i < c) (hlF : L.getD i false = false) : L.getD c false = false := by
  unfold lastAll at hl
  cases ho : l[c]? with
  | none => rw [ho] at hl; cases hl
  | some o =>
    rw [ho] at hl
    have h1 := List.all_eq_true.1 hl i (by simpa using hi)
    simp only [List.any_eq_true, Bool.and_eq_true, beq_iff_eq] at h1
    obtain ⟨e, he, hb, hon⟩ := h1
    cases hL : L.getD c false with
    | false => rfl
    | true => have := hC c o ho hL e (by simpa using he) hb; rw [hon, hlF] at this; cases this

/-- Every operation behind c waits for one from c on. -/
def afterC (l : List Oper) (c : Nat) : Bool := l.zipIdx.all fun x => decide (x.2 ≤ c) || x.1.after.toList.any fun e => Region.binds .any e && decide (c ≤ e.on)
theorem after_closed {l : List Oper} {c : Nat} {L : Array Bool} (hl : afterC l c = true) (hlex : lexOkB l = true) (hC : ClosedL l L) (hcF : L.getD c false = false) : ∀ j, c ≤ j → j < l.length → L.getD j false = false := by
  intro j
  induction j using Nat.strongRecOn with
  | ind j ih =>
    intro hcj hj
    by_cases e : j = c
    · rw [e]; exact hcF
    · have ho : l[j]? = some l[j] := by simp [hj]
      have h1 := List.all_eq_true.1 hl (l[j], j) (by rw [List.mem_zipIdx_iff_getElem?]; exact ho)
      simp only [Bool.or_eq_true, decide_eq_true_eq, List.any_eq_true, Bool.and_eq_true] at h1
      rcases h1 with h1 | ⟨e', he, hb, hon⟩
      · omega
      · cases hL : L.getD j false with
        | false => rfl
        | true =>
          have h2 := hC j _ ho hL e' (by simpa using he) hb
          have h3 := lexOkB_spec hlex j _ ho e' (by simpa using he) hb
          rw [ih e'.on h3 hon (by omega)] at h2
          cases h2

/-- One operation, c, makes memory and comes to a value that hangs on the run; all others only read. -/
theorem wp_region_one {id : Nat} {a : Act} {w : World} {l : List Oper} (c : Nat) (K : Value → Nat → Value) (I0 : World → Prop) (I1 : Value → World → Prop) (hm : P.follows .mixedOrders = true) (hlex : lexOkB l = true) (hdst : dstOk l = true)
    (hgd : l.all (fun o => o.guard.isNone) = true) (haf : afterC l c = true) (hcl : c < l.length) (hK : ∀ v v' i, i < c → K v i = K v' i)
    (hI : I0 { w with drawn := w.drawn + 1 })
    (hcall : ∀ (v : Value) (W : World) (o : Oper) (b : Act), l[c]? = some o → I0 W → Has l (K v) a (fun j => ∃ e ∈ o.after, Region.binds .any e = true ∧ e.on = j) b → o.wp P b W (fun a' w' => ∃ v', a' = b.put o.dst (K v' c) ∧ I1 v' w') Q)
    (hstep : ∀ (L : Array Bool) (v : Value) (W : World) (i : Nat) (o : Oper) (b : Act), l[i]? = some o → i ≠ c → (c < i → L.getD c false = true) → (L.getD c false = false → I0 W) → (L.getD c false = true → I1 v W) →
      Has l (K v) a (fun j => ∃ e ∈ o.after, Region.binds .any e = true ∧ e.on = j) b → (∀ t, lateT l i t = true → b.tmps.getD t undef = a.tmps.getD t undef) →
      o.wp P b W (fun a' w' => a' = b.put o.dst (K v i) ∧ w' = W) Q)
    (hdone : ∀ v w b, I1 v w → b = puts (K v) l 0 a → Q .normal b w) : (Code.region id l.toArray true).wp P Q a w := by
  refine wp_region_any hm ?_
  refine wpAny_inv (fun L b W => ClosedL l L ∧ ∃ v, b = accs L (K v) l 0 a ∧ (L.getD c false = false → I0 W) ∧ (L.getD c false = true → I1 v W)) (fun L b W i hs hi ⟨hC, v, hb, hI0, hI1⟩ => ?_) (fun L b W hs hr ⟨_, v, hb, _, hI1⟩ => ?_) _ _ _ _ (by simp) (by simp) ⟨?_, undef, by simpa using (init_false).symm, fun _ => by simpa using hI, fun h => ?_⟩
  · obtain ⟨h1, o, h2, h3⟩ := mem_ready.1 hi
    have ho : l[i]? = some o := by simpa using h2
    have hs' : L.size = l.length := by simpa using hs
    have hil := (List.getElem?_eq_some_iff.1 ho).1
    have hlF : L.getD i false = false := by
      have : i < L.size := by omega
      simp [this] at h1 ⊢; exact h1
    subst hb
    have hh : Has l (K v) a (fun j => ∃ e ∈ o.after, Region.binds .any e = true ∧ e.on = j) (accs L (K v) l 0 a) :=
      ⟨fun j o1 t h1 h2 h5 h4 => by obtain ⟨e, he, hb, rfl⟩ := h5; exact (ghost_has hdst).got _ o1 t h1 h2 (h3 e he hb) h4, (ghost_has (L := L) (val := K v) (a := a) hdst).kept, (ghost_has (L := L) (val := K v) (a := a) hdst).defers⟩
    have up : ∀ k, L.getD k false = true → (L.setIfInBounds i true).getD k false = true := fun k hk => by
      simp only [Array.getD_eq_getD_getElem?] at hk ⊢
      by_cases e : i = k
      · subst e; rw [Array.getElem?_setIfInBounds_self]; simp [hs', hil]
      · rw [Array.getElem?_setIfInBounds_ne e]; exact hk
    have same : ∀ k, i ≠ k → (L.setIfInBounds i true).getD k false = L.getD k false := fun k hk => by
      simp only [Array.getD_eq_getD_getElem?]; rw [Array.getElem?_setIfInBounds_ne hk]
    have hC' : ClosedL l (L.setIfInBounds i true) := fun j o' hj hL e he hb => by
      by_cases e' : i = j
      · subst e'
        rw [ho] at hj; cases hj
        exact up _ (h3 e he hb)
      · rw [same j e'] at hL
        exact up _ (hC j o' hj hL e he hb)
    have hlate : ∀ t, lateT l i t = true → (accs L (K v) l 0 a).tmps.getD t undef = a.tmps.getD t undef := fun t ht => accs_late t l 0 a fun j o' hj hd => by
      rw [Nat.zero_add]
      have h7 := List.all_eq_true.1 ht o' (List.mem_of_getElem? hj)
      simp only [hd, beq_self_eq_true, Bool.not_true, Bool.false_or, List.any_eq_true, Bool.and_eq_true, beq_iff_eq] at h7
      obtain ⟨e, he, hb, hon⟩ := h7
      cases hL : L.getD j false with
      | false => rfl
      | true => have := hC j o' hj hL e (by simpa using he) hb; rw [hon, hlF] at this; cases this
    refine wpOp_mono (fun a' w' h => ?_) (K := fun a' w' => (i = c ∧ ∃ v', a' = (accs L (K v) l 0 a).put o.dst (K v' c) ∧ I1 v' w') ∨ (i ≠ c ∧ a' = (accs L (K v) l 0 a).put o.dst (K v i) ∧ w' = W)) (wpOp_of (by simpa using ho) (by have := List.all_eq_true.1 hgd o (List.mem_of_getElem? ho); simpa using this) ?_)
    · rcases h with ⟨rfl, v', h4, h5⟩ | ⟨hne, h4, rfl⟩
      · refine ⟨hC', v', ?_, fun h => ?_, fun _ => h5⟩
        · rw [ghost_step hdst hs' ho hlF h4]
          exact accs_vals _ _ _ fun j _ hj => by
            unfold setV
            split
            · rename_i e; rw [e]
            · rename_i e
              refine hK _ _ _ ?_
              rw [same j (fun h => e h.symm)] at hj
              rcases Nat.lt_or_ge j i with h | h
              · exact h
              · rcases Nat.lt_or_ge j l.length with h8 | h8
                · rw [after_closed haf hlex hC hlF j h h8] at hj; cases hj
                · rw [Array.getD_eq_getD_getElem?, Array.getElem?_eq_none (by omega)] at hj; cases hj
        · rw [Array.getD_eq_getD_getElem?, Array.getElem?_setIfInBounds_self] at h; simp [hs', hil] at h
      · refine ⟨hC', v, ?_, fun h => hI0 (by rw [same c hne] at h; exact h), fun h => hI1 (by rw [same c hne] at h; exact h)⟩
        rw [ghost_step hdst hs' ho hlF h4]
        exact accs_vals _ _ _ fun j _ hj => by unfold setV; split
                                               · rename_i e; rw [e]
                                               · rfl
    · by_cases e : i = c
      · subst e
        exact Oper.wp_mono (fun a' w' h => .inl ⟨rfl, h⟩) (hcall v W o _ ho (hI0 hlF) hh)
      · refine Oper.wp_mono (fun a' w' h => .inr ⟨e, h⟩) (hstep L v W i o _ ho e (fun hci => ?_) hI0 hI1 hh hlate)
        cases hL : L.getD c false with
        | true => rfl
        | false =>
          exfalso
          have h9 := List.all_eq_true.1 haf (o, i) (by rw [List.mem_zipIdx_iff_getElem?]; exact ho)
          simp only [Bool.or_eq_true, decide_eq_true_eq, List.any_eq_true, Bool.and_eq_true] at h9
          rcases h9 with h9 | ⟨e', he, hb, hon⟩
          · omega
          · have h10 := h3 e' (by simpa using he) hb
            have h11 := lexOkB_spec hlex i o ho e' (by simpa using he) hb
            rw [after_closed haf hlex hC hL e'.on hon (by omega)] at h10
            cases h10
  · intro j o hj hL
    have hjl := (List.getElem?_eq_some_iff.1 hj).1
    simp [Array.getD_eq_getD_getElem?, hjl] at hL
  · simp [Array.getD_eq_getD_getElem?, hcl] at h
  · have hL := all_true (m := l.length) (by simpa using hs) (all_listedB (fun i o h e he hb => lexOkB_spec hlex i o (by simpa using h) e he hb) hs hr)
    subst hL hb
    exact hdone v W _ (hI1 (by simp [Array.getD_eq_getD_getElem?, hcl])) (accs_all l 0 a (by omega))
end
end Go.Proofs.YtnbndciididpoaaGreat
