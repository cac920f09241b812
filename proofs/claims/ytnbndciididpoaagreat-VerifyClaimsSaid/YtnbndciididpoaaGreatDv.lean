/- The laws for drawn regions with ghost values: what an operation leaves may hang on the run. Over any program. -/
import Derived.Test.YtnbndciididpoaaGreatDw
namespace Go.Proofs.YtnbndciididpoaaGreat
set_option linter.unusedVariables false
open Go

def setV (val : Nat → Value) (i : Nat) (v : Value) : Nat → Value := fun j => if j = i then v else val j
theorem accs_vals {L : Array Bool} {val val' : Nat → Value} : ∀ (l : List Oper) (k : Nat) (a : Act), (∀ j, k ≤ j → L.getD j false = true → val j = val' j) → accs L val l k a = accs L val' l k a
  | [], _, _, _ => rfl
  | o :: r, k, a, h => by
    unfold accs
    by_cases hL : L.getD k false = true
    · rw [if_pos hL, if_pos hL, h k (Nat.le_refl _) hL, accs_vals r (k + 1) _ fun j hj => h j (by omega)]
    · rw [if_neg hL, if_neg hL, accs_vals r (k + 1) _ fun j hj => h j (by omega)]

section
variable {F : Fence} {n : Nat} {P : Program} {md : Region.Mode} {ops : Array Oper} {Q : Exit → Act → World → Prop}
theorem wpAny_inv (J : Array Bool → Act → World → Prop)
    (hstep : ∀ listed a w i, listed.size = ops.size → i ∈ Region.ready md ops listed → J listed a w → wpOp P ops Q i (J (listed.setIfInBounds i true)) a w)
    (hdone : ∀ listed a w, listed.size = ops.size → Region.ready md ops listed = [] → J listed a w → Q .normal a w) :
    ∀ fuel listed a w, listed.size = ops.size → listed.toList.count false ≤ fuel → J listed a w → wpAny P md ops Q fuel listed a w := by
  intro fuel
  induction fuel with
  | zero =>
    intro listed a w hs hc hI
    have hr : Region.ready md ops listed = [] := by
      rw [List.eq_nil_iff_forall_not_mem]
      intro i hi
      have := count_listed (ready_false hi).2
      omega
    exact ⟨hr, hdone listed a w hs hr hI⟩
  | succ fuel ih =>
    intro listed a w hs hc hI
    refine ⟨fun hr => hdone listed a w hs hr hI, fun i hi => wpOp_mono (fun a' w' h => ?_) (hstep listed a w i hs hi hI)⟩
    have := count_listed (ready_false hi).2
    exact ih _ _ _ (by simpa using hs) (by omega) h
theorem wpAnyIn_inv (J : Array Bool → Act → World → Prop)
    (hstep : ∀ listed a w i, listed.size = ops.size → i ∈ Region.ready md ops listed → J listed a w → wpOpIn F n P ops Q i (J (listed.setIfInBounds i true)) a w)
    (hdone : ∀ listed a w, listed.size = ops.size → Region.ready md ops listed = [] → J listed a w → Q .normal a w) :
    ∀ fuel listed a w, listed.size = ops.size → listed.toList.count false ≤ fuel → J listed a w → wpAnyIn F n P md ops Q fuel listed a w := by
  intro fuel
  induction fuel with
  | zero =>
    intro listed a w hs hc hI
    have hr : Region.ready md ops listed = [] := by
      rw [List.eq_nil_iff_forall_not_mem]
      intro i hi
      have := count_listed (ready_false hi).2
      omega
    exact ⟨hr, hdone listed a w hs hr hI⟩
  | succ fuel ih =>
    intro listed a w hs hc hI
    refine ⟨fun hr => hdone listed a w hs hr hI, fun i hi => wpOpIn_mono (fun a' w' h => ?_) (hstep listed a w i hs hi hI)⟩
    have := count_listed (ready_false hi).2
    exact ih _ _ _ (by simpa using hs) (by omega) h
end

/-- Each operation waits for earlier ones alone, where an edge binds at all. -/
def lexOkB (l : List Oper) : Bool := l.zipIdx.all fun x => x.1.after.toList.all fun e => !Region.binds .any e || decide (e.on < x.2)
theorem lexOkB_spec {l : List Oper} (h : lexOkB l = true) : ∀ (i : Nat) (o : Oper), l[i]? = some o → ∀ e ∈ o.after, Region.binds .any e = true → e.on < i := by
  intro i o ho e he hb
  have h1 := List.all_eq_true.1 h (o, i) (by rw [List.mem_zipIdx_iff_getElem?]; exact ho)
  have h2 := List.all_eq_true.1 h1 e (by simpa using he)
  simpa [hb] using h2
theorem all_listedB {ops : Array Oper} (hlex : ∀ (i : Nat) (o : Oper), ops[i]? = some o → ∀ e ∈ o.after, Region.binds .any e = true → e.on < i) {listed : Array Bool} (hs : listed.size = ops.size) (hr : Region.ready .any ops listed = []) : ∀ i, i < listed.size → listed.getD i false = true := by
  intro i
  induction i using Nat.strongRecOn with
  | ind i ih =>
    intro hi
    by_cases h : listed.getD i false = true
    · exact h
    · exfalso
      obtain ⟨o, ho⟩ : ∃ o, ops[i]? = some o := ⟨_, Array.getElem?_eq_getElem (by omega)⟩
      have : i ∈ Region.ready .any ops listed := by
        rw [mem_ready]
        refine ⟨?_, o, ho, fun e he hb => ih e.on (hlex i o ho e he hb) (by have := hlex i o ho e he hb; omega)⟩
        simp [hi] at h ⊢
        exact h
      rw [hr] at this
      cases this

section
variable {F : Fence} {n : Nat} {P : Program} {Q : Exit → Act → World → Prop}
theorem ghost_step {l : List Oper} {L : Array Bool} {val : Nat → Value} {a a' : Act} {i : Nat} {o : Oper} {v : Value} (hdst : dstOk l = true) (hs : L.size = l.length) (ho : l[i]? = some o) (hlF : L.getD i false = false) (h : a' = (accs L val l 0 a).put o.dst v) :
    a' = accs (L.setIfInBounds i true) (setV val i v) l 0 a := by
  have hi := (List.getElem?_eq_some_iff.1 ho).1
  have := accs_set (L := L) (val := setV val i v) l 0 a i o ho (by simpa using hlF) (by omega) (fun j' o' h2 h3 => dstOk_spec hdst h2 ho (by omega))
  simp only [Nat.zero_add] at this
  rw [this, h]
  rw [accs_vals (val := val) (val' := setV val i v) l 0 a fun j _ hj => by
    unfold setV; rw [if_neg]; rintro rfl; rw [hlF] at hj; cases hj]
  congr 1
  unfold setV; rw [if_pos rfl]
theorem ghost_has {l : List Oper} {L : Array Bool} {val : Nat → Value} {a : Act} (hdst : dstOk l = true) : Has l val a (fun j => L.getD j false = true) (accs L val l 0 a) := by
  refine ⟨fun j o1 t h1 h2 h3 h4 => ?_, fun t h => accs_keep t l 0 a h, accs_defers l 0 a⟩
  have := accs_get (L := L) (val := val) t l 0 a j o1 h1 h2 (by simpa using h3) h4 (fun j' o' h5 h6 => by
    rcases dstOk_spec hdst h5 h1 (by omega) with h7 | h7
    · rw [h7]; simp
    · rw [h2] at h7; exact h7)
  simpa using this
theorem init_false {l : List Oper} {val : Nat → Value} {a : Act} : accs (Array.replicate l.length false) val l 0 a = a :=
  accs_none (by intro i; simp [Array.getD_eq_getD_getElem?, Array.getElem?_replicate]; split <;> rfl) l 0 a

/-- Each operation adds a value; the invariant speaks of the operations carried out, of their values, of the world. -/
theorem wp_region_ghost {id : Nat} {a : Act} {w : World} {l : List Oper} (I : Array Bool → (Nat → Value) → World → Prop) (hm : P.follows .mixedOrders = true) (hlex : lexOkB l = true) (hdst : dstOk l = true) (hgd : l.all (fun o => o.guard.isNone) = true)
    (hI : I (Array.replicate l.length false) (fun _ => undef) { w with drawn := w.drawn + 1 })
    (hstep : ∀ (L : Array Bool) (val : Nat → Value) (W : World) (i : Nat) (o : Oper) (b : Act), L.size = l.length → l[i]? = some o → L.getD i false = false → (∀ e ∈ o.after, Region.binds .any e = true → L.getD e.on false = true) → I L val W → Has l val a (fun j => L.getD j false = true) b →
      o.wp P b W (fun a' w' => ∃ v, a' = b.put o.dst v ∧ I (L.setIfInBounds i true) (setV val i v) w') Q)
    (hdone : ∀ val w b, I (Array.replicate l.length true) val w → Has l val a (fun _ => True) b → b.tmps.size = a.tmps.size → Q .normal b w) : (Code.region id l.toArray true).wp P Q a w := by
  refine wp_region_any hm ?_
  refine wpAny_inv (fun L b W => ∃ val, b = accs L val l 0 a ∧ I L val W) (fun L b W i hs hi ⟨val, hb, hI⟩ => ?_) (fun L b W hs hr ⟨val, hb, hI⟩ => ?_) _ _ _ _ (by simp) (by simp) ⟨fun _ => undef, by simpa using (init_false).symm, by simpa using hI⟩
  · obtain ⟨h1, o, h2, h3⟩ := mem_ready.1 hi
    have ho : l[i]? = some o := by simpa using h2
    have hs' : L.size = l.length := by simpa using hs
    have hil := (List.getElem?_eq_some_iff.1 ho).1
    have hlF : L.getD i false = false := by
      have : i < L.size := by omega
      simp [this] at h1 ⊢; exact h1
    subst hb
    refine wpOp_mono (fun a' w' h => ?_) (wpOp_of (by simpa using ho) (by have := List.all_eq_true.1 hgd o (List.mem_of_getElem? ho); simpa using this) (hstep L val W i o _ hs' ho hlF h3 hI (ghost_has hdst)))
    obtain ⟨v, h4, h5⟩ := h
    exact ⟨_, ghost_step hdst hs' ho hlF h4, h5⟩
  · have hL := all_true (m := l.length) (by simpa using hs) (all_listedB (fun i o h e he hb => lexOkB_spec hlex i o (by simpa using h) e he hb) hs hr)
    subst hL hb
    refine hdone val W _ hI ⟨fun j o t h1 h2 _ h4 => (ghost_has hdst).got j o t h1 h2 (by have := (List.getElem?_eq_some_iff.1 h1).1; simp [this]) h4, (ghost_has hdst).kept, (ghost_has hdst).defers⟩ (accs_size l 0 a)
theorem wpIn_region_ghost {id : Nat} {a : Act} {w : World} {l : List Oper} (I : Array Bool → (Nat → Value) → World → Prop) (hm : P.follows .mixedOrders = true) (hlex : lexOkB l = true) (hdst : dstOk l = true) (hgd : l.all (fun o => o.guard.isNone) = true)
    (hI : I (Array.replicate l.length false) (fun _ => undef) { w with drawn := w.drawn + 1 })
    (hstep : ∀ (L : Array Bool) (val : Nat → Value) (W : World) (i : Nat) (o : Oper) (b : Act), L.size = l.length → l[i]? = some o → L.getD i false = false → (∀ e ∈ o.after, Region.binds .any e = true → L.getD e.on false = true) → I L val W → Has l val a (fun j => L.getD j false = true) b →
      o.wpIn F n P b W (fun a' w' => ∃ v, a' = b.put o.dst v ∧ I (L.setIfInBounds i true) (setV val i v) w') Q)
    (hdone : ∀ val w b, I (Array.replicate l.length true) val w → Has l val a (fun _ => True) b → b.tmps.size = a.tmps.size → Q .normal b w) : (Code.region id l.toArray true).wpIn F n P Q a w := by
  refine wpIn_region_any hm ?_
  refine wpAnyIn_inv (fun L b W => ∃ val, b = accs L val l 0 a ∧ I L val W) (fun L b W i hs hi ⟨val, hb, hI⟩ => ?_) (fun L b W hs hr ⟨val, hb, hI⟩ => ?_) _ _ _ _ (by simp) (by simp) ⟨fun _ => undef, by simpa using (init_false).symm, by simpa using hI⟩
  · obtain ⟨h1, o, h2, h3⟩ := mem_ready.1 hi
    have ho : l[i]? = some o := by simpa using h2
    have hs' : L.size = l.length := by simpa using hs
    have hil := (List.getElem?_eq_some_iff.1 ho).1
    have hlF : L.getD i false = false := by
      have : i < L.size := by omega
      simp [this] at h1 ⊢; exact h1
    subst hb
    refine wpOpIn_mono (fun a' w' h => ?_) (wpOpIn_of (by simpa using ho) (by have := List.all_eq_true.1 hgd o (List.mem_of_getElem? ho); simpa using this) (hstep L val W i o _ hs' ho hlF h3 hI (ghost_has hdst)))
    obtain ⟨v, h4, h5⟩ := h
    exact ⟨_, ghost_step hdst hs' ho hlF h4, h5⟩
  · have hL := all_true (m := l.length) (by simpa using hs) (all_listedB (fun i o h e he hb => lexOkB_spec hlex i o (by simpa using h) e he hb) hs hr)
    subst hL hb
    refine hdone val W _ hI ⟨fun j o t h1 h2 _ h4 => (ghost_has hdst).got j o t h1 h2 (by have := (List.getElem?_eq_some_iff.1 h1).1; simp [this]) h4, (ghost_has hdst).kept, (ghost_has hdst).defers⟩ (accs_size l 0 a)
/-- The frame behind a region, operation by operation. -/
def puts (val : Nat → Value) : List Oper → Nat → Act → Act
  | [], _, a => a
  | o :: r, i, a => puts val r (i + 1) (a.put o.dst (val i))
theorem accs_all {val : Nat → Value} {N : Nat} : ∀ (l : List Oper) (k : Nat) (a : Act), k + l.length ≤ N → accs (Array.replicate N true) val l k a = puts val l k a
  | [], _, _, _ => rfl
  | o :: r, k, a, h => by
    simp only [List.length_cons] at h
    unfold accs puts
    have hk : k < N := by omega
    rw [if_pos (by simp [Array.getD_eq_getD_getElem?, hk]), accs_all r (k + 1) _ (by omega)]
theorem has_all {l : List Oper} {val : Nat → Value} {a b : Act} (hdst : dstOk l = true) (hh : Has l val a (fun _ => True) b) (hs : b.tmps.size = a.tmps.size) : b = puts val l 0 a := by
  rw [← accs_all (N := l.length) l 0 a (by omega)]
  have h2 : Has l val a (fun j => (Array.replicate l.length true).getD j false = true) (accs (Array.replicate l.length true) val l 0 a) := ghost_has hdst
  obtain ⟨tb, db⟩ := b
  have hd1 := hh.defers
  have hd2 := h2.defers
  have hz := accs_size (L := Array.replicate l.length true) (val := val) l 0 a
  generalize accs (Array.replicate l.length true) val l 0 a = c at *
  obtain ⟨tc, dc⟩ := c
  change tb.size = a.tmps.size at hs
  change tc.size = a.tmps.size at hz
  change db = _ at hd1
  change dc = _ at hd2
  rw [hd1, hd2]
  congr 1
  apply Array.ext (hs.trans hz.symm)
  intro i g1 g2
  have g3 : i < a.tmps.size := hs ▸ g1
  by_cases q : ∃ (j : Nat) (o : Oper), l[j]? = some o ∧ o.dst = some i
  · obtain ⟨j, o, e1, e2⟩ := q
    have hj := (List.getElem?_eq_some_iff.1 e1).1
    have e3 := hh.got j o i e1 e2 trivial g3
    have e4 := h2.got j o i e1 e2 (by simp [hj]) g3
    simp only [Array.getD_eq_getD_getElem?, Array.getElem?_eq_getElem g1] at e3
    simp only [Array.getD_eq_getD_getElem?, Array.getElem?_eq_getElem g2] at e4
    simpa using e3.trans e4.symm
  · have hn : ∀ o ∈ l, o.dst ≠ some i := fun o ho e => by
      obtain ⟨j, hj⟩ := List.mem_iff_getElem?.1 ho
      exact q ⟨j, o, hj, e⟩
    have e3 := hh.kept i hn
    have e4 := h2.kept i hn
    have e5 := e3.trans e4.symm
    simp only [Array.getD_eq_getD_getElem?, Array.getElem?_eq_getElem g1, Array.getElem?_eq_getElem g2] at e5
    simpa using e5
end
end Go.Proofs.YtnbndciididpoaaGreat
