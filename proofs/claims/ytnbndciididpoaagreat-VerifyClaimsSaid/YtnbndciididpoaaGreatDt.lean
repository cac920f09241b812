/- A region that draws its order, whose operations come to the same whatever the order: by an invariant over what has been carried out. Over any program. -/
import Derived.OrdersIn
import Derived.Orders
namespace Go.Proofs.YtnbndciididpoaaGreat
set_option linter.unusedVariables false
open Go

section
variable {F : Fence} {n : Nat} {P : Program} {md : Region.Mode} {ops : Array Oper} {Q : Exit → Act → World → Prop}

theorem ready_false {listed : Array Bool} {i : Nat} (hi : i ∈ Region.ready md ops listed) : i < listed.size ∧ listed.toList[i]? = some false := by
  have h := (mem_ready.1 hi).1
  rcases Nat.lt_or_ge i listed.size with h' | h'
  · refine ⟨h', ?_⟩
    simp [h'] at h
    simp [h', h]
  · simp [h'] at h

theorem count_listed {listed : Array Bool} {i : Nat} (h : listed.toList[i]? = some false) : (listed.setIfInBounds i true).toList.count false + 1 = listed.toList.count false := by
  rw [Array.toList_setIfInBounds]
  generalize listed.toList = l at *
  induction l generalizing i with
  | nil => simp at h
  | cons x l ih =>
    cases i with
    | zero => simp at h; subst h; simp
    | succ i =>
      simp at h
      have := ih h
      simp only [List.set_cons_succ, List.count_cons]
      omega

theorem wpAnyIn_det (A : Array Bool → Act) (I : Array Bool → World → Prop)
    (hstep : ∀ listed w i, listed.size = ops.size → i ∈ Region.ready md ops listed → I listed w → wpOpIn F n P ops Q i (fun a' w' => a' = A (listed.setIfInBounds i true) ∧ I (listed.setIfInBounds i true) w') (A listed) w)
    (hdone : ∀ listed w, listed.size = ops.size → Region.ready md ops listed = [] → I listed w → Q .normal (A listed) w) :
    ∀ fuel listed w, listed.size = ops.size → listed.toList.count false ≤ fuel → I listed w → wpAnyIn F n P md ops Q fuel listed (A listed) w := by
  intro fuel
  induction fuel with
  | zero =>
    intro listed w hs hc hI
    have hr : Region.ready md ops listed = [] := by
      rw [List.eq_nil_iff_forall_not_mem]
      intro i hi
      have := count_listed (ready_false hi).2
      omega
    exact ⟨hr, hdone listed w hs hr hI⟩
  | succ fuel ih =>
    intro listed w hs hc hI
    refine ⟨fun hr => hdone listed w hs hr hI, fun i hi => wpOpIn_mono (fun a' w' h => ?_) (hstep listed w i hs hi hI)⟩
    obtain ⟨rfl, hI'⟩ := h
    have := count_listed (ready_false hi).2
    exact ih _ _ (by simpa using hs) (by omega) hI'

theorem wpAny_det (A : Array Bool → Act) (I : Array Bool → World → Prop)
    (hstep : ∀ listed w i, listed.size = ops.size → i ∈ Region.ready md ops listed → I listed w → wpOp P ops Q i (fun a' w' => a' = A (listed.setIfInBounds i true) ∧ I (listed.setIfInBounds i true) w') (A listed) w)
    (hdone : ∀ listed w, listed.size = ops.size → Region.ready md ops listed = [] → I listed w → Q .normal (A listed) w) :
    ∀ fuel listed w, listed.size = ops.size → listed.toList.count false ≤ fuel → I listed w → wpAny P md ops Q fuel listed (A listed) w := by
  intro fuel
  induction fuel with
  | zero =>
    intro listed w hs hc hI
    have hr : Region.ready md ops listed = [] := by
      rw [List.eq_nil_iff_forall_not_mem]
      intro i hi
      have := count_listed (ready_false hi).2
      omega
    exact ⟨hr, hdone listed w hs hr hI⟩
  | succ fuel ih =>
    intro listed w hs hc hI
    refine ⟨fun hr => hdone listed w hs hr hI, fun i hi => wpOp_mono (fun a' w' h => ?_) (hstep listed w i hs hi hI)⟩
    obtain ⟨rfl, hI'⟩ := h
    have := count_listed (ready_false hi).2
    exact ih _ _ (by simpa using hs) (by omega) hI'

/-- Where each operation waits for earlier ones alone: nothing is ready only behind all. -/
theorem all_listed (hlex : ∀ (i : Nat) (o : Oper), ops[i]? = some o → ∀ e ∈ o.after, e.on < i) {listed : Array Bool} (hs : listed.size = ops.size) (hr : Region.ready md ops listed = []) : ∀ i, i < listed.size → listed.getD i false = true := by
  intro i
  induction i using Nat.strongRecOn with
  | ind i ih =>
    intro hi
    by_cases h : listed.getD i false = true
    · exact h
    · exfalso
      obtain ⟨o, ho⟩ : ∃ o, ops[i]? = some o := ⟨_, Array.getElem?_eq_getElem (by omega)⟩
      have : i ∈ Region.ready md ops listed := by
        rw [mem_ready]
        refine ⟨?_, o, ho, fun e he _ => ih e.on (hlex i o ho e he) (by have := hlex i o ho e he; omega)⟩
        simp [hi] at h ⊢
        exact h
      rw [hr] at this
      cases this
theorem all_true {listed : Array Bool} {m : Nat} (hs : listed.size = m) (h : ∀ i, i < listed.size → listed.getD i false = true) : listed = Array.replicate m true := by
  apply Array.ext (by simp [hs])
  intro i h1 h2
  have := h i h1
  simp [h1] at this
  simp [this]

theorem wpIn_region_det {id : Nat} {a : Act} {w : World} {l : List Oper} (hm : P.follows .mixedOrders = true) (A : Array Bool → Act) (I : Array Bool → World → Prop) (hlex : ∀ (i : Nat) (o : Oper), l[i]? = some o → ∀ e ∈ o.after, e.on < i)
    (h0 : A (Array.replicate l.length false) = a) (hI : I (Array.replicate l.length false) { w with drawn := w.drawn + 1 })
    (hstep : ∀ listed w i, listed.size = l.length → i < l.length → listed.getD i true = false → (∃ o, l[i]? = some o ∧ ∀ e ∈ o.after, Region.binds .any e = true → listed.getD e.on false = true) → I listed w → wpOpIn F n P l.toArray Q i (fun a' w' => a' = A (listed.setIfInBounds i true) ∧ I (listed.setIfInBounds i true) w') (A listed) w)
    (hdone : ∀ w, I (Array.replicate l.length true) w → Q .normal (A (Array.replicate l.length true)) w) : (Code.region id l.toArray true).wpIn F n P Q a w := by
  refine wpIn_region_any hm ?_
  rw [← h0]
  refine wpAnyIn_det A I (fun listed w i hs hi hI => ?_) (fun listed w hs hr hI => ?_) _ _ _ (by simp) (by simp) hI
  · have h := mem_ready.1 hi
    obtain ⟨h1, o, h2, h3⟩ := h
    have h2' : l[i]? = some o := by simpa using h2
    exact hstep listed w i (by simpa using hs) (List.getElem?_eq_some_iff.1 h2').1 h1 ⟨o, h2', h3⟩ hI
  · have := all_true (m := l.length) (by simpa using hs) (all_listed (fun i o h e he => hlex i o (by simpa using h) e he) hs hr)
    subst this
    exact hdone w hI

theorem wp_region_det {id : Nat} {a : Act} {w : World} {l : List Oper} (hm : P.follows .mixedOrders = true) (A : Array Bool → Act) (I : Array Bool → World → Prop) (hlex : ∀ (i : Nat) (o : Oper), l[i]? = some o → ∀ e ∈ o.after, e.on < i)
    (h0 : A (Array.replicate l.length false) = a) (hI : I (Array.replicate l.length false) { w with drawn := w.drawn + 1 })
    (hstep : ∀ listed w i, listed.size = l.length → i < l.length → listed.getD i true = false → (∃ o, l[i]? = some o ∧ ∀ e ∈ o.after, Region.binds .any e = true → listed.getD e.on false = true) → I listed w → wpOp P l.toArray Q i (fun a' w' => a' = A (listed.setIfInBounds i true) ∧ I (listed.setIfInBounds i true) w') (A listed) w)
    (hdone : ∀ w, I (Array.replicate l.length true) w → Q .normal (A (Array.replicate l.length true)) w) : (Code.region id l.toArray true).wp P Q a w := by
  refine wp_region_any hm ?_
  rw [← h0]
  refine wpAny_det A I (fun listed w i hs hi hI => ?_) (fun listed w hs hr hI => ?_) _ _ _ (by simp) (by simp) hI
  · have h := mem_ready.1 hi
    obtain ⟨h1, o, h2, h3⟩ := h
    have h2' : l[i]? = some o := by simpa using h2
    exact hstep listed w i (by simpa using hs) (List.getElem?_eq_some_iff.1 h2').1 h1 ⟨o, h2', h3⟩ hI
  · have := all_true (m := l.length) (by simpa using hs) (all_listed (fun i o h e he => hlex i o (by simpa using h) e he) hs hr)
    subst this
    exact hdone w hI
end

def lexOk (l : List Oper) : Bool := l.zipIdx.all fun x => x.1.after.toList.all fun e => decide (e.on < x.2)
theorem lexOk_spec {l : List Oper} (h : lexOk l = true) : ∀ (i : Nat) (o : Oper), l[i]? = some o → ∀ e ∈ o.after, e.on < i := by
  intro i o ho e he
  have h1 := List.all_eq_true.1 h (o, i) (by rw [List.mem_zipIdx_iff_getElem?]; exact ho)
  have h2 := List.all_eq_true.1 h1 e (by simpa using he)
  simpa using h2

/-- The frame in which the operations of L have left their values, val i that of number i. -/
def accs (L : Array Bool) (val : Nat → Value) : List Oper → Nat → Act → Act
  | [], _, a => a
  | o :: r, i, a => accs L val r (i + 1) (if L.getD i false = true then a.put o.dst (val i) else a)

theorem accs_none {L : Array Bool} {val : Nat → Value} (h : ∀ i, L.getD i false = false) : ∀ (l : List Oper) (i : Nat) (a : Act), accs L val l i a = a
  | [], _, _ => rfl
  | o :: r, i, a => by unfold accs; rw [if_neg (by rw [h]; simp), accs_none h]
theorem accs_congr {L L' : Array Bool} {val : Nat → Value} : ∀ (l : List Oper) (i : Nat) (a : Act), (∀ j, i ≤ j → L.getD j false = L'.getD j false) → accs L val l i a = accs L' val l i a
  | [], _, _, _ => rfl
  | o :: r, i, a, h => by unfold accs; rw [h i (Nat.le_refl _), accs_congr r (i + 1) _ fun j hj => h j (by omega)]
theorem accs_put {L : Array Bool} {val : Nat → Value} (d : Option Tmp) (v : Value) : ∀ (l : List Oper) (i : Nat) (a : Act), (∀ o ∈ l, o.dst = none ∨ o.dst ≠ d) → accs L val l i (a.put d v) = (accs L val l i a).put d v
  | [], _, _, _ => rfl
  | o :: r, i, a, h => by
    unfold accs
    by_cases hL : L.getD i false = true
    · rw [if_pos hL, if_pos hL, ← accs_put d v r (i + 1) _ fun o ho => h o (by simp [ho])]
      congr 1
      rcases h o (by simp) with h1 | h1
      · rw [h1]; rfl
      · exact Act.put_comm a (x := d) (y := o.dst) v (val i) fun e he h2 => h1 (h2.trans he.symm)
    · rw [if_neg hL, if_neg hL]
      exact accs_put d v r (i + 1) a fun o ho => h o (by simp [ho])
theorem accs_set {L : Array Bool} {val : Nat → Value} : ∀ (l : List Oper) (k : Nat) (a : Act) (j : Nat) (o : Oper), l[j]? = some o → L.getD (k + j) false = false → k + j < L.size → (∀ j' o', l[j']? = some o' → j < j' → o'.dst = none ∨ o'.dst ≠ o.dst) →
      accs (L.setIfInBounds (k + j) true) val l k a = (accs L val l k a).put o.dst (val (k + j))
  | [], _, _, _, _, h, _, _, _ => by simp at h
  | x :: r, k, a, 0, o, h, hL, hs, hd => by
    simp at h
    subst h
    simp only [Nat.add_zero] at *
    unfold accs
    rw [if_pos (by simp [hs]), if_neg (by rw [hL]; simp)]
    rw [accs_congr (L' := L) r (k + 1) _ (fun j hj => by simp only [Array.getD_eq_getD_getElem?]; rw [Array.getElem?_setIfInBounds_ne (by omega)])]
    refine accs_put x.dst (val k) r (k + 1) a fun o ho => ?_
    obtain ⟨m, hm⟩ := List.mem_iff_getElem?.1 ho
    exact hd (m + 1) o (by simpa using hm) (by omega)
  | x :: r, k, a, j + 1, o, h, hL, hs, hd => by
    simp at h
    unfold accs
    have e : (L.setIfInBounds (k + (j + 1)) true).getD k false = L.getD k false := by
      simp only [Array.getD_eq_getD_getElem?]; rw [Array.getElem?_setIfInBounds_ne (by omega)]
    rw [e, show k + (j + 1) = (k + 1) + j by omega]
    refine accs_set r (k + 1) _ j o h (by rw [show k + 1 + j = k + (j + 1) by omega]; exact hL) (by omega) fun j' o' h1 h2 => ?_
    exact hd (j' + 1) o' (by simpa using h1) (by omega)
theorem put_get (a : Act) (d : Tmp) (v : Value) (t : Nat) : (a.put (some d) v).tmps.getD t undef = if t = d ∧ d < a.tmps.size then v else a.tmps.getD t undef := by
  simp only [Act.put, Array.getD_eq_getD_getElem?, Array.getElem?_setIfInBounds]
  by_cases h : t = d
  · subst h
    by_cases h2 : t < a.tmps.size
    · simp [h2]
    · simp [h2]
  · rw [if_neg (fun e => h e.symm), if_neg (fun e => h e.1)]
theorem put_size (a : Act) (d : Option Tmp) (v : Value) : (a.put d v).tmps.size = a.tmps.size := by cases d <;> simp [Act.put]
theorem accs_keep {L : Array Bool} {val : Nat → Value} (t : Nat) : ∀ (l : List Oper) (k : Nat) (a : Act), (∀ o ∈ l, o.dst ≠ some t) → (accs L val l k a).tmps.getD t undef = a.tmps.getD t undef
  | [], _, _, _ => rfl
  | o :: r, k, a, h => by
    unfold accs
    rw [accs_keep t r (k + 1) _ fun o ho => h o (by simp [ho])]
    split
    · cases hd : o.dst with
      | none => rfl
      | some d =>
        rw [put_get, if_neg]
        rintro ⟨rfl, _⟩
        exact h o (by simp) hd
    · rfl
theorem accs_get {L : Array Bool} {val : Nat → Value} (t : Nat) : ∀ (l : List Oper) (k : Nat) (a : Act) (j : Nat) (o : Oper), l[j]? = some o → o.dst = some t → L.getD (k + j) false = true → t < a.tmps.size → (∀ j' o', l[j']? = some o' → j < j' → o'.dst ≠ some t) → (accs L val l k a).tmps.getD t undef = val (k + j)
  | [], _, _, _, _, h, _, _, _, _ => by simp at h
  | x :: r, k, a, 0, o, h, hd, hL, ht, hu => by
    simp at h
    subst h
    simp only [Nat.add_zero] at *
    unfold accs
    rw [if_pos hL, accs_keep t r (k + 1) _ (fun o ho => by obtain ⟨m, hm⟩ := List.mem_iff_getElem?.1 ho; exact hu (m + 1) o (by simpa using hm) (by omega)), hd, put_get, if_pos ⟨rfl, ht⟩]
  | x :: r, k, a, j + 1, o, h, hd, hL, ht, hu => by
    simp at h
    unfold accs
    rw [show k + (j + 1) = (k + 1) + j by omega]
    refine accs_get t r (k + 1) _ j o h hd (by rw [show k + 1 + j = k + (j + 1) by omega]; exact hL) (by split <;> simp [put_size, ht]) fun j' o' h1 h2 => hu (j' + 1) o' (by simpa using h1) (by omega)
theorem accs_defers {L : Array Bool} {val : Nat → Value} : ∀ (l : List Oper) (k : Nat) (a : Act), (accs L val l k a).defers = a.defers
  | [], _, _ => rfl
  | o :: r, k, a => by
    unfold accs
    rw [accs_defers r (k + 1)]
    split
    · cases o.dst <;> rfl
    · rfl
theorem accs_size {L : Array Bool} {val : Nat → Value} : ∀ (l : List Oper) (k : Nat) (a : Act), (accs L val l k a).tmps.size = a.tmps.size
  | [], _, _ => rfl
  | o :: r, k, a => by
    unfold accs
    rw [accs_size r (k + 1)]
    split
    · exact put_size _ _ _
    · rfl

/-- No slot is written twice. -/
def dstOk (l : List Oper) : Bool := l.zipIdx.all fun x => l.zipIdx.all fun y => decide (x.2 = y.2) || x.1.dst.isNone || !(decide (x.1.dst = y.1.dst))
theorem dstOk_spec {l : List Oper} (h : dstOk l = true) {i j : Nat} {o o' : Oper} (hi : l[i]? = some o) (hj : l[j]? = some o') (hne : i ≠ j) : o.dst = none ∨ o.dst ≠ o'.dst := by
  have h1 := List.all_eq_true.1 h (o, i) (by rw [List.mem_zipIdx_iff_getElem?]; exact hi)
  have h2 := List.all_eq_true.1 h1 (o', j) (by rw [List.mem_zipIdx_iff_getElem?]; exact hj)
  simp at h2
  rcases h2 with (h3 | h3) | h3
  · exact absurd h3 hne
  · exact Or.inl h3
  · exact Or.inr h3

section
variable {F : Fence} {n : Nat} {P : Program} {Q : Exit → Act → World → Prop}
/-- What a step finds of the frame: every value that it waits for, and what the region does not write. -/
structure Has (l : List Oper) (val : Nat → Value) (a : Act) (dep : Nat → Prop) (b : Act) : Prop where
  got : ∀ (j : Nat) (o : Oper) (t : Tmp), l[j]? = some o → o.dst = some t → dep j → t < a.tmps.size → b.tmps.getD t undef = val j
  kept : ∀ t : Nat, (∀ o ∈ l, o.dst ≠ some t) → b.tmps.getD t undef = a.tmps.getD t undef
  defers : b.defers = a.defers

theorem wpIn_region_vals {id : Nat} {a : Act} {w : World} {l : List Oper} (val : Nat → Value) (I : Array Bool → World → Prop) (hm : P.follows .mixedOrders = true) (hlex : lexOk l = true) (hdst : dstOk l = true)
    (hI : I (Array.replicate l.length false) { w with drawn := w.drawn + 1 })
    (hstep : ∀ (L : Array Bool) (W : World) (i : Nat) (o : Oper) (b : Act), L.size = l.length → l[i]? = some o → I L W → Has l val a (fun j => ∃ e ∈ o.after, Region.binds .any e = true ∧ e.on = j) b →
      wpOpIn F n P l.toArray Q i (fun a' w' => a' = b.put o.dst (val i) ∧ I (L.setIfInBounds i true) w') b W)
    (hdone : ∀ w b, I (Array.replicate l.length true) w → Has l val a (fun _ => True) b → b.tmps.size = a.tmps.size → Q .normal b w) : (Code.region id l.toArray true).wpIn F n P Q a w := by
  refine wpIn_region_det hm (fun L => accs L val l 0 a) I (lexOk_spec hlex) (accs_none (by intro i; simp [Array.getD_eq_getD_getElem?, Array.getElem?_replicate]; split <;> rfl) l 0 a) hI (fun L W i hs hi hl hd hI => ?_) (fun W hI => ?_)
  · obtain ⟨o, ho, hd⟩ := hd
    have hlF : L.getD i false = false := by
      have : i < L.size := by omega
      simp [this] at hl ⊢; exact hl
    have hu : ∀ {j : Nat} {o1 : Oper}, l[j]? = some o1 → ∀ j' o', l[j']? = some o' → j < j' → o'.dst = none ∨ o'.dst ≠ o1.dst := fun h1 j' o' h2 h3 => dstOk_spec hdst h2 h1 (by omega)
    refine wpOpIn_mono (fun a' w' h => ?_) (hstep L W i o (accs L val l 0 a) hs ho hI ⟨fun j o1 t h1 h2 h3 h4 => ?_, fun t h => accs_keep t l 0 a h, accs_defers l 0 a⟩)
    · refine ⟨?_, h.2⟩
      have := accs_set (L := L) (val := val) l 0 a i o ho (by simpa using hlF) (by omega) (hu ho)
      simp only [Nat.zero_add] at this
      rw [h.1, this]
    · obtain ⟨e, he, hb, rfl⟩ := h3
      have := accs_get (L := L) (val := val) t l 0 a e.on o1 h1 h2 (by simpa using hd e he hb) h4 (fun j' o' h5 h6 => by
        rcases hu h1 j' o' h5 h6 with h7 | h7
        · rw [h7]; simp
        · rw [h2] at h7; exact h7)
      simpa using this
  · refine hdone W _ hI ⟨fun j o1 t h1 h2 _ h4 => ?_, fun t h => accs_keep t l 0 a h, accs_defers l 0 a⟩ ?_
    · have hj : j < l.length := (List.getElem?_eq_some_iff.1 h1).1
      have := accs_get (L := Array.replicate l.length true) (val := val) t l 0 a j o1 h1 h2 (by simp [hj]) h4 (fun j' o' h5 h6 => by
        rcases dstOk_spec hdst h5 h1 (by omega) with h7 | h7
        · rw [h7]; simp
        · rw [h2] at h7; exact h7)
      simpa using this
    · exact accs_size l 0 a

theorem wpOpIn_of {ops : Array Oper} {i : Nat} {o : Oper} {K : Act → World → Prop} {b : Act} {w : World} (hi : ops[i]? = some o) (hg : o.guard = none) (h : o.wpIn F n P b w K Q) : wpOpIn F n P ops Q i K b w := by
  unfold wpOpIn
  simp only [hi]
  rw [if_pos (by simp [Region.wanted, hg])]
  exact h
theorem wpIn_region_vals' {id : Nat} {a : Act} {w : World} {l : List Oper} (val : Nat → Value) (I : Array Bool → World → Prop) (hm : P.follows .mixedOrders = true) (hlex : lexOk l = true) (hdst : dstOk l = true) (hgd : l.all (fun o => o.guard.isNone) = true)
    (hI : I (Array.replicate l.length false) { w with drawn := w.drawn + 1 })
    (hstep : ∀ (L : Array Bool) (W : World) (i : Nat) (o : Oper) (b : Act), L.size = l.length → l[i]? = some o → I L W → Has l val a (fun j => ∃ e ∈ o.after, Region.binds .any e = true ∧ e.on = j) b →
      o.wpIn F n P b W (fun a' w' => a' = b.put o.dst (val i) ∧ I (L.setIfInBounds i true) w') Q)
    (hdone : ∀ w b, I (Array.replicate l.length true) w → Has l val a (fun _ => True) b → b.tmps.size = a.tmps.size → Q .normal b w) : (Code.region id l.toArray true).wpIn F n P Q a w :=
  wpIn_region_vals val I hm hlex hdst hI (fun L W i o b hs ho hI hh => wpOpIn_of (by simpa using ho) (by
    have := List.all_eq_true.1 hgd o (List.mem_of_getElem? ho)
    simpa using this) (hstep L W i o b hs ho hI hh)) hdone
end
end Go.Proofs.YtnbndciididpoaaGreat
