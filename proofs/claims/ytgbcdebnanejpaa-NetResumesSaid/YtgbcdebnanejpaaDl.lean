/- The law for drawn regions whose last operation waits for all others. Over any program. -/
import Derived.Test.YtgbcdebnanejpaaT1
namespace Go.Proofs.Ytgbcdebnanejpaa
set_option linter.unusedVariables false
open Go

/-- What the operations of S wait for, f levels deep. -/
def marks (l : List Oper) : Nat → List Nat → List Nat
  | 0, S => S
  | f + 1, S => marks l f (S ++ S.flatMap fun j => match l[j]? with
    | none => []
    | some o => (o.after.toList.filter (Region.binds .any)).map (·.on)).eraseDups
theorem marks_true {l : List Oper} {L : Array Bool} (hC : ClosedL l L) : ∀ (f : Nat) (S : List Nat), (∀ j ∈ S, L.getD j false = true) → ∀ j ∈ marks l f S, L.getD j false = true
  | 0, S, h, j, hj => h j hj
  | f + 1, S, h, j, hj => by
    refine marks_true hC f _ (fun i hi => ?_) j hj
    rw [List.mem_eraseDups, List.mem_append] at hi
    rcases hi with hi | hi
    · exact h i hi
    · obtain ⟨k, hk, hi⟩ := List.mem_flatMap.1 hi
      cases ho : l[k]? with
      | none => rw [ho] at hi; simp at hi
      | some o =>
        rw [ho] at hi
        simp only [List.mem_map, List.mem_filter] at hi
        obtain ⟨e, ⟨h1, h2⟩, rfl⟩ := hi
        exact hC k o ho (h k hk) e (by simpa using h1) h2
/-- The last operation waits for all others. -/
def allWait (l : List Oper) (c : Nat) : Bool := (c + 1 == l.length) && (List.range c).all fun i => (marks l c [c]).contains i
section
variable {P : Program} {Q : Exit → Act → World → Prop}
theorem wp_region_last {id : Nat} {a : Act} {w : World} {l : List Oper} (val : Nat → Value) (wt gb : Nat → Bool) (I0 I1 : World → Prop) (c : Nat) (hcl : allWait l c = true) (hwc : wt c = true) (hm : P.follows .mixedOrders = true) (hlex : lexOkB l = true) (hdst : dstOk l = true)
    (hgd : gdOk l wt gb = true) (hsz : dstIn l a.tmps.size = true) (hgv : ∀ j, isGd l j = true → val j = .bool (gb j)) (hun : ∀ i, i < l.length → wt i = false → val i = undef)
    (hI : I0 { w with drawn := w.drawn + 1 })
    (hstep : ∀ (W : World) (i : Nat) (o : Oper) (b : Act), l[i]? = some o → i ≠ c → wt i = true → I0 W → Has l val a (fun j => ∃ e ∈ o.after, Region.binds .any e = true ∧ e.on = j) b → (∀ t, lateT l i t = true → b.tmps.getD t undef = a.tmps.getD t undef) →
      o.wp P b W (fun a' w' => a' = b.put o.dst (val i) ∧ I0 w') Q)
    (hlast : ∀ (W : World) (o : Oper) (b : Act), l[c]? = some o → I0 W → Has l val a (fun j => ∃ e ∈ o.after, Region.binds .any e = true ∧ e.on = j) b →
      o.wp P b W (fun a' w' => a' = b.put o.dst (val c) ∧ I1 w') Q)
    (hdone : ∀ w b, I1 w → b = puts val l 0 a → Q .normal b w) : (Code.region id l.toArray true).wp P Q a w := by
  obtain ⟨hlen, hall⟩ : (c + 1 == l.length) = true ∧ ((List.range c).all fun i => (marks l c [c]).contains i) = true := by simpa [allWait] using hcl
  have hlen : c + 1 = l.length := by simpa using hlen
  have key : ∀ (L : Array Bool) i, ClosedL l L → i < c → L.getD i false = false → L.getD c false = false := fun L i hC hi hf => by
    cases hL : L.getD c false with
    | false => rfl
    | true =>
      have h1 := List.all_eq_true.1 hall i (List.mem_range.2 hi)
      have h2 := marks_true hC c [c] (fun j hj => by rw [List.mem_singleton.1 hj]; exact hL) i (by simpa using h1)
      rw [hf] at h2; cases h2
  have set_ne : ∀ (L : Array Bool) i, i ≠ c → (L.setIfInBounds i true).getD c false = L.getD c false := fun L i hi => by
    simp only [Array.getD_eq_getD_getElem?]
    rw [Array.getElem?_setIfInBounds_ne hi]
  refine wp_region_fix val wt gb (fun L W => (L.getD c false = false → I0 W) ∧ (L.getD c false = true → I1 W)) hm hlex hdst hgd hsz hgv hun ⟨fun _ => hI, fun h => ?_⟩ (fun L W i hw hIL => ?_) (fun L W i o b hs ho hw hf hC hd hIL hh hlate => ?_) (fun w b hIL hb => hdone w b (hIL.2 ?_) hb)
  · have : (Array.replicate l.length false).getD c false = false := by rw [Array.getD_eq_getD_getElem?, Array.getElem?_replicate]; split <;> rfl
    rw [this] at h; cases h
  · have hi : i ≠ c := fun e => by rw [e, hwc] at hw; cases hw
    rw [set_ne L i hi]; exact hIL
  · by_cases hi : i = c
    · subst hi
      have h0 := hIL.1 hf
      have hsz' : i < L.size := by omega
      refine Oper.wp_mono (fun a' w' h => ⟨h.1, fun hq => ?_, fun _ => h.2⟩) (hlast W o b ho h0 hh)
      have : (L.setIfInBounds i true).getD i false = true := by
        simp only [Array.getD_eq_getD_getElem?]; rw [Array.getElem?_setIfInBounds_self]; simp [hsz']
      rw [this] at hq; cases hq
    · have hic : i < c := by have := (List.getElem?_eq_some_iff.1 ho).1; omega
      have hcF := key L i hC hic hf
      refine Oper.wp_mono (fun a' w' h => ⟨h.1, ?_⟩) (hstep W i o b ho hi hw (hIL.1 hcF) hh hlate)
      rw [set_ne L i hi]
      exact ⟨fun _ => h.2, fun hq => by rw [hcF] at hq; cases hq⟩
  · have : c < l.length := by omega
    simp [Array.getD_eq_getD_getElem?, this]
end
end Go.Proofs.Ytgbcdebnanejpaa
