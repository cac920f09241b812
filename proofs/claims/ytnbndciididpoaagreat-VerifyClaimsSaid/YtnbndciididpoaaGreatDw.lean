/- The law for regions that draw their order, outside a fence. Over any program. -/
import Derived.Test.YtnbndciididpoaaGreatDt
namespace Go.Proofs.YtnbndciididpoaaGreat
set_option linter.unusedVariables false
open Go

section
variable {P : Program} {Q : Exit → Act → World → Prop}
theorem wp_region_vals {id : Nat} {a : Act} {w : World} {l : List Oper} (val : Nat → Value) (I : Array Bool → World → Prop) (hm : P.follows .mixedOrders = true) (hlex : lexOk l = true) (hdst : dstOk l = true)
    (hI : I (Array.replicate l.length false) { w with drawn := w.drawn + 1 })
    (hstep : ∀ (L : Array Bool) (W : World) (i : Nat) (o : Oper) (b : Act), L.size = l.length → l[i]? = some o → L.getD i false = false → (∀ e ∈ o.after, Region.binds .any e = true → L.getD e.on false = true) → I L W → Has l val a (fun j => ∃ e ∈ o.after, Region.binds .any e = true ∧ e.on = j) b →
      wpOp P l.toArray Q i (fun a' w' => a' = b.put o.dst (val i) ∧ I (L.setIfInBounds i true) w') b W)
    (hdone : ∀ w b, I (Array.replicate l.length true) w → Has l val a (fun _ => True) b → b.tmps.size = a.tmps.size → Q .normal b w) : (Code.region id l.toArray true).wp P Q a w := by
  refine wp_region_det hm (fun L => accs L val l 0 a) I (lexOk_spec hlex) (accs_none (by intro i; simp [Array.getD_eq_getD_getElem?, Array.getElem?_replicate]; split <;> rfl) l 0 a) hI (fun L W i hs hi hl hd hI => ?_) (fun W hI => ?_)
  · obtain ⟨o, ho, hd⟩ := hd
    have hlF : L.getD i false = false := by
      have : i < L.size := by omega
      simp [this] at hl ⊢; exact hl
    have hu : ∀ {j : Nat} {o1 : Oper}, l[j]? = some o1 → ∀ j' o', l[j']? = some o' → j < j' → o'.dst = none ∨ o'.dst ≠ o1.dst := fun h1 j' o' h2 h3 => dstOk_spec hdst h2 h1 (by omega)
    refine wpOp_mono (fun a' w' h => ?_) (hstep L W i o (accs L val l 0 a) hs ho (by simpa using hlF) hd hI ⟨fun j o1 t h1 h2 h3 h4 => ?_, fun t h => accs_keep t l 0 a h, accs_defers l 0 a⟩)
    · refine ⟨?_, h.2⟩
      have := accs_set (L := L) (val := val) l 0 a i o ho (by simpa using hlF) (by omega) (hu ho)
      simp only [Nat.zero_add] at this
      rw [h.1, this]
    · obtain ⟨e, he, hb, rfl⟩ := h3
      have := accs_get (L := L) (val := val) t l 0 a e.on o1 h1 h2 (by simpa using hd e he hb) h4 (fun j' o' h5 h6 => by
        rcases hu h1 j' o' h5 h6 with h7 | h7
        · rw [h7]; simp
        · rw [h2] at h7; exact h7)
      simpa using this
  · refine hdone W _ hI ⟨fun j o1 t h1 h2 _ h4 => ?_, fun t h => accs_keep t l 0 a h, accs_defers l 0 a⟩ ?_
    · have hj : j < l.length := (List.getElem?_eq_some_iff.1 h1).1
      have := accs_get (L := Array.replicate l.length true) (val := val) t l 0 a j o1 h1 h2 (by simp [hj]) h4 (fun j' o' h5 h6 => by
        rcases dstOk_spec hdst h5 h1 (by omega) with h7 | h7
        · rw [h7]; simp
        · rw [h2] at h7; exact h7)
      simpa using this
    · exact accs_size l 0 a
theorem wpOp_of {ops : Array Oper} {i : Nat} {o : Oper} {K : Act → World → Prop} {b : Act} {w : World} (hi : ops[i]? = some o) (hg : o.guard = none) (h : o.wp P b w K Q) : wpOp P ops Q i K b w := by
  unfold wpOp
  simp only [hi]
  rw [if_pos (by simp [Region.wanted, hg])]
  exact Or.inl h
theorem wp_region_vals' {id : Nat} {a : Act} {w : World} {l : List Oper} (val : Nat → Value) (I : Array Bool → World → Prop) (hm : P.follows .mixedOrders = true) (hlex : lexOk l = true) (hdst : dstOk l = true) (hgd : l.all (fun o => o.guard.isNone) = true)
    (hI : I (Array.replicate l.length false) { w with drawn := w.drawn + 1 })
    (hstep : ∀ (L : Array Bool) (W : World) (i : Nat) (o : Oper) (b : Act), L.size = l.length → l[i]? = some o → L.getD i false = false → (∀ e ∈ o.after, Region.binds .any e = true → L.getD e.on false = true) → I L W → Has l val a (fun j => ∃ e ∈ o.after, Region.binds .any e = true ∧ e.on = j) b →
      o.wp P b W (fun a' w' => a' = b.put o.dst (val i) ∧ I (L.setIfInBounds i true) w') Q)
    (hdone : ∀ w b, I (Array.replicate l.length true) w → Has l val a (fun _ => True) b → b.tmps.size = a.tmps.size → Q .normal b w) : (Code.region id l.toArray true).wp P Q a w :=
  wp_region_vals val I hm hlex hdst hI (fun L W i o b hs ho hlF hd hI hh => wpOp_of (by simpa using ho) (by
    have := List.all_eq_true.1 hgd o (List.mem_of_getElem? ho)
    simpa using this) (hstep L W i o b hs ho hlF hd hI hh)) hdone
end
end Go.Proofs.YtnbndciididpoaaGreat
