/- Appends of lists of events; a region that sorts and runs. Over this seat's program. -/
import Derived.Test.YtgbcdebnanejpaaS2
import Derived.Test.YtgbcdebnanejpaaS1
namespace Go.Proofs.Ytgbcdebnanejpaa
set_option linter.unusedVariables false
open Go.RowKit Go.Shelf

theorem newsE {W : World} {a : Option Addr} {m c : Nat} {l : List Evt} (h : EvsAt W (.slice a m c) l) : (a = none ∧ m = 0 ∧ c = 0 ∧ l = []) ∨ ∃ ad, a = some ad ∧ ∀ (j : Nat) u, (evCs l)[j]? = some u → W.cell? (ad.add j) = some u := by
  rcases h with ⟨h1, rfl⟩ | ⟨b, off, c', h1, hbl, hc⟩
  · cases h1; exact Or.inl ⟨rfl, rfl, rfl, rfl⟩
  · cases h1
    refine Or.inr ⟨_, rfl, fun j u hu => ?_⟩
    rw [show (⟨b, off, none⟩ : Addr).add j = ⟨b, off + j, none⟩ by unfold Addr.add; split <;> simp_all]
    have hj : j < l.length * 2 := by rw [← evCs_length]; exact (List.getElem?_eq_some_iff.1 hu).1
    obtain ⟨e, he⟩ : ∃ e, l[j / 2]? = some e := ⟨_, List.getElem?_eq_getElem (by omega)⟩
    have h1 := evCs_get l (j / 2) (j % 2) e (by omega) he
    rw [show j / 2 * 2 + j % 2 = j by omega, hu] at h1
    have h2 := hc (j / 2) e he
    rcases (by omega : j % 2 = 0 ∨ j % 2 = 1) with q | q
    · rw [q] at h1
      simp [evV] at h1
      have h3 := h2.c0
      rw [show off + j = off + j / 2 * 2 by omega, h1]; exact h3
    · rw [q] at h1
      simp [evV] at h1
      have h3 := h2.c1
      rw [show off + j = off + j / 2 * 2 + 1 by omega, h1]; exact h3
/-- An append of a whole list to a row of one's own. -/
theorem appE {ops : Array Oper} {rest : List Oper} {o : Oper} {a : Act} {Q : Exit → Act → World → Prop} {W w : World} (hg : o.guard = none) (s x : Operand)
    (hop : o.op = Op.call { callee := Callee.builtin Builtin.append, args := #[s, x], argTypes := #[30, 30] }) (v : Value) (k : Nat) (l n : List Evt) (hs : a.eval s = v) (hown : W.ownsRow w.heap.size 85 2 v k (evCs l)) (hk : k ≤ 1000000)
    (hb : Below w.heap.size w W) (ad : Option Addr) (m c : Nat) (hx : a.eval x = .slice ad m c) (hm : m = n.length) (hn : EvsAt w (.slice ad m c) n) (h2 : m ≤ 1000000)
    (hK : ∀ v' W', W'.ownsRow w.heap.size 85 2 v' (k + m) (evCs (l ++ n)) → Below w.heap.size w W' → wpList Try.prog ops Q rest (a.put o.dst v') W') : wpList Try.prog ops Q (o :: rest) a W := by
  obtain ⟨i0, hi, hz0, hzz1, hzz2⟩ := info_parts infoE
  have hz := hb.size
  rcases newsE (hn.below hb) with ⟨rfl, rfl, rfl, rfl⟩ | ⟨ad, rfl, hc⟩
  · refine wpList_append_own_none hg s x 30 hop w.heap.size 85 i0 2 Try.underlying30 hi v k (evCs l) hs hown hx (hK v W ?_ hb)
    simpa using hown
  · refine wpList_append_own _ hg s x 30 hop w.heap.size 85 i0 (.agg #[.int .i64 0, .int .i64 0]) 2 16 Try.underlying30 hi hz0 hzz1 hzz2 rfl (by decide) v k (evCs l) hs hown ad m c (evCs n) hx (by rw [evCs_length, hm]) hc (fun u hu => evCs_one hu) (by unfold maxLen; omega) (by omega) hz ?_
    intro v' W' hown' hgr _
    refine hK v' W' (by rw [evCs_append]; exact hown') (hb.trans ⟨hgr.os, hgr.tape, hgr.output, hgr.size, fun j hj => hgr.block j (by omega) fun e => ?_⟩)
    have := hown.lt j e.symm
    omega
/-- An empty row of one's own. -/
theorem own_fresh {w : World} : (w.alloc (.cells #[] 85)).ownsRow w.heap.size 85 2 (.slice (some ⟨w.heap.size, 0, none⟩) 0 0) 0 (evCs []) :=
  ⟨rfl, .inr ⟨w.heap.size, 0, #[], rfl, Nat.le_refl _, alloc_new_at _ _ _ rfl, Nat.le_refl _, by unfold maxLen; omega, rfl, rfl⟩⟩

theorem evsC_own {W : World} {base : Nat} {a : Option Addr} {n c : Nat} {l : List Evt} (hn : n = l.length) (h : W.ownsRow base 85 2 (.slice a n c) l.length (evCs l)) : EvsC W (.slice a l.length c) l := by
  subst hn
  refine ⟨evsAt_of_owns h, a, c, rfl, ?_⟩
  rcases h.2 with ⟨e, h0⟩ | ⟨g, cap, cur, e, _, _, h1, h2, _⟩
  · obtain ⟨_, h2, h3⟩ : a = none ∧ l.length = 0 ∧ c = 0 := by simpa using e
    exact ⟨by omega, by unfold maxLen; omega⟩
  · obtain ⟨_, h3⟩ : a = some ⟨g, 0, none⟩ ∧ c = cap := by simpa using e
    rw [h3]; exact ⟨h1, h2⟩

/-! ### a drawn region that sorts events and runs a network -/
def bsK (nv rv Tv sv v : Value) (X : Int) : Nat → Value
  | 0 => nv
  | 1 => rv
  | 2 => sv
  | 3 => Tv
  | 4 => .tuple #[v, .int .i64 X]
  | 5 => .tuple #[v, .int .i64 X]
  | 6 => v
  | 7 => .int .i64 X
  | 8 => v
  | 9 => .int .i64 X
  | _ => undef
structure BsF (W0 : World) (l2 R : List Evt) (X : Int) (nv rv Tv : Value) (a : Option Addr) (c : Nat) (v : Value) (L : Array Bool) (val : Nat → Value) (W : World) : Prop where
  bel : Below W0.heap.size W0 W
  kn : ∀ j, j < 10 → L.getD j false = true → val j = bsK nv rv Tv (.slice a l2.length c) v X j
  r2 : L.getD 2 false = true → EvsC W (.slice a l2.length c) l2
  r4 : L.getD 4 false = true → EvsAt W v R
  d4 : L.getD 4 false = true → L.getD 2 false = true
  d5 : ∀ j, 5 ≤ j → j < 10 → L.getD j false = true → L.getD 4 false = true
section
variable {W0 W W' : World} {l2 R : List Evt} {X : Int} {nv rv Tv v : Value} {a : Option Addr} {c : Nat} {L : Array Bool} {val : Nat → Value}
theorem BsF.init : BsF W0 l2 R X nv rv Tv none 0 undef (Array.replicate 10 false) (fun _ => undef) { W0 with drawn := W0.drawn + 1 } := by
  have z : ∀ j, (Array.replicate 10 false).getD j false = true → False := fun j h => by
    simp [Array.getD_eq_getD_getElem?, Array.getElem?_replicate] at h
    split at h <;> simp_all
  exact ⟨⟨rfl, rfl, rfl, Nat.le_refl _, fun _ _ => rfl⟩, fun j _ h => (z _ h).elim, fun h => (z _ h).elim, fun h => (z _ h).elim, fun h => (z _ h).elim, fun j _ _ h => (z _ h).elim⟩
theorem BsF.skip (h : BsF W0 l2 R X nv rv Tv a c v L val W) (i : Nat) (hi : i < 10) (h2 : i ≠ 2) (h4 : i ≠ 4) (u : Value) (hu : u = bsK nv rv Tv (.slice a l2.length c) v X i) (h5 : 5 ≤ i → L.getD 4 false = true) :
    BsF W0 l2 R X nv rv Tv a c v (L.setIfInBounds i true) (setV val i u) W := by
  refine ⟨h.bel, fun j hj hl => ?_, ?_, ?_, ?_, fun j h1 hj hl => ?_⟩
  · by_cases e : j = i
    · subst e; rw [setV_eq]; exact hu
    · rw [setV_ne e]; exact h.kn j hj (by rwa [gdD e] at hl)
  · rw [gdD (Ne.symm h2)]; exact h.r2
  · rw [gdD (Ne.symm h4)]; exact h.r4
  · rw [gdD (Ne.symm h4), gdD (Ne.symm h2)]; exact h.d4
  · rw [gdD (Ne.symm h4)]
    by_cases e : j = i
    · exact h5 (by omega)
    · exact h.d5 j h1 hj (by rwa [gdD e] at hl)
theorem BsF.sort (h : BsF W0 l2 R X nv rv Tv a c v L val W) (hs : 9 < L.size) (hf : L.getD 2 false = false) (a' : Option Addr) (c' : Nat) (hb : Below W.heap.size W W') (he : EvsC W' (.slice a' l2.length c') l2) :
    BsF W0 l2 R X nv rv Tv a' c' v (L.setIfInBounds 2 true) (setV val 2 (.slice a' l2.length c')) W' := by
  have f4 : L.getD 4 false = false := by
    cases e : L.getD 4 false with
    | false => rfl
    | true => rw [h.d4 e] at hf; cases hf
  refine ⟨h.bel.trans (hb.mono h.bel.size), fun j hj hl => ?_, fun _ => he, ?_, ?_, fun j h1 hj hl => ?_⟩
  · by_cases e : j = 2
    · subst e; rw [setV_eq]; rfl
    · rw [setV_ne e, h.kn j hj (by rwa [gdD e] at hl)]
      match j, e with
      | 0, _ | 1, _ | 3, _ | 4, _ | 5, _ | 6, _ | 7, _ | 8, _ | 9, _ => rfl
      | n + 10, _ => omega
  · rw [gdD (by omega), f4]; intro hh; cases hh
  · rw [gdD (by omega), f4]; intro hh; cases hh
  · rw [gdD (by omega)] at hl ⊢; exact h.d5 j h1 hj hl
theorem BsF.run (h : BsF W0 l2 R X nv rv Tv a c v L val W) (hs : 9 < L.size) (hf : L.getD 4 false = false) (l2' : L.getD 2 false = true) (v' : Value) (hb : Below W.heap.size W W') (he : EvsAt W' v' R) :
    BsF W0 l2 R X nv rv Tv a c v' (L.setIfInBounds 4 true) (setV val 4 (.tuple #[v', .int .i64 X])) W' := by
  refine ⟨h.bel.trans (hb.mono h.bel.size), fun j hj hl => ?_, fun _ => (h.r2 l2').below hb, fun _ => he, fun _ => ?_, fun j h1 hj hl => ?_⟩
  · by_cases e : j = 4
    · subst e; rw [setV_eq]; rfl
    · rw [gdD e] at hl
      have h5 : j < 5 := by
        apply Classical.byContradiction
        intro hn
        have := h.d5 j (by omega) hj hl
        rw [hf] at this; cases this
      rw [setV_ne e, h.kn j hj hl]
      match j, e with
      | 0, _ | 1, _ | 2, _ | 3, _ => rfl
      | n + 4, e => omega
  · rw [gdD (by omega)]; exact l2'
  · exact getD_set_eq3 (by omega)
end
end Go.Proofs.Ytgbcdebnanejpaa
