/- The specification's Begin. Over this seat's program. (mk_Tc.py wrote this.) -/
import Derived.Test.YtgbcdebnanejpaaTd
namespace Go.Proofs.Ytgbcdebnanejpaa
set_option linter.unusedVariables false
open Go.RowKit Go.Shelf

def bg1 (a1 a2 : Option Addr) (c1 c2 nn mm : Nat) (inp : Int) (g b bx : Nat) : Nat → Value
  | 0 => .agg #[.slice a1 nn c1, .int .i64 inp, .slice a2 mm c2]
  | 1 => .pointer (some ⟨bx, 0, none⟩)
  | 2 => .slice a1 nn c1
  | 3 => .int .i64 nn
  | 4 => .slice (some ⟨g, 0, none⟩) nn nn
  | 5 => .agg #[.slice a1 nn c1, .int .i64 inp, .slice a2 mm c2, .int .i64 0, .slice (some ⟨g, 0, none⟩) nn nn, .slice none 0 0]
  | 6 => .pointer (some ⟨b, 0, none⟩)
  | 7 => .pointer (some ⟨b, 0, none⟩)
  | _ => undef
structure BgF (W0 : World) (a1 a2 : Option Addr) (c1 c2 nn mm : Nat) (inp : Int) (bx g b : Nat) (L : Array Bool) (val : Nat → Value) (W : World) : Prop where
  bel : Below W0.heap.size W0 W
  kn : ∀ j, j < 8 → L.getD j false = true → val j = bg1 a1 a2 c1 c2 nn mm inp g b bx j
  g4 : L.getD 4 false = true → W0.heap.size ≤ g ∧ W.heap[g]? = some (.cells (stC (List.replicate nn (0, 0))).toArray 98)
  b6 : L.getD 6 false = true → W0.heap.size ≤ b ∧ g ≠ b ∧ W.heap[b]? = some (.cells #[.slice a1 nn c1, .int .i64 inp, .slice a2 mm c2, .int .i64 0, .slice (some ⟨g, 0, none⟩) nn nn, .slice none 0 0] 64)
  d5 : L.getD 5 false = true → L.getD 4 false = true
  d6 : L.getD 6 false = true → L.getD 4 false = true
  d7 : L.getD 7 false = true → L.getD 6 false = true
section
variable {W0 W : World} {a1 a2 : Option Addr} {c1 c2 nn mm : Nat} {inp : Int} {bx g b : Nat} {L : Array Bool} {val : Nat → Value}
theorem BgF.init : BgF W0 a1 a2 c1 c2 nn mm inp bx 0 0 (Array.replicate 8 false) (fun _ => undef) { W0 with drawn := W0.drawn + 1 } := by
  have z : ∀ j, (Array.replicate 8 false).getD j false = true → False := fun j h => by
    simp [Array.getD_eq_getD_getElem?, Array.getElem?_replicate] at h
    split at h <;> simp_all
  exact ⟨⟨rfl, rfl, rfl, Nat.le_refl _, fun _ _ => rfl⟩, fun j _ h => (z _ h).elim, fun h => (z _ h).elim, fun h => (z _ h).elim, fun h => (z _ h).elim, fun h => (z _ h).elim, fun h => (z _ h).elim⟩
theorem BgF.skip (h : BgF W0 a1 a2 c1 c2 nn mm inp bx g b L val W) (i : Nat) (hi : i < 8) (h4 : i ≠ 4) (h6 : i ≠ 6) (u : Value) (hu : u = bg1 a1 a2 c1 c2 nn mm inp g b bx i) (h5 : i = 5 → L.getD 4 false = true) (h7 : i = 7 → L.getD 6 false = true) :
    BgF W0 a1 a2 c1 c2 nn mm inp bx g b (L.setIfInBounds i true) (setV val i u) W := by
  refine ⟨h.bel, fun j hj hl => ?_, ?_, ?_, fun hl => ?_, ?_, fun hl => ?_⟩
  · by_cases e : j = i
    · subst e; rw [setV_eq]; exact hu
    · rw [setV_ne e]; exact h.kn j hj (by rwa [gdD e] at hl)
  · rw [gdD (Ne.symm h4)]; exact h.g4
  · rw [gdD (Ne.symm h6)]; exact h.b6
  · rw [gdD (Ne.symm h4)]
    by_cases e : 5 = i
    · exact h5 e.symm
    · exact h.d5 (by rwa [gdD e] at hl)
  · rw [gdD (Ne.symm h6), gdD (Ne.symm h4)]; exact h.d6
  · rw [gdD (Ne.symm h6)]
    by_cases e : 7 = i
    · exact h7 e.symm
    · exact h.d7 (by rwa [gdD e] at hl)
theorem BgF.states (h : BgF W0 a1 a2 c1 c2 nn mm inp bx g b L val W) (hs : 7 < L.size) (hf : L.getD 4 false = false) :
    BgF W0 a1 a2 c1 c2 nn mm inp bx W.heap.size b (L.setIfInBounds 4 true) (setV val 4 (.slice (some ⟨W.heap.size, 0, none⟩) nn nn)) (W.alloc (.cells (stC (List.replicate nn (0, 0))).toArray 98)) := by
  have f5 : L.getD 5 false = false := by
    cases e : L.getD 5 false with
    | false => rfl
    | true => rw [h.d5 e] at hf; cases hf
  have f6 : L.getD 6 false = false := by
    cases e : L.getD 6 false with
    | false => rfl
    | true => rw [h.d6 e] at hf; cases hf
  have f7 : L.getD 7 false = false := by
    cases e : L.getD 7 false with
    | false => rfl
    | true => rw [h.d7 e] at f6; cases f6
  refine ⟨h.bel.alloc h.bel.size _, fun j hj hl => ?_, fun _ => ⟨h.bel.size, alloc_new_at _ _ _ rfl⟩, ?_, ?_, ?_, ?_⟩
  · by_cases e : j = 4
    · subst e; rw [setV_eq]; rfl
    · rw [gdD e] at hl
      rw [setV_ne e, h.kn j hj hl]
      match j, e with
      | 0, _ | 1, _ | 2, _ | 3, _ => rfl
      | 5, _ => rw [f5] at hl; cases hl
      | 6, _ => rw [f6] at hl; cases hl
      | 7, _ => rw [f7] at hl; cases hl
      | n + 8, _ => omega
  · rw [gdD (by omega), f6]; intro hh; cases hh
  · rw [gdD (by omega), f5]; intro hh; cases hh
  · rw [gdD (by omega), f6]; intro hh; cases hh
  · rw [gdD (by omega), f7]; intro hh; cases hh
theorem BgF.box (h : BgF W0 a1 a2 c1 c2 nn mm inp bx g b L val W) (hs : 7 < L.size) (hf : L.getD 6 false = false) (l4 : L.getD 4 false = true) :
    BgF W0 a1 a2 c1 c2 nn mm inp bx g W.heap.size (L.setIfInBounds 6 true) (setV val 6 (.pointer (some ⟨W.heap.size, 0, none⟩))) (W.alloc (.cells #[.slice a1 nn c1, .int .i64 inp, .slice a2 mm c2, .int .i64 0, .slice (some ⟨g, 0, none⟩) nn nn, .slice none 0 0] 64)) := by
  have f7 : L.getD 7 false = false := by
    cases e : L.getD 7 false with
    | false => rfl
    | true => rw [h.d7 e] at hf; cases hf
  obtain ⟨q1, q2⟩ := h.g4 l4
  have q3 := lt_of_block q2
  refine ⟨h.bel.alloc h.bel.size _, fun j hj hl => ?_, fun _ => ⟨q1, (Below.heap_alloc _ _ _ q3).trans q2⟩, fun _ => ⟨h.bel.size, by omega, alloc_new_at _ _ _ rfl⟩, ?_, fun _ => ?_, ?_⟩
  · by_cases e : j = 6
    · subst e; rw [setV_eq]; rfl
    · rw [gdD e] at hl
      rw [setV_ne e, h.kn j hj hl]
      match j, e with
      | 0, _ | 1, _ | 2, _ | 3, _ | 4, _ | 5, _ => rfl
      | 7, _ => rw [f7] at hl; cases hl
      | n + 8, _ => omega
  · rw [gdD (by omega), gdD (by omega)]; exact h.d5
  · rw [gdD (by omega)]; exact l4
  · rw [gdD (by omega), f7]; intro hh; cases hh
end

def bg5 (a1 : Option Addr) (c1 nn b bx : Nat) (dv : Value) (nb g9 : Nat) (dv' : Value) : Nat → Value
  | 0 => .pointer (some ⟨b, 0, none⟩)
  | 1 => .pointer (some ⟨b, 0, none⟩)
  | 2 => .pointer (some ⟨b, 0, none⟩)
  | 3 => .pointer (some ⟨b, 5, none⟩)
  | 4 => dv
  | 5 => .pointer (some ⟨bx, 0, none⟩)
  | 6 => .slice a1 nn c1
  | 7 => .int .i64 nn
  | 8 => .slice (some ⟨nb, 0, none⟩) nn nn
  | 9 => .slice (some ⟨g9, 0, none⟩) 1 1
  | 10 => dv'
  | 11 => .pointer (some ⟨b, 0, none⟩)
  | 12 => .pointer (some ⟨b, 5, none⟩)
  | _ => undef
def simBox (a1 a2 : Option Addr) (c1 c2 nn mm : Nat) (inp : Int) (g : Nat) (dv : Value) : Obj := .cells #[.slice a1 nn c1, .int .i64 inp, .slice a2 mm c2, .int .i64 0, .slice (some ⟨g, 0, none⟩) nn nn, dv] 64
structure BgL (W0 : World) (H : Nat) (a1 a2 : Option Addr) (c1 c2 nn mm : Nat) (inp : Int) (bx g b i : Nat) (dv : Value) (rows : List Value) (nb g9 : Nat) (dv' : Value) (L : Array Bool) (val : Nat → Value) (W : World) : Prop where
  hH : H ≤ W0.heap.size
  hb : b < H
  hdv : ∀ x, dv.ownBlock = some x → x < W0.heap.size
  bel : Bel (fun x => x = b ∨ dv.ownBlock = some x) W0.heap.size W0 W
  kn : ∀ j, j < 13 → L.getD j false = true → val j = bg5 a1 c1 nn b bx dv nb g9 dv' j
  n8 : L.getD 8 false = true → W0.heap.size ≤ nb ∧ nb < W.heap.size ∧ RowAt W nb nn (fun _ => 0)
  n9 : L.getD 9 false = true → L.getD 10 false = false → W0.heap.size ≤ g9 ∧ W.heap[g9]? = some (.cells #[.slice (some ⟨nb, 0, none⟩) nn nn] 44)
  r0 : L.getD 10 false = false → W.ownsRow H 44 1 dv i rows
  r1 : L.getD 10 false = true → W.ownsRow H 44 1 dv' (i + 1) (rows ++ [.slice (some ⟨nb, 0, none⟩) nn nn]) ∧ (dv'.ownBlock = dv.ownBlock ∨ ∃ x, dv'.ownBlock = some x ∧ W0.heap.size ≤ x) ∧ dv'.ownBlock ≠ some nb
  x0 : L.getD 13 false = false → W.heap[b]? = some (simBox a1 a2 c1 c2 nn mm inp g dv)
  x1 : L.getD 13 false = true → W.heap[b]? = some (simBox a1 a2 c1 c2 nn mm inp g dv')
  d4 : L.getD 10 false = true → L.getD 4 false = true
  d9 : L.getD 9 false = true → L.getD 8 false = true
  d10 : L.getD 10 false = true → L.getD 9 false = true
  d13 : L.getD 13 false = true → L.getD 10 false = true
section
variable {W0 W : World} {H : Nat} {a1 a2 : Option Addr} {c1 c2 nn mm : Nat} {inp : Int} {bx g b i : Nat} {dv : Value} {rows : List Value} {nb g9 : Nat} {dv' : Value} {L : Array Bool} {val : Nat → Value}
theorem BgL.init (hH : H ≤ W0.heap.size) (hb : b < H) (hr : W0.ownsRow H 44 1 dv i rows) (hx : W0.heap[b]? = some (simBox a1 a2 c1 c2 nn mm inp g dv)) : BgL W0 H a1 a2 c1 c2 nn mm inp bx g b i dv rows 0 0 undef (Array.replicate 14 false) (fun _ => undef) { W0 with drawn := W0.drawn + 1 } := by
  have z : ∀ j, (Array.replicate 14 false).getD j false = true → False := fun j h => by
    simp [Array.getD_eq_getD_getElem?, Array.getElem?_replicate] at h
    split at h <;> simp_all
  exact ⟨hH, hb, fun x hx => (hr.lt x hx).2, ⟨rfl, rfl, rfl, Nat.le_refl _, fun _ _ _ => rfl⟩, fun j _ h => (z _ h).elim, fun h => (z _ h).elim, fun h => (z _ h).elim, fun _ => hr, fun h => (z _ h).elim, fun _ => hx, fun h => (z _ h).elim, fun h => (z _ h).elim, fun h => (z _ h).elim, fun h => (z _ h).elim, fun h => (z _ h).elim⟩
theorem BgL.no10 (h : BgL W0 H a1 a2 c1 c2 nn mm inp bx g b i dv rows nb g9 dv' L val W) (h9 : L.getD 9 false = false) : L.getD 10 false = false := by
  cases e : L.getD 10 false with
  | false => rfl
  | true => rw [h.d10 e] at h9; cases h9
theorem BgL.no9 (h : BgL W0 H a1 a2 c1 c2 nn mm inp bx g b i dv rows nb g9 dv' L val W) (h9 : L.getD 8 false = false) : L.getD 9 false = false := by
  cases e : L.getD 9 false with
  | false => rfl
  | true => rw [h.d9 e] at h9; cases h9
theorem BgL.no13 (h : BgL W0 H a1 a2 c1 c2 nn mm inp bx g b i dv rows nb g9 dv' L val W) (h9 : L.getD 10 false = false) : L.getD 13 false = false := by
  cases e : L.getD 13 false with
  | false => rfl
  | true => rw [h.d13 e] at h9; cases h9
theorem BgL.no4 (h : BgL W0 H a1 a2 c1 c2 nn mm inp bx g b i dv rows nb g9 dv' L val W) (h4 : L.getD 4 false = false) : L.getD 13 false = false := by
  refine h.no13 ?_
  cases e : L.getD 10 false with
  | false => rfl
  | true => rw [h.d4 e] at h4; cases h4
theorem BgL.skip (h : BgL W0 H a1 a2 c1 c2 nn mm inp bx g b i dv rows nb g9 dv' L val W) (k : Nat) (hk : k < 13) (h8 : k ≠ 8) (h9 : k ≠ 9) (h10 : k ≠ 10) (u : Value) (hu : u = bg5 a1 c1 nn b bx dv nb g9 dv' k) :
    BgL W0 H a1 a2 c1 c2 nn mm inp bx g b i dv rows nb g9 dv' (L.setIfInBounds k true) (setV val k u) W := by
  refine ⟨h.hH, h.hb, h.hdv, h.bel, fun j hj hl => ?_, ?_, ?_, ?_, ?_, ?_, ?_, fun hl => ?_, ?_, ?_, ?_⟩
  · by_cases e : j = k
    · subst e; rw [setV_eq]; exact hu
    · rw [setV_ne e]; exact h.kn j hj (by rwa [gdD e] at hl)
  · rw [gdD (by omega)]; exact h.n8
  · rw [gdD (by omega), gdD (by omega)]; exact h.n9
  · rw [gdD (by omega)]; exact h.r0
  · rw [gdD (by omega)]; exact h.r1
  · rw [gdD (by omega)]; exact h.x0
  · rw [gdD (by omega)]; exact h.x1
  · rw [gdD (by omega)] at hl
    by_cases e : k = 4
    · subst e
      have hs : 4 < L.size := by
        have h10' := hl
        simp only [Array.getD_eq_getD_getElem?] at h10'
        cases q : L[10]? with
        | none => rw [q] at h10'; cases h10'
        | some v => have := (Array.getElem?_eq_some_iff.1 q).1; omega
      exact getD_set_eq3 hs
    · rw [gdD (fun q => e q.symm)]; exact h.d4 hl
  · rw [gdD (by omega), gdD (by omega)]; exact h.d9
  · rw [gdD (by omega), gdD (by omega)]; exact h.d10
  · rw [gdD (by omega), gdD (by omega)]; exact h.d13
theorem BgL.dvlt (h : BgL W0 H a1 a2 c1 c2 nn mm inp bx g b i dv rows nb g9 dv' L val W) (hr : W.ownsRow H 44 1 dv i rows) : ∀ x, dv.ownBlock = some x → H ≤ x ∧ x < W.heap.size := hr.lt
theorem BgL.row (h : BgL W0 H a1 a2 c1 c2 nn mm inp bx g b i dv rows nb g9 dv' L val W) (hs : 13 < L.size) (hf : L.getD 8 false = false) :
    BgL W0 H a1 a2 c1 c2 nn mm inp bx g b i dv rows W.heap.size g9 dv' (L.setIfInBounds 8 true) (setV val 8 (.slice (some ⟨W.heap.size, 0, none⟩) nn nn)) (W.alloc (.cells (rowC nn fun _ => 0).toArray 3)) := by
  have f9 := h.no9 hf
  have f10 := h.no10 f9
  have f13 := h.no13 f10
  have hz := h.bel.size
  have hr := h.r0 f10
  refine ⟨h.hH, h.hb, h.hdv, h.bel.alloc hz _, fun j hj hl => ?_, fun _ => ⟨hz, by simp, alloc_new_at _ _ _ rfl⟩, ?_, fun _ => ownsRow_of_block hr fun x hx => Below.heap_alloc _ _ _ (hr.lt x hx).2, ?_, fun _ => (Below.heap_alloc _ _ _ (lt_of_block (h.x0 f13))).trans (h.x0 f13), ?_, ?_, ?_, ?_, ?_⟩
  · by_cases e : j = 8
    · subst e; rw [setV_eq]; rfl
    · rw [gdD e] at hl
      rw [setV_ne e, h.kn j hj hl]
      match j, e with
      | 0, _ | 1, _ | 2, _ | 3, _ | 4, _ | 5, _ | 6, _ | 7, _ | 9, _ | 10, _ | 11, _ | 12, _ => rfl
      | k + 13, _ => omega
  · rw [gdD (by omega), f9]; intro hh; cases hh
  · rw [gdD (by omega), f10]; intro hh; cases hh
  · rw [gdD (by omega), f13]; intro hh; cases hh
  · rw [gdD (by omega), f10]; intro hh; cases hh
  · rw [gdD (by omega), f9]; intro hh; cases hh
  · rw [gdD (by omega), f10]; intro hh; cases hh
  · rw [gdD (by omega), f13]; intro hh; cases hh
theorem BgL.one (h : BgL W0 H a1 a2 c1 c2 nn mm inp bx g b i dv rows nb g9 dv' L val W) (hs : 13 < L.size) (hf : L.getD 9 false = false) (l8 : L.getD 8 false = true) :
    BgL W0 H a1 a2 c1 c2 nn mm inp bx g b i dv rows nb W.heap.size dv' (L.setIfInBounds 9 true) (setV val 9 (.slice (some ⟨W.heap.size, 0, none⟩) 1 1)) (W.alloc (.cells #[.slice (some ⟨nb, 0, none⟩) nn nn] 44)) := by
  have f10 := h.no10 hf
  have f13 := h.no13 f10
  have hz := h.bel.size
  have hr := h.r0 f10
  obtain ⟨q1, q2, q3⟩ := h.n8 l8
  refine ⟨h.hH, h.hb, h.hdv, h.bel.alloc hz _, fun j hj hl => ?_, fun _ => ⟨q1, by simp; omega, (Below.heap_alloc _ _ _ q2).trans q3⟩, fun _ _ => ⟨hz, alloc_new_at _ _ _ rfl⟩, fun _ => ownsRow_of_block hr fun x hx => Below.heap_alloc _ _ _ (hr.lt x hx).2, ?_, fun _ => (Below.heap_alloc _ _ _ (lt_of_block (h.x0 f13))).trans (h.x0 f13), ?_, ?_, fun _ => ?_, ?_, ?_⟩
  · by_cases e : j = 9
    · subst e; rw [setV_eq]; rfl
    · rw [gdD e] at hl
      rw [setV_ne e, h.kn j hj hl]
      match j, e with
      | 0, _ | 1, _ | 2, _ | 3, _ | 4, _ | 5, _ | 6, _ | 7, _ | 8, _ | 10, _ | 11, _ | 12, _ => rfl
      | k + 13, _ => omega
  · rw [gdD (by omega), f10]; intro hh; cases hh
  · rw [gdD (by omega), f13]; intro hh; cases hh
  · rw [gdD (by omega), f10]; intro hh; cases hh
  · rw [gdD (by omega)]; exact l8
  · rw [gdD (by omega), f10]; intro hh; cases hh
  · rw [gdD (by omega), f13]; intro hh; cases hh
theorem BgL.app (h : BgL W0 H a1 a2 c1 c2 nn mm inp bx g b i dv rows nb g9 dv' L val W) (hs : 13 < L.size) (hf : L.getD 10 false = false) (l9 : L.getD 9 false = true) (hi16 : i ≤ 16) (ty : TypeId) (l4 : L.getD 4 false = true := by assumption) :
    ∃ v' W', (Builtin.append_ #[62, 62] ty #[dv, .slice (some ⟨g9, 0, none⟩) 1 1]).run Try.prog W = .ok v' W' ∧ BgL W0 H a1 a2 c1 c2 nn mm inp bx g b i dv rows nb g9 v' (L.setIfInBounds 10 true) (setV val 10 v') W' := by
  obtain ⟨i0, hi, hz0, hzz1, hzz2⟩ := info_parts info44s
  have f13 := h.no13 hf
  have hz := h.bel.size
  have hH := h.hH
  have hb := h.hb
  have hr := h.r0 hf
  obtain ⟨q1, q2, q3⟩ := h.n8 (h.d9 l9)
  obtain ⟨p1, p2⟩ := h.n9 l9 hf
  have hc : ∀ (j : Nat) u, [Value.slice (some ⟨nb, 0, none⟩) nn nn][j]? = some u → W.cell? ((⟨g9, 0, none⟩ : Addr).add j) = some u := fun j u hu => by
    match j, hu with
    | 0, hu =>
      simp at hu; subst hu
      show W.cell? ⟨g9, 0, none⟩ = _
      simp [World.cell?, p2]
    | j + 1, hu => simp at hu
  obtain ⟨v', W', hrun, ho, hg, _⟩ := run_append_own (P := Try.prog) W H 62 ty 44 i0 (.slice none 0 0) 1 24 Try.underlying62 hi hz0 hzz1 hzz2 rfl (by decide) dv i rows hr ⟨g9, 0, none⟩ 1 1 [.slice (some ⟨nb, 0, none⟩) nn nn] rfl hc (by simp [Value.oneCell']) (by unfold maxLen; omega) (by omega) (by omega)
  have hw := run_append_where (P := Try.prog) W H 62 ty 44 i0 (.slice none 0 0) 1 24 Try.underlying62 hi hz0 hzz1 hzz2 dv i rows hr ⟨g9, 0, none⟩ 1 1 (by decide) [.slice (some ⟨nb, 0, none⟩) nn nn] rfl hc (by simp [Value.oneCell']) (by unfold maxLen; omega) (by omega) v' W' hrun
  have hb10 : Bel (fun x => x = b ∨ dv.ownBlock = some x) W0.heap.size W0 W' := h.bel.trans ⟨hg.os, hg.tape, hg.output, hg.size, fun x hx hn => hg.block x (by omega) fun e => hn (.inr e.symm)⟩
  refine ⟨v', W', hrun, h.hH, h.hb, h.hdv, hb10, fun j hj hl => ?_, fun _ => ⟨q1, by have := hg.size; omega, (hg.block nb q2 fun e => ?_).trans q3⟩, ?_, ?_, fun _ => ⟨ho, ?_, ?_⟩, fun _ => (hg.block b (by omega) fun e => ?_).trans (h.x0 f13), ?_, fun _ => ?_, ?_, fun _ => ?_, ?_⟩
  · by_cases e : j = 10
    · subst e; rw [setV_eq]; rfl
    · rw [gdD e] at hl
      rw [setV_ne e, h.kn j hj hl]
      match j, e with
      | 0, _ | 1, _ | 2, _ | 3, _ | 4, _ | 5, _ | 6, _ | 7, _ | 8, _ | 9, _ | 11, _ | 12, _ => rfl
      | k + 13, _ => omega
  · have := h.hdv nb e.symm; omega
  · intro _; rw [getD_set_eq3 (by omega)]; intro hh; cases hh
  · rw [getD_set_eq3 (by omega)]; intro hh; cases hh
  · rcases hw with h1 | h1
    · exact .inl h1
    · exact .inr ⟨_, h1, by omega⟩
  · intro e
    rcases hw with h1 | h1
    · have := h.hdv nb (h1.symm.trans e); omega
    · rw [h1] at e
      have := Option.some.inj e
      omega
  · have := (hr.lt b e.symm).1; omega
  · rw [gdD (by omega), f13]; intro hh; cases hh
  · rw [gdD (by omega)]; exact l4
  · rw [gdD (by omega), gdD (by omega)]; exact h.d9
  · rw [gdD (by omega)]; exact l9
  · rw [gdD (by omega), f13]; intro hh; cases hh
theorem BgL.store (h : BgL W0 H a1 a2 c1 c2 nn mm inp bx g b i dv rows nb g9 dv' L val W) (hs : 13 < L.size) (hf : L.getD 13 false = false) (l10 : L.getD 10 false = true) :
    BgL W0 H a1 a2 c1 c2 nn mm inp bx g b i dv rows nb g9 dv' (L.setIfInBounds 13 true) (setV val 13 undef) (W.setCell ⟨b, 5, none⟩ dv') := by
  have e : ∀ x, x ≠ b → (W.setCell ⟨b, 5, none⟩ dv').heap[x]? = W.heap[x]? := fun x hx => by simp [World.setCell, Array.getElem?_modify, Ne.symm hx]
  have hb := h.hb
  have hH := h.hH
  obtain ⟨q1, q2, q3⟩ := h.n8 (h.d9 (h.d10 l10))
  obtain ⟨r1, r2, r3⟩ := h.r1 l10
  have hx := h.x0 hf
  refine ⟨h.hH, h.hb, h.hdv, h.bel.setCell (p := ⟨b, 5, none⟩) (.inl (.inl rfl)) _, fun j hj hl => ?_, fun hl => ⟨q1, by simp [World.setCell]; omega, (e nb (by omega)).trans q3⟩, ?_, ?_, fun _ => ⟨ownsRow_of_block r1 fun x hx => e x (by have := (r1.lt x hx).1; omega), r2, r3⟩, ?_, fun _ => ?_, ?_, ?_, ?_, fun _ => ?_⟩
  · rw [setV_ne (by omega)]; exact h.kn j hj (by rwa [gdD (by omega)] at hl)
  · intro _; rw [gdD (by omega), l10]; intro hh; cases hh
  · rw [gdD (by omega), l10]; intro hh; cases hh
  · rw [getD_set_eq3 (by omega)]; intro hh; cases hh
  · unfold simBox at hx ⊢
    simp [World.setCell, Array.getElem?_modify, hx]
  · rw [gdD (by omega), gdD (by omega)]; exact h.d4
  · rw [gdD (by omega), gdD (by omega)]; exact h.d9
  · rw [gdD (by omega), gdD (by omega)]; exact h.d10
  · rw [gdD (by omega)]; exact l10
end

structure BegI (n : NetM) (a1 a2 : Option Addr) (c1 c2 : Nat) (w : World) (g b H i : Nat) (dv : Value) (rb : Nat → Nat) (A : World) : Prop where
  box : A.heap[b]? = some (simBox a1 a2 c1 c2 n.ps.length n.ss.length n.inp g dv)
  net : NetBox A w.heap.size (.slice a1 n.ps.length c1) n.inp (.slice a2 n.ss.length c2)
  stb : A.heap[g]? = some (.cells (stC (List.replicate n.ps.length (0, 0))).toArray 98)
  dvo : A.ownsRow H 44 1 dv i ((List.range i).map fun d => .slice (some ⟨rb d, 0, none⟩) n.ps.length n.ps.length)
  row : ∀ d, d < i → RowAt A (rb d) n.ps.length (fun _ => 0)
  rlo : ∀ d, d < i → H ≤ rb d
  inj : ∀ d d', d < i → d' < i → rb d = rb d' → d = d'
  ap : ∀ d, d < i → dv.ownBlock ≠ some (rb d)
  bel : Below w.heap.size w A
  lo : w.heap.size < g ∧ w.heap.size < b ∧ g < H ∧ b < H ∧ g ≠ b ∧ H ≤ A.heap.size
theorem BegI.next {n : NetM} {a1 a2 : Option Addr} {c1 c2 : Nat} {w : World} {g b H i : Nat} {dv : Value} {rb : Nat → Nat} {A W : World} {nb g9 bx : Nat} {dv' : Value} {val : Nat → Value} (h : BegI n a1 a2 c1 c2 w g b H i dv rb A)
    (hI : BgL A H a1 a2 c1 c2 n.ps.length n.ss.length n.inp bx g b i dv ((List.range i).map fun d => .slice (some ⟨rb d, 0, none⟩) n.ps.length n.ps.length) nb g9 dv' (Array.replicate 14 true) val W) :
    BegI n a1 a2 c1 c2 w g b H (i + 1) dv' (fun d => if d = i then nb else rb d) W := by
  obtain ⟨l1, l2, l3, l4, l5, l6⟩ := h.lo
  obtain ⟨q1, q2, q3⟩ := hI.n8 (by simp)
  obtain ⟨r1, r2, r3⟩ := hI.r1 (by simp)
  have hx := hI.x1 (by simp)
  have hbl := hI.bel
  have hdl := fun x hx => (h.dvo.lt x hx)
  have keep : ∀ x, x < A.heap.size → x ≠ b → dv.ownBlock ≠ some x → W.heap[x]? = A.heap[x]? := fun x h1 h2 h3 => hbl.block x h1 (by rintro (h4 | h4); exact h2 h4; exact h3 h4)
  have rl : ∀ d, d < i → rb d < A.heap.size := fun d hd => lt_of_block (h.row d hd)
  refine ⟨hx, (keep _ (by omega) (by omega) (fun e => by have := (hdl _ e).1; omega)).trans h.net, (keep _ (by omega) l5 (fun e => by have := (hdl _ e).1; omega)).trans h.stb, ?_, fun d hd => ?_, fun d hd => ?_, fun d d' hd hd' e => ?_, fun d hd => ?_, ?_, l1, l2, l3, l4, l5, by have := hbl.size; omega⟩
  · have e : ((List.range (i + 1)).map fun d => Value.slice (some ⟨if d = i then nb else rb d, 0, none⟩) n.ps.length n.ps.length) = ((List.range i).map fun d => Value.slice (some ⟨rb d, 0, none⟩) n.ps.length n.ps.length) ++ [.slice (some ⟨nb, 0, none⟩) n.ps.length n.ps.length] := by
      rw [List.range_succ, List.map_append]
      congr 1
      · apply List.map_congr_left
        intro d hd
        rw [List.mem_range] at hd
        rw [if_neg (by omega)]
      · simp
    rw [e]; exact r1
  · by_cases q : d = i
    · simp only [if_pos q]; exact q3
    · simp only [if_neg q]
      have hd' : d < i := by omega
      exact (keep _ (rl d hd') (by have := h.rlo d hd'; omega) (h.ap d hd')).trans (h.row d hd')
  · show H ≤ if d = i then nb else rb d
    by_cases q : d = i
    · rw [if_pos q]; omega
    · rw [if_neg q]; exact h.rlo d (by omega)
  · change (if d = i then nb else rb d) = (if d' = i then nb else rb d') at e
    by_cases q : d = i <;> by_cases q' : d' = i
    · omega
    · rw [if_pos q, if_neg q'] at e
      have := rl d' (by omega); omega
    · rw [if_neg q, if_pos q'] at e
      have := rl d (by omega); omega
    · rw [if_neg q, if_neg q'] at e
      exact h.inj d d' (by omega) (by omega) e
  · show dv'.ownBlock ≠ some (if d = i then nb else rb d)
    by_cases q : d = i
    · rw [if_pos q]; exact r3
    · rw [if_neg q]
      intro e
      rcases r2 with h1 | ⟨x, h1, h2⟩
      · exact h.ap d (by omega) (h1.symm.trans e)
      · rw [h1] at e
        have := Option.some.inj e
        have := rl d (by omega)
        omega
  · exact h.bel.trans ⟨hbl.os, hbl.tape, hbl.output, hbl.size, fun x hx => keep x (by have := h.bel.size; omega) (by omega) (fun e => by have := (hdl _ e).1; omega)⟩
theorem BegI.done {n : NetM} {a1 a2 : Option Addr} {c1 c2 : Nat} {w : World} {g b H : Nat} {dv : Value} {rb : Nat → Nat} {A : World} (h : BegI n a1 a2 c1 c2 w g b H 16 dv rb A)
    (hp : PsAt w (.slice a1 n.ps.length c1) n.ps) (hs : SsAt w (.slice a2 n.ss.length c2) n.ss) : ∃ z : RZ, z.bs = b ∧ RefAt n A w.heap.size z a1 a2 c1 c2 0 0 (List.replicate n.ps.length (0, 0)) (fun _ _ => 0) := by
  obtain ⟨l1, l2, l3, l4, l5, l6⟩ := h.lo
  obtain ⟨db, dc, hv⟩ := own_form h.dvo (by omega)
  subst hv
  have hdl := h.dvo.lt db rfl
  refine ⟨⟨b, g, db, dc, rb⟩, rfl, h.box, hp.below h.bel, fun q hq => ?_, hs.below h.bel, fun q hq => ?_, h.stb, by simp, own_base h.dvo (by omega), fun d hd => h.row d hd, fun q hq => ?_, h.inj, fun e => l5 e.symm, by show b ≠ db; omega, by show g ≠ db; omega, fun d hd => ?_, fun d hd => ?_, fun d hd e => ?_⟩
  · rcases hp with ⟨e, _⟩ | ⟨x, off, cap, e, hl, _⟩
    · rw [e] at hq; cases hq
    · rw [e] at hq; cases hq; exact hl
  · rcases hs with ⟨e, _⟩ | ⟨x, off, cap, e, hl, _⟩
    · rw [e] at hq; cases hq
    · rw [e] at hq; cases hq; exact hl
  · rcases hq with hq | hq | hq | ⟨d, hd, hq⟩
    · have : q = b := hq; omega
    · have : q = g := hq; omega
    · have : q = db := hq; omega
    · have : q = rb d := hq
      have := h.rlo d hd; omega
  · show b ≠ rb d
    have := h.rlo d hd; omega
  · show g ≠ rb d
    have := h.rlo d hd; omega
  · exact h.ap d hd (by show some db = some (rb d); rw [show db = rb d from e])
set_option maxRecDepth 100000 in
set_option maxHeartbeats 8000000 in
theorem rbegin_any (n : NetM) (hok : NetOk n) (a1 a2 : Option Addr) (c1 c2 : Nat) (w : World) (hp : PsAt w (.slice a1 n.ps.length c1) n.ps) (hs : SsAt w (.slice a2 n.ss.length c2) n.ss) :
    Calls Try.prog 63 #[.agg #[.slice a1 n.ps.length c1, .int .i64 n.inp, .slice a2 n.ss.length c2]] w fun e w' => ∃ z : RZ, e = .returned (.pointer (some ⟨z.bs, 0, none⟩)) ∧ RefAt n w' w.heap.size z a1 a2 c1 c2 0 0 (List.replicate n.ps.length (0, 0)) (fun _ _ => 0) ∧ Below w.heap.size w w' := by
  have hnn := hok.p1
  have hms := Bg.make_states n.ps.length (by omega)
  have hmr := Bg.make_row n.ps.length (by omega)
  have HP := Lib.hid hp
  have HS := Lib.hid hs
  have hnn0 : (0 : Int) ≤ (n.ps.length : Int) := Int.natCast_nonneg _
  clear hp hs
  go_enter Try.func63, Try.ntmps63
  go_upto_region 1 with (fail)
  have hbx : NetBox (w.alloc (.cells #[.slice a1 n.ps.length c1, .int .i64 n.inp, .slice a2 n.ss.length c2] 25)) w.heap.size (.slice a1 n.ps.length c1) n.inp (.slice a2 n.ss.length c2) := alloc_new_at _ _ _ rfl
  have hb0 : Below w.heap.size w (w.alloc (.cells #[.slice a1 n.ps.length c1, .int .i64 n.inp, .slice a2 n.ss.length c2] 25)) := (Below.refl _ _).alloc (Nat.le_refl _) _
  generalize w.alloc (.cells #[.slice a1 n.ps.length c1, .int .i64 n.inp, .slice a2 n.ss.length c2] 25) = W0 at *
  have hz0 := lt_of_block hbx
  have HBX := Lib.hid hbx
  have HB0 := Lib.hid hb0
  clear hbx hb0
  refine wp_region_late (fun L val W => ∃ g b, BgF W0 a1 a2 c1 c2 n.ps.length n.ss.length n.inp w.heap.size g b L val W) (by kernel_rfl) (by kernel_rfl) (by kernel_rfl) (by kernel_rfl) ⟨0, 0, BgF.init⟩ ?stp ?dn
  case stp =>
    intro L val W i' o b' hs ho hlF hdd hI hh hlate
    obtain ⟨g, b, hI⟩ := hI
    have hi' := (List.getElem?_eq_some_iff.1 ho).1
    have hcs : i' = 0 ∨ i' = 1 ∨ i' = 2 ∨ i' = 3 ∨ i' = 4 ∨ i' = 5 ∨ i' = 6 ∨ i' = 7 := by simp at hi'; omega
    have hLs : 7 < L.size := by simp at hs; omega
    obtain ⟨_, _, _⟩ := cells3 (show NetBox W w.heap.size (.slice a1 n.ps.length c1) n.inp (.slice a2 n.ss.length c2) from (hI.bel.block _ hz0).trans HBX.out)
    have hzW : w.heap.size < W.heap.size := Nat.lt_of_lt_of_le hz0 hI.bel.size
    have HI := Lib.hid hI
    have HLF := Lib.hid hlF
    have HD := Lib.hid hdd
    clear hi' hs hI hlF hdd
    rcases hcs with rfl | rfl | rfl | rfl | rfl | rfl | rfl | rfl
    · simp only [List.getElem?_cons_zero, Option.some.injEq] at ho
      subst ho
      have k1 := hh.kept 1 (by simp)
      simp at k1
      go_simp
      exact ⟨_, rfl, g, b, HI.out.skip 0 (by omega) (by omega) (by omega) _ rfl (fun h => by omega) (fun h => by omega)⟩
    · simp only [List.getElem?_cons_zero, List.getElem?_cons_succ, Option.some.injEq] at ho
      subst ho
      have k1 := hh.kept 1 (by simp)
      simp at k1
      go_simp
      exact ⟨_, rfl, g, b, HI.out.skip 1 (by omega) (by omega) (by omega) _ rfl (fun h => by omega) (fun h => by omega)⟩
    · simp only [List.getElem?_cons_zero, List.getElem?_cons_succ, Option.some.injEq] at ho
      subst ho
      have l1 : L.getD 1 false = true := HD.out ⟨1, .data⟩ (by simp) rfl
      have g1 := hh.got 1 _ 6 rfl rfl l1 (by simp)
      rw [HI.out.kn 1 (by omega) l1] at g1
      simp [bg1] at g1
      clear l1
      go_simp
      exact ⟨_, rfl, g, b, HI.out.skip 2 (by omega) (by omega) (by omega) _ rfl (fun h => by omega) (fun h => by omega)⟩
    · simp only [List.getElem?_cons_zero, List.getElem?_cons_succ, Option.some.injEq] at ho
      subst ho
      have l2 : L.getD 2 false = true := HD.out ⟨2, .data⟩ (by simp) rfl
      have g2 := hh.got 2 _ 7 rfl rfl l2 (by simp)
      rw [HI.out.kn 2 (by omega) l2] at g2
      simp [bg1] at g2
      clear l2
      go_simp
      exact ⟨_, rfl, g, b, HI.out.skip 3 (by omega) (by omega) (by omega) _ rfl (fun h => by omega) (fun h => by omega)⟩
    · simp only [List.getElem?_cons_zero, List.getElem?_cons_succ, Option.some.injEq] at ho
      subst ho
      have l3 : L.getD 3 false = true := HD.out ⟨3, .data⟩ (by simp) rfl
      have g3 := hh.got 3 _ 8 rfl rfl l3 (by simp)
      rw [HI.out.kn 3 (by omega) l3] at g3
      simp [bg1] at g3
      clear l3
      go_simp
      exact ⟨_, rfl, W.heap.size, b, HI.out.states (by omega) HLF.out⟩
    · simp only [List.getElem?_cons_zero, List.getElem?_cons_succ, Option.some.injEq] at ho
      subst ho
      have l0 : L.getD 0 false = true := HD.out ⟨0, .data⟩ (by simp) rfl
      have g0 := hh.got 0 _ 5 rfl rfl l0 (by simp)
      rw [HI.out.kn 0 (by omega) l0] at g0
      simp [bg1] at g0
      have l4 : L.getD 4 false = true := HD.out ⟨4, .data⟩ (by simp) rfl
      have g4 := hh.got 4 _ 9 rfl rfl l4 (by simp)
      rw [HI.out.kn 4 (by omega) l4] at g4
      simp [bg1] at g4
      have L4 := Lib.hid l4
      clear l0 l4
      go_simp
      exact ⟨_, rfl, g, b, HI.out.skip 5 (by omega) (by omega) (by omega) _ rfl (fun _ => L4.out) (fun h => by omega)⟩
    · simp only [List.getElem?_cons_zero, List.getElem?_cons_succ, Option.some.injEq] at ho
      subst ho
      have l5 : L.getD 5 false = true := HD.out ⟨5, .data⟩ (by simp) rfl
      have g5 := hh.got 5 _ 10 rfl rfl l5 (by simp)
      rw [HI.out.kn 5 (by omega) l5] at g5
      simp [bg1] at g5
      have L4 := Lib.hid (HI.out.d5 l5)
      clear l5
      go_simp
      exact ⟨_, rfl, g, W.heap.size, HI.out.box (by omega) HLF.out L4.out⟩
    · simp only [List.getElem?_cons_zero, List.getElem?_cons_succ, Option.some.injEq] at ho
      subst ho
      have l6 : L.getD 6 false = true := HD.out ⟨6, .data⟩ (by simp) rfl
      have g6 := hh.got 6 _ 11 rfl rfl l6 (by simp)
      rw [HI.out.kn 6 (by omega) l6] at g6
      simp [bg1] at g6
      have L6 := Lib.hid l6
      clear l6
      go_simp
      exact ⟨_, rfl, g, b, HI.out.skip 7 (by omega) (by omega) (by omega) _ rfl (fun h => by omega) (fun _ => L6.out)⟩
  case dn =>
    intro val W b' hI hb
    obtain ⟨g, b, hI⟩ := hI
    have kn : ∀ q, q < 8 → val q = bg1 a1 a2 c1 c2 n.ps.length n.ss.length n.inp g b w.heap.size q := fun q hq => hI.kn q hq (replT (by show q < 8; omega))
    simp only [puts, kn 0 (by decide), kn 1 (by decide), kn 2 (by decide), kn 3 (by decide), kn 4 (by decide), kn 5 (by decide), kn 6 (by decide), kn 7 (by decide), bg1] at hb
    obtain ⟨q1, q2⟩ := hI.g4 (by simp)
    obtain ⟨q3, q4, q5⟩ := hI.b6 (by simp)
    have hbel := hI.bel
    have HQ2 := Lib.hid q2
    have HQ5 := Lib.hid q5
    have HBEL := Lib.hid hbel
    clear hI kn q2 q5 hbel
    subst hb
    simp only [Act.put, List.setIfInBounds_toArray, List.set_cons_succ, List.set_cons_zero]
    have hI0 : BegI n a1 a2 c1 c2 w g b W.heap.size 0 (.slice none 0 0) (fun _ => 0) W :=
      ⟨HQ5.out, (HBEL.out.block _ hz0).trans HBX.out, HQ2.out, World.ownsRow_nil _ _ _ _, fun d hd => by omega, fun d hd => by omega, fun d _ hd => by omega, fun d hd => by omega, HB0.out.trans (HBEL.out.mono (by omega)), by omega, by omega, lt_of_block HQ2.out, lt_of_block HQ5.out, q4, Nat.le_refl _⟩
    have HI0 := Lib.hid hI0
    obtain ⟨H, hH⟩ : ∃ H, W.heap.size = H := ⟨_, rfl⟩
    rw [hH] at HI0
    clear hI0 hH HQ2 HQ5 HBEL q1 q3 q4
    go_wp2
    go_loopw [4] (fun s4 wr => ∃ j : Nat, j ≤ 16 ∧ s4 = .int .i64 j ∧ ∃ dv rb, BegI n a1 a2 c1 c2 w g b H j dv rb wr) (fun s4 _ => 16 - (intOf s4).toNat)
    case atStart => exact ⟨0, Nat.zero_le _, rfl, _, _, HI0.out⟩
    case round =>
      obtain ⟨j, hj, rfl, dv, rb, hG⟩ := hrel
      have hj0 : (0 : Int) ≤ (j : Int) := Int.natCast_nonneg _
      have HG := Lib.hid hG
      obtain ⟨l1, l2, l3, l4, l5, l6⟩ := hG.lo
      have hnet := lt_of_block hG.net
      clear hG
      by_cases hlt : j < 16
      · have hj1 : (j : Int) < 16 := by omega
        go_upto_region 5 with (fail)
        refine wp_region_late (fun L val W => ∃ nb g9 dv', BgL wr H a1 a2 c1 c2 n.ps.length n.ss.length n.inp w.heap.size g b j dv ((List.range j).map fun d => .slice (some ⟨rb d, 0, none⟩) n.ps.length n.ps.length) nb g9 dv' L val W) (by kernel_rfl) (by kernel_rfl) (by kernel_rfl) (by kernel_rfl) ⟨0, 0, undef, BgL.init l6 l4 HG.out.dvo HG.out.box⟩ ?stp ?dn
        case stp =>
          intro L val W i' o b' hs ho hlF hdd hI hh hlate
          obtain ⟨nb, gq, dv', hI⟩ := hI
          have hi' := (List.getElem?_eq_some_iff.1 ho).1
          have hcs : i' = 0 ∨ i' = 1 ∨ i' = 2 ∨ i' = 3 ∨ i' = 4 ∨ i' = 5 ∨ i' = 6 ∨ i' = 7 ∨ i' = 8 ∨ i' = 9 ∨ i' = 10 ∨ i' = 11 ∨ i' = 12 ∨ i' = 13 := by simp at hi'; omega
          have hLs : 13 < L.size := by simp at hs; omega
          have hj16 : j ≤ 16 := hj
          have hnW := (hI.bel.block w.heap.size hnet (by rintro (e | e); omega; have := (HG.out.dvo.lt _ e).1; omega)).trans HG.out.net
          obtain ⟨_, _, _⟩ := cells3 (show NetBox W w.heap.size (.slice a1 n.ps.length c1) n.inp (.slice a2 n.ss.length c2) from hnW)
          have hzW : w.heap.size < W.heap.size := Nat.lt_of_lt_of_le hnet hI.bel.size
          have HI := Lib.hid hI
          have HLF := Lib.hid hlF
          have HD := Lib.hid hdd
          clear hi' hs hI hlF hdd hnW
          rcases hcs with rfl | rfl | rfl | rfl | rfl | rfl | rfl | rfl | rfl | rfl | rfl | rfl | rfl | rfl
          · simp only [List.getElem?_cons_zero, Option.some.injEq] at ho
            subst ho
            have k3 := hh.kept 3 (by simp)
            simp at k3
            go_simp
            exact ⟨_, rfl, nb, gq, dv', HI.out.skip 0 (by omega) (by omega) (by omega) (by omega) _ rfl⟩
          · simp only [List.getElem?_cons_zero, List.getElem?_cons_succ, Option.some.injEq] at ho
            subst ho
            have k3 := hh.kept 3 (by simp)
            simp at k3
            go_simp
            exact ⟨_, rfl, nb, gq, dv', HI.out.skip 1 (by omega) (by omega) (by omega) (by omega) _ rfl⟩
          · simp only [List.getElem?_cons_zero, List.getElem?_cons_succ, Option.some.injEq] at ho
            subst ho
            have l1 : L.getD 1 false = true := HD.out ⟨1, .data⟩ (by simp) rfl
            have g1 := hh.got 1 _ 17 rfl rfl l1 (by simp)
            rw [HI.out.kn 1 (by omega) l1] at g1
            simp [bg5] at g1
            clear l1
            go_simp
            exact ⟨_, rfl, nb, gq, dv', HI.out.skip 2 (by omega) (by omega) (by omega) (by omega) _ rfl⟩
          · simp only [List.getElem?_cons_zero, List.getElem?_cons_succ, Option.some.injEq] at ho
            subst ho
            have l2 : L.getD 2 false = true := HD.out ⟨2, .data⟩ (by simp) rfl
            have g2 := hh.got 2 _ 18 rfl rfl l2 (by simp)
            rw [HI.out.kn 2 (by omega) l2] at g2
            simp [bg5] at g2
            clear l2
            go_simp
            exact ⟨_, rfl, nb, gq, dv', HI.out.skip 3 (by omega) (by omega) (by omega) (by omega) _ rfl⟩
          · simp only [List.getElem?_cons_zero, List.getElem?_cons_succ, Option.some.injEq] at ho
            subst ho
            have l3 : L.getD 3 false = true := HD.out ⟨3, .data⟩ (by simp) rfl
            have g3 := hh.got 3 _ 19 rfl rfl l3 (by simp)
            rw [HI.out.kn 3 (by omega) l3] at g3
            simp [bg5] at g3
            have f13 := HI.out.no4 HLF.out
            have hbxW := HI.out.x0 f13
            obtain ⟨_, _, _, _, _, _⟩ := cells6 hbxW
            have hlb := lt_of_block hbxW
            clear l3 hbxW f13
            go_simp
            exact ⟨_, rfl, nb, gq, dv', HI.out.skip 4 (by omega) (by omega) (by omega) (by omega) _ rfl⟩
          · simp only [List.getElem?_cons_zero, List.getElem?_cons_succ, Option.some.injEq] at ho
            subst ho
            have k1 := hh.kept 1 (by simp)
            simp at k1
            go_simp
            exact ⟨_, rfl, nb, gq, dv', HI.out.skip 5 (by omega) (by omega) (by omega) (by omega) _ rfl⟩
          · simp only [List.getElem?_cons_zero, List.getElem?_cons_succ, Option.some.injEq] at ho
            subst ho
            have l5 : L.getD 5 false = true := HD.out ⟨5, .data⟩ (by simp) rfl
            have g5 := hh.got 5 _ 21 rfl rfl l5 (by simp)
            rw [HI.out.kn 5 (by omega) l5] at g5
            simp [bg5] at g5
            clear l5
            go_simp
            exact ⟨_, rfl, nb, gq, dv', HI.out.skip 6 (by omega) (by omega) (by omega) (by omega) _ rfl⟩
          · simp only [List.getElem?_cons_zero, List.getElem?_cons_succ, Option.some.injEq] at ho
            subst ho
            have l6 : L.getD 6 false = true := HD.out ⟨6, .data⟩ (by simp) rfl
            have g6 := hh.got 6 _ 22 rfl rfl l6 (by simp)
            rw [HI.out.kn 6 (by omega) l6] at g6
            simp [bg5] at g6
            clear l6
            go_simp
            exact ⟨_, rfl, nb, gq, dv', HI.out.skip 7 (by omega) (by omega) (by omega) (by omega) _ rfl⟩
          · simp only [List.getElem?_cons_zero, List.getElem?_cons_succ, Option.some.injEq] at ho
            subst ho
            have l7 : L.getD 7 false = true := HD.out ⟨7, .data⟩ (by simp) rfl
            have g7 := hh.got 7 _ 23 rfl rfl l7 (by simp)
            rw [HI.out.kn 7 (by omega) l7] at g7
            simp [bg5] at g7
            clear l7
            go_simp
            exact ⟨_, rfl, W.heap.size, gq, dv', HI.out.row (by omega) HLF.out⟩
          · simp only [List.getElem?_cons_zero, List.getElem?_cons_succ, Option.some.injEq] at ho
            subst ho
            have l8 : L.getD 8 false = true := HD.out ⟨8, .data⟩ (by simp) rfl
            have g8 := hh.got 8 _ 24 rfl rfl l8 (by simp)
            rw [HI.out.kn 8 (by omega) l8] at g8
            simp [bg5] at g8
            have L8 := Lib.hid l8
            clear l8
            go_simp
            exact ⟨_, rfl, nb, W.heap.size, dv', HI.out.one (by omega) HLF.out L8.out⟩
          · simp only [List.getElem?_cons_zero, List.getElem?_cons_succ, Option.some.injEq] at ho
            subst ho
            have l4 : L.getD 4 false = true := HD.out ⟨4, .data⟩ (by simp) rfl
            have g4 := hh.got 4 _ 20 rfl rfl l4 (by simp)
            rw [HI.out.kn 4 (by omega) l4] at g4
            simp [bg5] at g4
            have l9 : L.getD 9 false = true := HD.out ⟨9, .data⟩ (by simp) rfl
            have g9 := hh.got 9 _ 25 rfl rfl l9 (by simp)
            rw [HI.out.kn 9 (by omega) l9] at g9
            simp [bg5] at g9
            have e0 : b'.eval (.tmp 20) = dv := (hh.got 4 _ 20 rfl rfl l4 (by simp)).trans (HI.out.kn 4 (by omega) l4)
            have ep : b'.eval (.tmp 25) = .slice (some ⟨gq, 0, none⟩) 1 1 := (hh.got 9 _ 25 rfl rfl l9 (by simp)).trans (HI.out.kn 9 (by omega) l9)
            obtain ⟨v', w', hr, hw'⟩ := HI.out.app (by omega) HLF.out l9 hj16 62
            unfold Oper.wp execOp
            simp only [resolve, invoke, builtin, Sem.run_bind, Sem.run_pure, Result.andThen_ok, List.map_toArray, List.map_cons, List.map_nil, e0, ep, hr]
            exact ⟨_, rfl, nb, gq, v', hw'⟩
          · simp only [List.getElem?_cons_zero, List.getElem?_cons_succ, Option.some.injEq] at ho
            subst ho
            have l0 : L.getD 0 false = true := HD.out ⟨0, .data⟩ (by simp) rfl
            have g0 := hh.got 0 _ 16 rfl rfl l0 (by simp)
            rw [HI.out.kn 0 (by omega) l0] at g0
            simp [bg5] at g0
            clear l0
            go_simp
            exact ⟨_, rfl, nb, gq, dv', HI.out.skip 11 (by omega) (by omega) (by omega) (by omega) _ rfl⟩
          · simp only [List.getElem?_cons_zero, List.getElem?_cons_succ, Option.some.injEq] at ho
            subst ho
            have l11 : L.getD 11 false = true := HD.out ⟨11, .data⟩ (by simp) rfl
            have g11 := hh.got 11 _ 27 rfl rfl l11 (by simp)
            rw [HI.out.kn 11 (by omega) l11] at g11
            simp [bg5] at g11
            clear l11
            go_simp
            exact ⟨_, rfl, nb, gq, dv', HI.out.skip 12 (by omega) (by omega) (by omega) (by omega) _ rfl⟩
          · simp only [List.getElem?_cons_zero, List.getElem?_cons_succ, Option.some.injEq] at ho
            subst ho
            have l12 : L.getD 12 false = true := HD.out ⟨12, .data⟩ (by simp) rfl
            have g12 := hh.got 12 _ 28 rfl rfl l12 (by simp)
            rw [HI.out.kn 12 (by omega) l12] at g12
            simp [bg5] at g12
            have l10 : L.getD 10 false = true := HD.out ⟨10, .data⟩ (by simp) rfl
            have g10 := hh.got 10 _ 26 rfl rfl l10 (by simp)
            rw [HI.out.kn 10 (by omega) l10] at g10
            simp [bg5] at g10
            have L10 := Lib.hid l10
            obtain ⟨da, dc, hdv⟩ := own_sl (HI.out.r1 l10).1
            subst hdv
            have hbxW := HI.out.x0 HLF.out
            obtain ⟨_, _, _, _, _, _⟩ := cells6 hbxW
            have hfzW : W.frozen? ⟨b, 5, none⟩ = false := by simp [World.frozen?, hbxW, simBox]
            have hlb := lt_of_block hbxW
            clear l12 l10 hbxW
            go_simp
            exact ⟨undef, nb, gq, _, HI.out.store (by omega) HLF.out L10.out⟩
        case dn =>
          intro val W b' hI hb
          obtain ⟨nb, g9, dv', hI⟩ := hI
          have kn : ∀ q, q < 13 → val q = bg5 a1 c1 n.ps.length b w.heap.size dv nb g9 dv' q := fun q hq => hI.kn q hq (replT (by show q < 14; omega))
          have w13 : ∀ a : Act, a.put none (val 13) = a := fun a => rfl
          simp only [puts, w13, kn 0 (by decide), kn 1 (by decide), kn 2 (by decide), kn 3 (by decide), kn 4 (by decide), kn 5 (by decide), kn 6 (by decide), kn 7 (by decide), kn 8 (by decide), kn 9 (by decide), kn 10 (by decide), kn 11 (by decide), kn 12 (by decide), bg5] at hb
          have HN := Lib.hid (HG.out.next hI)
          clear hI kn w13
          subst hb
          simp only [Act.put, List.setIfInBounds_toArray, List.set_cons_succ, List.set_cons_zero]
          go_wp2
          go_roundw
          case rel => exact ⟨j + 1, by omega, by go_num, _, _, HN.out⟩
          case measure => simp [intOf]; omega
      · obtain rfl : j = 16 := by omega
        obtain ⟨z, hz, hR⟩ := HG.out.done HP.out HS.out
        have HZ := Lib.hid hz
        have HR := Lib.hid hR
        clear hz hR hlt hj
        go_wp2
        go_ret
        exact ⟨z, by rw [HZ.out]; rfl, HR.out, HG.out.bel⟩
end Go.Proofs.Ytgbcdebnanejpaa
