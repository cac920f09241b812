/- The region of net.Join that makes the new network: what holds, whatever its order; what the loop behind it finds. -/
import Derived.Test.YtgbcdebnanejpaaJc
namespace Go.Proofs.Ytgbcdebnanejpaa.Rn
set_option linter.unusedVariables false
open Go.RowKit Go.Shelf

structure JnR (W0 : World) (H : Nat) (I : Int) (pl : List Prm) (sl : List Syn) (s1 s2 s3 s4 : Value) (Kv : Nat → Value) (L : Array Bool) (val : Nat → Value) (W : World) : Prop where
  hz : H = W0.heap.size
  known : ∀ j, j < 15 → j ≠ 4 → j ≠ 5 → L.getD j false = true → val j = Kv j
  bel : Below H W0 W
  mk4 : L.getD 4 false = true → L.getD 5 false = false → val 4 = .slice (some ⟨vb (val 4), 0, none⟩) 2 2 ∧ W.heap[vb (val 4)]? = some (.cells #[s1, s2] 22)
  mk15 : L.getD 15 false = true → L.getD 16 false = false → val 15 = .slice (some ⟨vb (val 15), 0, none⟩) 2 2 ∧ W.heap[vb (val 15)]? = some (.cells #[s3, s4] 23)
  o5 : L.getD 5 false = true → W.ownsRow H 39 8 (val 5) pl.length (prmCs pl)
  o16 : L.getD 16 false = true → W.ownsRow H 96 4 (val 16) sl.length (synCs sl)
  bld : L.getD 17 false = true → val 17 = .agg #[val 5, .int .i64 I, val 16]
  al : L.getD 18 false = true → val 18 = .pointer (some ⟨vb (val 18), 0, none⟩) ∧ H ≤ vb (val 18) ∧ ∃ u x v, W.heap[vb (val 18)]? = some (.cells #[u, x, v] 25) ∧ (L.getD 19 false = true → u = val 5 ∧ x = .int .i64 I ∧ v = val 16)
  a5 : L.getD 5 false = true → L.getD 18 false = true → (val 5).ownBlock ≠ some (vb (val 18))
  a16 : L.getD 16 false = true → L.getD 18 false = true → (val 16).ownBlock ≠ some (vb (val 18))
  a516 : L.getD 5 false = true → L.getD 16 false = true → ∀ b, (val 5).ownBlock = some b → (val 16).ownBlock ≠ some b
  d17 : L.getD 17 false = true → L.getD 5 false = true ∧ L.getD 16 false = true
  d19 : L.getD 19 false = true → L.getD 17 false = true ∧ L.getD 18 false = true

section
variable {W0 W : World} {H : Nat} {I : Int} {pl : List Prm} {sl : List Syn} {s1 s2 s3 s4 : Value} {Kv : Nat → Value} {L : Array Bool} {val : Nat → Value}
theorem JnR.init (hH : H = W0.heap.size) : JnR W0 H I pl sl s1 s2 s3 s4 Kv (Array.replicate 20 false) (fun _ => undef) { W0 with drawn := W0.drawn + 1 } := by
  have z : ∀ j, (Array.replicate 20 false).getD j false = true → False := fun j h => by
    simp [Array.getD_eq_getD_getElem?, Array.getElem?_replicate] at h
    split at h <;> simp_all
  exact ⟨hH, fun j _ _ _ h => (z _ h).elim, ⟨rfl, rfl, rfl, Nat.le_refl _, fun _ _ => rfl⟩, fun h => (z _ h).elim, fun h => (z _ h).elim, fun h => (z _ h).elim, fun h => (z _ h).elim, fun h => (z _ h).elim, fun h => (z _ h).elim, fun h => (z _ h).elim, fun h => (z _ h).elim, fun h => (z _ h).elim, fun h => (z _ h).elim, fun h => (z _ h).elim⟩
theorem JnR.step (h : JnR W0 H I pl sl s1 s2 s3 s4 Kv L val W) (i : Nat) (hi : i < 19) (hs : 19 < L.size) (u : Value) (W' : World) (hb : Below W.heap.size W W') (hf : L.getD i false = false)
    (hk : i < 15 → i ≠ 4 → i ≠ 5 → u = Kv i)
    (h4 : i = 4 → u = .slice (some ⟨W.heap.size, 0, none⟩) 2 2 ∧ W'.heap[W.heap.size]? = some (.cells #[s1, s2] 22))
    (h15 : i = 15 → u = .slice (some ⟨W.heap.size, 0, none⟩) 2 2 ∧ W'.heap[W.heap.size]? = some (.cells #[s3, s4] 23))
    (h5 : i = 5 → W'.ownsRow W.heap.size 39 8 u pl.length (prmCs pl))
    (h16 : i = 16 → W'.ownsRow W.heap.size 96 4 u sl.length (synCs sl))
    (h17 : i = 17 → u = .agg #[val 5, .int .i64 I, val 16] ∧ L.getD 5 false = true ∧ L.getD 16 false = true)
    (h18 : i = 18 → u = .pointer (some ⟨W.heap.size, 0, none⟩) ∧ ∃ u x v, W'.heap[W.heap.size]? = some (.cells #[u, x, v] 25)) :
    JnR W0 H I pl sl s1 s2 s3 s4 Kv (L.setIfInBounds i true) (setV val i u) W' := by
  have hHW : H ≤ W.heap.size := by
    rw [h.hz]; exact h.bel.size
  have g : ∀ j, j ≠ i → (L.setIfInBounds i true).getD j false = true → L.getD j false = true := fun j hj hl => by rwa [getD_ne (fun e => hj e.symm)] at hl
  have gf : ∀ j, (L.setIfInBounds i true).getD j false = false → L.getD j false = false := fun j hl => by
    by_cases e : i = j
    · subst e; exact hf
    · rwa [getD_ne e] at hl
  have g' : ∀ j, L.getD j false = true → (L.setIfInBounds i true).getD j false = true := fun j hl => by
    by_cases e : i = j
    · subst e; rw [hf] at hl; cases hl
    · rw [getD_ne e]; exact hl
  have h19 : (L.setIfInBounds i true).getD 19 false = true → L.getD 19 false = true := fun hl => g 19 (by omega) hl
  have lt18 : L.getD 18 false = true → vb (val 18) < W.heap.size := fun hl => by
    obtain ⟨_, _, _, _, _, e, _⟩ := h.al hl
    exact lt_of_block e
  have lt5 : L.getD 5 false = true → ∀ b, (val 5).ownBlock = some b → b < W.heap.size := fun hl b hb => ((h.o5 hl).lt b hb).2
  have lt16 : L.getD 16 false = true → ∀ b, (val 16).ownBlock = some b → b < W.heap.size := fun hl b hb => ((h.o16 hl).lt b hb).2
  refine ⟨h.hz, fun j hj h4' h5' hl => ?_, h.bel.trans (hb.mono hHW), fun hl hl2 => ?_, fun hl hl2 => ?_, fun hl => ?_, fun hl => ?_, fun hl => ?_, fun hl => ?_, fun hl1 hl2 => ?_, fun hl1 hl2 => ?_, fun hl1 hl2 => ?_, fun hl => ?_, fun hl => ?_⟩
  · by_cases e : j = i
    · subst e; rw [sv_eq]; exact hk hj h4' h5'
    · rw [sv_ne e]; exact h.known j hj h4' h5' (g j e hl)
  · by_cases e : 4 = i
    · subst e; rw [sv_eq]
      obtain ⟨e1, e2⟩ := h4 rfl
      rw [e1]
      exact ⟨rfl, e2⟩
    · rw [sv_ne e]
      obtain ⟨e1, e3⟩ := h.mk4 (g 4 e hl) (gf 5 hl2)
      exact ⟨e1, (hb.block _ (lt_of_block e3)).trans e3⟩
  · by_cases e : 15 = i
    · subst e; rw [sv_eq]
      obtain ⟨e1, e2⟩ := h15 rfl
      rw [e1]
      exact ⟨rfl, e2⟩
    · rw [sv_ne e]
      obtain ⟨e1, e3⟩ := h.mk15 (g 15 e hl) (gf 16 hl2)
      exact ⟨e1, (hb.block _ (lt_of_block e3)).trans e3⟩
  · by_cases e : 5 = i
    · subst e; rw [sv_eq]
      exact ownsRow_base (h5 rfl) hHW
    · rw [sv_ne e]
      have h1 := h.o5 (g 5 e hl)
      exact ownsRow_of_block h1 fun b hb' => hb.block b (h1.lt b hb').2
  · by_cases e : 16 = i
    · subst e; rw [sv_eq]
      exact ownsRow_base (h16 rfl) hHW
    · rw [sv_ne e]
      have h1 := h.o16 (g 16 e hl)
      exact ownsRow_of_block h1 fun b hb' => hb.block b (h1.lt b hb').2
  · by_cases e : 17 = i
    · subst e; rw [sv_eq, sv_ne (by omega), sv_ne (by omega)]; exact (h17 rfl).1
    · rw [sv_ne e]
      have h9' := h.d17 (g 17 e hl)
      rw [h.bld (g 17 e hl)]
      have e3 : (5 : Nat) ≠ i := fun e => by subst e; rw [hf] at h9'; exact absurd h9'.1 (by simp)
      have e8 : (16 : Nat) ≠ i := fun e => by subst e; rw [hf] at h9'; exact absurd h9'.2 (by simp)
      rw [sv_ne e3, sv_ne e8]
  · by_cases e : 18 = i
    · subst e; rw [sv_eq]
      obtain ⟨e1, u', x', v', e2⟩ := h18 rfl
      rw [e1]
      refine ⟨rfl, hHW, u', x', v', e2, fun h11' => ?_⟩
      have := (h.d19 (h19 h11')).2
      rw [hf] at this; cases this
    · rw [sv_ne e]
      obtain ⟨e1, e2, u', x', v', e3, e4⟩ := h.al (g 18 e hl)
      refine ⟨e1, e2, u', x', v', (hb.block _ (lt_of_block e3)).trans e3, fun h11' => ?_⟩
      have h11'' := h19 h11'
      have h9' := h.d17 (h.d19 h11'').1
      have e3 : (5 : Nat) ≠ i := fun e => by subst e; rw [hf] at h9'; exact absurd h9'.1 (by simp)
      have e8 : (16 : Nat) ≠ i := fun e => by subst e; rw [hf] at h9'; exact absurd h9'.2 (by simp)
      rw [sv_ne e3, sv_ne e8]
      exact e4 h11''
  · by_cases e : 5 = i
    · subst e
      rw [sv_eq, sv_ne (by omega)]
      intro e'
      have h1 := ((h5 rfl).lt _ e').1
      have h2 := lt18 (g 18 (by omega) hl2)
      omega
    · by_cases e2 : 18 = i
      · subst e2
        rw [sv_eq, sv_ne (by omega), (h18 rfl).1]
        intro e'
        have := lt5 (g 5 e hl1) _ e'
        simp [vb] at this
      · rw [sv_ne e, sv_ne e2]; exact h.a5 (g 5 e hl1) (g 18 e2 hl2)
  · by_cases e : 16 = i
    · subst e
      rw [sv_eq, sv_ne (by omega)]
      intro e'
      have h1 := ((h16 rfl).lt _ e').1
      have h2 := lt18 (g 18 (by omega) hl2)
      omega
    · by_cases e2 : 18 = i
      · subst e2
        rw [sv_eq, sv_ne (by omega), (h18 rfl).1]
        intro e'
        have := lt16 (g 16 e hl1) _ e'
        simp [vb] at this
      · rw [sv_ne e, sv_ne e2]; exact h.a16 (g 16 e hl1) (g 18 e2 hl2)
  · by_cases e : 5 = i
    · subst e
      rw [sv_eq, sv_ne (by omega)]
      intro b hb1 hb2
      have h1 := ((h5 rfl).lt _ hb1).1
      have h2 := lt16 (g 16 (by omega) hl2) _ hb2
      omega
    · by_cases e2 : 16 = i
      · subst e2
        rw [sv_eq, sv_ne (by omega)]
        intro b hb1 hb2
        have h1 := ((h16 rfl).lt _ hb2).1
        have h2 := lt5 (g 5 (by omega) hl1) _ hb1
        omega
      · rw [sv_ne e, sv_ne e2]; exact h.a516 (g 5 e hl1) (g 16 e2 hl2)
  · by_cases e : 17 = i
    · subst e; obtain ⟨_, h1, h2⟩ := h17 rfl; exact ⟨g' 5 h1, g' 16 h2⟩
    · obtain ⟨h1, h2⟩ := h.d17 (g 17 e hl); exact ⟨g' 5 h1, g' 16 h2⟩
  · obtain ⟨h1, h2⟩ := h.d19 (h19 hl); exact ⟨g' 17 h1, g' 18 h2⟩
theorem JnR.fill (h : JnR W0 H I pl sl s1 s2 s3 s4 Kv L val W) (hs : 19 < L.size) (g : Nat) (hg : val 18 = .pointer (some ⟨g, 0, none⟩)) (h17 : L.getD 17 false = true) (h18 : L.getD 18 false = true) :
    JnR W0 H I pl sl s1 s2 s3 s4 Kv (L.setIfInBounds 19 true) (setV val 19 undef) (((W.setCell ⟨g, 0, none⟩ (val 5)).setCell ⟨g, 1, none⟩ (.int .i64 I)).setCell ⟨g, 2, none⟩ (val 16)) := by
  have e : ∀ j, j < 19 → (L.setIfInBounds 19 true).getD j false = L.getD j false := fun j hj => getD_ne (by omega)
  have s : ∀ j, j < 19 → setV val 19 undef j = val j := fun j hj => sv_ne (by omega)
  have hv : vb (val 18) = g := by rw [hg]; rfl
  obtain ⟨e1, e2, u, x, v, e3, e4⟩ := h.al h18
  obtain ⟨f5, f16⟩ := h.d17 h17
  have n5 := h.a5 f5 h18
  have n16 := h.a16 f16 h18
  rw [hv] at e1 e2 e3 n5 n16
  have hW : ∀ b, b ≠ g → (((W.setCell ⟨g, 0, none⟩ (val 5)).setCell ⟨g, 1, none⟩ (.int .i64 I)).setCell ⟨g, 2, none⟩ (val 16)).heap[b]? = W.heap[b]? := fun b hb => by
    simp [World.setCell, Array.getElem?_modify, Ne.symm hb]
  refine ⟨h.hz, fun j hj h3' h5' hl => ?_, ((h.bel.setCell (p := ⟨g, 0, none⟩) e2 _).setCell (p := ⟨g, 1, none⟩) e2 _).setCell (p := ⟨g, 2, none⟩) e2 _, fun hl hl2 => ?_, fun hl hl2 => ?_, fun hl => ?_, fun hl => ?_, fun hl => ?_, fun hl => ?_, fun hl1 hl2 => ?_, fun hl1 hl2 => ?_, fun hl1 hl2 => ?_, fun hl => ?_, fun hl => ?_⟩
  · rw [s j (by omega)]; rw [e j (by omega)] at hl; exact h.known j hj h3' h5' hl
  · rw [e 5 (by omega), f5] at hl2; cases hl2
  · rw [e 16 (by omega), f16] at hl2; cases hl2
  · rw [s 5 (by omega)]
    exact ownsRow_of_block (h.o5 f5) fun b hb => hW b fun e => n5 (by rw [hb, e])
  · rw [s 16 (by omega)]
    exact ownsRow_of_block (h.o16 f16) fun b hb => hW b fun e => n16 (by rw [hb, e])
  · rw [s 17 (by omega), s 5 (by omega), s 16 (by omega)]; exact h.bld h17
  · rw [s 18 (by omega), s 5 (by omega), s 16 (by omega), hv]
    exact ⟨hg, e2, val 5, .int .i64 I, val 16, by simp [World.setCell, Array.getElem?_modify, e3], fun _ => ⟨rfl, rfl, rfl⟩⟩
  · rw [s 5 (by omega), s 18 (by omega)]; exact h.a5 f5 h18
  · rw [s 16 (by omega), s 18 (by omega)]; exact h.a16 f16 h18
  · rw [s 5 (by omega), s 16 (by omega)]; exact h.a516 f5 f16
  · rw [e 5 (by omega), e 16 (by omega)]; exact ⟨f5, f16⟩
  · rw [e 17 (by omega), e 18 (by omega)]; exact ⟨h17, h18⟩
end
/-- What the loop of Join finds. -/
structure MidJ (w : World) (B H gN : Nat) (ia ib I : Int) (v5 v16 a1 a2 b1 b2 : Value) (pl : List Prm) (Sl : List Syn) (A : World) : Prop where
  row : A.ownsRow H 39 8 v5 pl.length (prmCs pl)
  syn : SRow A H v16 Sl
  box : NetBox A gN v5 I v16
  boxa : NetBox A B a1 ia a2
  boxb : NetBox A (B + 1) b1 ib b2
  box2 : NetBox A (B + 1 + 1) (.slice none 0 0) 0 (.slice none 0 0)
  bel : Below B w A
  loN : H ≤ gN
  loB : B + 1 + 1 < H
  n5N : v5.ownBlock ≠ some gN
  n16N : v16.ownBlock ≠ some gN
  n516 : ∀ b, v5.ownBlock = some b → v16.ownBlock ≠ some b
theorem MidJ.cell {w A : World} {B H gN g o m c : Nat} {ia ib I : Int} {v5 a1 a2 b1 b2 u : Value} {pl : List Prm} {Sl Sl' : List Syn} (h : MidJ w B H gN ia ib I v5 (.slice (some ⟨g, 0, none⟩) m c) a1 a2 b1 b2 pl Sl A) (hg : H ≤ g) (hs : SRow (A.setCell ⟨g, o, none⟩ u) H (.slice (some ⟨g, 0, none⟩) m c) Sl') : MidJ w B H gN ia ib I v5 (.slice (some ⟨g, 0, none⟩) m c) a1 a2 b1 b2 pl Sl' (A.setCell ⟨g, o, none⟩ u) := by
  have hB := h.loB
  have hN : gN ≠ g := fun e => h.n16N (by simp [Value.ownBlock, e])
  have e : ∀ b, b ≠ g → (A.setCell ⟨g, o, none⟩ u).heap[b]? = A.heap[b]? := fun b hb => by simp [World.setCell, Array.getElem?_modify, Ne.symm hb]
  have hbl : Below B A (A.setCell ⟨g, o, none⟩ u) := (Below.refl _ A).setCell (p := ⟨g, o, none⟩) (by show B ≤ g; omega) _
  generalize A.setCell ⟨g, o, none⟩ u = A' at *
  exact ⟨ownsRow_of_block h.row fun b hb => e b fun e => h.n516 b hb (by simp [Value.ownBlock, e]), hs, (e _ hN).trans h.box, (e B (by omega)).trans h.boxa, (e (B + 1) (by omega)).trans h.boxb, (e (B + 1 + 1) (by omega)).trans h.box2, h.bel.trans hbl, h.loN, h.loB, h.n5N, h.n16N, h.n516⟩
def joinK (B : Nat) (ia ib I : Int) (a1 a2 b1 b2 : Value) : Nat → Value
  | 0 => .pointer (some ⟨B, 0, none⟩)
  | 1 => a1
  | 2 => .pointer (some ⟨B + 1, 0, none⟩)
  | 3 => b1
  | 6 => .pointer (some ⟨B, 1, none⟩)
  | 7 => .int .i64 ia
  | 8 => .pointer (some ⟨B + 1, 1, none⟩)
  | 9 => .int .i64 ib
  | 10 => .int .i64 I
  | 11 => .pointer (some ⟨B, 2, none⟩)
  | 12 => a2
  | 13 => .pointer (some ⟨B + 1, 2, none⟩)
  | 14 => b2
  | _ => undef
end Go.Proofs.Ytgbcdebnanejpaa.Rn
