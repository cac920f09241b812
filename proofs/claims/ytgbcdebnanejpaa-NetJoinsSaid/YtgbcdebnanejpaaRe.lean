/- The region of net.Renumber that makes the new network: what holds, whatever its order. -/
import Derived.Test.YtgbcdebnanejpaaRd
namespace Go.Proofs.Ytgbcdebnanejpaa.Rn
set_option linter.unusedVariables false
open Go.RowKit Go.Shelf

def vb : Value → Nat
  | .slice (some a) _ _ => a.block
  | .pointer (some a) => a.block
  | _ => 0
theorem getD_ne {L : Array Bool} {i j : Nat} (h : i ≠ j) : (L.setIfInBounds i true).getD j false = L.getD j false := by
  simp only [Array.getD_eq_getD_getElem?]; rw [Array.getElem?_setIfInBounds_ne h]
theorem getD_eq {L : Array Bool} {i : Nat} (h : i < L.size) : (L.setIfInBounds i true).getD i false = true := by simp [h]
theorem sv_eq {val : Nat → Value} {i : Nat} {v : Value} : setV val i v i = v := by simp [setV]
theorem sv_ne {val : Nat → Value} {i j : Nat} {v : Value} (h : j ≠ i) : setV val i v j = val j := by simp [setV, h]

theorem ownsRow_base {W : World} {B H : Nat} {e : TypeId} {sz : Nat} {v : Value} {n : Nat} {xs : List Value} (h : W.ownsRow B e sz v n xs) (hb : H ≤ B) : W.ownsRow H e sz v n xs := by
  obtain ⟨h1, h2⟩ := h
  refine ⟨h1, ?_⟩
  rcases h2 with h2 | ⟨g, cap, cur, e1, e2, h3⟩
  · exact Or.inl h2
  · exact Or.inr ⟨g, cap, cur, e1, Nat.le_trans hb e2, h3⟩
structure RenR (W0 : World) (H k : Nat) (inp : Int) (ss : List Syn) (Kv : Nat → Value) (L : Array Bool) (val : Nat → Value) (W : World) : Prop where
  hz : H = W0.heap.size
  known : ∀ j, j < 8 → j ≠ 3 → L.getD j false = true → val j = Kv j
  bel : Below H W0 W
  mkr : L.getD 3 false = true → val 3 = .slice (some ⟨vb (val 3), 0, none⟩) k k ∧ H ≤ vb (val 3) ∧ W.heap[vb (val 3)]? = some (.cells (zRow k) 39)
  cl : L.getD 8 false = true → W.ownsRow H 96 4 (val 8) ss.length (synCs ss)
  bld : L.getD 9 false = true → val 9 = .agg #[val 3, .int .i64 inp, val 8]
  al : L.getD 10 false = true → val 10 = .pointer (some ⟨vb (val 10), 0, none⟩) ∧ H ≤ vb (val 10) ∧ ∃ u x v, W.heap[vb (val 10)]? = some (.cells #[u, x, v] 25) ∧ (L.getD 11 false = true → u = val 3 ∧ x = .int .i64 inp ∧ v = val 8)
  a38 : L.getD 3 false = true → L.getD 8 false = true → (val 8).ownBlock ≠ some (vb (val 3))
  a310 : L.getD 3 false = true → L.getD 10 false = true → vb (val 3) ≠ vb (val 10)
  a810 : L.getD 8 false = true → L.getD 10 false = true → (val 8).ownBlock ≠ some (vb (val 10))
  d9 : L.getD 9 false = true → L.getD 3 false = true ∧ L.getD 8 false = true
  d11 : L.getD 11 false = true → L.getD 9 false = true ∧ L.getD 10 false = true

section
variable {W0 W : World} {H k : Nat} {inp : Int} {ss : List Syn} {Kv : Nat → Value} {L : Array Bool} {val : Nat → Value}
theorem RenR.init (hH : H = W0.heap.size) : RenR W0 H k inp ss Kv (Array.replicate 12 false) (fun _ => undef) { W0 with drawn := W0.drawn + 1 } := by
  have z : ∀ j, (Array.replicate 12 false).getD j false = true → False := fun j h => by
    simp [Array.getD_eq_getD_getElem?, Array.getElem?_replicate] at h
    split at h <;> simp_all
  exact ⟨hH, fun j _ _ h => (z _ h).elim, ⟨rfl, rfl, rfl, Nat.le_refl _, fun _ _ => rfl⟩, fun h => (z _ h).elim, fun h => (z _ h).elim, fun h => (z _ h).elim, fun h => (z _ h).elim, fun h => (z _ h).elim, fun h => (z _ h).elim, fun h => (z _ h).elim, fun h => (z _ h).elim, fun h => (z _ h).elim⟩
theorem RenR.step (h : RenR W0 H k inp ss Kv L val W) (i : Nat) (hi : i < 11) (hs : 11 < L.size) (u : Value) (W' : World) (hb : Below W.heap.size W W') (hf : L.getD i false = false)
    (hk : i < 8 → i ≠ 3 → u = Kv i)
    (h3 : i = 3 → u = .slice (some ⟨W.heap.size, 0, none⟩) k k ∧ W'.heap[W.heap.size]? = some (.cells (zRow k) 39))
    (h8 : i = 8 → W'.ownsRow W.heap.size 96 4 u ss.length (synCs ss))
    (h9 : i = 9 → u = .agg #[val 3, .int .i64 inp, val 8] ∧ L.getD 3 false = true ∧ L.getD 8 false = true)
    (h10 : i = 10 → u = .pointer (some ⟨W.heap.size, 0, none⟩) ∧ ∃ u x v, W'.heap[W.heap.size]? = some (.cells #[u, x, v] 25)) :
    RenR W0 H k inp ss Kv (L.setIfInBounds i true) (setV val i u) W' := by
  have hHW : H ≤ W.heap.size := by
    rw [h.hz]; exact h.bel.size
  have g : ∀ j, j ≠ i → (L.setIfInBounds i true).getD j false = true → L.getD j false = true := fun j hj hl => by rwa [getD_ne (fun e => hj e.symm)] at hl
  have g' : ∀ j, L.getD j false = true → (L.setIfInBounds i true).getD j false = true := fun j hl => by
    by_cases e : i = j
    · subst e; rw [hf] at hl; cases hl
    · rw [getD_ne e]; exact hl
  have h11 : (L.setIfInBounds i true).getD 11 false = true → L.getD 11 false = true := fun hl => g 11 (by omega) hl
  have lt3 : L.getD 3 false = true → vb (val 3) < W.heap.size := fun hl => lt_of_block (h.mkr hl).2.2
  have lt10 : L.getD 10 false = true → vb (val 10) < W.heap.size := fun hl => by
    obtain ⟨_, _, _, _, _, e, _⟩ := h.al hl
    exact lt_of_block e
  have lt8 : L.getD 8 false = true → ∀ b, (val 8).ownBlock = some b → b < W.heap.size := fun hl b hb => ((h.cl hl).lt b hb).2
  refine ⟨h.hz, fun j hj h3' hl => ?_, ?_, fun hl => ?_, fun hl => ?_, fun hl => ?_, fun hl => ?_, fun hl1 hl2 => ?_, fun hl1 hl2 => ?_, fun hl1 hl2 => ?_, fun hl => ?_, fun hl => ?_⟩
  · by_cases e : j = i
    · subst e; rw [sv_eq]; exact hk hj h3'
    · rw [sv_ne e]; exact h.known j hj h3' (g j e hl)
  · exact h.bel.trans (hb.mono hHW)
  · by_cases e : 3 = i
    · subst e; rw [sv_eq]
      obtain ⟨e1, e2⟩ := h3 rfl
      rw [e1]
      exact ⟨rfl, hHW, e2⟩
    · rw [sv_ne e]
      obtain ⟨e1, e2, e3⟩ := h.mkr (g 3 e hl)
      exact ⟨e1, e2, (hb.block _ (lt_of_block e3)).trans e3⟩
  · by_cases e : 8 = i
    · subst e; rw [sv_eq]
      have := h8 rfl
      exact ownsRow_base this hHW
    · rw [sv_ne e]
      have h1 := h.cl (g 8 e hl)
      exact ownsRow_of_block h1 fun b hb' => hb.block b (h1.lt b hb').2
  · by_cases e : 9 = i
    · subst e; rw [sv_eq, sv_ne (by omega), sv_ne (by omega)]; exact (h9 rfl).1
    · rw [sv_ne e]
      have h9' := h.d9 (g 9 e hl)
      rw [h.bld (g 9 e hl)]
      have e3 : (3 : Nat) ≠ i := fun e => by subst e; rw [hf] at h9'; exact absurd h9'.1 (by simp)
      have e8 : (8 : Nat) ≠ i := fun e => by subst e; rw [hf] at h9'; exact absurd h9'.2 (by simp)
      rw [sv_ne e3, sv_ne e8]
  · by_cases e : 10 = i
    · subst e; rw [sv_eq]
      obtain ⟨e1, u', x', v', e2⟩ := h10 rfl
      rw [e1]
      refine ⟨rfl, hHW, u', x', v', e2, fun h11' => ?_⟩
      have := (h.d11 (h11 h11')).2
      rw [hf] at this; cases this
    · rw [sv_ne e]
      obtain ⟨e1, e2, u', x', v', e3, e4⟩ := h.al (g 10 e hl)
      refine ⟨e1, e2, u', x', v', (hb.block _ (lt_of_block e3)).trans e3, fun h11' => ?_⟩
      have h11'' := h11 h11'
      have h9' := h.d9 (h.d11 h11'').1
      have e3 : (3 : Nat) ≠ i := fun e => by subst e; rw [hf] at h9'; exact absurd h9'.1 (by simp)
      have e8 : (8 : Nat) ≠ i := fun e => by subst e; rw [hf] at h9'; exact absurd h9'.2 (by simp)
      rw [sv_ne e3, sv_ne e8]
      exact e4 h11''
  · by_cases e : 3 = i
    · subst e
      rw [sv_eq, sv_ne (by omega)]
      rw [(h3 rfl).1]
      intro e'
      have := lt8 (g 8 (by omega) hl2) _ e'
      simp [vb] at this
    · by_cases e2 : 8 = i
      · subst e2
        rw [sv_eq, sv_ne (by omega)]
        intro e'
        have h1 := ((h8 rfl).lt _ e').1
        have h2 := lt3 (g 3 e hl1)
        omega
      · rw [sv_ne e, sv_ne e2]; exact h.a38 (g 3 e hl1) (g 8 e2 hl2)
  · by_cases e : 3 = i
    · subst e
      rw [sv_eq, sv_ne (by omega), (h3 rfl).1]
      have := lt10 (g 10 (by omega) hl2)
      show W.heap.size ≠ vb (val 10)
      omega
    · by_cases e2 : 10 = i
      · subst e2
        rw [sv_eq, sv_ne (by omega), (h10 rfl).1]
        have := lt3 (g 3 e hl1)
        show vb (val 3) ≠ W.heap.size
        omega
      · rw [sv_ne e, sv_ne e2]; exact h.a310 (g 3 e hl1) (g 10 e2 hl2)
  · by_cases e : 10 = i
    · subst e
      rw [sv_eq, sv_ne (by omega)]
      rw [(h10 rfl).1]
      intro e'
      have := lt8 (g 8 (by omega) hl1) _ e'
      simp [vb] at this
    · by_cases e2 : 8 = i
      · subst e2
        rw [sv_eq, sv_ne (by omega)]
        intro e'
        have h1 := ((h8 rfl).lt _ e').1
        have h2 := lt10 (g 10 e hl2)
        omega
      · rw [sv_ne e, sv_ne e2]; exact h.a810 (g 8 e2 hl1) (g 10 e hl2)
  · by_cases e : 9 = i
    · subst e; obtain ⟨_, h1, h2⟩ := h9 rfl; exact ⟨g' 3 h1, g' 8 h2⟩
    · obtain ⟨h1, h2⟩ := h.d9 (g 9 e hl); exact ⟨g' 3 h1, g' 8 h2⟩
  · obtain ⟨h1, h2⟩ := h.d11 (h11 hl); exact ⟨g' 9 h1, g' 10 h2⟩
theorem RenR.fill (h : RenR W0 H k inp ss Kv L val W) (hs : 11 < L.size) (g : Nat) (hg : val 10 = .pointer (some ⟨g, 0, none⟩)) (h9 : L.getD 9 false = true) (h10 : L.getD 10 false = true) :
    RenR W0 H k inp ss Kv (L.setIfInBounds 11 true) (setV val 11 undef) (((W.setCell ⟨g, 0, none⟩ (val 3)).setCell ⟨g, 1, none⟩ (.int .i64 inp)).setCell ⟨g, 2, none⟩ (val 8)) := by
  have e : ∀ j, j < 11 → (L.setIfInBounds 11 true).getD j false = L.getD j false := fun j hj => getD_ne (by omega)
  have s : ∀ j, j < 11 → setV val 11 undef j = val j := fun j hj => sv_ne (by omega)
  have hv : vb (val 10) = g := by rw [hg]; rfl
  obtain ⟨e1, e2, u, x, v, e3, e4⟩ := h.al h10
  have h38 := h.d9 h9
  have n3 := h.a310 h38.1 h10
  have n8 := h.a810 h38.2 h10
  rw [hv] at e1 e2 e3 n3 n8
  have hW : ∀ b, b ≠ g → (((W.setCell ⟨g, 0, none⟩ (val 3)).setCell ⟨g, 1, none⟩ (.int .i64 inp)).setCell ⟨g, 2, none⟩ (val 8)).heap[b]? = W.heap[b]? := fun b hb => by
    simp [World.setCell, Array.getElem?_modify, Ne.symm hb]
  refine ⟨h.hz, fun j hj h3' hl => ?_, ((h.bel.setCell (p := ⟨g, 0, none⟩) e2 _).setCell (p := ⟨g, 1, none⟩) e2 _).setCell (p := ⟨g, 2, none⟩) e2 _, fun hl => ?_, fun hl => ?_, fun hl => ?_, fun hl => ?_, fun hl1 hl2 => ?_, fun hl1 hl2 => ?_, fun hl1 hl2 => ?_, fun hl => ?_, fun hl => ?_⟩
  · rw [s j (by omega)]; rw [e j (by omega)] at hl; exact h.known j hj h3' hl
  · rw [s 3 (by omega)]
    obtain ⟨m1, m2, m3⟩ := h.mkr h38.1
    exact ⟨m1, m2, (hW _ n3).trans m3⟩
  · rw [s 8 (by omega)]
    exact ownsRow_of_block (h.cl h38.2) fun b hb => hW b fun e => n8 (by rw [hb, e])
  · rw [s 9 (by omega), s 3 (by omega), s 8 (by omega)]; exact h.bld h9
  · rw [s 10 (by omega), s 3 (by omega), s 8 (by omega), hv]
    exact ⟨hg, e2, val 3, .int .i64 inp, val 8, by simp [World.setCell, Array.getElem?_modify, e3], fun _ => ⟨rfl, rfl, rfl⟩⟩
  · rw [s 3 (by omega), s 8 (by omega)]; rw [e 3 (by omega)] at hl1; rw [e 8 (by omega)] at hl2; exact h.a38 hl1 hl2
  · rw [s 3 (by omega), s 10 (by omega)]; rw [e 3 (by omega)] at hl1; rw [e 10 (by omega)] at hl2; exact h.a310 hl1 hl2
  · rw [s 8 (by omega), s 10 (by omega)]; rw [e 8 (by omega)] at hl1; rw [e 10 (by omega)] at hl2; exact h.a810 hl1 hl2
  · rw [e 3 (by omega), e 8 (by omega)]; exact h38
  · rw [e 9 (by omega), e 10 (by omega)]; exact ⟨h9, h10⟩
end
end Go.Proofs.Ytgbcdebnanejpaa.Rn
