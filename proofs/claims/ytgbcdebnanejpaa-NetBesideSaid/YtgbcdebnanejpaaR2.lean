/- The region of net.Renumber that makes the new network: what holds, whatever its order. -/
import Derived.Test.YtgbcdebnanejpaaR1
import Derived.StillTailTactics
namespace Go.Proofs.Ytgbcdebnanejpaa.Rn
set_option linter.unusedVariables false
open Go.RowKit Go.Shelf

def vb : Value → Nat
  | .slice (some a) _ _ => a.block
  | .pointer (some a) => a.block
  | _ => 0
theorem getD_ne {L : Array Bool} {i j : Nat} (h : i ≠ j) : (L.setIfInBounds i true).getD j false = L.getD j false := by
  simp only [Array.getD_eq_getD_getElem?]; rw [Array.getElem?_setIfInBounds_ne h]
theorem getD_eq {L : Array Bool} {i : Nat} (h : i < L.size) : (L.setIfInBounds i true).getD i false = true := by simp [h]
theorem sv_eq {val : Nat → Value} {i : Nat} {v : Value} : setV val i v i = v := by simp [setV]
theorem sv_ne {val : Nat → Value} {i j : Nat} {v : Value} (h : j ≠ i) : setV val i v j = val j := by simp [setV, h]

theorem ownsRow_base {W : World} {B H : Nat} {e : TypeId} {sz : Nat} {v : Value} {n : Nat} {xs : List Value} (h : W.ownsRow B e sz v n xs) (hb : H ≤ B) : W.ownsRow H e sz v n xs := by
  obtain ⟨h1, h2⟩ := h
  refine ⟨h1, ?_⟩
  rcases h2 with h2 | ⟨g, cap, cur, e1, e2, h3⟩
  · exact Or.inl h2
  · exact Or.inr ⟨g, cap, cur, e1, Nat.le_trans hb e2, h3⟩
structure RenR (W0 : World) (H k : Nat) (inp : Int) (ss : List Syn) (Kv : Nat → Value) (L : Array Bool) (val : Nat → Value) (W : World) : Prop where
  hz : H = W0.heap.size
  known : ∀ j, j < 8 → j ≠ 3 → L.getD j false = true → val j = Kv j
  bel : Below H W0 W
  mkr : L.getD 3 false = true → val 3 = .slice (some ⟨vb (val 3), 0, none⟩) k k ∧ H ≤ vb (val 3) ∧ W.heap[vb (val 3)]? = some (.cells (zRow k) 39)
  cl : L.getD 8 false = true → W.ownsRow H 96 4 (val 8) ss.length (synCs ss)
  bld : L.getD 9 false = true → val 9 = .agg #[val 3, .int .i64 inp, val 8]
  al : L.getD 10 false = true → val 10 = .pointer (some ⟨vb (val 10), 0, none⟩) ∧ H ≤ vb (val 10) ∧ ∃ u x v, W.heap[vb (val 10)]? = some (.cells #[u, x, v] 25) ∧ (L.getD 11 false = true → u = val 3 ∧ x = .int .i64 inp ∧ v = val 8)
  a38 : L.getD 3 false = true → L.getD 8 false = true → (val 8).ownBlock ≠ some (vb (val 3))
  a310 : L.getD 3 false = true → L.getD 10 false = true → vb (val 3) ≠ vb (val 10)
  a810 : L.getD 8 false = true → L.getD 10 false = true → (val 8).ownBlock ≠ some (vb (val 10))
  d9 : L.getD 9 false = true → L.getD 3 false = true ∧ L.getD 8 false = true
  d11 : L.getD 11 false = true → L.getD 9 false = true ∧ L.getD 10 false = true

section
variable {W0 W : World} {H k : Nat} {inp : Int} {ss : List Syn} {Kv : Nat → Value} {L : Array Bool} {val : Nat → Value}
theorem RenR.init (hH : H = W0.heap.size) : RenR W0 H k inp ss Kv (Array.replicate 12 false) (fun _ => undef) { W0 with drawn := W0.drawn + 1 } := by
  have z : ∀ j, (Array.replicate 12 false).getD j false = true → False := fun j h => by
    simp [Array.getD_eq_getD_getElem?, Array.getElem?_replicate] at h
    split at h <;> simp_all
  exact ⟨hH, fun j _ _ h => (z _ h).elim, ⟨rfl, rfl, rfl, Nat.le_refl _, fun _ _ => rfl⟩, fun h => (z _ h).elim, fun h => (z _ h).elim, fun h => (z _ h).elim, fun h => (z _ h).elim, fun h => (z _ h).elim, fun h => (z _ h).elim, fun h => (z _ h).elim, fun h => (z _ h).elim, fun h => (z _ h).elim⟩
theorem RenR.step (h : RenR W0 H k inp ss Kv L val W) (i : Nat) (hi : i < 11) (hs : 11 < L.size) (u : Value) (W' : World) (hb : Below W.heap.size W W') (hf : L.getD i false = false)
    (hk : i < 8 → i ≠ 3 → u = Kv i)
    (h3 : i = 3 → u = .slice (some ⟨W.heap.size, 0, none⟩) k k ∧ W'.heap[W.heap.size]? = some (.cells (zRow k) 39))
    (h8 : i = 8 → W'.ownsRow W.heap.size 96 4 u ss.length (synCs ss))
    (h9 : i = 9 → u = .agg #[val 3, .int .i64 inp, val 8] ∧ L.getD 3 false = true ∧ L.getD 8 false = true)
    (h10 : i = 10 → u = .pointer (some ⟨W.heap.size, 0, none⟩) ∧ ∃ u x v, W'.heap[W.heap.size]? = some (.cells #[u, x, v] 25)) :
    RenR W0 H k inp ss Kv (L.setIfInBounds i true) (setV val i u) W' := by
  have hHW : H ≤ W.heap.size := by
    rw [h.hz]; exact h.bel.size
  have g : ∀ j, j ≠ i → (L.setIfInBounds i true).getD j false = true → L.getD j false = true := fun j hj hl => by rwa [getD_ne (fun e => hj e.symm)] at hl
  have g' : ∀ j, L.getD j false = true → (L.setIfInBounds i true).getD j false = true := fun j hl => by
    by_cases e : i = j
    · subst e; rw [hf] at hl; cases hl
    · rw [getD_ne e]; exact hl
  have h11 : (L.setIfInBounds i true).getD 11 false = true → L.getD 11 false = true := fun hl => g 11 (by omega) hl
  have lt3 : L.getD 3 false = true → vb (val 3) < W.heap.size := fun hl => lt_of_block (h.mkr hl).2.2
  have lt10 : L.getD 10 false = true → vb (val 10) < W.heap.size := fun hl => by
    obtain ⟨_, _, _, _, _, e, _⟩ := h.al hl
    exact lt_of_block e
  have lt8 : L.getD 8 false = true → ∀ b, (val 8).ownBlock = some b → b < W.heap.size := fun hl b hb => ((h.cl hl).lt b hb).2
  refine ⟨h.hz, fun j hj h3' hl => ?_, ?_, fun hl => ?_, fun hl => ?_, fun hl => ?_, fun hl => ?_, fun hl1 hl2 => ?_, fun hl1 hl2 => ?_, fun hl1 hl2 => ?_, fun hl => ?_, fun hl => ?_⟩
  · by_cases e : j = i
    · subst e; rw [sv_eq]; exact hk hj h3'
    · rw [sv_ne e]; exact h.known j hj h3' (g j e hl)
  · exact h.bel.trans (hb.mono hHW)
  · by_cases e : 3 = i
    · subst e; rw [sv_eq]
      obtain ⟨e1, e2⟩ := h3 rfl
      rw [e1]
      exact ⟨rfl, hHW, e2⟩
    · rw [sv_ne e]
      obtain ⟨e1, e2, e3⟩ := h.mkr (g 3 e hl)
      exact ⟨e1, e2, (hb.block _ (lt_of_block e3)).trans e3⟩
  · by_cases e : 8 = i
    · subst e; rw [sv_eq]
      have := h8 rfl
      exact ownsRow_base this hHW
    · rw [sv_ne e]
      have h1 := h.cl (g 8 e hl)
      exact ownsRow_of_block h1 fun b hb' => hb.block b (h1.lt b hb').2
  · by_cases e : 9 = i
    · subst e; rw [sv_eq, sv_ne (by omega), sv_ne (by omega)]; exact (h9 rfl).1
    · rw [sv_ne e]
      have h9' := h.d9 (g 9 e hl)
      rw [h.bld (g 9 e hl)]
      have e3 : (3 : Nat) ≠ i := fun e => by subst e; rw [hf] at h9'; exact absurd h9'.1 (by simp)
      have e8 : (8 : Nat) ≠ i := fun e => by subst e; rw [hf] at h9'; exact absurd h9'.2 (by simp)
      rw [sv_ne e3, sv_ne e8]
  · by_cases e : 10 = i
    · subst e; rw [sv_eq]
      obtain ⟨e1, u', x', v', e2⟩ := h10 rfl
      rw [e1]
      refine ⟨rfl, hHW, u', x', v', e2, fun h11' => ?_⟩
      have := (h.d11 (h11 h11')).2
      rw [hf] at this; cases this
    · rw [sv_ne e]
      obtain ⟨e1, e2, u', x', v', e3, e4⟩ := h.al (g 10 e hl)
      refine ⟨e1, e2, u', x', v', (hb.block _ (lt_of_block e3)).trans e3, fun h11' => ?_⟩
      have h11'' := h11 h11'
      have h9' := h.d9 (h.d11 h11'').1
      have e3 : (3 : Nat) ≠ i := fun e => by subst e; rw [hf] at h9'; exact absurd h9'.1 (by simp)
      have e8 : (8 : Nat) ≠ i := fun e => by subst e; rw [hf] at h9'; exact absurd h9'.2 (by simp)
      rw [sv_ne e3, sv_ne e8]
      exact e4 h11''
  · by_cases e : 3 = i
    · subst e
      rw [sv_eq, sv_ne (by omega)]
      rw [(h3 rfl).1]
      intro e'
      have := lt8 (g 8 (by omega) hl2) _ e'
      simp [vb] at this
    · by_cases e2 : 8 = i
      · subst e2
        rw [sv_eq, sv_ne (by omega)]
        intro e'
        have h1 := ((h8 rfl).lt _ e').1
        have h2 := lt3 (g 3 e hl1)
        omega
      · rw [sv_ne e, sv_ne e2]; exact h.a38 (g 3 e hl1) (g 8 e2 hl2)
  · by_cases e : 3 = i
    · subst e
      rw [sv_eq, sv_ne (by omega), (h3 rfl).1]
      have := lt10 (g 10 (by omega) hl2)
      show W.heap.size ≠ vb (val 10)
      omega
    · by_cases e2 : 10 = i
      · subst e2
        rw [sv_eq, sv_ne (by omega), (h10 rfl).1]
        have := lt3 (g 3 e hl1)
        show vb (val 3) ≠ W.heap.size
        omega
      · rw [sv_ne e, sv_ne e2]; exact h.a310 (g 3 e hl1) (g 10 e2 hl2)
  · by_cases e : 10 = i
    · subst e
      rw [sv_eq, sv_ne (by omega)]
      rw [(h10 rfl).1]
      intro e'
      have := lt8 (g 8 (by omega) hl1) _ e'
      simp [vb] at this
    · by_cases e2 : 8 = i
      · subst e2
        rw [sv_eq, sv_ne (by omega)]
        intro e'
        have h1 := ((h8 rfl).lt _ e').1
        have h2 := lt10 (g 10 e hl2)
        omega
      · rw [sv_ne e, sv_ne e2]; exact h.a810 (g 8 e2 hl1) (g 10 e hl2)
  · by_cases e : 9 = i
    · subst e; obtain ⟨_, h1, h2⟩ := h9 rfl; exact ⟨g' 3 h1, g' 8 h2⟩
    · obtain ⟨h1, h2⟩ := h.d9 (g 9 e hl); exact ⟨g' 3 h1, g' 8 h2⟩
  · obtain ⟨h1, h2⟩ := h.d11 (h11 hl); exact ⟨g' 9 h1, g' 10 h2⟩
theorem RenR.fill (h : RenR W0 H k inp ss Kv L val W) (hs : 11 < L.size) (g : Nat) (hg : val 10 = .pointer (some ⟨g, 0, none⟩)) (h9 : L.getD 9 false = true) (h10 : L.getD 10 false = true) :
    RenR W0 H k inp ss Kv (L.setIfInBounds 11 true) (setV val 11 undef) (((W.setCell ⟨g, 0, none⟩ (val 3)).setCell ⟨g, 1, none⟩ (.int .i64 inp)).setCell ⟨g, 2, none⟩ (val 8)) := by
  have e : ∀ j, j < 11 → (L.setIfInBounds 11 true).getD j false = L.getD j false := fun j hj => getD_ne (by omega)
  have s : ∀ j, j < 11 → setV val 11 undef j = val j := fun j hj => sv_ne (by omega)
  have hv : vb (val 10) = g := by rw [hg]; rfl
  obtain ⟨e1, e2, u, x, v, e3, e4⟩ := h.al h10
  have h38 := h.d9 h9
  have n3 := h.a310 h38.1 h10
  have n8 := h.a810 h38.2 h10
  rw [hv] at e1 e2 e3 n3 n8
  have hW : ∀ b, b ≠ g → (((W.setCell ⟨g, 0, none⟩ (val 3)).setCell ⟨g, 1, none⟩ (.int .i64 inp)).setCell ⟨g, 2, none⟩ (val 8)).heap[b]? = W.heap[b]? := fun b hb => by
    simp [World.setCell, Array.getElem?_modify, Ne.symm hb]
  refine ⟨h.hz, fun j hj h3' hl => ?_, ((h.bel.setCell (p := ⟨g, 0, none⟩) e2 _).setCell (p := ⟨g, 1, none⟩) e2 _).setCell (p := ⟨g, 2, none⟩) e2 _, fun hl => ?_, fun hl => ?_, fun hl => ?_, fun hl => ?_, fun hl1 hl2 => ?_, fun hl1 hl2 => ?_, fun hl1 hl2 => ?_, fun hl => ?_, fun hl => ?_⟩
  · rw [s j (by omega)]; rw [e j (by omega)] at hl; exact h.known j hj h3' hl
  · rw [s 3 (by omega)]
    obtain ⟨m1, m2, m3⟩ := h.mkr h38.1
    exact ⟨m1, m2, (hW _ n3).trans m3⟩
  · rw [s 8 (by omega)]
    exact ownsRow_of_block (h.cl h38.2) fun b hb => hW b fun e => n8 (by rw [hb, e])
  · rw [s 9 (by omega), s 3 (by omega), s 8 (by omega)]; exact h.bld h9
  · rw [s 10 (by omega), s 3 (by omega), s 8 (by omega), hv]
    exact ⟨hg, e2, val 3, .int .i64 inp, val 8, by simp [World.setCell, Array.getElem?_modify, e3], fun _ => ⟨rfl, rfl, rfl⟩⟩
  · rw [s 3 (by omega), s 8 (by omega)]; rw [e 3 (by omega)] at hl1; rw [e 8 (by omega)] at hl2; exact h.a38 hl1 hl2
  · rw [s 3 (by omega), s 10 (by omega)]; rw [e 3 (by omega)] at hl1; rw [e 10 (by omega)] at hl2; exact h.a310 hl1 hl2
  · rw [s 8 (by omega), s 10 (by omega)]; rw [e 8 (by omega)] at hl1; rw [e 10 (by omega)] at hl2; exact h.a810 hl1 hl2
  · rw [e 3 (by omega), e 8 (by omega)]; exact h38
  · rw [e 9 (by omega), e 10 (by omega)]; exact ⟨h9, h10⟩
end
end Go.Proofs.Ytgbcdebnanejpaa.Rn
namespace Go.Proofs.Ytgbcdebnanejpaa.Rn
set_option linter.unusedVariables false
open Go.RowKit Go.Shelf

def renE (n : NetM) (l : List Int) : Int := if ncheck n ≠ 0 then ncheck n else permE l n.ps.length
def renR (n : NetM) (l : List Int) : NetM := if renE n l = 0 then renN n l else netZ
theorem permF_zero {n : Nat} : ∀ (l seen : List Int), permF n seen l = 0 → ∀ x ∈ l, 0 ≤ x ∧ x < (n : Int)
  | [], _, _, x, hx => by simp at hx
  | y :: r, seen, h, x, hx => by
    unfold permF at h
    by_cases h1 : y < 0 ∨ (n : Int) ≤ y
    · rw [if_pos h1] at h; omega
    · rw [if_neg h1] at h
      by_cases h2 : y ∈ seen
      · rw [if_pos h2] at h; omega
      · rw [if_neg h2] at h
        rcases List.mem_cons.1 hx with rfl | hx
        · omega
        · exact permF_zero r _ h x hx
theorem permE_zero {n : Nat} {l : List Int} (h : permE l n = 0) : l.length = n ∧ ∀ x ∈ l, 0 ≤ x ∧ x < (n : Int) := by
  unfold permE at h
  by_cases h1 : l.length ≠ n
  · rw [if_pos h1] at h; omega
  · rw [if_neg h1] at h
    exact ⟨by simpa using h1, permF_zero l [] h⟩

theorem _root_.Go.Proofs.Ytgbcdebnanejpaa.IntsAt.below' {W w1 : World} {sv : Value} {l : List Int} (h : IntsAt W sv l) (hb : Below W.heap.size W w1) : IntsAt w1 sv l := by
  rcases h with h | ⟨b, off, cap, e, h⟩
  · exact Or.inl h
  · refine Or.inr ⟨b, off, cap, e, fun j hj => ?_⟩
    have h1 := h j hj
    have hl : b < W.heap.size := World.block_lt_of_cell? W _ h1
    exact ((bcell hb).1 _ _ hl).trans h1
theorem netBox_set {W : World} {g : Nat} {a0 c0 a c : Value} {b0 b : Int} (h : NetBox W g a0 b0 c0) : NetBox (((W.setCell ⟨g, 0, none⟩ a).setCell ⟨g, 1, none⟩ (.int .i64 b)).setCell ⟨g, 2, none⟩ c) g a b c := by
  unfold NetBox at *
  simp [World.setCell, Array.getElem?_modify, h]
set_option maxRecDepth 100000 in
set_option maxHeartbeats 4000000 in
theorem ren_bad1 (n : NetM) (l : List Int) (a1 a2 al : Option Addr) (c1 c2 cl : Nat) (he : ncheck n ≠ 0) (w : World)
    (hp : PsAt w (.slice a1 n.ps.length c1) n.ps) (hs : SsAt w (.slice a2 n.ss.length c2) n.ss) :
    Calls Try.prog 30 #[.agg #[.slice a1 n.ps.length c1, .int .i64 n.inp, .slice a2 n.ss.length c2], .slice al l.length cl] w (RenOut (renE n l) (renR n l) w) := by
  have hE : renE n l = ncheck n := if_pos he
  have hR : renR n l = netZ := if_neg (by rw [hE]; exact he)
  rw [hE, hR]
  have hck : ∀ w1, Below w.heap.size w w1 → Calls Try.prog 19 #[.agg #[.slice a1 n.ps.length c1, .int .i64 n.inp, .slice a2 n.ss.length c2]] w1 fun e w' => e = .returned (.int .i64 (ncheck n)) ∧ Below w1.heap.size w1 w' := fun w1 hb => ncheck_any n a1 a2 c1 c2 w1 (hp.below hb) (hs.below hb)
  have hne : (ncheck n != 0) = true := by simp [he]
  generalize ncheck n = X at *
  generalize n.ps.length = k at *
  generalize n.ss.length = m at *
  generalize n.inp = I at *
  have HCK := Lib.hid hck
  clear hck hp hs hE hR he
  go_enter Try.func30, Try.ntmps30
  go_wp2_with (go_at_call 19; refine (HCK.out _ (((Below.refl _ _).alloc (Nat.le_refl _) _).alloc (by simp) _)).mono ?_; rintro e w1 ⟨rfl, hb1⟩; have hbx1 : NetBox w1 (w.heap.size + 1) (.slice none 0 0) 0 (.slice none 0 0) := (hb1.block _ (by simp)).trans (alloc_new_at _ _ _ (by simp)); obtain ⟨_, _, _, _, _, _⟩ := cells3f hbx1; have hz1 : w.heap.size + 1 < w1.heap.size := lt_of_block hbx1)
  have hb2 : Below w.heap.size w w1 := (((Below.refl _ _).alloc (Nat.le_refl _) _).alloc (by simp) _).trans (hb1.mono (by simp; omega))
  have hS := netBox_set (a := .slice none 0 0) (b := 0) (c := .slice none 0 0) hbx1
  have hB := ((hb2.setCell (p := ⟨w.heap.size + 1, 0, none⟩) (by simp) (.slice none 0 0)).setCell (p := ⟨w.heap.size + 1, 1, none⟩) (by simp) (.int .i64 0)).setCell (p := ⟨w.heap.size + 1, 2, none⟩) (by simp) (.slice none 0 0)
  generalize ((w1.setCell ⟨w.heap.size + 1, 0, none⟩ (.slice none 0 0)).setCell ⟨w.heap.size + 1, 1, none⟩ (.int .i64 0)).setCell ⟨w.heap.size + 1, 2, none⟩ (.slice none 0 0) = S at *
  obtain ⟨d0, d1, d2, _, _, _⟩ := cells3f hS
  exact bodyPost_ret (v := .tuple #[.agg #[.slice none 0 0, .int .i64 0, .slice none 0 0], .int .i64 X]) (by simp [results, Try.results30, go_sem, d0, d1, d2]) rfl ⟨_, rfl, netZ_at _, hB⟩
set_option maxRecDepth 100000 in
set_option maxHeartbeats 4000000 in
theorem ren_bad2 (n : NetM) (l : List Int) (a1 a2 al : Option Addr) (c1 c2 cl : Nat) (he : ncheck n = 0) (hq : permE l n.ps.length ≠ 0) (hl : l.length ≤ 100000) (w : World)
    (hp : PsAt w (.slice a1 n.ps.length c1) n.ps) (hs : SsAt w (.slice a2 n.ss.length c2) n.ss) (hi : IntsAt w (.slice al l.length cl) l) :
    Calls Try.prog 30 #[.agg #[.slice a1 n.ps.length c1, .int .i64 n.inp, .slice a2 n.ss.length c2], .slice al l.length cl] w (RenOut (renE n l) (renR n l) w) := by
  have hE : renE n l = permE l n.ps.length := if_neg (by simpa using he)
  have hR : renR n l = netZ := if_neg (by rw [hE]; exact hq)
  rw [hE, hR]
  have hck : ∀ w1, Below w.heap.size w w1 → Calls Try.prog 19 #[.agg #[.slice a1 n.ps.length c1, .int .i64 n.inp, .slice a2 n.ss.length c2]] w1 fun e w' => e = .returned (.int .i64 0) ∧ Below w1.heap.size w1 w' := fun w1 hb => by
    have := ncheck_any n a1 a2 c1 c2 w1 (hp.below hb) (hs.below hb)
    rwa [he] at this
  have hps := (netOk_of he).p1
  have hor : ∀ w1, Below w.heap.size w w1 → Calls Try.prog 72 #[.slice al l.length cl, .int .i64 n.ps.length] w1 (PermOut (permE l n.ps.length) w1) := fun w1 hb => order_any l n.ps.length al cl (by omega) hl w1 (hi.below' hb)
  have hne : (permE l n.ps.length != 0) = true := by simp [hq]
  generalize permE l n.ps.length = X at *
  generalize n.ps.length = k at *
  generalize n.ss.length = m at *
  generalize n.inp = I at *
  generalize l.length = q at *
  have HCK := Lib.hid hck
  have HOR := Lib.hid hor
  clear hck hp hs hi hE hR he hor hq
  go_enter Try.func30, Try.ntmps30
  go_wp2_with (first | (go_at_call 19; refine (HCK.out _ (((Below.refl _ _).alloc (Nat.le_refl _) _).alloc (by simp) _)).mono ?_; rintro e w1 ⟨rfl, hb1⟩; have hbx1 : NetBox w1 (w.heap.size + 1) (.slice none 0 0) 0 (.slice none 0 0) := (hb1.block _ (by simp)).trans (alloc_new_at _ _ _ (by simp)); have hbx0 : NetBox w1 w.heap.size (.slice a1 k c1) I (.slice a2 m c2) := (hb1.block _ (by simp <;> omega)).trans ((Below.heap_alloc _ _ _ (by simp)).trans (alloc_new_at _ _ _ rfl)); obtain ⟨_, _, _, _, _, _⟩ := cells3f hbx0; have hz1 : w.heap.size + 1 < w1.heap.size := lt_of_block hbx1; have hb2 : Below w.heap.size w w1 := (((Below.refl _ _).alloc (Nat.le_refl _) _).alloc (by simp) _).trans (hb1.mono (by simp; omega))) | (go_at_call 72; refine (HOR.out _ hb2).mono ?_; rintro e w2 ⟨rfl, hb3⟩; have hbx2 : NetBox w2 (w.heap.size + 1) (.slice none 0 0) 0 (.slice none 0 0) := (hb3.block _ hz1).trans hbx1; obtain ⟨_, _, _, _, _, _⟩ := cells3f hbx2; have hz2 : w.heap.size + 1 < w2.heap.size := lt_of_block hbx2))
  have hb4 : Below w.heap.size w w2 := hb2.trans (hb3.mono (by omega))
  have hS := netBox_set (a := .slice none 0 0) (b := 0) (c := .slice none 0 0) hbx2
  have hB := ((hb4.setCell (p := ⟨w.heap.size + 1, 0, none⟩) (by simp) (.slice none 0 0)).setCell (p := ⟨w.heap.size + 1, 1, none⟩) (by simp) (.int .i64 0)).setCell (p := ⟨w.heap.size + 1, 2, none⟩) (by simp) (.slice none 0 0)
  generalize ((w2.setCell ⟨w.heap.size + 1, 0, none⟩ (.slice none 0 0)).setCell ⟨w.heap.size + 1, 1, none⟩ (.int .i64 0)).setCell ⟨w.heap.size + 1, 2, none⟩ (.slice none 0 0) = S at *
  obtain ⟨d0, d1, d2, _, _, _⟩ := cells3f hS
  exact bodyPost_ret (v := .tuple #[.agg #[.slice none 0 0, .int .i64 0, .slice none 0 0], .int .i64 X]) (by simp [results, Try.results30, go_sem, d0, d1, d2]) rfl ⟨_, rfl, netZ_at _, hB⟩
end Go.Proofs.Ytgbcdebnanejpaa.Rn
namespace Go.Proofs.Ytgbcdebnanejpaa.Rn
set_option linter.unusedVariables false
open Go.RowKit Go.Shelf

theorem RenR.form3 {W0 W : World} {H k : Nat} {inp : Int} {ss : List Syn} {Kv : Nat → Value} {L : Array Bool} {val : Nat → Value} (h : RenR W0 H k inp ss Kv L val W) (hl : L.getD 3 false = true) : ∃ g, val 3 = .slice (some ⟨g, 0, none⟩) k k := ⟨_, (h.mkr hl).1⟩
theorem RenR.form8 {W0 W : World} {H k : Nat} {inp : Int} {ss : List Syn} {Kv : Nat → Value} {L : Array Bool} {val : Nat → Value} (h : RenR W0 H k inp ss Kv L val W) (hl : L.getD 8 false = true) : ∃ a n c, val 8 = .slice a n c := by
  rcases ownsRow_forms (h.cl hl) with ⟨e, _⟩ | ⟨g, c, e⟩
  · exact ⟨_, _, _, e⟩
  · exact ⟨_, _, _, e⟩
/-- Four cells of an array. -/
structure C4 (cur : Array Value) (o : Nat) (s : Syn) : Prop where
  c0 : cur[o]? = some (.int .i64 s.fr)
  c1 : cur[o + 1]? = some (.int .i64 s.to)
  c2 : cur[o + 2]? = some (.int .i64 s.wt)
  c3 : cur[o + 3]? = some (.int .i64 s.dl)
/-- A slice of synapses of one's own. -/
def SRow (A : World) (H : Nat) (v : Value) (l : List Syn) : Prop :=
  (v = .slice none 0 0 ∧ l = []) ∨ ∃ g cap, v = .slice (some ⟨g, 0, none⟩) l.length cap ∧ H ≤ g ∧ ∃ cur, A.heap[g]? = some (.cells cur 96) ∧ ∀ j s, l[j]? = some s → C4 cur (j * 4) s
theorem sRow_of {A : World} {H : Nat} {v : Value} {l : List Syn} (h : A.ownsRow H 96 4 v l.length (synCs l)) : SRow A H v l := by
  rcases h.2 with ⟨rfl, h0⟩ | ⟨g, cap, cur, rfl, hb, hg, _, _, _, ht⟩
  · exact Or.inl ⟨rfl, List.eq_nil_of_length_eq_zero h0⟩
  · refine Or.inr ⟨g, cap, rfl, hb, cur, hg, fun k r hk => ?_⟩
    have key : ∀ c u, c < 4 → (synV r)[c]? = some u → cur[k * 4 + c]? = some u := fun c u hc hu => by
      have h1 := synCs_get l k c r hc hk
      rw [hu, ← ht, List.getElem?_take] at h1
      split at h1
      · simpa using h1
      · cases h1
    exact ⟨key 0 _ (by omega) rfl, key 1 _ (by omega) rfl, key 2 _ (by omega) rfl, key 3 _ (by omega) rfl⟩
theorem SRow.of_block {A A' : World} {H : Nat} {v : Value} {l : List Syn} (h : SRow A H v l) (hb : ∀ g, v.ownBlock = some g → g < A.heap.size → A'.heap[g]? = A.heap[g]?) : SRow A' H v l := by
  rcases h with h | ⟨g, cap, rfl, h1, cur, h2, h3⟩
  · exact Or.inl h
  · exact Or.inr ⟨g, cap, rfl, h1, cur, (hb g rfl (lt_of_block h2)).trans h2, h3⟩
theorem SRow.ssAt {A : World} {H : Nat} {v : Value} {l : List Syn} (h : SRow A H v l) : SsAt A v l := by
  rcases h with h | ⟨g, cap, rfl, h1, cur, h2, h3⟩
  · exact Or.inl h
  · refine Or.inr ⟨g, 0, cap, rfl, lt_of_block h2, fun k s hk => ?_⟩
    rw [Nat.zero_add]
    obtain ⟨c0, c1, c2, c3⟩ := h3 k s hk
    exact ⟨by simp [World.cell?, h2, c0], by simp [World.cell?, h2, c1], by simp [World.cell?, h2, c2], by simp [World.cell?, h2, c3]⟩
/-- What the loops of Renumber find. -/
structure MidR (n : NetM) (w : World) (B H k g3 gN : Nat) (inp : Int) (v8 s1 s2 : Value) (Pl : List Prm) (Sl : List Syn) (A : World) : Prop where
  row : PRow A g3 Pl
  syn : SRow A H v8 Sl
  box : NetBox A gN (.slice (some ⟨g3, 0, none⟩) k k) inp v8
  box0 : NetBox A B s1 inp s2
  box1 : NetBox A (B + 1) (.slice none 0 0) 0 (.slice none 0 0)
  bel : Below B w A
  lo3 : H ≤ g3
  loN : H ≤ gN
  loB : B + 1 < H
  n3N : g3 ≠ gN
  n83 : v8.ownBlock ≠ some g3
  n8N : v8.ownBlock ≠ some gN
theorem MidR.below {n : NetM} {w A A' : World} {B H k g3 gN : Nat} {inp : Int} {v8 s1 s2 : Value} {Pl : List Prm} {Sl : List Syn} (h : MidR n w B H k g3 gN inp v8 s1 s2 Pl Sl A) (hb : Below A.heap.size A A') : MidR n w B H k g3 gN inp v8 s1 s2 Pl Sl A' := by
  have z0 : B < A.heap.size := lt_of_block h.box0
  have z1 : B + 1 < A.heap.size := lt_of_block h.box1
  have zN : gN < A.heap.size := lt_of_block h.box
  have e0 := hb.block _ z0
  have e1 := hb.block _ z1
  have eN := hb.block _ zN
  have e3 := hb.block _ h.row.lt
  have hs : SRow A' H v8 Sl := h.syn.of_block fun g _ hg => hb.block _ hg
  have hB : Below B w A' := h.bel.trans (hb.mono (by omega))
  exact ⟨h.row.of_block e3, hs, eN.trans h.box, e0.trans h.box0, e1.trans h.box1, hB, h.lo3, h.loN, h.loB, h.n3N, h.n83, h.n8N⟩
theorem put8_below {A : World} {B g o : Nat} {p : Prm} (h : B ≤ g) : Below B A (put8 A g o p) := by
  unfold put8
  exact ((((((((Below.refl _ A).setCell (p := ⟨g, o, none⟩) h _).setCell (p := ⟨g, o + 1, none⟩) h _).setCell (p := ⟨g, o + 2, none⟩) h _).setCell (p := ⟨g, o + 3, none⟩) h _).setCell (p := ⟨g, o + 4, none⟩) h _).setCell (p := ⟨g, o + 5, none⟩) h _).setCell (p := ⟨g, o + 6, none⟩) h _).setCell (p := ⟨g, o + 7, none⟩) h _
theorem MidR.put {n : NetM} {w A : World} {B H k g3 gN : Nat} {inp : Int} {v8 s1 s2 : Value} {Pl : List Prm} {Sl : List Syn} (h : MidR n w B H k g3 gN inp v8 s1 s2 Pl Sl A) {x : Nat} (hx : x < Pl.length) (p : Prm) : MidR n w B H k g3 gN inp v8 s1 s2 (Pl.set x p) Sl (put8 A g3 (x * 8) p) := by
  have h3 := h.lo3
  have hB := h.loB
  have hN := h.n3N
  have e : ∀ b, b ≠ g3 → (put8 A g3 (x * 8) p).heap[b]? = A.heap[b]? := fun b hb => put8_old hb
  have hr := h.row.put hx p
  have hbl : Below B A (put8 A g3 (x * 8) p) := put8_below (by omega)
  generalize put8 A g3 (x * 8) p = A' at *
  have e0 := e B (by omega)
  have e1 := e (B + 1) (by omega)
  have eN := e gN (by omega)
  have hs : SRow A' H v8 Sl := h.syn.of_block fun g hg _ => e g fun q => h.n83 (by rw [hg, q])
  exact ⟨hr, hs, eN.trans h.box, e0.trans h.box0, e1.trans h.box1, h.bel.trans hbl, h.lo3, h.loN, h.loB, h.n3N, h.n83, h.n8N⟩
theorem PRow.old {A : World} {g : Nat} {Pl : List Prm} (h : PRow A g Pl) {x : Nat} (hx : x < Pl.length) : ∃ p : Prm, PrmCells A g (x * 8) p ∧ A.frozen? ⟨g, x * 8, none⟩ = false ∧ A.frozen? ⟨g, x * 8 + 1, none⟩ = false ∧ A.frozen? ⟨g, x * 8 + 2, none⟩ = false ∧ A.frozen? ⟨g, x * 8 + 3, none⟩ = false ∧ A.frozen? ⟨g, x * 8 + 4, none⟩ = false ∧ A.frozen? ⟨g, x * 8 + 5, none⟩ = false ∧ A.frozen? ⟨g, x * 8 + 6, none⟩ = false ∧ A.frozen? ⟨g, x * 8 + 7, none⟩ = false := by
  obtain ⟨cur, h1, h2⟩ := h
  obtain ⟨c0, c1, c2, c3, c4, c5, c6, c7⟩ := h2 x _ (List.getElem?_eq_getElem hx)
  refine ⟨Pl[x], ⟨by simp [World.cell?, h1, c0], by simp [World.cell?, h1, c1], by simp [World.cell?, h1, c2], by simp [World.cell?, h1, c3], by simp [World.cell?, h1, c4], by simp [World.cell?, h1, c5], by simp [World.cell?, h1, c6], by simp [World.cell?, h1, c7]⟩, ?_⟩
  refine ⟨?_, ?_, ?_, ?_, ?_, ?_, ?_, ?_⟩ <;> simp [World.frozen?, h1]
theorem SRow.at {A : World} {H : Nat} {a : Option Addr} {m c : Nat} {l : List Syn} (h : SRow A H (.slice a m c) l) {k : Nat} {s : Syn} (hk : l[k]? = some s) : ∃ g, a = some ⟨g, 0, none⟩ ∧ H ≤ g ∧ g < A.heap.size ∧ SynCells A g (k * 4) s ∧ A.frozen? ⟨g, k * 4, none⟩ = false ∧ A.frozen? ⟨g, k * 4 + 1, none⟩ = false := by
  rcases h with ⟨_, rfl⟩ | ⟨g, cap, e, h1, cur, h2, h3⟩
  · simp at hk
  · cases e
    obtain ⟨c0, c1, c2, c3⟩ := h3 k s hk
    exact ⟨g, rfl, h1, lt_of_block h2, ⟨by simp [World.cell?, h2, c0], by simp [World.cell?, h2, c1], by simp [World.cell?, h2, c2], by simp [World.cell?, h2, c3]⟩, by simp [World.frozen?, h2], by simp [World.frozen?, h2]⟩
theorem C4.set1 {cur : Array Value} {t : Nat} {s : Syn} {T : Int} (h : C4 cur (t * 4) s) : C4 (cur.setIfInBounds (t * 4 + 1) (.int .i64 T)) (t * 4) ⟨s.fr, T, s.wt, s.dl⟩ := by
  obtain ⟨c0, c1, c2, c3⟩ := h
  have h1 := (Array.getElem?_eq_some_iff.1 c1).1
  refine ⟨?_, ?_, ?_, ?_⟩
  · rw [Array.getElem?_setIfInBounds_ne (by omega)]; exact c0
  · simp [h1]
  · rw [Array.getElem?_setIfInBounds_ne (by omega)]; exact c2
  · rw [Array.getElem?_setIfInBounds_ne (by omega)]; exact c3
theorem C4.set0 {cur : Array Value} {t : Nat} {s : Syn} {F : Int} (h : C4 cur (t * 4) s) : C4 (cur.setIfInBounds (t * 4) (.int .i64 F)) (t * 4) ⟨F, s.to, s.wt, s.dl⟩ := by
  obtain ⟨c0, c1, c2, c3⟩ := h
  have h1 := (Array.getElem?_eq_some_iff.1 c0).1
  refine ⟨?_, ?_, ?_, ?_⟩
  · simp [h1]
  · rw [Array.getElem?_setIfInBounds_ne (by omega)]; exact c1
  · rw [Array.getElem?_setIfInBounds_ne (by omega)]; exact c2
  · rw [Array.getElem?_setIfInBounds_ne (by omega)]; exact c3
theorem C4.other {cur : Array Value} {t j o : Nat} {s : Syn} {v : Value} (h : C4 cur (j * 4) s) (hj : j ≠ t) (ho : t * 4 ≤ o ∧ o < t * 4 + 4) : C4 (cur.setIfInBounds o v) (j * 4) s := by
  obtain ⟨c0, c1, c2, c3⟩ := h
  refine ⟨?_, ?_, ?_, ?_⟩
  · rw [Array.getElem?_setIfInBounds_ne (by omega)]; exact c0
  · rw [Array.getElem?_setIfInBounds_ne (by omega)]; exact c1
  · rw [Array.getElem?_setIfInBounds_ne (by omega)]; exact c2
  · rw [Array.getElem?_setIfInBounds_ne (by omega)]; exact c3
theorem SRow.set1 {A : World} {H g m c t : Nat} {l : List Syn} {s : Syn} {T : Int} (h : SRow A H (.slice (some ⟨g, 0, none⟩) m c) l) (hs : l[t]? = some s) : SRow (A.setCell ⟨g, t * 4 + 1, none⟩ (.int .i64 T)) H (.slice (some ⟨g, 0, none⟩) m c) (l.set t ⟨s.fr, T, s.wt, s.dl⟩) := by
  rcases h with ⟨e, _⟩ | ⟨g', cap, e, h1, cur, h2, h3⟩
  · cases e
  · cases e
    refine Or.inr ⟨g, c, by simp, h1, cur.setIfInBounds (t * 4 + 1) (.int .i64 T), by simp [World.setCell, Array.getElem?_modify, h2], fun j q hj => ?_⟩
    by_cases e : j = t
    · subst e
      rw [List.getElem?_set_self (List.getElem?_eq_some_iff.1 hs).1] at hj
      cases hj
      exact (h3 j s hs).set1
    · rw [List.getElem?_set_ne (fun h => e h.symm)] at hj
      exact (h3 j q hj).other e (by omega)
theorem SRow.set0 {A : World} {H g m c t : Nat} {l : List Syn} {s : Syn} {F : Int} (h : SRow A H (.slice (some ⟨g, 0, none⟩) m c) l) (hs : l[t]? = some s) : SRow (A.setCell ⟨g, t * 4, none⟩ (.int .i64 F)) H (.slice (some ⟨g, 0, none⟩) m c) (l.set t ⟨F, s.to, s.wt, s.dl⟩) := by
  rcases h with ⟨e, _⟩ | ⟨g', cap, e, h1, cur, h2, h3⟩
  · cases e
  · cases e
    refine Or.inr ⟨g, c, by simp, h1, cur.setIfInBounds (t * 4) (.int .i64 F), by simp [World.setCell, Array.getElem?_modify, h2], fun j q hj => ?_⟩
    by_cases e : j = t
    · subst e
      rw [List.getElem?_set_self (List.getElem?_eq_some_iff.1 hs).1] at hj
      cases hj
      exact (h3 j s hs).set0
    · rw [List.getElem?_set_ne (fun h => e h.symm)] at hj
      exact (h3 j q hj).other e (by omega)
theorem MidR.cell {n : NetM} {w A : World} {B H k g3 gN g o m c : Nat} {inp : Int} {s1 s2 u : Value} {Pl : List Prm} {Sl Sl' : List Syn} (h : MidR n w B H k g3 gN inp (.slice (some ⟨g, 0, none⟩) m c) s1 s2 Pl Sl A) (hg : H ≤ g) (hs : SRow (A.setCell ⟨g, o, none⟩ u) H (.slice (some ⟨g, 0, none⟩) m c) Sl') : MidR n w B H k g3 gN inp (.slice (some ⟨g, 0, none⟩) m c) s1 s2 Pl Sl' (A.setCell ⟨g, o, none⟩ u) := by
  have hB := h.loB
  have h3 : g3 ≠ g := fun e => h.n83 (by simp [Value.ownBlock, e])
  have hN : gN ≠ g := fun e => h.n8N (by simp [Value.ownBlock, e])
  have e : ∀ b, b ≠ g → (A.setCell ⟨g, o, none⟩ u).heap[b]? = A.heap[b]? := fun b hb => by simp [World.setCell, Array.getElem?_modify, Ne.symm hb]
  have hbl : Below B A (A.setCell ⟨g, o, none⟩ u) := (Below.refl _ A).setCell (p := ⟨g, o, none⟩) (by show B ≤ g; omega) _
  generalize A.setCell ⟨g, o, none⟩ u = A' at *
  exact ⟨h.row.of_block (e _ h3), hs, (e _ hN).trans h.box, (e B (by omega)).trans h.box0, (e (B + 1) (by omega)).trans h.box1, h.bel.trans hbl, h.lo3, h.loN, h.loB, h.n3N, h.n83, h.n8N⟩
theorem SRow.lo {A : World} {H g : Nat} {v : Value} {l : List Syn} (h : SRow A H v l) (hg : v.ownBlock = some g) : H ≤ g := by
  rcases h with ⟨rfl, _⟩ | ⟨g', cap, rfl, h1, _⟩
  · cases hg
  · cases hg; exact h1
theorem netAt_of {S : World} {N : NetM} {g k c8 m : Nat} {a8 : Option Addr} {I : Int} (h1 : N.ps.length = k) (h2 : N.ss.length = m) (h3 : N.inp = I) (hp : PsAt S (.slice (some ⟨g, 0, none⟩) k k) N.ps) (hs : SsAt S (.slice a8 m c8) N.ss) : NetAt S (.agg #[.slice (some ⟨g, 0, none⟩) k k, .int .i64 I, .slice a8 m c8]) N := by
  subst h1; subst h2; subst h3
  exact ⟨_, _, _, _, rfl, hp, hs⟩
theorem repl_true {N j : Nat} (h : j < N) : (Array.replicate N true).getD j false = true := by simp [Array.getD_eq_getD_getElem?, h]
def renK (B k m c1 c2 : Nat) (inp : Int) (a1 a2 : Option Addr) : Nat → Value
  | 0 => .pointer (some ⟨B, 0, none⟩)
  | 1 => .slice a1 k c1
  | 2 => .int .i64 (k : Int)
  | 4 => .pointer (some ⟨B, 1, none⟩)
  | 5 => .int .i64 inp
  | 6 => .pointer (some ⟨B, 2, none⟩)
  | 7 => .slice a2 m c2
  | _ => undef

set_option maxRecDepth 100000 in
set_option maxHeartbeats 4000000 in
theorem ren_ok (n : NetM) (l : List Int) (a1 a2 al : Option Addr) (c1 c2 cl : Nat) (he : ncheck n = 0) (hq : permE l n.ps.length = 0) (hl : l.length ≤ 100000) (w : World)
    (hp : PsAt w (.slice a1 n.ps.length c1) n.ps) (hs : SsAt w (.slice a2 n.ss.length c2) n.ss) (hi : IntsAt w (.slice al l.length cl) l) :
    Calls Try.prog 30 #[.agg #[.slice a1 n.ps.length c1, .int .i64 n.inp, .slice a2 n.ss.length c2], .slice al l.length cl] w (RenOut (renE n l) (renR n l) w) := by
  have hE : renE n l = 0 := by rw [renE, if_neg (by simpa using he)]; exact hq
  have hR : renR n l = renN n l := if_pos hE
  rw [hE, hR]
  have hok := netOk_of he
  obtain ⟨hll, hrg⟩ := permE_zero hq
  have hps := hok.p1
  have hss := hok.s1
  have hck : ∀ w1, Below w.heap.size w w1 → Calls Try.prog 19 #[.agg #[.slice a1 n.ps.length c1, .int .i64 n.inp, .slice a2 n.ss.length c2]] w1 fun e w' => e = .returned (.int .i64 0) ∧ Below w1.heap.size w1 w' := fun w1 hb => by
    have := ncheck_any n a1 a2 c1 c2 w1 (hp.below hb) (hs.below hb)
    rwa [he] at this
  have hor : ∀ w1, Below w.heap.size w w1 → Calls Try.prog 72 #[.slice al l.length cl, .int .i64 n.ps.length] w1 (PermOut 0 w1) := fun w1 hb => by
    have := order_any l n.ps.length al cl (by omega) hl w1 (hi.below' hb)
    rwa [hq] at this
  have hcl0 : ∀ w1, Below w.heap.size w w1 → Calls Try.prog 73 #[.slice a2 n.ss.length c2] w1 (Cloned n.ss w1) := fun w1 hb => clone_any a2 c2 n.ss (by omega) w1 (hs.below hb)
  obtain ⟨k, hk⟩ : ∃ k, k = n.ps.length := ⟨_, rfl⟩
  obtain ⟨m, hm⟩ : ∃ m, m = n.ss.length := ⟨_, rfl⟩
  obtain ⟨I, hI⟩ : ∃ I, I = n.inp := ⟨_, rfl⟩
  obtain ⟨q, hqq⟩ : ∃ q, q = l.length := ⟨_, rfl⟩
  rw [← hk, ← hm, ← hI] at hck
  rw [← hqq, ← hk] at hor
  rw [← hm] at hcl0
  rw [← hk] at hp hll hrg hps
  rw [← hm] at hs hss
  rw [← hqq] at hi hll
  rw [← hk, ← hm, ← hI, ← hqq]
  obtain rfl : q = k := hll
  have hmk := make_rows q (by omega)
  have HCK := Lib.hid hck
  have HOR := Lib.hid hor
  have HCL0 := Lib.hid hcl0
  have HP := Lib.hid hp
  have HS := Lib.hid hs
  have HI0 := Lib.hid hi
  have HOK := Lib.hid hok
  have HRG := Lib.hid hrg
  have HK := Lib.hid hk
  have HM := Lib.hid hm
  have HIN := Lib.hid hI
  have HQ := Lib.hid hqq
  clear hck hp hs hi hE hR he hor hq hcl0 hok hrg hk hm hI hqq
  go_enter Try.func30, Try.ntmps30
  go_upto_region 7 with (first | (go_at_call 19; refine (HCK.out _ (((Below.refl _ _).alloc (Nat.le_refl _) _).alloc (by simp) _)).mono ?_; rintro e w1 ⟨rfl, hb1⟩; have hbx1 : NetBox w1 (w.heap.size + 1) (.slice none 0 0) 0 (.slice none 0 0) := (hb1.block _ (by simp)).trans (alloc_new_at _ _ _ (by simp)); have hbx0 : NetBox w1 w.heap.size (.slice a1 q c1) I (.slice a2 m c2) := (hb1.block _ (by simp <;> omega)).trans ((Below.heap_alloc _ _ _ (by simp)).trans (alloc_new_at _ _ _ rfl)); obtain ⟨_, _, _, _, _, _⟩ := cells3f hbx0; have hz1 : w.heap.size + 1 < w1.heap.size := lt_of_block hbx1; have hb2 : Below w.heap.size w w1 := (((Below.refl _ _).alloc (Nat.le_refl _) _).alloc (by simp) _).trans (hb1.mono (by simp; omega))) | (go_at_call 72; refine (HOR.out _ hb2).mono ?_; rintro e w2 ⟨rfl, hb3⟩; have hbx2 : NetBox w2 (w.heap.size + 1) (.slice none 0 0) 0 (.slice none 0 0) := (hb3.block _ hz1).trans hbx1; have hbx3 : NetBox w2 w.heap.size (.slice a1 q c1) I (.slice a2 m c2) := (hb3.block _ (by omega)).trans hbx0; have hz2 : w.heap.size + 1 < w2.heap.size := lt_of_block hbx2))
  have hb4 : Below w.heap.size w w2 := hb2.trans (hb3.mono (by omega))
  generalize hB0 : w.heap.size = B at *
  have HB0 := Lib.hid hB0
  have HB4 := Lib.hid hb4
  have HX2 := Lib.hid hbx2
  have HX3 := Lib.hid hbx3
  clear hb1 hbx1 hbx0 hz1 hb2 hb3 hb4 hB0 hbx2 hbx3 HCK HOR
  have hcl : ∀ W, Below w2.heap.size w2 W → Calls Try.prog 73 #[.slice a2 m c2] W (Cloned n.ss W) := fun W hb => HCL0.out W (HB4.out.trans (hb.mono (by omega)))
  have HCL := Lib.hid hcl
  clear hcl HCL0
  refine wp_region_ghost (RenR w2 w2.heap.size q I n.ss (renK B q m c1 c2 I a1 a2)) (by kernel_rfl) (by kernel_rfl) (by kernel_rfl) (by kernel_rfl) (RenR.init rfl) ?stp ?dn
  case dn =>
    intro val W b' hI hh hbs
    have hb := has_all (by kernel_rfl) hh hbs
    obtain ⟨g3, hg3⟩ : ∃ g, g = vb (val 3) := ⟨_, rfl⟩
    obtain ⟨gN, hgN⟩ : ∃ g, g = vb (val 10) := ⟨_, rfl⟩
    obtain ⟨x3, lo3, r3⟩ := hI.mkr (by simp)
    have hcl := hI.cl (by simp)
    obtain ⟨x10, loN, u', x', v', gb, gx⟩ := hI.al (by simp)
    obtain ⟨rfl, rfl, rfl⟩ := gx (by simp)
    have n38 := hI.a38 (by simp) (by simp)
    have n3N := hI.a310 (by simp) (by simp)
    have n8N := hI.a810 (by simp) (by simp)
    have x9 := hI.bld (by simp)
    obtain ⟨a8, n8, c8, x8⟩ := hI.form8 (by simp)
    rw [← hg3] at x3 lo3 r3 n38 n3N
    rw [← hgN] at x10 loN gb n3N n8N
    rw [x3, x8] at gb x9
    rw [x8] at hcl n38 n8N
    have kn : ∀ j, j < 8 → j ≠ 3 → val j = renK B q m c1 c2 I a1 a2 j := fun j h1 h2 => hI.known j h1 h2 (repl_true (by show j < 12; omega))
    have w11 : ∀ a : Act, a.put none (val 11) = a := fun a => rfl
    simp only [puts, x3, x8, x9, x10, w11, kn 0 (by decide) (by decide), kn 1 (by decide) (by decide), kn 2 (by decide) (by decide), kn 4 (by decide) (by decide), kn 5 (by decide) (by decide), kn 6 (by decide) (by decide), kn 7 (by decide) (by decide), renK] at hb
    have hn8 : n8 = m ∧ (Value.slice a8 n8 c8).ownBlock ≠ some g3 := by
      refine ⟨?_, n38⟩
      rcases ownsRow_forms hcl with ⟨e, h0⟩ | ⟨g, c, e⟩
      · cases e; rw [HM.out, h0]
      · cases e; exact HM.out.symm
    obtain ⟨rfl, _⟩ := hn8
    have hM0 : MidR n w B w2.heap.size q g3 gN I (.slice a8 n8 c8) (.slice a1 q c1) (.slice a2 n8 c2) (fillP n.ps l 0) n.ss W :=
      ⟨by have := pRow_new r3; rw [fillP, ← HK.out]; exact this, sRow_of hcl, gb, (hI.bel.block _ (by omega)).trans HX3.out, (hI.bel.block _ hz2).trans HX2.out, HB4.out.trans (hI.bel.mono (by have := HB4.out.size; have := HB0.out; omega)), lo3, loN, hz2, n3N, n38, n8N⟩
    have HM0 := Lib.hid hM0
    clear hI hh hbs x3 lo3 r3 hcl x10 loN gb gx n38 n3N n8N x9 x8 hg3 hgN kn w11 hM0 HX2 HX3 HCL
    subst hb
    simp only [Act.put, List.setIfInBounds_toArray, List.set_cons_succ, List.set_cons_zero]
    obtain ⟨_, _, _, _, _, _⟩ := cells3f HM0.out.box0
    go_wp2
    go_loopw [41] (fun i wr => ∃ j : Nat, j ≤ q ∧ i = .int .i64 j ∧ MidR n w B w2.heap.size q g3 gN I (.slice a8 n8 c8) (.slice a1 q c1) (.slice a2 n8 c2) (fillP n.ps l j) n.ss wr) (fun i _ => q - (intOf i).toNat)
    case atStart => exact ⟨0, Nat.zero_le _, rfl, HM0.out⟩
    case round =>
      obtain ⟨j, hj, rfl, hM⟩ := hrel
      have HMM := Lib.hid hM
      have hbw : Below w.heap.size w wr := by rw [HB0.out]; exact hM.bel
      have hzB : B + 1 < wr.heap.size := lt_of_block hM.box1
      have hzN : gN < wr.heap.size := lt_of_block hM.box
      have hz3 : g3 < wr.heap.size := hM.row.lt
      have HBW := Lib.hid hbw
      clear hM hbw
      by_cases hlt : j < q
      · obtain ⟨p, hp⟩ : ∃ p, n.ps[j]? = some p := ⟨_, List.getElem?_eq_getElem (by rw [← HK.out]; exact hlt)⟩
        obtain ⟨x, hx⟩ : ∃ x, l[j]? = some x := ⟨_, List.getElem?_eq_getElem (by rw [← HQ.out]; exact hlt)⟩
        have hxr := HRG.out x (List.mem_of_getElem? hx)
        obtain ⟨y, rfl⟩ : ∃ y : Nat, x = (y : Int) := ⟨x.toNat, by omega⟩
        obtain ⟨b, off, rfl, hbl, hc⟩ := (HP.out.below HBW.out).at hp
        obtain ⟨bi, oi, rfl, hbi, hci⟩ := (HI0.out.below' HBW.out).get hx
        have hfl : (fillP n.ps l j).length = q := by rw [fillP_length, HK.out]
        have hy : y < q := by omega
        have hfs : fillP n.ps l (j + 1) = (fillP n.ps l j).set y p := by simp [fillP, hx, hp]
        obtain ⟨_, _, _, _, _, _, _, _⟩ := hc
        have hi0 : (0 : Int) ≤ (j : Int) := Int.natCast_nonneg _
        have hi1 : (j : Int) < (q : Int) := by omega
        have hy0 : (0 : Int) ≤ (y : Int) := Int.natCast_nonneg _
        have hy1 : (y : Int) < (q : Int) := by omega
        have HFL := Lib.hid hfl
        have HFS := Lib.hid hfs
        clear hp hx hxr hfl hfs
        go_wp2
        have hM1 := HMM.out.below ((Below.refl wr.heap.size wr).alloc (Nat.le_refl _) (.cells #[.int .i64 p.lk, .int .i64 p.lv, .int .i64 p.bi, .int .i64 p.th, .int .i64 p.rk, .int .i64 p.rs, .int .i64 p.fl, .int .i64 p.re] 39))
        have hpb : (wr.alloc (.cells #[.int .i64 p.lk, .int .i64 p.lv, .int .i64 p.bi, .int .i64 p.th, .int .i64 p.rk, .int .i64 p.rs, .int .i64 p.fl, .int .i64 p.re] 39)).heap[wr.heap.size]? = some (.cells #[.int .i64 p.lk, .int .i64 p.lv, .int .i64 p.bi, .int .i64 p.th, .int .i64 p.rk, .int .i64 p.rs, .int .i64 p.fl, .int .i64 p.re] 39) := alloc_new_at _ _ _ rfl
        have hcj : (wr.alloc (.cells #[.int .i64 p.lk, .int .i64 p.lv, .int .i64 p.bi, .int .i64 p.th, .int .i64 p.rk, .int .i64 p.rs, .int .i64 p.fl, .int .i64 p.re] 39)).cell? ⟨bi, oi + j, none⟩ = some (.int .i64 y) := (World.cell?_of_block (w := wr) (Below.heap_alloc _ _ _ hbi)).trans hci
        generalize wr.alloc (.cells #[.int .i64 p.lk, .int .i64 p.lv, .int .i64 p.bi, .int .i64 p.th, .int .i64 p.rk, .int .i64 p.rs, .int .i64 p.fl, .int .i64 p.re] 39) = W5 at *
        generalize wr.heap.size = PN at *
        obtain ⟨_, _, _, _, _, _, _, _⟩ := cells8 hpb
        obtain ⟨_, _, _, _, _, _⟩ := cells3f hM1.box
        obtain ⟨p', ⟨_, _, _, _, _, _, _, _⟩, _, _, _, _, _, _, _, _⟩ := hM1.row.old (x := y) (by rw [HFL.out]; exact hy)
        have HM1 := Lib.hid hM1
        clear hM1 hpb
        go_still_tail 8, (by kernel_rfl)
        change wpList _ _ _ _ _ W5.drew
        have hM7 := HM1.out.below (A' := W5.drew) ⟨rfl, rfl, rfl, Nat.le_refl _, fun _ _ => rfl⟩
        generalize W5.drew = W7 at *
        obtain ⟨p'', ⟨_, _, _, _, _, _, _, _⟩, _, _, _, _, _, _, _, _⟩ := hM7.row.old (x := y) (by rw [HFL.out]; exact hy)
        have HM7 := Lib.hid hM7
        clear hM7
        go_wp2
        go_roundw
        case rel =>
          refine ⟨j + 1, by omega, by go_num, ?_⟩
          rw [HFS.out]
          exact HM7.out.put (by rw [HFL.out]; exact hy) p
        case measure => simp [intOf]; omega
      · have hjq : q = j := by omega
        subst hjq
        clear hlt hj
        obtain ⟨_, _, _, _, _, _⟩ := cells3f HMM.out.box
        go_wp2
        have hM0 : MidR n w B w2.heap.size q g3 gN I (.slice a8 n8 c8) (.slice a1 q c1) (.slice a2 n8 c2) (fillP n.ps l q) (midR n.ss l 0) wr := by rw [midR_zero]; exact HMM.out
        have HM0 := Lib.hid hM0
        clear hM0 HMM hzB hzN hz3 HBW
        go_loopw [58] (fun i wr => ∃ t : Nat, t ≤ n8 ∧ i = .int .i64 t ∧ MidR n w B w2.heap.size q g3 gN I (.slice a8 n8 c8) (.slice a1 q c1) (.slice a2 n8 c2) (fillP n.ps l q) (midR n.ss l t) wr) (fun i _ => n8 - (intOf i).toNat)
        case atStart => exact ⟨0, Nat.zero_le _, rfl, HM0.out⟩
        case round =>
          obtain ⟨t, ht, rfl, hM⟩ := hrel
          have HMM := Lib.hid hM
          have hbw : Below w.heap.size w wr := by rw [HB0.out]; exact hM.bel
          have hzB : B + 1 < wr.heap.size := lt_of_block hM.box1
          have hzN : gN < wr.heap.size := lt_of_block hM.box
          have hz3 : g3 < wr.heap.size := hM.row.lt
          have HBW := Lib.hid hbw
          obtain ⟨_, _, _, _, _, _⟩ := cells3f hM.box
          clear hM hbw
          by_cases hlt : t < n8
          · obtain ⟨s, hs⟩ : ∃ s, n.ss[t]? = some s := ⟨_, List.getElem?_eq_getElem (by rw [← HM.out]; exact hlt)⟩
            have hso := HOK.out.ss s (List.mem_of_getElem? hs)
            have hmid := midR_at n.ss l hs
            have hms := midR_succ n.ss l hs
            obtain ⟨F, T, WT, DL⟩ := s
            simp [synOk, srcOk, inR] at hso
            rw [← HK.out] at hso
            obtain ⟨y, rfl⟩ : ∃ y : Nat, T = (y : Int) := ⟨T.toNat, by omega⟩
            have hy : y < q := by omega
            obtain ⟨T', hT⟩ : ∃ v, l[y]? = some v := ⟨_, List.getElem?_eq_getElem (by rw [← HQ.out]; exact hy)⟩
            obtain ⟨g8, rfl, hg8, hz8, ⟨_, _, _, _⟩, _, _⟩ := HMM.out.syn.at hmid
            obtain ⟨bi, oi, rfl, hbi, hci⟩ := (HI0.out.below' HBW.out).get hT
            have hbig : bi < w.heap.size := by
              obtain ⟨b', o', e, hb', _⟩ := HI0.out.get hT
              cases e; exact hb'
            have hne : bi ≠ g8 := by have := HMM.out.loB; have := HB0.out; omega
            have hne' : g8 ≠ bi := Ne.symm hne
            have htT : toI l (y : Int) = T' := by simp [toI, hT]
            have hi0 : (0 : Int) ≤ (t : Int) := Int.natCast_nonneg _
            have hi1 : (t : Int) < (n8 : Int) := by omega
            have hy0 : (0 : Int) ≤ (y : Int) := Int.natCast_nonneg _
            have hy1 : (y : Int) < (q : Int) := by omega
            have hM1 := HMM.out.cell hg8 (HMM.out.syn.set1 (T := T') hmid)
            have hmid1 : ((midR n.ss l t).set t ⟨F, T', WT, DL⟩)[t]? = some ⟨F, T', WT, DL⟩ := List.getElem?_set_self (List.getElem?_eq_some_iff.1 hmid).1
            have HM1 := Lib.hid hM1
            have HMD := Lib.hid hmid1
            have HMS := Lib.hid hms
            have HTT := Lib.hid htT
            clear hM1 hmid1 hms htT hmid hs hT
            by_cases hF : 0 ≤ F
            · obtain ⟨z, rfl⟩ : ∃ z : Nat, F = (z : Int) := ⟨F.toNat, by omega⟩
              have hz : z < q := by omega
              obtain ⟨F', hF'⟩ : ∃ v, l[z]? = some v := ⟨_, List.getElem?_eq_getElem (by rw [← HQ.out]; exact hz)⟩
              obtain ⟨b2, o2, e2, _, hcz⟩ := (HI0.out.below' HBW.out).get hF'
              cases e2
              have htF : toI l (z : Int) = F' := by simp [toI, hF']
              have hz0 : (0 : Int) ≤ (z : Int) := Int.natCast_nonneg _
              have hz1 : (z : Int) < (q : Int) := by omega
              have hM2 := HM1.out.cell hg8 (HM1.out.syn.set0 (F := F') HMD.out)
              have hst : ((midR n.ss l t).set t ⟨(z : Int), T', WT, DL⟩).set t ⟨F', T', WT, DL⟩ = midR n.ss l (t + 1) := by
                rw [HMS.out, List.set_set]; simp [renS, htF, HTT.out]
              have HM2 := Lib.hid hM2
              have HST := Lib.hid hst
              clear hM2 hst htF hF' hso
              go_wp2
              go_roundw
              case rel =>
                refine ⟨t + 1, by omega, by go_num, ?_⟩
                rw [← HST.out]
                exact HM2.out
              case measure => simp [intOf]; omega
            · have zF : (0 ≤ F) = False := by simp; omega
              have hst : (midR n.ss l t).set t ⟨F, T', WT, DL⟩ = midR n.ss l (t + 1) := by
                rw [HMS.out]; simp [renS, HTT.out, hF]
              have HST := Lib.hid hst
              clear hst hso hF
              go_wp2
              go_roundw
              case rel =>
                refine ⟨t + 1, by omega, by go_num, ?_⟩
                rw [← HST.out]
                exact HM1.out
              case measure => simp [intOf]; omega
          · have hjt : n8 = t := by omega
            subst hjt
            clear hlt ht
            obtain ⟨_, _, _, _, _, _⟩ := cells3f HMM.out.box1
            go_wp2
            have hS := netBox_set (a := .slice (some ⟨g3, 0, none⟩) q q) (b := I) (c := .slice a8 n8 c8) HMM.out.box1
            have hB := ((HMM.out.bel.setCell (p := ⟨B + 1, 0, none⟩) (by simp) (.slice (some ⟨g3, 0, none⟩) q q)).setCell (p := ⟨B + 1, 1, none⟩) (by simp) (.int .i64 I)).setCell (p := ⟨B + 1, 2, none⟩) (by simp) (.slice a8 n8 c8)
            have e : ∀ b, b ≠ B + 1 → (((wr.setCell ⟨B + 1, 0, none⟩ (.slice (some ⟨g3, 0, none⟩) q q)).setCell ⟨B + 1, 1, none⟩ (.int .i64 I)).setCell ⟨B + 1, 2, none⟩ (.slice a8 n8 c8)).heap[b]? = wr.heap[b]? := fun b hb => by simp [World.setCell, Array.getElem?_modify, Ne.symm hb]
            generalize ((wr.setCell ⟨B + 1, 0, none⟩ (.slice (some ⟨g3, 0, none⟩) q q)).setCell ⟨B + 1, 1, none⟩ (.int .i64 I)).setCell ⟨B + 1, 2, none⟩ (.slice a8 n8 c8) = S at *
            obtain ⟨d0, d1, d2, _, _, _⟩ := cells3f hS
            have hlo := HMM.out.loB
            have hl3 := HMM.out.lo3
            have hp := (HMM.out.row.of_block (e g3 (by omega))).psAt q
            have hs := (HMM.out.syn.of_block fun g hg _ => e g (by have := HMM.out.syn.lo hg; omega)).ssAt
            have hlp : (fillP n.ps l q).length = q := by rw [fillP_length]; exact HK.out.symm
            rw [hlp] at hp
            have hmr : midR n.ss l n8 = n.ss.map (renS l) := by rw [HM.out]; exact midR_all _ _
            rw [hmr] at hs
            have hN : NetAt S (.agg #[.slice (some ⟨g3, 0, none⟩) q q, .int .i64 I, .slice a8 n8 c8]) (renN n l) := by
              refine netAt_of ?_ ?_ HIN.out.symm ?_ ?_
              · rw [renN, fillP_length]; exact HK.out.symm
              · simp [renN]; exact HM.out.symm
              · rw [renN, ← HK.out]; exact hp
              · exact hs
            exact bodyPost_ret (v := .tuple #[.agg #[.slice (some ⟨g3, 0, none⟩) q q, .int .i64 I, .slice a8 n8 c8], .int .i64 0]) (by simp [results, Try.results30, go_sem, d0, d1, d2]) rfl ⟨_, rfl, hN, by rw [HB0.out]; exact hB⟩
  case stp =>
    intro L val W i' o b' hs ho hlF hdd hI hh
    have hi' := (List.getElem?_eq_some_iff.1 ho).1
    have hcs : i' = 0 ∨ i' = 1 ∨ i' = 2 ∨ i' = 3 ∨ i' = 4 ∨ i' = 5 ∨ i' = 6 ∨ i' = 7 ∨ i' = 8 ∨ i' = 9 ∨ i' = 10 ∨ i' = 11 := by simp at hi'; omega
    have hLs : 11 < L.size := by simp at hs; omega
    have hcw : ∀ b o, b < w2.heap.size → W.cell? ⟨b, o, none⟩ = w2.cell? ⟨b, o, none⟩ := fun b o hb => (bcell hI.bel).1 b o hb
    obtain ⟨p0, p1, p2⟩ := cells3 HX3.out
    rw [← hcw _ _ (by omega)] at p0 p1 p2
    have HI := Lib.hid hI
    have HLF := Lib.hid hlF
    have HD := Lib.hid hdd
    clear hi' hs hI hlF hdd hcw
    rcases hcs with rfl | rfl | rfl | rfl | rfl | rfl | rfl | rfl | rfl | rfl | rfl | rfl
    · simp only [List.getElem?_cons_zero, Option.some.injEq] at ho
      subst ho
      have k2 := hh.kept 2 (by simp)
      simp at k2
      go_simp
      exact ⟨_, rfl, HI.out.step 0 (by omega) (by omega) _ _ (Below.refl _ _) HLF.out (fun _ _ => rfl) (fun h => by omega) (fun h => by omega) (fun h => by omega) (fun h => by omega)⟩
    · simp only [List.getElem?_cons_zero, List.getElem?_cons_succ, Option.some.injEq] at ho
      subst ho
      have l0 : L.getD 0 false = true := HD.out ⟨0, .data⟩ (by simp) rfl
      have g0 := hh.got 0 _ 28 rfl rfl l0 (by simp)
      rw [HI.out.known 0 (by omega) (by omega) l0] at g0
      simp [renK] at g0
      clear l0
      go_simp
      exact ⟨_, rfl, HI.out.step 1 (by omega) (by omega) _ _ (Below.refl _ _) HLF.out (fun _ _ => rfl) (fun h => by omega) (fun h => by omega) (fun h => by omega) (fun h => by omega)⟩
    · simp only [List.getElem?_cons_zero, List.getElem?_cons_succ, Option.some.injEq] at ho
      subst ho
      have l1 : L.getD 1 false = true := HD.out ⟨1, .data⟩ (by simp) rfl
      have g1 := hh.got 1 _ 29 rfl rfl l1 (by simp)
      rw [HI.out.known 1 (by omega) (by omega) l1] at g1
      simp [renK] at g1
      clear l1
      go_simp
      exact ⟨_, rfl, HI.out.step 2 (by omega) (by omega) _ _ (Below.refl _ _) HLF.out (fun _ _ => rfl) (fun h => by omega) (fun h => by omega) (fun h => by omega) (fun h => by omega)⟩
    · simp only [List.getElem?_cons_zero, List.getElem?_cons_succ, Option.some.injEq] at ho
      subst ho
      have l2 : L.getD 2 false = true := HD.out ⟨2, .data⟩ (by simp) rfl
      have g2 := hh.got 2 _ 30 rfl rfl l2 (by simp)
      rw [HI.out.known 2 (by omega) (by omega) l2] at g2
      simp [renK] at g2
      clear l2
      go_simp
      exact ⟨_, rfl, HI.out.step 3 (by omega) (by omega) _ _ ((Below.refl _ _).alloc (Nat.le_refl _) _) HLF.out (fun _ h => absurd rfl h) (fun _ => ⟨rfl, alloc_new_at _ _ _ rfl⟩) (fun h => by omega) (fun h => by omega) (fun h => by omega)⟩
    · simp only [List.getElem?_cons_zero, List.getElem?_cons_succ, Option.some.injEq] at ho
      subst ho
      have k2 := hh.kept 2 (by simp)
      simp at k2
      go_simp
      exact ⟨_, rfl, HI.out.step 4 (by omega) (by omega) _ _ (Below.refl _ _) HLF.out (fun _ _ => rfl) (fun h => by omega) (fun h => by omega) (fun h => by omega) (fun h => by omega)⟩
    · simp only [List.getElem?_cons_zero, List.getElem?_cons_succ, Option.some.injEq] at ho
      subst ho
      have l4 : L.getD 4 false = true := HD.out ⟨4, .data⟩ (by simp) rfl
      have g4 := hh.got 4 _ 32 rfl rfl l4 (by simp)
      rw [HI.out.known 4 (by omega) (by omega) l4] at g4
      simp [renK] at g4
      clear l4
      go_simp
      exact ⟨_, rfl, HI.out.step 5 (by omega) (by omega) _ _ (Below.refl _ _) HLF.out (fun _ _ => rfl) (fun h => by omega) (fun h => by omega) (fun h => by omega) (fun h => by omega)⟩
    · simp only [List.getElem?_cons_zero, List.getElem?_cons_succ, Option.some.injEq] at ho
      subst ho
      have k2 := hh.kept 2 (by simp)
      simp at k2
      go_simp
      exact ⟨_, rfl, HI.out.step 6 (by omega) (by omega) _ _ (Below.refl _ _) HLF.out (fun _ _ => rfl) (fun h => by omega) (fun h => by omega) (fun h => by omega) (fun h => by omega)⟩
    · simp only [List.getElem?_cons_zero, List.getElem?_cons_succ, Option.some.injEq] at ho
      subst ho
      have l6 : L.getD 6 false = true := HD.out ⟨6, .data⟩ (by simp) rfl
      have g6 := hh.got 6 _ 34 rfl rfl l6 (by simp)
      rw [HI.out.known 6 (by omega) (by omega) l6] at g6
      simp [renK] at g6
      clear l6
      go_simp
      exact ⟨_, rfl, HI.out.step 7 (by omega) (by omega) _ _ (Below.refl _ _) HLF.out (fun _ _ => rfl) (fun h => by omega) (fun h => by omega) (fun h => by omega) (fun h => by omega)⟩
    · simp only [List.getElem?_cons_zero, List.getElem?_cons_succ, Option.some.injEq] at ho
      subst ho
      have l7 : L.getD 7 false = true := HD.out ⟨7, .data⟩ (by simp) rfl
      have g7 := hh.got 7 _ 35 rfl rfl l7 (by simp)
      rw [HI.out.known 7 (by omega) (by omega) l7] at g7
      simp [renK] at g7
      clear l7
      go_simp
      refine (HCL.out _ (HI.out.bel)).mono ?_
      rintro e w' ⟨v, rfl, ho, hb⟩
      exact ⟨_, rfl, HI.out.step 8 (by omega) (by omega) _ _ hb HLF.out (fun h => by omega) (fun h => by omega) (fun _ => ho) (fun h => by omega) (fun h => by omega)⟩
    · simp only [List.getElem?_cons_zero, List.getElem?_cons_succ, Option.some.injEq] at ho
      subst ho
      have l3 : L.getD 3 false = true := HD.out ⟨3, .data⟩ (by simp) rfl
      have g3 := hh.got 3 _ 31 rfl rfl l3 (by simp)
      have l5 : L.getD 5 false = true := HD.out ⟨5, .data⟩ (by simp) rfl
      have g5 := hh.got 5 _ 33 rfl rfl l5 (by simp)
      rw [HI.out.known 5 (by omega) (by omega) l5] at g5
      simp [renK] at g5
      have l8 : L.getD 8 false = true := HD.out ⟨8, .data⟩ (by simp) rfl
      have g8 := hh.got 8 _ 36 rfl rfl l8 (by simp)
      obtain ⟨b3, x3⟩ := HI.out.form3 l3
      obtain ⟨a8, n8, c8, x8⟩ := HI.out.form8 l8
      rw [x3] at g3
      rw [x8] at g8
      simp at g3 g8
      have HL3 := Lib.hid l3
      have HL8 := Lib.hid l8
      have X3 := Lib.hid x3
      have X8 := Lib.hid x8
      clear l3 l5 l8 x3 x8
      go_simp
      exact ⟨_, rfl, HI.out.step 9 (by omega) (by omega) _ _ (Below.refl _ _) HLF.out (fun h => by omega) (fun h => by omega) (fun h => by omega) (fun _ => ⟨by rw [X3.out, X8.out], HL3.out, HL8.out⟩) (fun h => by omega)⟩
    · simp only [List.getElem?_cons_zero, List.getElem?_cons_succ, Option.some.injEq] at ho
      subst ho
      go_simp
      exact ⟨_, rfl, HI.out.step 10 (by omega) (by omega) _ _ ((Below.refl _ _).alloc (Nat.le_refl _) _) HLF.out (fun h => by omega) (fun h => by omega) (fun h => by omega) (fun h => by omega) (fun _ => ⟨rfl, _, _, _, alloc_new_at _ _ _ rfl⟩)⟩
    · simp only [List.getElem?_cons_zero, List.getElem?_cons_succ, Option.some.injEq] at ho
      subst ho
      have l9 : L.getD 9 false = true := HD.out ⟨9, .data⟩ (by simp) rfl
      have g9 := hh.got 9 _ 37 rfl rfl l9 (by simp)
      have l10 : L.getD 10 false = true := HD.out ⟨10, .data⟩ (by simp) rfl
      have g10 := hh.got 10 _ 8 rfl rfl l10 (by simp)
      obtain ⟨e10, _, u', x', v', gb, _⟩ := HI.out.al l10
      generalize hg : vb (val 10) = g at e10 gb
      have e9 := HI.out.bld l9
      obtain ⟨b3, x3⟩ := HI.out.form3 (HI.out.d9 l9).1
      obtain ⟨a8, n8, c8, x8⟩ := HI.out.form8 (HI.out.d9 l9).2
      rw [e9, x3, x8] at g9
      simp at g9
      rw [e10] at g10
      simp at g10
      obtain ⟨_, _, _, _, _, _⟩ := cells3f gb
      have hlg : g < W.heap.size := lt_of_block gb
      have HL9 := Lib.hid l9
      have HL10 := Lib.hid l10
      have HE10 := Lib.hid e10
      have X3 := Lib.hid x3
      have X8 := Lib.hid x8
      clear l9 l10 e9 e10 gb hg x3 x8
      go_simp
      have hf := HI.out.fill (by omega) g HE10.out HL9.out HL10.out
      rw [X3.out, X8.out] at hf
      exact ⟨undef, hf⟩
theorem ren_any (n : NetM) (l : List Int) (a1 a2 al : Option Addr) (c1 c2 cl : Nat) (hl : l.length ≤ 100000) (w : World)
    (hp : PsAt w (.slice a1 n.ps.length c1) n.ps) (hs : SsAt w (.slice a2 n.ss.length c2) n.ss) (hi : IntsAt w (.slice al l.length cl) l) :
    Calls Try.prog 30 #[.agg #[.slice a1 n.ps.length c1, .int .i64 n.inp, .slice a2 n.ss.length c2], .slice al l.length cl] w (RenOut (renE n l) (renR n l) w) := by
  by_cases he : ncheck n = 0
  · by_cases hq : permE l n.ps.length = 0
    · exact ren_ok n l a1 a2 al c1 c2 cl he hq hl w hp hs hi
    · exact ren_bad2 n l a1 a2 al c1 c2 cl he hq hl w hp hs hi
  · exact ren_bad1 n l a1 a2 al c1 c2 cl he w hp hs
end Go.Proofs.Ytgbcdebnanejpaa.Rn
namespace Go.Proofs.Ytgbcdebnanejpaa.Rn
set_option linter.unusedVariables false
open Go.RowKit Go.Shelf

structure RenQ (W0 : World) (H k : Nat) (inp : Int) (Kv : Nat → Value) (L : Array Bool) (val : Nat → Value) (W : World) : Prop where
  hz : H = W0.heap.size
  known : ∀ j, j < 6 → j ≠ 3 → L.getD j false = true → val j = Kv j
  bel : Below H W0 W
  mkr : L.getD 3 false = true → val 3 = .slice (some ⟨vb (val 3), 0, none⟩) k k ∧ H ≤ vb (val 3) ∧ W.heap[vb (val 3)]? = some (.cells (zRow k) 39)
  bld : L.getD 6 false = true → val 6 = .agg #[val 3, .int .i64 inp, .slice none 0 0]
  al : L.getD 7 false = true → val 7 = .pointer (some ⟨vb (val 7), 0, none⟩) ∧ H ≤ vb (val 7) ∧ ∃ u x v, W.heap[vb (val 7)]? = some (.cells #[u, x, v] 25) ∧ (L.getD 8 false = true → u = val 3 ∧ x = .int .i64 inp ∧ v = .slice none 0 0)
  a37 : L.getD 3 false = true → L.getD 7 false = true → vb (val 3) ≠ vb (val 7)
  d6 : L.getD 6 false = true → L.getD 3 false = true
  d8 : L.getD 8 false = true → L.getD 6 false = true ∧ L.getD 7 false = true

section
variable {W0 W : World} {H k : Nat} {inp : Int} {Kv : Nat → Value} {L : Array Bool} {val : Nat → Value}
theorem RenQ.init (hH : H = W0.heap.size) : RenQ W0 H k inp Kv (Array.replicate 9 false) (fun _ => undef) { W0 with drawn := W0.drawn + 1 } := by
  have z : ∀ j, (Array.replicate 9 false).getD j false = true → False := fun j h => by
    simp [Array.getD_eq_getD_getElem?, Array.getElem?_replicate] at h
    split at h <;> simp_all
  exact ⟨hH, fun j _ _ h => (z _ h).elim, ⟨rfl, rfl, rfl, Nat.le_refl _, fun _ _ => rfl⟩, fun h => (z _ h).elim, fun h => (z _ h).elim, fun h => (z _ h).elim, fun h => (z _ h).elim, fun h => (z _ h).elim, fun h => (z _ h).elim⟩
theorem RenQ.form3 (h : RenQ W0 H k inp Kv L val W) (hl : L.getD 3 false = true) : ∃ g, val 3 = .slice (some ⟨g, 0, none⟩) k k := ⟨_, (h.mkr hl).1⟩
theorem RenQ.step (h : RenQ W0 H k inp Kv L val W) (i : Nat) (hi : i < 8) (hs : 8 < L.size) (u : Value) (W' : World) (hb : Below W.heap.size W W') (hf : L.getD i false = false)
    (hk : i < 6 → i ≠ 3 → u = Kv i)
    (h3 : i = 3 → u = .slice (some ⟨W.heap.size, 0, none⟩) k k ∧ W'.heap[W.heap.size]? = some (.cells (zRow k) 39))
    (h6 : i = 6 → u = .agg #[val 3, .int .i64 inp, .slice none 0 0] ∧ L.getD 3 false = true)
    (h7 : i = 7 → u = .pointer (some ⟨W.heap.size, 0, none⟩) ∧ ∃ u x v, W'.heap[W.heap.size]? = some (.cells #[u, x, v] 25)) :
    RenQ W0 H k inp Kv (L.setIfInBounds i true) (setV val i u) W' := by
  have hHW : H ≤ W.heap.size := by
    rw [h.hz]; exact h.bel.size
  have g : ∀ j, j ≠ i → (L.setIfInBounds i true).getD j false = true → L.getD j false = true := fun j hj hl => by rwa [getD_ne (fun e => hj e.symm)] at hl
  have g' : ∀ j, L.getD j false = true → (L.setIfInBounds i true).getD j false = true := fun j hl => by
    by_cases e : i = j
    · subst e; rw [hf] at hl; cases hl
    · rw [getD_ne e]; exact hl
  have h8 : (L.setIfInBounds i true).getD 8 false = true → L.getD 8 false = true := fun hl => g 8 (by omega) hl
  have lt3 : L.getD 3 false = true → vb (val 3) < W.heap.size := fun hl => lt_of_block (h.mkr hl).2.2
  have lt7 : L.getD 7 false = true → vb (val 7) < W.heap.size := fun hl => by
    obtain ⟨_, _, _, _, _, e, _⟩ := h.al hl
    exact lt_of_block e
  refine ⟨h.hz, fun j hj h3' hl => ?_, ?_, fun hl => ?_, fun hl => ?_, fun hl => ?_, fun hl1 hl2 => ?_, fun hl => ?_, fun hl => ?_⟩
  · by_cases e : j = i
    · subst e; rw [sv_eq]; exact hk hj h3'
    · rw [sv_ne e]; exact h.known j hj h3' (g j e hl)
  · exact h.bel.trans (hb.mono hHW)
  · by_cases e : 3 = i
    · subst e; rw [sv_eq]
      obtain ⟨e1, e2⟩ := h3 rfl
      rw [e1]
      exact ⟨rfl, hHW, e2⟩
    · rw [sv_ne e]
      obtain ⟨e1, e2, e3⟩ := h.mkr (g 3 e hl)
      exact ⟨e1, e2, (hb.block _ (lt_of_block e3)).trans e3⟩
  · by_cases e : 6 = i
    · subst e; rw [sv_eq, sv_ne (by omega)]; exact (h6 rfl).1
    · rw [sv_ne e]
      have h6' := h.d6 (g 6 e hl)
      rw [h.bld (g 6 e hl)]
      have e3 : (3 : Nat) ≠ i := fun e => by subst e; rw [hf] at h6'; cases h6'
      rw [sv_ne e3]
  · by_cases e : 7 = i
    · subst e; rw [sv_eq]
      obtain ⟨e1, u', x', v', e2⟩ := h7 rfl
      rw [e1]
      refine ⟨rfl, hHW, u', x', v', e2, fun h8' => ?_⟩
      have := (h.d8 (h8 h8')).2
      rw [hf] at this; cases this
    · rw [sv_ne e]
      obtain ⟨e1, e2, u', x', v', e3, e4⟩ := h.al (g 7 e hl)
      refine ⟨e1, e2, u', x', v', (hb.block _ (lt_of_block e3)).trans e3, fun h8' => ?_⟩
      have h8'' := h8 h8'
      have h6' := h.d6 (h.d8 h8'').1
      have e3 : (3 : Nat) ≠ i := fun e => by subst e; rw [hf] at h6'; cases h6'
      rw [sv_ne e3]
      exact e4 h8''
  · by_cases e : 3 = i
    · subst e
      rw [sv_eq, sv_ne (by omega), (h3 rfl).1]
      have := lt7 (g 7 (by omega) hl2)
      show W.heap.size ≠ vb (val 7)
      omega
    · by_cases e2 : 7 = i
      · subst e2
        rw [sv_eq, sv_ne (by omega), (h7 rfl).1]
        have := lt3 (g 3 e hl1)
        show vb (val 3) ≠ W.heap.size
        omega
      · rw [sv_ne e, sv_ne e2]; exact h.a37 (g 3 e hl1) (g 7 e2 hl2)
  · by_cases e : 6 = i
    · subst e; exact g' 3 (h6 rfl).2
    · exact g' 3 (h.d6 (g 6 e hl))
  · obtain ⟨h1, h2⟩ := h.d8 (h8 hl); exact ⟨g' 6 h1, g' 7 h2⟩
theorem RenQ.fill (h : RenQ W0 H k inp Kv L val W) (hs : 8 < L.size) (g : Nat) (hg : val 7 = .pointer (some ⟨g, 0, none⟩)) (h6 : L.getD 6 false = true) (h7 : L.getD 7 false = true) :
    RenQ W0 H k inp Kv (L.setIfInBounds 8 true) (setV val 8 undef) (((W.setCell ⟨g, 0, none⟩ (val 3)).setCell ⟨g, 1, none⟩ (.int .i64 inp)).setCell ⟨g, 2, none⟩ (.slice none 0 0)) := by
  have e : ∀ j, j < 8 → (L.setIfInBounds 8 true).getD j false = L.getD j false := fun j hj => getD_ne (by omega)
  have s : ∀ j, j < 8 → setV val 8 undef j = val j := fun j hj => sv_ne (by omega)
  have hv : vb (val 7) = g := by rw [hg]; rfl
  obtain ⟨e1, e2, u, x, v, e3, e4⟩ := h.al h7
  have h38 := h.d6 h6
  have n3 := h.a37 h38 h7
  rw [hv] at e1 e2 e3 n3
  have hW : ∀ b, b ≠ g → (((W.setCell ⟨g, 0, none⟩ (val 3)).setCell ⟨g, 1, none⟩ (.int .i64 inp)).setCell ⟨g, 2, none⟩ (.slice none 0 0)).heap[b]? = W.heap[b]? := fun b hb => by
    simp [World.setCell, Array.getElem?_modify, Ne.symm hb]
  refine ⟨h.hz, fun j hj h3' hl => ?_, ((h.bel.setCell (p := ⟨g, 0, none⟩) e2 _).setCell (p := ⟨g, 1, none⟩) e2 _).setCell (p := ⟨g, 2, none⟩) e2 _, fun hl => ?_, fun hl => ?_, fun hl => ?_, fun hl1 hl2 => ?_, fun hl => ?_, fun hl => ?_⟩
  · rw [s j (by omega)]; rw [e j (by omega)] at hl; exact h.known j hj h3' hl
  · rw [s 3 (by omega)]
    obtain ⟨m1, m2, m3⟩ := h.mkr h38
    exact ⟨m1, m2, (hW _ n3).trans m3⟩
  · rw [s 6 (by omega), s 3 (by omega)]; exact h.bld h6
  · rw [s 7 (by omega), s 3 (by omega), hv]
    exact ⟨hg, e2, val 3, .int .i64 inp, .slice none 0 0, by simp [World.setCell, Array.getElem?_modify, e3], fun _ => ⟨rfl, rfl, rfl⟩⟩
  · rw [s 3 (by omega), s 7 (by omega)]; rw [e 3 (by omega)] at hl1; rw [e 7 (by omega)] at hl2; exact h.a37 hl1 hl2
  · rw [e 3 (by omega)]; exact h38
  · rw [e 6 (by omega), e 7 (by omega)]; exact ⟨h6, h7⟩
end
def renKq (B k : Nat) (c1 : Nat) (inp : Int) (a1 : Option Addr) : Nat → Value
  | 0 => .pointer (some ⟨B, 0, none⟩)
  | 1 => .slice a1 k c1
  | 2 => .int .i64 (k : Int)
  | 4 => .pointer (some ⟨B, 1, none⟩)
  | 5 => .int .i64 inp
  | _ => undef

set_option maxRecDepth 100000 in
set_option maxHeartbeats 4000000 in
theorem rren_bad1 (n : NetM) (l : List Int) (a1 a2 al : Option Addr) (c1 c2 cl : Nat) (he : ncheck n ≠ 0) (w : World)
    (hp : PsAt w (.slice a1 n.ps.length c1) n.ps) (hs : SsAt w (.slice a2 n.ss.length c2) n.ss) :
    Calls Try.prog 31 #[.agg #[.slice a1 n.ps.length c1, .int .i64 n.inp, .slice a2 n.ss.length c2], .slice al l.length cl] w (RenOut (renE n l) (renR n l) w) := by
  have hE : renE n l = ncheck n := if_pos he
  have hR : renR n l = netZ := if_neg (by rw [hE]; exact he)
  rw [hE, hR]
  have hck : ∀ w1, Below w.heap.size w w1 → Calls Try.prog 20 #[.agg #[.slice a1 n.ps.length c1, .int .i64 n.inp, .slice a2 n.ss.length c2]] w1 fun e w' => e = .returned (.int .i64 (ncheck n)) ∧ Below w1.heap.size w1 w' := fun w1 hb => rncheck_any n a1 a2 c1 c2 w1 (hp.below hb) (hs.below hb)
  have hne : (ncheck n == 0) = false := by simp [he]
  have hne' : (ncheck n != 0) = true := by simp [he]
  generalize ncheck n = X at *
  generalize n.ps.length = k at *
  generalize n.ss.length = m at *
  generalize n.inp = I at *
  have HCK := Lib.hid hck
  clear hck hp hs hE hR he
  go_enter Try.func31, Try.ntmps31
  go_wp2_with (go_at_call 20; refine (HCK.out _ (((Below.refl _ _).alloc (Nat.le_refl _) _).alloc (by simp) _)).mono ?_; rintro e w1 ⟨rfl, hb1⟩; have hbx1 : NetBox w1 (w.heap.size + 1) (.slice none 0 0) 0 (.slice none 0 0) := (hb1.block _ (by simp)).trans (alloc_new_at _ _ _ (by simp)); obtain ⟨_, _, _, _, _, _⟩ := cells3f hbx1; have hz1 : w.heap.size + 1 < w1.heap.size := lt_of_block hbx1)
  have hb2 : Below w.heap.size w w1 := (((Below.refl _ _).alloc (Nat.le_refl _) _).alloc (by simp) _).trans (hb1.mono (by simp; omega))
  have hS := netBox_set (a := .slice none 0 0) (b := 0) (c := .slice none 0 0) hbx1
  have hB := ((hb2.setCell (p := ⟨w.heap.size + 1, 0, none⟩) (by simp) (.slice none 0 0)).setCell (p := ⟨w.heap.size + 1, 1, none⟩) (by simp) (.int .i64 0)).setCell (p := ⟨w.heap.size + 1, 2, none⟩) (by simp) (.slice none 0 0)
  generalize ((w1.setCell ⟨w.heap.size + 1, 0, none⟩ (.slice none 0 0)).setCell ⟨w.heap.size + 1, 1, none⟩ (.int .i64 0)).setCell ⟨w.heap.size + 1, 2, none⟩ (.slice none 0 0) = S at *
  obtain ⟨d0, d1, d2, _, _, _⟩ := cells3f hS
  exact bodyPost_ret (v := .tuple #[.agg #[.slice none 0 0, .int .i64 0, .slice none 0 0], .int .i64 X]) (by simp [results, Try.results31, go_sem, d0, d1, d2]) rfl ⟨_, rfl, netZ_at _, hB⟩
set_option maxRecDepth 100000 in
set_option maxHeartbeats 4000000 in
theorem rren_bad2 (n : NetM) (l : List Int) (a1 a2 al : Option Addr) (c1 c2 cl : Nat) (he : ncheck n = 0) (hq : permE l n.ps.length ≠ 0) (hl : l.length ≤ 100000) (w : World)
    (hp : PsAt w (.slice a1 n.ps.length c1) n.ps) (hs : SsAt w (.slice a2 n.ss.length c2) n.ss) (hi : IntsAt w (.slice al l.length cl) l) :
    Calls Try.prog 31 #[.agg #[.slice a1 n.ps.length c1, .int .i64 n.inp, .slice a2 n.ss.length c2], .slice al l.length cl] w (RenOut (renE n l) (renR n l) w) := by
  have hE : renE n l = permE l n.ps.length := if_neg (by simpa using he)
  have hR : renR n l = netZ := if_neg (by rw [hE]; exact hq)
  rw [hE, hR]
  have hck : ∀ w1, Below w.heap.size w w1 → Calls Try.prog 20 #[.agg #[.slice a1 n.ps.length c1, .int .i64 n.inp, .slice a2 n.ss.length c2]] w1 fun e w' => e = .returned (.int .i64 0) ∧ Below w1.heap.size w1 w' := fun w1 hb => by
    have := rncheck_any n a1 a2 c1 c2 w1 (hp.below hb) (hs.below hb)
    rwa [he] at this
  have hps := (netOk_of he).p1
  have hor : ∀ w1, Below w.heap.size w w1 → Calls Try.prog 74 #[.slice al l.length cl, .int .i64 n.ps.length] w1 (PermOut (permE l n.ps.length) w1) := fun w1 hb => rorder_any l n.ps.length al cl (by omega) hl w1 (hi.below' hb)
  have hne : (permE l n.ps.length != 0) = true := by simp [hq]
  generalize permE l n.ps.length = X at *
  generalize n.ps.length = k at *
  generalize n.ss.length = m at *
  generalize n.inp = I at *
  generalize l.length = q at *
  have HCK := Lib.hid hck
  have HOR := Lib.hid hor
  clear hck hp hs hi hE hR he hor hq
  go_enter Try.func31, Try.ntmps31
  go_wp2_with (first | (go_at_call 20; refine (HCK.out _ (((Below.refl _ _).alloc (Nat.le_refl _) _).alloc (by simp) _)).mono ?_; rintro e w1 ⟨rfl, hb1⟩; have hbx1 : NetBox w1 (w.heap.size + 1) (.slice none 0 0) 0 (.slice none 0 0) := (hb1.block _ (by simp)).trans (alloc_new_at _ _ _ (by simp)); have hbx0 : NetBox w1 w.heap.size (.slice a1 k c1) I (.slice a2 m c2) := (hb1.block _ (by simp <;> omega)).trans ((Below.heap_alloc _ _ _ (by simp)).trans (alloc_new_at _ _ _ rfl)); obtain ⟨_, _, _, _, _, _⟩ := cells3f hbx0; have hz1 : w.heap.size + 1 < w1.heap.size := lt_of_block hbx1; have hb2 : Below w.heap.size w w1 := (((Below.refl _ _).alloc (Nat.le_refl _) _).alloc (by simp) _).trans (hb1.mono (by simp; omega))) | (go_at_call 74; refine (HOR.out _ hb2).mono ?_; rintro e w2 ⟨rfl, hb3⟩; have hbx2 : NetBox w2 (w.heap.size + 1) (.slice none 0 0) 0 (.slice none 0 0) := (hb3.block _ hz1).trans hbx1; obtain ⟨_, _, _, _, _, _⟩ := cells3f hbx2; have hz2 : w.heap.size + 1 < w2.heap.size := lt_of_block hbx2))
  have hb4 : Below w.heap.size w w2 := hb2.trans (hb3.mono (by omega))
  have hS := netBox_set (a := .slice none 0 0) (b := 0) (c := .slice none 0 0) hbx2
  have hB := ((hb4.setCell (p := ⟨w.heap.size + 1, 0, none⟩) (by simp) (.slice none 0 0)).setCell (p := ⟨w.heap.size + 1, 1, none⟩) (by simp) (.int .i64 0)).setCell (p := ⟨w.heap.size + 1, 2, none⟩) (by simp) (.slice none 0 0)
  generalize ((w2.setCell ⟨w.heap.size + 1, 0, none⟩ (.slice none 0 0)).setCell ⟨w.heap.size + 1, 1, none⟩ (.int .i64 0)).setCell ⟨w.heap.size + 1, 2, none⟩ (.slice none 0 0) = S at *
  obtain ⟨d0, d1, d2, _, _, _⟩ := cells3f hS
  exact bodyPost_ret (v := .tuple #[.agg #[.slice none 0 0, .int .i64 0, .slice none 0 0], .int .i64 X]) (by simp [results, Try.results31, go_sem, d0, d1, d2]) rfl ⟨_, rfl, netZ_at _, hB⟩

/-- What the loops of the specification's Renumber find: H: the heap's size behind the region that makes the network. -/
structure MidQ (w : World) (B H k g3 gN : Nat) (inp : Int) (v s1 s2 : Value) (Pl : List Prm) (Sl : List Syn) (A : World) : Prop where
  row : PRow A g3 Pl
  syn : A.ownsRow H 96 4 v Sl.length (synCs Sl)
  box : NetBox A gN (.slice (some ⟨g3, 0, none⟩) k k) inp v
  box0 : NetBox A B s1 inp s2
  box1 : NetBox A (B + 1) (.slice none 0 0) 0 (.slice none 0 0)
  bel : Below B w A
  up3 : g3 < H
  upN : gN < H
  lo3 : B + 1 < g3
  loN : B + 1 < gN
  n3N : g3 ≠ gN
  hz : H ≤ A.heap.size
theorem MidQ.keep {w A A' : World} {B H k g3 gN : Nat} {inp : Int} {v s1 s2 : Value} {Pl : List Prm} {Sl : List Syn} (h : MidQ w B H k g3 gN inp v s1 s2 Pl Sl A) (hb : Below A.heap.size A A') : MidQ w B H k g3 gN inp v s1 s2 Pl Sl A' := by
  have z0 : B < A.heap.size := lt_of_block h.box0
  have z1 : B + 1 < A.heap.size := lt_of_block h.box1
  have zN : gN < A.heap.size := lt_of_block h.box
  have e0 := hb.block _ z0
  have e1 := hb.block _ z1
  have eN := hb.block _ zN
  have e3 := hb.block _ h.row.lt
  have hs : A'.ownsRow H 96 4 v Sl.length (synCs Sl) := ownsRow_of_block h.syn fun g hg => hb.block g (h.syn.lt g hg).2
  have hB : Below B w A' := h.bel.trans (hb.mono (by omega))
  exact ⟨h.row.of_block e3, hs, eN.trans h.box, e0.trans h.box0, e1.trans h.box1, hB, h.up3, h.upN, h.lo3, h.loN, h.n3N, Nat.le_trans h.hz hb.size⟩
theorem MidQ.put {w A : World} {B H k g3 gN : Nat} {inp : Int} {v s1 s2 : Value} {Pl : List Prm} {Sl : List Syn} (h : MidQ w B H k g3 gN inp v s1 s2 Pl Sl A) {x : Nat} (hx : x < Pl.length) (p : Prm) : MidQ w B H k g3 gN inp v s1 s2 (Pl.set x p) Sl (put8 A g3 (x * 8) p) := by
  have h3 := h.up3
  have hl := h.lo3
  have hN := h.n3N
  have e : ∀ b, b ≠ g3 → (put8 A g3 (x * 8) p).heap[b]? = A.heap[b]? := fun b hb => put8_old hb
  have hr := h.row.put hx p
  have hbl : Below B A (put8 A g3 (x * 8) p) := put8_below (by omega)
  have hz : (put8 A g3 (x * 8) p).heap.size = A.heap.size := put8_size
  generalize put8 A g3 (x * 8) p = A' at *
  have e0 := e B (by omega)
  have e1 := e (B + 1) (by omega)
  have eN := e gN (by omega)
  have hs : A'.ownsRow H 96 4 v Sl.length (synCs Sl) := ownsRow_of_block h.syn fun g hg => e g (by have := (h.syn.lt g hg).1; omega)
  exact ⟨hr, hs, eN.trans h.box, e0.trans h.box0, e1.trans h.box1, h.bel.trans hbl, h.up3, h.upN, h.lo3, h.loN, h.n3N, by rw [hz]; exact h.hz⟩

theorem setCell_block {W : World} {b j : Nat} {cur : Array Value} {t : TypeId} {v : Value} (h : W.heap[b]? = some (.cells cur t)) : (W.setCell ⟨b, j, none⟩ v).heap[b]? = some (.cells (cur.setIfInBounds j v) t) := by simp [World.setCell, Array.getElem?_modify, h]
theorem own_slice {W : World} {B : Nat} {e : TypeId} {sz : Nat} {v : Value} {n : Nat} {xs : List Value} (h : W.ownsRow B e sz v n xs) : ∃ a n c, v = .slice a n c := by
  rcases ownsRow_forms h with ⟨e, _⟩ | ⟨g, c, e⟩
  · exact ⟨_, _, _, e⟩
  · exact ⟨_, _, _, e⟩
theorem cells4f {W : World} {b : Nat} {v0 v1 v2 v3 : Value} {t : TypeId} (h : W.heap[b]? = some (.cells #[v0, v1, v2, v3] t)) : W.cell? ⟨b, 0, none⟩ = some v0 ∧ W.cell? ⟨b, 1, none⟩ = some v1 ∧ W.cell? ⟨b, 2, none⟩ = some v2 ∧ W.cell? ⟨b, 3, none⟩ = some v3 ∧ W.frozen? ⟨b, 0, none⟩ = false ∧ W.frozen? ⟨b, 1, none⟩ = false := by simp [World.cell?, World.frozen?, h]
theorem cells_new {W : World} {b : Nat} {l : List Value} {t : TypeId} {m : Nat × Nat} (h : W.heap[b]? = some (.cells ⟨l⟩ t m)) : ∀ (j : Nat) u, l[j]? = some u → W.cell? ((⟨b, 0, none⟩ : Addr).add j) = some u := fun j u hu => by
  have e : (⟨b, 0, none⟩ : Addr).add j = ⟨b, j, none⟩ := by unfold Addr.add; split <;> simp_all
  rw [e]
  simp [World.cell?, h, hu]
theorem netBox_set2 {W : World} {g : Nat} {a c0 c : Value} {b : Int} (h : NetBox W g a b c0) : NetBox (W.setCell ⟨g, 2, none⟩ c) g a b c := by
  unfold NetBox at *
  simp [World.setCell, Array.getElem?_modify, h]
theorem MidQ.app {w A w7 : World} {B H k g3 gN : Nat} {inp : Int} {v v' s1 s2 : Value} {Pl : List Prm} {Sl : List Syn} {s : Syn} (h : MidQ w B H k g3 gN inp v s1 s2 Pl Sl A) (hO : w7.ownsRow H 96 4 v' (Sl.length + 1) (synCs Sl ++ synV s)) (old : ∀ g, g < H → w7.heap[g]? = A.heap[g]?) (h1 : w7.os = A.os) (h2 : w7.tape = A.tape) (h3 : w7.output = A.output) (h4 : A.heap.size ≤ w7.heap.size) : MidQ w B H k g3 gN inp v' s1 s2 Pl (Sl ++ [s]) (w7.setCell ⟨gN, 2, none⟩ v') := by
  have hl := h.lo3
  have hlN := h.loN
  have hu := h.up3
  have huN := h.upN
  have hn := h.n3N
  have hz := h.hz
  have e : ∀ b, b ≠ gN → (w7.setCell ⟨gN, 2, none⟩ v').heap[b]? = w7.heap[b]? := fun b hb => by simp [World.setCell, Array.getElem?_modify, Ne.symm hb]
  have hbx : NetBox w7 gN (.slice (some ⟨g3, 0, none⟩) k k) inp v := (old gN huN).trans h.box
  have hbx' : NetBox (w7.setCell ⟨gN, 2, none⟩ v') gN (.slice (some ⟨g3, 0, none⟩) k k) inp v' := netBox_set2 hbx
  have hb7 : Below B A w7 := ⟨h1, h2, h3, h4, fun b hb => old b (by omega)⟩
  have hb8 : Below B w (w7.setCell ⟨gN, 2, none⟩ v') := (h.bel.trans hb7).setCell (p := ⟨gN, 2, none⟩) (by show B ≤ gN; omega) _
  have hs8 : (w7.setCell ⟨gN, 2, none⟩ v').heap.size = w7.heap.size := by simp
  generalize w7.setCell ⟨gN, 2, none⟩ v' = A' at *
  have hs : A'.ownsRow H 96 4 v' (Sl ++ [s]).length (synCs (Sl ++ [s])) := by
    rw [synCs_snoc, List.length_append]
    exact ownsRow_of_block hO fun g hg => e g (by have := (hO.lt g hg).1; omega)
  exact ⟨h.row.of_block ((e g3 hn).trans (old g3 hu)), hs, hbx', ((e B (by omega)).trans (old B (by omega))).trans h.box0, ((e (B + 1) (by omega)).trans (old (B + 1) (by omega))).trans h.box1, hb8, hu, huN, hl, hlN, hn, by omega⟩

set_option maxRecDepth 100000 in
set_option maxHeartbeats 4000000 in
theorem rren_ok (n : NetM) (l : List Int) (a1 a2 al : Option Addr) (c1 c2 cl : Nat) (he : ncheck n = 0) (hq : permE l n.ps.length = 0) (hl : l.length ≤ 100000) (w : World)
    (hp : PsAt w (.slice a1 n.ps.length c1) n.ps) (hs : SsAt w (.slice a2 n.ss.length c2) n.ss) (hi : IntsAt w (.slice al l.length cl) l) :
    Calls Try.prog 31 #[.agg #[.slice a1 n.ps.length c1, .int .i64 n.inp, .slice a2 n.ss.length c2], .slice al l.length cl] w (RenOut (renE n l) (renR n l) w) := by
  have hE : renE n l = 0 := by rw [renE, if_neg (by simpa using he)]; exact hq
  have hR : renR n l = renN n l := if_pos hE
  rw [hE, hR]
  have hok := netOk_of he
  obtain ⟨hll, hrg⟩ := permE_zero hq
  have hps := hok.p1
  have hss := hok.s1
  have hck : ∀ w1, Below w.heap.size w w1 → Calls Try.prog 20 #[.agg #[.slice a1 n.ps.length c1, .int .i64 n.inp, .slice a2 n.ss.length c2]] w1 fun e w' => e = .returned (.int .i64 0) ∧ Below w1.heap.size w1 w' := fun w1 hb => by
    have := rncheck_any n a1 a2 c1 c2 w1 (hp.below hb) (hs.below hb)
    rwa [he] at this
  have hor : ∀ w1, Below w.heap.size w w1 → Calls Try.prog 74 #[.slice al l.length cl, .int .i64 n.ps.length] w1 (PermOut 0 w1) := fun w1 hb => by
    have := rorder_any l n.ps.length al cl (by omega) hl w1 (hi.below' hb)
    rwa [hq] at this
  obtain ⟨k, hk⟩ : ∃ k, k = n.ps.length := ⟨_, rfl⟩
  obtain ⟨m, hm⟩ : ∃ m, m = n.ss.length := ⟨_, rfl⟩
  obtain ⟨I, hI⟩ : ∃ I, I = n.inp := ⟨_, rfl⟩
  obtain ⟨q, hqq⟩ : ∃ q, q = l.length := ⟨_, rfl⟩
  rw [← hk, ← hm, ← hI] at hck
  rw [← hqq, ← hk] at hor
  rw [← hk] at hp hll hrg hps
  rw [← hm] at hs hss
  rw [← hqq] at hi hll
  rw [← hk, ← hm, ← hI, ← hqq]
  obtain rfl : q = k := hll
  have hmk := make_rows q (by omega)
  have HCK := Lib.hid hck
  have HOR := Lib.hid hor
  have HP := Lib.hid hp
  have HS := Lib.hid hs
  have HI0 := Lib.hid hi
  have HOK := Lib.hid hok
  have HRG := Lib.hid hrg
  have HK := Lib.hid hk
  have HM := Lib.hid hm
  have HIN := Lib.hid hI
  have HQ := Lib.hid hqq
  clear hck hp hs hi hE hR he hor hq hok hrg hk hm hI hqq
  go_enter Try.func31, Try.ntmps31
  go_upto_region 6 with (first | (go_at_call 20; refine (HCK.out _ (((Below.refl _ _).alloc (Nat.le_refl _) _).alloc (by simp) _)).mono ?_; rintro e w1 ⟨rfl, hb1⟩; have hbx1 : NetBox w1 (w.heap.size + 1) (.slice none 0 0) 0 (.slice none 0 0) := (hb1.block _ (by simp)).trans (alloc_new_at _ _ _ (by simp)); have hbx0 : NetBox w1 w.heap.size (.slice a1 q c1) I (.slice a2 m c2) := (hb1.block _ (by simp <;> omega)).trans ((Below.heap_alloc _ _ _ (by simp)).trans (alloc_new_at _ _ _ rfl)); obtain ⟨_, _, _, _, _, _⟩ := cells3f hbx0; have hz1 : w.heap.size + 1 < w1.heap.size := lt_of_block hbx1; have hb2 : Below w.heap.size w w1 := (((Below.refl _ _).alloc (Nat.le_refl _) _).alloc (by simp) _).trans (hb1.mono (by simp; omega))) | (go_at_call 74; refine (HOR.out _ hb2).mono ?_; rintro e w2 ⟨rfl, hb3⟩; have hbx2 : NetBox w2 (w.heap.size + 1) (.slice none 0 0) 0 (.slice none 0 0) := (hb3.block _ hz1).trans hbx1; have hbx3 : NetBox w2 w.heap.size (.slice a1 q c1) I (.slice a2 m c2) := (hb3.block _ (by omega)).trans hbx0; have hz2 : w.heap.size + 1 < w2.heap.size := lt_of_block hbx2))
  have hb4 : Below w.heap.size w w2 := hb2.trans (hb3.mono (by omega))
  generalize hB0 : w.heap.size = B at *
  have HB0 := Lib.hid hB0
  have HB4 := Lib.hid hb4
  have HX2 := Lib.hid hbx2
  have HX3 := Lib.hid hbx3
  clear hb1 hbx1 hbx0 hz1 hb2 hb3 hb4 hB0 hbx2 hbx3 HCK HOR
  refine wp_region_ghost (RenQ w2 w2.heap.size q I (renKq B q c1 I a1)) (by kernel_rfl) (by kernel_rfl) (by kernel_rfl) (by kernel_rfl) (RenQ.init rfl) ?stp ?dn
  case dn =>
    intro val W b' hI hh hbs
    have hb := has_all (by kernel_rfl) hh hbs
    obtain ⟨g3, hg3⟩ : ∃ g, g = vb (val 3) := ⟨_, rfl⟩
    obtain ⟨gN, hgN⟩ : ∃ g, g = vb (val 7) := ⟨_, rfl⟩
    obtain ⟨x3, lo3, r3⟩ := hI.mkr (by simp)
    obtain ⟨x7, loN, u', x', v', gb, gx⟩ := hI.al (by simp)
    obtain ⟨rfl, rfl, rfl⟩ := gx (by simp)
    have n3N := hI.a37 (by simp) (by simp)
    have x6 := hI.bld (by simp)
    rw [← hg3] at x3 lo3 r3 n3N
    rw [← hgN] at x7 loN gb n3N
    rw [x3] at gb x6
    have kn : ∀ j, j < 6 → j ≠ 3 → val j = renKq B q c1 I a1 j := fun j h1 h2 => hI.known j h1 h2 (repl_true (by show j < 9; omega))
    have w8 : ∀ a : Act, a.put none (val 8) = a := fun a => rfl
    simp only [puts, x3, x6, x7, w8, kn 0 (by decide) (by decide), kn 1 (by decide) (by decide), kn 2 (by decide) (by decide), kn 4 (by decide) (by decide), kn 5 (by decide) (by decide), renKq] at hb
    have hM0 : MidQ w B W.heap.size q g3 gN I (.slice none 0 0) (.slice a1 q c1) (.slice a2 m c2) (fillP n.ps l 0) [] W :=
      ⟨by have := pRow_new r3; rw [fillP, ← HK.out]; exact this, World.ownsRow_nil _ _ _ _, gb, (hI.bel.block _ (by omega)).trans HX3.out, (hI.bel.block _ hz2).trans HX2.out, HB4.out.trans (hI.bel.mono (by have := HB4.out.size; have := HB0.out; omega)), lt_of_block r3, lt_of_block gb, by omega, by omega, n3N, Nat.le_refl _⟩
    have HM0 := Lib.hid hM0
    clear hI hh hbs x3 lo3 r3 x7 loN gb gx n3N x6 hg3 hgN kn w8 hM0 HX2 HX3
    subst hb
    simp only [Act.put, List.setIfInBounds_toArray, List.set_cons_succ, List.set_cons_zero]
    generalize W.heap.size = H at *
    go_wp2
    go_loopw [8] (fun i wr => ∃ j : Nat, j ≤ q ∧ i = .int .i64 j ∧ MidQ w B H q g3 gN I (.slice none 0 0) (.slice a1 q c1) (.slice a2 m c2) (fillP n.ps l j) [] wr) (fun i _ => q - (intOf i).toNat)
    case atStart => exact ⟨0, Nat.zero_le _, rfl, HM0.out⟩
    case round =>
      obtain ⟨j, hj, rfl, hM⟩ := hrel
      have HMM := Lib.hid hM
      have hbw : Below w.heap.size w wr := by rw [HB0.out]; exact hM.bel
      have hzB : B + 1 < wr.heap.size := lt_of_block hM.box1
      have hzN : gN < wr.heap.size := lt_of_block hM.box
      have hz3 : g3 < wr.heap.size := hM.row.lt
      have HBW := Lib.hid hbw
      clear hM hbw
      by_cases hlt : j < q
      · obtain ⟨p, hp⟩ : ∃ p, n.ps[j]? = some p := ⟨_, List.getElem?_eq_getElem (by rw [← HK.out]; exact hlt)⟩
        obtain ⟨x, hx⟩ : ∃ x, l[j]? = some x := ⟨_, List.getElem?_eq_getElem (by rw [← HQ.out]; exact hlt)⟩
        have hxr := HRG.out x (List.mem_of_getElem? hx)
        obtain ⟨y, rfl⟩ : ∃ y : Nat, x = (y : Int) := ⟨x.toNat, by omega⟩
        have hfl : (fillP n.ps l j).length = q := by rw [fillP_length, HK.out]
        have hy : y < q := by omega
        have hfs : fillP n.ps l (j + 1) = (fillP n.ps l j).set y p := by simp [fillP, hx, hp]
        have hM7 := HMM.out.keep (A' := wr.drew) ⟨rfl, rfl, rfl, Nat.le_refl _, fun _ _ => rfl⟩
        obtain ⟨b, off, rfl, hbl, hc⟩ := (HP.out.below HBW.out).at hp
        obtain ⟨bi, oi, rfl, hbi, hci⟩ := (HI0.out.below' HBW.out).get hx
        obtain ⟨_, _, _, _, _, _, _, _⟩ := hc
        obtain ⟨_, _, _, _, _, _⟩ := cells3f HMM.out.box
        obtain ⟨_, _, _, _, _, _⟩ := cells3f HMM.out.box0
        have hi0 : (0 : Int) ≤ (j : Int) := Int.natCast_nonneg _
        have hi1 : (j : Int) < (q : Int) := by omega
        have hy0 : (0 : Int) ≤ (y : Int) := Int.natCast_nonneg _
        have hy1 : (y : Int) < (q : Int) := by omega
        have HFL := Lib.hid hfl
        have HFS := Lib.hid hfs
        have HM7 := Lib.hid hM7
        clear hp hx hxr hfl hfs hM7
        go_wp2
        go_still_tail 12, (by kernel_rfl)
        change wpList _ _ _ _ _ wr.drew
        generalize wr.drew = W7 at *
        obtain ⟨p'', ⟨_, _, _, _, _, _, _, _⟩, _, _, _, _, _, _, _, _⟩ := HM7.out.row.old (x := y) (by rw [HFL.out]; exact hy)
        go_wp2
        go_roundw
        case rel =>
          refine ⟨j + 1, by omega, by go_num, ?_⟩
          rw [HFS.out]
          exact HM7.out.put (by rw [HFL.out]; exact hy) p
        case measure => simp [intOf]; omega
      · have hjq : q = j := by omega
        subst hjq
        clear hlt hj
        obtain ⟨i0, hi, hz0, hzz1, hzz2⟩ := info_parts info96
        go_wp2
        have HM0 := HMM
        clear HMM hzB hzN hz3 HBW
        go_loopw [9] (fun i wr => ∃ t : Nat, t ≤ m ∧ i = .int .i64 t ∧ ∃ v, MidQ w B H q g3 gN I v (.slice a1 q c1) (.slice a2 m c2) (fillP n.ps l q) ((n.ss.take t).map (renS l)) wr) (fun i _ => m - (intOf i).toNat)
        case atStart => exact ⟨0, Nat.zero_le _, rfl, _, HM0.out⟩
        case round =>
          obtain ⟨t, ht, rfl, v, hM⟩ := hrel
          have HMM := Lib.hid hM
          have hbw : Below w.heap.size w wr := by rw [HB0.out]; exact hM.bel
          have hzB : B + 1 < wr.heap.size := lt_of_block hM.box1
          have hzN : gN < wr.heap.size := lt_of_block hM.box
          have hz3 : g3 < wr.heap.size := hM.row.lt
          have HBW := Lib.hid hbw
          obtain ⟨_, _, _, _, _, _⟩ := cells3f hM.box0
          clear hM hbw
          by_cases hlt : t < m
          · obtain ⟨s, hs⟩ : ∃ s, n.ss[t]? = some s := ⟨_, List.getElem?_eq_getElem (by rw [← HM.out]; exact hlt)⟩
            have hso := HOK.out.ss s (List.mem_of_getElem? hs)
            have hms : (n.ss.take (t + 1)).map (renS l) = (n.ss.take t).map (renS l) ++ [renS l s] := by rw [List.take_add_one, hs]; simp
            obtain ⟨b, off, rfl, hbl, hc⟩ := (HS.out.below HBW.out).at hs
            obtain ⟨F, T, WT, DL⟩ := s
            obtain ⟨u0, u1, u2, u3⟩ := hc
            simp only at u0 u1 u2 u3
            simp [synOk, srcOk, inR] at hso
            rw [← HK.out] at hso
            obtain ⟨y, rfl⟩ : ∃ y : Nat, T = (y : Int) := ⟨T.toNat, by omega⟩
            have hy : y < q := by omega
            obtain ⟨T', hT⟩ : ∃ v, l[y]? = some v := ⟨_, List.getElem?_eq_getElem (by rw [← HQ.out]; exact hy)⟩
            obtain ⟨bi, oi, rfl, hbi, hci⟩ := (HI0.out.below' HBW.out).get hT
            have htT : toI l (y : Int) = T' := by simp [toI, hT]
            have hi0 : (0 : Int) ≤ (t : Int) := Int.natCast_nonneg _
            have hi1 : (t : Int) < (m : Int) := by omega
            have hy0 : (0 : Int) ≤ (y : Int) := Int.natCast_nonneg _
            have hy1 : (y : Int) < (q : Int) := by omega
            have hlen : ((n.ss.take t).map (renS l)).length = t := by
              have := HM.out
              simp; omega
            have hHz := HMM.out.hz
            have hu3 := HMM.out.up3
            have huN := HMM.out.upN
            have HMS := Lib.hid hms
            have HTT := Lib.hid htT
            have HLEN := Lib.hid hlen
            have hT1 := hT
            clear hms htT hs hlen hT
            have hbw5 : Below wr.heap.size wr (wr.alloc (.cells #[.int .i64 F, .int .i64 (y : Int), .int .i64 WT, .int .i64 DL] 96)) := (Below.refl _ _).alloc (Nat.le_refl _) _
            have HB5 := Lib.hid hbw5
            have hpb : (wr.alloc (.cells #[.int .i64 F, .int .i64 (y : Int), .int .i64 WT, .int .i64 DL] 96)).heap[wr.heap.size]? = some (.cells #[.int .i64 F, .int .i64 (y : Int), .int .i64 WT, .int .i64 DL] 96) := alloc_new_at _ _ _ rfl
            have hci5 : (wr.alloc (.cells #[.int .i64 F, .int .i64 (y : Int), .int .i64 WT, .int .i64 DL] 96)).cell? ⟨bi, oi + y, none⟩ = some (.int .i64 T') := ((bcell hbw5).1 _ _ hbi).trans hci
            have hne : bi ≠ wr.heap.size := by omega
            have hne' : wr.heap.size ≠ bi := Ne.symm hne
            by_cases hF : 0 ≤ F
            · obtain ⟨z, rfl⟩ : ∃ z : Nat, F = (z : Int) := ⟨F.toNat, by omega⟩
              have hz : z < q := by omega
              obtain ⟨F', hF'⟩ : ∃ v, l[z]? = some v := ⟨_, List.getElem?_eq_getElem (by rw [← HQ.out]; exact hz)⟩
              obtain ⟨b2, o2, e2, _, hcz⟩ := (HI0.out.below' HBW.out).get hF'
              cases e2
              have htF : toI l (z : Int) = F' := by simp [toI, hF']
              have hzA : (0 : Int) ≤ (z : Int) := Int.natCast_nonneg _
              have hzC : (z : Int) < (q : Int) := by omega
              have hcz5 : (wr.alloc (.cells #[.int .i64 (z : Int), .int .i64 (y : Int), .int .i64 WT, .int .i64 DL] 96)).cell? ⟨bi, oi + z, none⟩ = some (.int .i64 F') := ((bcell hbw5).1 _ _ hbi).trans hcz
              have hst : (n.ss.take t).map (renS l) ++ [⟨F', T', WT, DL⟩] = (n.ss.take (t + 1)).map (renS l) := by
                rw [HMS.out]; simp [renS, htF, HTT.out]
              have HST := Lib.hid hst
              clear hst htF hF' hso hT1 hbw5
              go_upto_region 15 with (fail)
              obtain ⟨_, _, _, _, _, _⟩ := cells4f hpb
              go_upto_region 18 with (fail)
              have hX0 : (wr.alloc (.cells #[.int .i64 F', .int .i64 T', .int .i64 WT, .int .i64 DL] 96)).heap[wr.heap.size]? = some (.cells #[.int .i64 F', .int .i64 T', .int .i64 WT, .int .i64 DL] 96) := alloc_new_at _ _ _ rfl
              have hXb : Below wr.heap.size wr (wr.alloc (.cells #[.int .i64 F', .int .i64 T', .int .i64 WT, .int .i64 DL] 96)) := (Below.refl _ _).alloc (Nat.le_refl _) _
              clear hpb
              generalize wr.alloc (.cells #[.int .i64 F', .int .i64 T', .int .i64 WT, .int .i64 DL] 96) = X at *
              have hMX := HMM.out.keep hXb
              obtain ⟨_, _, _, _, _, _⟩ := cells4f hX0
              obtain ⟨_, _, _, _, _, _⟩ := cells3f hMX.box
              have hzX : wr.heap.size < X.heap.size := lt_of_block hX0
              have HSY := Lib.hid hMX.syn
              have HMX := Lib.hid hMX
              clear hMX hX0 hXb
              have HNEW := Lib.hid (show (X.alloc (.cells #[.int .i64 F', .int .i64 T', .int .i64 WT, .int .i64 DL] 96)).heap[X.heap.size]? = some (.cells ⟨synV ⟨F', T', WT, DL⟩⟩ 96) from alloc_new_at _ _ _ rfl)
              go_wp2_with (at_builtin; refine wpList_append_own _ rfl _ _ 23 rfl H 96 i0 _ 4 32 Try.underlying23 hi hz0 hzz1 hzz2 rfl (by decide) v _ _ rfl (HSY.out.alloc _) ⟨X.heap.size, 0, none⟩ 1 1 (synV ⟨F', T', WT, DL⟩) rfl rfl (cells_new HNEW.out) (by simp [synV, Value.oneCell']) (by have := HLEN.out; unfold maxLen; omega) (by have := HLEN.out; omega) (by simp; omega) ?_; intro v' w7 hown' hgrow _; obtain ⟨av, nv, cv, rfl⟩ := own_slice hown'; have HO7 := Lib.hid hown'; have HG := Lib.hid hgrow; clear hown' hgrow; have hb7 : NetBox w7 gN (.slice (some ⟨g3, 0, none⟩) q q) I v := (HG.out.block gN (by rw [World.size_alloc]; omega) (fun e => by have := (HSY.out.lt gN e.symm).1; omega)).trans ((Below.heap_alloc _ _ _ (by omega)).trans HMX.out.box); obtain ⟨_, _, _, _, _, _⟩ := cells3f hb7)
              have hG := HG.out
              have hsz := hG.size
              rw [World.size_alloc] at hsz
              have old : ∀ g, g < H → w7.heap[g]? = X.heap[g]? := fun g h => by
                rw [hG.block g (by rw [World.size_alloc]; omega) (fun e => by have := (HSY.out.lt g e.symm).1; omega), Below.heap_alloc _ _ _ (by omega)]
              go_roundw
              case rel =>
                refine ⟨t + 1, by omega, by go_num, .slice av nv cv, ?_⟩
                rw [← HST.out]
                exact HMX.out.app HO7.out old hG.os hG.tape hG.output (by omega)
              case measure => simp [intOf]; omega
            · have zF : (0 ≤ F) = False := by simp; omega
              have hst : (n.ss.take t).map (renS l) ++ [⟨F, T', WT, DL⟩] = (n.ss.take (t + 1)).map (renS l) := by
                rw [HMS.out]; simp [renS, HTT.out, hF]
              have HST := Lib.hid hst
              clear hst hso hT1 hbw5 hF
              go_upto_region 15 with (fail)
              obtain ⟨_, _, _, _, _, _⟩ := cells4f hpb
              go_upto_region 18 with (fail)
              have hX0 : (wr.alloc (.cells #[.int .i64 F, .int .i64 T', .int .i64 WT, .int .i64 DL] 96)).heap[wr.heap.size]? = some (.cells #[.int .i64 F, .int .i64 T', .int .i64 WT, .int .i64 DL] 96) := alloc_new_at _ _ _ rfl
              have hXb : Below wr.heap.size wr (wr.alloc (.cells #[.int .i64 F, .int .i64 T', .int .i64 WT, .int .i64 DL] 96)) := (Below.refl _ _).alloc (Nat.le_refl _) _
              clear hpb
              generalize wr.alloc (.cells #[.int .i64 F, .int .i64 T', .int .i64 WT, .int .i64 DL] 96) = X at *
              have hMX := HMM.out.keep hXb
              obtain ⟨_, _, _, _, _, _⟩ := cells4f hX0
              obtain ⟨_, _, _, _, _, _⟩ := cells3f hMX.box
              have hzX : wr.heap.size < X.heap.size := lt_of_block hX0
              have HSY := Lib.hid hMX.syn
              have HMX := Lib.hid hMX
              clear hMX hX0 hXb
              have HNEW := Lib.hid (show (X.alloc (.cells #[.int .i64 F, .int .i64 T', .int .i64 WT, .int .i64 DL] 96)).heap[X.heap.size]? = some (.cells ⟨synV ⟨F, T', WT, DL⟩⟩ 96) from alloc_new_at _ _ _ rfl)
              go_wp2_with (at_builtin; refine wpList_append_own _ rfl _ _ 23 rfl H 96 i0 _ 4 32 Try.underlying23 hi hz0 hzz1 hzz2 rfl (by decide) v _ _ rfl (HSY.out.alloc _) ⟨X.heap.size, 0, none⟩ 1 1 (synV ⟨F, T', WT, DL⟩) rfl rfl (cells_new HNEW.out) (by simp [synV, Value.oneCell']) (by have := HLEN.out; unfold maxLen; omega) (by have := HLEN.out; omega) (by simp; omega) ?_; intro v' w7 hown' hgrow _; obtain ⟨av, nv, cv, rfl⟩ := own_slice hown'; have HO7 := Lib.hid hown'; have HG := Lib.hid hgrow; clear hown' hgrow; have hb7 : NetBox w7 gN (.slice (some ⟨g3, 0, none⟩) q q) I v := (HG.out.block gN (by rw [World.size_alloc]; omega) (fun e => by have := (HSY.out.lt gN e.symm).1; omega)).trans ((Below.heap_alloc _ _ _ (by omega)).trans HMX.out.box); obtain ⟨_, _, _, _, _, _⟩ := cells3f hb7)
              have hG := HG.out
              have hsz := hG.size
              rw [World.size_alloc] at hsz
              have old : ∀ g, g < H → w7.heap[g]? = X.heap[g]? := fun g h => by
                rw [hG.block g (by rw [World.size_alloc]; omega) (fun e => by have := (HSY.out.lt g e.symm).1; omega), Below.heap_alloc _ _ _ (by omega)]
              go_roundw
              case rel =>
                refine ⟨t + 1, by omega, by go_num, .slice av nv cv, ?_⟩
                rw [← HST.out]
                exact HMX.out.app HO7.out old hG.os hG.tape hG.output (by omega)
              case measure => simp [intOf]; omega
          · have hjt : m = t := by omega
            subst hjt
            clear hlt ht
            obtain ⟨_, _, _, _, _, _⟩ := cells3f HMM.out.box1
            obtain ⟨_, _, _, _, _, _⟩ := cells3f HMM.out.box
            obtain ⟨av, cv, hv⟩ : ∃ a c, v = .slice a m c := by
              have hlen : ((n.ss.take m).map (renS l)).length = m := by
                have := HM.out
                simp; omega
              have h := HMM.out.syn
              rw [hlen] at h
              rcases ownsRow_forms h with ⟨e, h0⟩ | ⟨g, c, e⟩
              · exact ⟨none, 0, by rw [e, h0]⟩
              · exact ⟨_, _, e⟩
            subst hv
            go_wp2
            have hS := netBox_set (a := .slice (some ⟨g3, 0, none⟩) q q) (b := I) (c := .slice av m cv) HMM.out.box1
            have hB := ((HMM.out.bel.setCell (p := ⟨B + 1, 0, none⟩) (by simp) (.slice (some ⟨g3, 0, none⟩) q q)).setCell (p := ⟨B + 1, 1, none⟩) (by simp) (.int .i64 I)).setCell (p := ⟨B + 1, 2, none⟩) (by simp) (.slice av m cv)
            have e : ∀ b, b ≠ B + 1 → (((wr.setCell ⟨B + 1, 0, none⟩ (.slice (some ⟨g3, 0, none⟩) q q)).setCell ⟨B + 1, 1, none⟩ (.int .i64 I)).setCell ⟨B + 1, 2, none⟩ (.slice av m cv)).heap[b]? = wr.heap[b]? := fun b hb => by simp [World.setCell, Array.getElem?_modify, Ne.symm hb]
            generalize ((wr.setCell ⟨B + 1, 0, none⟩ (.slice (some ⟨g3, 0, none⟩) q q)).setCell ⟨B + 1, 1, none⟩ (.int .i64 I)).setCell ⟨B + 1, 2, none⟩ (.slice av m cv) = S at *
            obtain ⟨d0, d1, d2, _, _, _⟩ := cells3f hS
            have hlo := HMM.out.up3
            have hl3 := HMM.out.lo3
            have hp := (HMM.out.row.of_block (e g3 (by omega))).psAt q
            have hsy : S.ownsRow H 96 4 (.slice av m cv) ((n.ss.take m).map (renS l)).length (synCs ((n.ss.take m).map (renS l))) := ownsRow_of_block HMM.out.syn fun g hg => e g (by have := (HMM.out.syn.lt g hg).1; omega)
            have hs := ssAt_of_owns hsy
            have hlp : (fillP n.ps l q).length = q := by rw [fillP_length]; exact HK.out.symm
            rw [hlp] at hp
            rw [show n.ss.take m = n.ss by rw [HM.out]; simp] at hs
            have hN : NetAt S (.agg #[.slice (some ⟨g3, 0, none⟩) q q, .int .i64 I, .slice av m cv]) (renN n l) := by
              refine netAt_of ?_ ?_ HIN.out.symm ?_ ?_
              · rw [renN, fillP_length]; exact HK.out.symm
              · simp [renN]; exact HM.out.symm
              · rw [renN, ← HK.out]; exact hp
              · exact hs
            exact bodyPost_ret (v := .tuple #[.agg #[.slice (some ⟨g3, 0, none⟩) q q, .int .i64 I, .slice av m cv], .int .i64 0]) (by simp [results, Try.results31, go_sem, d0, d1, d2]) rfl ⟨_, rfl, hN, by rw [HB0.out]; exact hB⟩
  case stp =>
    intro L val W i' o b' hs ho hlF hdd hI hh
    have hi' := (List.getElem?_eq_some_iff.1 ho).1
    have hcs : i' = 0 ∨ i' = 1 ∨ i' = 2 ∨ i' = 3 ∨ i' = 4 ∨ i' = 5 ∨ i' = 6 ∨ i' = 7 ∨ i' = 8 := by simp at hi'; omega
    have hLs : 8 < L.size := by simp at hs; omega
    have hcw : ∀ b o, b < w2.heap.size → W.cell? ⟨b, o, none⟩ = w2.cell? ⟨b, o, none⟩ := fun b o hb => (bcell hI.bel).1 b o hb
    obtain ⟨p0, p1, p2⟩ := cells3 HX3.out
    rw [← hcw _ _ (by omega)] at p0 p1 p2
    have HI := Lib.hid hI
    have HLF := Lib.hid hlF
    have HD := Lib.hid hdd
    clear hi' hs hI hlF hdd hcw
    rcases hcs with rfl | rfl | rfl | rfl | rfl | rfl | rfl | rfl | rfl
    · simp only [List.getElem?_cons_zero, Option.some.injEq] at ho
      subst ho
      have k2 := hh.kept 2 (by simp)
      simp at k2
      go_simp
      exact ⟨_, rfl, HI.out.step 0 (by omega) (by omega) _ _ (Below.refl _ _) HLF.out (fun _ _ => rfl) (fun h => by omega) (fun h => by omega) (fun h => by omega)⟩
    · simp only [List.getElem?_cons_zero, List.getElem?_cons_succ, Option.some.injEq] at ho
      subst ho
      have l0 : L.getD 0 false = true := HD.out ⟨0, .data⟩ (by simp) rfl
      have g0 := hh.got 0 _ 24 rfl rfl l0 (by simp)
      rw [HI.out.known 0 (by omega) (by omega) l0] at g0
      simp [renKq] at g0
      clear l0
      go_simp
      exact ⟨_, rfl, HI.out.step 1 (by omega) (by omega) _ _ (Below.refl _ _) HLF.out (fun _ _ => rfl) (fun h => by omega) (fun h => by omega) (fun h => by omega)⟩
    · simp only [List.getElem?_cons_zero, List.getElem?_cons_succ, Option.some.injEq] at ho
      subst ho
      have l1 : L.getD 1 false = true := HD.out ⟨1, .data⟩ (by simp) rfl
      have g1 := hh.got 1 _ 25 rfl rfl l1 (by simp)
      rw [HI.out.known 1 (by omega) (by omega) l1] at g1
      simp [renKq] at g1
      clear l1
      go_simp
      exact ⟨_, rfl, HI.out.step 2 (by omega) (by omega) _ _ (Below.refl _ _) HLF.out (fun _ _ => rfl) (fun h => by omega) (fun h => by omega) (fun h => by omega)⟩
    · simp only [List.getElem?_cons_zero, List.getElem?_cons_succ, Option.some.injEq] at ho
      subst ho
      have l2 : L.getD 2 false = true := HD.out ⟨2, .data⟩ (by simp) rfl
      have g2 := hh.got 2 _ 26 rfl rfl l2 (by simp)
      rw [HI.out.known 2 (by omega) (by omega) l2] at g2
      simp [renKq] at g2
      clear l2
      go_simp
      exact ⟨_, rfl, HI.out.step 3 (by omega) (by omega) _ _ ((Below.refl _ _).alloc (Nat.le_refl _) _) HLF.out (fun _ h => absurd rfl h) (fun _ => ⟨rfl, alloc_new_at _ _ _ rfl⟩) (fun h => by omega) (fun h => by omega)⟩
    · simp only [List.getElem?_cons_zero, List.getElem?_cons_succ, Option.some.injEq] at ho
      subst ho
      have k2 := hh.kept 2 (by simp)
      simp at k2
      go_simp
      exact ⟨_, rfl, HI.out.step 4 (by omega) (by omega) _ _ (Below.refl _ _) HLF.out (fun _ _ => rfl) (fun h => by omega) (fun h => by omega) (fun h => by omega)⟩
    · simp only [List.getElem?_cons_zero, List.getElem?_cons_succ, Option.some.injEq] at ho
      subst ho
      have l4 : L.getD 4 false = true := HD.out ⟨4, .data⟩ (by simp) rfl
      have g4 := hh.got 4 _ 28 rfl rfl l4 (by simp)
      rw [HI.out.known 4 (by omega) (by omega) l4] at g4
      simp [renKq] at g4
      clear l4
      go_simp
      exact ⟨_, rfl, HI.out.step 5 (by omega) (by omega) _ _ (Below.refl _ _) HLF.out (fun _ _ => rfl) (fun h => by omega) (fun h => by omega) (fun h => by omega)⟩
    · simp only [List.getElem?_cons_zero, List.getElem?_cons_succ, Option.some.injEq] at ho
      subst ho
      have l3 : L.getD 3 false = true := HD.out ⟨3, .data⟩ (by simp) rfl
      have g3 := hh.got 3 _ 27 rfl rfl l3 (by simp)
      have l5 : L.getD 5 false = true := HD.out ⟨5, .data⟩ (by simp) rfl
      have g5 := hh.got 5 _ 29 rfl rfl l5 (by simp)
      rw [HI.out.known 5 (by omega) (by omega) l5] at g5
      simp [renKq] at g5
      obtain ⟨b3, x3⟩ := HI.out.form3 l3
      rw [x3] at g3
      simp at g3
      have HL3 := Lib.hid l3
      have X3 := Lib.hid x3
      clear l3 l5 x3
      go_simp
      exact ⟨_, rfl, HI.out.step 6 (by omega) (by omega) _ _ (Below.refl _ _) HLF.out (fun h => by omega) (fun h => by omega) (fun _ => ⟨by rw [X3.out], HL3.out⟩) (fun h => by omega)⟩
    · simp only [List.getElem?_cons_zero, List.getElem?_cons_succ, Option.some.injEq] at ho
      subst ho
      go_simp
      exact ⟨_, rfl, HI.out.step 7 (by omega) (by omega) _ _ ((Below.refl _ _).alloc (Nat.le_refl _) _) HLF.out (fun h => by omega) (fun h => by omega) (fun h => by omega) (fun _ => ⟨rfl, _, _, _, alloc_new_at _ _ _ rfl⟩)⟩
    · simp only [List.getElem?_cons_zero, List.getElem?_cons_succ, Option.some.injEq] at ho
      subst ho
      have l7 : L.getD 7 false = true := HD.out ⟨7, .data⟩ (by simp) rfl
      have g7 := hh.got 7 _ 7 rfl rfl l7 (by simp)
      have l6 : L.getD 6 false = true := HD.out ⟨6, .data⟩ (by simp) rfl
      have g6 := hh.got 6 _ 30 rfl rfl l6 (by simp)
      obtain ⟨e10, _, u', x', v', gb, _⟩ := HI.out.al l7
      generalize hg : vb (val 7) = g at e10 gb
      have e9 := HI.out.bld l6
      obtain ⟨b3, x3⟩ := HI.out.form3 (HI.out.d6 l6)
      rw [e9, x3] at g6
      simp at g6
      rw [e10] at g7
      simp at g7
      obtain ⟨_, _, _, _, _, _⟩ := cells3f gb
      have hlg : g < W.heap.size := lt_of_block gb
      have HL6 := Lib.hid l6
      have HL7 := Lib.hid l7
      have HE10 := Lib.hid e10
      have X3 := Lib.hid x3
      clear l6 l7 e9 e10 gb hg x3
      go_simp
      have hf := HI.out.fill (by omega) g HE10.out HL6.out HL7.out
      rw [X3.out] at hf
      exact ⟨undef, hf⟩
theorem rren_any (n : NetM) (l : List Int) (a1 a2 al : Option Addr) (c1 c2 cl : Nat) (hl : l.length ≤ 100000) (w : World)
    (hp : PsAt w (.slice a1 n.ps.length c1) n.ps) (hs : SsAt w (.slice a2 n.ss.length c2) n.ss) (hi : IntsAt w (.slice al l.length cl) l) :
    Calls Try.prog 31 #[.agg #[.slice a1 n.ps.length c1, .int .i64 n.inp, .slice a2 n.ss.length c2], .slice al l.length cl] w (RenOut (renE n l) (renR n l) w) := by
  by_cases he : ncheck n = 0
  · by_cases hq : permE l n.ps.length = 0
    · exact rren_ok n l a1 a2 al c1 c2 cl he hq hl w hp hs hi
    · exact rren_bad2 n l a1 a2 al c1 c2 cl he hq hl w hp hs hi
  · exact rren_bad1 n l a1 a2 al c1 c2 cl he w hp hs
end Go.Proofs.Ytgbcdebnanejpaa.Rn
