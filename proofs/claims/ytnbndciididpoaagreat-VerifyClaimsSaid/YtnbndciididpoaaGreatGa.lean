/- Drawn regions that append one element of known values to a row of one's own: a row in a slot (GaR), a row in a block (GmR). Over any program. -/
import Derived.Test.YtnbndciididpoaaGreatDq
import Derived.Test.YtnbndciididpoaaGreatG
import Derived.Test.YtnbndciididpoaaGreatF
namespace Go.Proofs.YtnbndciididpoaaGreat
set_option linter.unusedVariables false
open Go.RowKit

theorem getD_set_ne3 {L : Array Bool} {i j : Nat} (h : i ≠ j) : (L.setIfInBounds i true).getD j false = L.getD j false := by
  simp [Array.getD_eq_getD_getElem?, Array.getElem?_setIfInBounds_ne h]
theorem getD_set_eq3 {L : Array Bool} {i : Nat} (h : i < L.size) : (L.setIfInBounds i true).getD i false = true := by simp [h]
theorem gdD {L : Array Bool} {i j : Nat} (h : j ≠ i) : (L.setIfInBounds i true).getD j false = L.getD j false := getD_set_ne3 (fun e => h e.symm)
theorem setV_eq {val : Nat → Value} {i : Nat} {v : Value} : setV val i v i = v := by simp [setV]
theorem setV_ne {val : Nat → Value} {i j : Nat} {v : Value} (h : j ≠ i) : setV val i v j = val j := by simp [setV, h]
theorem replT {N j : Nat} (h : j < N) : (Array.replicate N true).getD j false = true := by
  simp [Array.getD_eq_getD_getElem?, h]
theorem not_of {a b : Bool} (h : b = true → a = true) (ha : a = false) : b = false := by cases b <;> simp_all
theorem own_slC {W : World} {base t m k : Nat} {v : Value} {cs : List Value} (h : W.ownsRow base t m v k cs) : ∃ a c, v = .slice a k c := by
  rcases h.2 with ⟨rfl, rfl⟩ | ⟨g, cap, cur, rfl, _⟩ <;> exact ⟨_, _, rfl⟩
theorem own_sl {W : World} {base t m k : Nat} {v : Value} {cs : List Value} (h : W.ownsRow base t m v k cs) : ∃ a c, v = .slice a k c := own_slC h
theorem cells_new {W : World} {b : Nat} {l : List Value} {t : TypeId} {m : Nat × Nat} (h : W.heap[b]? = some (.cells ⟨l⟩ t m)) : ∀ (j : Nat) u, l[j]? = some u → W.cell? ((⟨b, 0, none⟩ : Addr).add j) = some u := fun j u hu => by
  have e : (⟨b, 0, none⟩ : Addr).add j = ⟨b, j, none⟩ := by unfold Addr.add; split <;> simp_all
  rw [e]
  simp [World.cell?, h, hu]
theorem setCell_own {W : World} {g i : Nat} {cs : Array Value} {T : TypeId} (u : Value) (h : W.heap[g]? = some (.cells cs T)) : (W.setCell ⟨g, i, none⟩ u).heap[g]? = some (.cells (cs.setIfInBounds i u) T) := by
  simp [World.setCell, Array.getElem?_modify, h]
theorem setCell_sz {W : World} {a : Addr} {u : Value} : (W.setCell a u).heap.size = W.heap.size := by simp [World.setCell]
theorem setCell_o {W : World} {g i b : Nat} {u : Value} (h : b ≠ g) : (W.setCell ⟨g, i, none⟩ u).heap[b]? = W.heap[b]? := by
  simp [World.setCell, Array.getElem?_modify, Ne.symm h]
theorem ownsMono {W : World} {B H t m k : Nat} {v : Value} {cs : List Value} (h : W.ownsRow B t m v k cs) (hB : H ≤ B) : W.ownsRow H t m v k cs := by
  refine ⟨h.1, ?_⟩
  rcases h.2 with q | ⟨g, cap, cur, e, h1, h2⟩
  · exact .inl q
  · exact .inr ⟨g, cap, cur, e, by omega, h2⟩
/-- A row that nothing has touched. -/
theorem ownsBelow {W W' : World} {B t m k : Nat} {v : Value} {cs : List Value} (h : W.ownsRow B t m v k cs) (hb : Below W.heap.size W W') : W'.ownsRow B t m v k cs :=
  ownsRow_of_block h fun g hg => hb.block g (h.lt g hg).2

/-- t is the type of slices of e, whose values have m cells and so many bytes. -/
structure ElT (P : Program) (t e : TypeId) (m bytes : Nat) : Prop where
  sl : P.underlying t = some (.slice e)
  inf : ∃ i z, P.info? e = some i ∧ i.zero = some z ∧ i.size = m ∧ i.bytes = bytes ∧ z.cells.size = m
  pos : 0 < m
theorem ElT.run {P : Program} {t e : TypeId} {m bytes : Nat} (T : ElT P t e m bytes) {W : World} {H n : Nat} {v : Value} {cs cx : List Value} (ho : W.ownsRow H e m v n cs) (hn : n ≤ 1000000) (hb : bytes ≤ 1000)
    {g : Nat} (hg : W.heap[g]? = some (.cells cx.toArray e)) (hcx : cx.length = m) (h1 : ∀ u ∈ cx, u.oneCell' = true) (hH : H ≤ W.heap.size) (ty : TypeId) :
    ∃ v' W', (Builtin.append_ #[t, t] ty #[v, .slice (some ⟨g, 0, none⟩) 1 1]).run P W = .ok v' W' ∧ W'.ownsRow H e m v' (n + 1) (cs ++ cx) ∧ W.grownBy W' v.ownBlock ∧ (v'.ownBlock = v.ownBlock ∨ v'.ownBlock = some W.heap.size) := by
  obtain ⟨i, z, hi, hz, hs, hby, hzs⟩ := T.inf
  have hbb : (n + 1) * bytes ≤ 140737488355328 := Nat.le_trans (Nat.mul_le_mul (show n + 1 ≤ 1000001 by omega) hb) (by decide)
  obtain ⟨v', W', r1, r2, r3, _⟩ := run_append_own (P := P) W H t ty e i z m bytes T.sl hi hz hs hby hzs T.pos v n cs ho ⟨g, 0, none⟩ 1 1 cx (by omega) (cells_new hg) h1 (by unfold maxLen; omega) hbb hH
  exact ⟨v', W', r1, r2, r3, run_append_where (P := P) W H t ty e i z m bytes T.sl hi hz hs hby v n cs ho ⟨g, 0, none⟩ 1 1 (by decide) cx (by omega) (cells_new hg) h1 (by unfold maxLen; omega) hbb v' W' r1⟩

/-! ### a row in a slot -/
/-- What holds in a drawn region whose operations below p are known; p makes a slice of the element, p + 1 appends it, p + 2 stores it in a slot. -/
structure GaR (e m : Nat) (W0 : World) (H n p : Nat) (cs cx : List Value) (v0 : Value) (Kv : Nat → Value) (L : Array Bool) (val : Nat → Value) (W : World) : Prop where
  hH : H ≤ W0.heap.size
  known : ∀ j, j < p → L.getD j false = true → val j = Kv j
  bel : Below H W0 W
  oth : ∀ b, b < W0.heap.size → v0.ownBlock ≠ some b → W.heap[b]? = W0.heap[b]?
  o0 : L.getD (p + 1) false = false → W.ownsRow H e m v0 n cs
  op : L.getD p false = true → L.getD (p + 1) false = false → ∃ g, val p = .slice (some ⟨g, 0, none⟩) 1 1 ∧ W.heap[g]? = some (.cells cx.toArray e)
  oa : L.getD (p + 1) false = true → W.ownsRow H e m (val (p + 1)) (n + 1) (cs ++ cx) ∧ ((val (p + 1)).ownBlock = v0.ownBlock ∨ ∃ g, (val (p + 1)).ownBlock = some g ∧ W0.heap.size ≤ g)
  ea : L.getD (p + 2) false = true → val (p + 2) = val (p + 1)
  da : L.getD (p + 1) false = true → L.getD p false = true
  dz : L.getD (p + 2) false = true → L.getD (p + 1) false = true
section
variable {P : Program} {t e m bytes : Nat} {W0 W : World} {H n p : Nat} {cs cx : List Value} {v0 : Value} {Kv : Nat → Value} {L : Array Bool} {val : Nat → Value}
theorem GaR.init (N : Nat) (hH : H ≤ W0.heap.size) (h0 : W0.ownsRow H e m v0 n cs) :
    GaR e m W0 H n p cs cx v0 Kv (Array.replicate N false) (fun _ => undef) { W0 with drawn := W0.drawn + 1 } := by
  have z : ∀ j, (Array.replicate N false).getD j false = true → False := fun j h => by
    simp [Array.getD_eq_getD_getElem?, Array.getElem?_replicate] at h
    split at h <;> simp_all
  exact ⟨hH, fun j _ h => (z _ h).elim, ⟨rfl, rfl, rfl, Nat.le_refl _, fun _ _ => rfl⟩, fun _ _ _ => rfl, fun _ => h0, fun h => (z _ h).elim, fun h => (z _ h).elim, fun h => (z _ h).elim, fun h => (z _ h).elim, fun h => (z _ h).elim⟩
theorem GaR.skip (h : GaR e m W0 H n p cs cx v0 Kv L val W) (i : Nat) (hi : i < p) (u : Value) (hu : u = Kv i) :
    GaR e m W0 H n p cs cx v0 Kv (L.setIfInBounds i true) (setV val i u) W := by
  refine ⟨h.hH, fun j hj hl => ?_, h.bel, h.oth, ?_, ?_, ?_, ?_, ?_, ?_⟩
  · by_cases e : j = i
    · subst e; rw [setV_eq]; exact hu
    · rw [setV_ne e]; exact h.known j hj (by rwa [gdD e] at hl)
  · rw [gdD (by omega)]; exact h.o0
  · rw [gdD (by omega), gdD (by omega), setV_ne (by omega)]; exact h.op
  · rw [gdD (by omega), setV_ne (by omega)]; exact h.oa
  · rw [gdD (by omega), setV_ne (by omega), setV_ne (by omega)]; exact h.ea
  · rw [gdD (by omega), gdD (by omega)]; exact h.da
  · rw [gdD (by omega), gdD (by omega)]; exact h.dz
theorem GaR.make (h : GaR e m W0 H n p cs cx v0 Kv L val W) (hs : p + 2 < L.size) (hf : L.getD p false = false) :
    GaR e m W0 H n p cs cx v0 Kv (L.setIfInBounds p true) (setV val p (.slice (some ⟨W.heap.size, 0, none⟩) 1 1)) (W.alloc (.cells cx.toArray e)) := by
  have f1 := not_of h.da hf
  have f2 := not_of h.dz f1
  have hz := h.bel.size
  have hH := h.hH
  have old : ∀ b, b < W.heap.size → (W.alloc (.cells cx.toArray e)).heap[b]? = W.heap[b]? := fun b hb => Below.heap_alloc _ _ _ hb
  refine ⟨h.hH, fun j hj hl => ?_, h.bel.alloc (by omega) _, fun b hb hn => (old b (by omega)).trans (h.oth b hb hn), fun g => ?_, fun _ _ => ?_, ?_, ?_, ?_, ?_⟩
  · rw [setV_ne (by omega)]; exact h.known j hj (by rwa [gdD (by omega)] at hl)
  · exact ownsRow_of_block (h.o0 f1) fun g hg => old g ((h.o0 f1).lt g hg).2
  · rw [setV_eq]; exact ⟨_, rfl, alloc_new_at _ _ _ rfl⟩
  · rw [gdD (by omega), f1]; intro hh; cases hh
  · rw [gdD (by omega), f2]; intro hh; cases hh
  · intro _; exact getD_set_eq3 (by omega)
  · rw [gdD (by omega), f2]; intro hh; cases hh
theorem GaR.app (T : ElT P t e m bytes) (hbb : bytes ≤ 1000) (hcx : cx.length = m) (h1 : ∀ u ∈ cx, u.oneCell' = true) (h : GaR e m W0 H n p cs cx v0 Kv L val W) (hs : p + 2 < L.size) (hf : L.getD (p + 1) false = false) (lp : L.getD p false = true) (hn : n ≤ 1000000) (ty : TypeId) :
    ∃ v' W', (Builtin.append_ #[t, t] ty #[v0, val p]).run P W = .ok v' W' ∧ GaR e m W0 H n p cs cx v0 Kv (L.setIfInBounds (p + 1) true) (setV val (p + 1) v') W' := by
  have f2 := not_of h.dz hf
  have hz := h.bel.size
  have hH := h.hH
  obtain ⟨g7, e7, c7⟩ := h.op lp hf
  have ho := h.o0 hf
  rw [e7]
  obtain ⟨v', W', hr, ho', hg, hw⟩ := T.run ho hn hbb c7 hcx h1 (by omega) ty
  have hb : Below H W W' := ⟨hg.os, hg.tape, hg.output, hg.size, fun b hb => hg.block b (by omega) fun e => by have := (ho.lt b e.symm).1; omega⟩
  refine ⟨v', W', hr, h.hH, fun j hj hl => ?_, h.bel.trans hb, fun b hb1 hn1 => (hg.block b (by omega) (fun e => hn1 e.symm)).trans (h.oth b hb1 hn1), ?_, ?_, fun _ => ?_, ?_, fun _ => ?_, ?_⟩
  · rw [setV_ne (by omega)]; exact h.known j hj (by rwa [gdD (by omega)] at hl)
  · rw [getD_set_eq3 (by omega)]; intro hh; cases hh
  · intro _; rw [getD_set_eq3 (by omega)]; intro hh; cases hh
  · rw [setV_eq]
    refine ⟨ho', ?_⟩
    rcases hw with hw | hw
    · exact .inl hw
    · exact .inr ⟨_, hw, hz⟩
  · rw [gdD (by omega), f2]; intro hh; cases hh
  · rw [gdD (by omega)]; exact lp
  · rw [gdD (by omega), f2]; intro hh; cases hh
theorem GaR.asg (h : GaR e m W0 H n p cs cx v0 Kv L val W) (hs : p + 2 < L.size) (l1 : L.getD (p + 1) false = true) :
    GaR e m W0 H n p cs cx v0 Kv (L.setIfInBounds (p + 2) true) (setV val (p + 2) (val (p + 1))) W := by
  refine ⟨h.hH, fun j hj hl => ?_, h.bel, h.oth, ?_, ?_, ?_, fun _ => ?_, ?_, fun _ => ?_⟩
  · rw [setV_ne (by omega)]; exact h.known j hj (by rwa [gdD (by omega)] at hl)
  · rw [gdD (by omega)]; exact h.o0
  · rw [gdD (by omega), gdD (by omega), setV_ne (by omega)]; exact h.op
  · rw [gdD (by omega), setV_ne (by omega)]; exact h.oa
  · rw [setV_eq, setV_ne (by omega)]
  · rw [gdD (by omega), gdD (by omega)]; exact h.da
  · rw [gdD (by omega)]; exact l1
end

/-! ### a row in a block -/
/-- What holds in a drawn region that loads a row from cell q of block T (pl), makes a slice of one element (pm), appends it (pa) and stores the row (ps); the other operations are known. -/
structure GmR (e m : Nat) (W0 : World) (B0 H T q n : Nat) (C : Array Value) (tyT : TypeId) (pl pm pa ps : Nat) (cs cx : List Value) (v0 : Value) (Kv : Nat → Value) (L : Array Bool) (val : Nat → Value) (W : World) : Prop where
  hB : B0 ≤ T ∧ B0 ≤ H ∧ T < W0.heap.size ∧ H ≤ W0.heap.size
  vb : v0.ownBlock ≠ some T
  known : ∀ j, j ≠ pm → j ≠ pa → j ≠ ps → L.getD j false = true → val j = Kv j
  bel : Below B0 W0 W
  oth : ∀ b, b < W0.heap.size → b ≠ T → v0.ownBlock ≠ some b → W.heap[b]? = W0.heap[b]?
  bx0 : L.getD ps false = false → W.heap[T]? = some (.cells C tyT)
  o0 : L.getD pa false = false → W.ownsRow H e m v0 n cs
  mm : L.getD pm false = true → L.getD pa false = false → ∃ g, val pm = .slice (some ⟨g, 0, none⟩) 1 1 ∧ W0.heap.size ≤ g ∧ W.heap[g]? = some (.cells cx.toArray e)
  ma : L.getD pa false = true → W.ownsRow H e m (val pa) (n + 1) (cs ++ cx) ∧ (val pa).ownBlock ≠ some T ∧ ((val pa).ownBlock = v0.ownBlock ∨ ∃ g, (val pa).ownBlock = some g ∧ W0.heap.size ≤ g)
  bs : L.getD ps false = true → W.heap[T]? = some (.cells (C.setIfInBounds q (val pa)) tyT)
  da : L.getD pa false = true → L.getD pm false = true
  ds : L.getD ps false = true → L.getD pa false = true
  dl : L.getD pa false = true → L.getD pl false = true
section
variable {P : Program} {t e m bytes : Nat} {W0 W : World} {B0 H T q n : Nat} {C : Array Value} {tyT : TypeId} {pl pm pa ps : Nat} {cs cx : List Value} {v0 : Value} {Kv : Nat → Value} {L : Array Bool} {val : Nat → Value}
theorem GmR.init (N : Nat) (hB : B0 ≤ T ∧ B0 ≤ H ∧ T < W0.heap.size ∧ H ≤ W0.heap.size) (hb : W0.heap[T]? = some (.cells C tyT)) (h0 : W0.ownsRow H e m v0 n cs) (hv : v0.ownBlock ≠ some T) :
    GmR e m W0 B0 H T q n C tyT pl pm pa ps cs cx v0 Kv (Array.replicate N false) (fun _ => undef) { W0 with drawn := W0.drawn + 1 } := by
  have z : ∀ j, (Array.replicate N false).getD j false = true → False := fun j h => by
    simp [Array.getD_eq_getD_getElem?, Array.getElem?_replicate] at h
    split at h <;> simp_all
  exact ⟨hB, hv, fun j _ _ _ h => (z _ h).elim, ⟨rfl, rfl, rfl, Nat.le_refl _, fun _ _ => rfl⟩, fun _ _ _ _ => rfl, fun _ => hb, fun _ => h0, fun h => (z _ h).elim, fun h => (z _ h).elim, fun h => (z _ h).elim, fun h => (z _ h).elim, fun h => (z _ h).elim, fun h => (z _ h).elim⟩
theorem size_of {L : Array Bool} {i : Nat} (h : L.getD i false = true) : i < L.size := by
  rw [Array.getD_eq_getD_getElem?] at h
  cases e : L[i]? with
  | none => rw [e] at h; cases h
  | some x => exact (Array.getElem?_eq_some_iff.1 e).1
theorem GmR.skip (h : GmR e m W0 B0 H T q n C tyT pl pm pa ps cs cx v0 Kv L val W) (i : Nat) (nm : i ≠ pm) (na : i ≠ pa) (ns : i ≠ ps) (u : Value) (hu : u = Kv i) :
    GmR e m W0 B0 H T q n C tyT pl pm pa ps cs cx v0 Kv (L.setIfInBounds i true) (setV val i u) W := by
  refine ⟨h.hB, h.vb, fun j h1 h2 h3 hl => ?_, h.bel, h.oth, ?_, ?_, ?_, ?_, ?_, ?_, ?_, ?_⟩
  · by_cases e : j = i
    · subst e; rw [setV_eq]; exact hu
    · rw [setV_ne e]; exact h.known j h1 h2 h3 (by rwa [gdD e] at hl)
  · rw [gdD ns.symm]; exact h.bx0
  · rw [gdD na.symm]; exact h.o0
  · rw [gdD nm.symm, gdD na.symm, setV_ne nm.symm]; exact h.mm
  · rw [gdD na.symm, setV_ne na.symm]; exact h.ma
  · rw [gdD ns.symm, setV_ne na.symm]; exact h.bs
  · rw [gdD na.symm, gdD nm.symm]; exact h.da
  · rw [gdD ns.symm, gdD na.symm]; exact h.ds
  · rw [gdD na.symm]; intro hh
    by_cases e : pl = i
    · subst e; have h1 := h.dl hh; rw [getD_set_eq3 (size_of h1)]
    · rw [gdD e]; exact h.dl hh
theorem GmR.make (h : GmR e m W0 B0 H T q n C tyT pl pm pa ps cs cx v0 Kv L val W) (hs : pm < L.size) (hd : pm ≠ pa ∧ pm ≠ ps ∧ pa ≠ ps) (fm : L.getD pm false = false) :
    GmR e m W0 B0 H T q n C tyT pl pm pa ps cs cx v0 Kv (L.setIfInBounds pm true) (setV val pm (.slice (some ⟨W.heap.size, 0, none⟩) 1 1)) (W.alloc (.cells cx.toArray e)) := by
  have fa := not_of h.da fm
  have fs := not_of h.ds fa
  have hz := h.bel.size
  have hT := h.hB
  obtain ⟨n1, n2, n3⟩ := hd
  have old : ∀ b, b < W.heap.size → (W.alloc (.cells cx.toArray e)).heap[b]? = W.heap[b]? := fun b hb => Below.heap_alloc _ _ _ hb
  refine ⟨h.hB, h.vb, fun j h1 h2 h3 hl => ?_, h.bel.alloc (by omega) _, fun b hb h1 h2 => (old b (by omega)).trans (h.oth b hb h1 h2), fun _ => (old T (by omega)).trans (h.bx0 fs), fun _ => ?_, fun _ _ => ?_, ?_, ?_, ?_, ?_, ?_⟩
  · rw [setV_ne h1]; exact h.known j h1 h2 h3 (by rwa [gdD h1] at hl)
  · exact ownsRow_of_block (h.o0 fa) fun g hg => old g ((h.o0 fa).lt g hg).2
  · rw [setV_eq]; exact ⟨_, rfl, hz, alloc_new_at _ _ _ rfl⟩
  · rw [gdD n1.symm, fa]; intro hh; cases hh
  · rw [gdD n2.symm, fs]; intro hh; cases hh
  · rw [gdD n1.symm, fa]; intro hh; cases hh
  · rw [gdD n2.symm, fs]; intro hh; cases hh
  · rw [gdD n1.symm, fa]; intro hh; cases hh
theorem GmR.app (T0 : ElT P t e m bytes) (hbb : bytes ≤ 1000) (hcx : cx.length = m) (hone : ∀ u ∈ cx, u.oneCell' = true) (h : GmR e m W0 B0 H T q n C tyT pl pm pa ps cs cx v0 Kv L val W) (hs : pa < L.size) (hd : pm ≠ pa ∧ pm ≠ ps ∧ pa ≠ ps) (hpl : pl ≠ pa)
    (fa : L.getD pa false = false) (lm : L.getD pm false = true) (ll : L.getD pl false = true) (hn : n ≤ 1000000) (ty : TypeId) :
    ∃ v' W', (Builtin.append_ #[t, t] ty #[v0, val pm]).run P W = .ok v' W' ∧ GmR e m W0 B0 H T q n C tyT pl pm pa ps cs cx v0 Kv (L.setIfInBounds pa true) (setV val pa v') W' := by
  have fs := not_of h.ds fa
  have hz := h.bel.size
  have hT := h.hB
  obtain ⟨n1, n2, n3⟩ := hd
  obtain ⟨g6, e6, hg6, c6⟩ := h.mm lm fa
  have ho := h.o0 fa
  rw [e6]
  obtain ⟨v', W', r1, r2, hg, hw⟩ := T0.run ho hn hbb c6 hcx hone (by omega) ty
  have hb : Below B0 W W' := ⟨hg.os, hg.tape, hg.output, hg.size, fun b hb => hg.block b (by omega) fun e => by have := (ho.lt b e.symm).1; omega⟩
  refine ⟨v', W', r1, h.hB, h.vb, fun j h1 h2 h3 hl => ?_, h.bel.trans hb, fun b hb1 h1 h2 => (hg.block b (by omega) (fun e => h2 e.symm)).trans (h.oth b hb1 h1 h2), fun _ => (hg.block T (by omega) (fun e => h.vb e.symm)).trans (h.bx0 fs), ?_, ?_, fun _ => ?_, ?_, fun _ => ?_, ?_, fun _ => ?_⟩
  · rw [setV_ne h2]; exact h.known j h1 h2 h3 (by rwa [gdD h2] at hl)
  · rw [getD_set_eq3 hs]; intro hh; cases hh
  · intro _; rw [getD_set_eq3 hs]; intro hh; cases hh
  · rw [setV_eq]
    refine ⟨r2, ?_, ?_⟩
    · rcases hw with hw | hw
      · rw [hw]; exact h.vb
      · rw [hw]; intro e; cases e; omega
    · rcases hw with hw | hw
      · exact .inl hw
      · exact .inr ⟨_, hw, hz⟩
  · rw [gdD n3.symm, fs]; intro hh; cases hh
  · rw [gdD n1]; exact lm
  · rw [gdD n3.symm, fs]; intro hh; cases hh
  · rw [gdD hpl]; exact ll
theorem GmR.fill (h : GmR e m W0 B0 H T q n C tyT pl pm pa ps cs cx v0 Kv L val W) (hs : ps < L.size) (hd : pm ≠ pa ∧ pm ≠ ps ∧ pa ≠ ps) (hpl : pl ≠ ps) (fs : L.getD ps false = false) (la : L.getD pa false = true) (u : Value) :
    GmR e m W0 B0 H T q n C tyT pl pm pa ps cs cx v0 Kv (L.setIfInBounds ps true) (setV val ps u) (W.setCell ⟨T, q, none⟩ (val pa)) := by
  have hz := h.bel.size
  have hT := h.hB
  obtain ⟨n1, n2, n3⟩ := hd
  have hm := h.ma la
  have lm := h.da la
  refine ⟨h.hB, h.vb, fun j h1 h2 h3 hl => ?_, Below.setCell h.bel hT.1 _, fun b hb h1 h2 => (setCell_o h1).trans (h.oth b hb h1 h2), ?_, ?_, ?_, ?_, fun _ => ?_, ?_, fun _ => ?_, ?_⟩
  · rw [setV_ne h3]; exact h.known j h1 h2 h3 (by rwa [gdD h3] at hl)
  · rw [getD_set_eq3 hs]; intro hh; cases hh
  · rw [gdD n3, la]; intro hh; cases hh
  · rw [gdD n2, gdD n3, la]; intro _ hh; cases hh
  · rw [gdD n3, setV_ne n3]; intro _
    exact ⟨ownsRow_of_block hm.1 fun g hg => setCell_o (fun e => hm.2.1 (by rw [hg, e])), hm.2⟩
  · rw [setV_ne n3]
    exact setCell_own (i := q) (val pa) (h.bx0 fs)
  · rw [gdD n3, gdD n2]; exact h.da
  · rw [gdD n3]; exact la
  · rw [gdD n3, gdD hpl]; exact h.dl
end
end Go.Proofs.YtnbndciididpoaaGreat
