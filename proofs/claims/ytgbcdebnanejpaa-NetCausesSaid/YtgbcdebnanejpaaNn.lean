/- net.wire: the synapses of each source. -/
import Derived.Test.YtgbcdebnanejpaaNm
import Derived.Test.YtgbcdebnanejpaaDv
import Derived.Maps.AppendAt
namespace Go.Proofs.Ytgbcdebnanejpaa
set_option linter.unusedVariables false
open Go.RowKit Go.Shelf

def synV (s : Syn) : List Value := [.int .i64 s.fr, .int .i64 s.to, .int .i64 s.wt, .int .i64 s.dl]
def synCs (l : List Syn) : List Value := l.flatMap synV
theorem synCs_length (l : List Syn) : (synCs l).length = l.length * 4 := by
  induction l with
  | nil => rfl
  | cons s l ih => simp [synCs, synV] at *; omega
theorem synCs_snoc (l : List Syn) (s : Syn) : synCs (l ++ [s]) = synCs l ++ synV s := by simp [synCs]
theorem ofSrc_snoc (l : List Syn) (s : Syn) (x : Int) : ofSrc (l ++ [s]) x = ofSrc l x ++ if s.fr = x then [s] else [] := by
  unfold ofSrc
  rw [List.filter_append]
  congr 1
  by_cases h : s.fr = x <;> simp [h]
/-- The entry of a source. -/
def entW (ss : List Syn) (sl : Int → Value) : Int → Option Value := fun x => if ofSrc ss x = [] then none else some (sl x)
/-- Block mb is a map of the sources' synapses; each list has a block of its own, from base on. -/
structure WiresAt (A : World) (mb base n : Nat) (ss : List Syn) (sl : Int → Value) : Prop where
  map : MapIs A mb n (entW ss sl)
  row : ∀ x, A.ownsRow base 96 4 (sl x) (ofSrc ss x).length (synCs (ofSrc ss x))
  nil : ∀ x, ofSrc ss x = [] → sl x = .slice none 0 0
  apart : ∀ x y g, (sl x).ownBlock = some g → (sl y).ownBlock = some g → x = y
  lt : mb < base
theorem WiresAt.of_block {A A' : World} {mb base n : Nat} {ss : List Syn} {sl : Int → Value} (h : WiresAt A mb base n ss sl) (hm : A'.heap[mb]? = A.heap[mb]?) (hb : ∀ b, base ≤ b → b < A.heap.size → A'.heap[b]? = A.heap[b]?) : WiresAt A' mb base n ss sl :=
  ⟨h.map.of_block hm, fun x => ownsRow_of_block (h.row x) fun g hg => hb g ((h.row x).lt g hg).1 ((h.row x).lt g hg).2, h.nil, h.apart, h.lt⟩
theorem info96 : (Try.prog.info? 96).map (fun i => (i.zero, i.size, i.bytes)) = some (some (.agg #[.int .i64 0, .int .i64 0, .int .i64 0, .int .i64 0]), 4, 32) := by kernel_rfl
theorem zero23 (w : World) : (zeroValue 23).run Try.prog w = .ok (.slice none 0 0) w := by kernel_rfl

/-- The world inside the region that enters a synapse. -/
structure WireR (W0 : World) (mb base H k : Nat) (f : Int → Option Value) (s : Syn) (len : Nat) (old : List Value) (v : Value) (Kv : Nat → Value) (L : Array Bool) (val : Nat → Value) (W : World) : Prop where
  known : ∀ j, j ≤ 8 → L.getD j false = true → val j = Kv j
  keep : ∀ b, b < H → b ≠ mb → some b ≠ v.ownBlock → W.heap[b]? = W0.heap[b]?
  map : L.getD 10 false = false → W.heap[mb]? = W0.heap[mb]?
  row : L.getD 9 false = false → ∀ b, v.ownBlock = some b → W.heap[b]? = W0.heap[b]?
  blk : L.getD 8 false = true → W.heap[H]? = some (.cells (synV s).toArray 96)
  new : L.getD 8 false = false → W.heap.size = H
  app : L.getD 9 false = true → W.ownsRow base 96 4 (val 9) (len + 1) (old ++ synV s) ∧ ((val 9).ownBlock = v.ownBlock ∨ ∃ g, (val 9).ownBlock = some g ∧ H < g)
  fin : L.getD 10 false = true → MapIs W mb (k + 1) (upd1 f s.fr (some (val 9)))
  d9 : L.getD 9 false = true → L.getD 8 false = true
  d10 : L.getD 10 false = true → L.getD 9 false = true
  d6 : L.getD 9 false = true → L.getD 6 false = true
  sz : H ≤ W.heap.size
  sz8 : L.getD 8 false = true → H < W.heap.size
  os : W.os = W0.os
  tape : W.tape = W0.tape
  output : W.output = W0.output
theorem getD_set_ne3 {L : Array Bool} {i j : Nat} (h : i ≠ j) : (L.setIfInBounds i true).getD j false = L.getD j false := by
  simp only [Array.getD_eq_getD_getElem?]; rw [Array.getElem?_setIfInBounds_ne h]
theorem getD_set_eq3 {L : Array Bool} {i : Nat} (h : i < L.size) : (L.setIfInBounds i true).getD i false = true := by simp [h]
theorem setV_eq {val : Nat → Value} {i : Nat} {v : Value} : setV val i v i = v := by simp [setV]
theorem setV_ne {val : Nat → Value} {i j : Nat} {v : Value} (h : j ≠ i) : setV val i v j = val j := by simp [setV, h]
/-- An operation that only reads. -/
theorem WireR.skip {W0 W : World} {mb base H k : Nat} {f : Int → Option Value} {s : Syn} {len : Nat} {old : List Value} {v : Value} {Kv : Nat → Value} {L : Array Bool} {val : Nat → Value} (h : WireR W0 mb base H k f s len old v Kv L val W) (i : Nat) (hi : i < 8) (hs : 11 ≤ L.size) (u : Value) (hu : u = Kv i) (W' : World) (hW : W'.heap = W.heap) (h1 : W'.os = W.os) (h2 : W'.tape = W.tape) (h3 : W'.output = W.output) :
    WireR W0 mb base H k f s len old v Kv (L.setIfInBounds i true) (setV val i u) W' := by
  have e8 : (L.setIfInBounds i true).getD 8 false = L.getD 8 false := getD_set_ne3 (by omega)
  have e9 : (L.setIfInBounds i true).getD 9 false = L.getD 9 false := getD_set_ne3 (by omega)
  have e10 : (L.setIfInBounds i true).getD 10 false = L.getD 10 false := getD_set_ne3 (by omega)
  have v9 : setV val i u 9 = val 9 := setV_ne (by omega)
  refine ⟨fun j hj hl => ?_, fun b hb hm hv => ?_, fun hl => ?_, fun hl b hb => ?_, fun hl => ?_, fun hl => ?_, fun hl => ?_, fun hl => ?_, ?_, ?_, fun hl => ?_, ?_, fun hl => ?_, h1.trans h.os, h2.trans h.tape, h3.trans h.output⟩
  · by_cases e : j = i
    · subst e; rw [setV_eq, hu]
    · rw [setV_ne e]; exact h.known j hj (by rwa [getD_set_ne3 (fun h => e h.symm)] at hl)
  · rw [hW]; exact h.keep b hb hm hv
  · rw [hW]; exact h.map (by rwa [e10] at hl)
  · rw [hW]; exact h.row (by rwa [e9] at hl) b hb
  · rw [hW]; exact h.blk (by rwa [e8] at hl)
  · rw [hW]; exact h.new (by rwa [e8] at hl)
  · rw [v9]
    obtain ⟨h4, h5⟩ := h.app (by rwa [e9] at hl)
    exact ⟨ownsRow_of_block h4 fun g _ => by rw [hW], h5⟩
  · rw [v9]; exact (h.fin (by rwa [e10] at hl)).of_block (by rw [hW])
  · rw [e8, e9]; exact h.d9
  · rw [e9, e10]; exact h.d10
  · by_cases e : i = 6
    · subst e; exact getD_set_eq3 (by omega)
    · rw [getD_set_ne3 e]; exact h.d6 (by rwa [e9] at hl)
  · rw [hW]; exact h.sz
  · rw [hW]; exact h.sz8 (by rwa [e8] at hl)
theorem WireR.alloc8 {W0 W : World} {mb base H k : Nat} {f : Int → Option Value} {s : Syn} {len : Nat} {old : List Value} {v : Value} {Kv : Nat → Value} {L : Array Bool} {val : Nat → Value} (h : WireR W0 mb base H k f s len old v Kv L val W) (hs : 11 ≤ L.size) (h8 : L.getD 8 false = false) (hK : Kv 8 = .slice (some ⟨H, 0, none⟩) 1 1) (hmb : mb < H) (hob : ∀ g, v.ownBlock = some g → g < H) :
    WireR W0 mb base H k f s len old v Kv (L.setIfInBounds 8 true) (setV val 8 (.slice (some ⟨W.heap.size, 0, none⟩) 1 1)) (W.alloc (.cells #[.int .i64 s.fr, .int .i64 s.to, .int .i64 s.wt, .int .i64 s.dl] 96)) := by
  have hz := h.new h8
  have h9 : L.getD 9 false = false := by
    cases e : L.getD 9 false with
    | false => rfl
    | true => have := h.d9 e; rw [h8] at this; cases this
  have h10 : L.getD 10 false = false := by
    cases e : L.getD 10 false with
    | false => rfl
    | true => have := h.d10 e; rw [h9] at this; cases this
  have e9 : (L.setIfInBounds 8 true).getD 9 false = L.getD 9 false := getD_set_ne3 (by omega)
  have e10 : (L.setIfInBounds 8 true).getD 10 false = L.getD 10 false := getD_set_ne3 (by omega)
  have e8 : (L.setIfInBounds 8 true).getD 8 false = true := getD_set_eq3 (by omega)
  have hblk : ∀ b, b < H → (W.alloc (.cells #[.int .i64 s.fr, .int .i64 s.to, .int .i64 s.wt, .int .i64 s.dl] 96)).heap[b]? = W.heap[b]? := fun b hb => Below.heap_alloc _ _ _ (by omega)
  refine ⟨fun j hj hl => ?_, fun b hb hm hv => ?_, fun hl => ?_, fun hl b hb => ?_, fun hl => ?_, fun hl => ?_, fun hl => ?_, fun hl => ?_, fun hl => ?_, fun hl => ?_, fun hl => ?_, ?_, fun hl => ?_, h.os, h.tape, h.output⟩
  · by_cases e : j = 8
    · subst e; rw [setV_eq, hK, hz]
    · rw [setV_ne e]; exact h.known j hj (by rwa [getD_set_ne3 (fun h => e h.symm)] at hl)
  · rw [hblk b hb]; exact h.keep b hb hm hv
  · rw [hblk mb hmb]; exact h.map h10
  · rw [hblk b (hob b hb)]; exact h.row h9 b hb
  · exact alloc_new_at _ _ _ hz.symm
  · rw [e8] at hl; cases hl
  · rw [e9, h9] at hl; cases hl
  · rw [e10, h10] at hl; cases hl
  · rw [e9, h9] at hl; cases hl
  · rw [e10, h10] at hl; cases hl
  · rw [e9, h9] at hl; cases hl
  · simp; omega
  · simp; omega
theorem cell_four {W : World} {b : Nat} {v0 v1 v2 v3 : Value} {t : TypeId} (hb : W.heap[b]? = some (.cells #[v0, v1, v2, v3] t)) : ∀ (j : Nat) (x : Value), [v0, v1, v2, v3][j]? = some x → W.cell? ((⟨b, 0, none⟩ : Addr).add j) = some x := by
  intro j x h
  have hadd : (⟨b, 0, none⟩ : Addr).add j = ⟨b, j, none⟩ := by unfold Addr.add; split <;> simp_all
  rw [hadd]
  match j, h with
  | 0, h | 1, h | 2, h | 3, h => cases h; simp [World.cell?, hb]
  | n + 4, h => simp at h
theorem WireR.append9 {W0 W : World} {mb base H k : Nat} {f : Int → Option Value} {s : Syn} {len : Nat} {old : List Value} {v : Value} {Kv : Nat → Value} {L : Array Bool} {val : Nat → Value} (h : WireR W0 mb base H k f s len old v Kv L val W) (hs : 11 ≤ L.size) (h9 : L.getD 9 false = false) (h8 : L.getD 8 false = true) (h6 : L.getD 6 false = true) (hrow : W0.ownsRow base 96 4 v len old) (hmb : mb < base) (hbH : base ≤ H) (hvH : ∀ g, v.ownBlock = some g → g < H) (hlen : len ≤ 8192) (ty : TypeId) :
    ∃ v' w', (Builtin.append_ #[23, 23] ty #[v, .slice (some ⟨H, 0, none⟩) 1 1]).run Try.prog W = .ok v' w' ∧ WireR W0 mb base H k f s len old v Kv (L.setIfInBounds 9 true) (setV val 9 v') w' := by
  obtain ⟨i0, hi, hz0, hzz1, hzz2⟩ := info_parts info96
  have hown : W.ownsRow base 96 4 v len old := ownsRow_of_block hrow fun g hg => h.row h9 g hg
  have hblk := h.blk h8
  have hsz := h.sz8 h8
  have h10 : L.getD 10 false = false := by
    cases e : L.getD 10 false with
    | false => rfl
    | true => have := h.d10 e; rw [h9] at this; cases this
  obtain ⟨v', w', hr, ho, hg, _, hv⟩ := run_append_own_at (P := Try.prog) W base 23 ty 96 i0 (.agg #[.int .i64 0, .int .i64 0, .int .i64 0, .int .i64 0]) 4 32 Try.underlying23 hi hz0 hzz1 hzz2 rfl (by decide) v len old hown ⟨H, 0, none⟩ 1 1 (synV s) rfl (cell_four hblk) (by simp [synV, Value.oneCell']) (by unfold maxLen; omega) (by omega) (by omega)
  refine ⟨v', w', hr, ?_⟩
  have e8 : (L.setIfInBounds 9 true).getD 8 false = L.getD 8 false := getD_set_ne3 (by omega)
  have e10 : (L.setIfInBounds 9 true).getD 10 false = L.getD 10 false := getD_set_ne3 (by omega)
  have e9 : (L.setIfInBounds 9 true).getD 9 false = true := getD_set_eq3 (by omega)
  have hob : ∀ g, v.ownBlock = some g → base ≤ g := fun g hg => (hrow.lt g hg).1
  refine ⟨fun j hj hl => ?_, fun b hb hm hvb => ?_, fun hl => ?_, fun hl b hb => ?_, fun hl => ?_, fun hl => ?_, fun hl => ?_, fun hl => ?_, fun hl => ?_, fun hl => ?_, fun hl => ?_, ?_, fun hl => ?_, hg.os.trans h.os, hg.tape.trans h.tape, hg.output.trans h.output⟩
  · rw [setV_ne (by omega)]; exact h.known j hj (by rwa [getD_set_ne3 (by omega)] at hl)
  · rw [hg.block b (by have := h.sz; omega) hvb]; exact h.keep b hb hm hvb
  · rw [hg.block mb (by omega) (fun e => by have := hob mb e.symm; omega)]; exact h.map h10
  · rw [e9] at hl; cases hl
  · rw [hg.block H (by omega) (fun e => by have := hvH H e.symm; omega)]; exact hblk
  · rw [e8, h8] at hl; cases hl
  · rw [setV_eq]
    refine ⟨ho, ?_⟩
    rcases hv with hv | hv
    · exact Or.inl hv
    · exact Or.inr ⟨_, hv, hsz⟩
  · rw [e10, h10] at hl; cases hl
  · rw [e8]; exact h8
  · rw [e10, h10] at hl; cases hl
  · rw [getD_set_ne3 (by omega)]; exact h6
  · have := hg.size; have := h.sz; omega
  · have := hg.size; omega
theorem WireR.update10 {W0 W : World} {mb base H k : Nat} {f : Int → Option Value} {s : Syn} {len : Nat} {old : List Value} {v : Value} {Kv : Nat → Value} {L : Array Bool} {val : Nat → Value} (h : WireR W0 mb base H k f s len old v Kv L val W) (hs : 11 ≤ L.size) (h10 : L.getD 10 false = false) (h9 : L.getD 9 false = true) (hmap : MapIs W0 mb k f) (hk : k ≤ 8192) (hmb : mb < base) (hbH : base ≤ H) (hvb : ∀ g, v.ownBlock = some g → base ≤ g) (hx : (Lit.int .i64 s.fr).wf = true) :
    ∃ w', (Instr.mapUpdate 100 (.map (some mb)) (.int .i64 s.fr) (val 9)).run Try.prog W = .ok () w' ∧ WireR W0 mb base H k f s len old v Kv (L.setIfInBounds 10 true) (setV val 10 undef) w' := by
  obtain ⟨w', hr, hm, hg⟩ := (hmap.of_block (h.map h10)).update (by unfold maxLen; omega) Try.underlying100 s.fr hx (val 9)
  obtain ⟨ha, hv9⟩ := h.app h9
  have h8 := h.d9 h9
  have e8 : (L.setIfInBounds 10 true).getD 8 false = L.getD 8 false := getD_set_ne3 (by omega)
  have e9 : (L.setIfInBounds 10 true).getD 9 false = L.getD 9 false := getD_set_ne3 (by omega)
  have e10 : (L.setIfInBounds 10 true).getD 10 false = true := getD_set_eq3 (by omega)
  have v9 : setV val 10 undef 9 = val 9 := setV_ne (by omega)
  have hsz := h.sz
  have hb : ∀ b, b < W.heap.size → b ≠ mb → w'.heap[b]? = W.heap[b]? := fun b h1 h2 => hg.block b h1 (by simpa using h2)
  refine ⟨w', hr, fun j hj hl => ?_, fun b h1 h2 h3 => ?_, fun hl => ?_, fun hl b hb => ?_, fun hl => ?_, fun hl => ?_, fun hl => ?_, fun hl => ?_, fun hl => ?_, fun hl => ?_, fun hl => ?_, ?_, fun hl => ?_, hg.os.trans h.os, hg.tape.trans h.tape, hg.output.trans h.output⟩
  · rw [setV_ne (by omega)]; exact h.known j hj (by rwa [getD_set_ne3 (by omega)] at hl)
  · rw [hb b (by omega) h2]; exact h.keep b h1 h2 h3
  · rw [e10] at hl; cases hl
  · rw [e9, h9] at hl; cases hl
  · rw [hb H (h.sz8 h8) (by omega)]; exact h.blk h8
  · rw [e8, h8] at hl; cases hl
  · rw [v9]
    exact ⟨ownsRow_of_block ha fun g hg' => hb g (ha.lt g hg').2 (by have := (ha.lt g hg').1; omega), hv9⟩
  · rw [v9]; exact hm
  · rw [e8]; exact h8
  · rw [e9]; exact h9
  · rw [getD_set_ne3 (by omega)]; exact h.d6 h9
  · have := hg.size; omega
  · have := hg.size; have := h.sz8 h8; omega
end Go.Proofs.Ytgbcdebnanejpaa
