/- net.wire: the synapses of each source. -/
import Derived.Test.YtgbcdebnanejpaaNm
import Derived.Test.YtgbcdebnanejpaaD3
import Derived.Maps.AppendAt
namespace Go.Proofs.Ytgbcdebnanejpaa
set_option linter.unusedVariables false
open Go.RowKit Go.Shelf

def synV (s : Syn) : List Value := [.int .i64 s.fr, .int .i64 s.to, .int .i64 s.wt, .int .i64 s.dl]
def synCs (l : List Syn) : List Value := l.flatMap synV
theorem synCs_length (l : List Syn) : (synCs l).length = l.length * 4 := by
  induction l with
  | nil => rfl
  | cons s l ih => simp [synCs, synV] at *; omega
theorem synCs_snoc (l : List Syn) (s : Syn) : synCs (l ++ [s]) = synCs l ++ synV s := by simp [synCs]
theorem ofSrc_snoc (l : List Syn) (s : Syn) (x : Int) : ofSrc (l ++ [s]) x = ofSrc l x ++ if s.fr = x then [s] else [] := by
  unfold ofSrc
  rw [List.filter_append]
  congr 1
  by_cases h : s.fr = x <;> simp [h]
/-- The entry of a source. -/
def entW (ss : List Syn) (sl : Int → Value) : Int → Option Value := fun x => if ofSrc ss x = [] then none else some (sl x)
/-- Block mb is a map of the sources' synapses; each list has a block of its own, from base on. -/
structure WiresAt (A : World) (mb base n : Nat) (ss : List Syn) (sl : Int → Value) : Prop where
  map : MapIs A mb n (entW ss sl)
  row : ∀ x, A.ownsRow base 96 4 (sl x) (ofSrc ss x).length (synCs (ofSrc ss x))
  nil : ∀ x, ofSrc ss x = [] → sl x = .slice none 0 0
  apart : ∀ x y g, (sl x).ownBlock = some g → (sl y).ownBlock = some g → x = y
  lt : mb < base
theorem WiresAt.of_block {A A' : World} {mb base n : Nat} {ss : List Syn} {sl : Int → Value} (h : WiresAt A mb base n ss sl) (hm : A'.heap[mb]? = A.heap[mb]?) (hb : ∀ b, base ≤ b → b < A.heap.size → A'.heap[b]? = A.heap[b]?) : WiresAt A' mb base n ss sl :=
  ⟨h.map.of_block hm, fun x => ownsRow_of_block (h.row x) fun g hg => hb g ((h.row x).lt g hg).1 ((h.row x).lt g hg).2, h.nil, h.apart, h.lt⟩
theorem info96 : (Try.prog.info? 96).map (fun i => (i.zero, i.size, i.bytes)) = some (some (.agg #[.int .i64 0, .int .i64 0, .int .i64 0, .int .i64 0]), 4, 32) := by kernel_rfl
theorem zero23 (w : World) : (zeroValue 23).run Try.prog w = .ok (.slice none 0 0) w := by kernel_rfl

/-- The world inside the region that enters a synapse. -/
structure WireR (W0 : World) (mb base H k : Nat) (f : Int → Option Value) (s : Syn) (len : Nat) (old : List Value) (v : Value) (Kv : Nat → Value) (L : Array Bool) (val : Nat → Value) (W : World) : Prop where
  known : ∀ j, j ≤ 8 → L.getD j false = true → val j = Kv j
  keep : ∀ b, b < H → b ≠ mb → some b ≠ v.ownBlock → W.heap[b]? = W0.heap[b]?
  map : L.getD 10 false = false → W.heap[mb]? = W0.heap[mb]?
  row : L.getD 9 false = false → ∀ b, v.ownBlock = some b → W.heap[b]? = W0.heap[b]?
  blk : L.getD 8 false = true → W.heap[H]? = some (.cells (synV s).toArray 96)
  new : L.getD 8 false = false → W.heap.size = H
  app : L.getD 9 false = true → W.ownsRow base 96 4 (val 9) (len + 1) (old ++ synV s) ∧ ((val 9).ownBlock = v.ownBlock ∨ ∃ g, (val 9).ownBlock = some g ∧ H < g)
  fin : L.getD 10 false = true → MapIs W mb (k + 1) (upd1 f s.fr (some (val 9)))
  d9 : L.getD 9 false = true → L.getD 8 false = true
  d10 : L.getD 10 false = true → L.getD 9 false = true
  d6 : L.getD 9 false = true → L.getD 6 false = true
  sz : H ≤ W.heap.size
  sz8 : L.getD 8 false = true → H < W.heap.size
  os : W.os = W0.os
  tape : W.tape = W0.tape
  output : W.output = W0.output
theorem getD_set_ne3 {L : Array Bool} {i j : Nat} (h : i ≠ j) : (L.setIfInBounds i true).getD j false = L.getD j false := by
  simp only [Array.getD_eq_getD_getElem?]; rw [Array.getElem?_setIfInBounds_ne h]
theorem getD_set_eq3 {L : Array Bool} {i : Nat} (h : i < L.size) : (L.setIfInBounds i true).getD i false = true := by simp [h]
theorem setV_eq {val : Nat → Value} {i : Nat} {v : Value} : setV val i v i = v := by simp [setV]
theorem setV_ne {val : Nat → Value} {i j : Nat} {v : Value} (h : j ≠ i) : setV val i v j = val j := by simp [setV, h]
/-- An operation that only reads. -/
theorem WireR.skip {W0 W : World} {mb base H k : Nat} {f : Int → Option Value} {s : Syn} {len : Nat} {old : List Value} {v : Value} {Kv : Nat → Value} {L : Array Bool} {val : Nat → Value} (h : WireR W0 mb base H k f s len old v Kv L val W) (i : Nat) (hi : i < 8) (hs : 11 ≤ L.size) (u : Value) (hu : u = Kv i) (W' : World) (hW : W'.heap = W.heap) (h1 : W'.os = W.os) (h2 : W'.tape = W.tape) (h3 : W'.output = W.output) :
    WireR W0 mb base H k f s len old v Kv (L.setIfInBounds i true) (setV val i u) W' := by
  have e8 : (L.setIfInBounds i true).getD 8 false = L.getD 8 false := getD_set_ne3 (by omega)
  have e9 : (L.setIfInBounds i true).getD 9 false = L.getD 9 false := getD_set_ne3 (by omega)
  have e10 : (L.setIfInBounds i true).getD 10 false = L.getD 10 false := getD_set_ne3 (by omega)
  have v9 : setV val i u 9 = val 9 := setV_ne (by omega)
  refine ⟨fun j hj hl => ?_, fun b hb hm hv => ?_, fun hl => ?_, fun hl b hb => ?_, fun hl => ?_, fun hl => ?_, fun hl => ?_, fun hl => ?_, ?_, ?_, fun hl => ?_, ?_, fun hl => ?_, h1.trans h.os, h2.trans h.tape, h3.trans h.output⟩
  · by_cases e : j = i
    · subst e; rw [setV_eq, hu]
    · rw [setV_ne e]; exact h.known j hj (by rwa [getD_set_ne3 (fun h => e h.symm)] at hl)
  · rw [hW]; exact h.keep b hb hm hv
  · rw [hW]; exact h.map (by rwa [e10] at hl)
  · rw [hW]; exact h.row (by rwa [e9] at hl) b hb
  · rw [hW]; exact h.blk (by rwa [e8] at hl)
  · rw [hW]; exact h.new (by rwa [e8] at hl)
  · rw [v9]
    obtain ⟨h4, h5⟩ := h.app (by rwa [e9] at hl)
    exact ⟨ownsRow_of_block h4 fun g _ => by rw [hW], h5⟩
  · rw [v9]; exact (h.fin (by rwa [e10] at hl)).of_block (by rw [hW])
  · rw [e8, e9]; exact h.d9
  · rw [e9, e10]; exact h.d10
  · by_cases e : i = 6
    · subst e; exact getD_set_eq3 (by omega)
    · rw [getD_set_ne3 e]; exact h.d6 (by rwa [e9] at hl)
  · rw [hW]; exact h.sz
  · rw [hW]; exact h.sz8 (by rwa [e8] at hl)
theorem WireR.alloc8 {W0 W : World} {mb base H k : Nat} {f : Int → Option Value} {s : Syn} {len : Nat} {old : List Value} {v : Value} {Kv : Nat → Value} {L : Array Bool} {val : Nat → Value} (h : WireR W0 mb base H k f s len old v Kv L val W) (hs : 11 ≤ L.size) (h8 : L.getD 8 false = false) (hK : Kv 8 = .slice (some ⟨H, 0, none⟩) 1 1) (hmb : mb < H) (hob : ∀ g, v.ownBlock = some g → g < H) :
    WireR W0 mb base H k f s len old v Kv (L.setIfInBounds 8 true) (setV val 8 (.slice (some ⟨W.heap.size, 0, none⟩) 1 1)) (W.alloc (.cells #[.int .i64 s.fr, .int .i64 s.to, .int .i64 s.wt, .int .i64 s.dl] 96)) := by
  have hz := h.new h8
  have h9 : L.getD 9 false = false := by
    cases e : L.getD 9 false with
    | false => rfl
    | true => have := h.d9 e; rw [h8] at this; cases this
  have h10 : L.getD 10 false = false := by
    cases e : L.getD 10 false with
    | false => rfl
    | true => have := h.d10 e; rw [h9] at this; cases this
  have e9 : (L.setIfInBounds 8 true).getD 9 false = L.getD 9 false := getD_set_ne3 (by omega)
  have e10 : (L.setIfInBounds 8 true).getD 10 false = L.getD 10 false := getD_set_ne3 (by omega)
  have e8 : (L.setIfInBounds 8 true).getD 8 false = true := getD_set_eq3 (by omega)
  have hblk : ∀ b, b < H → (W.alloc (.cells #[.int .i64 s.fr, .int .i64 s.to, .int .i64 s.wt, .int .i64 s.dl] 96)).heap[b]? = W.heap[b]? := fun b hb => Below.heap_alloc _ _ _ (by omega)
  refine ⟨fun j hj hl => ?_, fun b hb hm hv => ?_, fun hl => ?_, fun hl b hb => ?_, fun hl => ?_, fun hl => ?_, fun hl => ?_, fun hl => ?_, fun hl => ?_, fun hl => ?_, fun hl => ?_, ?_, fun hl => ?_, h.os, h.tape, h.output⟩
  · by_cases e : j = 8
    · subst e; rw [setV_eq, hK, hz]
    · rw [setV_ne e]; exact h.known j hj (by rwa [getD_set_ne3 (fun h => e h.symm)] at hl)
  · rw [hblk b hb]; exact h.keep b hb hm hv
  · rw [hblk mb hmb]; exact h.map h10
  · rw [hblk b (hob b hb)]; exact h.row h9 b hb
  · exact alloc_new_at _ _ _ hz.symm
  · rw [e8] at hl; cases hl
  · rw [e9, h9] at hl; cases hl
  · rw [e10, h10] at hl; cases hl
  · rw [e9, h9] at hl; cases hl
  · rw [e10, h10] at hl; cases hl
  · rw [e9, h9] at hl; cases hl
  · simp; omega
  · simp; omega
theorem cell_four {W : World} {b : Nat} {v0 v1 v2 v3 : Value} {t : TypeId} (hb : W.heap[b]? = some (.cells #[v0, v1, v2, v3] t)) : ∀ (j : Nat) (x : Value), [v0, v1, v2, v3][j]? = some x → W.cell? ((⟨b, 0, none⟩ : Addr).add j) = some x := by
  intro j x h
  have hadd : (⟨b, 0, none⟩ : Addr).add j = ⟨b, j, none⟩ := by unfold Addr.add; split <;> simp_all
  rw [hadd]
  match j, h with
  | 0, h | 1, h | 2, h | 3, h => cases h; simp [World.cell?, hb]
  | n + 4, h => simp at h
theorem WireR.append9 {W0 W : World} {mb base H k : Nat} {f : Int → Option Value} {s : Syn} {len : Nat} {old : List Value} {v : Value} {Kv : Nat → Value} {L : Array Bool} {val : Nat → Value} (h : WireR W0 mb base H k f s len old v Kv L val W) (hs : 11 ≤ L.size) (h9 : L.getD 9 false = false) (h8 : L.getD 8 false = true) (h6 : L.getD 6 false = true) (hrow : W0.ownsRow base 96 4 v len old) (hmb : mb < base) (hbH : base ≤ H) (hvH : ∀ g, v.ownBlock = some g → g < H) (hlen : len ≤ 8192) (ty : TypeId) :
    ∃ v' w', (Builtin.append_ #[23, 23] ty #[v, .slice (some ⟨H, 0, none⟩) 1 1]).run Try.prog W = .ok v' w' ∧ WireR W0 mb base H k f s len old v Kv (L.setIfInBounds 9 true) (setV val 9 v') w' := by
  obtain ⟨i0, hi, hz0, hzz1, hzz2⟩ := info_parts info96
  have hown : W.ownsRow base 96 4 v len old := ownsRow_of_block hrow fun g hg => h.row h9 g hg
  have hblk := h.blk h8
  have hsz := h.sz8 h8
  have h10 : L.getD 10 false = false := by
    cases e : L.getD 10 false with
    | false => rfl
    | true => have := h.d10 e; rw [h9] at this; cases this
  obtain ⟨v', w', hr, ho, hg, _, hv⟩ := run_append_own_at (P := Try.prog) W base 23 ty 96 i0 (.agg #[.int .i64 0, .int .i64 0, .int .i64 0, .int .i64 0]) 4 32 Try.underlying23 hi hz0 hzz1 hzz2 rfl (by decide) v len old hown ⟨H, 0, none⟩ 1 1 (synV s) rfl (cell_four hblk) (by simp [synV, Value.oneCell']) (by unfold maxLen; omega) (by omega) (by omega)
  refine ⟨v', w', hr, ?_⟩
  have e8 : (L.setIfInBounds 9 true).getD 8 false = L.getD 8 false := getD_set_ne3 (by omega)
  have e10 : (L.setIfInBounds 9 true).getD 10 false = L.getD 10 false := getD_set_ne3 (by omega)
  have e9 : (L.setIfInBounds 9 true).getD 9 false = true := getD_set_eq3 (by omega)
  have hob : ∀ g, v.ownBlock = some g → base ≤ g := fun g hg => (hrow.lt g hg).1
  refine ⟨fun j hj hl => ?_, fun b hb hm hvb => ?_, fun hl => ?_, fun hl b hb => ?_, fun hl => ?_, fun hl => ?_, fun hl => ?_, fun hl => ?_, fun hl => ?_, fun hl => ?_, fun hl => ?_, ?_, fun hl => ?_, hg.os.trans h.os, hg.tape.trans h.tape, hg.output.trans h.output⟩
  · rw [setV_ne (by omega)]; exact h.known j hj (by rwa [getD_set_ne3 (by omega)] at hl)
  · rw [hg.block b (by have := h.sz; omega) hvb]; exact h.keep b hb hm hvb
  · rw [hg.block mb (by omega) (fun e => by have := hob mb e.symm; omega)]; exact h.map h10
  · rw [e9] at hl; cases hl
  · rw [hg.block H (by omega) (fun e => by have := hvH H e.symm; omega)]; exact hblk
  · rw [e8, h8] at hl; cases hl
  · rw [setV_eq]
    refine ⟨ho, ?_⟩
    rcases hv with hv | hv
    · exact Or.inl hv
    · exact Or.inr ⟨_, hv, hsz⟩
  · rw [e10, h10] at hl; cases hl
  · rw [e8]; exact h8
  · rw [e10, h10] at hl; cases hl
  · rw [getD_set_ne3 (by omega)]; exact h6
  · have := hg.size; have := h.sz; omega
  · have := hg.size; omega
theorem WireR.update10 {W0 W : World} {mb base H k : Nat} {f : Int → Option Value} {s : Syn} {len : Nat} {old : List Value} {v : Value} {Kv : Nat → Value} {L : Array Bool} {val : Nat → Value} (h : WireR W0 mb base H k f s len old v Kv L val W) (hs : 11 ≤ L.size) (h10 : L.getD 10 false = false) (h9 : L.getD 9 false = true) (hmap : MapIs W0 mb k f) (hk : k ≤ 8192) (hmb : mb < base) (hbH : base ≤ H) (hvb : ∀ g, v.ownBlock = some g → base ≤ g) (hx : (Lit.int .i64 s.fr).wf = true) :
    ∃ w', (Instr.mapUpdate 100 (.map (some mb)) (.int .i64 s.fr) (val 9)).run Try.prog W = .ok () w' ∧ WireR W0 mb base H k f s len old v Kv (L.setIfInBounds 10 true) (setV val 10 undef) w' := by
  obtain ⟨w', hr, hm, hg⟩ := (hmap.of_block (h.map h10)).update (by unfold maxLen; omega) Try.underlying100 s.fr hx (val 9)
  obtain ⟨ha, hv9⟩ := h.app h9
  have h8 := h.d9 h9
  have e8 : (L.setIfInBounds 10 true).getD 8 false = L.getD 8 false := getD_set_ne3 (by omega)
  have e9 : (L.setIfInBounds 10 true).getD 9 false = L.getD 9 false := getD_set_ne3 (by omega)
  have e10 : (L.setIfInBounds 10 true).getD 10 false = true := getD_set_eq3 (by omega)
  have v9 : setV val 10 undef 9 = val 9 := setV_ne (by omega)
  have hsz := h.sz
  have hb : ∀ b, b < W.heap.size → b ≠ mb → w'.heap[b]? = W.heap[b]? := fun b h1 h2 => hg.block b h1 (by simpa using h2)
  refine ⟨w', hr, fun j hj hl => ?_, fun b h1 h2 h3 => ?_, fun hl => ?_, fun hl b hb => ?_, fun hl => ?_, fun hl => ?_, fun hl => ?_, fun hl => ?_, fun hl => ?_, fun hl => ?_, fun hl => ?_, ?_, fun hl => ?_, hg.os.trans h.os, hg.tape.trans h.tape, hg.output.trans h.output⟩
  · rw [setV_ne (by omega)]; exact h.known j hj (by rwa [getD_set_ne3 (by omega)] at hl)
  · rw [hb b (by omega) h2]; exact h.keep b h1 h2 h3
  · rw [e10] at hl; cases hl
  · rw [e9, h9] at hl; cases hl
  · rw [hb H (h.sz8 h8) (by omega)]; exact h.blk h8
  · rw [e8, h8] at hl; cases hl
  · rw [v9]
    exact ⟨ownsRow_of_block ha fun g hg' => hb g (ha.lt g hg').2 (by have := (ha.lt g hg').1; omega), hv9⟩
  · rw [v9]; exact hm
  · rw [e8]; exact h8
  · rw [e9]; exact h9
  · rw [getD_set_ne3 (by omega)]; exact h.d6 h9
  · have := hg.size; omega
  · have := hg.size; have := h.sz8 h8; omega
end Go.Proofs.Ytgbcdebnanejpaa
namespace Go.Proofs.Ytgbcdebnanejpaa
set_option linter.unusedVariables false
open Go.RowKit Go.Shelf

def wireK (mb SB H : Nat) (s : Syn) (v : Value) : Nat → Value
  | 0 => .map (some mb)
  | 1 => .pointer (some ⟨SB, 0, none⟩)
  | 2 => .int .i64 s.fr
  | 3 => .map (some mb)
  | 4 => .pointer (some ⟨SB, 0, none⟩)
  | 5 => .int .i64 s.fr
  | 6 => v
  | 7 => .agg #[.int .i64 s.fr, .int .i64 s.to, .int .i64 s.wt, .int .i64 s.dl]
  | 8 => .slice (some ⟨H, 0, none⟩) 1 1
  | _ => undef
theorem cells4 {W : World} {b : Nat} {v0 v1 v2 v3 : Value} {t : TypeId} (h : W.heap[b]? = some (.cells #[v0, v1, v2, v3] t)) : W.cell? ⟨b, 0, none⟩ = some v0 ∧ W.cell? ⟨b, 1, none⟩ = some v1 ∧ W.cell? ⟨b, 2, none⟩ = some v2 ∧ W.cell? ⟨b, 3, none⟩ = some v3 := by simp [World.cell?, h]
theorem entW_get {ss : List Syn} {sl : Int → Value} {x : Int} (h : ∀ x, ofSrc ss x = [] → sl x = .slice none 0 0) : (entW ss sl x).getD (.slice none 0 0) = sl x := by
  unfold entW
  by_cases e : ofSrc ss x = []
  · rw [if_pos e, h x e]; rfl
  · rw [if_neg e]; rfl
theorem ofSrc_le (ss : List Syn) (x : Int) {n : Nat} (h : ss.length ≤ n) : (ofSrc ss x).length ≤ n := Nat.le_trans (List.length_filter_le _ _) h
theorem arr26 {tm : Array Value} (h : tm.size = 26) : ∃ t0 t1 t2 t3 t4 t5 t6 t7 t8 t9 t10 t11 t12 t13 t14 t15 t16 t17 t18 t19 t20 t21 t22 t23 t24 t25 : Value, tm = #[t0, t1, t2, t3, t4, t5, t6, t7, t8, t9, t10, t11, t12, t13, t14, t15, t16, t17, t18, t19, t20, t21, t22, t23, t24, t25] := by
  obtain ⟨l⟩ := tm
  match l, h with
  | [a0, a1, a2, a3, a4, a5, a6, a7, a8, a9, a10, a11, a12, a13, a14, a15, a16, a17, a18, a19, a20, a21, a22, a23, a24, a25], _ => exact ⟨_, _, _, _, _, _, _, _, _, _, _, _, _, _, _, _, _, _, _, _, _, _, _, _, _, _, rfl⟩
def WireOut (ss : List Syn) (w : World) (e : Ending) (w' : World) : Prop :=
  ∃ mb sl n, e = .returned (.map (some mb)) ∧ WiresAt w' mb (mb + 1) n ss sl ∧ w.heap.size ≤ mb ∧ Below w.heap.size w w'

theorem wire_step {W0 W : World} {mb SB k : Nat} {ss : List Syn} {sl : Int → Value} {s : Syn} {Kv val : Nat → Value} (hW : WiresAt W0 mb (mb + 1) k (ss.take k) sl) (hs : ss[k]? = some s)
    (hR : WireR W0 mb (mb + 1) (SB + 1) k (entW (ss.take k) sl) s (ofSrc (ss.take k) s.fr).length (synCs (ofSrc (ss.take k) s.fr)) (sl s.fr) Kv (Array.replicate 11 true) val W)
    (hob : ∀ x g, (sl x).ownBlock = some g → mb + 1 ≤ g ∧ g < SB) (hmb : mb < SB) :
    WiresAt W mb (mb + 1) (k + 1) (ss.take (k + 1)) (fun x => if x = s.fr then val 9 else sl x) := by
  have et : ss.take (k + 1) = ss.take k ++ [s] := by rw [List.take_add_one, hs]; rfl
  have eo : ∀ x, ofSrc (ss.take (k + 1)) x = ofSrc (ss.take k) x ++ if s.fr = x then [s] else [] := fun x => by rw [et, ofSrc_snoc]
  obtain ⟨ha, hv9⟩ := hR.app (by simp)
  have hf := hR.fin (by simp)
  refine ⟨?_, fun x => ?_, fun x h => ?_, fun x y g hx hy => ?_, hW.lt⟩
  · have e : entW (ss.take (k + 1)) (fun x => if x = s.fr then val 9 else sl x) = upd1 (entW (ss.take k) sl) s.fr (some (val 9)) := by
      funext x
      unfold entW upd1
      rw [eo x]
      by_cases hx : x = s.fr
      · subst hx; simp
      · have hne : ¬ s.fr = x := fun h => hx h.symm
        simp only [hne, if_false, List.append_nil, hx]
    rw [e]; exact hf
  · show W.ownsRow _ _ 4 (if x = s.fr then val 9 else sl x) _ _
    rw [eo x]
    by_cases hx : x = s.fr
    · subst hx
      rw [if_pos rfl, if_pos rfl, synCs_snoc, List.length_append]
      exact ha
    · rw [if_neg hx, if_neg (fun h => hx h.symm), List.append_nil]
      exact ownsRow_of_block (hW.row x) fun g hg => hR.keep g (by have := (hob x g hg).2; omega) (by have := (hob x g hg).1; omega) fun e => hx (hW.apart x s.fr g hg e.symm)
  · show (if x = s.fr then val 9 else sl x) = _
    rw [eo x] at h
    by_cases hx : x = s.fr
    · subst hx; simp at h
    · rw [if_neg (fun h => hx h.symm), List.append_nil] at h
      rw [if_neg hx]; exact hW.nil x h
  · by_cases ex : x = s.fr
    · by_cases ey : y = s.fr
      · rw [ex, ey]
      · simp only [ex, if_true] at hx
        simp only [ey, if_false] at hy
        rcases hv9 with h9 | ⟨g', h9, hlt⟩
        · rw [h9] at hx; rw [ex]; exact hW.apart _ _ g hx hy
        · rw [h9] at hx; cases hx
          have := (hob y g hy).2; omega
    · by_cases ey : y = s.fr
      · simp only [ey, if_true] at hy
        simp only [ex, if_false] at hx
        rcases hv9 with h9 | ⟨g', h9, hlt⟩
        · rw [h9] at hy; rw [ey]; exact hW.apart _ _ g hx hy
        · rw [h9] at hy; cases hy
          have := (hob x g hx).2; omega
      · simp only [ex, if_false] at hx
        simp only [ey, if_false] at hy
        exact hW.apart x y g hx hy
theorem wire_below {W0 W w : World} {mb SB k B : Nat} {ss : List Syn} {sl : Int → Value} {s : Syn} {f : Int → Option Value} {len : Nat} {old : List Value} {Kv val : Nat → Value} {L : Array Bool} (hb : Below B w W0) (hW : WiresAt W0 mb (mb + 1) k (ss.take k) sl)
    (hR : WireR W0 mb (mb + 1) (SB + 1) k f s len old (sl s.fr) Kv L val W) (hob : ∀ x g, (sl x).ownBlock = some g → mb + 1 ≤ g ∧ g < SB) (hB : B ≤ mb ∧ mb < SB ∧ W0.heap.size = SB + 1) : Below B w W :=
  hb.trans ⟨hR.os, hR.tape, hR.output, by have := hR.sz; omega, fun b h => hR.keep b (by omega) (by omega) fun e => by have := (hob _ b e.symm).1; omega⟩

set_option maxRecDepth 100000 in
set_option maxHeartbeats 4000000 in
theorem wire_any (ps : List Prm) (inp : Int) (ss : List Syn) (a1 a2 : Option Addr) (k1 c1 c2 : Nat) (hl : ss.length ≤ 8192) (hfr : ∀ s ∈ ss, -256 ≤ s.fr ∧ s.fr ≤ 1023) (w : World) (hs : SsAt w (.slice a2 ss.length c2) ss) :
    Calls Try.prog 75 #[.agg #[.slice a1 k1 c1, .int .i64 inp, .slice a2 ss.length c2]] w (WireOut ss w) := by
  obtain ⟨m, hm⟩ : ∃ m, m = ss.length := ⟨_, rfl⟩
  rw [← hm] at hs hl ⊢
  have HS := Lib.hid hs
  have HM := Lib.hid hm
  have HF := Lib.hid hfr
  clear hs hm hfr
  go_enter Try.func75, Try.ntmps75
  have hmm := @run_makeMap Try.prog
  go_wp2
  have hS0 : WiresAt ((w.alloc (.cells #[.slice a1 k1 c1, .int .i64 inp, .slice a2 m c2] 25)).alloc (.map #[] 0)) (w.heap.size + 1) (w.heap.size + 1 + 1) 0 (ss.take 0) (fun _ => .slice none 0 0) := by
    have h0 := MapIs.made (w.alloc (.cells #[.slice a1 k1 c1, .int .i64 inp, .slice a2 m c2] 25))
    refine ⟨?_, fun x => World.ownsRow_nil _ _ _ _, fun _ _ => rfl, fun x y g h => by simp [Value.ownBlock] at h, by omega⟩
    rw [World.size_alloc] at h0
    exact h0
  have HS0 := Lib.hid hS0
  clear hS0 hmm
  go_loopw [10] (fun i wr => ∃ k : Nat, ∃ sl : Int → Value, k ≤ m ∧ i = .int .i64 k ∧ WiresAt wr (w.heap.size + 1) (w.heap.size + 1 + 1) k (ss.take k) sl ∧ Below w.heap.size w wr ∧ w.heap.size + 1 < wr.heap.size) (fun i _ => m - (intOf i).toNat)
  case atStart => exact ⟨0, _, Nat.zero_le _, rfl, HS0.out, ((Below.refl _ _).alloc (Nat.le_refl _) _).alloc (by simp) _, by simp⟩
  case round =>
    obtain ⟨k, sl, hk, rfl, hW, hb, hlt0⟩ := hrel
    have HB := Lib.hid hb
    have HW := Lib.hid hW
    clear hb hW
    by_cases hlt : k < m
    · obtain ⟨s, hs⟩ : ∃ s, ss[k]? = some s := ⟨_, List.getElem?_eq_getElem (by rw [← HM.out]; exact hlt)⟩
      obtain ⟨b, off, rfl, hbl, hc⟩ := HS.out.at hs
      obtain ⟨_, _, _, _⟩ := hc.below HB.out hbl
      have hi0 : (0 : Int) ≤ (k : Int) := Int.natCast_nonneg _
      have hi1 : (k : Int) < (m : Int) := by omega
      have hfs := HF.out s (List.mem_of_getElem? hs)
      have HSS := Lib.hid hs
      have HFS := Lib.hid hfs
      clear hs hc hfs
      go_wp2
      have hW0 : WiresAt (wr.alloc (.cells #[.int .i64 s.fr, .int .i64 s.to, .int .i64 s.wt, .int .i64 s.dl] 96)) (w.heap.size + 1) (w.heap.size + 1 + 1) k (ss.take k) sl :=
        HW.out.of_block (Below.heap_alloc _ _ _ hlt0) fun b _ h => Below.heap_alloc _ _ _ h
      have hsb : (wr.alloc (.cells #[.int .i64 s.fr, .int .i64 s.to, .int .i64 s.wt, .int .i64 s.dl] 96)).heap[wr.heap.size]? = some (.cells #[.int .i64 s.fr, .int .i64 s.to, .int .i64 s.wt, .int .i64 s.dl] 96) := alloc_new_at _ _ _ rfl
      have hbb : Below w.heap.size w (wr.alloc (.cells #[.int .i64 s.fr, .int .i64 s.to, .int .i64 s.wt, .int .i64 s.dl] 96)) := HB.out.trans ((Below.refl _ _).alloc (by omega) _)
      have hsz : (wr.alloc (.cells #[.int .i64 s.fr, .int .i64 s.to, .int .i64 s.wt, .int .i64 s.dl] 96)).heap.size = wr.heap.size + 1 := by simp
      have hob : ∀ x g, (sl x).ownBlock = some g → w.heap.size + 1 + 1 ≤ g ∧ g < wr.heap.size := fun x g h => (HW.out.row x).lt g h
      generalize wr.alloc (.cells #[.int .i64 s.fr, .int .i64 s.to, .int .i64 s.wt, .int .i64 s.dl] 96) = W0 at *
      generalize wr.heap.size = SB at *
      refine wp_region_ghost (WireR W0 (w.heap.size + 1) (w.heap.size + 1 + 1) (SB + 1) k (entW (ss.take k) sl) s (ofSrc (ss.take k) s.fr).length (synCs (ofSrc (ss.take k) s.fr)) (sl s.fr) (wireK (w.heap.size + 1) SB (SB + 1) s (sl s.fr))) (by kernel_rfl) (by kernel_rfl) (by kernel_rfl) (by kernel_rfl) ?ini ?stp ?dn
      case ini =>
        refine ⟨fun j _ h => ?_, fun _ _ _ _ => rfl, fun _ => rfl, fun _ _ _ => rfl, fun h => ?_, fun _ => hsz, fun h => ?_, fun h => ?_, fun h => ?_, fun h => ?_, fun h => ?_, by show SB + 1 ≤ W0.heap.size; omega, fun h => ?_, rfl, rfl, rfl⟩
        · simp [Array.getD_eq_getD_getElem?, Array.getElem?_replicate] at h; split at h <;> simp at h
        all_goals simp at h
      case stp =>
        intro L val W i o b' hs ho hlF hd hI hh
        have hi := (List.getElem?_eq_some_iff.1 ho).1
        have hcs : i = 0 ∨ i = 1 ∨ i = 2 ∨ i = 3 ∨ i = 4 ∨ i = 5 ∨ i = 6 ∨ i = 7 ∨ i = 8 ∨ i = 9 ∨ i = 10 := by simp at hi; omega
        have hLs : 11 ≤ L.size := by simp at hs; omega
        obtain ⟨_, _, _, _⟩ := cells4 ((hI.keep SB (by omega) (by omega) (fun e => by have := (hob _ SB e.symm).2; omega)).trans hsb)
        have hwf : (Lit.int .i64 s.fr).wf = true := wf64 (by have := HFS.out; omega) (by have := HFS.out; omega)
        have HI := Lib.hid hI
        have HLF := Lib.hid hlF
        have HD := Lib.hid hd
        have HWF := Lib.hid hwf
        clear hi hs hI hlF hd hwf
        rcases hcs with rfl | rfl | rfl | rfl | rfl | rfl | rfl | rfl | rfl | rfl | rfl
        · simp only [List.getElem?_cons_zero, Option.some.injEq] at ho
          subst ho
          have k3 := hh.kept 3 (by simp)
          simp at k3
          go_simp
          exact ⟨_, rfl, HI.out.skip 0 (by omega) hLs _ rfl _ rfl rfl rfl rfl⟩
        · simp only [List.getElem?_cons_zero, List.getElem?_cons_succ, Option.some.injEq] at ho
          subst ho
          have k5 := hh.kept 5 (by simp)
          simp at k5
          go_simp
          exact ⟨_, rfl, HI.out.skip 1 (by omega) hLs _ rfl _ rfl rfl rfl rfl⟩
        · simp only [List.getElem?_cons_zero, List.getElem?_cons_succ, Option.some.injEq] at ho
          subst ho
          have l1 : L.getD 1 false = true := HD.out ⟨1, .data⟩ (by simp) rfl
          have g1 := hh.got 1 _ 15 rfl rfl l1 (by simp)
          rw [HI.out.known 1 (by omega) l1] at g1
          simp [wireK] at g1
          clear l1
          go_simp
          exact ⟨_, rfl, HI.out.skip 2 (by omega) hLs _ rfl _ rfl rfl rfl rfl⟩
        · simp only [List.getElem?_cons_zero, List.getElem?_cons_succ, Option.some.injEq] at ho
          subst ho
          have k3 := hh.kept 3 (by simp)
          simp at k3
          go_simp
          exact ⟨_, rfl, HI.out.skip 3 (by omega) hLs _ rfl _ rfl rfl rfl rfl⟩
        · simp only [List.getElem?_cons_zero, List.getElem?_cons_succ, Option.some.injEq] at ho
          subst ho
          have k5 := hh.kept 5 (by simp)
          simp at k5
          go_simp
          exact ⟨_, rfl, HI.out.skip 4 (by omega) hLs _ rfl _ rfl rfl rfl rfl⟩
        · simp only [List.getElem?_cons_zero, List.getElem?_cons_succ, Option.some.injEq] at ho
          subst ho
          have l4 : L.getD 4 false = true := HD.out ⟨4, .data⟩ (by simp) rfl
          have g4 := hh.got 4 _ 18 rfl rfl l4 (by simp)
          rw [HI.out.known 4 (by omega) l4] at g4
          simp [wireK] at g4
          clear l4
          go_simp
          exact ⟨_, rfl, HI.out.skip 5 (by omega) hLs _ rfl _ rfl rfl rfl rfl⟩
        · simp only [List.getElem?_cons_zero, List.getElem?_cons_succ, Option.some.injEq] at ho
          subst ho
          have l3 : L.getD 3 false = true := HD.out ⟨3, .data⟩ (by simp) rfl
          have g3 := hh.got 3 _ 17 rfl rfl l3 (by simp)
          rw [HI.out.known 3 (by omega) l3] at g3
          simp [wireK] at g3
          have l5 : L.getD 5 false = true := HD.out ⟨5, .data⟩ (by simp) rfl
          have g5 := hh.got 5 _ 19 rfl rfl l5 (by simp)
          rw [HI.out.known 5 (by omega) l5] at g5
          simp [wireK] at g5
          have h9 : L.getD 9 false = false := by
            cases e : L.getD 9 false with
            | false => rfl
            | true => have := HI.out.d6 e; rw [HLF.out] at this; cases this
          have h10 : L.getD 10 false = false := by
            cases e : L.getD 10 false with
            | false => rfl
            | true => have := HI.out.d10 e; rw [h9] at this; cases this
          have hlk := ((hW0.map).of_block (HI.out.map h10)).look1 Try.underlying100 (zero23 _) s.fr HWF.out
          rw [entW_get hW0.nil] at hlk
          clear l3 l5 h9 h10
          go_simp
          exact ⟨_, rfl, HI.out.skip 6 (by omega) hLs _ rfl _ rfl rfl rfl rfl⟩
        · simp only [List.getElem?_cons_zero, List.getElem?_cons_succ, Option.some.injEq] at ho
          subst ho
          have k5 := hh.kept 5 (by simp)
          simp at k5
          go_simp
          exact ⟨_, rfl, HI.out.skip 7 (by omega) hLs _ rfl _ rfl rfl rfl rfl⟩
        · simp only [List.getElem?_cons_zero, List.getElem?_cons_succ, Option.some.injEq] at ho
          subst ho
          have l7 : L.getD 7 false = true := HD.out ⟨7, .data⟩ (by simp) rfl
          have g7 := hh.got 7 _ 21 rfl rfl l7 (by simp)
          rw [HI.out.known 7 (by omega) l7] at g7
          simp [wireK] at g7
          clear l7
          go_simp
          exact ⟨_, rfl, HI.out.alloc8 hLs HLF.out rfl (by omega) (fun g hg => by have := (hob _ g hg).2; omega)⟩
        · simp only [List.getElem?_cons_zero, List.getElem?_cons_succ, Option.some.injEq] at ho
          subst ho
          have l6 : L.getD 6 false = true := HD.out ⟨6, .data⟩ (by simp) rfl
          have l8 : L.getD 8 false = true := HD.out ⟨8, .data⟩ (by simp) rfl
          have e6 : b'.eval (.tmp 20) = sl s.fr := (hh.got 6 _ 20 rfl rfl l6 (by simp)).trans (HI.out.known 6 (by omega) l6)
          have e8 : b'.eval (.tmp 22) = .slice (some ⟨SB + 1, 0, none⟩) 1 1 := (hh.got 8 _ 22 rfl rfl l8 (by simp)).trans (HI.out.known 8 (by omega) l8)
          obtain ⟨v', w', hr, hw'⟩ := HI.out.append9 hLs HLF.out l8 l6 (hW0.row s.fr) (by omega) (by omega) (fun g hg => by have := (hob _ g hg).2; omega) (ofSrc_le _ _ (by simp; omega)) 23
          unfold Oper.wp execOp
          simp only [resolve, invoke, builtin, Sem.run_bind, Sem.run_pure, Result.andThen_ok, List.map_toArray, List.map_cons, List.map_nil, e6, e8, hr]
          exact ⟨_, rfl, hw'⟩
        · simp only [List.getElem?_cons_zero, List.getElem?_cons_succ, Option.some.injEq] at ho
          subst ho
          have l0 : L.getD 0 false = true := HD.out ⟨0, .data⟩ (by simp) rfl
          have g0 := hh.got 0 _ 14 rfl rfl l0 (by simp)
          rw [HI.out.known 0 (by omega) l0] at g0
          simp [wireK] at g0
          have l2 : L.getD 2 false = true := HD.out ⟨2, .data⟩ (by simp) rfl
          have g2 := hh.got 2 _ 16 rfl rfl l2 (by simp)
          rw [HI.out.known 2 (by omega) l2] at g2
          simp [wireK] at g2
          have l9 : L.getD 9 false = true := HD.out ⟨9, .data⟩ (by simp) rfl
          have g9 := hh.got 9 _ 23 rfl rfl l9 (by simp)
          simp at g9
          obtain ⟨w', hr, hw'⟩ := HI.out.update10 hLs HLF.out l9 hW0.map (by omega) (by omega) (by omega) (fun g hg => (hob _ g hg).1) HWF.out
          have HW' := Lib.hid hw'
          clear hw' l0 l2 l9
          go_simp
          exact ⟨undef, HW'.out⟩
      case dn =>
        intro val W b' hI hh hbs
        obtain ⟨tm, df⟩ := b'
        have hdf := hh.defers
        simp only at hdf hbs
        subst hdf
        have q0 := hh.kept 0 (by simp)
        have q1 := hh.kept 1 (by simp)
        have q2 := hh.kept 2 (by simp)
        have q3 := hh.kept 3 (by simp)
        have q4 := hh.kept 4 (by simp)
        have q6 := hh.kept 6 (by simp)
        have q7 := hh.kept 7 (by simp)
        have q8 := hh.kept 8 (by simp)
        have q9 := hh.kept 9 (by simp)
        have q10 := hh.kept 10 (by simp)
        have q25 := hh.kept 25 (by simp)
        simp at q0 q1 q2 q3 q4 q6 q7 q8 q9 q10 q25
        obtain ⟨t0, t1, t2, t3, t4, t5, t6, t7, t8, t9, t10, t11, t12, t13, t14, t15, t16, t17, t18, t19, t20, t21, t22, t23, t24, t25, rfl⟩ := arr26 (by simpa using hbs)
        simp at q0 q1 q2 q3 q4 q6 q7 q8 q9 q10 q25
        subst q0 q1 q2 q3 q4 q6 q7 q8 q9 q10 q25
        clear hbs hh
        have HI := Lib.hid hI
        have HOB := Lib.hid hob
        have HW0 := Lib.hid hW0
        have HBB := Lib.hid hbb
        clear hI hob hW0 hbb
        go_wp2
        go_roundw
        case rel =>
          exact ⟨k + 1, _, by omega, by go_num, wire_step HW0.out HSS.out HI.out HOB.out hlt0, wire_below HBB.out HW0.out HI.out HOB.out (by omega), by have := HI.out.sz; omega⟩
        case measure => simp [intOf]; omega
    · have hkm : k = m := by omega
      subst hkm
      have e : ss.take k = ss := by rw [HM.out]; exact List.take_length
      clear hlt
      go_wp2
      go_ret
      exact ⟨_, sl, k, rfl, by have := HW.out; rw [e] at this; exact this, by omega, HB.out⟩
end Go.Proofs.Ytgbcdebnanejpaa
