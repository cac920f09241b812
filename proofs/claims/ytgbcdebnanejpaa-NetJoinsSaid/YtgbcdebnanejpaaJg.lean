/- The specification's Join. (mk_Jg.py wrote this.) -/
import Derived.Test.YtgbcdebnanejpaaJe
namespace Go.Proofs.Ytgbcdebnanejpaa.Rn
set_option linter.unusedVariables false
open Go.RowKit Go.Shelf

theorem run_appP {W : World} {base : Nat} (v : Value) (k : Nat) (l n : List Prm) (hown : W.ownsRow base 39 8 v k (prmCs l)) (hk : k ≤ 1000000) (hz : base ≤ W.heap.size) (ad : Option Addr) (m c : Nat) (hm : m = n.length) (hn : PsAt W (.slice ad m c) n) (h2 : m ≤ 1000000) (ty : TypeId) :
    ∃ v' W', (Builtin.append_ #[22, 22] ty #[v, .slice ad m c]).run Try.prog W = .ok v' W' ∧ W'.ownsRow base 39 8 v' (k + m) (prmCs (l ++ n)) ∧ W.grownBy W' v.ownBlock := by
  obtain ⟨i0, hi, hz0, hzz1, hzz2⟩ := info_parts info39
  rcases newsP hn with ⟨rfl, rfl, rfl, rfl⟩ | ⟨ad, rfl, hc⟩
  · exact ⟨v, W, run_append_owned_none (P := Try.prog) W base 22 ty 39 i0 8 Try.underlying22 hi v k (prmCs l) hown, by simpa using hown, World.grownBy.refl _ _⟩
  · obtain ⟨v', w', hrun, r1, r2, _⟩ := run_append_own (P := Try.prog) W base 22 ty 39 i0 (.agg #[.int .i64 0, .int .i64 0, .int .i64 0, .int .i64 0, .int .i64 0, .int .i64 0, .int .i64 0, .int .i64 0]) 8 64 Try.underlying22 hi hz0 hzz1 hzz2 rfl (by decide) v k (prmCs l) hown ad m c (prmCs n) (by rw [prmCs_length, hm]) hc (fun u hu => prmV_one hu) (by unfold maxLen; omega) (by omega) hz
    exact ⟨v', w', hrun, by rw [prmCs_append]; exact r1, r2⟩

/-- The region of the specification's Join that joins the neurons. -/
structure JqR (W0 : World) (H gN : Nat) (I : Int) (pa pb : List Prm) (Kv : Nat → Value) (L : Array Bool) (val : Nat → Value) (W : World) : Prop where
  hz : H = W0.heap.size
  lt : gN < H
  known : ∀ j, j < 8 → j ≠ 0 → j ≠ 3 → j ≠ 6 → L.getD j false = true → val j = Kv j
  bel : Below gN W0 W
  oth : ∀ b, b < H → b ≠ gN → W.heap[b]? = W0.heap[b]?
  o0 : L.getD 0 false = true → L.getD 3 false = false → W.ownsRow H 39 8 (val 0) 0 (prmCs [])
  o3 : L.getD 3 false = true → L.getD 6 false = false → W.ownsRow H 39 8 (val 3) pa.length (prmCs pa)
  o6 : L.getD 6 false = true → W.ownsRow H 39 8 (val 6) (pa ++ pb).length (prmCs (pa ++ pb))
  box0 : L.getD 8 false = false → NetBox W gN (.slice none 0 0) I (.slice none 0 0)
  box1 : L.getD 8 false = true → NetBox W gN (val 6) I (.slice none 0 0)
  d3 : L.getD 3 false = true → L.getD 0 false = true
  d6 : L.getD 6 false = true → L.getD 3 false = true
  d8 : L.getD 8 false = true → L.getD 6 false = true
section
variable {W0 W : World} {H gN : Nat} {I : Int} {pa pb : List Prm} {Kv : Nat → Value} {L : Array Bool} {val : Nat → Value}
theorem JqR.init (hH : H = W0.heap.size) (hl : gN < H) (hb : NetBox W0 gN (.slice none 0 0) I (.slice none 0 0)) : JqR W0 H gN I pa pb Kv (Array.replicate 9 false) (fun _ => undef) { W0 with drawn := W0.drawn + 1 } := by
  have z : ∀ j, (Array.replicate 9 false).getD j false = true → False := fun j h => by
    simp [Array.getD_eq_getD_getElem?, Array.getElem?_replicate] at h
    split at h <;> simp_all
  exact ⟨hH, hl, fun j _ _ _ _ h => (z _ h).elim, ⟨rfl, rfl, rfl, Nat.le_refl _, fun _ _ => rfl⟩, fun _ _ _ => rfl, fun h => (z _ h).elim, fun h => (z _ h).elim, fun h => (z _ h).elim, fun _ => hb, fun h => (z _ h).elim, fun h => (z _ h).elim, fun h => (z _ h).elim, fun h => (z _ h).elim⟩
theorem gd {i j : Nat} (h : j ≠ i) : (L.setIfInBounds i true).getD j false = L.getD j false := getD_ne (fun e => h e.symm)
theorem JqR.skip (h : JqR W0 H gN I pa pb Kv L val W) (i : Nat) (hi : i < 8) (hs : 8 < L.size) (u : Value) (hf : L.getD i false = false) (h0 : i ≠ 0) (h3 : i ≠ 3) (h6 : i ≠ 6) (hk : u = Kv i) :
    JqR W0 H gN I pa pb Kv (L.setIfInBounds i true) (setV val i u) W := by
  refine ⟨h.hz, h.lt, fun j hj a b c hl => ?_, h.bel, h.oth, ?_, ?_, ?_, ?_, ?_, ?_, ?_, ?_⟩
  · by_cases e : j = i
    · subst e; rw [sv_eq]; exact hk
    · rw [sv_ne e]; exact h.known j hj a b c (by rwa [gd e] at hl)
  · rw [gd (Ne.symm h0), gd (Ne.symm h3), sv_ne (Ne.symm h0)]; exact h.o0
  · rw [gd (Ne.symm h3), gd (Ne.symm h6), sv_ne (Ne.symm h3)]; exact h.o3
  · rw [gd (Ne.symm h6), sv_ne (Ne.symm h6)]; exact h.o6
  · rw [gd (by omega)]; exact h.box0
  · rw [gd (by omega), sv_ne (Ne.symm h6)]; exact h.box1
  · rw [gd (Ne.symm h3), gd (Ne.symm h0)]; exact h.d3
  · rw [gd (Ne.symm h6), gd (Ne.symm h3)]; exact h.d6
  · rw [gd (by omega), gd (Ne.symm h6)]; exact h.d8
theorem JqR.no (h : JqR W0 H gN I pa pb Kv L val W) (h6 : L.getD 6 false = false) : L.getD 8 false = false := by
  cases e : L.getD 8 false with
  | false => rfl
  | true => rw [h.d8 e] at h6; cases h6
theorem JqR.no6 (h : JqR W0 H gN I pa pb Kv L val W) (h3 : L.getD 3 false = false) : L.getD 6 false = false := by
  cases e : L.getD 6 false with
  | false => rfl
  | true => rw [h.d6 e] at h3; cases h3
theorem JqR.no3 (h : JqR W0 H gN I pa pb Kv L val W) (h0 : L.getD 0 false = false) : L.getD 3 false = false := by
  cases e : L.getD 3 false with
  | false => rfl
  | true => rw [h.d3 e] at h0; cases h0
theorem JqR.mk0 (h : JqR W0 H gN I pa pb Kv L val W) (hs : 8 < L.size) (hf : L.getD 0 false = false) :
    JqR W0 H gN I pa pb Kv (L.setIfInBounds 0 true) (setV val 0 (.slice (some ⟨W.heap.size, 0, none⟩) 0 0)) (W.alloc (.cells #[] 39)) := by
  have f3 := h.no3 hf
  have f6 := h.no6 f3
  have f8 := h.no f6
  have hzW := h.bel.size
  have hz := h.hz
  have hl := h.lt
  refine ⟨h.hz, h.lt, fun j hj a b c hl => ?_, h.bel.alloc (by omega) _, fun b h1 h2 => (Below.heap_alloc _ _ _ (by omega)).trans (h.oth b h1 h2), fun _ _ => ?_, ?_, ?_, fun _ => ?_, ?_, ?_, ?_, ?_⟩
  · rw [sv_ne a]; exact h.known j hj a b c (by rwa [gd a] at hl)
  · rw [sv_eq]; exact ⟨rfl, .inr ⟨W.heap.size, 0, #[], rfl, by omega, alloc_new_at _ _ _ rfl, Nat.le_refl _, by unfold maxLen; omega, rfl, rfl⟩⟩
  · rw [gd (by omega), f3]; intro hh; cases hh
  · rw [gd (by omega), f6]; intro hh; cases hh
  · exact (Below.heap_alloc _ _ _ (by omega)).trans (h.box0 f8)
  · rw [gd (by omega), f8]; intro hh; cases hh
  · rw [gd (by omega), f3]; intro hh; cases hh
  · rw [gd (by omega), f6]; intro hh; cases hh
  · rw [gd (by omega), f8]; intro hh; cases hh
theorem grown_bel {W W' : World} {v : Value} {B gN n : Nat} {xs : List Value} (hg : W.grownBy W' v.ownBlock) (ho : W.ownsRow B 39 8 v n xs) (h : gN ≤ B) (hz : gN ≤ W.heap.size) : Below gN W W' :=
  ⟨hg.os, hg.tape, hg.output, hg.size, fun k hk => hg.block k (by omega) fun e => by have := (ho.lt k e.symm).1; omega⟩
theorem JqR.app3 (h : JqR W0 H gN I pa pb Kv L val W) (hs : 8 < L.size) (hf : L.getD 3 false = false) (l0 : L.getD 0 false = true) {ad : Option Addr} {m c : Nat} (h2 : pa.length ≤ 100000) (hm : m = pa.length) (hn : PsAt W (.slice ad m c) pa) (ty : TypeId) :
    ∃ v' W', (Builtin.append_ #[22, 22] ty #[val 0, .slice ad m c]).run Try.prog W = .ok v' W' ∧ JqR W0 H gN I pa pb Kv (L.setIfInBounds 3 true) (setV val 3 v') W' := by
  have f6 := h.no6 hf
  have f8 := h.no f6
  have hzW := h.bel.size
  have hz := h.hz
  have hl := h.lt
  have ho := h.o0 l0 hf
  obtain ⟨v', W', hr, ho', hg⟩ := run_appP (val 0) 0 [] pa ho (by omega) (by omega) ad m c hm hn (by omega) ty
  have hb := grown_bel hg ho (gN := gN) (by omega) (by omega)
  refine ⟨v', W', hr, h.hz, h.lt, fun j hj a b c hl => ?_, h.bel.trans hb, fun b h1 h2 => (hg.block b (by omega) fun e => by have := (ho.lt b e.symm).1; omega).trans (h.oth b h1 h2), ?_, fun _ _ => ?_, ?_, fun _ => ?_, ?_, ?_, ?_, ?_⟩
  · rw [sv_ne b]; exact h.known j hj a b c (by rwa [gd b] at hl)
  · intro _ hh; rw [getD_eq (by omega)] at hh; cases hh
  · rw [sv_eq, ← hm]; simpa using ho'
  · rw [gd (by omega), f6]; intro hh; cases hh
  · exact (hg.block gN (by omega) fun e => by have := (ho.lt gN e.symm).1; omega).trans (h.box0 f8)
  · rw [gd (by omega), f8]; intro hh; cases hh
  · intro _; rw [gd (by omega)]; exact l0
  · rw [gd (by omega), f6]; intro hh; cases hh
  · rw [gd (by omega), f8]; intro hh; cases hh
theorem JqR.app6 (h : JqR W0 H gN I pa pb Kv L val W) (hs : 8 < L.size) (hf : L.getD 6 false = false) (l3 : L.getD 3 false = true) {ad : Option Addr} {m c : Nat} (h1 : pa.length ≤ 100000) (h2 : pb.length ≤ 100000) (hm : m = pb.length) (hn : PsAt W (.slice ad m c) pb) (ty : TypeId) :
    ∃ v' W', (Builtin.append_ #[22, 22] ty #[val 3, .slice ad m c]).run Try.prog W = .ok v' W' ∧ JqR W0 H gN I pa pb Kv (L.setIfInBounds 6 true) (setV val 6 v') W' := by
  have f8 := h.no hf
  have hzW := h.bel.size
  have hz := h.hz
  have hl := h.lt
  have ho := h.o3 l3 hf
  obtain ⟨v', W', hr, ho', hg⟩ := run_appP (val 3) pa.length pa pb ho (by omega) (by omega) ad m c hm hn (by omega) ty
  have hb := grown_bel hg ho (gN := gN) (by omega) (by omega)
  refine ⟨v', W', hr, h.hz, h.lt, fun j hj a b c hl => ?_, h.bel.trans hb, fun b h1 h2 => (hg.block b (by omega) fun e => by have := (ho.lt b e.symm).1; omega).trans (h.oth b h1 h2), ?_, ?_, fun _ => ?_, fun _ => ?_, ?_, ?_, fun _ => ?_, ?_⟩
  · rw [sv_ne c]; exact h.known j hj a b c (by rwa [gd c] at hl)
  · intro _ hh; rw [gd (by omega), l3] at hh; cases hh
  · intro _ hh; rw [getD_eq (by omega)] at hh; cases hh
  · rw [sv_eq, List.length_append, ← hm]; exact ho'
  · exact (hg.block gN (by omega) fun e => by have := (ho.lt gN e.symm).1; omega).trans (h.box0 f8)
  · rw [gd (by omega), f8]; intro hh; cases hh
  · rw [gd (by omega), gd (by omega)]; exact h.d3
  · rw [gd (by omega)]; exact l3
  · rw [gd (by omega), f8]; intro hh; cases hh
theorem netBox_set0 {W : World} {g : Nat} {a a0 c : Value} {b : Int} (h : NetBox W g a0 b c) : NetBox (W.setCell ⟨g, 0, none⟩ a) g a b c := by
  unfold NetBox at *
  simp [World.setCell, Array.getElem?_modify, h]
theorem JqR.fill (h : JqR W0 H gN I pa pb Kv L val W) (hs : 8 < L.size) (l6 : L.getD 6 false = true) (hf : L.getD 8 false = false := by assumption) :
    JqR W0 H gN I pa pb Kv (L.setIfInBounds 8 true) (setV val 8 undef) (W.setCell ⟨gN, 0, none⟩ (val 6)) := by
  have l3 := h.d6 l6
  have hl := h.lt
  have e : ∀ b, b ≠ gN → (W.setCell ⟨gN, 0, none⟩ (val 6)).heap[b]? = W.heap[b]? := fun b hb => by simp [World.setCell, Array.getElem?_modify, Ne.symm hb]
  refine ⟨h.hz, h.lt, fun j hj a b c hl => ?_, h.bel.setCell (p := ⟨gN, 0, none⟩) (Nat.le_refl _) _, fun b h1 h2 => (e b h2).trans (h.oth b h1 h2), ?_, ?_, fun _ => ?_, ?_, fun _ => ?_, ?_, ?_, fun _ => ?_⟩
  · rw [sv_ne (by omega)]; exact h.known j hj a b c (by rwa [gd (by omega)] at hl)
  · intro _ hh; rw [gd (by omega), l3] at hh; cases hh
  · intro _ hh; rw [gd (by omega), l6] at hh; cases hh
  · rw [sv_ne (by omega)]
    exact ownsRow_of_block (h.o6 l6) fun g hg => e g (by have := ((h.o6 l6).lt g hg).1; omega)
  · rw [getD_eq (by omega)]; intro hh; cases hh
  · rw [sv_ne (by omega)]; exact netBox_set0 (h.box0 hf)
  · rw [gd (by omega), gd (by omega)]; exact h.d3
  · rw [gd (by omega), gd (by omega)]; exact h.d6
  · rw [gd (by omega)]; exact l6
end
def joinQ (B gN : Nat) (a1 b1 : Value) : Nat → Value
  | 1 => .pointer (some ⟨B, 0, none⟩)
  | 2 => a1
  | 4 => .pointer (some ⟨B + 1, 0, none⟩)
  | 5 => b1
  | 7 => .pointer (some ⟨gN, 0, none⟩)
  | _ => undef

/-- What the loop of the specification's Join finds. -/
structure MidK (w : World) (B H gN : Nat) (ia ib I : Int) (v5 v a1 a2 b1 b2 : Value) (pl : List Prm) (Sl : List Syn) (A : World) : Prop where
  row : A.ownsRow gN 39 8 v5 pl.length (prmCs pl)
  syn : A.ownsRow H 96 4 v Sl.length (synCs Sl)
  box : NetBox A gN v5 I v
  boxa : NetBox A B a1 ia a2
  boxb : NetBox A (B + 1) b1 ib b2
  box2 : NetBox A (B + 1 + 1) (.slice none 0 0) 0 (.slice none 0 0)
  bel : Below B w A
  up5 : ∀ g, v5.ownBlock = some g → gN < g ∧ g < H
  loN : B + 1 + 1 < gN
  upN : gN < H
  hz : H ≤ A.heap.size
section
variable {w A A' w7 : World} {B H gN : Nat} {ia ib I : Int} {v5 v v' a1 a2 b1 b2 : Value} {pl : List Prm} {Sl : List Syn} {s : Syn}
theorem MidK.keep (h : MidK w B H gN ia ib I v5 v a1 a2 b1 b2 pl Sl A) (hb : Below A.heap.size A A') : MidK w B H gN ia ib I v5 v a1 a2 b1 b2 pl Sl A' := by
  have h1 := h.hz
  have h2 := h.upN
  have h3 := h.loN
  have hB : Below B w A' := h.bel.trans (hb.mono (by omega))
  exact ⟨ownsRow_of_block h.row fun g hg => hb.block g (h.row.lt g hg).2, ownsRow_of_block h.syn fun g hg => hb.block g (h.syn.lt g hg).2, (hb.block _ (by omega)).trans h.box, (hb.block _ (by omega)).trans h.boxa, (hb.block _ (by omega)).trans h.boxb, (hb.block _ (by omega)).trans h.box2, hB, h.up5, h.loN, h.upN, Nat.le_trans h.hz hb.size⟩
theorem MidK.app (h : MidK w B H gN ia ib I v5 v a1 a2 b1 b2 pl Sl A) (hO : w7.ownsRow H 96 4 v' (Sl.length + 1) (synCs Sl ++ synV s)) (old : ∀ g, g < H → w7.heap[g]? = A.heap[g]?) (h1 : w7.os = A.os) (h2 : w7.tape = A.tape) (h3 : w7.output = A.output) (h4 : A.heap.size ≤ w7.heap.size) : MidK w B H gN ia ib I v5 v' a1 a2 b1 b2 pl (Sl ++ [s]) (w7.setCell ⟨gN, 2, none⟩ v') := by
  have hl := h.loN
  have hu := h.upN
  have hz := h.hz
  have e : ∀ b, b ≠ gN → (w7.setCell ⟨gN, 2, none⟩ v').heap[b]? = w7.heap[b]? := fun b hb => by simp [World.setCell, Array.getElem?_modify, Ne.symm hb]
  have hbx : NetBox w7 gN v5 I v := (old gN hu).trans h.box
  have hbx' : NetBox (w7.setCell ⟨gN, 2, none⟩ v') gN v5 I v' := netBox_set2 hbx
  have hb7 : Below B A w7 := ⟨h1, h2, h3, h4, fun b hb => old b (by omega)⟩
  have hb8 : Below B w (w7.setCell ⟨gN, 2, none⟩ v') := (h.bel.trans hb7).setCell (p := ⟨gN, 2, none⟩) (by show B ≤ gN; omega) _
  have hs8 : (w7.setCell ⟨gN, 2, none⟩ v').heap.size = w7.heap.size := by simp
  generalize w7.setCell ⟨gN, 2, none⟩ v' = A' at *
  have hs : A'.ownsRow H 96 4 v' (Sl ++ [s]).length (synCs (Sl ++ [s])) := by
    rw [synCs_snoc, List.length_append]
    exact ownsRow_of_block hO fun g hg => e g (by have := (hO.lt g hg).1; omega)
  exact ⟨ownsRow_of_block h.row fun g hg => (e g (by have := h.up5 g hg; omega)).trans (old g (h.up5 g hg).2), hs, hbx', ((e B (by omega)).trans (old B (by omega))).trans h.boxa, ((e (B + 1) (by omega)).trans (old (B + 1) (by omega))).trans h.boxb, ((e (B + 1 + 1) (by omega)).trans (old (B + 1 + 1) (by omega))).trans h.box2, hb8, h.up5, hl, hu, by omega⟩
end

set_option maxRecDepth 100000 in
set_option maxHeartbeats 4000000 in
theorem rjn_bad1 (a b : NetM) (a1 a2 b1 b2 : Option Addr) (c1 c2 d1 d2 : Nat) (he : ncheck a ≠ 0) (w : World)
    (hpa : PsAt w (.slice a1 a.ps.length c1) a.ps) (hsa : SsAt w (.slice a2 a.ss.length c2) a.ss) (hpb : PsAt w (.slice b1 b.ps.length d1) b.ps) (hsb : SsAt w (.slice b2 b.ss.length d2) b.ss) :
    Calls Try.prog 28 #[.agg #[.slice a1 a.ps.length c1, .int .i64 a.inp, .slice a2 a.ss.length c2], .agg #[.slice b1 b.ps.length d1, .int .i64 b.inp, .slice b2 b.ss.length d2]] w (RenOut (joinE a b) (joinR a b) w) := by
  have hE : joinE a b = ncheck a := if_pos he
  have hR : joinR a b = netZ := if_neg (by rw [hE]; exact he)
  rw [hE, hR]
  have hck : ∀ w1, Below w.heap.size w w1 → Calls Try.prog 20 #[.agg #[.slice a1 a.ps.length c1, .int .i64 a.inp, .slice a2 a.ss.length c2]] w1 fun e w' => e = .returned (.int .i64 (ncheck a)) ∧ Below w1.heap.size w1 w' := fun w1 hb => rncheck_any a a1 a2 c1 c2 w1 (hpa.below hb) (hsa.below hb)
  have hne : (ncheck a != 0) = true := by simp [he]
  generalize ncheck a = X at *
  generalize a.ps.length = k at *
  generalize a.ss.length = m at *
  generalize a.inp = I at *
  generalize b.ps.length = k' at *
  generalize b.ss.length = m' at *
  generalize b.inp = I' at *
  have HCK := Lib.hid hck
  clear hck hpa hsa hpb hsb hE hR he
  go_enter Try.func28, Try.ntmps28
  go_wp2_with (go_at_call 20; refine (HCK.out _ (below3 w _ _ _)).mono ?_; rintro e w1 ⟨rfl, hb1⟩; have hbx1 : NetBox w1 (w.heap.size + 1 + 1) (.slice none 0 0) 0 (.slice none 0 0) := (hb1.block _ (by simp)).trans (blk3c _ _ _ _); obtain ⟨_, _, _, _, _, _⟩ := cells3f hbx1; have hz1 : w.heap.size + 1 + 1 < w1.heap.size := lt_of_block hbx1)
  have hb2 : Below w.heap.size w w1 := (below3 w _ _ _).trans (hb1.mono (by simp; omega))
  have hS := netBox_set (a := .slice none 0 0) (b := 0) (c := .slice none 0 0) hbx1
  have hB := ((hb2.setCell (p := ⟨w.heap.size + 1 + 1, 0, none⟩) (by simp; omega) (.slice none 0 0)).setCell (p := ⟨w.heap.size + 1 + 1, 1, none⟩) (by simp; omega) (.int .i64 0)).setCell (p := ⟨w.heap.size + 1 + 1, 2, none⟩) (by simp; omega) (.slice none 0 0)
  generalize ((w1.setCell ⟨w.heap.size + 1 + 1, 0, none⟩ (.slice none 0 0)).setCell ⟨w.heap.size + 1 + 1, 1, none⟩ (.int .i64 0)).setCell ⟨w.heap.size + 1 + 1, 2, none⟩ (.slice none 0 0) = S at *
  obtain ⟨d0, d1, d2, _, _, _⟩ := cells3f hS
  exact bodyPost_ret (v := .tuple #[.agg #[.slice none 0 0, .int .i64 0, .slice none 0 0], .int .i64 X]) (by simp [results, Try.results28, go_sem, d0, d1, d2]) rfl ⟨_, rfl, netZ_at _, hB⟩
set_option maxRecDepth 100000 in
set_option maxHeartbeats 4000000 in
theorem rjn_bad2 (a b : NetM) (a1 a2 b1 b2 : Option Addr) (c1 c2 d1 d2 : Nat) (he : ncheck a = 0) (he2 : ncheck b ≠ 0) (w : World)
    (hpa : PsAt w (.slice a1 a.ps.length c1) a.ps) (hsa : SsAt w (.slice a2 a.ss.length c2) a.ss) (hpb : PsAt w (.slice b1 b.ps.length d1) b.ps) (hsb : SsAt w (.slice b2 b.ss.length d2) b.ss) :
    Calls Try.prog 28 #[.agg #[.slice a1 a.ps.length c1, .int .i64 a.inp, .slice a2 a.ss.length c2], .agg #[.slice b1 b.ps.length d1, .int .i64 b.inp, .slice b2 b.ss.length d2]] w (RenOut (joinE a b) (joinR a b) w) := by
  have hE : joinE a b = ncheck b := by rw [joinE, if_neg (by simpa using he)]; exact if_pos he2
  have hR : joinR a b = netZ := if_neg (by rw [hE]; exact he2)
  rw [hE, hR]
  have hck : ∀ w1, Below w.heap.size w w1 → Calls Try.prog 20 #[.agg #[.slice a1 a.ps.length c1, .int .i64 a.inp, .slice a2 a.ss.length c2]] w1 fun e w' => e = .returned (.int .i64 0) ∧ Below w1.heap.size w1 w' := fun w1 hb => by
    have := rncheck_any a a1 a2 c1 c2 w1 (hpa.below hb) (hsa.below hb)
    rwa [he] at this
  have hck2 : ∀ w1, Below w.heap.size w w1 → Calls Try.prog 20 #[.agg #[.slice b1 b.ps.length d1, .int .i64 b.inp, .slice b2 b.ss.length d2]] w1 fun e w' => e = .returned (.int .i64 (ncheck b)) ∧ Below w1.heap.size w1 w' := fun w1 hb => rncheck_any b b1 b2 d1 d2 w1 (hpb.below hb) (hsb.below hb)
  have hne : (ncheck b != 0) = true := by simp [he2]
  generalize ncheck b = X at *
  generalize a.ps.length = k at *
  generalize a.ss.length = m at *
  generalize a.inp = I at *
  generalize b.ps.length = k' at *
  generalize b.ss.length = m' at *
  generalize b.inp = I' at *
  have HCK := Lib.hid hck
  have HCK2 := Lib.hid hck2
  clear hck hck2 hpa hsa hpb hsb hE hR he he2
  go_enter Try.func28, Try.ntmps28
  go_upto_region 4 with (go_at_call 20; refine (HCK.out _ (below3 w _ _ _)).mono ?_; rintro e w1 ⟨rfl, hb1⟩)
  have hbx1 : NetBox w1 (w.heap.size + 1 + 1) (.slice none 0 0) 0 (.slice none 0 0) := (hb1.block _ (by simp)).trans (blk3c _ _ _ _)
  have hbxb : NetBox w1 (w.heap.size + 1) (.slice b1 k' d1) I' (.slice b2 m' d2) := (hb1.block _ (by simp <;> omega)).trans (blk3b _ _ _ _)
  have hz1 : w.heap.size + 1 + 1 < w1.heap.size := lt_of_block hbx1
  have hb2 : Below w.heap.size w w1 := (below3 w _ _ _).trans (hb1.mono (by simp; omega))
  obtain ⟨_, _, _, _, _, _⟩ := cells3f hbxb
  clear hb1
  go_wp2_with (go_at_call 20; refine (HCK2.out _ hb2).mono ?_; rintro e w2 ⟨rfl, hb3⟩; have hbx2 : NetBox w2 (w.heap.size + 1 + 1) (.slice none 0 0) 0 (.slice none 0 0) := (hb3.block _ hz1).trans hbx1; obtain ⟨_, _, _, _, _, _⟩ := cells3f hbx2; have hz2 : w.heap.size + 1 + 1 < w2.heap.size := lt_of_block hbx2)
  have hb4 : Below w.heap.size w w2 := hb2.trans (hb3.mono (by omega))
  have hS := netBox_set (a := .slice none 0 0) (b := 0) (c := .slice none 0 0) hbx2
  have hB := ((hb4.setCell (p := ⟨w.heap.size + 1 + 1, 0, none⟩) (by simp; omega) (.slice none 0 0)).setCell (p := ⟨w.heap.size + 1 + 1, 1, none⟩) (by simp; omega) (.int .i64 0)).setCell (p := ⟨w.heap.size + 1 + 1, 2, none⟩) (by simp; omega) (.slice none 0 0)
  generalize ((w2.setCell ⟨w.heap.size + 1 + 1, 0, none⟩ (.slice none 0 0)).setCell ⟨w.heap.size + 1 + 1, 1, none⟩ (.int .i64 0)).setCell ⟨w.heap.size + 1 + 1, 2, none⟩ (.slice none 0 0) = S at *
  obtain ⟨d0, d1, d2, _, _, _⟩ := cells3f hS
  exact bodyPost_ret (v := .tuple #[.agg #[.slice none 0 0, .int .i64 0, .slice none 0 0], .int .i64 X]) (by simp [results, Try.results28, go_sem, d0, d1, d2]) rfl ⟨_, rfl, netZ_at _, hB⟩

set_option maxRecDepth 100000 in
set_option maxHeartbeats 8000000 in
theorem rjn_ok (a b : NetM) (a1 a2 b1 b2 : Option Addr) (c1 c2 d1 d2 : Nat) (he : ncheck a = 0) (he2 : ncheck b = 0) (w : World)
    (hpa : PsAt w (.slice a1 a.ps.length c1) a.ps) (hsa : SsAt w (.slice a2 a.ss.length c2) a.ss) (hpb : PsAt w (.slice b1 b.ps.length d1) b.ps) (hsb : SsAt w (.slice b2 b.ss.length d2) b.ss) :
    Calls Try.prog 28 #[.agg #[.slice a1 a.ps.length c1, .int .i64 a.inp, .slice a2 a.ss.length c2], .agg #[.slice b1 b.ps.length d1, .int .i64 b.inp, .slice b2 b.ss.length d2]] w (RenOut (joinE a b) (joinR a b) w) := by
  have hE : joinE a b = ncheck (joinN a b) := by rw [joinE, if_neg (by simpa using he)]; exact if_neg (by simpa using he2)
  have hR : joinR a b = if ncheck (joinN a b) = 0 then joinN a b else netZ := by rw [joinR, hE]
  rw [hE, hR]
  obtain ⟨NR, hNR⟩ : ∃ N, N = if ncheck (joinN a b) = 0 then joinN a b else netZ := ⟨_, rfl⟩
  rw [← hNR]
  have HNR := Lib.hid hNR
  clear hNR
  have oka := netOk_of he
  have okb := netOk_of he2
  have hck : ∀ w1, Below w.heap.size w w1 → Calls Try.prog 20 #[.agg #[.slice a1 a.ps.length c1, .int .i64 a.inp, .slice a2 a.ss.length c2]] w1 fun e w' => e = .returned (.int .i64 0) ∧ Below w1.heap.size w1 w' := fun w1 hb => by
    have := rncheck_any a a1 a2 c1 c2 w1 (hpa.below hb) (hsa.below hb)
    rwa [he] at this
  have hck2 : ∀ w1, Below w.heap.size w w1 → Calls Try.prog 20 #[.agg #[.slice b1 b.ps.length d1, .int .i64 b.inp, .slice b2 b.ss.length d2]] w1 fun e w' => e = .returned (.int .i64 0) ∧ Below w1.heap.size w1 w' := fun w1 hb => by
    have := rncheck_any b b1 b2 d1 d2 w1 (hpb.below hb) (hsb.below hb)
    rwa [he2] at this
  have p1 := oka.p1
  have p2 := okb.p1
  have q1 := oka.s1
  have q2 := okb.s1
  have i0 := oka.i0
  have i1 := oka.i1
  have j0 := okb.i0
  have j1 := okb.i1
  obtain ⟨k1, hk1⟩ : ∃ k, k = a.ps.length := ⟨_, rfl⟩
  obtain ⟨k2, hk2⟩ : ∃ k, k = b.ps.length := ⟨_, rfl⟩
  obtain ⟨m1, hm1⟩ : ∃ k, k = a.ss.length := ⟨_, rfl⟩
  obtain ⟨m2, hm2⟩ : ∃ k, k = b.ss.length := ⟨_, rfl⟩
  obtain ⟨ia, hia⟩ : ∃ k, k = a.inp := ⟨_, rfl⟩
  obtain ⟨ib, hib⟩ : ∃ k, k = b.inp := ⟨_, rfl⟩
  rw [← hk1, ← hm1, ← hia] at hck
  rw [← hk2, ← hm2, ← hib] at hck2
  rw [← hk1] at p1
  rw [← hk2] at p2
  rw [← hm1] at q1
  rw [← hm2] at q2
  rw [← hia] at i0 i1
  rw [← hib] at j0 j1
  rw [← hk1, ← hk2, ← hm1, ← hm2, ← hia, ← hib]
  rw [← hk1] at hpa
  rw [← hk2] at hpb
  rw [← hm1] at hsa
  rw [← hm2] at hsb
  have HPA := Lib.hid hpa
  have HPB := Lib.hid hpb
  have HSA := Lib.hid hsa
  have HSB := Lib.hid hsb
  have HCK := Lib.hid hck
  have HCK2 := Lib.hid hck2
  have OKB := Lib.hid okb
  have HK1 := Lib.hid hk1
  have HK2 := Lib.hid hk2
  have HM1 := Lib.hid hm1
  have HM2 := Lib.hid hm2
  have HIA := Lib.hid hia
  have HIB := Lib.hid hib
  have hsum : wrap64 (ia + ib) = ia + ib := by unfold wrap64; omega
  have hsum2 : (ia + ib + 9223372036854775808) % 18446744073709551616 - 9223372036854775808 = ia + ib := by omega
  have HSUM := Lib.hid hsum2
  clear hsum2
  clear hck hck2 hpa hsa hpb hsb hE hR he he2 oka okb hk1 hk2 hm1 hm2 hia hib
  go_enter Try.func28, Try.ntmps28
  go_upto_region 4 with (go_at_call 20; refine (HCK.out _ (below3 w _ _ _)).mono ?_; rintro e w1 ⟨rfl, hb1⟩)
  have hx2 : NetBox w1 (w.heap.size + 1 + 1) (.slice none 0 0) 0 (.slice none 0 0) := (hb1.block _ (by simp)).trans (blk3c _ _ _ _)
  have hxb : NetBox w1 (w.heap.size + 1) (.slice b1 k2 d1) ib (.slice b2 m2 d2) := (hb1.block _ (by simp <;> omega)).trans (blk3b _ _ _ _)
  have hxa : NetBox w1 w.heap.size (.slice a1 k1 c1) ia (.slice a2 m1 c2) := (hb1.block _ (by simp <;> omega)).trans (blk3a _ _ _ _)
  have hz1 : w.heap.size + 1 + 1 < w1.heap.size := lt_of_block hx2
  have hb2 : Below w.heap.size w w1 := (below3 w _ _ _).trans (hb1.mono (by simp; omega))
  obtain ⟨_, _, _, _, _, _⟩ := cells3f hxb
  clear hb1
  go_upto_region 7 with (go_at_call 20; refine (HCK2.out _ hb2).mono ?_; rintro e w2 ⟨rfl, hb3⟩)
  have hy2 : NetBox w2 (w.heap.size + 1 + 1) (.slice none 0 0) 0 (.slice none 0 0) := (hb3.block _ hz1).trans hx2
  have hyb : NetBox w2 (w.heap.size + 1) (.slice b1 k2 d1) ib (.slice b2 m2 d2) := (hb3.block _ (by omega)).trans hxb
  have hya : NetBox w2 w.heap.size (.slice a1 k1 c1) ia (.slice a2 m1 c2) := (hb3.block _ (by omega)).trans hxa
  have hz2 : w.heap.size + 1 + 1 < w2.heap.size := lt_of_block hy2
  have hb4 : Below w.heap.size w w2 := hb2.trans (hb3.mono (by omega))
  have hb6 : Below w.heap.size w (w2.alloc (.cells #[.slice none 0 0, .int .i64 (ia + ib), .slice none 0 0] 25)) := hb4.alloc (by omega) _
  obtain ⟨_, _, _, _, _, _⟩ := cells3f hya
  obtain ⟨_, _, _, _, _, _⟩ := cells3f hyb
  go_upto_region 8 with (fail)
  have hx7 : NetBox (w2.alloc (.cells #[.slice none 0 0, .int .i64 (ia + ib), .slice none 0 0] 25)) w2.heap.size (.slice none 0 0) (ia + ib) (.slice none 0 0) := alloc_new_at _ _ _ rfl
  have hv2 : NetBox (w2.alloc (.cells #[.slice none 0 0, .int .i64 (ia + ib), .slice none 0 0] 25)) (w.heap.size + 1 + 1) (.slice none 0 0) 0 (.slice none 0 0) := (Below.heap_alloc _ _ _ hz2).trans hy2
  have hvb : NetBox (w2.alloc (.cells #[.slice none 0 0, .int .i64 (ia + ib), .slice none 0 0] 25)) (w.heap.size + 1) (.slice b1 k2 d1) ib (.slice b2 m2 d2) := (Below.heap_alloc _ _ _ (by omega)).trans hyb
  have hva : NetBox (w2.alloc (.cells #[.slice none 0 0, .int .i64 (ia + ib), .slice none 0 0] 25)) w.heap.size (.slice a1 k1 c1) ia (.slice a2 m1 c2) := (Below.heap_alloc _ _ _ (by omega)).trans hya
  generalize w2.alloc (.cells #[.slice none 0 0, .int .i64 (ia + ib), .slice none 0 0] 25) = W0 at *
  generalize w2.heap.size = gN at *
  have hlN : gN < W0.heap.size := lt_of_block hx7
  have HPA0 := HPA
  generalize hB0 : w.heap.size = B at *
  have HB0 := Lib.hid hB0
  have hb8 : Below w.heap.size w W0 := by rw [hB0]; exact hb6
  have HB4 := Lib.hid hb8
  have HV2 := Lib.hid hv2
  have HVB := Lib.hid hvb
  have HVA := Lib.hid hva
  have HX7 := Lib.hid hx7
  have hpl : a.ps.length ≤ 100000 ∧ b.ps.length ≤ 100000 := by rw [← HK1.out, ← HK2.out]; omega
  have HK := Lib.hid (show k1 = a.ps.length ∧ k2 = b.ps.length from ⟨HK1.out, HK2.out⟩)
  clear hb2 hb3 hb4 hb6 hb8 hx2 hxb hxa hy2 hyb hya hz1 hv2 hvb hva hx7 HCK HCK2 HPA0
  refine wp_region_ghost (JqR W0 W0.heap.size gN (ia + ib) a.ps b.ps (joinQ B gN (.slice a1 k1 c1) (.slice b1 k2 d1))) (by kernel_rfl) (by kernel_rfl) (by kernel_rfl) (by kernel_rfl) (JqR.init rfl hlN HX7.out) ?stp ?dn
  case dn =>
    intro val W b' hI hh hbs
    have hb := has_all (by kernel_rfl) hh hbs
    have o6 := hI.o6 (by simp)
    have hx := hI.box1 (by simp)
    have f6 : ∃ a5 c5, val 6 = .slice a5 (k1 + k2) c5 := by
      have e : (a.ps ++ b.ps).length = k1 + k2 := by rw [List.length_append, HK1.out, HK2.out]
      rw [e] at o6
      rcases ownsRow_forms o6 with ⟨e1, e2⟩ | ⟨g, c, e1⟩
      · exact ⟨none, 0, by rw [e1, e2]⟩
      · exact ⟨_, _, e1⟩
    obtain ⟨a5, c5, x6⟩ := f6
    rw [x6] at o6 hx
    have kn : ∀ j, j < 8 → j ≠ 0 → j ≠ 3 → j ≠ 6 → val j = joinQ B gN (.slice a1 k1 c1) (.slice b1 k2 d1) j := fun j h1 h2 h3 h4 => hI.known j h1 h2 h3 h4 (repl_true (by show j < 9; omega))
    have w8 : ∀ a : Act, a.put none (val 8) = a := fun a => rfl
    obtain ⟨v0, hv0⟩ : ∃ v, v = val 0 := ⟨_, rfl⟩
    obtain ⟨v3, hv3⟩ : ∃ v, v = val 3 := ⟨_, rfl⟩
    simp only [puts, x6, w8, ← hv0, ← hv3, kn 1 (by decide) (by decide) (by decide) (by decide), kn 2 (by decide) (by decide) (by decide) (by decide), kn 4 (by decide) (by decide) (by decide) (by decide), kn 5 (by decide) (by decide) (by decide) (by decide), kn 7 (by decide) (by decide) (by decide) (by decide), joinQ] at hb
    have hva := (hI.oth B (by omega) (by omega)).trans HVA.out
    have hvb := (hI.oth (B + 1) (by omega) (by omega)).trans HVB.out
    have hv2 := (hI.oth (B + 1 + 1) (by omega) (by omega)).trans HV2.out
    have hbW : Below B w W := by rw [← HB0.out] at *; exact HB4.out.trans (hI.bel.mono (by omega))
    have hzW : W0.heap.size ≤ W.heap.size := hI.bel.size
    have HO6 := Lib.hid o6
    have HX := Lib.hid hx
    have HA := Lib.hid hva
    have HBb := Lib.hid hvb
    have HC2 := Lib.hid hv2
    have HBW := Lib.hid hbW
    clear hI hh hbs o6 hx x6 kn w8 hv0 hv3 hva hvb hv2 hbW HV2 HVB HVA HX7
    subst hb
    simp only [Act.put, List.setIfInBounds_toArray, List.set_cons_succ, List.set_cons_zero]
    obtain ⟨_, _, _, _, _, _⟩ := cells3f HA.out
    obtain ⟨_, _, _, _, _, _⟩ := cells3f HX.out
    have hsaW : SsAt W (.slice a2 m1 c2) a.ss := HSA.out.below (by rw [HB0.out]; exact HBW.out)
    have hown : (W.alloc (.cells #[] 96)).ownsRow W.heap.size 96 4 (.slice (some ⟨W.heap.size, 0, none⟩) 0 0) 0 (synCs []) :=
      ⟨rfl, .inr ⟨W.heap.size, 0, #[], rfl, Nat.le_refl _, alloc_new_at _ _ _ rfl, Nat.le_refl _, by unfold maxLen; omega, rfl, rfl⟩⟩
    have HSW := Lib.hid hsaW
    have HOW := Lib.hid hown
    have hlB : B + 1 + 1 < W.heap.size := by omega
    have hlA : B < W.heap.size := by omega
    have hlNW : gN < W.heap.size := by omega
    clear hsaW hown
    go_wp2_with (at_builtin; go_must (refine appS (w := W) rfl _ _ rfl _ 0 [] a.ss rfl HOW.out (by omega) ((Below.refl _ _).alloc (Nat.le_refl _) _) _ _ _ rfl HM1.out HSW.out (by omega) ?_); intro v' W9 hn9 hb9 hg9; obtain ⟨av, nv, cv, rfl⟩ := own_slice hn9; have HN9 := Lib.hid hn9; have HB9 := Lib.hid hb9; have hx9 := (HB9.out.block gN (by omega)).trans HX.out; have hz9 := HB9.out.size; obtain ⟨_, _, _, _, _, _⟩ := cells3f hx9; clear hn9 hb9 hg9)
    have hM0 : MidK w B W.heap.size gN ia ib (ia + ib) (.slice a5 (k1 + k2) c5) (.slice av nv cv) (.slice a1 k1 c1) (.slice a2 m1 c2) (.slice b1 k2 d1) (.slice b2 m2 d2) (a.ps ++ b.ps) (a.ss ++ (b.ss.take 0).map (shS k1 ia)) (W9.setCell ⟨gN, 2, none⟩ (.slice av nv cv)) := by
      have e : ∀ b, b ≠ gN → (W9.setCell ⟨gN, 2, none⟩ (.slice av nv cv)).heap[b]? = W9.heap[b]? := fun b hb => by simp [World.setCell, Array.getElem?_modify, Ne.symm hb]
      have hx' : NetBox (W9.setCell ⟨gN, 2, none⟩ (.slice av nv cv)) gN (.slice a5 (k1 + k2) c5) (ia + ib) (.slice av nv cv) := netBox_set2 hx9
      have hs9 : (W9.setCell ⟨gN, 2, none⟩ (.slice av nv cv)).heap.size = W9.heap.size := by simp
      have hbel : Below B w (W9.setCell ⟨gN, 2, none⟩ (.slice av nv cv)) := (HBW.out.trans (HB9.out.mono (by omega))).setCell (p := ⟨gN, 2, none⟩) (by show B ≤ gN; omega) _
      generalize W9.setCell ⟨gN, 2, none⟩ (.slice av nv cv) = S9 at *
      have hrow : ∀ g, (Value.slice a5 (k1 + k2) c5).ownBlock = some g → W0.heap.size ≤ g ∧ g < W.heap.size := fun g hg => HO6.out.lt g hg
      refine ⟨ownsRow_base (ownsRow_of_block HO6.out fun g hg => (e g (by have := hrow g hg; omega)).trans (HB9.out.block g (hrow g hg).2)) (by omega), ?_, hx', ((e B (by omega)).trans (HB9.out.block B (by omega))).trans HA.out, ((e (B + 1) (by omega)).trans (HB9.out.block (B + 1) (by omega))).trans HBb.out, ((e (B + 1 + 1) (by omega)).trans (HB9.out.block (B + 1 + 1) (by omega))).trans HC2.out, hbel, fun g hg => by have := hrow g hg; omega, by omega, by omega, by omega⟩
      have h1 := ownsRow_of_block (A' := S9) HN9.out fun g hg => e g (by have := (HN9.out.lt g hg).1; omega)
      simp only [List.take_zero, List.map_nil, List.append_nil, List.nil_append, Nat.zero_add] at h1 ⊢
      rw [HM1.out] at h1
      exact h1
    have HM0 := Lib.hid hM0
    clear hM0 hx9 HN9 HB9 HX HA HBb HC2 HBW HO6 HSW HOW hz9
    generalize W.heap.size = H at *
    obtain ⟨i0, hi, hz0, hzz1, hzz2⟩ := info_parts info96
    go_wp2
    go_loopw [8] (fun i wr => ∃ t : Nat, t ≤ m2 ∧ i = .int .i64 t ∧ ∃ v, MidK w B H gN ia ib (ia + ib) (.slice a5 (k1 + k2) c5) v (.slice a1 k1 c1) (.slice a2 m1 c2) (.slice b1 k2 d1) (.slice b2 m2 d2) (a.ps ++ b.ps) (a.ss ++ (b.ss.take t).map (shS k1 ia)) wr) (fun i _ => m2 - (intOf i).toNat)
    case atStart => exact ⟨0, Nat.zero_le _, rfl, _, HM0.out⟩
    case round =>
      obtain ⟨t, ht, rfl, v, hM⟩ := hrel
      have HMM := Lib.hid hM
      have hHz := hM.hz
      have hbw : Below w.heap.size w wr := by rw [HB0.out]; exact hM.bel
      have HBW := Lib.hid hbw
      obtain ⟨_, _, _, _, _, _⟩ := cells3f hM.boxb
      obtain ⟨_, _, _, _, _, _⟩ := cells3f hM.boxa
      have hva := hM.boxa
      have hlN2 : gN < wr.heap.size := lt_of_block hM.box
      have hlB2 : B + 1 + 1 < wr.heap.size := lt_of_block hM.box2
      have hlA2 : B < wr.heap.size := lt_of_block hM.boxa
      have hlA3 : B + 1 < wr.heap.size := lt_of_block hM.boxb
      clear hM hbw
      by_cases hlt : t < m2
      · obtain ⟨s, hs⟩ : ∃ s, b.ss[t]? = some s := ⟨_, List.getElem?_eq_getElem (by rw [← HM2.out]; exact hlt)⟩
        have hso := OKB.out.ss s (List.mem_of_getElem? hs)
        have hms : a.ss ++ (b.ss.take (t + 1)).map (shS k1 ia) = (a.ss ++ (b.ss.take t).map (shS k1 ia)) ++ [shS k1 ia s] := by rw [List.take_add_one, hs]; simp
        obtain ⟨bb, off, rfl, hbl, hc⟩ := (HSB.out.below HBW.out).at hs
        obtain ⟨F, T, WT, DL⟩ := s
        obtain ⟨u0, u1, u2, u3⟩ := hc
        simp only at u0 u1 u2 u3
        simp [synOk, srcOk, inR] at hso
        rw [← HK2.out, ← HIB.out] at hso
        have wT : wrap64 (T + (k1 : Int)) = T + (k1 : Int) := by unfold wrap64; omega
        have hi0 : (0 : Int) ≤ (t : Int) := Int.natCast_nonneg _
        have hi1 : (t : Int) < (m2 : Int) := by omega
        have hlen : (a.ss ++ (b.ss.take t).map (shS k1 ia)).length = m1 + t := by
          have := HM2.out
          simp [← HM1.out]; omega
        have HMS := Lib.hid hms
        have HLEN := Lib.hid hlen
        clear hms hs hlen
        have hpb : (wr.alloc (.cells #[.int .i64 F, .int .i64 T, .int .i64 WT, .int .i64 DL] 96)).heap[wr.heap.size]? = some (.cells #[.int .i64 F, .int .i64 T, .int .i64 WT, .int .i64 DL] 96) := alloc_new_at _ _ _ rfl
        by_cases hF : F < 0
        · have zF : (F < 0) = True := by simp [hF]
          have wF : wrap64 (F - ia) = F - ia := by unfold wrap64; omega
          have hst : (a.ss ++ (b.ss.take t).map (shS k1 ia)) ++ [⟨F - ia, T + (k1 : Int), WT, DL⟩] = a.ss ++ (b.ss.take (t + 1)).map (shS k1 ia) := by
            rw [HMS.out]; simp [shS, hF]
          have HST := Lib.hid hst
          clear hst hso hF
          go_upto_region 14 with (fail)
          obtain ⟨_, _, _, _, _, _⟩ := cells4f hpb
          go_upto_region 18 with (fail)
          rw [wT, wF]
          have hX0 : (wr.alloc (.cells #[.int .i64 (F - ia), .int .i64 (T + (k1 : Int)), .int .i64 WT, .int .i64 DL] 96)).heap[wr.heap.size]? = some (.cells #[.int .i64 (F - ia), .int .i64 (T + (k1 : Int)), .int .i64 WT, .int .i64 DL] 96) := alloc_new_at _ _ _ rfl
          have hXb : Below wr.heap.size wr (wr.alloc (.cells #[.int .i64 (F - ia), .int .i64 (T + (k1 : Int)), .int .i64 WT, .int .i64 DL] 96)) := (Below.refl _ _).alloc (Nat.le_refl _) _
          clear hpb
          generalize wr.alloc (.cells #[.int .i64 (F - ia), .int .i64 (T + (k1 : Int)), .int .i64 WT, .int .i64 DL] 96) = X at *
          have hMX := HMM.out.keep hXb
          obtain ⟨_, _, _, _, _, _⟩ := cells4f hX0
          obtain ⟨_, _, _, _, _, _⟩ := cells3f hMX.box
          have hzX : wr.heap.size < X.heap.size := lt_of_block hX0
          have huN := hMX.upN
          have HSY := Lib.hid hMX.syn
          have HMX := Lib.hid hMX
          clear hMX hX0 hXb
          have HNEW := Lib.hid (show (X.alloc (.cells #[.int .i64 (F - ia), .int .i64 (T + (k1 : Int)), .int .i64 WT, .int .i64 DL] 96)).heap[X.heap.size]? = some (.cells ⟨synV ⟨F - ia, T + (k1 : Int), WT, DL⟩⟩ 96) from alloc_new_at _ _ _ rfl)
          go_wp2_with (at_builtin; go_must (refine wpList_append_own _ rfl _ _ 23 rfl H 96 i0 _ 4 32 Try.underlying23 hi hz0 hzz1 hzz2 rfl (by decide) v _ _ rfl (HSY.out.alloc _) ⟨X.heap.size, 0, none⟩ 1 1 (synV ⟨F - ia, T + (k1 : Int), WT, DL⟩) rfl rfl (cells_new HNEW.out) (by simp [synV, Value.oneCell']) (by have := HLEN.out; unfold maxLen; omega) (by have := HLEN.out; omega) (by simp; omega) ?_); intro v' w7 hown' hgrow _; obtain ⟨av, nv, cv, rfl⟩ := own_slice hown'; have HO7 := Lib.hid hown'; have HG := Lib.hid hgrow; clear hown' hgrow; have hb7 : NetBox w7 gN (.slice a5 (k1 + k2) c5) (ia + ib) v := (HG.out.block gN (by rw [World.size_alloc]; omega) (fun e => by have := (HSY.out.lt gN e.symm).1; omega)).trans ((Below.heap_alloc _ _ _ (by omega)).trans HMX.out.box); obtain ⟨_, _, _, _, _, _⟩ := cells3f hb7)
          have hG := HG.out
          have hsz := hG.size
          rw [World.size_alloc] at hsz
          have old : ∀ g, g < H → w7.heap[g]? = X.heap[g]? := fun g h => by
            rw [hG.block g (by rw [World.size_alloc]; omega) (fun e => by have := (HSY.out.lt g e.symm).1; omega), Below.heap_alloc _ _ _ (by omega)]
          go_roundw
          case rel =>
            refine ⟨t + 1, by omega, by go_num, .slice av nv cv, ?_⟩
            rw [← HST.out]
            exact HMX.out.app HO7.out old hG.os hG.tape hG.output (by omega)
          case measure => simp [intOf]; omega
        · have zF : (F < 0) = False := by simp; omega
          have wF : wrap64 (F + (k1 : Int)) = F + (k1 : Int) := by unfold wrap64; omega
          have hst : (a.ss ++ (b.ss.take t).map (shS k1 ia)) ++ [⟨F + (k1 : Int), T + (k1 : Int), WT, DL⟩] = a.ss ++ (b.ss.take (t + 1)).map (shS k1 ia) := by
            rw [HMS.out]; simp [shS, hF]
          have HST := Lib.hid hst
          clear hst hso hF
          go_upto_region 14 with (fail)
          obtain ⟨_, _, _, _, _, _⟩ := cells4f hpb
          go_upto_region 18 with (fail)
          rw [wT, wF]
          have hX0 : (wr.alloc (.cells #[.int .i64 (F + (k1 : Int)), .int .i64 (T + (k1 : Int)), .int .i64 WT, .int .i64 DL] 96)).heap[wr.heap.size]? = some (.cells #[.int .i64 (F + (k1 : Int)), .int .i64 (T + (k1 : Int)), .int .i64 WT, .int .i64 DL] 96) := alloc_new_at _ _ _ rfl
          have hXb : Below wr.heap.size wr (wr.alloc (.cells #[.int .i64 (F + (k1 : Int)), .int .i64 (T + (k1 : Int)), .int .i64 WT, .int .i64 DL] 96)) := (Below.refl _ _).alloc (Nat.le_refl _) _
          clear hpb
          generalize wr.alloc (.cells #[.int .i64 (F + (k1 : Int)), .int .i64 (T + (k1 : Int)), .int .i64 WT, .int .i64 DL] 96) = X at *
          have hMX := HMM.out.keep hXb
          obtain ⟨_, _, _, _, _, _⟩ := cells4f hX0
          obtain ⟨_, _, _, _, _, _⟩ := cells3f hMX.box
          have hzX : wr.heap.size < X.heap.size := lt_of_block hX0
          have huN := hMX.upN
          have HSY := Lib.hid hMX.syn
          have HMX := Lib.hid hMX
          clear hMX hX0 hXb
          have HNEW := Lib.hid (show (X.alloc (.cells #[.int .i64 (F + (k1 : Int)), .int .i64 (T + (k1 : Int)), .int .i64 WT, .int .i64 DL] 96)).heap[X.heap.size]? = some (.cells ⟨synV ⟨F + (k1 : Int), T + (k1 : Int), WT, DL⟩⟩ 96) from alloc_new_at _ _ _ rfl)
          go_wp2_with (at_builtin; go_must (refine wpList_append_own _ rfl _ _ 23 rfl H 96 i0 _ 4 32 Try.underlying23 hi hz0 hzz1 hzz2 rfl (by decide) v _ _ rfl (HSY.out.alloc _) ⟨X.heap.size, 0, none⟩ 1 1 (synV ⟨F + (k1 : Int), T + (k1 : Int), WT, DL⟩) rfl rfl (cells_new HNEW.out) (by simp [synV, Value.oneCell']) (by have := HLEN.out; unfold maxLen; omega) (by have := HLEN.out; omega) (by simp; omega) ?_); intro v' w7 hown' hgrow _; obtain ⟨av, nv, cv, rfl⟩ := own_slice hown'; have HO7 := Lib.hid hown'; have HG := Lib.hid hgrow; clear hown' hgrow; have hb7 : NetBox w7 gN (.slice a5 (k1 + k2) c5) (ia + ib) v := (HG.out.block gN (by rw [World.size_alloc]; omega) (fun e => by have := (HSY.out.lt gN e.symm).1; omega)).trans ((Below.heap_alloc _ _ _ (by omega)).trans HMX.out.box); obtain ⟨_, _, _, _, _, _⟩ := cells3f hb7)
          have hG := HG.out
          have hsz := hG.size
          rw [World.size_alloc] at hsz
          have old : ∀ g, g < H → w7.heap[g]? = X.heap[g]? := fun g h => by
            rw [hG.block g (by rw [World.size_alloc]; omega) (fun e => by have := (HSY.out.lt g e.symm).1; omega), Below.heap_alloc _ _ _ (by omega)]
          go_roundw
          case rel =>
            refine ⟨t + 1, by omega, by go_num, .slice av nv cv, ?_⟩
            rw [← HST.out]
            exact HMX.out.app HO7.out old hG.os hG.tape hG.output (by omega)
          case measure => simp [intOf]; omega
      · obtain rfl : m2 = t := by omega
        clear hlt ht
        obtain ⟨_, _, _, _, _, _⟩ := cells3f HMM.out.box
        have f16 : ∃ a16 c16, v = .slice a16 (m1 + m2) c16 := by
          have o16 := HMM.out.syn
          have e : (a.ss ++ (b.ss.take m2).map (shS k1 ia)).length = m1 + m2 := by rw [List.length_append, List.length_map, List.length_take, ← HM1.out, ← HM2.out, Nat.min_self]
          rw [e] at o16
          rcases ownsRow_forms o16 with ⟨e1, e2⟩ | ⟨g, c, e1⟩
          · exact ⟨none, 0, by rw [e1, e2]⟩
          · exact ⟨_, _, e1⟩
        obtain ⟨a16, c16, rfl⟩ := f16
        have hss : a.ss ++ (b.ss.take m2).map (shS k1 ia) = (joinN a b).ss := by rw [HM2.out, List.take_length, joinN, ← HK1.out, ← HIA.out]
        have hpW : PsAt wr (.slice a5 (k1 + k2) c5) (joinN a b).ps := psAt_of_owns HMM.out.row
        have hsW : SsAt wr (.slice a16 (m1 + m2) c16) (joinN a b).ss := by
          have := ssAt_of_owns HMM.out.syn
          rwa [hss] at this
        have l1 : k1 + k2 = (joinN a b).ps.length := by rw [joinN, List.length_append, ← HK1.out, ← HK2.out]
        have l2 : m1 + m2 = (joinN a b).ss.length := by rw [joinN, List.length_append, List.length_map, ← HM1.out, ← HM2.out]
        have l3 : ia + ib = (joinN a b).inp := by rw [joinN, ← HIA.out, ← HIB.out]
        have hck3 : Calls Try.prog 20 #[.agg #[.slice a5 (k1 + k2) c5, .int .i64 (ia + ib), .slice a16 (m1 + m2) c16]] wr fun e w' => e = .returned (.int .i64 (ncheck (joinN a b))) ∧ Below wr.heap.size wr w' := by
          rw [l1, l2, l3]
          rw [l1] at hpW
          rw [l2] at hsW
          exact rncheck_any (joinN a b) a5 a16 c5 c16 wr hpW hsW
        have HCK3 := Lib.hid hck3
        have HPW := Lib.hid hpW
        have HSW := Lib.hid hsW
        have L1 := Lib.hid l1
        have L2 := Lib.hid l2
        have L3 := Lib.hid l3
        clear hck3 hpW hsW l1 l2 l3
        by_cases hX : ncheck (joinN a b) = 0
        · have hNR := HNR.out
          rw [if_pos hX] at hNR
          subst hNR
          clear HNR
          rw [hX] at HCK3 ⊢
          go_wp2_with (go_at_call 20; go_must (refine HCK3.out.mono ?_); go_must (rintro e w5 ⟨rfl, hb5⟩); have hv2 : NetBox w5 (B + 1 + 1) (.slice none 0 0) 0 (.slice none 0 0) := (hb5.block _ hlB2).trans HMM.out.box2; have hvN : NetBox w5 gN (.slice a5 (k1 + k2) c5) (ia + ib) (.slice a16 (m1 + m2) c16) := (hb5.block _ hlN2).trans HMM.out.box; obtain ⟨_, _, _, _, _, _⟩ := cells3f hv2; obtain ⟨_, _, _, _, _, _⟩ := cells3f hvN; have hz5 : B + 1 + 1 < w5.heap.size := lt_of_block hv2; have hz6 : gN < w5.heap.size := lt_of_block hvN)
          have hB5 : Below B w w5 := HMM.out.bel.trans (hb5.mono (by omega))
          have hS := netBox_set (a := .slice a5 (k1 + k2) c5) (b := ia + ib) (c := .slice a16 (m1 + m2) c16) hv2
          have hB := ((hB5.setCell (p := ⟨B + 1 + 1, 0, none⟩) (by simp; omega) (.slice a5 (k1 + k2) c5)).setCell (p := ⟨B + 1 + 1, 1, none⟩) (by simp; omega) (.int .i64 (ia + ib))).setCell (p := ⟨B + 1 + 1, 2, none⟩) (by simp; omega) (.slice a16 (m1 + m2) c16)
          have e : ∀ g, gN ≤ g → g < wr.heap.size → (((w5.setCell ⟨B + 1 + 1, 0, none⟩ (.slice a5 (k1 + k2) c5)).setCell ⟨B + 1 + 1, 1, none⟩ (.int .i64 (ia + ib))).setCell ⟨B + 1 + 1, 2, none⟩ (.slice a16 (m1 + m2) c16)).heap[g]? = wr.heap[g]? := fun g h1 h2 => by
            rw [← hb5.block g h2]
            have : B + 1 + 1 ≠ g := by have := HMM.out.loN; omega
            simp [World.setCell, Array.getElem?_modify, this]
          generalize ((w5.setCell ⟨B + 1 + 1, 0, none⟩ (.slice a5 (k1 + k2) c5)).setCell ⟨B + 1 + 1, 1, none⟩ (.int .i64 (ia + ib))).setCell ⟨B + 1 + 1, 2, none⟩ (.slice a16 (m1 + m2) c16) = S at *
          obtain ⟨d0, d1', d2', _, _, _⟩ := cells3f hS
          have hN : NetAt S (.agg #[.slice a5 (k1 + k2) c5, .int .i64 (ia + ib), .slice a16 (m1 + m2) c16]) (joinN a b) := by
            have hr := ownsRow_of_block (A' := S) HMM.out.row fun g hg => e g (HMM.out.row.lt g hg).1 (HMM.out.row.lt g hg).2
            have hr2 := ownsRow_of_block (A' := S) HMM.out.syn fun g hg => e g (by have := (HMM.out.syn.lt g hg).1; have := HMM.out.upN; omega) (HMM.out.syn.lt g hg).2
            have h1 := psAt_of_owns hr
            have h2' := ssAt_of_owns hr2
            rw [hss] at h2'
            refine ⟨a5, c5, a16, c16, by rw [← L1.out, ← L2.out, ← L3.out], ?_, ?_⟩
            · rw [← L1.out]; exact h1
            · rw [← L2.out]; exact h2'
          exact bodyPost_ret (v := .tuple #[.agg #[.slice a5 (k1 + k2) c5, .int .i64 (ia + ib), .slice a16 (m1 + m2) c16], .int .i64 0]) (by simp [results, Try.results28, go_sem, d0, d1', d2']) rfl ⟨_, by rw [hX], hN, by rw [HB0.out]; exact hB⟩
        · have hNR := HNR.out
          rw [if_neg hX] at hNR
          subst hNR
          clear HNR
          have hne : (ncheck (joinN a b) != 0) = true := by simp [hX]
          generalize ncheck (joinN a b) = X at *
          go_wp2_with (go_at_call 20; go_must (refine HCK3.out.mono ?_); go_must (rintro e w5 ⟨rfl, hb5⟩); have hv2 : NetBox w5 (B + 1 + 1) (.slice none 0 0) 0 (.slice none 0 0) := (hb5.block _ hlB2).trans HMM.out.box2; obtain ⟨_, _, _, _, _, _⟩ := cells3f hv2; have hz5 : B + 1 + 1 < w5.heap.size := lt_of_block hv2)
          have hB5 : Below B w w5 := HMM.out.bel.trans (hb5.mono (by omega))
          have hS := netBox_set (a := .slice none 0 0) (b := 0) (c := .slice none 0 0) hv2
          have hB := ((hB5.setCell (p := ⟨B + 1 + 1, 0, none⟩) (by simp; omega) (.slice none 0 0)).setCell (p := ⟨B + 1 + 1, 1, none⟩) (by simp; omega) (.int .i64 0)).setCell (p := ⟨B + 1 + 1, 2, none⟩) (by simp; omega) (.slice none 0 0)
          generalize ((w5.setCell ⟨B + 1 + 1, 0, none⟩ (.slice none 0 0)).setCell ⟨B + 1 + 1, 1, none⟩ (.int .i64 0)).setCell ⟨B + 1 + 1, 2, none⟩ (.slice none 0 0) = S at *
          obtain ⟨d0, d1', d2', _, _, _⟩ := cells3f hS
          exact bodyPost_ret (v := .tuple #[.agg #[.slice none 0 0, .int .i64 0, .slice none 0 0], .int .i64 X]) (by simp [results, Try.results28, go_sem, d0, d1', d2']) rfl ⟨_, rfl, netZ_at _, by rw [HB0.out]; exact hB⟩
  case stp =>
    intro L val W i' o b' hs ho hlF hdd hI hh
    have hi' := (List.getElem?_eq_some_iff.1 ho).1
    have hcs : i' = 0 ∨ i' = 1 ∨ i' = 2 ∨ i' = 3 ∨ i' = 4 ∨ i' = 5 ∨ i' = 6 ∨ i' = 7 ∨ i' = 8 := by simp at hi'; omega
    have hLs : 8 < L.size := by simp at hs; omega
    have hcw : ∀ b o, b < W0.heap.size → b ≠ gN → W.cell? ⟨b, o, none⟩ = W0.cell? ⟨b, o, none⟩ := fun b o hb hn => World.cell?_of_block (hI.oth b hb hn)
    obtain ⟨p0, p1', p2'⟩ := cells3 HVA.out
    obtain ⟨r0, r1, r2⟩ := cells3 HVB.out
    rw [← hcw _ _ (by omega) (by omega)] at p0 p1' p2' r0 r1 r2
    have HI := Lib.hid hI
    have HLF := Lib.hid hlF
    have HD := Lib.hid hdd
    clear hi' hs hI hlF hdd hcw
    rcases hcs with rfl | rfl | rfl | rfl | rfl | rfl | rfl | rfl | rfl
    · simp only [List.getElem?_cons_zero, Option.some.injEq] at ho
      subst ho
      go_simp
      exact ⟨_, rfl, HI.out.mk0 (by omega) HLF.out⟩
    · simp only [List.getElem?_cons_zero, List.getElem?_cons_succ, Option.some.injEq] at ho
      subst ho
      have k2 := hh.kept 2 (by simp)
      simp at k2
      go_simp
      exact ⟨_, rfl, HI.out.skip 1 (by omega) (by omega) _ HLF.out (by omega) (by omega) (by omega) rfl⟩
    · simp only [List.getElem?_cons_zero, List.getElem?_cons_succ, Option.some.injEq] at ho
      subst ho
      have l1 : L.getD 1 false = true := HD.out ⟨1, .data⟩ (by simp) rfl
      have g1 := hh.got 1 _ 29 rfl rfl l1 (by simp)
      rw [HI.out.known 1 (by omega) (by omega) (by omega) (by omega) l1] at g1
      simp [joinQ] at g1
      clear l1
      go_simp
      exact ⟨_, rfl, HI.out.skip 2 (by omega) (by omega) _ HLF.out (by omega) (by omega) (by omega) rfl⟩
    · simp only [List.getElem?_cons_zero, List.getElem?_cons_succ, Option.some.injEq] at ho
      subst ho
      have l0 : L.getD 0 false = true := HD.out ⟨0, .data⟩ (by simp) rfl
      have g0 := hh.got 0 _ 28 rfl rfl l0 (by simp)
      have l2 : L.getD 2 false = true := HD.out ⟨2, .data⟩ (by simp) rfl
      have g2 := hh.got 2 _ 30 rfl rfl l2 (by simp)
      have e0 : b'.eval (.tmp 28) = val 0 := hh.got 0 _ 28 rfl rfl l0 (by simp)
      have e2 : b'.eval (.tmp 30) = .slice a1 k1 c1 := (hh.got 2 _ 30 rfl rfl l2 (by simp)).trans (HI.out.known 2 (by omega) (by omega) (by omega) (by omega) l2)
      obtain ⟨v', w', hr, hw'⟩ := HI.out.app3 (by omega) HLF.out l0 hpl.1 HK.out.1 ((HPA.out).below (HB4.out.trans (HI.out.bel.mono (by omega)))) 22
      unfold Oper.wp execOp
      simp only [resolve, invoke, builtin, Sem.run_bind, Sem.run_pure, Result.andThen_ok, List.map_toArray, List.map_cons, List.map_nil, e0, e2, hr]
      exact ⟨_, rfl, hw'⟩
    · simp only [List.getElem?_cons_zero, List.getElem?_cons_succ, Option.some.injEq] at ho
      subst ho
      have k3 := hh.kept 3 (by simp)
      simp at k3
      go_simp
      exact ⟨_, rfl, HI.out.skip 4 (by omega) (by omega) _ HLF.out (by omega) (by omega) (by omega) rfl⟩
    · simp only [List.getElem?_cons_zero, List.getElem?_cons_succ, Option.some.injEq] at ho
      subst ho
      have l4 : L.getD 4 false = true := HD.out ⟨4, .data⟩ (by simp) rfl
      have g4 := hh.got 4 _ 32 rfl rfl l4 (by simp)
      rw [HI.out.known 4 (by omega) (by omega) (by omega) (by omega) l4] at g4
      simp [joinQ] at g4
      clear l4
      go_simp
      exact ⟨_, rfl, HI.out.skip 5 (by omega) (by omega) _ HLF.out (by omega) (by omega) (by omega) rfl⟩
    · simp only [List.getElem?_cons_zero, List.getElem?_cons_succ, Option.some.injEq] at ho
      subst ho
      have l3 : L.getD 3 false = true := HD.out ⟨3, .data⟩ (by simp) rfl
      have g3 := hh.got 3 _ 31 rfl rfl l3 (by simp)
      have l5 : L.getD 5 false = true := HD.out ⟨5, .data⟩ (by simp) rfl
      have g5 := hh.got 5 _ 33 rfl rfl l5 (by simp)
      have e3 : b'.eval (.tmp 31) = val 3 := hh.got 3 _ 31 rfl rfl l3 (by simp)
      have e5 : b'.eval (.tmp 33) = .slice b1 k2 d1 := (hh.got 5 _ 33 rfl rfl l5 (by simp)).trans (HI.out.known 5 (by omega) (by omega) (by omega) (by omega) l5)
      obtain ⟨v', w', hr, hw'⟩ := HI.out.app6 (by omega) HLF.out l3 hpl.1 hpl.2 HK.out.2 ((HPB.out).below (HB4.out.trans (HI.out.bel.mono (by omega)))) 22
      unfold Oper.wp execOp
      simp only [resolve, invoke, builtin, Sem.run_bind, Sem.run_pure, Result.andThen_ok, List.map_toArray, List.map_cons, List.map_nil, e3, e5, hr]
      exact ⟨_, rfl, hw'⟩
    · simp only [List.getElem?_cons_zero, List.getElem?_cons_succ, Option.some.injEq] at ho
      subst ho
      have k7 := hh.kept 7 (by simp)
      simp at k7
      go_simp
      exact ⟨_, rfl, HI.out.skip 7 (by omega) (by omega) _ HLF.out (by omega) (by omega) (by omega) rfl⟩
    · simp only [List.getElem?_cons_zero, List.getElem?_cons_succ, Option.some.injEq] at ho
      subst ho
      have l6 : L.getD 6 false = true := HD.out ⟨6, .data⟩ (by simp) rfl
      have g6 := hh.got 6 _ 34 rfl rfl l6 (by simp)
      have l7 : L.getD 7 false = true := HD.out ⟨7, .data⟩ (by simp) rfl
      have g7 := hh.got 7 _ 35 rfl rfl l7 (by simp)
      rw [HI.out.known 7 (by omega) (by omega) (by omega) (by omega) l7] at g7
      simp [joinQ] at g7
      obtain ⟨a6, n6, c6, x6⟩ := own_slice (HI.out.o6 l6)
      rw [x6] at g6
      simp at g6
      have gb := HI.out.box0 HLF.out
      obtain ⟨_, _, _, _, _, _⟩ := cells3f gb
      have hlg : gN < W.heap.size := lt_of_block gb
      have HL6 := Lib.hid l6
      have X6 := Lib.hid x6
      clear l6 l7 gb x6
      go_simp
      have hf := HI.out.fill (by omega) HL6.out
      rw [X6.out] at hf
      exact ⟨undef, hf⟩
end Go.Proofs.Ytgbcdebnanejpaa.Rn
