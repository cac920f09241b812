/- net.Sim: made, Now; slices.Clone of states. Over this seat's program. -/
import Derived.Test.YtgbcdebnanejpaaU2
import Derived.LaidEqlPtr
namespace Go.Proofs.Ytgbcdebnanejpaa
set_option linter.unusedVariables false
open Go.RowKit Go.Shelf

set_option maxRecDepth 100000 in
theorem made_any (b : Nat) (w : World) (hc : w.cell? ⟨b, 0, none⟩ = some (.pointer (some ⟨b, 0, none⟩))) :
    Calls Try.prog 78 #[.pointer (some ⟨b, 0, none⟩)] w fun e w' => e = .returned (.bool true) ∧ w = w' := by
  have heq : ∀ W, (binOp .eql 53 (.pointer (some ⟨b, 0, none⟩)) (.pointer (some ⟨b, 0, none⟩))).run Try.prog W = .ok (.bool true) W := fun W => by
    obtain ⟨j, hj⟩ : ∃ j, Try.prog.info? 104 = some j := Option.isSome_iff_exists.1 (by kernel_rfl)
    exact run_eql_ptr_same (P := Try.prog) W _ Try.underlying53 hj
  go_enter Try.func78, Try.ntmps78
  go_wp2
  go_ret
  exact ⟨rfl, rfl⟩
def SCloned (st : List (Int × Int)) (w : World) (e : Ending) (w' : World) : Prop := ∃ v, e = .returned v ∧ w'.ownsRow w.heap.size 98 2 v st.length (stC st) ∧ Below w.heap.size w w'
set_option maxHeartbeats 1000000 in
set_option maxRecDepth 100000 in
theorem sclone_any (a : Option Addr) (c : Nat) (st : List (Int × Int)) (n : Nat) (hn : st.length = n) (h1 : 1 ≤ n) (hl : n ≤ 1024) (w : World) (hS : StsAt w (.slice a n c) st) :
    Calls Try.prog 79 #[.slice a n c] w (SCloned st w) := by
  unfold SCloned
  rw [hn]
  obtain ⟨s0, hs0⟩ : ∃ s, st[0]? = some s := ⟨_, List.getElem?_eq_getElem (by omega)⟩
  obtain ⟨b, off, rfl, hbl, _⟩ := hS.at hs0
  obtain ⟨i0, hi, hz0, hzz1, hzz2⟩ := info_parts Bg.infoS
  have hown : (w.alloc (.cells #[] 98)).ownsRow w.heap.size 98 2 (.slice (some ⟨w.heap.size, 0, none⟩) 0 0) 0 [] :=
    ⟨rfl, .inr ⟨w.heap.size, 0, #[], rfl, Nat.le_refl _, alloc_new_at _ _ _ rfl, Nat.le_refl _, by unfold maxLen; omega, rfl, rfl⟩⟩
  have hnews := (hS.below ((Below.refl _ w).alloc (Nat.le_refl _) (.cells #[] 98))).cellsAll
  have hlen : (stC st).length = n * 2 := by rw [stC_length, hn]
  have hone : ∀ u ∈ stC st, u.oneCell' = true := fun u hu => stC_one hu
  have HN := Lib.hid hnews
  have HO := Lib.hid hown
  have HE := Lib.hid hone
  have HC := Lib.hid hlen
  clear hnews hown hone hlen hs0 hS hn
  have heq : ∀ W, (binOp .eql 61 (.slice (some ⟨b, off, none⟩) n c) (.slice none 0 0)).run Try.prog W = .ok (.bool false) W := fun W => by
    simp [binOp, run_equal_slice_nil W 61 98 _ _ _ Try.underlying61]
  go_enter Try.func79, Try.ntmps79
  go_wp2_with (at_builtin; refine wpList_append_own _ rfl _ _ 61 rfl w.heap.size 98 i0 (.agg #[.int .i64 0, .int .i64 0]) 2 16 Try.underlying61 hi hz0 hzz1 hzz2 rfl (by decide) (.slice (some ⟨w.heap.size, 0, none⟩) 0 0) 0 _ rfl HO.out ⟨b, off, none⟩ n c (stC st) rfl HC.out HN.out HE.out (by unfold maxLen; omega) (by omega) (by simp) ?_; intro v' w3 hown' hgrow _; have HO' := Lib.hid hown'; have HG := Lib.hid hgrow; clear hown' hgrow)
  go_ret
  have h1 := HO'.out
  exact ⟨v', rfl, by simpa using h1, ((Below.refl _ w).alloc (Nat.le_refl _) _).grown HG.out (by simp) (by intro k hk; simp [Value.ownBlock] at hk; omega)⟩
def IClonedR (r : List Int) (w : World) (e : Ending) (w' : World) : Prop := ∃ v, e = .returned v ∧ w'.ownsRow w.heap.size 3 1 v r.length (r.map (Value.int .i64)) ∧ Below w.heap.size w w'
set_option maxHeartbeats 1000000 in
set_option maxRecDepth 100000 in
theorem iclone_any (a : Option Addr) (c : Nat) (r : List Int) (n : Nat) (hn : r.length = n) (h1 : 1 ≤ n) (hl : n ≤ 1024) (w : World) (hS : RowIn w (.slice a n c) r) :
    Calls Try.prog 76 #[.slice a n c] w (IClonedR r w) := by
  unfold IClonedR
  rw [hn]
  obtain ⟨s0, hs0⟩ : ∃ s, r[0]? = some s := ⟨_, List.getElem?_eq_getElem (by omega)⟩
  obtain ⟨ad, rfl, hbl, _⟩ := hS.at hs0
  obtain ⟨i0, hi, hz0, hzz1, hzz2⟩ := info_parts Try.info3
  have hown : (w.alloc (.cells #[] 3)).ownsRow w.heap.size 3 1 (.slice (some ⟨w.heap.size, 0, none⟩) 0 0) 0 [] :=
    ⟨rfl, .inr ⟨w.heap.size, 0, #[], rfl, Nat.le_refl _, alloc_new_at _ _ _ rfl, Nat.le_refl _, by unfold maxLen; omega, rfl, rfl⟩⟩
  have hnews := (hS.below ((Below.refl _ w).alloc (Nat.le_refl _) (.cells #[] 3))).cellsAll
  have hlen : (r.map (Value.int .i64)).length = n * 1 := by simp [hn]
  have hone : ∀ u ∈ r.map (Value.int .i64), u.oneCell' = true := fun u hu => ints_one hu
  have HN := Lib.hid hnews
  have HO := Lib.hid hown
  have HE := Lib.hid hone
  have HC := Lib.hid hlen
  clear hnews hown hone hlen hs0 hS hn hbl
  have heq : ∀ W, (binOp .eql 44 (.slice (some ad) n c) (.slice none 0 0)).run Try.prog W = .ok (.bool false) W := fun W => by
    simp [binOp, run_equal_slice_nil W 44 3 _ _ _ Try.underlying44]
  go_enter Try.func76, Try.ntmps76
  go_wp2_with (at_builtin; refine wpList_append_own _ rfl _ _ 44 rfl w.heap.size 3 i0 (.int .i64 0) 1 8 Try.underlying44 hi hz0 hzz1 hzz2 rfl (by decide) (.slice (some ⟨w.heap.size, 0, none⟩) 0 0) 0 _ rfl HO.out ad n c (r.map (Value.int .i64)) rfl HC.out HN.out HE.out (by unfold maxLen; omega) (by omega) (by simp) ?_; intro v' w3 hown' hgrow _; have HO' := Lib.hid hown'; have HG := Lib.hid hgrow; clear hown' hgrow)
  go_ret
  have h1 := HO'.out
  exact ⟨v', rfl, by simpa using h1, ((Below.refl _ w).alloc (Nat.le_refl _) _).grown HG.out (by simp) (by intro k hk; simp [Value.ownBlock] at hk; omega)⟩
end Go.Proofs.Ytgbcdebnanejpaa
namespace Go.Proofs.Ytgbcdebnanejpaa
set_option linter.unusedVariables false
open Go.RowKit Go.Shelf

def im7 (bs b t j rq nn : Nat) (dv : Value) : Nat → Value
  | 0 => .pointer (some ⟨b, 2, none⟩)
  | 1 => dv
  | 2 => .pointer (some ⟨bs, 0, none⟩)
  | 3 => .pointer (some ⟨bs, 0, none⟩)
  | 4 => .pointer (some ⟨bs, 6, none⟩)
  | 5 => .pointer (some ⟨bs, 0, none⟩)
  | 6 => .pointer (some ⟨bs, 0, none⟩)
  | 7 => .pointer (some ⟨bs, 4, none⟩)
  | 8 => .int .i64 (t : Int)
  | 9 => .int .i64 (j : Int)
  | 10 => .int .i64 ((t : Int) + (j : Int))
  | 11 => .slice (some ⟨rq, 0, none⟩) nn nn
  | 15 => .pointer (some ⟨b, 2, none⟩)
  | _ => undef
structure ImF (wr W : World) (H b : Nat) (pre : List Value) (N j : Nat) (dv : Value) (rows : List Value) (r : List Int) (s g1 : Nat) (rv dv' : Value) (hv : Nat → Value) : Prop where
  size : wr.heap.size ≤ W.heap.size
  old : ∀ x, x < H → x ≠ b → W.heap[x]? = wr.heap[x]?
  box : s ≤ 3 → W.heap[b]? = some (.cells (pre ++ [dv]).toArray 66)
  s0 : s = 0 → Below wr.heap.size wr W
  h12 : 1 ≤ s → hv 12 = rv
  a0 : s = 1 → Ap0 wr W H b 66 pre N j dv rows r rv
  h13 : 2 ≤ s → hv 13 = .slice (some ⟨g1, 0, none⟩) 1 1
  a1 : s = 2 → Ap1 wr W H b 66 pre N j dv rows r rv g1
  h14 : 3 ≤ s → hv 14 = dv'
  a2 : s = 3 → Ap2 wr W H b 66 pre N j dv rows r rv dv'
  a3 : s = 4 → ∃ W2, Ap2 wr W2 H b 66 pre N j dv rows r rv dv' ∧ W = W2.setCell ⟨b, pre.length, none⟩ dv'
theorem SimAt.rowInt {n : NetM} {A : World} {B : Nat} {z : SimZ} {t : Nat} {st : List (Int × Int)} {due : Due} (h : SimAt n A B z t t st due) {d : Nat} (hd : d < 16) : RowIn A (.slice (some ⟨z.rb ((t + d) % 16), 0, none⟩) n.ps.length n.ps.length) ((List.range n.ps.length).map fun i => due (t + d) i) :=
  (h.row (t + d) (by omega) (by omega)).rowX.rowIn
theorem stsAt_of_owns {A : World} {B sb N sc : Nat} {st : List (Int × Int)} (h : A.ownsRow B 98 2 (.slice (some ⟨sb, 0, none⟩) N sc) N (stC st)) (hl : st.length = N) : StsAt A (.slice (some ⟨sb, 0, none⟩) N sc) st := by
  refine .inr ⟨sb, 0, sc, by rw [hl], (h.lt sb rfl).2, fun k s hk => ?_⟩
  obtain ⟨e1, e2⟩ := stC_at st k s hk
  have hkl := (List.getElem?_eq_some_iff.1 hk).1
  have c1 := h.cellAt (k * 2) (by omega)
  have c2 := h.cellAt (k * 2 + 1) (by omega)
  rw [Nat.zero_add]
  exact ⟨c1.trans e1, c2.trans e2⟩
/-- What Image returns. -/
def ImageOut (n : NetM) (t : Nat) (st : List (Int × Int)) (due : Due) (w : World) (e : Ending) (w' : World) : Prop := ∃ v, e = .returned (.tuple #[v, .int .i64 0]) ∧ ImgAt w' v (imgOf n t st due) ∧ Below w.heap.size w w'
theorem rowsIn_of {A : World} {H b bt N : Nat} {pre : List Value} {dv : Value} {du : List (List Int)} {rb rc : Nat → Nat} (h : RowsI A H b bt pre N 16 dv du rb rc) (hd : du.length = 16) (hr : ∀ (k : Nat) (r : List Int), du[k]? = some r → r.length = N) : RowsIn A dv du := by
  obtain ⟨db, dc, hdv⟩ := own_form h.dvo (by omega)
  subst hdv
  refine .inr ⟨db, 0, dc, by rw [hd], (h.dvo.lt db rfl).2, fun k r hk => ?_⟩
  have hk16 := (List.getElem?_eq_some_iff.1 hk).1
  rw [hd] at hk16
  have h1 := h.row k r hk16 hk
  rw [← hr k r hk] at h1
  refine ⟨_, ?_, ownsRow_rowIn h1⟩
  have := h.dvo.cells (g := db) rfl k (.slice (some ⟨rb k, 0, none⟩) N (rc k)) (by unfold rowsL; simp [hk16])
  rw [hr k r hk, ← this]
  congr 1
  unfold Addr.add
  split <;> simp_all
def im3 (bs sb t nn : Nat) : Nat → Value
  | 0 => .pointer (some ⟨bs, 0, none⟩)
  | 1 => .pointer (some ⟨bs, 0, none⟩)
  | 2 => .pointer (some ⟨bs, 4, none⟩)
  | 3 => .int .i64 (t : Int)
  | 4 => .pointer (some ⟨bs, 0, none⟩)
  | 5 => .pointer (some ⟨bs, 0, none⟩)
  | 6 => .pointer (some ⟨bs, 5, none⟩)
  | 7 => .slice (some ⟨sb, 0, none⟩) nn nn
  | _ => undef
structure ImS (w0 W : World) (bs sb t N : Nat) (st : List (Int × Int)) (L : Array Bool) (val : Nat → Value) (v : Value) (xb : Nat) : Prop where
  bel : Below w0.heap.size w0 W
  kn : ∀ j, j < 8 → L.getD j false = true → val j = im3 bs sb t N j
  k8 : L.getD 8 false = true → val 8 = v ∧ W.ownsRow w0.heap.size 98 2 v N (stC st)
  k9 : L.getD 9 false = true → val 9 = .agg #[.int .i64 (t : Int), v, .slice none 0 0] ∧ L.getD 8 false = true
  k10 : L.getD 10 false = true → val 10 = .pointer (some ⟨xb, 0, none⟩) ∧ w0.heap.size ≤ xb ∧ xb < W.heap.size ∧ (L.getD 8 false = true → v.ownBlock ≠ some xb) ∧ (L.getD 11 false = false → W.heap[xb]? = some (.cells #[.int .i64 0, .slice none 0 0, .slice none 0 0] 66))
  k11 : L.getD 11 false = true → L.getD 9 false = true ∧ L.getD 10 false = true ∧ W.heap[xb]? = some (.cells #[.int .i64 (t : Int), v, .slice none 0 0] 66)
section
variable {w0 W W' : World} {bs sb t N : Nat} {st : List (Int × Int)} {L : Array Bool} {val : Nat → Value} {v : Value} {xb : Nat}
theorem ImS.init : ImS w0 { w0 with drawn := w0.drawn + 1 } bs sb t N st (Array.replicate 12 false) (fun _ => undef) undef 0 := by
  have z : ∀ j, (Array.replicate 12 false).getD j false = true → False := fun j h => by
    simp [Array.getD_eq_getD_getElem?, Array.getElem?_replicate] at h
    split at h <;> simp_all
  exact ⟨⟨rfl, rfl, rfl, Nat.le_refl _, fun _ _ => rfl⟩, fun j _ h => (z _ h).elim, fun h => (z _ h).elim, fun h => (z _ h).elim, fun h => (z _ h).elim, fun h => (z _ h).elim⟩
theorem ImS.skip (h : ImS w0 W bs sb t N st L val v xb) (i : Nat) (hi : i < 8) (u : Value) (hu : u = im3 bs sb t N i) : ImS w0 W bs sb t N st (L.setIfInBounds i true) (setV val i u) v xb := by
  refine ⟨h.bel, fun j hj hl => ?_, ?_, ?_, ?_, ?_⟩
  · by_cases e : j = i
    · subst e; rw [setV_eq]; exact hu
    · rw [setV_ne e]; exact h.kn j hj (by rwa [gdD e] at hl)
  · rw [gdD (by omega), setV_ne (by omega)]; exact h.k8
  · rw [gdD (by omega), gdD (by omega), setV_ne (by omega)]; exact h.k9
  · rw [gdD (by omega), gdD (by omega), gdD (by omega), setV_ne (by omega)]; exact h.k10
  · rw [gdD (by omega), gdD (by omega), gdD (by omega)]; exact h.k11
theorem ImS.sts (h : ImS w0 W bs sb t N st L val v xb) (hs : 11 < L.size) (hf : L.getD 8 false = false) {v' : Value} (ho : W'.ownsRow W.heap.size 98 2 v' N (stC st)) (hb : Below W.heap.size W W') : ImS w0 W' bs sb t N st (L.setIfInBounds 8 true) (setV val 8 v') v' xb := by
  have f9 : L.getD 9 false = false := by
    cases e : L.getD 9 false with
    | false => rfl
    | true => rw [(h.k9 e).2] at hf; cases hf
  have f11 : L.getD 11 false = false := by
    cases e : L.getD 11 false with
    | false => rfl
    | true => rw [(h.k11 e).1] at f9; cases f9
  refine ⟨h.bel.trans (hb.mono h.bel.size), fun j hj hl => ?_, fun _ => ⟨setV_eq, own_base ho h.bel.size⟩, ?_, fun hl => ?_, ?_⟩
  · rw [setV_ne (by omega)]; exact h.kn j hj (by rwa [gdD (by omega)] at hl)
  · rw [gdD (by omega), f9]; intro q; cases q
  · rw [gdD (by omega)] at hl
    obtain ⟨q1, q2, q3, q4, q5⟩ := h.k10 hl
    refine ⟨by rw [setV_ne (by omega)]; exact q1, q2, Nat.lt_of_lt_of_le q3 hb.size, fun _ e => ?_, fun _ => (hb.block xb q3).trans (q5 f11)⟩
    have := (ho.lt _ e).1
    omega
  · rw [gdD (by omega), f11]; intro q; cases q
theorem ImS.agg (h : ImS w0 W bs sb t N st L val v xb) (hs : 11 < L.size) (l8 : L.getD 8 false = true) : ImS w0 W bs sb t N st (L.setIfInBounds 9 true) (setV val 9 (.agg #[.int .i64 (t : Int), v, .slice none 0 0])) v xb := by
  refine ⟨h.bel, fun j hj hl => ?_, ?_, fun _ => ⟨setV_eq, by rw [gdD (by omega)]; exact l8⟩, ?_, fun hl => ?_⟩
  · rw [setV_ne (by omega)]; exact h.kn j hj (by rwa [gdD (by omega)] at hl)
  · rw [gdD (by omega), setV_ne (by omega)]; exact h.k8
  · rw [gdD (by omega), gdD (by omega), gdD (by omega), setV_ne (by omega)]; exact h.k10
  · rw [gdD (by omega)] at hl
    obtain ⟨q1, q2, q3⟩ := h.k11 hl
    exact ⟨getD_set_eq3 (by omega), by rw [gdD (by omega)]; exact q2, q3⟩
theorem ImS.new (h : ImS w0 W bs sb t N st L val v xb) (hs : 11 < L.size) (hf : L.getD 10 false = false) : ImS w0 (W.alloc (.cells #[.int .i64 0, .slice none 0 0, .slice none 0 0] 66)) bs sb t N st (L.setIfInBounds 10 true) (setV val 10 (.pointer (some ⟨W.heap.size, 0, none⟩))) v W.heap.size := by
  have f11 : L.getD 11 false = false := by
    cases e : L.getD 11 false with
    | false => rfl
    | true => rw [(h.k11 e).2.1] at hf; cases hf
  refine ⟨h.bel.alloc h.bel.size _, fun j hj hl => ?_, fun hl => ?_, ?_, fun hl => ⟨setV_eq, h.bel.size, by simp, fun l8 e => ?_, fun _ => alloc_new_at _ _ _ rfl⟩, ?_⟩
  · rw [setV_ne (by omega)]; exact h.kn j hj (by rwa [gdD (by omega)] at hl)
  · rw [gdD (by omega)] at hl
    obtain ⟨q1, q2⟩ := h.k8 hl
    exact ⟨by rw [setV_ne (by omega)]; exact q1, ownsRow_of_block q2 fun g hg => Below.heap_alloc _ _ _ (q2.lt g hg).2⟩
  · rw [gdD (by omega), gdD (by omega), setV_ne (by omega)]; exact h.k9
  · rw [gdD (by omega)] at l8
    have := ((h.k8 l8).2.lt _ e).2
    omega
  · rw [gdD (by omega), f11]; intro q; cases q
theorem ImS.store (h : ImS w0 W bs sb t N st L val v xb) (hs : 11 < L.size) (l9 : L.getD 9 false = true) (l10 : L.getD 10 false = true) (u : Value) (hb : ∀ b, b ≠ xb → W'.heap[b]? = W.heap[b]?) (hz : W.heap.size ≤ W'.heap.size) (ho : W'.os = W.os ∧ W'.tape = W.tape ∧ W'.output = W.output) (hx : W'.heap[xb]? = some (.cells #[.int .i64 (t : Int), v, .slice none 0 0] 66)) : ImS w0 W' bs sb t N st (L.setIfInBounds 11 true) (setV val 11 u) v xb := by
  obtain ⟨q1, q2, q3, q4, q5⟩ := h.k10 l10
  obtain ⟨p1, l8⟩ := h.k9 l9
  obtain ⟨r1, r2⟩ := h.k8 l8
  refine ⟨⟨ho.1.trans h.bel.os, ho.2.1.trans h.bel.tape, ho.2.2.trans h.bel.output, Nat.le_trans h.bel.size hz, fun b hb' => (hb b (by omega)).trans (h.bel.block b hb')⟩, fun j hj hl => ?_, fun hl => ⟨by rw [setV_ne (by omega)]; exact r1, ownsRow_of_block r2 fun g hg => hb g fun e => q4 l8 (by rw [← e]; exact hg)⟩, fun _ => ⟨by rw [setV_ne (by omega)]; exact p1, by rw [gdD (by omega)]; exact l8⟩, fun _ => ⟨by rw [setV_ne (by omega)]; exact q1, q2, by omega, fun _ => q4 l8, ?_⟩, fun _ => ⟨by rw [gdD (by omega)]; exact l9, by rw [gdD (by omega)]; exact l10, hx⟩⟩
  · rw [setV_ne (by omega)]; exact h.kn j hj (by rwa [gdD (by omega)] at hl)
  · rw [getD_set_eq3 (by omega)]; intro q; cases q
end
set_option maxRecDepth 100000 in
set_option maxHeartbeats 8000000 in
theorem image_any (n : NetM) (hok : NetOk n) (B : Nat) (z : SimZ) (t : Nat) (ht : (t : Int) ≤ 4294967000) (st : List (Int × Int)) (due : Due) (w : World) (h : SimAt n w B z t t st due) :
    Calls Try.prog 38 #[.pointer (some ⟨z.bs, 0, none⟩)] w (ImageOut n t st due w) := by
  obtain ⟨N, hN⟩ : ∃ N, n.ps.length = N := ⟨_, rfl⟩
  have hN0 : 1 ≤ N := by rw [← hN]; exact hok.p0
  have hN1 : N ≤ 1024 := by rw [← hN]; exact hok.p1
  have hzbs := h.isIn.bs
  have hzsb := h.isIn.sb
  have hb0 : Below w.heap.size w (w.alloc (.cells #[.int .i64 0, .slice none 0 0, .slice none 0 0] 66)) := (Below.refl _ _).alloc (Nat.le_refl _) _
  have hnb : (w.alloc (.cells #[.int .i64 0, .slice none 0 0, .slice none 0 0] 66)).heap[w.heap.size]? = some (.cells #[.int .i64 0, .slice none 0 0, .slice none 0 0] 66) := alloc_new_at _ _ _ rfl
  have hsz0 : (w.alloc (.cells #[.int .i64 0, .slice none 0 0, .slice none 0 0] 66)).heap.size = w.heap.size + 1 := by simp
  have hst0 : StsAt w (.slice (some ⟨z.sb, 0, none⟩) N N) st := by
    have : StX w z.sb st := ⟨[], by rw [List.append_nil]; exact h.stb⟩
    exact this.stsAt (h.len.trans hN)
  have HST := Lib.hid hst0
  have HN := Lib.hid hN
  have HSIM := Lib.hid h
  have HL := Lib.hid (h.len.trans hN)
  clear h hN hok hst0
  go_enter Try.func38, Try.ntmps38
  go_upto_region 1 with (fail)
  generalize w.alloc (.cells #[.int .i64 0, .slice none 0 0, .slice none 0 0] 66) = W0 at *
  have hc0 := (World.cell?_of_block (a := ⟨z.bs, 0, none⟩) (hb0.block z.bs hzbs)).trans HSIM.out.head.1
  have hc4 := (World.cell?_of_block (a := ⟨z.bs, 4, none⟩) (hb0.block z.bs hzbs)).trans HSIM.out.head.2.2.2.2.1
  have hc5 := (World.cell?_of_block (a := ⟨z.bs, 5, none⟩) (hb0.block z.bs hzbs)).trans HSIM.out.head.2.2.2.2.2
  rw [HN.out] at hc5
  have HC4 := Lib.hid hc4
  have HC5 := Lib.hid hc5
  have HB0 := Lib.hid hb0
  have HNB := Lib.hid hnb
  have hzb0 : z.bs < W0.heap.size := by omega
  clear hb0 hnb
  go_upto_region 3 with (go_at_call 78; refine (made_any z.bs _ (by assumption)).mono ?_; rintro e wq ⟨rfl, rfl⟩)
  refine wp_region_late (fun L val W => ∃ v xb, ImS W0 W z.bs z.sb t N st L val v xb) (by kernel_rfl) (by kernel_rfl) (by kernel_rfl) (by kernel_rfl) ⟨undef, 0, ImS.init⟩ ?stp ?dn
  case stp =>
    intro L val W i o b' hs ho hlF hdd hI hh hlate
    obtain ⟨v, xb, hI⟩ := hI
    have hi' := (List.getElem?_eq_some_iff.1 ho).1
    have hcs : i = 0 ∨ i = 1 ∨ i = 2 ∨ i = 3 ∨ i = 4 ∨ i = 5 ∨ i = 6 ∨ i = 7 ∨ i = 8 ∨ i = 9 ∨ i = 10 ∨ i = 11 := by simp at hi'; omega
    have hLs : 11 < L.size := by simp at hs; omega
    have hk : W.heap[z.bs]? = W0.heap[z.bs]? := hI.bel.block _ hzb0
    have hc4 := (World.cell?_of_block (a := ⟨z.bs, 4, none⟩) hk).trans HC4.out
    have hc5 := (World.cell?_of_block (a := ⟨z.bs, 5, none⟩) hk).trans HC5.out
    have hzW : z.bs < W.heap.size := Nat.lt_of_lt_of_le hzb0 hI.bel.size
    have k0 := hh.kept 0 (by simp)
    simp at k0
    have HI := Lib.hid hI
    have HLF := Lib.hid hlF
    have HD := Lib.hid hdd
    clear hi' hs hI hlF hdd hk
    rcases hcs with rfl | rfl | rfl | rfl | rfl | rfl | rfl | rfl | rfl | rfl | rfl | rfl
    · simp only [List.getElem?_cons_zero, Option.some.injEq] at ho
      subst ho

      go_simp
      exact ⟨_, rfl, v, xb, HI.out.skip 0 (by omega) _ rfl⟩
    · simp only [List.getElem?_cons_zero, List.getElem?_cons_succ, Option.some.injEq] at ho
      subst ho
      have l0 : L.getD 0 false = true := HD.out ⟨0, .data⟩ (by simp) rfl
      have g0 := hh.got 0 _ 10 rfl rfl l0 (by simp)
      rw [HI.out.kn 0 (by omega) l0] at g0
      simp [im3] at g0
      go_simp
      exact ⟨_, rfl, v, xb, HI.out.skip 1 (by omega) _ rfl⟩
    · simp only [List.getElem?_cons_zero, List.getElem?_cons_succ, Option.some.injEq] at ho
      subst ho
      have l1 : L.getD 1 false = true := HD.out ⟨1, .data⟩ (by simp) rfl
      have g1 := hh.got 1 _ 11 rfl rfl l1 (by simp)
      rw [HI.out.kn 1 (by omega) l1] at g1
      simp [im3] at g1
      go_simp
      exact ⟨_, rfl, v, xb, HI.out.skip 2 (by omega) _ rfl⟩
    · simp only [List.getElem?_cons_zero, List.getElem?_cons_succ, Option.some.injEq] at ho
      subst ho
      have l2 : L.getD 2 false = true := HD.out ⟨2, .data⟩ (by simp) rfl
      have g2 := hh.got 2 _ 12 rfl rfl l2 (by simp)
      rw [HI.out.kn 2 (by omega) l2] at g2
      simp [im3] at g2
      go_simp
      exact ⟨_, rfl, v, xb, HI.out.skip 3 (by omega) _ rfl⟩
    · simp only [List.getElem?_cons_zero, List.getElem?_cons_succ, Option.some.injEq] at ho
      subst ho

      go_simp
      exact ⟨_, rfl, v, xb, HI.out.skip 4 (by omega) _ rfl⟩
    · simp only [List.getElem?_cons_zero, List.getElem?_cons_succ, Option.some.injEq] at ho
      subst ho
      have l4 : L.getD 4 false = true := HD.out ⟨4, .data⟩ (by simp) rfl
      have g4 := hh.got 4 _ 14 rfl rfl l4 (by simp)
      rw [HI.out.kn 4 (by omega) l4] at g4
      simp [im3] at g4
      go_simp
      exact ⟨_, rfl, v, xb, HI.out.skip 5 (by omega) _ rfl⟩
    · simp only [List.getElem?_cons_zero, List.getElem?_cons_succ, Option.some.injEq] at ho
      subst ho
      have l5 : L.getD 5 false = true := HD.out ⟨5, .data⟩ (by simp) rfl
      have g5 := hh.got 5 _ 15 rfl rfl l5 (by simp)
      rw [HI.out.kn 5 (by omega) l5] at g5
      simp [im3] at g5
      go_simp
      exact ⟨_, rfl, v, xb, HI.out.skip 6 (by omega) _ rfl⟩
    · simp only [List.getElem?_cons_zero, List.getElem?_cons_succ, Option.some.injEq] at ho
      subst ho
      have l6 : L.getD 6 false = true := HD.out ⟨6, .data⟩ (by simp) rfl
      have g6 := hh.got 6 _ 16 rfl rfl l6 (by simp)
      rw [HI.out.kn 6 (by omega) l6] at g6
      simp [im3] at g6
      go_simp
      exact ⟨_, rfl, v, xb, HI.out.skip 7 (by omega) _ rfl⟩
    · simp only [List.getElem?_cons_zero, List.getElem?_cons_succ, Option.some.injEq] at ho
      subst ho
      have l7 : L.getD 7 false = true := HD.out ⟨7, .data⟩ (by simp) rfl
      have g7 := hh.got 7 _ 17 rfl rfl l7 (by simp)
      rw [HI.out.kn 7 (by omega) l7] at g7
      simp [im3] at g7
      go_simp
      go_at_call 79
      refine (sclone_any (some ⟨z.sb, 0, none⟩) N st N HL.out hN0 hN1 _ (HST.out.below (HB0.out.trans (HI.out.bel.mono HB0.out.size)))).mono ?_
      rintro e w6 ⟨v', rfl, ho6, hb6⟩
      rw [HL.out] at ho6
      exact ⟨_, rfl, v', xb, HI.out.sts hLs HLF.out ho6 hb6⟩
    · simp only [List.getElem?_cons_zero, List.getElem?_cons_succ, Option.some.injEq] at ho
      subst ho
      have l3 : L.getD 3 false = true := HD.out ⟨3, .data⟩ (by simp) rfl
      have g3 := hh.got 3 _ 13 rfl rfl l3 (by simp)
      rw [HI.out.kn 3 (by omega) l3] at g3
      simp [im3] at g3
      have l8 : L.getD 8 false = true := HD.out ⟨8, .data⟩ (by simp) rfl
      have g8 := hh.got 8 _ 18 rfl rfl l8 (by simp)
      rw [(HI.out.k8 l8).1] at g8
      simp at g8
      obtain ⟨va, vc, hva⟩ := own_sl (HI.out.k8 l8).2
      subst hva
      have L8 := Lib.hid l8
      go_simp
      exact ⟨_, rfl, _, xb, HI.out.agg hLs L8.out⟩
    · simp only [List.getElem?_cons_zero, List.getElem?_cons_succ, Option.some.injEq] at ho
      subst ho

      go_simp
      exact ⟨_, rfl, v, W.heap.size, HI.out.new hLs HLF.out⟩
    · simp only [List.getElem?_cons_zero, List.getElem?_cons_succ, Option.some.injEq] at ho
      subst ho
      have l10 : L.getD 10 false = true := HD.out ⟨10, .data⟩ (by simp) rfl
      have g10 := hh.got 10 _ 4 rfl rfl l10 (by simp)
      rw [(HI.out.k10 l10).1] at g10
      simp at g10
      have l9 : L.getD 9 false = true := HD.out ⟨9, .data⟩ (by simp) rfl
      have g9 := hh.got 9 _ 19 rfl rfl l9 (by simp)
      rw [(HI.out.k9 l9).1] at g9
      simp at g9
      obtain ⟨va, vc, hva⟩ := own_sl (HI.out.k8 (HI.out.k9 l9).2).2
      subst hva
      have hx0 := (HI.out.k10 l10).2.2.2.2 HLF.out
      obtain ⟨_, _, _, _, _, _⟩ := cells3f hx0
      have hxl := lt_of_block hx0
      have L9 := Lib.hid l9
      have L10 := Lib.hid l10
      have HX0 := Lib.hid hx0
      clear hx0 l9 l10
      go_simp
      refine ⟨undef, _, xb, HI.out.store hLs L9.out L10.out _ (fun b hb => ?_) (by simp [World.setCell]) ⟨rfl, rfl, rfl⟩ ?_⟩
      · simp [World.setCell, Array.getElem?_modify, Ne.symm hb]
      · have := HX0.out
        simp [World.setCell, Array.getElem?_modify, this]
  case dn =>
    intro val W1 b' hI hb
    obtain ⟨v, xb, hI⟩ := hI
    have kn : ∀ q, q < 8 → val q = im3 z.bs z.sb t N q := fun q hq => hI.kn q hq (replT (by show q < 12; omega))
    have e8 := (hI.k8 (by simp)).1
    have e9 := (hI.k9 (by simp)).1
    have e10 := (hI.k10 (by simp)).1
    simp only [puts, kn 0 (by decide), kn 1 (by decide), kn 2 (by decide), kn 3 (by decide), kn 4 (by decide), kn 5 (by decide), kn 6 (by decide), kn 7 (by decide), e8, e9, e10, im3] at hb
    have ho := (hI.k8 (by simp)).2
    obtain ⟨_, hx1, hx2, hx3, _⟩ := hI.k10 (by simp)
    have hx3 := hx3 (by simp)
    have hxb := (hI.k11 (by simp)).2.2
    have hbel := hI.bel
    clear hI kn e8 e9 e10
    subst hb
    simp only [Act.put, List.setIfInBounds_toArray, List.set_cons_succ, List.set_cons_zero]
    obtain ⟨sb, sc, hsv⟩ := own_form ho (by omega)
    subst hsv
    have hslo := ho.lt sb rfl
    have hbsb : sb ≠ xb := fun e => hx3 (by rw [← e]; rfl)
    have hRI : RowsI W1 W1.heap.size xb 66 [.int .i64 (t : Int), .slice (some ⟨sb, 0, none⟩) N sc] N 0 (.slice none 0 0) (imgOf n t st due).du (fun _ => 0) (fun _ => 0) :=
      ⟨hxb, World.ownsRow_nil _ _ _ _, fun d r h => absurd h (by omega), Nat.zero_le _, fun d d' h => absurd h (by omega), fun d h => absurd h (by omega), hx2, Nat.le_refl _⟩
    have HRI0 := Lib.hid hRI
    have HBEL := Lib.hid (HB0.out.trans (hbel.mono HB0.out.size) : Below w.heap.size w W1)
    have HSTW0 := Lib.hid (own_base ho HB0.out.size : W1.ownsRow w.heap.size 98 2 (.slice (some ⟨sb, 0, none⟩) N sc) N (stC st))
    have HRES0 := Lib.hid ((hbel.block _ (lt_of_block HNB.out)).trans HNB.out)
    obtain ⟨H, hH⟩ : ∃ H, W1.heap.size = H := ⟨_, rfl⟩
    have hwH : w.heap.size < H := by rw [← hH]; have := hbel.size; omega
    have hbw : w.heap.size < xb := by omega
    have hsw : w.heap.size < sb := by omega
    rw [hH] at HRI0 hslo hx2
    clear hRI hH ho hxb hbel hx1 hx3 hc0 hc4 hc5
    obtain ⟨b, hb⟩ : ∃ b, xb = b := ⟨_, rfl⟩
    subst hb
    go_wp2
    go_loopw [20] (fun s20 wr => ∃ (j : Nat) (dv : Value) (rb rc : Nat → Nat), j ≤ 16 ∧ s20 = .int .i64 j ∧ RowsI wr H xb 66 [.int .i64 (t : Int), .slice (some ⟨sb, 0, none⟩) N sc] N j dv (imgOf n t st due).du rb rc ∧ Below w.heap.size w wr ∧ wr.ownsRow w.heap.size 98 2 (.slice (some ⟨sb, 0, none⟩) N sc) N (stC st) ∧ wr.heap[w.heap.size]? = some (.cells #[.int .i64 0, .slice none 0 0, .slice none 0 0] 66)) (fun s20 _ => 16 - (intOf s20).toNat)
    case atStart => exact ⟨0, _, _, _, Nat.zero_le _, rfl, HRI0.out, HBEL.out, HSTW0.out, HRES0.out⟩
    case round =>
      obtain ⟨j, dv, rb, rc, hj, rfl, hR, hB, hX, hres⟩ := hrel
      have hj0 : (0 : Int) ≤ (j : Int) := Int.natCast_nonneg _
      have hHr := hR.hH
      have HRW := Lib.hid hR
      have HBW := Lib.hid hB
      have HSTW := Lib.hid hX
      have HRES := Lib.hid hres
      by_cases hlt : j < 16
      · have hj1 : (j : Int) < 16 := by omega
        obtain ⟨r, hr⟩ : ∃ r, r = (List.range n.ps.length).map fun i => due (t + j) i := ⟨_, rfl⟩
        have hr0 : (imgOf n t st due).du[j]? = some r := by rw [hr]; exact imgOf_at hlt
        have hri := HSIM.out.rowInt hlt
        rw [← hr, HN.out] at hri
        have HR0 := Lib.hid hr0
        have HRI := Lib.hid hri
        have HRL : Hid (r.length = N) := Lib.hid (by rw [hr]; simpa using HN.out)
        have HNOW := Lib.hid ((World.cell?_of_block (hB.block z.bs hzbs)).trans HSIM.out.head.2.2.2.2.1 : wr.cell? ⟨z.bs, 4, none⟩ = some (.int .i64 (t : Int)))
        have hrs0 := HSIM.out.rowSlice (t + j)
        rw [HN.out] at hrs0
        have HRS := Lib.hid ((World.cell?_of_block (hB.block z.bs hzbs)).trans hrs0 : wr.cell? ⟨z.bs, 6 + (t + j) % 16, none⟩ = some (.slice (some ⟨z.rb ((t + j) % 16), 0, none⟩) N N))
        clear hr hr0 hri hrs0 hR hB hX hres
        go_upto_region 7 with (fail)
        refine wp_region_chain [12, 13, 14, 16] (im7 z.bs xb t j (z.rb ((t + j) % 16)) N dv) (fun s hv W => ∃ g1 rv dv', ImF wr W H xb [.int .i64 (t : Int), .slice (some ⟨sb, 0, none⟩) N sc] N j dv (rowsL N rb rc j) r s g1 rv dv' hv) (by kernel_rfl) (by kernel_rfl) (by kernel_rfl) (by kernel_rfl) (by kernel_rfl) ?ini ?stp ?hvy ?dn
        case ini =>
          exact ⟨0, undef, undef, Nat.le_refl _, fun x hx hn => rfl, fun _ => HRW.out.box, fun _ => (Below.refl _ _).drew, fun h => absurd h (by omega), fun h => absurd h (by omega), fun h => absurd h (by omega), fun h => absurd h (by omega), fun h => absurd h (by omega), fun h => absurd h (by omega), fun h => absurd h (by omega)⟩
        case stp =>
          intro s hv W1 i o b' ho hTi hsT hwt hS hh hlate
          have hi := (List.getElem?_eq_some_iff.1 ho).1
          have hc : i = 0 ∨ i = 1 ∨ i = 2 ∨ i = 3 ∨ i = 4 ∨ i = 5 ∨ i = 6 ∨ i = 7 ∨ i = 8 ∨ i = 9 ∨ i = 10 ∨ i = 11 ∨ i = 12 ∨ i = 13 ∨ i = 14 ∨ i = 15 ∨ i = 16 := by simp at hi; omega
          have k0 := hh.kept 0 (by simp)
          simp at k0
          have k4 := hh.kept 4 (by simp)
          simp at k4
          have k5 := hh.kept 5 (by simp)
          simp at k5
          obtain ⟨gg, rv, dv', hS⟩ := hS
          have hnow1 : W1.cell? ⟨z.bs, 4, none⟩ = some (.int .i64 (t : Int)) := (World.cell?_of_block (hS.old z.bs (by omega) (by omega))).trans HNOW.out
          have hrs1 : W1.cell? ⟨z.bs, 6 + (t + j) % 16, none⟩ = some (.slice (some ⟨z.rb ((t + j) % 16), 0, none⟩) N N) := (World.cell?_of_block (hS.old z.bs (by omega) (by omega))).trans HRS.out
          have hszS := hS.size
          have hzbs1 : z.bs < W1.heap.size := by omega
          have hzb1 : xb < W1.heap.size := by omega
          have HS := Lib.hid hS
          clear hi hS
          rcases hc with rfl | rfl | rfl | rfl | rfl | rfl | rfl | rfl | rfl | rfl | rfl | rfl | rfl | rfl | rfl | rfl | rfl
          · simp only [List.getElem?_cons_zero, Option.some.injEq] at ho
            subst ho

            go_simp
            first | exact rfl | exact ⟨rfl, rfl⟩
          · simp only [List.getElem?_cons_zero, List.getElem?_cons_succ, Option.some.injEq] at ho
            subst ho
            have g0 := hh.got 0 _ 23 rfl rfl ⟨⟨0, .data⟩, by simp, rfl, rfl⟩ (by simp)
            simp [mixV, im7] at g0
            have hs2 : s ≤ 2 := hwt 2 (by decide) (by kernel_rfl)
            obtain ⟨_, _, _, _, _, _⟩ := cells3f (HS.out.box (by omega))
            go_simp
            first | exact rfl | exact ⟨rfl, rfl⟩
          · simp only [List.getElem?_cons_zero, List.getElem?_cons_succ, Option.some.injEq] at ho
            subst ho

            go_simp
            first | exact rfl | exact ⟨rfl, rfl⟩
          · simp only [List.getElem?_cons_zero, List.getElem?_cons_succ, Option.some.injEq] at ho
            subst ho
            have g2 := hh.got 2 _ 25 rfl rfl ⟨⟨2, .data⟩, by simp, rfl, rfl⟩ (by simp)
            simp [mixV, im7] at g2
            go_simp
            first | exact rfl | exact ⟨rfl, rfl⟩
          · simp only [List.getElem?_cons_zero, List.getElem?_cons_succ, Option.some.injEq] at ho
            subst ho
            have g3 := hh.got 3 _ 26 rfl rfl ⟨⟨3, .data⟩, by simp, rfl, rfl⟩ (by simp)
            simp [mixV, im7] at g3
            go_simp
            first | exact rfl | exact ⟨rfl, rfl⟩
          · simp only [List.getElem?_cons_zero, List.getElem?_cons_succ, Option.some.injEq] at ho
            subst ho

            go_simp
            first | exact rfl | exact ⟨rfl, rfl⟩
          · simp only [List.getElem?_cons_zero, List.getElem?_cons_succ, Option.some.injEq] at ho
            subst ho
            have g5 := hh.got 5 _ 28 rfl rfl ⟨⟨5, .data⟩, by simp, rfl, rfl⟩ (by simp)
            simp [mixV, im7] at g5
            go_simp
            first | exact rfl | exact ⟨rfl, rfl⟩
          · simp only [List.getElem?_cons_zero, List.getElem?_cons_succ, Option.some.injEq] at ho
            subst ho
            have g6 := hh.got 6 _ 29 rfl rfl ⟨⟨6, .data⟩, by simp, rfl, rfl⟩ (by simp)
            simp [mixV, im7] at g6
            go_simp
            first | exact rfl | exact ⟨rfl, rfl⟩
          · simp only [List.getElem?_cons_zero, List.getElem?_cons_succ, Option.some.injEq] at ho
            subst ho
            have g7 := hh.got 7 _ 30 rfl rfl ⟨⟨7, .data⟩, by simp, rfl, rfl⟩ (by simp)
            simp [mixV, im7] at g7
            go_simp
            first | exact rfl | exact ⟨rfl, rfl⟩
          · simp only [List.getElem?_cons_zero, List.getElem?_cons_succ, Option.some.injEq] at ho
            subst ho

            go_simp
            first | exact rfl | exact ⟨rfl, rfl⟩
          · simp only [List.getElem?_cons_zero, List.getElem?_cons_succ, Option.some.injEq] at ho
            subst ho
            have g8 := hh.got 8 _ 31 rfl rfl ⟨⟨8, .data⟩, by simp, rfl, rfl⟩ (by simp)
            have g9 := hh.got 9 _ 32 rfl rfl ⟨⟨9, .data⟩, by simp, rfl, rfl⟩ (by simp)
            simp [mixV, im7] at g8 g9
            go_simp
            rw [IntWalk.i64_in _ (by omega)]
            rfl
          · simp only [List.getElem?_cons_zero, List.getElem?_cons_succ, Option.some.injEq] at ho
            subst ho
            have g4 := hh.got 4 _ 27 rfl rfl ⟨⟨4, .data⟩, by simp, rfl, rfl⟩ (by simp)
            have g10 := hh.got 10 _ 33 rfl rfl ⟨⟨10, .data⟩, by simp, rfl, rfl⟩ (by simp)
            simp [mixV, im7] at g4 g10
            go_simp
            go_at_call 80
            refine (row_any z.bs 6 (t + j) (.slice (some ⟨z.rb ((t + j) % 16), 0, none⟩) N N) (by omega) _ (by assumption)).mono ?_
            rintro e w6 ⟨rfl, rfl⟩
            first | exact rfl | exact ⟨rfl, rfl⟩
          · exact absurd hTi (by decide)
          · exact absurd hTi (by decide)
          · exact absurd hTi (by decide)
          · simp only [List.getElem?_cons_zero, List.getElem?_cons_succ, Option.some.injEq] at ho
            subst ho

            go_simp
            first | exact rfl | exact ⟨rfl, rfl⟩
          · exact absurd hTi (by decide)
        case hvy =>
          intro k hv W1 o b' hk ho hS hh hlate
          have hc : k = 0 ∨ k = 1 ∨ k = 2 ∨ k = 3 := by simp at hk; omega
          have k0 := hh.kept 0 (by simp)
          simp at k0
          have k4 := hh.kept 4 (by simp)
          simp at k4
          have k5 := hh.kept 5 (by simp)
          simp at k5
          obtain ⟨gg, rv, dv', hS⟩ := hS
          have hnow1 : W1.cell? ⟨z.bs, 4, none⟩ = some (.int .i64 (t : Int)) := (World.cell?_of_block (hS.old z.bs (by omega) (by omega))).trans HNOW.out
          have hrs1 : W1.cell? ⟨z.bs, 6 + (t + j) % 16, none⟩ = some (.slice (some ⟨z.rb ((t + j) % 16), 0, none⟩) N N) := (World.cell?_of_block (hS.old z.bs (by omega) (by omega))).trans HRS.out
          have hszS := hS.size
          have hzbs1 : z.bs < W1.heap.size := by omega
          have hzb1 : xb < W1.heap.size := by omega
          have HS := Lib.hid hS
          clear hk hS
          rcases hc with rfl | rfl | rfl | rfl
          · change _ = some _ at ho
            simp only [List.getD_cons_zero, List.getElem?_cons_zero, List.getElem?_cons_succ, Option.some.injEq] at ho
            subst ho
            have g11 := hh.got 11 _ 34 rfl rfl ⟨⟨11, .data⟩, by simp, rfl, rfl⟩ (by simp)
            simp [mixV, im7] at g11
            have hbl := HS.out.s0 rfl
            go_simp
            go_at_call 76
            refine (iclone_any (some ⟨z.rb ((t + j) % 16), 0, none⟩) N r N HRL.out hN0 hN1 W1 (HRI.out.keepB fun x hx => (HS.out.old x (by omega) (by omega)).trans (HBW.out.block x hx))).mono ?_
            rintro e w6 ⟨v', rfl, ho6, hb6⟩
            rw [HRL.out] at ho6
            have hb7 : Below wr.heap.size wr w6 := hbl.trans (hb6.mono hbl.size)
            exact ⟨_, rfl, 0, v', undef, hb7.size, fun x hx hn => (hb6.block x (by omega)).trans (HS.out.old x hx hn), fun _ => (hb6.block xb (by omega)).trans (HS.out.box (by omega)), fun h => absurd h (by omega), fun _ => by simp [setV], fun _ => ⟨hb7, own_base ho6 hbl.size⟩, fun h => absurd h (by omega), fun h => absurd h (by omega), fun h => absurd h (by omega), fun h => absurd h (by omega), fun h => absurd h (by omega)⟩
          · change _ = some _ at ho
            simp only [List.getD_cons_zero, List.getD_cons_succ, List.getElem?_cons_zero, List.getElem?_cons_succ, Option.some.injEq] at ho
            subst ho
            have g12 := hh.got 12 _ 35 rfl rfl ⟨⟨12, .data⟩, by simp, rfl, rfl⟩ (by simp)
            simp [mixV] at g12
            have e13 := HS.out.h12 (by omega)
            rw [e13] at g12
            have ha0 := HS.out.a0 rfl
            obtain ⟨va, vc, hva⟩ := own_sl ha0.rvo
            subst hva
            go_simp
            exact ⟨_, rfl, W1.heap.size, _, undef, by simp; omega, fun x hx hn => (Below.heap_alloc _ _ _ (by omega)).trans (HS.out.old x hx hn), fun _ => (Below.heap_alloc _ _ _ (by omega)).trans (HS.out.box (by omega)), fun h => absurd h (by omega), fun _ => by simpa [setV] using e13, fun h => absurd h (by omega), fun _ => by simp [setV], fun _ => ha0.one, fun h => absurd h (by omega), fun h => absurd h (by omega), fun h => absurd h (by omega)⟩
          · change _ = some _ at ho
            simp only [List.getD_cons_zero, List.getD_cons_succ, List.getElem?_cons_zero, List.getElem?_cons_succ, Option.some.injEq] at ho
            subst ho
            have g1 := hh.got 1 _ 24 rfl rfl ⟨⟨1, .data⟩, by simp, rfl, rfl⟩ (by simp)
            have g13 := hh.got 13 _ 36 rfl rfl ⟨⟨13, .data⟩, by simp, rfl, rfl⟩ (by simp)
            simp [mixV, im7] at g1 g13
            have e14 := HS.out.h13 (by omega)
            rw [e14] at g13
            have ha1 := HS.out.a1 rfl
            obtain ⟨va, vc, hva⟩ := own_sl ha1.to0.rvo
            have e0 : b'.eval (.tmp 24) = dv := by simpa [Act.eval] using g1
            have ep : b'.eval (.tmp 36) = .slice (some ⟨gg, 0, none⟩) 1 1 := by simpa [Act.eval] using g13
            obtain ⟨v', w', hr, ha2⟩ := ha1.app HRW.out (by rw [hva]; rfl) hj 62
            unfold Oper.wp execOp
            simp only [resolve, invoke, builtin, Sem.run_bind, Sem.run_pure, Result.andThen_ok, List.map_toArray, List.map_cons, List.map_nil, e0, ep, hr]
            have hdl := fun x hx => (HRW.out.dvo.lt x hx)
            exact ⟨_, rfl, gg, rv, v', ha2.bel.size, fun x hx hn => ha2.bel.block x (by omega) fun e => by have := (hdl x e).1; omega, fun _ => ha2.box, fun h => absurd h (by omega), fun _ => by simpa [setV] using HS.out.h12 (by omega), fun h => absurd h (by omega), fun _ => by simpa [setV] using e14, fun h => absurd h (by omega), fun _ => by simp [setV], fun _ => ha2, fun h => absurd h (by omega)⟩
          · change _ = some _ at ho
            simp only [List.getD_cons_zero, List.getD_cons_succ, List.getElem?_cons_zero, List.getElem?_cons_succ, Option.some.injEq] at ho
            subst ho
            have g15 := hh.got 15 _ 38 rfl rfl ⟨⟨15, .data⟩, by simp, rfl, rfl⟩ (by simp)
            have g14 := hh.got 14 _ 37 rfl rfl ⟨⟨14, .data⟩, by simp, rfl, rfl⟩ (by simp)
            simp [mixV, im7] at g15 g14
            have e15 := HS.out.h14 (by omega)
            rw [e15] at g14
            have ha2 := HS.out.a2 rfl
            obtain ⟨va, vc, hva⟩ := own_sl ha2.own
            obtain ⟨_, _, _, _, _, _⟩ := cells3f ha2.box
            subst hva
            go_simp
            exact ⟨undef, gg, rv, _, by simp [World.setCell]; omega, fun x hx hn => (by simp [World.setCell, Array.getElem?_modify, Ne.symm hn] : (W1.setCell ⟨xb, 2, none⟩ _).heap[x]? = W1.heap[x]?).trans (HS.out.old x hx hn), fun h => absurd h (by omega), fun h => absurd h (by omega), fun _ => by simpa [setV] using HS.out.h12 (by omega), fun h => absurd h (by omega), fun _ => by simpa [setV] using HS.out.h13 (by omega), fun h => absurd h (by omega), fun _ => by simpa [setV] using e15, fun h => absurd h (by omega), fun _ => ⟨W1, ha2, rfl⟩⟩
        case dn =>
          intro hv W1 b' hS hb
          obtain ⟨gg, rv, dv', hS⟩ := hS
          have e12 := hS.h12 (by decide)
          have e13 := hS.h13 (by decide)
          have e14 := hS.h14 (by decide)
          obtain ⟨W2, ha2, hW2⟩ := hS.a3 rfl
          clear hS
          have m0 : mixV [12, 13, 14, 16] hv (im7 z.bs xb t j (z.rb ((t + j) % 16)) N dv) 0 = (im7 z.bs xb t j (z.rb ((t + j) % 16)) N dv) 0 := rfl
          have m1 : mixV [12, 13, 14, 16] hv (im7 z.bs xb t j (z.rb ((t + j) % 16)) N dv) 1 = (im7 z.bs xb t j (z.rb ((t + j) % 16)) N dv) 1 := rfl
          have m2 : mixV [12, 13, 14, 16] hv (im7 z.bs xb t j (z.rb ((t + j) % 16)) N dv) 2 = (im7 z.bs xb t j (z.rb ((t + j) % 16)) N dv) 2 := rfl
          have m3 : mixV [12, 13, 14, 16] hv (im7 z.bs xb t j (z.rb ((t + j) % 16)) N dv) 3 = (im7 z.bs xb t j (z.rb ((t + j) % 16)) N dv) 3 := rfl
          have m4 : mixV [12, 13, 14, 16] hv (im7 z.bs xb t j (z.rb ((t + j) % 16)) N dv) 4 = (im7 z.bs xb t j (z.rb ((t + j) % 16)) N dv) 4 := rfl
          have m5 : mixV [12, 13, 14, 16] hv (im7 z.bs xb t j (z.rb ((t + j) % 16)) N dv) 5 = (im7 z.bs xb t j (z.rb ((t + j) % 16)) N dv) 5 := rfl
          have m6 : mixV [12, 13, 14, 16] hv (im7 z.bs xb t j (z.rb ((t + j) % 16)) N dv) 6 = (im7 z.bs xb t j (z.rb ((t + j) % 16)) N dv) 6 := rfl
          have m7 : mixV [12, 13, 14, 16] hv (im7 z.bs xb t j (z.rb ((t + j) % 16)) N dv) 7 = (im7 z.bs xb t j (z.rb ((t + j) % 16)) N dv) 7 := rfl
          have m8 : mixV [12, 13, 14, 16] hv (im7 z.bs xb t j (z.rb ((t + j) % 16)) N dv) 8 = (im7 z.bs xb t j (z.rb ((t + j) % 16)) N dv) 8 := rfl
          have m9 : mixV [12, 13, 14, 16] hv (im7 z.bs xb t j (z.rb ((t + j) % 16)) N dv) 9 = (im7 z.bs xb t j (z.rb ((t + j) % 16)) N dv) 9 := rfl
          have m10 : mixV [12, 13, 14, 16] hv (im7 z.bs xb t j (z.rb ((t + j) % 16)) N dv) 10 = (im7 z.bs xb t j (z.rb ((t + j) % 16)) N dv) 10 := rfl
          have m11 : mixV [12, 13, 14, 16] hv (im7 z.bs xb t j (z.rb ((t + j) % 16)) N dv) 11 = (im7 z.bs xb t j (z.rb ((t + j) % 16)) N dv) 11 := rfl
          have m12 : mixV [12, 13, 14, 16] hv (im7 z.bs xb t j (z.rb ((t + j) % 16)) N dv) 12 = rv := e12
          have m13 : mixV [12, 13, 14, 16] hv (im7 z.bs xb t j (z.rb ((t + j) % 16)) N dv) 13 = .slice (some ⟨gg, 0, none⟩) 1 1 := e13
          have m14 : mixV [12, 13, 14, 16] hv (im7 z.bs xb t j (z.rb ((t + j) % 16)) N dv) 14 = dv' := e14
          have m15 : mixV [12, 13, 14, 16] hv (im7 z.bs xb t j (z.rb ((t + j) % 16)) N dv) 15 = (im7 z.bs xb t j (z.rb ((t + j) % 16)) N dv) 15 := rfl
          have m16 : mixV [12, 13, 14, 16] hv (im7 z.bs xb t j (z.rb ((t + j) % 16)) N dv) 16 = hv 16 := rfl
          simp only [puts, m0, m1, m2, m3, m4, m5, m6, m7, m8, m9, m10, m11, m12, m13, m14, m15, m16, im7] at hb
          clear m0 m1 m2 m3 m4 m5 m6 m7 m8 m9 m10 m11 m12 m13 m14 m15 m16
          subst hb
          simp only [Act.put, List.setIfInBounds_toArray, List.set_cons_succ, List.set_cons_zero]
          clear e12 e13 e14
          obtain ⟨nb, nc, hrv, hRn, hBn⟩ := ha2.next HRW.out HR0.out hN0
          rw [← hW2] at hRn hBn
          have hdl := fun x hx => (HRW.out.dvo.lt x hx)
          have hbw2 : Below w.heap.size w W1 := HBW.out.trans ⟨hBn.os, hBn.tape, hBn.output, hBn.size, fun x hx => hBn.block x (by have := HBW.out.size; omega) (by rintro (e | e); omega; have := (hdl x e).1; omega)⟩
          have hst2 : W1.ownsRow w.heap.size 98 2 (.slice (some ⟨sb, 0, none⟩) N sc) N (stC st) := ownsRow_of_block HSTW.out fun x hx => hBn.block x (HSTW.out.lt x hx).2 (by cases hx; rintro (e | e); exact hbsb e; have := (hdl sb e).1; omega)
          have hrc2 : W1.heap[w.heap.size]? = some (.cells #[.int .i64 0, .slice none 0 0, .slice none 0 0] 66) := (hBn.block _ (lt_of_block HRES.out) (by rintro (e | e); omega; have := (hdl _ e).1; omega)).trans HRES.out
          clear hW2 hBn hrv
          go_wp2
          go_roundw
          case rel => exact ⟨j + 1, _, _, _, by omega, by go_num, hRn, hbw2, hst2, hrc2⟩
          case measure => simp [intOf]; omega
      · have hj6 : j = 16 := by omega
        subst hj6
        clear hR hB hX hres
        have hbx := HRW.out.box
        obtain ⟨_, _, _, _, _, _⟩ := cells3f (show wr.heap[xb]? = some (.cells #[.int .i64 (t : Int), .slice (some ⟨sb, 0, none⟩) N sc, dv] 66) from hbx)
        obtain ⟨_, _, _, _, _, _⟩ := cells3f HRES.out
        obtain ⟨db, dc, hdv⟩ := own_form HRW.out.dvo (by omega)
        subst hdv
        have hzn : w.heap.size < wr.heap.size := lt_of_block HRES.out
        have hzb1 := lt_of_block hbx
        clear hbx
        go_wp2
        have hn2 : (((wr.setCell ⟨w.heap.size, 0, none⟩ (.int .i64 (t : Int))).setCell ⟨w.heap.size, 1, none⟩ (.slice (some ⟨sb, 0, none⟩) N sc)).setCell ⟨w.heap.size, 2, none⟩ (.slice (some ⟨db, 0, none⟩) 16 dc)).heap[w.heap.size]? = some (.cells #[.int .i64 (t : Int), .slice (some ⟨sb, 0, none⟩) N sc, .slice (some ⟨db, 0, none⟩) 16 dc] 66) := by
          have := HRES.out
          simp [World.setCell, Array.getElem?_modify, this]
        have hk2 : ∀ x, x ≠ w.heap.size → (((wr.setCell ⟨w.heap.size, 0, none⟩ (.int .i64 (t : Int))).setCell ⟨w.heap.size, 1, none⟩ (.slice (some ⟨sb, 0, none⟩) N sc)).setCell ⟨w.heap.size, 2, none⟩ (.slice (some ⟨db, 0, none⟩) 16 dc)).heap[x]? = wr.heap[x]? := fun x hx => by simp [World.setCell, Array.getElem?_modify, Ne.symm hx]
        have hb2 := ((HBW.out.setCell (p := ⟨w.heap.size, 0, none⟩) (Nat.le_refl _) (.int .i64 (t : Int))).setCell (p := ⟨w.heap.size, 1, none⟩) (Nat.le_refl _) (.slice (some ⟨sb, 0, none⟩) N sc)).setCell (p := ⟨w.heap.size, 2, none⟩) (Nat.le_refl _) (.slice (some ⟨db, 0, none⟩) 16 dc)
        have hz2 : (((wr.setCell ⟨w.heap.size, 0, none⟩ (.int .i64 (t : Int))).setCell ⟨w.heap.size, 1, none⟩ (.slice (some ⟨sb, 0, none⟩) N sc)).setCell ⟨w.heap.size, 2, none⟩ (.slice (some ⟨db, 0, none⟩) 16 dc)).heap.size = wr.heap.size := by simp [World.setCell]
        refine bodyPost_ret (v := .tuple #[.agg #[.int .i64 (t : Int), .slice (some ⟨sb, 0, none⟩) N sc, .slice (some ⟨db, 0, none⟩) 16 dc], .int .i64 0]) ?_ rfl ⟨_, rfl, ?_, hb2⟩
        · rw [results_cell_tmp rfl]
          simp [asAddr, run_loadVar_row _ w.heap.size 66 66 _ (0, 0) _ hn2 Try.underlying66 rfl (by kernel_rfl)]
        · generalize ((wr.setCell ⟨w.heap.size, 0, none⟩ (.int .i64 (t : Int))).setCell ⟨w.heap.size, 1, none⟩ (.slice (some ⟨sb, 0, none⟩) N sc)).setCell ⟨w.heap.size, 2, none⟩ (.slice (some ⟨db, 0, none⟩) 16 dc) = W9 at *
          have hX9 := ownsRow_of_block HSTW.out (A' := W9) fun g hg => hk2 g (by cases hg; exact Nat.ne_of_gt hsw)
          have hR9 := HRW.out.keep (A' := W9) (fun x hx _ => hk2 x (by rcases hx with hx | hx <;> omega)) (by omega)
          refine ⟨_, _, rfl, ?_, rowsIn_of hR9 imgOf_len (fun k r hr => (imgOf_row k r hr).trans HN.out)⟩
          exact stsAt_of_owns hX9 HL.out
end Go.Proofs.Ytgbcdebnanejpaa
namespace Go.Proofs.Ytgbcdebnanejpaa
set_option linter.unusedVariables false
open Go.RowKit Go.Shelf

/-- What net's Step leaves. -/
def StepOut (n : NetM) (B : Nat) (z : SimZ) (t : Nat) (st : List (Int × Int)) (due : Due) (ids : List Int) (w : World) (e : Ending) (w' : World) : Prop :=
  if t = 10000 then e = .returned (.tuple #[.slice none 0 0, .int .i64 8]) ∧ w = w' else ∃ v, e = .returned (.tuple #[v, .int .i64 0]) ∧ TickOut n B z t st due ids w (.returned v) w'
def RStepOut (n : NetM) (B : Nat) (z : RZ) (a1 a2 : Option Addr) (c1 c2 t : Nat) (st : List (Int × Int)) (due : Due) (ids : List Int) (w : World) (e : Ending) (w' : World) : Prop :=
  if t = 10000 then e = .returned (.tuple #[.slice none 0 0, .int .i64 8]) ∧ w = w' else ∃ v, e = .returned (.tuple #[v, .int .i64 0]) ∧ RefGoOut n B z a1 a2 c1 c2 t st due ids w (.returned v) w'
set_option maxRecDepth 100000 in
set_option maxHeartbeats 4000000 in
theorem step_nil (n : NetM) (hok : NetOk n) (B : Nat) (z : SimZ) (t : Nat) (st : List (Int × Int)) (due : Due) (ht : t ≤ 10000) (hst : StOk n.ps st) (w : World) (h : SimAt n w B z t t st due) :
    Calls Try.prog 43 #[.pointer (some ⟨z.bs, 0, none⟩), .slice none 0 0] w (StepOut n B z t st due [] w) := by
  have htk := tick_any n hok B z t st due (by omega) hst [] (fun x hx => by simp at hx) none 0 (by simp) w h (Or.inl ⟨rfl, rfl⟩) (fun g hg => by simp [Value.ownBlock] at hg)
  obtain ⟨h0, _, _, _, h4, _⟩ := h.head
  have ht0 : (0 : Int) ≤ (t : Int) := Int.natCast_nonneg _
  have HTK := Lib.hid htk
  clear htk h hok hst
  unfold StepOut
  by_cases hq : t = 10000
  · simp only [if_pos hq]
    have g1 : ((t : Int) == 10000) = true := by simp; omega
    go_enter Try.func43, Try.ntmps43
    go_wp2_with (go_at_call 78; refine (made_any z.bs _ (by assumption)).mono ?_; rintro e wq ⟨rfl, rfl⟩)
    go_ret2
    exact ⟨rfl, rfl⟩
  · simp only [if_neg hq]
    have g1 : ((t : Int) == 10000) = false := by simp; omega
    go_enter Try.func43, Try.ntmps43
    go_wp2_with (go_at_call 78; refine (made_any z.bs _ (by assumption)).mono ?_; rintro e wq ⟨rfl, rfl⟩)
    go_loopw [18] (fun i wr => i = .int .i64 0 ∧ wr = w) (fun _ _ => 0)
    case atStart => exact ⟨rfl, rfl⟩
    case round =>
      obtain ⟨rfl, rfl⟩ := hrel
      go_wp2_with (go_at_call 61; refine HTK.out.mono ?_; intro e w6 hx; have HX := Lib.hid hx; obtain ⟨v, rfl⟩ : ∃ v, e = .returned v := (by have := HX.out; unfold TickOut at this; obtain ⟨v, h1, _⟩ := this; exact ⟨v, h1⟩); clear hx)
      go_ret2
      exact ⟨v, rfl, HX.out⟩
set_option maxRecDepth 100000 in
set_option maxHeartbeats 4000000 in
theorem rstep_nil (n : NetM) (hok : NetOk n) (B : Nat) (z : RZ) (a1 a2 : Option Addr) (c1 c2 t : Nat) (st : List (Int × Int)) (due : Due) (ht : t ≤ 10000) (hst : StOk n.ps st) (hrng : ∀ a i, rng64 (due a i)) (hzero : ∀ a i, t + 16 ≤ a → due a i = 0) (w : World) (h : RefAt n w B z a1 a2 c1 c2 t t st due) (hB : B ≤ w.heap.size) :
    Calls Try.prog 44 #[.pointer (some ⟨z.bs, 0, none⟩), .slice none 0 0] w (RStepOut n B z a1 a2 c1 c2 t st due [] w) := by
  have htk := refGo_any n hok B z a1 a2 c1 c2 t st due (by omega) hst hrng hzero [] (fun x hx => by simp at hx) List.nodup_nil none 0 (by simp) w h hB (Or.inl ⟨rfl, rfl⟩) (fun g hg => by simp [Value.ownBlock] at hg)
  obtain ⟨_, _, _, h4, _, _⟩ := cells6 h.blk
  have ht0 : (0 : Int) ≤ (t : Int) := Int.natCast_nonneg _
  have HTK := Lib.hid htk
  clear htk h hok hst hrng hzero
  unfold RStepOut
  by_cases hq : t = 10000
  · simp only [if_pos hq]
    have g1 : ((10000 : Int) ≤ (t : Int)) = True := by simp; omega
    go_enter Try.func44, Try.ntmps44
    go_wp2
    go_ret2
    exact ⟨rfl, rfl⟩
  · simp only [if_neg hq]
    have g1 : ((10000 : Int) ≤ (t : Int)) = False := by simp; omega
    go_enter Try.func44, Try.ntmps44
    go_wp2
    go_loopw [6] (fun i wr => i = .int .i64 0 ∧ wr = w) (fun _ _ => 0)
    case atStart => exact ⟨rfl, rfl⟩
    case round =>
      obtain ⟨rfl, rfl⟩ := hrel
      go_wp2_with (go_at_call 64; refine HTK.out.mono ?_; intro e w6 hx; have HX := Lib.hid hx; obtain ⟨v, rfl⟩ : ∃ v, e = .returned v := (by have := HX.out; unfold RefGoOut at this; obtain ⟨v, z', h1, _⟩ := this; exact ⟨v, h1⟩); clear hx)
      go_ret2
      exact ⟨v, rfl, HX.out⟩
end Go.Proofs.Ytgbcdebnanejpaa
