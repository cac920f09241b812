/- Rows of rows that grow: one append of an own row, in stages. Over this seat's program. -/
import Derived.Test.YtgbcdebnanejpaaUd
import Derived.Test.YtgbcdebnanejpaaDc
namespace Go.Proofs.Ytgbcdebnanejpaa
set_option linter.unusedVariables false
open Go.RowKit Go.Shelf

def rowsL (N : Nat) (rb rc : Nat → Nat) (j : Nat) : List Value := (List.range j).map fun d => .slice (some ⟨rb d, 0, none⟩) N (rc d)
/-- The block b holds 'pre' and a list of j rows. -/
structure RowsI (A : World) (H b bt : Nat) (pre : List Value) (N j : Nat) (dv : Value) (du : List (List Int)) (rb rc : Nat → Nat) : Prop where
  box : A.heap[b]? = some (.cells (pre ++ [dv]).toArray bt)
  dvo : A.ownsRow H 44 1 dv j (rowsL N rb rc j)
  row : ∀ d r, d < j → du[d]? = some r → A.ownsRow H 3 1 (.slice (some ⟨rb d, 0, none⟩) N (rc d)) N (r.map (Value.int .i64))
  len : j ≤ du.length
  inj : ∀ d d', d < j → d' < j → rb d = rb d' → d = d'
  ap : ∀ d, d < j → dv.ownBlock ≠ some (rb d)
  bH : b < H
  hH : H ≤ A.heap.size
theorem RowsI.rlt {A : World} {H b bt N j : Nat} {pre : List Value} {dv : Value} {du : List (List Int)} {rb rc : Nat → Nat} (h : RowsI A H b bt pre N j dv du rb rc) {d : Nat} (hd : d < j) : H ≤ rb d ∧ rb d < A.heap.size := by
  obtain ⟨r, hr⟩ : ∃ r, du[d]? = some r := ⟨_, List.getElem?_eq_getElem (by have := h.len; omega)⟩
  exact (h.row d r hd hr).lt (rb d) rfl
theorem RowsI.keep {A A' : World} {H b bt N j : Nat} {pre : List Value} {dv : Value} {du : List (List Int)} {rb rc : Nat → Nat} (h : RowsI A H b bt pre N j dv du rb rc) (hb : ∀ x, x = b ∨ H ≤ x → x < A.heap.size → A'.heap[x]? = A.heap[x]?) (hs : A.heap.size ≤ A'.heap.size) : RowsI A' H b bt pre N j dv du rb rc :=
  ⟨(hb _ (.inl rfl) (lt_of_block h.box)).trans h.box, ownsRow_of_block h.dvo fun g hg => hb g (.inr (h.dvo.lt g hg).1) (h.dvo.lt g hg).2, fun d r hd hr => ownsRow_of_block (h.row d r hd hr) fun g hg => hb g (.inr ((h.row d r hd hr).lt g hg).1) ((h.row d r hd hr).lt g hg).2, h.len, h.inj, h.ap, h.bH, Nat.le_trans h.hH hs⟩
/-- Before the append: the new row is there. -/
structure Ap0 (A W : World) (H b bt : Nat) (pre : List Value) (N j : Nat) (dv : Value) (rows : List Value) (r : List Int) (rv : Value) : Prop where
  bel : Below A.heap.size A W
  rvo : W.ownsRow A.heap.size 3 1 rv N (r.map (Value.int .i64))
structure Ap1 (A W : World) (H b bt : Nat) (pre : List Value) (N j : Nat) (dv : Value) (rows : List Value) (r : List Int) (rv : Value) (g : Nat) : Prop where
  to0 : Ap0 A W H b bt pre N j dv rows r rv
  g0 : A.heap.size ≤ g
  one : W.heap[g]? = some (.cells #[rv] 44)
structure Ap2 (A W : World) (H b bt : Nat) (pre : List Value) (N j : Nat) (dv : Value) (rows : List Value) (r : List Int) (rv dv' : Value) : Prop where
  bel : Bel (fun x => dv.ownBlock = some x) A.heap.size A W
  rvo : W.ownsRow A.heap.size 3 1 rv N (r.map (Value.int .i64))
  own : W.ownsRow H 44 1 dv' (j + 1) (rows ++ [rv])
  wh : dv'.ownBlock = dv.ownBlock ∨ ∃ x, dv'.ownBlock = some x ∧ A.heap.size ≤ x
  ne : ∀ x, rv.ownBlock = some x → dv'.ownBlock ≠ some x
  box : W.heap[b]? = some (.cells (pre ++ [dv]).toArray bt)
section
variable {A W : World} {H b bt N j : Nat} {pre : List Value} {dv rv : Value} {du : List (List Int)} {rb rc : Nat → Nat} {r : List Int} {g : Nat}
theorem Ap0.one (h : Ap0 A W H b bt pre N j dv (rowsL N rb rc j) r rv) : Ap1 A (W.alloc (.cells #[rv] 44)) H b bt pre N j dv (rowsL N rb rc j) r rv W.heap.size :=
  ⟨⟨h.bel.alloc h.bel.size _, ownsRow_of_block h.rvo fun g hg => Below.heap_alloc _ _ _ (h.rvo.lt g hg).2⟩, h.bel.size, alloc_new_at _ _ _ rfl⟩
theorem Ap1.app (h : Ap1 A W H b bt pre N j dv (rowsL N rb rc j) r rv g) (hR : RowsI A H b bt pre N j dv du rb rc) (h1 : rv.oneCell' = true) (hj : j ≤ 16) (ty : TypeId) :
    ∃ v' W', (Builtin.append_ #[62, 62] ty #[dv, .slice (some ⟨g, 0, none⟩) 1 1]).run Try.prog W = .ok v' W' ∧ Ap2 A W' H b bt pre N j dv (rowsL N rb rc j) r rv v' := by
  obtain ⟨i0, hi, hz0, hzz1, hzz2⟩ := info_parts info44s
  have hb := h.to0.bel
  have hz := hb.size
  have hr : W.ownsRow H 44 1 dv j (rowsL N rb rc j) := ownsRow_of_block hR.dvo fun x hx => hb.block x (hR.dvo.lt x hx).2
  have hlg := lt_of_block h.one
  have hc : ∀ (q : Nat) u, [rv][q]? = some u → W.cell? ((⟨g, 0, none⟩ : Addr).add q) = some u := fun q u hu => by
    match q, hu with
    | 0, hu =>
      simp at hu; subst hu
      show W.cell? ⟨g, 0, none⟩ = _
      simp [World.cell?, h.one]
    | q + 1, hu => simp at hu
  obtain ⟨v', W', hrun, ho, hg, _⟩ := run_append_own (P := Try.prog) W H 62 ty 44 i0 (.slice none 0 0) 1 24 Try.underlying62 hi hz0 hzz1 hzz2 rfl (by decide) dv j (rowsL N rb rc j) hr ⟨g, 0, none⟩ 1 1 [rv] rfl hc (by simpa using h1) (by unfold maxLen; omega) (by omega) (by have := hR.hH; omega)
  have hw := run_append_where (P := Try.prog) W H 62 ty 44 i0 (.slice none 0 0) 1 24 Try.underlying62 hi hz0 hzz1 hzz2 dv j (rowsL N rb rc j) hr ⟨g, 0, none⟩ 1 1 (by decide) [rv] rfl hc (by simpa using h1) (by unfold maxLen; omega) (by have := hR.hH; omega) v' W' hrun
  have hdl := fun x hx => (hR.dvo.lt x hx)
  have hlb := lt_of_block hR.box
  refine ⟨v', W', hrun, ?_, ownsRow_of_block h.to0.rvo fun x hx => hg.block x (h.to0.rvo.lt x hx).2 fun e => ?_, ho, ?_, fun x hx e => ?_, (hg.block b (by omega) fun e => ?_).trans ((hb.block b hlb).trans hR.box)⟩
  · exact ⟨hg.os.trans hb.os, hg.tape.trans hb.tape, hg.output.trans hb.output, Nat.le_trans hz hg.size, fun x hx hn => (hg.block x (by omega) fun e => hn e.symm).trans (hb.block x hx)⟩
  · have := (h.to0.rvo.lt x hx).1
    have := (hdl x e.symm).2
    omega
  · rcases hw with h2 | h2
    · exact .inl h2
    · exact .inr ⟨_, h2, hz⟩
  · have q1 := h.to0.rvo.lt x hx
    rcases hw with h2 | h2
    · have := (hdl x (h2.symm.trans e)).2; omega
    · rw [h2] at e
      have := Option.some.inj e
      omega
  · have := (hdl b e.symm).1
    have := hR.bH
    omega
theorem Ap2.next {dv' : Value} (h : Ap2 A W H b bt pre N j dv (rowsL N rb rc j) r rv dv') (hR : RowsI A H b bt pre N j dv du rb rc) (hr : du[j]? = some r) (hN : 1 ≤ N) :
    ∃ nb nc, rv = .slice (some ⟨nb, 0, none⟩) N nc ∧ RowsI (W.setCell ⟨b, pre.length, none⟩ dv') H b bt pre N (j + 1) dv' du (fun d => if d = j then nb else rb d) (fun d => if d = j then nc else rc d) ∧
      Bel (fun x => x = b ∨ dv.ownBlock = some x) A.heap.size A (W.setCell ⟨b, pre.length, none⟩ dv') := by
  obtain ⟨nb, nc, hrv⟩ := own_form h.rvo (by omega)
  have e : ∀ x, x ≠ b → (W.setCell ⟨b, pre.length, none⟩ dv').heap[x]? = W.heap[x]? := fun x hx => by simp [World.setCell, Array.getElem?_modify, Ne.symm hx]
  have hbH := hR.bH
  have hHA := hR.hH
  have hz := h.bel.size
  have q1 := h.rvo.lt nb (by rw [hrv]; rfl)
  have hrl := fun d (hd : d < j) => hR.rlt hd
  have hnn : ∀ d, d < j → W.heap[rb d]? = A.heap[rb d]? := fun d hd => h.bel.block (rb d) (hrl d hd).2 fun q => hR.ap d hd q
  refine ⟨nb, nc, hrv, ⟨?_, ?_, fun d r' hd hr' => ?_, ?_, fun d d' hd hd' q => ?_, fun d hd => ?_, hbH, by simp [World.setCell]; omega⟩, ?_⟩
  · have hx := h.box
    simp [World.setCell, Array.getElem?_modify, hx]
  · have e1 : rowsL N (fun d => if d = j then nb else rb d) (fun d => if d = j then nc else rc d) (j + 1) = rowsL N rb rc j ++ [rv] := by
      unfold rowsL
      rw [List.range_succ, List.map_append]
      congr 1
      · apply List.map_congr_left
        intro d hd
        rw [List.mem_range] at hd
        simp only [if_neg (show ¬ d = j by omega)]
      · simp [hrv]
    rw [e1]
    exact ownsRow_of_block h.own fun x hx => e x (by have := (h.own.lt x hx).1; omega)
  · by_cases q : d = j
    · subst q
      rw [hr] at hr'; cases hr'
      simp only [if_pos]
      rw [← hrv]
      exact own_base (ownsRow_of_block h.rvo fun x hx => e x (by have := (h.rvo.lt x hx).1; omega)) hHA
    · simp only [if_neg q]
      have hd' : d < j := by omega
      have h1 := hR.row d r' hd' hr'
      exact ownsRow_of_block h1 fun x hx => by
        have : x = rb d := by have : some (rb d) = some x := hx; exact (Option.some.inj this).symm
        subst this
        exact (e _ (by have := (hrl d hd').1; omega)).trans (hnn d hd')
  · have := (List.getElem?_eq_some_iff.1 hr).1; omega
  · change (if d = j then nb else rb d) = (if d' = j then nb else rb d') at q
    by_cases p : d = j <;> by_cases p' : d' = j
    · omega
    · rw [if_pos p, if_neg p'] at q
      have := (hrl d' (by omega)).2; omega
    · rw [if_neg p, if_pos p'] at q
      have := (hrl d (by omega)).2; omega
    · rw [if_neg p, if_neg p'] at q
      exact hR.inj d d' (by omega) (by omega) q
  · show dv'.ownBlock ≠ some (if d = j then nb else rb d)
    by_cases p : d = j
    · rw [if_pos p]; exact h.ne nb (by rw [hrv]; rfl)
    · rw [if_neg p]
      intro q
      rcases h.wh with h1 | ⟨x, h1, h2⟩
      · exact hR.ap d (by omega) (h1.symm.trans q)
      · rw [h1] at q
        have := Option.some.inj q
        have := (hrl d (by omega)).2
        omega
  · exact ⟨h.bel.os, h.bel.tape, h.bel.output, by simp [World.setCell]; omega, fun x hx hn => (e x (fun q => hn (.inl q))).trans (h.bel.block x hx (fun q => hn (.inr q)))⟩
end
end Go.Proofs.Ytgbcdebnanejpaa
namespace Go.Proofs.Ytgbcdebnanejpaa
set_option linter.unusedVariables false
open Go.RowKit Go.Shelf

def cp1 (q : Nat) (a1 a2 a3 : Option Addr) (nn c1 mm c2 c3 : Nat) (inp tk : Int) : Nat → Value
  | 0 => .pointer (some ⟨q, 0, none⟩)
  | 1 => .pointer (some ⟨q, 0, none⟩)
  | 2 => .pointer (some ⟨q, 0, none⟩)
  | 3 => .agg #[.slice a1 nn c1, .int .i64 inp, .slice a2 mm c2]
  | 4 => .pointer (some ⟨q, 0, none⟩)
  | 5 => .pointer (some ⟨q, 0, none⟩)
  | 6 => .pointer (some ⟨q, 3, none⟩)
  | 7 => .int .i64 tk
  | 9 => .pointer (some ⟨q, 0, none⟩)
  | 10 => .pointer (some ⟨q, 0, none⟩)
  | 11 => .pointer (some ⟨q, 4, none⟩)
  | 12 => .slice a3 nn c3
  | _ => undef
def cp5 (q b : Nat) (dv : Value) (ab ao c4 j : Nat) (ra : Option Addr) (nn rc : Nat) : Nat → Value
  | 0 => .pointer (some ⟨b, 0, none⟩)
  | 1 => .pointer (some ⟨b, 0, none⟩)
  | 2 => .pointer (some ⟨b, 0, none⟩)
  | 3 => .pointer (some ⟨b, 5, none⟩)
  | 4 => dv
  | 6 => .pointer (some ⟨q, 0, none⟩)
  | 7 => .pointer (some ⟨q, 0, none⟩)
  | 8 => .pointer (some ⟨q, 5, none⟩)
  | 9 => .slice (some ⟨ab, ao, none⟩) 16 c4
  | 10 => .int .i64 (j : Int)
  | 11 => .pointer (some ⟨ab, ao + j, none⟩)
  | 12 => .slice ra nn rc
  | 16 => .pointer (some ⟨b, 0, none⟩)
  | 17 => .pointer (some ⟨b, 5, none⟩)
  | _ => undef
structure CpF (w W : World) (a1 a2 : Option Addr) (nn c1 mm c2 : Nat) (inp tk : Int) (st : List (Int × Int)) (s g b : Nat) (v : Value) (hv : Nat → Value) : Prop where
  bel : Below w.heap.size w W
  h8 : 1 ≤ s → hv 8 = .slice (some ⟨g, 0, none⟩) 0 0
  o8 : s = 1 → W.ownsRow w.heap.size 98 2 (.slice (some ⟨g, 0, none⟩) 0 0) 0 []
  h13 : 2 ≤ s → hv 13 = v
  o13 : 2 ≤ s → W.ownsRow w.heap.size 98 2 v nn (stC st)
  h14 : 3 ≤ s → hv 14 = .agg #[.slice a1 nn c1, .int .i64 inp, .slice a2 mm c2, .int .i64 tk, v, .slice none 0 0]
  h15 : 4 ≤ s → hv 15 = .pointer (some ⟨b, 0, none⟩)
  o15 : 4 ≤ s → w.heap.size ≤ b ∧ v.ownBlock ≠ some b ∧ W.heap[b]? = some (.cells #[.slice a1 nn c1, .int .i64 inp, .slice a2 mm c2, .int .i64 tk, v, .slice none 0 0] 64)
  h16 : 5 ≤ s → hv 16 = .pointer (some ⟨b, 0, none⟩)
theorem run_append_sts (w : World) (base : Nat) (hb : base ≤ w.heap.size) (g ty : Nat) (h : w.ownsRow base 98 2 (.slice (some ⟨g, 0, none⟩) 0 0) 0 []) (a : Option Addr) (n c : Nat) (hn : 1 ≤ n) (hm : n ≤ 1024) (st : List (Int × Int)) (hl : st.length = n) (hs : StsAt w (.slice a n c) st) :
    ∃ v' w', (Builtin.append_ #[61, 61] ty #[.slice (some ⟨g, 0, none⟩) 0 0, .slice a n c]).run Try.prog w = .ok v' w' ∧ w'.ownsRow base 98 2 v' n (stC st) ∧ w.grownBy w' (some g) := by
  obtain ⟨i0, hi, hz0, hzz1, hzz2⟩ := info_parts Bg.infoS
  obtain ⟨s0, hs0⟩ : ∃ s, st[0]? = some s := ⟨_, List.getElem?_eq_getElem (by omega)⟩
  obtain ⟨b, off, rfl, _, _⟩ := hs.at hs0
  obtain ⟨v', w', h1, h2, h3, _⟩ := run_append_own (P := Try.prog) w base 61 ty 98 i0 (.agg #[.int .i64 0, .int .i64 0]) 2 16 Try.underlying61 hi hz0 hzz1 hzz2 rfl (by decide) _ 0 [] h ⟨b, off, none⟩ n c (stC st) (by rw [stC_length, hl]) hs.cellsAll (fun u hu => stC_one hu) (by unfold maxLen; omega) (by omega) hb
  exact ⟨v', w', h1, by simpa using h2, h3⟩
theorem run_append_ints (w : World) (base : Nat) (hb : base ≤ w.heap.size) (g ty : Nat) (h : w.ownsRow base 3 1 (.slice (some ⟨g, 0, none⟩) 0 0) 0 []) (a : Option Addr) (n c : Nat) (hn : 1 ≤ n) (hm : n ≤ 1024) (r : List Int) (hl : r.length = n) (hs : RowIn w (.slice a n c) r) :
    ∃ v' w', (Builtin.append_ #[44, 44] ty #[.slice (some ⟨g, 0, none⟩) 0 0, .slice a n c]).run Try.prog w = .ok v' w' ∧ w'.ownsRow base 3 1 v' n (r.map (Value.int .i64)) ∧ w.grownBy w' (some g) := by
  obtain ⟨i0, hi, hz0, hzz1, hzz2⟩ := info_parts Try.info3
  obtain ⟨s0, hs0⟩ : ∃ s, r[0]? = some s := ⟨_, List.getElem?_eq_getElem (by omega)⟩
  obtain ⟨ad, rfl, _, _⟩ := hs.at hs0
  obtain ⟨v', w', h1, h2, h3, _⟩ := run_append_own (P := Try.prog) w base 44 ty 3 i0 (.int .i64 0) 1 8 Try.underlying44 hi hz0 hzz1 hzz2 rfl (by decide) _ 0 [] h ad n c (r.map (Value.int .i64)) (by simp [hl]) hs.cellsAll (fun u hu => ints_one hu) (by unfold maxLen; omega) (by omega) hb
  exact ⟨v', w', h1, by simpa using h2, h3⟩
theorem RowIn.keepB {w W : World} {u : Value} {r : List Int} (h : RowIn w u r) (hb : ∀ x, x < w.heap.size → W.heap[x]? = w.heap[x]?) : RowIn W u r := by
  obtain ⟨a, c, e, h⟩ := h
  refine ⟨a, c, e, fun j hj => ?_⟩
  obtain ⟨ad, e1, h1⟩ := h j hj
  exact ⟨ad, e1, (World.cell?_of_block (hb _ (World.block_lt_of_cell? w _ h1))).trans h1⟩
structure CqF (wr W : World) (H b : Nat) (pre : List Value) (N j : Nat) (dv : Value) (rows : List Value) (r : List Int) (s g g1 : Nat) (rv dv' : Value) (hv : Nat → Value) : Prop where
  size : wr.heap.size ≤ W.heap.size
  old : ∀ x, x < H → x ≠ b → W.heap[x]? = wr.heap[x]?
  box : s ≤ 4 → W.heap[b]? = some (.cells (pre ++ [dv]).toArray 64)
  h5 : 1 ≤ s → hv 5 = .slice (some ⟨g, 0, none⟩) 0 0
  s1 : s ≤ 1 → Below wr.heap.size wr W
  o5 : s = 1 → W.ownsRow wr.heap.size 3 1 (.slice (some ⟨g, 0, none⟩) 0 0) 0 []
  h13 : 2 ≤ s → hv 13 = rv
  a0 : s = 2 → Ap0 wr W H b 64 pre N j dv rows r rv
  h14 : 3 ≤ s → hv 14 = .slice (some ⟨g1, 0, none⟩) 1 1
  a1 : s = 3 → Ap1 wr W H b 64 pre N j dv rows r rv g1
  h15 : 4 ≤ s → hv 15 = dv'
  a2 : s = 4 → Ap2 wr W H b 64 pre N j dv rows r rv dv'
  a3 : s = 5 → ∃ W2, Ap2 wr W2 H b 64 pre N j dv rows r rv dv' ∧ W = W2.setCell ⟨b, pre.length, none⟩ dv'
theorem rowX_of_owns {W : World} {B g cap N : Nat} {r : List Int} (h : W.ownsRow B 3 1 (.slice (some ⟨g, 0, none⟩) N cap) N (r.map (Value.int .i64))) (hr : r.length = N) : RowX W g N (rowF r) := by
  rcases h.2 with ⟨e, _⟩ | ⟨g', cap', cur, e, _, hg, _, _, hcs, htk⟩
  · cases e
  · cases e
    refine ⟨cur.toList.drop (N * 1), ?_⟩
    rw [hg]
    have : rowC N (rowF r) = r.map (Value.int .i64) := by rw [← hr]; exact rowC_rowF r
    rw [this, ← htk, List.take_append_drop]
theorem copyDone {n : NetM} {N T H b sb sc : Nat} {tk : Int} {st : List (Int × Int)} {du : List (List Int)} {a1 a2 : Option Addr} {c1 c2 : Nat} {w A : World} {dv : Value} {rb rc : Nat → Nat} (hN0 : 1 ≤ N) (hN : n.ps.length = N) (htk : tk = (T : Int)) (hl : st.length = N) (hd : du.length = 16) (hr : ∀ (k : Nat) (r : List Int), du[k]? = some r → r.length = N)
    (hp : PsAt w (.slice a1 N c1) n.ps) (hs : SsAt w (.slice a2 n.ss.length c2) n.ss) (hb : Below w.heap.size w A) (hR : RowsI A H b 64 [.slice a1 N c1, .int .i64 n.inp, .slice a2 n.ss.length c2, .int .i64 tk, .slice (some ⟨sb, 0, none⟩) N sc] N 16 dv du rb rc) (hx : StX A sb st) (hb1 : w.heap.size ≤ b) (hslo : w.heap.size ≤ sb ∧ sb < H) (hbs : sb ≠ b) (hwH : w.heap.size ≤ H) :
    ∃ z : RZ, z.bs = b ∧ RefAt n A w.heap.size z a1 a2 c1 c2 T T st (dueK T du 16) := by
  obtain ⟨db, dc, hdv⟩ := own_form hR.dvo (by omega)
  subst hdv
  subst htk
  have hdl := hR.dvo.lt db rfl
  have hbH := hR.bH
  have hrl := fun d (hd : d < 16) => hR.rlt hd
  subst hN
  refine ⟨⟨b, sb, db, dc, rb, sc, rc⟩, rfl, by simpa using hR.box, hp.below hb, fun g hg => ?_, hs.below hb, fun g hg => ?_, hx, hl, own_base hR.dvo hwH, fun d hd16 => ?_, fun g hg => ?_, hR.inj, fun e => hbs e.symm, by show b ≠ db; omega, by show sb ≠ db; omega, fun d hd => ?_, fun d hd => ?_, fun d hd e => ?_⟩
  · rcases hp with ⟨e, _⟩ | ⟨x, off, cap, e, hl, _⟩
    · rw [e] at hg; cases hg
    · rw [e] at hg; cases hg; exact hl
  · rcases hs with ⟨e, _⟩ | ⟨x, off, cap, e, hl, _⟩
    · rw [e] at hg; cases hg
    · rw [e] at hg; cases hg; exact hl
  · obtain ⟨r, hrd⟩ : ∃ r, du[d]? = some r := ⟨_, List.getElem?_eq_getElem (by omega)⟩
    refine (rowX_of_owns (hR.row d r hd16 hrd) (hr d r hrd)).congr fun i _ => ?_
    unfold dueK
    rw [if_pos (by omega), show T + d - T = d by omega, hrd]
    rfl
  · rcases hg with hg | hg | hg | ⟨d, hd, hg⟩
    · have : g = b := hg; omega
    · have : g = sb := hg; omega
    · have : g = db := hg; omega
    · have : g = rb d := hg
      have := (hrl d hd).1; omega
  · show b ≠ rb d
    have := (hrl d hd).1; omega
  · show sb ≠ rb d
    have := (hrl d hd).1; omega
  · exact hR.ap d hd (by show some db = some (rb d); rw [show db = rb d from e])
set_option maxRecDepth 100000 in
set_option maxHeartbeats 8000000 in
theorem rcopy_any (n : NetM) (N : Nat) (hN : n.ps.length = N) (hN0 : 1 ≤ N) (hN1 : N ≤ 1024) (T q : Nat) (tk : Int) (htk : tk = (T : Int)) (st : List (Int × Int)) (du : List (List Int)) (a1 a2 a3 a4 : Option Addr) (c1 c2 c3 c4 : Nat) (hl : st.length = N) (hd : du.length = 16) (hr : ∀ (k : Nat) (r : List Int), du[k]? = some r → r.length = N) (w : World)
    (hp : PsAt w (.slice a1 N c1) n.ps) (hs : SsAt w (.slice a2 n.ss.length c2) n.ss) (hsrc : w.heap[q]? = some (.cells #[.slice a1 N c1, .int .i64 n.inp, .slice a2 n.ss.length c2, .int .i64 tk, .slice a3 N c3, .slice a4 16 c4] 64)) (hst : StsAt w (.slice a3 N c3) st) (hdu : RowsIn w (.slice a4 16 c4) du) :
    Calls Try.prog 81 #[.pointer (some ⟨q, 0, none⟩)] w fun e w' => ∃ z : RZ, e = .returned (.pointer (some ⟨z.bs, 0, none⟩)) ∧ RefAt n w' w.heap.size z a1 a2 c1 c2 T T st (dueK T du 16) ∧ Below w.heap.size w w' := by
  have hzq := lt_of_block hsrc
  have HP := Lib.hid hp
  have HS0 := Lib.hid hs
  have HSRC := Lib.hid hsrc
  have HST := Lib.hid hst
  have HDU := Lib.hid hdu
  have HL := Lib.hid hl
  have HD := Lib.hid hd
  have HR := Lib.hid hr
  have HN := Lib.hid hN
  have HTK := Lib.hid htk
  clear hp hs hsrc hst hdu hl hd hr hN htk
  go_enter Try.func81, Try.ntmps81
  go_upto_region 1 with (fail)
  refine wp_region_chain [8, 13, 14, 15, 16] (cp1 q a1 a2 a3 N c1 n.ss.length c2 c3 n.inp tk) (fun s hv W => ∃ g b v, CpF w W a1 a2 N c1 n.ss.length c2 n.inp tk st s g b v hv) (by kernel_rfl) (by kernel_rfl) (by kernel_rfl) (by kernel_rfl) (by kernel_rfl) ?ini ?stp ?hvy ?dn
  case ini =>
    exact ⟨0, 0, undef, (Below.refl _ _).drew, fun h => absurd h (by omega), fun h => absurd h (by omega), fun h => absurd h (by omega), fun h => absurd h (by omega), fun h => absurd h (by omega), fun h => absurd h (by omega), fun h => absurd h (by omega), fun h => absurd h (by omega)⟩
  case stp =>
    intro s hv W1 i o b' ho hTi hsT hwt hS hh hlate
    have hi := (List.getElem?_eq_some_iff.1 ho).1
    have hc : i = 0 ∨ i = 1 ∨ i = 2 ∨ i = 3 ∨ i = 4 ∨ i = 5 ∨ i = 6 ∨ i = 7 ∨ i = 8 ∨ i = 9 ∨ i = 10 ∨ i = 11 ∨ i = 12 ∨ i = 13 ∨ i = 14 ∨ i = 15 ∨ i = 16 := by simp at hi; omega
    have k0 := hh.kept 0 (by simp)
    simp at k0
    obtain ⟨g, b, v, hS⟩ := hS
    obtain ⟨_, _, _, _, _, _⟩ := cells6 ((hS.bel.block _ hzq).trans HSRC.out)
    have hzq1 : q < W1.heap.size := Nat.lt_of_lt_of_le hzq hS.bel.size
    have HS := Lib.hid hS
    clear hi hS
    rcases hc with rfl | rfl | rfl | rfl | rfl | rfl | rfl | rfl | rfl | rfl | rfl | rfl | rfl | rfl | rfl | rfl | rfl
    · simp only [List.getElem?_cons_zero, Option.some.injEq] at ho
      subst ho

      go_simp
      first | exact rfl | exact ⟨rfl, rfl⟩
    · simp only [List.getElem?_cons_zero, List.getElem?_cons_succ, Option.some.injEq] at ho
      subst ho
      have g0 := hh.got 0 _ 5 rfl rfl ⟨⟨0, .data⟩, by simp, rfl, rfl⟩ (by simp)
      simp [mixV, cp1] at g0
      go_simp
      first | exact rfl | exact ⟨rfl, rfl⟩
    · simp only [List.getElem?_cons_zero, List.getElem?_cons_succ, Option.some.injEq] at ho
      subst ho
      have g1 := hh.got 1 _ 6 rfl rfl ⟨⟨1, .data⟩, by simp, rfl, rfl⟩ (by simp)
      simp [mixV, cp1] at g1
      go_simp
      first | exact rfl | exact ⟨rfl, rfl⟩
    · simp only [List.getElem?_cons_zero, List.getElem?_cons_succ, Option.some.injEq] at ho
      subst ho
      have g2 := hh.got 2 _ 7 rfl rfl ⟨⟨2, .data⟩, by simp, rfl, rfl⟩ (by simp)
      simp [mixV, cp1] at g2
      go_simp
      first | exact rfl | exact ⟨rfl, rfl⟩
    · simp only [List.getElem?_cons_zero, List.getElem?_cons_succ, Option.some.injEq] at ho
      subst ho

      go_simp
      first | exact rfl | exact ⟨rfl, rfl⟩
    · simp only [List.getElem?_cons_zero, List.getElem?_cons_succ, Option.some.injEq] at ho
      subst ho
      have g4 := hh.got 4 _ 9 rfl rfl ⟨⟨4, .data⟩, by simp, rfl, rfl⟩ (by simp)
      simp [mixV, cp1] at g4
      go_simp
      first | exact rfl | exact ⟨rfl, rfl⟩
    · simp only [List.getElem?_cons_zero, List.getElem?_cons_succ, Option.some.injEq] at ho
      subst ho
      have g5 := hh.got 5 _ 10 rfl rfl ⟨⟨5, .data⟩, by simp, rfl, rfl⟩ (by simp)
      simp [mixV, cp1] at g5
      go_simp
      first | exact rfl | exact ⟨rfl, rfl⟩
    · simp only [List.getElem?_cons_zero, List.getElem?_cons_succ, Option.some.injEq] at ho
      subst ho
      have g6 := hh.got 6 _ 11 rfl rfl ⟨⟨6, .data⟩, by simp, rfl, rfl⟩ (by simp)
      simp [mixV, cp1] at g6
      go_simp
      first | exact rfl | exact ⟨rfl, rfl⟩
    · exact absurd hTi (by decide)
    · simp only [List.getElem?_cons_zero, List.getElem?_cons_succ, Option.some.injEq] at ho
      subst ho

      go_simp
      first | exact rfl | exact ⟨rfl, rfl⟩
    · simp only [List.getElem?_cons_zero, List.getElem?_cons_succ, Option.some.injEq] at ho
      subst ho
      have g9 := hh.got 9 _ 14 rfl rfl ⟨⟨9, .data⟩, by simp, rfl, rfl⟩ (by simp)
      simp [mixV, cp1] at g9
      go_simp
      first | exact rfl | exact ⟨rfl, rfl⟩
    · simp only [List.getElem?_cons_zero, List.getElem?_cons_succ, Option.some.injEq] at ho
      subst ho
      have g10 := hh.got 10 _ 15 rfl rfl ⟨⟨10, .data⟩, by simp, rfl, rfl⟩ (by simp)
      simp [mixV, cp1] at g10
      go_simp
      first | exact rfl | exact ⟨rfl, rfl⟩
    · simp only [List.getElem?_cons_zero, List.getElem?_cons_succ, Option.some.injEq] at ho
      subst ho
      have g11 := hh.got 11 _ 16 rfl rfl ⟨⟨11, .data⟩, by simp, rfl, rfl⟩ (by simp)
      simp [mixV, cp1] at g11
      go_simp
      first | exact rfl | exact ⟨rfl, rfl⟩
    · exact absurd hTi (by decide)
    · exact absurd hTi (by decide)
    · exact absurd hTi (by decide)
    · exact absurd hTi (by decide)
  case hvy =>
    intro k hv W1 o b' hk ho hS hh hlate
    have hc : k = 0 ∨ k = 1 ∨ k = 2 ∨ k = 3 ∨ k = 4 := by simp at hk; omega
    have k0 := hh.kept 0 (by simp)
    simp at k0
    obtain ⟨g, b, v, hS⟩ := hS
    obtain ⟨_, _, _, _, _, _⟩ := cells6 ((hS.bel.block _ hzq).trans HSRC.out)
    have hzq1 : q < W1.heap.size := Nat.lt_of_lt_of_le hzq hS.bel.size
    have HS := Lib.hid hS
    clear hk hS
    rcases hc with rfl | rfl | rfl | rfl | rfl
    · change _ = some _ at ho
      simp only [List.getD_cons_zero, List.getElem?_cons_zero, List.getElem?_cons_succ, Option.some.injEq] at ho
      subst ho

      go_simp
      refine ⟨_, rfl, W1.heap.size, 0, undef, HS.out.bel.alloc HS.out.bel.size _, fun _ => by simp [setV], fun _ => ?_, fun h => absurd h (by omega), fun h => absurd h (by omega), fun h => absurd h (by omega), fun h => absurd h (by omega), fun h => absurd h (by omega), fun h => absurd h (by omega)⟩
      exact ⟨rfl, .inr ⟨W1.heap.size, 0, #[], rfl, HS.out.bel.size, alloc_new_at _ _ _ rfl, Nat.le_refl _, by unfold maxLen; omega, rfl, rfl⟩⟩
    · change _ = some _ at ho
      simp only [List.getD_cons_zero, List.getD_cons_succ, List.getElem?_cons_zero, List.getElem?_cons_succ, Option.some.injEq] at ho
      subst ho
      have g8 := hh.got 8 _ 13 rfl rfl ⟨⟨8, .data⟩, by simp, rfl, rfl⟩ (by simp)
      have g12 := hh.got 12 _ 17 rfl rfl ⟨⟨12, .data⟩, by simp, rfl, rfl⟩ (by simp)
      simp [mixV, cp1] at g8 g12
      have e0 : b'.eval (.tmp 13) = .slice (some ⟨g, 0, none⟩) 0 0 := by have := HS.out.h8 (by omega); simpa [Act.eval, this] using g8
      have ep : b'.eval (.tmp 17) = .slice a3 N c3 := by simpa [Act.eval] using g12
      obtain ⟨v', w', hr, ho', hg⟩ := run_append_sts W1 w.heap.size HS.out.bel.size g 61 (HS.out.o8 rfl) a3 N c3 hN0 hN1 st HL.out (HST.out.below HS.out.bel)
      unfold Oper.wp execOp
      simp only [resolve, invoke, builtin, Sem.run_bind, Sem.run_pure, Result.andThen_ok, List.map_toArray, List.map_cons, List.map_nil, e0, ep, hr]
      refine ⟨_, rfl, g, 0, v', HS.out.bel.grown hg HS.out.bel.size (fun k hk => ?_), fun _ => by simpa [setV] using HS.out.h8 (by omega), fun h => absurd h (by omega), fun _ => by simp [setV], fun _ => ho', fun h => absurd h (by omega), fun h => absurd h (by omega), fun h => absurd h (by omega), fun h => absurd h (by omega)⟩
      cases hk
      exact ((HS.out.o8 rfl).lt g rfl).1
    · change _ = some _ at ho
      simp only [List.getD_cons_zero, List.getD_cons_succ, List.getElem?_cons_zero, List.getElem?_cons_succ, Option.some.injEq] at ho
      subst ho
      have g3 := hh.got 3 _ 8 rfl rfl ⟨⟨3, .data⟩, by simp, rfl, rfl⟩ (by simp)
      have g7 := hh.got 7 _ 12 rfl rfl ⟨⟨7, .data⟩, by simp, rfl, rfl⟩ (by simp)
      have g13 := hh.got 13 _ 18 rfl rfl ⟨⟨13, .data⟩, by simp, rfl, rfl⟩ (by simp)
      simp [mixV, cp1] at g3 g7 g13
      have e13 := HS.out.h13 (by omega)
      rw [e13] at g13
      obtain ⟨va, vc, hva⟩ := own_sl (HS.out.o13 (by omega))
      subst hva
      go_simp
      exact ⟨_, rfl, g, 0, _, HS.out.bel, fun _ => by simpa [setV] using HS.out.h8 (by omega), fun h => absurd h (by omega), fun _ => by simpa [setV] using e13, fun _ => HS.out.o13 (by omega), fun _ => by simp [setV], fun h => absurd h (by omega), fun h => absurd h (by omega), fun h => absurd h (by omega)⟩
    · change _ = some _ at ho
      simp only [List.getD_cons_zero, List.getD_cons_succ, List.getElem?_cons_zero, List.getElem?_cons_succ, Option.some.injEq] at ho
      subst ho
      have g14 := hh.got 14 _ 19 rfl rfl ⟨⟨14, .data⟩, by simp, rfl, rfl⟩ (by simp)
      simp [mixV] at g14
      have e14 := HS.out.h14 (by omega)
      rw [e14] at g14
      have hlv := (HS.out.o13 (by omega)).lt
      go_simp
      refine ⟨_, rfl, g, W1.heap.size, v, HS.out.bel.alloc HS.out.bel.size _, fun _ => by simpa [setV] using HS.out.h8 (by omega), fun h => absurd h (by omega), fun _ => by simpa [setV] using HS.out.h13 (by omega), fun _ => ownsRow_of_block (HS.out.o13 (by omega)) fun x hx => Below.heap_alloc _ _ _ (hlv x hx).2, fun _ => by simpa [setV] using e14, fun _ => by simp [setV], fun _ => ⟨HS.out.bel.size, fun e => ?_, alloc_new_at _ _ _ rfl⟩, fun h => absurd h (by omega)⟩
      have := (hlv _ e).2
      omega
    · change _ = some _ at ho
      simp only [List.getD_cons_zero, List.getD_cons_succ, List.getElem?_cons_zero, List.getElem?_cons_succ, Option.some.injEq] at ho
      subst ho
      have g15 := hh.got 15 _ 20 rfl rfl ⟨⟨15, .data⟩, by simp, rfl, rfl⟩ (by simp)
      simp [mixV] at g15
      have e15 := HS.out.h15 (by omega)
      rw [e15] at g15
      go_simp
      exact ⟨_, rfl, g, b, v, HS.out.bel, fun _ => by simpa [setV] using HS.out.h8 (by omega), fun h => absurd h (by omega), fun _ => by simpa [setV] using HS.out.h13 (by omega), fun _ => HS.out.o13 (by omega), fun _ => by simpa [setV] using HS.out.h14 (by omega), fun _ => by simpa [setV] using e15, fun _ => HS.out.o15 (by omega), fun _ => by simp [setV]⟩
  case dn =>
    intro hv W1 b' hS hb
    obtain ⟨g, b, v, hS⟩ := hS
    have e8 := hS.h8 (by decide)
    have e13 := hS.h13 (by decide)
    have e14 := hS.h14 (by decide)
    have e15 := hS.h15 (by decide)
    have e16 := hS.h16 (by decide)
    have ho := hS.o13 (by decide)
    obtain ⟨hb1, hb2, hb3⟩ := hS.o15 (by decide)
    have hbel := hS.bel
    clear hS
    have m0 : mixV [8, 13, 14, 15, 16] hv (cp1 q a1 a2 a3 N c1 n.ss.length c2 c3 n.inp tk) 0 = (cp1 q a1 a2 a3 N c1 n.ss.length c2 c3 n.inp tk) 0 := rfl
    have m1 : mixV [8, 13, 14, 15, 16] hv (cp1 q a1 a2 a3 N c1 n.ss.length c2 c3 n.inp tk) 1 = (cp1 q a1 a2 a3 N c1 n.ss.length c2 c3 n.inp tk) 1 := rfl
    have m2 : mixV [8, 13, 14, 15, 16] hv (cp1 q a1 a2 a3 N c1 n.ss.length c2 c3 n.inp tk) 2 = (cp1 q a1 a2 a3 N c1 n.ss.length c2 c3 n.inp tk) 2 := rfl
    have m3 : mixV [8, 13, 14, 15, 16] hv (cp1 q a1 a2 a3 N c1 n.ss.length c2 c3 n.inp tk) 3 = (cp1 q a1 a2 a3 N c1 n.ss.length c2 c3 n.inp tk) 3 := rfl
    have m4 : mixV [8, 13, 14, 15, 16] hv (cp1 q a1 a2 a3 N c1 n.ss.length c2 c3 n.inp tk) 4 = (cp1 q a1 a2 a3 N c1 n.ss.length c2 c3 n.inp tk) 4 := rfl
    have m5 : mixV [8, 13, 14, 15, 16] hv (cp1 q a1 a2 a3 N c1 n.ss.length c2 c3 n.inp tk) 5 = (cp1 q a1 a2 a3 N c1 n.ss.length c2 c3 n.inp tk) 5 := rfl
    have m6 : mixV [8, 13, 14, 15, 16] hv (cp1 q a1 a2 a3 N c1 n.ss.length c2 c3 n.inp tk) 6 = (cp1 q a1 a2 a3 N c1 n.ss.length c2 c3 n.inp tk) 6 := rfl
    have m7 : mixV [8, 13, 14, 15, 16] hv (cp1 q a1 a2 a3 N c1 n.ss.length c2 c3 n.inp tk) 7 = (cp1 q a1 a2 a3 N c1 n.ss.length c2 c3 n.inp tk) 7 := rfl
    have m8 : mixV [8, 13, 14, 15, 16] hv (cp1 q a1 a2 a3 N c1 n.ss.length c2 c3 n.inp tk) 8 = .slice (some ⟨g, 0, none⟩) 0 0 := e8
    have m9 : mixV [8, 13, 14, 15, 16] hv (cp1 q a1 a2 a3 N c1 n.ss.length c2 c3 n.inp tk) 9 = (cp1 q a1 a2 a3 N c1 n.ss.length c2 c3 n.inp tk) 9 := rfl
    have m10 : mixV [8, 13, 14, 15, 16] hv (cp1 q a1 a2 a3 N c1 n.ss.length c2 c3 n.inp tk) 10 = (cp1 q a1 a2 a3 N c1 n.ss.length c2 c3 n.inp tk) 10 := rfl
    have m11 : mixV [8, 13, 14, 15, 16] hv (cp1 q a1 a2 a3 N c1 n.ss.length c2 c3 n.inp tk) 11 = (cp1 q a1 a2 a3 N c1 n.ss.length c2 c3 n.inp tk) 11 := rfl
    have m12 : mixV [8, 13, 14, 15, 16] hv (cp1 q a1 a2 a3 N c1 n.ss.length c2 c3 n.inp tk) 12 = (cp1 q a1 a2 a3 N c1 n.ss.length c2 c3 n.inp tk) 12 := rfl
    have m13 : mixV [8, 13, 14, 15, 16] hv (cp1 q a1 a2 a3 N c1 n.ss.length c2 c3 n.inp tk) 13 = v := e13
    have m14 : mixV [8, 13, 14, 15, 16] hv (cp1 q a1 a2 a3 N c1 n.ss.length c2 c3 n.inp tk) 14 = .agg #[.slice a1 N c1, .int .i64 n.inp, .slice a2 n.ss.length c2, .int .i64 tk, v, .slice none 0 0] := e14
    have m15 : mixV [8, 13, 14, 15, 16] hv (cp1 q a1 a2 a3 N c1 n.ss.length c2 c3 n.inp tk) 15 = .pointer (some ⟨b, 0, none⟩) := e15
    have m16 : mixV [8, 13, 14, 15, 16] hv (cp1 q a1 a2 a3 N c1 n.ss.length c2 c3 n.inp tk) 16 = .pointer (some ⟨b, 0, none⟩) := e16
    simp only [puts, m0, m1, m2, m3, m4, m5, m6, m7, m8, m9, m10, m11, m12, m13, m14, m15, m16, cp1] at hb
    clear m0 m1 m2 m3 m4 m5 m6 m7 m8 m9 m10 m11 m12 m13 m14 m15 m16
    subst hb
    simp only [Act.put, List.setIfInBounds_toArray, List.set_cons_succ, List.set_cons_zero]
    clear e8 e13 e14 e15 e16
    obtain ⟨sb, sc, hsv⟩ := own_form ho (by omega)
    subst hsv
    have hslo := ho.lt sb rfl
    have hlb := lt_of_block hb3
    have hbsb : sb ≠ b := fun e => hb2 (by rw [← e]; rfl)
    have hstx : StX W1 sb st := by
      rcases ho.2 with ⟨e, _⟩ | ⟨g', cap, cur, e, _, hg, hc1, _, hcs, htk⟩
      · cases e
      · cases e
        refine ⟨cur.toList.drop (N * 2), ?_⟩
        rw [hg, ← htk, List.take_append_drop]
    have hRI : RowsI W1 W1.heap.size b 64 [.slice a1 N c1, .int .i64 n.inp, .slice a2 n.ss.length c2, .int .i64 tk, .slice (some ⟨sb, 0, none⟩) N sc] N 0 (.slice none 0 0) du (fun _ => 0) (fun _ => 0) :=
      ⟨hb3, World.ownsRow_nil _ _ _ _, fun d r h => absurd h (by omega), Nat.zero_le _, fun d d' h => absurd h (by omega), fun d h => absurd h (by omega), hlb, Nat.le_refl _⟩
    have HRI0 := Lib.hid hRI
    have HBEL := Lib.hid hbel
    have HSTX0 := Lib.hid hstx
    obtain ⟨H, hH⟩ : ∃ H, W1.heap.size = H := ⟨_, rfl⟩
    rw [hH] at HRI0 hslo hlb
    have hwH : w.heap.size ≤ H := by rw [← hH]; exact HBEL.out.size
    clear hRI hbel hstx hH ho hb2 hb3
    go_wp2
    go_loopw [4] (fun s4 wr => ∃ (j : Nat) (dv : Value) (rb rc : Nat → Nat), j ≤ 16 ∧ s4 = .int .i64 j ∧ RowsI wr H b 64 [.slice a1 N c1, .int .i64 n.inp, .slice a2 n.ss.length c2, .int .i64 tk, .slice (some ⟨sb, 0, none⟩) N sc] N j dv du rb rc ∧ Below w.heap.size w wr ∧ StX wr sb st) (fun s4 _ => 16 - (intOf s4).toNat)
    case atStart => exact ⟨0, _, _, _, Nat.zero_le _, rfl, HRI0.out, HBEL.out, HSTX0.out⟩
    case round =>
      obtain ⟨j, dv, rb, rc, hj, rfl, hR, hB, hX⟩ := hrel
      have hj0 : (0 : Int) ≤ (j : Int) := Int.natCast_nonneg _
      have hsrcw := (hB.block _ hzq).trans HSRC.out
      have hHr := hR.hH
      obtain ⟨_, _, _, _, _, _⟩ := cells6 hsrcw
      have HRW := Lib.hid hR
      have HBW := Lib.hid hB
      have HSTX := Lib.hid hX
      have HSRCW := Lib.hid hsrcw
      clear hR hB hX hsrcw
      by_cases hlt : j < 16
      · have hj1 : (j : Int) < 16 := by omega
        obtain ⟨r, hr⟩ : ∃ r, du[j]? = some r := ⟨_, List.getElem?_eq_getElem (by rw [HD.out]; exact hlt)⟩
        obtain ⟨ab, ao, ra, rcq, rfl, hrl, hrc, hri⟩ := HDU.out.at hr
        have hrn : r.length = N := HR.out j r hr
        rw [hrn] at hrc hri
        have HRC := Lib.hid ((HBW.out.cell (p := ⟨ab, ao + j, none⟩) hrl).trans hrc)
        have HRI := Lib.hid hri
        have HR0 := Lib.hid hr
        have HRL := Lib.hid hrn
        clear hr hrc hri hrn
        go_upto_region 5 with (fail)
        refine wp_region_chain [5, 13, 14, 15, 18] (cp5 q b dv ab ao c4 j ra N rcq) (fun s hv W => ∃ g g1 rv dv', CqF wr W H b [.slice a1 N c1, .int .i64 n.inp, .slice a2 n.ss.length c2, .int .i64 tk, .slice (some ⟨sb, 0, none⟩) N sc] N j dv (rowsL N rb rc j) r s g g1 rv dv' hv) (by kernel_rfl) (by kernel_rfl) (by kernel_rfl) (by kernel_rfl) (by kernel_rfl) ?ini ?stp ?hvy ?dn
        case ini =>
          exact ⟨0, 0, undef, undef, Nat.le_refl _, fun x hx hn => rfl, fun _ => HRW.out.box, fun h => absurd h (by omega), fun _ => (Below.refl _ _).drew, fun h => absurd h (by omega), fun h => absurd h (by omega), fun h => absurd h (by omega), fun h => absurd h (by omega), fun h => absurd h (by omega), fun h => absurd h (by omega), fun h => absurd h (by omega), fun h => absurd h (by omega)⟩
        case stp =>
          intro s hv W1 i o b' ho hTi hsT hwt hS hh hlate
          have hi := (List.getElem?_eq_some_iff.1 ho).1
          have hc : i = 0 ∨ i = 1 ∨ i = 2 ∨ i = 3 ∨ i = 4 ∨ i = 5 ∨ i = 6 ∨ i = 7 ∨ i = 8 ∨ i = 9 ∨ i = 10 ∨ i = 11 ∨ i = 12 ∨ i = 13 ∨ i = 14 ∨ i = 15 ∨ i = 16 ∨ i = 17 ∨ i = 18 := by simp at hi; omega
          have k0 := hh.kept 0 (by simp)
          simp at k0
          have k3 := hh.kept 3 (by simp)
          simp at k3
          have k4 := hh.kept 4 (by simp)
          simp at k4
          obtain ⟨g, g1, rv, dv', hS⟩ := hS
          have hqb : q ≠ b := by omega
          obtain ⟨_, _, _, _, _, _⟩ := cells6 ((hS.old q (by omega) hqb).trans HSRCW.out)
          have hzq1 : q < W1.heap.size := by have := hS.size; omega
          have hab1 : W1.cell? ⟨ab, ao + j, none⟩ = some (.slice ra N rcq) := (World.cell?_of_block (hS.old ab (by omega) (by omega))).trans HRC.out
          have hzab : ab < W1.heap.size := by have := hS.size; omega
          have hzb1 : b < W1.heap.size := by have := hS.size; omega
          have hszS := hS.size
          have HS := Lib.hid hS
          clear hi hS
          rcases hc with rfl | rfl | rfl | rfl | rfl | rfl | rfl | rfl | rfl | rfl | rfl | rfl | rfl | rfl | rfl | rfl | rfl | rfl | rfl
          · simp only [List.getElem?_cons_zero, Option.some.injEq] at ho
            subst ho

            go_simp
            first | exact rfl | exact ⟨rfl, rfl⟩
          · simp only [List.getElem?_cons_zero, List.getElem?_cons_succ, Option.some.injEq] at ho
            subst ho

            go_simp
            first | exact rfl | exact ⟨rfl, rfl⟩
          · simp only [List.getElem?_cons_zero, List.getElem?_cons_succ, Option.some.injEq] at ho
            subst ho
            have g1 := hh.got 1 _ 31 rfl rfl ⟨⟨1, .data⟩, by simp, rfl, rfl⟩ (by simp)
            simp [mixV, cp5] at g1
            go_simp
            first | exact rfl | exact ⟨rfl, rfl⟩
          · simp only [List.getElem?_cons_zero, List.getElem?_cons_succ, Option.some.injEq] at ho
            subst ho
            have g2 := hh.got 2 _ 32 rfl rfl ⟨⟨2, .data⟩, by simp, rfl, rfl⟩ (by simp)
            simp [mixV, cp5] at g2
            go_simp
            first | exact rfl | exact ⟨rfl, rfl⟩
          · simp only [List.getElem?_cons_zero, List.getElem?_cons_succ, Option.some.injEq] at ho
            subst ho
            have g3 := hh.got 3 _ 33 rfl rfl ⟨⟨3, .data⟩, by simp, rfl, rfl⟩ (by simp)
            simp [mixV, cp5] at g3
            have hs3 : s ≤ 3 := hwt 3 (by decide) (by kernel_rfl)
            obtain ⟨_, _, _, _, _, _⟩ := cells6 (HS.out.box (by omega))
            go_simp
            first | exact rfl | exact ⟨rfl, rfl⟩
          · exact absurd hTi (by decide)
          · simp only [List.getElem?_cons_zero, List.getElem?_cons_succ, Option.some.injEq] at ho
            subst ho

            go_simp
            first | exact rfl | exact ⟨rfl, rfl⟩
          · simp only [List.getElem?_cons_zero, List.getElem?_cons_succ, Option.some.injEq] at ho
            subst ho
            have g6 := hh.got 6 _ 36 rfl rfl ⟨⟨6, .data⟩, by simp, rfl, rfl⟩ (by simp)
            simp [mixV, cp5] at g6
            go_simp
            first | exact rfl | exact ⟨rfl, rfl⟩
          · simp only [List.getElem?_cons_zero, List.getElem?_cons_succ, Option.some.injEq] at ho
            subst ho
            have g7 := hh.got 7 _ 37 rfl rfl ⟨⟨7, .data⟩, by simp, rfl, rfl⟩ (by simp)
            simp [mixV, cp5] at g7
            go_simp
            first | exact rfl | exact ⟨rfl, rfl⟩
          · simp only [List.getElem?_cons_zero, List.getElem?_cons_succ, Option.some.injEq] at ho
            subst ho
            have g8 := hh.got 8 _ 38 rfl rfl ⟨⟨8, .data⟩, by simp, rfl, rfl⟩ (by simp)
            simp [mixV, cp5] at g8
            go_simp
            first | exact rfl | exact ⟨rfl, rfl⟩
          · simp only [List.getElem?_cons_zero, List.getElem?_cons_succ, Option.some.injEq] at ho
            subst ho

            go_simp
            first | exact rfl | exact ⟨rfl, rfl⟩
          · simp only [List.getElem?_cons_zero, List.getElem?_cons_succ, Option.some.injEq] at ho
            subst ho
            have g9 := hh.got 9 _ 39 rfl rfl ⟨⟨9, .data⟩, by simp, rfl, rfl⟩ (by simp)
            have g10 := hh.got 10 _ 40 rfl rfl ⟨⟨10, .data⟩, by simp, rfl, rfl⟩ (by simp)
            simp [mixV, cp5] at g9 g10
            go_simp
            first | exact rfl | exact ⟨rfl, rfl⟩
          · simp only [List.getElem?_cons_zero, List.getElem?_cons_succ, Option.some.injEq] at ho
            subst ho
            have g11 := hh.got 11 _ 41 rfl rfl ⟨⟨11, .data⟩, by simp, rfl, rfl⟩ (by simp)
            simp [mixV, cp5] at g11
            go_simp
            first | exact rfl | exact ⟨rfl, rfl⟩
          · exact absurd hTi (by decide)
          · exact absurd hTi (by decide)
          · exact absurd hTi (by decide)
          · simp only [List.getElem?_cons_zero, List.getElem?_cons_succ, Option.some.injEq] at ho
            subst ho
            have g0 := hh.got 0 _ 30 rfl rfl ⟨⟨0, .data⟩, by simp, rfl, rfl⟩ (by simp)
            simp [mixV, cp5] at g0
            go_simp
            first | exact rfl | exact ⟨rfl, rfl⟩
          · simp only [List.getElem?_cons_zero, List.getElem?_cons_succ, Option.some.injEq] at ho
            subst ho
            have g16 := hh.got 16 _ 46 rfl rfl ⟨⟨16, .data⟩, by simp, rfl, rfl⟩ (by simp)
            simp [mixV, cp5] at g16
            go_simp
            first | exact rfl | exact ⟨rfl, rfl⟩
          · exact absurd hTi (by decide)
        case hvy =>
          intro k hv W1 o b' hk ho hS hh hlate
          have hc : k = 0 ∨ k = 1 ∨ k = 2 ∨ k = 3 ∨ k = 4 := by simp at hk; omega
          have k0 := hh.kept 0 (by simp)
          simp at k0
          have k3 := hh.kept 3 (by simp)
          simp at k3
          have k4 := hh.kept 4 (by simp)
          simp at k4
          obtain ⟨g, g1, rv, dv', hS⟩ := hS
          have hqb : q ≠ b := by omega
          obtain ⟨_, _, _, _, _, _⟩ := cells6 ((hS.old q (by omega) hqb).trans HSRCW.out)
          have hzq1 : q < W1.heap.size := by have := hS.size; omega
          have hab1 : W1.cell? ⟨ab, ao + j, none⟩ = some (.slice ra N rcq) := (World.cell?_of_block (hS.old ab (by omega) (by omega))).trans HRC.out
          have hzab : ab < W1.heap.size := by have := hS.size; omega
          have hzb1 : b < W1.heap.size := by have := hS.size; omega
          have hszS := hS.size
          have HS := Lib.hid hS
          clear hk hS
          rcases hc with rfl | rfl | rfl | rfl | rfl
          · change _ = some _ at ho
            simp only [List.getD_cons_zero, List.getElem?_cons_zero, List.getElem?_cons_succ, Option.some.injEq] at ho
            subst ho

            have hbl := HS.out.s1 (by omega)
            go_simp
            refine ⟨_, rfl, W1.heap.size, 0, undef, undef, by simp; have := HS.out.size; omega, fun x hx hn => (Below.heap_alloc _ _ _ (by omega)).trans (HS.out.old x hx hn), fun _ => (Below.heap_alloc _ _ _ (by omega)).trans (HS.out.box (by omega)), fun _ => by simp [setV], fun _ => hbl.alloc hbl.size _, fun _ => ?_, fun h => absurd h (by omega), fun h => absurd h (by omega), fun h => absurd h (by omega), fun h => absurd h (by omega), fun h => absurd h (by omega), fun h => absurd h (by omega), fun h => absurd h (by omega)⟩
            exact ⟨rfl, .inr ⟨W1.heap.size, 0, #[], rfl, hbl.size, alloc_new_at _ _ _ rfl, Nat.le_refl _, by unfold maxLen; omega, rfl, rfl⟩⟩
          · change _ = some _ at ho
            simp only [List.getD_cons_zero, List.getD_cons_succ, List.getElem?_cons_zero, List.getElem?_cons_succ, Option.some.injEq] at ho
            subst ho
            have g5 := hh.got 5 _ 35 rfl rfl ⟨⟨5, .data⟩, by simp, rfl, rfl⟩ (by simp)
            have g12 := hh.got 12 _ 42 rfl rfl ⟨⟨12, .data⟩, by simp, rfl, rfl⟩ (by simp)
            simp [mixV, cp5] at g5 g12
            have hbl := HS.out.s1 (by omega)
            have ho5 := HS.out.o5 rfl
            have e0 : b'.eval (.tmp 35) = .slice (some ⟨g, 0, none⟩) 0 0 := by have := HS.out.h5 (by omega); simpa [Act.eval, this] using g5
            have ep : b'.eval (.tmp 42) = .slice ra N rcq := by simpa [Act.eval] using g12
            obtain ⟨v', w', hr, ho', hg⟩ := run_append_ints W1 wr.heap.size hbl.size g 44 ho5 ra N rcq hN0 hN1 r HRL.out (HRI.out.keepB fun x hx => (HS.out.old x (by omega) (by omega)).trans (HBW.out.block x hx))
            unfold Oper.wp execOp
            simp only [resolve, invoke, builtin, Sem.run_bind, Sem.run_pure, Result.andThen_ok, List.map_toArray, List.map_cons, List.map_nil, e0, ep, hr]
            have hlg := (ho5.lt g rfl)
            have hbl' : Below wr.heap.size wr w' := hbl.grown hg hbl.size fun k hk => by cases hk; exact hlg.1
            refine ⟨_, rfl, g, 0, v', undef, hbl'.size, fun x hx hn => (hg.block x (by omega) (fun e => by cases e; omega)).trans (HS.out.old x hx hn), fun _ => (hg.block b (by omega) (fun e => by cases e; omega)).trans (HS.out.box (by omega)), fun _ => by simpa [setV] using HS.out.h5 (by omega), fun h => absurd h (by omega), fun h => absurd h (by omega), fun _ => by simp [setV], fun _ => ⟨hbl', ho'⟩, fun h => absurd h (by omega), fun h => absurd h (by omega), fun h => absurd h (by omega), fun h => absurd h (by omega), fun h => absurd h (by omega)⟩
          · change _ = some _ at ho
            simp only [List.getD_cons_zero, List.getD_cons_succ, List.getElem?_cons_zero, List.getElem?_cons_succ, Option.some.injEq] at ho
            subst ho
            have g13 := hh.got 13 _ 43 rfl rfl ⟨⟨13, .data⟩, by simp, rfl, rfl⟩ (by simp)
            simp [mixV] at g13
            have e13 := HS.out.h13 (by omega)
            rw [e13] at g13
            have ha0 := HS.out.a0 rfl
            obtain ⟨va, vc, hva⟩ := own_sl ha0.rvo
            subst hva
            go_simp
            exact ⟨_, rfl, g, W1.heap.size, _, undef, by simp; have := HS.out.size; omega, fun x hx hn => (Below.heap_alloc _ _ _ (by omega)).trans (HS.out.old x hx hn), fun _ => (Below.heap_alloc _ _ _ (by omega)).trans (HS.out.box (by omega)), fun _ => by simpa [setV] using HS.out.h5 (by omega), fun h => absurd h (by omega), fun h => absurd h (by omega), fun _ => by simpa [setV] using e13, fun h => absurd h (by omega), fun _ => by simp [setV], fun _ => ha0.one, fun h => absurd h (by omega), fun h => absurd h (by omega), fun h => absurd h (by omega)⟩
          · change _ = some _ at ho
            simp only [List.getD_cons_zero, List.getD_cons_succ, List.getElem?_cons_zero, List.getElem?_cons_succ, Option.some.injEq] at ho
            subst ho
            have g4 := hh.got 4 _ 34 rfl rfl ⟨⟨4, .data⟩, by simp, rfl, rfl⟩ (by simp)
            have g14 := hh.got 14 _ 44 rfl rfl ⟨⟨14, .data⟩, by simp, rfl, rfl⟩ (by simp)
            simp [mixV, cp5] at g4 g14
            have e14 := HS.out.h14 (by omega)
            rw [e14] at g14
            have ha1 := HS.out.a1 rfl
            obtain ⟨va, vc, hva⟩ := own_sl ha1.to0.rvo
            have e0 : b'.eval (.tmp 34) = dv := by simpa [Act.eval] using g4
            have ep : b'.eval (.tmp 44) = .slice (some ⟨g1, 0, none⟩) 1 1 := by simpa [Act.eval] using g14
            obtain ⟨v', w', hr, ha2⟩ := ha1.app HRW.out (by rw [hva]; rfl) hj 62
            unfold Oper.wp execOp
            simp only [resolve, invoke, builtin, Sem.run_bind, Sem.run_pure, Result.andThen_ok, List.map_toArray, List.map_cons, List.map_nil, e0, ep, hr]
            have hdl := fun x hx => (HRW.out.dvo.lt x hx)
            refine ⟨_, rfl, g, g1, rv, v', ha2.bel.size, fun x hx hn => ha2.bel.block x (by omega) fun e => by have := (hdl x e).1; omega, fun _ => ha2.box, fun _ => by simpa [setV] using HS.out.h5 (by omega), fun h => absurd h (by omega), fun h => absurd h (by omega), fun _ => by simpa [setV] using HS.out.h13 (by omega), fun h => absurd h (by omega), fun _ => by simpa [setV] using e14, fun h => absurd h (by omega), fun _ => by simp [setV], fun _ => ha2, fun h => absurd h (by omega)⟩
          · change _ = some _ at ho
            simp only [List.getD_cons_zero, List.getD_cons_succ, List.getElem?_cons_zero, List.getElem?_cons_succ, Option.some.injEq] at ho
            subst ho
            have g17 := hh.got 17 _ 47 rfl rfl ⟨⟨17, .data⟩, by simp, rfl, rfl⟩ (by simp)
            have g15 := hh.got 15 _ 45 rfl rfl ⟨⟨15, .data⟩, by simp, rfl, rfl⟩ (by simp)
            simp [mixV, cp5] at g17 g15
            have e15 := HS.out.h15 (by omega)
            rw [e15] at g15
            have ha2 := HS.out.a2 rfl
            obtain ⟨va, vc, hva⟩ := own_sl ha2.own
            obtain ⟨_, _, _, _, _, hb5⟩ := cells6 ha2.box
            have hfb : W1.frozen? ⟨b, 5, none⟩ = false := by simp [World.frozen?, ha2.box]
            subst hva
            go_simp
            refine ⟨undef, g, g1, rv, _, by simp [World.setCell]; have := HS.out.size; omega, fun x hx hn => (by simp [World.setCell, Array.getElem?_modify, Ne.symm hn] : (W1.setCell ⟨b, 5, none⟩ _).heap[x]? = W1.heap[x]?).trans (HS.out.old x hx hn), fun h => absurd h (by omega), fun _ => by simpa [setV] using HS.out.h5 (by omega), fun h => absurd h (by omega), fun h => absurd h (by omega), fun _ => by simpa [setV] using HS.out.h13 (by omega), fun h => absurd h (by omega), fun _ => by simpa [setV] using HS.out.h14 (by omega), fun h => absurd h (by omega), fun _ => by simpa [setV] using e15, fun h => absurd h (by omega), fun _ => ⟨W1, ha2, rfl⟩⟩
        case dn =>
          intro hv W1 b' hS hb
          obtain ⟨g, g1, rv, dv', hS⟩ := hS
          have e5 := hS.h5 (by decide)
          have e13 := hS.h13 (by decide)
          have e14 := hS.h14 (by decide)
          have e15 := hS.h15 (by decide)
          obtain ⟨W2, ha2, hW2⟩ := hS.a3 rfl
          clear hS
          have m0 : mixV [5, 13, 14, 15, 18] hv (cp5 q b dv ab ao c4 j ra N rcq) 0 = (cp5 q b dv ab ao c4 j ra N rcq) 0 := rfl
          have m1 : mixV [5, 13, 14, 15, 18] hv (cp5 q b dv ab ao c4 j ra N rcq) 1 = (cp5 q b dv ab ao c4 j ra N rcq) 1 := rfl
          have m2 : mixV [5, 13, 14, 15, 18] hv (cp5 q b dv ab ao c4 j ra N rcq) 2 = (cp5 q b dv ab ao c4 j ra N rcq) 2 := rfl
          have m3 : mixV [5, 13, 14, 15, 18] hv (cp5 q b dv ab ao c4 j ra N rcq) 3 = (cp5 q b dv ab ao c4 j ra N rcq) 3 := rfl
          have m4 : mixV [5, 13, 14, 15, 18] hv (cp5 q b dv ab ao c4 j ra N rcq) 4 = (cp5 q b dv ab ao c4 j ra N rcq) 4 := rfl
          have m5 : mixV [5, 13, 14, 15, 18] hv (cp5 q b dv ab ao c4 j ra N rcq) 5 = .slice (some ⟨g, 0, none⟩) 0 0 := e5
          have m6 : mixV [5, 13, 14, 15, 18] hv (cp5 q b dv ab ao c4 j ra N rcq) 6 = (cp5 q b dv ab ao c4 j ra N rcq) 6 := rfl
          have m7 : mixV [5, 13, 14, 15, 18] hv (cp5 q b dv ab ao c4 j ra N rcq) 7 = (cp5 q b dv ab ao c4 j ra N rcq) 7 := rfl
          have m8 : mixV [5, 13, 14, 15, 18] hv (cp5 q b dv ab ao c4 j ra N rcq) 8 = (cp5 q b dv ab ao c4 j ra N rcq) 8 := rfl
          have m9 : mixV [5, 13, 14, 15, 18] hv (cp5 q b dv ab ao c4 j ra N rcq) 9 = (cp5 q b dv ab ao c4 j ra N rcq) 9 := rfl
          have m10 : mixV [5, 13, 14, 15, 18] hv (cp5 q b dv ab ao c4 j ra N rcq) 10 = (cp5 q b dv ab ao c4 j ra N rcq) 10 := rfl
          have m11 : mixV [5, 13, 14, 15, 18] hv (cp5 q b dv ab ao c4 j ra N rcq) 11 = (cp5 q b dv ab ao c4 j ra N rcq) 11 := rfl
          have m12 : mixV [5, 13, 14, 15, 18] hv (cp5 q b dv ab ao c4 j ra N rcq) 12 = (cp5 q b dv ab ao c4 j ra N rcq) 12 := rfl
          have m13 : mixV [5, 13, 14, 15, 18] hv (cp5 q b dv ab ao c4 j ra N rcq) 13 = rv := e13
          have m14 : mixV [5, 13, 14, 15, 18] hv (cp5 q b dv ab ao c4 j ra N rcq) 14 = .slice (some ⟨g1, 0, none⟩) 1 1 := e14
          have m15 : mixV [5, 13, 14, 15, 18] hv (cp5 q b dv ab ao c4 j ra N rcq) 15 = dv' := e15
          have m16 : mixV [5, 13, 14, 15, 18] hv (cp5 q b dv ab ao c4 j ra N rcq) 16 = (cp5 q b dv ab ao c4 j ra N rcq) 16 := rfl
          have m17 : mixV [5, 13, 14, 15, 18] hv (cp5 q b dv ab ao c4 j ra N rcq) 17 = (cp5 q b dv ab ao c4 j ra N rcq) 17 := rfl
          have m18 : mixV [5, 13, 14, 15, 18] hv (cp5 q b dv ab ao c4 j ra N rcq) 18 = hv 18 := rfl
          simp only [puts, m0, m1, m2, m3, m4, m5, m6, m7, m8, m9, m10, m11, m12, m13, m14, m15, m16, m17, m18, cp5] at hb
          clear m0 m1 m2 m3 m4 m5 m6 m7 m8 m9 m10 m11 m12 m13 m14 m15 m16 m17 m18
          subst hb
          simp only [Act.put, List.setIfInBounds_toArray, List.set_cons_succ, List.set_cons_zero]
          clear e5 e13 e14 e15
          obtain ⟨nb, nc, hrv, hRn, hBn⟩ := ha2.next HRW.out HR0.out hN0
          rw [← hW2] at hRn hBn
          have hdl := fun x hx => (HRW.out.dvo.lt x hx)
          have hbw2 : Below w.heap.size w W1 := HBW.out.trans ⟨hBn.os, hBn.tape, hBn.output, hBn.size, fun x hx => hBn.block x (by have := HBW.out.size; omega) (by rintro (e | e); omega; have := (hdl x e).1; omega)⟩
          have hsb2 : StX W1 sb st := HSTX.out.of_eq (hBn.block sb HSTX.out.lt (by rintro (e | e); exact hbsb e; have := (hdl sb e).1; omega))
          clear hW2 hBn hrv
          go_wp2
          go_roundw
          case rel => exact ⟨j + 1, _, _, _, by omega, by go_num, hRn, hbw2, hsb2⟩
          case measure => simp [intOf]; omega
      · have hj6 : j = 16 := by omega
        subst hj6
        obtain ⟨z, hz, hRA⟩ := copyDone (n := n) (T := T) (c1 := c1) (c2 := c2) hN0 HN.out HTK.out HL.out HD.out HR.out HP.out HS0.out HBW.out HRW.out HSTX.out hb1 hslo hbsb hwH
        subst hz
        have HRA := Lib.hid hRA
        clear hRA
        go_wp2
        go_ret
        exact ⟨z, rfl, HRA.out, HBW.out⟩
end Go.Proofs.Ytgbcdebnanejpaa
namespace Go.Proofs.Ytgbcdebnanejpaa
set_option linter.unusedVariables false
open Go.RowKit Go.Shelf

/-- The image of a state. -/
def imgOf (n : NetM) (t : Nat) (st : List (Int × Int)) (due : Due) : ImgM := ⟨(t : Int), st, (List.range 16).map fun d => (List.range n.ps.length).map fun i => due (t + d) i⟩
theorem imgOf_at {n : NetM} {t : Nat} {st : List (Int × Int)} {due : Due} {d : Nat} (hd : d < 16) : (imgOf n t st due).du[d]? = some ((List.range n.ps.length).map fun i => due (t + d) i) := by simp [imgOf, hd]
theorem imgOf_len {n : NetM} {t : Nat} {st : List (Int × Int)} {due : Due} : (imgOf n t st due).du.length = 16 := by simp [imgOf]
theorem imgOf_row {n : NetM} {t : Nat} {st : List (Int × Int)} {due : Due} : ∀ (k : Nat) (r : List Int), (imgOf n t st due).du[k]? = some r → r.length = n.ps.length := fun k r h => by
  have hk := (List.getElem?_eq_some_iff.1 h).1
  rw [imgOf_len] at hk
  rw [imgOf_at hk] at h
  cases h
  simp
theorem dueK_imgOf {n : NetM} {t : Nat} {st : List (Int × Int)} {due : Due} {a i : Nat} (h1 : t ≤ a) (h2 : a < t + 16) (hi : i < n.ps.length) : dueK t (imgOf n t st due).du 16 a i = due a i := by
  unfold dueK
  rw [if_pos ⟨h1, h2⟩, imgOf_at (by omega)]
  simp only [Option.getD_some, rowF]
  rw [show t + (a - t) = a by omega]
  simp [hi]
theorem RowX.rowIn {W : World} {b n c : Nat} {f : Nat → Int} (h : RowX W b n f) : RowIn W (.slice (some ⟨b, 0, none⟩) n c) ((List.range n).map f) := by
  refine ⟨some ⟨b, 0, none⟩, c, by simp, fun j hj => ⟨_, rfl, ?_⟩⟩
  have hj' : j < n := by simpa using hj
  have := (h.cell hj').1
  rw [show (⟨b, 0, none⟩ : Addr).add j = ⟨b, j, none⟩ by unfold Addr.add; split <;> simp_all, this]
  simp [hj']
theorem StX.stsAt {W : World} {b c : Nat} {st : List (Int × Int)} {N : Nat} (h : StX W b st) (hl : st.length = N) : StsAt W (.slice (some ⟨b, 0, none⟩) N c) st := by
  refine .inr ⟨b, 0, c, by rw [hl], h.lt, fun k s hk => ?_⟩
  have hkl := (List.getElem?_eq_some_iff.1 hk).1
  have := h.cells k hkl
  rw [show sAt st k = s by simp [sAt, hk]] at this
  simpa using ⟨this.1, this.2.1⟩
theorem RefAt.rowsIn {n : NetM} {A : World} {B : Nat} {z : RZ} {a1 a2 : Option Addr} {c1 c2 t : Nat} {st : List (Int × Int)} {due : Due} (h : RefAt n A B z a1 a2 c1 c2 t t st due) : RowsIn A (.slice (some ⟨z.db, 0, none⟩) 16 z.dc) (imgOf n t st due).du := by
  refine .inr ⟨z.db, 0, z.dc, by rw [imgOf_len], (h.dv.lt z.db rfl).2, fun k r hk => ?_⟩
  have hk16 := (List.getElem?_eq_some_iff.1 hk).1
  rw [imgOf_len] at hk16
  rw [imgOf_at hk16] at hk
  cases hk
  refine ⟨_, ?_, (h.row k hk16).rowIn (c := z.rc k)⟩
  have := h.dv.cells (g := z.db) rfl k _ (rowsV_at (N := n.ps.length) (rb := z.rb) (rc := z.rc) hk16)
  rw [← this]
  congr 1
  unfold Addr.add
  split <;> simp_all
theorem RefAt.imgAt {n : NetM} {A : World} {B : Nat} {z : RZ} {a1 a2 : Option Addr} {c1 c2 t : Nat} {st : List (Int × Int)} {due : Due} (h : RefAt n A B z a1 a2 c1 c2 t t st due) :
    ImgAt A (.agg #[.int .i64 (t : Int), .slice (some ⟨z.sb, 0, none⟩) n.ps.length z.sc, .slice (some ⟨z.db, 0, none⟩) 16 z.dc]) (imgOf n t st due) :=
  ⟨_, _, rfl, h.stb.stsAt h.len, h.rowsIn⟩
theorem imgOf_K {n : NetM} {t : Nat} {st : List (Int × Int)} {due : Due} : imgOf n t st (dueK t (imgOf n t st due).du 16) = imgOf n t st due := by
  unfold imgOf
  simp only [ImgM.mk.injEq, true_and]
  apply List.map_congr_left
  intro d hd
  rw [List.mem_range] at hd
  apply List.map_congr_left
  intro i hi
  rw [List.mem_range] at hi
  exact dueK_imgOf (st := st) (by omega) (by omega) hi

theorem RefAt.lowerB {n : NetM} {A : World} {B B' : Nat} {z : RZ} {a1 a2 : Option Addr} {c1 c2 t r0 : Nat} {st : List (Int × Int)} {due : Due} (h : RefAt n A B z a1 a2 c1 c2 t r0 st due) (hB : B' ≤ B) (hp : ∀ g, (Value.slice a1 n.ps.length c1).ownBlock = some g → g < B') (hs : ∀ g, (Value.slice a2 n.ss.length c2).ownBlock = some g → g < B') : RefAt n A B' z a1 a2 c1 c2 t r0 st due :=
  ⟨h.blk, h.ps, hp, h.ss, hs, h.stb, h.len, own_base h.dv hB, h.row, fun b hb => Nat.le_trans hB (h.lo b hb), h.inj, h.ne1, h.ne2, h.ne3, h.ne4, h.ne5, h.ne6⟩
theorem PsAt.blk {W : World} {v : Value} {l : List Prm} (h : PsAt W v l) : ∀ g, v.ownBlock = some g → g < W.heap.size := fun g hg => by
  rcases h with ⟨e, _⟩ | ⟨x, off, cap, e, hl, _⟩
  · rw [e] at hg; cases hg
  · rw [e] at hg; cases hg; exact hl
theorem SsAt.blk {W : World} {v : Value} {l : List Syn} (h : SsAt W v l) : ∀ g, v.ownBlock = some g → g < W.heap.size := fun g hg => by
  rcases h with ⟨e, _⟩ | ⟨x, off, cap, e, hl, _⟩
  · rw [e] at hg; cases hg
  · rw [e] at hg; cases hg; exact hl

set_option maxRecDepth 100000 in
set_option maxHeartbeats 4000000 in
theorem rimage_any (n : NetM) (hok : NetOk n) (B : Nat) (z : RZ) (a1 a2 : Option Addr) (c1 c2 t : Nat) (st : List (Int × Int)) (due : Due) (w : World) (h : RefAt n w B z a1 a2 c1 c2 t t st due) :
    Calls Try.prog 40 #[.pointer (some ⟨z.bs, 0, none⟩)] w fun e w' => ∃ v, e = .returned v ∧ ImgAt w' v (imgOf n t st due) ∧ Below w.heap.size w w' := by
  have hb0 : Below w.heap.size w (w.alloc (.cells #[.int .i64 0, .slice none 0 0, .slice none 0 0] 70)) := (Below.refl _ _).alloc (Nat.le_refl _) _
  have hnb : (w.alloc (.cells #[.int .i64 0, .slice none 0 0, .slice none 0 0] 70)).heap[w.heap.size]? = some (.cells #[.int .i64 0, .slice none 0 0, .slice none 0 0] 70) := alloc_new_at _ _ _ rfl
  have hcp : ∀ W, Below w.heap.size w W → Calls Try.prog 81 #[.pointer (some ⟨z.bs, 0, none⟩)] W fun e w' => ∃ z' : RZ, e = .returned (.pointer (some ⟨z'.bs, 0, none⟩)) ∧ RefAt n w' W.heap.size z' a1 a2 c1 c2 t t st (dueK t (imgOf n t st due).du 16) ∧ Below W.heap.size W w' := fun W hb => by
    have hz : z.bs < w.heap.size := h.lt (.inl rfl)
    exact rcopy_any n n.ps.length rfl hok.p0 hok.p1 t z.bs t rfl st (imgOf n t st due).du a1 a2 (some ⟨z.sb, 0, none⟩) (some ⟨z.db, 0, none⟩) c1 c2 z.sc z.dc h.len imgOf_len imgOf_row W (h.ps.below hb) (h.ss.below hb) ((hb.block _ hz).trans h.blk) ((h.stb.stsAt h.len).below hb) (h.rowsIn.below hb)
  have HB0 := Lib.hid hb0
  have HNB := Lib.hid hnb
  have HCP := Lib.hid hcp
  have HPS := Lib.hid h.ps.blk
  have HSS := Lib.hid h.ss.blk
  clear hb0 hnb hcp h
  go_enter Try.func40, Try.ntmps40
  go_upto_region 2 with (go_at_call 81; refine (HCP.out _ HB0.out).mono ?_; rintro e w1 ⟨z', rfl, hr, hb1⟩; have HR := Lib.hid hr; have HB1 := Lib.hid hb1; clear hr hb1)
  have hlt1 : w.heap.size < w1.heap.size := Nat.lt_of_lt_of_le (lt_of_block HNB.out) HB1.out.size
  obtain ⟨_, _, _, _, _, _⟩ := cells6 HR.out.blk
  have hzb := HR.out.lo z'.bs (.inl rfl)
  have hzl := HR.out.lt (.inl rfl)
  go_still_tail 13, (by kernel_rfl)
  change wpList _ _ _ _ _ w1.drew
  have hrd : RefAt n w1.drew (w.alloc (.cells #[.int .i64 0, .slice none 0 0, .slice none 0 0] 70)).heap.size z' a1 a2 c1 c2 t t st (dueK t (imgOf n t st due).du 16) := HR.out.keep (fun b _ => rfl) (Nat.le_refl _)
  have hbd : Below w.heap.size w w1.drew := (HB0.out.trans (HB1.out.mono HB0.out.size)).drew
  have hnd : w1.drew.heap[w.heap.size]? = some (.cells #[.int .i64 0, .slice none 0 0, .slice none 0 0] 70) := (HB1.out.block _ (lt_of_block HNB.out)).trans HNB.out
  generalize w1.drew = W1 at *
  have HRD := Lib.hid hrd
  have HBD := Lib.hid hbd
  have HND := Lib.hid hnd
  obtain ⟨_, _, _, _, _, _⟩ := cells3f hnd
  have hzn : w.heap.size < W1.heap.size := lt_of_block hnd
  clear hrd hbd hnd
  go_wp2
  have hn2 : (((W1.setCell ⟨w.heap.size, 0, none⟩ (.int .i64 (t : Int))).setCell ⟨w.heap.size, 1, none⟩ (.slice (some ⟨z'.sb, 0, none⟩) n.ps.length z'.sc)).setCell ⟨w.heap.size, 2, none⟩ (.slice (some ⟨z'.db, 0, none⟩) 16 z'.dc)).heap[w.heap.size]? = some (.cells #[.int .i64 (t : Int), .slice (some ⟨z'.sb, 0, none⟩) n.ps.length z'.sc, .slice (some ⟨z'.db, 0, none⟩) 16 z'.dc] 70) := by
    have := HND.out
    simp [World.setCell, Array.getElem?_modify, this]
  refine bodyPost_ret (results_cell_row rfl _ _ w.heap.size 70 _ (0, 0) _ rfl hn2 Try.underlying70 rfl (by kernel_rfl)) rfl ⟨_, rfl, ?_, ?_⟩
  · have hk : RefAt n (((W1.setCell ⟨w.heap.size, 0, none⟩ (.int .i64 (t : Int))).setCell ⟨w.heap.size, 1, none⟩ (.slice (some ⟨z'.sb, 0, none⟩) n.ps.length z'.sc)).setCell ⟨w.heap.size, 2, none⟩ (.slice (some ⟨z'.db, 0, none⟩) 16 z'.dc)) w.heap.size z' a1 a2 c1 c2 t t st (dueK t (imgOf n t st due).du 16) := by
      refine (HRD.out.lowerB (B' := w.heap.size) (by simp) HPS.out HSS.out).keep (fun b hb => ?_) (by simp [World.setCell])
      have hbn : b ≠ w.heap.size := by
        rcases hb with hb | hb
        · omega
        · have := HRD.out.lo b hb; simp at this; omega
      simp [World.setCell, Array.getElem?_modify, Ne.symm hbn]
    have := hk.imgAt
    rw [imgOf_K] at this
    exact this
  · exact ((HBD.out.setCell (p := ⟨w.heap.size, 0, none⟩) (Nat.le_refl _) _).setCell (p := ⟨w.heap.size, 1, none⟩) (Nat.le_refl _) _).setCell (p := ⟨w.heap.size, 2, none⟩) (Nat.le_refl _) _
end Go.Proofs.Ytgbcdebnanejpaa
