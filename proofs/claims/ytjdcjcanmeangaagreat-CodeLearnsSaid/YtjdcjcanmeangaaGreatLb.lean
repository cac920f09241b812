/- Learning: the law CodeLearns: arrays as arguments; the region that makes a row; samples without an error. Over this seat's program. (mk_Lb.py wrote this.) -/
import Derived.Test.YtjdcjcanmeangaaGreatLa
import Derived.Laws.IdiomArrays
namespace Go.Proofs.YtjdcjcanmeangaaGreat
set_option linter.unusedVariables false
open Go.RowKit Go.ChangeShapes Go.WideShapes Go.ChangeAt

theorem wpList_append_where {P : Program} (w : World) {ops : Array Oper} {rest : List Oper} {o : Oper} {a : Act} {Q : Exit → Act → World → Prop} (hgd : o.guard = none) (s x : Operand) (t : TypeId)
    (ho : o.op = .call { callee := .builtin .append, args := #[s, x], argTypes := #[t, t] })
    (base : Nat) (e : TypeId) (i : TypeInfo) (z : Value) (size bytes : Nat) (ht : P.underlying t = some (.slice e)) (hi : P.info? e = some i) (hz : i.zero = some z)
    (hsize : i.size = size) (hby : i.bytes = bytes) (hzs : z.cells.size = size) (hsz : 0 < size)
    (v : Value) (n : Nat) (xs : List Value) (hs : a.eval s = v) (hown : w.ownsRow base e size v n xs)
    (ad : Addr) (m c : Nat) (hm : 0 < m) (news : List Value) (hx : a.eval x = .slice (some ad) m c) (hl : news.length = m * size) (hnews : ∀ j u, news[j]? = some u → w.cell? (ad.add j) = some u) (h1 : ∀ u ∈ news, u.oneCell' = true)
    (h63 : n + m ≤ maxLen) (hbytes : (n + m) * bytes ≤ 140737488355328) (hbase : base ≤ w.heap.size)
    (h : ∀ v' w', w'.ownsRow base e size v' (n + m) (xs ++ news) → w.grownBy w' v.ownBlock → (v'.ownBlock = v.ownBlock ∨ v'.ownBlock = some w.heap.size) → wpList P ops Q rest (a.put o.dst v') w') : wpList P ops Q (o :: rest) a w := by
  refine wpList_plain hgd fun K hK => ?_
  obtain ⟨v', w', hrun, r1, r2, r3⟩ := run_append_own (P := P) w base t o.type e i z size bytes ht hi hz hsize hby hzs hsz v n xs hown ad m c news hl hnews h1 h63 hbytes hbase
  have r4 := append_where (P := P) w base t o.type e i z size bytes ht hi hz hsize hby v n xs hown ad m c hm news hl hnews h1 h63 hbytes v' w' hrun
  unfold Oper.wp execOp
  simp only [ho, resolve, invoke, builtin, Sem.run_bind, Sem.run_pure, Result.andThen_ok, List.map_toArray, List.map_cons, List.map_nil, hs, hx, hrun]
  exact hK _ _ (h v' w' r1 r2 r4)

theorem smpE_of {n : Nat} {l : List Smp} (hn : 1 ≤ n ∧ n ≤ 30) (h0 : l ≠ []) (hl : l.length ≤ 256) (h : ∀ s ∈ l, SmpOk n s) : smpE l = 0 ∧ n0 l = n := by
  have e0 : n0 l = n := by
    cases l with
    | nil => exact absurd rfl h0
    | cons s r => exact (h s (List.mem_cons_self ..)).len
  refine ⟨?_, e0⟩
  have key : ∀ r : List Smp, (∀ s ∈ r, SmpOk n s) → firstE n r = 0 := by
    intro r
    induction r with
    | nil => intro _; rfl
    | cons s r ih =>
      intro hr
      have hs := hr s (List.mem_cons_self ..)
      simp only [firstE]
      rw [if_neg (by simp [hs.len]), if_neg, ih fun t ht => hr t (List.mem_cons_of_mem _ ht)]
      simp only [Bool.not_eq_false]
      exact List.all_eq_true.2 fun z hz => inR_true.2 (hs.rng z hz)
  rw [smpE_4 (by cases l <;> simp_all) (by omega) (by rw [e0]; exact inR_true.2 (by omega)), e0]
  exact key l h
/-- Arrays of four bytes in a list. -/
def ArrsAt (W : World) (sv : Value) (zs : List (List Int)) : Prop :=
  (sv = .slice none 0 0 ∧ zs = []) ∨ ∃ b off cap, sv = .slice (some ⟨b, off, none⟩) zs.length cap ∧ b < W.heap.size ∧ ∀ j z, zs[j]? = some z → ∃ x0 x1 x2 x3, z = [x0, x1, x2, x3] ∧ (∀ x ∈ z, -128 ≤ x ∧ x ≤ 127) ∧
    W.cell? ⟨b, off + j * 4, none⟩ = some (.int .i8 x0) ∧ W.cell? ⟨b, off + j * 4 + 1, none⟩ = some (.int .i8 x1) ∧ W.cell? ⟨b, off + j * 4 + 2, none⟩ = some (.int .i8 x2) ∧ W.cell? ⟨b, off + j * 4 + 3, none⟩ = some (.int .i8 x3)
section
variable {H : Type} {enc : TypeId × Value → H} {w : World} {base : Nat} {held : Bool}
section
variable {P : Program} {spare : Nat → Bool}
theorem open_slice_arr {t e k : Nat} {fuel b off n cap : Nat} {x : DataW H × List MemPlace} (ht : P.underlying t = some (.slice e)) (ha : P.underlying e = some (.array 4 k)) (hk : P.cellsOf k = 1) (hC : P.cellsOf e = 4) (hi : P.underlying k = some (.int .i8))
    (h : DataW.trod enc P w base spare held fuel t [.slice (some ⟨b, off, none⟩) n cap] = some x) :
    n ≤ maxLen ∧ ∀ i j, i < n → j < 4 → ∃ z, w.cell? ⟨b, off + i * 4 + j, none⟩ = some (.int .i8 z) ∧ (Lit.int .i8 z).wf = true := by
  rcases DataW.trod_slice ht h with ⟨h0, _⟩ | ⟨a, len, cap', elems, rest, g, _, h1, _, _, hl, hmx, hlen, hel, _, _⟩
  · simp at h0
  · simp at h1
    obtain ⟨rfl, rfl, rfl⟩ := h1
    refine ⟨Nat.le_trans hl hmx, fun i j hin hj => ?_⟩
    have h2 := hel i hin
    rw [List.getElem?_eq_getElem (by omega), Option.bind_eq_some_iff] at h2
    obtain ⟨cs, h3, h4⟩ := h2
    obtain ⟨xs, g', _, _, hcl, hxl, hg⟩ := DataW.trod_array ha h4
    have h5 := hg j hj
    rw [hk, Nat.mul_one, List.getElem?_eq_getElem (by omega)] at h5
    have hjl : j < cs.length := by omega
    have e5 : List.take 1 (List.drop j cs) = [cs[j]] := by rw [List.drop_eq_getElem_cons hjl]; rfl
    rw [e5] at h5
    obtain ⟨z, e6, _, hwf⟩ := DataW.trod_int hi h5
    refine ⟨z, ?_, hwf⟩
    have e7 : cs[j] = .int .i8 z := by simpa using e6
    unfold World.cells? at h3
    split at h3
    · have h8 := mapM_some_get h3 j j (by simp [hC, hj])
      rw [List.getElem?_eq_getElem hjl] at h8
      rw [hC] at h8
      rw [← e7, ← h8]
      congr 1
      unfold Addr.add
      split <;> split <;> simp_all <;> omega
    · simp at h3
end
theorem cells107 : Tryz.prog.cellsOf 107 = 4 := by kernel_rfl
theorem cells106 : Tryz.prog.cellsOf 106 = 1 := by kernel_rfl
theorem i8_bounds {n : Int} (h : (Lit.int .i8 n).wf = true) : -128 ≤ n ∧ n ≤ 127 := bounds_i8 h
set_option maxRecDepth 100000 in
theorem open_arrs {r : Reach} {b0 : Nat} {v : Value} {d : DataW H} {p : List MemPlace} (hv : Value.okWide Tryz.prog w r b0 105 v) (h : DataW.Trod enc Tryz.prog w base (fun _ => true) held 105 v d p) :
    ∃ zs a c, v = .slice a zs.length c ∧ ArrsAt w (.slice a zs.length c) zs := by
  have hv' : Cell.okWide Tryz.prog w r b0 105 v := by simpa only [Value.okWide, Tryz.underlying105] using hv
  obtain ⟨fuel, hfu⟩ := h
  rcases cellOkWide_slice Tryz.underlying105 hv' with rfl | ⟨b, off, n, cap, rfl, hl⟩
  · exact ⟨[], none, 0, rfl, Or.inl ⟨rfl, rfl⟩⟩
  · obtain ⟨hm, hc⟩ := open_slice_arr Tryz.underlying105 Tryz.underlying107 cells106 cells107 Tryz.underlying106 hfu
    have hrow : ∀ i, i < n → ∃ z : List Int, ∃ x0 x1 x2 x3, z = [x0, x1, x2, x3] ∧ (∀ x ∈ z, -128 ≤ x ∧ x ≤ 127) ∧
        w.cell? ⟨b, off + i * 4, none⟩ = some (.int .i8 x0) ∧ w.cell? ⟨b, off + i * 4 + 1, none⟩ = some (.int .i8 x1) ∧ w.cell? ⟨b, off + i * 4 + 2, none⟩ = some (.int .i8 x2) ∧ w.cell? ⟨b, off + i * 4 + 3, none⟩ = some (.int .i8 x3) := fun i hi => by
      obtain ⟨x0, h0, w0⟩ := hc i 0 hi (by omega)
      obtain ⟨x1, h1, w1⟩ := hc i 1 hi (by omega)
      obtain ⟨x2, h2, w2⟩ := hc i 2 hi (by omega)
      obtain ⟨x3, h3, w3⟩ := hc i 3 hi (by omega)
      refine ⟨[x0, x1, x2, x3], x0, x1, x2, x3, rfl, fun x hx => ?_, by simpa using h0, h1, h2, h3⟩
      simp only [List.mem_cons, List.not_mem_nil, or_false] at hx
      rcases hx with rfl | rfl | rfl | rfl
      · exact i8_bounds w0
      · exact i8_bounds w1
      · exact i8_bounds w2
      · exact i8_bounds w3
    obtain ⟨l, hll, hls⟩ := list_of n hrow
    exact ⟨l, some ⟨b, off, none⟩, cap, by rw [hll], .inr ⟨b, off, cap, rfl, hl, fun j z hz => hls j z hz⟩⟩
theorem list4 {α : Type} {l : List α} (h : l.length = 4) : ∃ a b c d, l = [a, b, c, d] := by
  match l, h with
  | [a, b, c, d], _ => exact ⟨a, b, c, d, rfl⟩
set_option maxRecDepth 100000 in
theorem open_arr4 {r : Reach} {b0 : Nat} {v : Value} {d : DataW H} {p : List MemPlace} (hv : Value.okWide Tryz.prog w r b0 107 v) (h : DataW.Trod enc Tryz.prog w base (fun _ => true) held 107 v d p) :
    ∃ x0 x1 x2 x3, v = .agg #[.int .i8 x0, .int .i8 x1, .int .i8 x2, .int .i8 x3] ∧ ∀ x ∈ [x0, x1, x2, x3], -128 ≤ x ∧ x ≤ 127 := by
  obtain ⟨cs, rfl, hsz, _⟩ : ∃ cs, v = .agg cs ∧ cs.size = Tryz.prog.cellsOf 107 ∧ Row.okWide Tryz.prog w r b0 107 cs := by
    simpa [Value.okWide, Tryz.underlying107] using hv
  rw [cells107] at hsz
  obtain ⟨l⟩ := cs
  obtain ⟨c0, c1, c2, c3, rfl⟩ := list4 (l := l) hsz
  obtain ⟨fuel, hf⟩ := h
  obtain ⟨xs, m, _, _, _, hl, hel⟩ := DataW.trod_array Tryz.underlying107 hf
  have key : ∀ (i : Nat) (c : Value), i < 4 → [c0, c1, c2, c3][i]? = some c → ∃ z, c = .int .i8 z ∧ -128 ≤ z ∧ z ≤ 127 := fun i c hi hc => by
    have h1 := hel i hi
    rw [cells106, Nat.mul_one, List.getElem?_eq_getElem (by omega)] at h1
    obtain ⟨z, e, _, hw⟩ := DataW.trod_int Tryz.underlying106 h1
    refine ⟨z, ?_, i8_bounds hw⟩
    have hil : i < [c0, c1, c2, c3].length := hi
    have e1 : List.drop i (Value.agg #[c0, c1, c2, c3]).cells.toList = [c0, c1, c2, c3][i] :: List.drop (i + 1) [c0, c1, c2, c3] := by
      rw [show (Value.agg #[c0, c1, c2, c3]).cells.toList = [c0, c1, c2, c3] from rfl, List.drop_eq_getElem_cons hil]
    rw [e1] at e
    have e2 : [c0, c1, c2, c3][i] = .int .i8 z := by simpa using e
    rw [List.getElem?_eq_getElem hil] at hc
    rw [← Option.some.inj hc]; exact e2
  obtain ⟨x0, rfl, b0'⟩ := key 0 c0 (by omega) rfl
  obtain ⟨x1, rfl, b1'⟩ := key 1 c1 (by omega) rfl
  obtain ⟨x2, rfl, b2'⟩ := key 2 c2 (by omega) rfl
  obtain ⟨x3, rfl, b3'⟩ := key 3 c3 (by omega) rfl
  refine ⟨x0, x1, x2, x3, rfl, fun x hx => ?_⟩
  simp only [List.mem_cons, List.not_mem_nil, or_false] at hx
  rcases hx with rfl | rfl | rfl | rfl <;> assumption
end
/-- What holds in the region that puts a number behind a sample's row. -/
structure PuR (W0 : World) (H T k : Nat) (X : List Int) (z : Int) (y : Bool) (v0 : Value) (Kv : Nat → Value) (L : Array Bool) (val : Nat → Value) (W : World) : Prop where
  hT : H ≤ T ∧ T < W0.heap.size
  vb : v0.ownBlock ≠ some T
  vl : ∀ g, v0.ownBlock = some g → g < W0.heap.size
  known : ∀ j, [6, 7, 9].contains j = false → L.getD j false = true → val j = Kv j
  bel : Below H W0 W
  bx0 : L.getD 9 false = false → W.heap[T]? = some (.cells #[v0, .bool y] 74)
  o0 : L.getD 7 false = false → W.ownsRow H 3 1 v0 k (iCs X)
  m6 : L.getD 6 false = true → L.getD 7 false = false → ∃ g, val 6 = .slice (some ⟨g, 0, none⟩) 1 1 ∧ W0.heap.size ≤ g ∧ W.heap[g]? = some (.cells #[.int .i64 z] 3)
  m7 : L.getD 7 false = true → W.ownsRow H 3 1 (val 7) (k + 1) (iCs (X ++ [z])) ∧ (val 7).ownBlock ≠ some T
  b9 : L.getD 9 false = true → W.heap[T]? = some (.cells #[val 7, .bool y] 74)
  p7 : L.getD 7 false = true → L.getD 6 false = true
  p9 : L.getD 9 false = true → L.getD 7 false = true
  q1 : L.getD 7 false = true → L.getD 1 false = true
section
variable {W0 W : World} {H T k : Nat} {X : List Int} {z : Int} {y : Bool} {v0 : Value} {Kv : Nat → Value} {L : Array Bool} {val : Nat → Value}
theorem PuR.init (N : Nat) (hT : H ≤ T) (hb : W0.heap[T]? = some (.cells #[v0, .bool y] 74)) (h0 : W0.ownsRow H 3 1 v0 k (iCs X)) (hv : v0.ownBlock ≠ some T) :
    PuR W0 H T k X z y v0 Kv (Array.replicate N false) (fun _ => undef) { W0 with drawn := W0.drawn + 1 } := by
  have e : ∀ j, (Array.replicate N false).getD j false = true → False := fun j h => by
    simp [Array.getD_eq_getD_getElem?, Array.getElem?_replicate] at h
    split at h <;> simp_all
  exact ⟨⟨hT, lt_of_block hb⟩, hv, fun g hg => (h0.lt g hg).2, fun j _ h => (e _ h).elim, ⟨rfl, rfl, rfl, Nat.le_refl _, fun _ _ => rfl⟩, fun _ => hb, fun _ => h0, fun h => (e _ h).elim, fun h => (e _ h).elim, fun h => (e _ h).elim, fun h => (e _ h).elim, fun h => (e _ h).elim, fun h => (e _ h).elim⟩
theorem size_of {L : Array Bool} {i : Nat} (h : L.getD i false = true) : i < L.size := by
  rw [Array.getD_eq_getD_getElem?] at h
  cases e : L[i]? with
  | none => rw [e] at h; cases h
  | some x => exact (Array.getElem?_eq_some_iff.1 e).1
theorem PuR.skip (h : PuR W0 H T k X z y v0 Kv L val W) (i : Nat) (hi : [6, 7, 9].contains i = false) (u : Value) (hu : u = Kv i) : PuR W0 H T k X z y v0 Kv (L.setIfInBounds i true) (setV val i u) W := by
  obtain ⟨n6, n7, n9⟩ : 6 ≠ i ∧ 7 ≠ i ∧ 9 ≠ i := by refine ⟨?_, ?_, ?_⟩ <;> (rintro rfl; simp at hi)
  refine ⟨h.hT, h.vb, h.vl, fun j hj hl => ?_, h.bel, ?_, ?_, ?_, ?_, ?_, ?_, ?_, ?_⟩
  · by_cases e : j = i
    · subst e; rw [setV_eq]; exact hu
    · rw [setV_ne e]; exact h.known j hj (by rwa [gdD e] at hl)
  · rw [gdD n9]; exact h.bx0
  · rw [gdD n7]; exact h.o0
  · rw [gdD n6, gdD n7, setV_ne n6]; exact h.m6
  · rw [gdD n7, setV_ne n7]; exact h.m7
  · rw [gdD n9, setV_ne n7]; exact h.b9
  · rw [gdD n7, gdD n6]; exact h.p7
  · rw [gdD n9, gdD n7]; exact h.p9
  · rw [gdD n7]; intro hh
    by_cases e : 1 = i
    · subst e; have h1 := h.q1 hh; rw [getD_set_eq3 (size_of h1)]
    · rw [gdD e]; exact h.q1 hh
theorem PuR.make (h : PuR W0 H T k X z y v0 Kv L val W) (hs : 9 < L.size) (f6 : L.getD 6 false = false) :
    PuR W0 H T k X z y v0 Kv (L.setIfInBounds 6 true) (setV val 6 (.slice (some ⟨W.heap.size, 0, none⟩) 1 1)) (W.alloc (.cells #[.int .i64 z] 3)) := by
  have f7 := not_of h.p7 f6
  have f9 := not_of h.p9 f7
  have hz := h.bel.size
  have hT := h.hT
  have old : ∀ b, b < W.heap.size → (W.alloc (.cells #[.int .i64 z] 3)).heap[b]? = W.heap[b]? := fun b hb => Below.heap_alloc _ _ _ hb
  refine ⟨h.hT, h.vb, h.vl, fun j hj hl => ?_, h.bel.alloc (by omega) _, fun _ => (old T (by omega)).trans (h.bx0 f9), fun _ => ?_, fun _ _ => ?_, ?_, ?_, ?_, ?_, ?_⟩
  · have e : j ≠ 6 := by rintro rfl; simp at hj
    rw [setV_ne e]; exact h.known j hj (by rwa [gdD e] at hl)
  · exact ownsC (h.o0 f7) fun g hg => old g ((h.o0 f7).lt g hg).2
  · rw [setV_eq]; exact ⟨_, rfl, hz, alloc_new_at _ _ _ rfl⟩
  · rw [gdD (by decide), f7]; intro hh; cases hh
  · rw [gdD (by decide), f9]; intro hh; cases hh
  · rw [gdD (by decide), f7]; intro hh; cases hh
  · rw [gdD (by decide), f9]; intro hh; cases hh
  · rw [gdD (by decide), f7]; intro hh; cases hh
theorem PuR.app (h : PuR W0 H T k X z y v0 Kv L val W) (hs : 9 < L.size) (f7 : L.getD 7 false = false) (l6 : L.getD 6 false = true) (l1 : L.getD 1 false = true) (hk : k ≤ 1000) (hH : H ≤ W0.heap.size) (ty : TypeId) :
    ∃ v' W', (Builtin.append_ #[22, 22] ty #[v0, val 6]).run Tryz.prog W = .ok v' W' ∧ PuR W0 H T k X z y v0 Kv (L.setIfInBounds 7 true) (setV val 7 v') W' := by
  have f9 := not_of h.p9 f7
  have hz := h.bel.size
  have hT := h.hT
  obtain ⟨g6, e6, hg6, c6⟩ := h.m6 l6 f7
  have ho := h.o0 f7
  rw [e6]
  obtain ⟨i0, hi, hz0, hzz1, hzz2⟩ := info_parts info3
  obtain ⟨v', W', r1, r2, hg, _⟩ := run_append_own (P := Tryz.prog) W H 22 ty 3 i0 (.int .i64 0) 1 8 Tryz.underlying22 hi hz0 hzz1 hzz2 rfl (by decide) v0 k (iCs X) ho ⟨g6, 0, none⟩ 1 1 [.int .i64 z] rfl (cells_new c6) (by simp [Value.oneCell']) (by unfold maxLen; omega) (by omega) (by omega)
  have hw := append_where (P := Tryz.prog) W H 22 ty 3 i0 (.int .i64 0) 1 8 Tryz.underlying22 hi hz0 hzz1 hzz2 v0 k (iCs X) ho ⟨g6, 0, none⟩ 1 1 (by decide) [.int .i64 z] rfl (cells_new c6) (by simp [Value.oneCell']) (by unfold maxLen; omega) (by omega) v' W' r1
  have hb : Below H W W' := ⟨hg.os, hg.tape, hg.output, hg.size, fun b hb => hg.block b (by omega) fun e => by have := (ho.lt b e.symm).1; omega⟩
  refine ⟨v', W', r1, h.hT, h.vb, h.vl, fun j hj hl => ?_, h.bel.trans hb, fun _ => (hg.block T (by omega) (fun e => h.vb e.symm)).trans (h.bx0 f9), ?_, ?_, fun _ => ?_, ?_, fun _ => ?_, ?_, fun _ => ?_⟩
  · have e : j ≠ 7 := by rintro rfl; simp at hj
    rw [setV_ne e]; exact h.known j hj (by rwa [gdD e] at hl)
  · rw [getD_set_eq3 (by omega)]; intro hh; cases hh
  · intro _; rw [getD_set_eq3 (by omega)]; intro hh; cases hh
  · rw [setV_eq]
    refine ⟨by simpa [iCs] using r2, ?_⟩
    rcases hw with hw | hw
    · rw [hw]; exact h.vb
    · rw [hw]; intro e; cases e; omega
  · rw [gdD (by decide), f9]; intro hh; cases hh
  · rw [gdD (by decide)]; exact l6
  · rw [gdD (by decide), f9]; intro hh; cases hh
  · rw [gdD (by decide)]; exact l1
theorem PuR.fill (h : PuR W0 H T k X z y v0 Kv L val W) (hs : 9 < L.size) (f9 : L.getD 9 false = false) (l7 : L.getD 7 false = true) (u : Value) :
    PuR W0 H T k X z y v0 Kv (L.setIfInBounds 9 true) (setV val 9 u) (W.setCell ⟨T, 0, none⟩ (val 7)) := by
  have hz := h.bel.size
  have hT := h.hT
  have hm := h.m7 l7
  have l6 := h.p7 l7
  refine ⟨h.hT, h.vb, h.vl, fun j hj hl => ?_, Below.setCell h.bel hT.1 _, ?_, ?_, ?_, ?_, fun _ => ?_, ?_, fun _ => ?_, ?_⟩
  · have e : j ≠ 9 := by rintro rfl; simp at hj
    rw [setV_ne e]; exact h.known j hj (by rwa [gdD e] at hl)
  · rw [getD_set_eq3 (by omega)]; intro hh; cases hh
  · rw [gdD (by decide), l7]; intro hh; cases hh
  · rw [gdD (by decide), gdD (by decide), l7]; intro _ hh; cases hh
  · rw [gdD (by decide), setV_ne (by decide)]; intro _
    exact ⟨ownsC hm.1 fun g hg => setCell_ne (fun e => hm.2 (by rw [hg, e])), hm.2⟩
  · rw [setV_ne (by decide)]
    have := setCell_own (i := 0) (val 7) (h.bx0 f9)
    simpa using this
  · rw [gdD (by decide), gdD (by decide)]; exact h.p7
  · rw [gdD (by decide)]; exact l7
  · rw [gdD (by decide), gdD (by decide)]; exact h.q1
end
end Go.Proofs.YtjdcjcanmeangaaGreat
