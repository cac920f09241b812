/- A row of a ring is emptied. -/
import Derived.Test.YtgbcdebnanejpaaNs
import Derived.Lib.SliceRun
namespace Go.Proofs.Ytgbcdebnanejpaa
set_option linter.unusedVariables false
open Go.RowKit Go.Shelf

theorem setCells_other (b : Nat) : ∀ (vs : List Value) (o : Nat) (w : World) (b' : Nat), b' ≠ b → (w.setCells b o vs).heap[b']? = w.heap[b']?
  | [], _, _, _, _ => rfl
  | v :: r, o, w, b', h => by
    show ((w.setCell ⟨b, o, none⟩ v).setCells b (o + 1) r).heap[b']? = _
    rw [setCells_other b r (o + 1) _ b' h, Below.heap_setCell _ _ _ _ (by exact h)]
theorem setCells_rest (b : Nat) : ∀ (vs : List Value) (o : Nat) (w : World), (w.setCells b o vs).os = w.os ∧ (w.setCells b o vs).tape = w.tape ∧ (w.setCells b o vs).output = w.output ∧ (w.setCells b o vs).heap.size = w.heap.size
  | [], _, _ => ⟨rfl, rfl, rfl, rfl⟩
  | v :: r, o, w => by
    obtain ⟨h1, h2, h3, h4⟩ := setCells_rest b r (o + 1) (w.setCell ⟨b, o, none⟩ v)
    exact ⟨h1, h2, h3, h4.trans (by simp [World.setCell])⟩
theorem RowAt.clear {b n : Nat} : ∀ (m o : Nat) {W : World} {f : Nat → Int}, RowAt W b n f → o + m ≤ n → RowAt (W.setCells b o (List.replicate m (.int .i64 0))) b n (fun j => if o ≤ j ∧ j < o + m then 0 else f j)
  | 0, o, W, f, h, _ => by
    have e : (fun j => if o ≤ j ∧ j < o + 0 then 0 else f j) = f := by funext j; rw [if_neg (by omega)]
    rw [e]; exact h
  | m + 1, o, W, f, h, hm => by
    have h1 := (h.set (i := o) (by omega) 0).clear m (o + 1) (by omega)
    have e : (fun j => if o + 1 ≤ j ∧ j < o + 1 + m then 0 else (fun j => if j = o then (0 : Int) else f j) j) = (fun j => if o ≤ j ∧ j < o + (m + 1) then 0 else f j) := by
      funext j
      by_cases q : j = o
      · subst q; rw [if_neg (by omega)]; simp
      · by_cases q2 : o + 1 ≤ j ∧ j < o + 1 + m
        · rw [if_pos q2, if_pos (by omega)]
        · rw [if_neg q2, if_neg (by omega)]; simp [q]
    rw [e] at h1
    exact h1
theorem SimAt.over {n : NetM} {A : World} {B : Nat} {z : SimZ} {t : Nat} {st : List (Int × Int)} {due : Due} (h : SimAt n A B z t t st due) :
    SimAt n (A.setCells (z.rb (t % 16)) 0 (List.replicate n.ps.length (.int .i64 0))) B z t (t + 1) st due ∧ Bel z.mut A.heap.size A (A.setCells (z.rb (t % 16)) 0 (List.replicate n.ps.length (.int .i64 0))) := by
  have hm : z.mut (z.rb (t % 16)) := Or.inr (Or.inr ⟨_, Nat.mod_lt _ (by omega), rfl⟩)
  have hb := fun b (hn : b ≠ z.rb (t % 16)) => setCells_other (z.rb (t % 16)) (List.replicate n.ps.length (.int .i64 0)) 0 A b hn
  obtain ⟨e1, e2, e3, e4⟩ := setCells_rest (z.rb (t % 16)) (List.replicate n.ps.length (.int .i64 0)) 0 A
  have hrow := (h.row t (by omega) (by omega)).clear n.ps.length 0 (by omega)
  generalize A.setCells (z.rb (t % 16)) 0 (List.replicate n.ps.length (.int .i64 0)) = A' at *
  have hnm : ∀ b, ¬ z.mut b → b ≠ z.rb (t % 16) := fun b hb e => hb (e ▸ hm)
  refine ⟨⟨(hb _ (h.ne2 _ (Nat.mod_lt _ (by omega)))).trans h.blk, ?_, h.psM, ⟨h.wires.map.of_block (hb _ (hnm _ h.mbM)), fun x => ownsRow_of_block (h.wires.row x) fun g hg => hb g (hnm _ (h.wiM x g hg)), h.wires.nil, h.wires.apart, h.wires.lt⟩, h.wiM, h.mbM, (hb _ (h.ne3 _ (Nat.mod_lt _ (by omega)))).trans h.stb, h.len, fun a' g1 g2 => ?_, fun a' i' g => h.zero a' i' (by omega), h.inj, h.ne1, h.ne2, h.ne3, h.lo⟩, ⟨e1, e2, e3, by omega, fun b g1 g2 => hb b (hnm b g2)⟩⟩
  · rcases h.ps with h0 | ⟨b, off, cap, e, hl, h1'⟩
    · exact Or.inl h0
    · have hbn : b ≠ z.rb (t % 16) := hnm b (h.psM b (by rw [e]; rfl))
      have hc : ∀ o, A'.cell? ⟨b, o, none⟩ = A.cell? ⟨b, o, none⟩ := fun o => by unfold World.cell?; rw [hb b hbn]
      refine Or.inr ⟨b, off, cap, e, by omega, fun k p hk => ?_⟩
      obtain ⟨c0, c1, c2, c3, c4, c5, c6, c7⟩ := h1' k p hk
      exact ⟨(hc _).trans c0, (hc _).trans c1, (hc _).trans c2, (hc _).trans c3, (hc _).trans c4, (hc _).trans c5, (hc _).trans c6, (hc _).trans c7⟩
  · by_cases e : a' % 16 = t % 16
    · have ea : a' = t + 16 := by omega
      rw [e]
      have e5 : rowC n.ps.length (due a') = rowC n.ps.length (fun j => if 0 ≤ j ∧ j < 0 + n.ps.length then 0 else due t j) := by
        unfold rowC
        apply List.map_congr_left
        intro j hj
        rw [List.mem_range] at hj
        rw [h.zero a' j (by omega)]
        show _ = Value.int .i64 (if 0 ≤ j ∧ j < 0 + n.ps.length then 0 else due t j)
        rw [if_pos (by omega)]
      unfold RowAt at *
      rw [e5]; exact hrow
    · have hne : z.rb (a' % 16) ≠ z.rb (t % 16) := fun e1 => e (h.inj _ _ (Nat.mod_lt _ (by omega)) (Nat.mod_lt _ (by omega)) e1)
      exact (hb _ hne).trans (h.row a' (by omega) (by omega))

theorem zero3 (w : World) : (zeroValue 3).run Try.prog w = .ok (.int .i64 0) w := by kernel_rfl
set_option maxRecDepth 100000 in
set_option maxHeartbeats 1000000 in
theorem over_any (n : NetM) (B : Nat) (z : SimZ) (t : Nat) (st : List (Int × Int)) (due : Due) (ht : (t : Int) ≤ 4294967000) (hn : 1 ≤ n.ps.length) (w : World) (h : SimAt n w B z t t st due) :
    Calls Try.prog 94 #[.pointer (some ⟨z.bs, 6, none⟩), .int .i64 (t : Int)] w fun e w' => (∃ v, e = .returned v) ∧ SimAt n w' B z t (t + 1) st due ∧ Bel z.mut w.heap.size w w' := by
  have hrow := row_any z.bs 6 t _ (by omega) w (h.rowSlice t)
  have hr := fun ty => Lib.run_clear_slice (P := Try.prog) w 44 3 ty (.int .i64 0) Try.underlying44 zero3 rfl rfl (z.rb (t % 16)) 0 n.ps.length n.ps.length (by omega) (fun j hj => by rw [Nat.zero_add, ((h.row t (by omega) (by omega)).cell hj).1]; rfl) (fun j hj => by rw [Nat.zero_add]; exact ((h.row t (by omega) (by omega)).cell hj).2)
  have hov := h.over
  have HROW := Lib.hid hrow
  have HOV := Lib.hid hov
  clear hrow hov h
  go_enter Try.func94, Try.ntmps94
  go_wp2_with (go_at_call 80; refine HROW.out.mono ?_; rintro e w1 ⟨rfl, rfl⟩)
  go_end0
  exact ⟨⟨_, rfl⟩, HOV.out⟩
end Go.Proofs.Ytgbcdebnanejpaa
namespace Go.Proofs.Ytgbcdebnanejpaa
set_option linter.unusedVariables false
open Go.RowKit Go.Shelf

/-- The world inside the region that calls neuron.Tick and lays its state into a new block: operation 17 makes it, 18 fills it. -/
structure TickR (W0 : World) (X1 X2 : Int) (Kv : Nat → Value) (L : Array Bool) (val : Nat → Value) (W : World) : Prop where
  known : ∀ j, j ≠ 17 → j ≠ 18 → L.getD j false = true → val j = Kv j
  keep : ∀ b, b < W0.heap.size → W.heap[b]? = W0.heap[b]?
  al : L.getD 17 false = true → ∃ g, W0.heap.size ≤ g ∧ val 17 = .pointer (some ⟨g, 0, none⟩) ∧ ∃ u v : Value, W.heap[g]? = some (.cells #[u, v] 98) ∧ (L.getD 18 false = true → u = .int .i64 X1 ∧ v = .int .i64 X2)
  d18 : L.getD 18 false = true → L.getD 17 false = true
  sz : W0.heap.size ≤ W.heap.size
  os : W.os = W0.os
  tape : W.tape = W0.tape
  output : W.output = W0.output
theorem TickR.init {W0 : World} {X1 X2 : Int} {Kv : Nat → Value} (N : Nat) : TickR W0 X1 X2 Kv (Array.replicate N false) (fun _ => undef) { W0 with drawn := W0.drawn + 1 } := by
  have e : ∀ j : Nat, (Array.replicate N false).getD j false = false := fun j => by simp [Array.getD_eq_getD_getElem?, Array.getElem?_replicate]; split <;> rfl
  exact ⟨fun j _ _ h => (by rw [e j] at h; cases h), fun _ _ => rfl, fun h => (by rw [e 17] at h; cases h), fun h => (by rw [e 18] at h; cases h), Nat.le_refl _, rfl, rfl, rfl⟩
/-- An operation that reads, or makes memory of its own. -/
theorem TickR.skip {W0 W : World} {X1 X2 : Int} {Kv val : Nat → Value} {L : Array Bool} (h : TickR W0 X1 X2 Kv L val W) (i : Nat) (h17 : i ≠ 17) (h18 : i ≠ 18) (u : Value) (hu : u = Kv i) (W' : World) (hb : Below W.heap.size W W') : TickR W0 X1 X2 Kv (L.setIfInBounds i true) (setV val i u) W' := by
  have hs := hb.size
  refine ⟨fun j a b hl => ?_, fun b hb' => (hb.block b (by have := h.sz; omega)).trans (h.keep b hb'), fun hl => ?_, fun hl => (by rw [getD_set_ne3 h17]; exact h.d18 (by rwa [getD_set_ne3 h18] at hl)), by have := h.sz; omega, hb.os.trans h.os, hb.tape.trans h.tape, hb.output.trans h.output⟩
  · by_cases q : j = i
    · subst q; rw [setV_eq, hu]
    · rw [setV_ne q]; exact h.known j a b (by rwa [getD_set_ne3 (fun g => q g.symm)] at hl)
  · rw [getD_set_ne3 h17] at hl
    obtain ⟨g, g1, g2, u', v', g3, g4⟩ := h.al hl
    exact ⟨g, g1, by rw [setV_ne (fun e => h17 e.symm)]; exact g2, u', v', (hb.block g (lt_of_block g3)).trans g3, fun e => g4 (by rwa [getD_set_ne3 h18] at e)⟩
theorem TickR.alloc {W0 W : World} {X1 X2 : Int} {Kv val : Nat → Value} {L : Array Bool} (h : TickR W0 X1 X2 Kv L val W) (hs : 18 < L.size) (h18 : L.getD 18 false = false) : TickR W0 X1 X2 Kv (L.setIfInBounds 17 true) (setV val 17 (.pointer (some ⟨W.heap.size, 0, none⟩))) (W.alloc (.cells #[.int .i64 0, .int .i64 0] 98)) := by
  refine ⟨fun j a b hl => ?_, fun b hb' => (Below.heap_alloc _ _ _ (by have := h.sz; omega)).trans (h.keep b hb'), fun _ => ?_, fun _ => getD_set_eq3 (by omega), by have := h.sz; simp; omega, h.os, h.tape, h.output⟩
  · rw [setV_ne a]; exact h.known j a b (by rwa [getD_set_ne3 (fun g => a g.symm)] at hl)
  · exact ⟨W.heap.size, h.sz, setV_eq, _, _, alloc_new_at _ _ _ rfl, fun e => by rw [getD_set_ne3 (by omega), h18] at e; cases e⟩
theorem TickR.fill {W0 W : World} {X1 X2 : Int} {Kv val : Nat → Value} {L : Array Bool} {g : Nat} {u v x : Value} (h : TickR W0 X1 X2 Kv L val W) (hg : W0.heap.size ≤ g) (hv : val 17 = .pointer (some ⟨g, 0, none⟩)) (hb : W.heap[g]? = some (.cells #[u, v] 98)) (h17 : L.getD 17 false = true) :
    TickR W0 X1 X2 Kv (L.setIfInBounds 18 true) (setV val 18 x) ((W.setCell ⟨g, 0, none⟩ (.int .i64 X1)).setCell ⟨g, 1, none⟩ (.int .i64 X2)) := by
  refine ⟨fun j a b hl => ?_, fun b hb' => ?_, fun hl => ?_, fun _ => (by rw [getD_set_ne3 (by omega)]; exact h17), by have := h.sz; simpa [World.setCell] using this, h.os, h.tape, h.output⟩
  · rw [setV_ne b]; exact h.known j a b (by rwa [getD_set_ne3 (fun g => b g.symm)] at hl)
  · rw [Below.heap_setCell _ _ _ _ (by show b ≠ g; omega), Below.heap_setCell _ _ _ _ (by show b ≠ g; omega)]; exact h.keep b hb'
  · exact ⟨g, hg, by rw [setV_ne (by omega)]; exact hv, _, _, set2_1 (set2_0 hb _) _, fun _ => ⟨rfl, rfl⟩⟩

/-- A region of m reads and a store at the end, whatever it stores: Hp is the heap behind it. -/
structure StoreH (W0 : World) (m : Nat) (Hp : Array Obj) (Kv : Nat → Value) (L : Array Bool) (val : Nat → Value) (W : World) : Prop where
  known : ∀ j, j < m → L.getD j false = true → val j = Kv j
  all : L.getD m false = true → ∀ j, j < m → L.getD j false = true
  pre : L.getD m false = false → W.heap = W0.heap
  post : L.getD m false = true → W.heap = Hp
  os : W.os = W0.os
  tape : W.tape = W0.tape
  output : W.output = W0.output
theorem StoreH.init {W0 : World} {m : Nat} {Hp : Array Obj} {Kv : Nat → Value} (N : Nat) : StoreH W0 m Hp Kv (Array.replicate N false) (fun _ => undef) { W0 with drawn := W0.drawn + 1 } := by
  have e : ∀ j : Nat, (Array.replicate N false).getD j false = false := fun j => by simp [Array.getD_eq_getD_getElem?, Array.getElem?_replicate]; split <;> rfl
  exact ⟨fun j _ h => (by rw [e j] at h; cases h), fun h => (by rw [e m] at h; cases h), fun _ => rfl, fun h => (by rw [e m] at h; cases h), rfl, rfl, rfl⟩
theorem StoreH.not {W0 W : World} {m : Nat} {Hp : Array Obj} {Kv val : Nat → Value} {L : Array Bool} (h : StoreH W0 m Hp Kv L val W) {i : Nat} (hi : i < m) (hl : L.getD i false = false) : L.getD m false = false := by
  cases e : L.getD m false with
  | false => rfl
  | true => have := h.all e i hi; rw [hl] at this; cases this
theorem StoreH.skip {W0 W : World} {m : Nat} {Hp : Array Obj} {Kv val : Nat → Value} {L : Array Bool} (h : StoreH W0 m Hp Kv L val W) (i : Nat) (hi : i < m) (hl : L.getD i false = false) (u : Value) (hu : u = Kv i) (W' : World) (hW : W'.heap = W.heap) (h1 : W'.os = W.os) (h2 : W'.tape = W.tape) (h3 : W'.output = W.output) :
    StoreH W0 m Hp Kv (L.setIfInBounds i true) (setV val i u) W' := by
  have e : (L.setIfInBounds i true).getD m false = L.getD m false := getD_set_ne3 (by omega)
  have hm := h.not hi hl
  refine ⟨fun j hj hjl => ?_, fun g => (by rw [e, hm] at g; cases g), fun _ => hW.trans (h.pre hm), fun g => (by rw [e, hm] at g; cases g), h1.trans h.os, h2.trans h.tape, h3.trans h.output⟩
  by_cases q : j = i
  · subst q; rw [setV_eq, hu]
  · rw [setV_ne q]; exact h.known j hj (by rwa [getD_set_ne3 (fun g => q g.symm)] at hjl)
theorem StoreH.store {W0 W W' : World} {m : Nat} {Hp : Array Obj} {Kv val : Nat → Value} {L : Array Bool} (h : StoreH W0 m Hp Kv L val W) (hs : m < L.size) (hall : ∀ j, j < m → L.getD j false = true) (u : Value) (hW : W'.heap = Hp) (h1 : W'.os = W.os) (h2 : W'.tape = W.tape) (h3 : W'.output = W.output) :
    StoreH W0 m Hp Kv (L.setIfInBounds m true) (setV val m u) W' := by
  refine ⟨fun j hj hjl => ?_, fun _ j hj => (by rw [getD_set_ne3 (by omega)]; exact hall j hj), fun g => (by rw [getD_set_eq3 hs] at g; cases g), fun _ => hW, h1.trans h.os, h2.trans h.tape, h3.trans h.output⟩
  rw [setV_ne (by omega)]; exact h.known j hj (hall j hj)
theorem StoreH.cell {W0 W : World} {m : Nat} {Hp : Array Obj} {Kv val : Nat → Value} {L : Array Bool} (h : StoreH W0 m Hp Kv L val W) (hl : L.getD m false = false) (a : Addr) : W.cell? a = W0.cell? a ∧ W.frozen? a = W0.frozen? a := by
  unfold World.cell? World.frozen?; rw [h.pre hl]; exact ⟨rfl, rfl⟩
end Go.Proofs.Ytgbcdebnanejpaa
namespace Go.Proofs.Ytgbcdebnanejpaa
set_option linter.unusedVariables false
open Go.RowKit Go.Shelf

theorem stC_set : ∀ (st : List (Int × Int)) (k : Nat) (a b : Int), k < st.length → ((stC st).set (k * 2) (.int .i64 a)).set (k * 2 + 1) (.int .i64 b) = stC (st.set k (a, b))
  | [], k, a, b, h => by simp at h
  | x :: l, 0, a, b, h => by simp [stC]
  | x :: l, k + 1, a, b, h => by
    have ih := stC_set l k a b (by simpa using h)
    have e : stC (x :: l) = .int .i64 x.1 :: .int .i64 x.2 :: stC l := by simp [stC]
    have e2 : stC ((x :: l).set (k + 1) (a, b)) = .int .i64 x.1 :: .int .i64 x.2 :: stC (l.set k (a, b)) := by simp [stC]
    rw [e, e2, show (k + 1) * 2 = k * 2 + 1 + 1 from by omega, List.set_cons_succ, List.set_cons_succ, List.set_cons_succ, List.set_cons_succ, ih]
theorem midS_succ (ps : List Prm) (st : List (Int × Int)) (row : Nat → Int) (k : Nat) (hk : k < st.length) : midS ps st row (k + 1) = (midS ps st row k).set k (newS ps st row k) := by
  apply List.ext_getElem
  · simp [midS]
  · intro i h1 h2
    simp only [midS, List.getElem_set, List.getElem_map, List.getElem_range]
    by_cases e : k = i
    · subst e; rw [if_pos (by omega), if_pos rfl]
    · rw [if_neg e]
      by_cases q : i < k
      · rw [if_pos (by omega), if_pos q]
      · rw [if_neg (by omega), if_neg q]
theorem st_block {W : World} {b : Nat} {st : List (Int × Int)} {t : TypeId} (h : W.heap[b]? = some (.cells (stC st).toArray t)) (k : Nat) (hk : k < st.length) (a c : Int) :
    ((W.setCell ⟨b, k * 2, none⟩ (.int .i64 a)).setCell ⟨b, k * 2 + 1, none⟩ (.int .i64 c)).heap[b]? = some (.cells (stC (st.set k (a, c))).toArray t) := by
  rw [← stC_set st k a c hk]
  simp [World.setCell, Array.getElem?_modify, h]
theorem st_cells {W : World} {b : Nat} {st : List (Int × Int)} {t : TypeId} (h : W.heap[b]? = some (.cells (stC st).toArray t)) (k : Nat) (hk : k < st.length) :
    W.cell? ⟨b, k * 2, none⟩ = some (.int .i64 (sAt st k).1) ∧ W.cell? ⟨b, k * 2 + 1, none⟩ = some (.int .i64 (sAt st k).2) ∧ W.frozen? ⟨b, k * 2, none⟩ = false ∧ W.frozen? ⟨b, k * 2 + 1, none⟩ = false := by
  have hs : st[k]? = some (sAt st k) := by simp [sAt, hk]
  obtain ⟨e1, e2⟩ := stC_at st k _ hs
  refine ⟨?_, ?_, ?_, ?_⟩
  · simp [World.cell?, h]; simpa using e1
  · simp [World.cell?, h]; simpa using e2
  · simp [World.frozen?, h]
  · simp [World.frozen?, h]
/-- The states alone change. -/
theorem SimAt.newSt {n : NetM} {A A' : World} {B : Nat} {z : SimZ} {t r0 : Nat} {st st' : List (Int × Int)} {due : Due} (h : SimAt n A B z t r0 st due) (hl : st'.length = n.ps.length) (hb : ∀ b, b < A.heap.size → b ≠ z.sb → A'.heap[b]? = A.heap[b]?) (hs : A'.heap[z.sb]? = some (.cells (stC st').toArray 98)) : SimAt n A' B z t r0 st' due := by
  have hin := h.isIn
  have hm : z.mut z.sb := Or.inr (Or.inl rfl)
  have hnm : ∀ b, ¬ z.mut b → b ≠ z.sb := fun b hb e => hb (e ▸ hm)
  refine ⟨(hb _ hin.bs h.ne1).trans h.blk, ?_, h.psM, ⟨h.wires.map.of_block (hb _ hin.mb (hnm _ h.mbM)), fun x => ownsRow_of_block (h.wires.row x) fun g hg => hb g (hin.sl x g hg) (hnm _ (h.wiM x g hg)), h.wires.nil, h.wires.apart, h.wires.lt⟩, h.wiM, h.mbM, hs, hl, fun a' g1 g2 => (hb _ (hin.rb _ (Nat.mod_lt _ (by omega))) (fun e => h.ne3 _ (Nat.mod_lt _ (by omega)) e.symm)).trans (h.row a' g1 g2), h.zero, h.inj, h.ne1, h.ne2, h.ne3, h.lo⟩
  rcases h.ps with h0 | ⟨b, off, cap, e, hl', h1'⟩
  · exact Or.inl h0
  · have hbn : b ≠ z.sb := hnm b (h.psM b (by rw [e]; rfl))
    have hc : ∀ o, A'.cell? ⟨b, o, none⟩ = A.cell? ⟨b, o, none⟩ := fun o => by unfold World.cell?; rw [hb b hl' hbn]
    have hl2 : b < A'.heap.size := by
      have hx : A'.heap[b]? = some (A.heap[b]'hl') := by rw [hb b hl' hbn]; exact Array.getElem?_eq_getElem hl'
      exact lt_of_block hx
    refine Or.inr ⟨b, off, cap, e, hl2, fun k p hk => ?_⟩
    obtain ⟨c0, c1, c2, c3, c4, c5, c6, c7⟩ := h1' k p hk
    exact ⟨(hc _).trans c0, (hc _).trans c1, (hc _).trans c2, (hc _).trans c3, (hc _).trans c4, (hc _).trans c5, (hc _).trans c6, (hc _).trans c7⟩
end Go.Proofs.Ytgbcdebnanejpaa
namespace Go.Proofs.Ytgbcdebnanejpaa
set_option linter.unusedVariables false
open Go.RowKit Go.Shelf

/-- The clock goes on. -/
theorem SimAt.incr {n : NetM} {A : World} {B : Nat} {z : SimZ} {t r0 : Nat} {st : List (Int × Int)} {due : Due} (h : SimAt n A B z t r0 st due) :
    SimAt n (A.setCell ⟨z.bs, 4, none⟩ (.int .i64 ((t : Int) + 1))) B z (t + 1) r0 st due ∧ Bel z.mut A.heap.size A (A.setCell ⟨z.bs, 4, none⟩ (.int .i64 ((t : Int) + 1))) := by
  have hm : z.mut z.bs := Or.inl rfl
  have hb := fun b (hn : b ≠ z.bs) => Below.heap_setCell A ⟨z.bs, 4, none⟩ (.int .i64 ((t : Int) + 1)) b (by exact hn)
  have hblk : (A.setCell ⟨z.bs, 4, none⟩ (.int .i64 ((t : Int) + 1))).heap[z.bs]? = some (.cells (simHead n z (t + 1) ++ simRows n z).toArray 104) := by
    have := h.blk
    simp [World.setCell, Array.getElem?_modify, this, simHead]
  have hnm : ∀ b, ¬ z.mut b → b ≠ z.bs := fun b hb e => hb (e ▸ hm)
  have hz : (A.setCell ⟨z.bs, 4, none⟩ (.int .i64 ((t : Int) + 1))).heap.size = A.heap.size := by simp
  refine ⟨⟨hblk, ?_, h.psM, ⟨h.wires.map.of_block (hb _ (hnm _ h.mbM)), fun x => ownsRow_of_block (h.wires.row x) fun g hg => hb g (hnm _ (h.wiM x g hg)), h.wires.nil, h.wires.apart, h.wires.lt⟩, h.wiM, h.mbM, (hb _ (Ne.symm h.ne1)).trans h.stb, h.len, fun a' g1 g2 => (hb _ (fun e => h.ne2 _ (Nat.mod_lt _ (by omega)) e.symm)).trans (h.row a' g1 g2), h.zero, h.inj, h.ne1, h.ne2, h.ne3, h.lo⟩, ⟨rfl, rfl, rfl, by rw [hz]; exact Nat.le_refl _, fun b g1 g2 => hb b (hnm b g2)⟩⟩
  rcases h.ps with h0 | ⟨b, off, cap, e, hl, h1'⟩
  · exact Or.inl h0
  · have hbn : b ≠ z.bs := hnm b (h.psM b (by rw [e]; rfl))
    have hc : ∀ o, (A.setCell ⟨z.bs, 4, none⟩ (.int .i64 ((t : Int) + 1))).cell? ⟨b, o, none⟩ = A.cell? ⟨b, o, none⟩ := fun o => by unfold World.cell?; rw [hb b hbn]
    refine Or.inr ⟨b, off, cap, e, by rw [hz]; exact hl, fun k p hk => ?_⟩
    obtain ⟨c0, c1, c2, c3, c4, c5, c6, c7⟩ := h1' k p hk
    exact ⟨(hc _).trans c0, (hc _).trans c1, (hc _).trans c2, (hc _).trans c3, (hc _).trans c4, (hc _).trans c5, (hc _).trans c6, (hc _).trans c7⟩
theorem SimAt.nowCell {n : NetM} {A : World} {B : Nat} {z : SimZ} {t r0 : Nat} {st : List (Int × Int)} {due : Due} (h : SimAt n A B z t r0 st due) : A.frozen? ⟨z.bs, 4, none⟩ = false := by
  have hb := h.blk
  simp [World.frozen?, hb]

structure Tick2 (n : NetM) (B : Nat) (z : SimZ) (t : Nat) (st : List (Int × Int)) (due : Due) (L : List Int) (w : World) (v : Value) (A : World) : Prop where
  sim : SimAt n A B z t (t + 1) st due
  row : A.ownsRow w.heap.size 3 1 v L.length (L.map (Value.int .i64))
  bel : Bel z.mut w.heap.size w A
theorem Tick2.send {n : NetM} {B : Nat} {z : SimZ} {t : Nat} {st : List (Int × Int)} {due due' : Due} {L : List Int} {w A A' : World} {v : Value} (h : Tick2 n B z t st due L w v A) (hin : SimIn z w.heap.size) (hs : SimAt n A' B z t (t + 1) st due') (hb : Bel z.mut A.heap.size A A') : Tick2 n B z t st due' L w v A' :=
  ⟨hs, ownsRow_of_block h.row fun g hg => hb.block g (h.row.lt g hg).2 (fun hm => by have := hin.mut hm; have := (h.row.lt g hg).1; omega), h.bel.trans (hb.mono h.bel.size fun _ _ h => h)⟩
theorem IntsAt.bel {w A : World} {z : SimZ} {v : Value} {l : List Int} (h : IntsAt w v l) (hM : ∀ g, v.ownBlock = some g → ¬ z.mut g) (hb : Bel z.mut w.heap.size w A) : IntsAt A v l := by
  rcases h with ⟨h1, h2⟩ | ⟨b, off, cap, e, hc⟩
  · exact .inl ⟨h1, h2⟩
  · refine .inr ⟨b, off, cap, e, fun k hk => ?_⟩
    have h1 := hc k hk
    have hl := World.block_lt_of_cell? w _ h1
    have e2 := hb.block b hl (hM b (by rw [e]; rfl))
    unfold World.cell? at h1 ⊢
    rw [e2]; exact h1
theorem foldl_take {α β : Type} {f : β → α → β} {l : List α} {j : Nat} {x : α} {b : β} (h : l[j]? = some x) : (l.take (j + 1)).foldl f b = f ((l.take j).foldl f b) x := by
  rw [List.take_add_one, h, List.foldl_append]; rfl
end Go.Proofs.Ytgbcdebnanejpaa
