/- What Renumber returns; rows of neurons that are made and stored. -/
import Derived.Test.YtgbcdebnanejpaaRc
import Derived.Test.YtgbcdebnanejpaaDv
namespace Go.Proofs.Ytgbcdebnanejpaa.Rn
set_option linter.unusedVariables false
open Go.RowKit Go.Shelf

def zP : Prm := ⟨0, 0, 0, 0, 0, 0, 0, 0⟩
/-- The neurons, after j of them have been put in their new places. -/
def fillP (ps : List Prm) (l : List Int) : Nat → List Prm
  | 0 => List.replicate ps.length zP
  | j + 1 => (fillP ps l j).set (l[j]?.getD 0).toNat (ps[j]?.getD zP)
theorem fillP_length (ps : List Prm) (l : List Int) : ∀ j, (fillP ps l j).length = ps.length
  | 0 => by simp [fillP]
  | j + 1 => by simp [fillP, fillP_length ps l j]
def toI (l : List Int) (x : Int) : Int := l[x.toNat]?.getD 0
def renS (l : List Int) (s : Syn) : Syn := ⟨if 0 ≤ s.fr then toI l s.fr else s.fr, toI l s.to, s.wt, s.dl⟩
def renN (n : NetM) (l : List Int) : NetM := ⟨fillP n.ps l n.ps.length, n.inp, n.ss.map (renS l)⟩
/-- The synapses, after j of them have been renamed. -/
def midR (ss : List Syn) (l : List Int) (j : Nat) : List Syn := (ss.take j).map (renS l) ++ ss.drop j
theorem midR_length (ss : List Syn) (l : List Int) (j : Nat) : (midR ss l j).length = ss.length := by
  simp [midR]; omega
theorem midR_zero (ss : List Syn) (l : List Int) : midR ss l 0 = ss := by simp [midR]
theorem midR_all (ss : List Syn) (l : List Int) : midR ss l ss.length = ss.map (renS l) := by simp [midR]
theorem midR_at (ss : List Syn) (l : List Int) {j : Nat} {s : Syn} (h : ss[j]? = some s) : (midR ss l j)[j]? = some s := by
  have hj := (List.getElem?_eq_some_iff.1 h).1
  rw [midR, List.getElem?_append_right (by simp; omega)]
  simp
  rw [show j - min j ss.length = 0 by omega, Nat.add_zero]; exact h
theorem midR_succ (ss : List Syn) (l : List Int) {j : Nat} {s : Syn} (h : ss[j]? = some s) : midR ss l (j + 1) = (midR ss l j).set j (renS l s) := by
  obtain ⟨hj, he⟩ := List.getElem?_eq_some_iff.1 h
  unfold midR
  rw [List.set_append_right _ _ (by simp; omega)]
  have e1 : ss.drop j = s :: ss.drop (j + 1) := by rw [List.drop_eq_getElem_cons hj, he]
  rw [e1, List.take_add_one, h]
  have e2 : j - ((ss.take j).map (renS l)).length = 0 := by simp; omega
  rw [e2]
  simp
/-- What a check of all leaves: an error and no network, or the network. -/
def RenOut (X : Int) (N : NetM) (w : World) (e : Ending) (w' : World) : Prop := ∃ v, e = .returned (.tuple #[v, .int .i64 X]) ∧ NetAt w' v N ∧ Below w.heap.size w w'
def netZ : NetM := ⟨[], 0, []⟩
theorem netZ_at (W : World) : NetAt W (.agg #[.slice none 0 0, .int .i64 0, .slice none 0 0]) netZ := ⟨none, 0, none, 0, rfl, Or.inl ⟨rfl, rfl⟩, Or.inl ⟨rfl, rfl⟩⟩

/-- Eight cells of an array. -/
structure C8 (cur : Array Value) (o : Nat) (p : Prm) : Prop where
  c0 : cur[o]? = some (.int .i64 p.lk)
  c1 : cur[o + 1]? = some (.int .i64 p.lv)
  c2 : cur[o + 2]? = some (.int .i64 p.bi)
  c3 : cur[o + 3]? = some (.int .i64 p.th)
  c4 : cur[o + 4]? = some (.int .i64 p.rk)
  c5 : cur[o + 5]? = some (.int .i64 p.rs)
  c6 : cur[o + 6]? = some (.int .i64 p.fl)
  c7 : cur[o + 7]? = some (.int .i64 p.re)
/-- Block g holds a list of neurons. -/
def PRow (W : World) (g : Nat) (l : List Prm) : Prop := ∃ cur, W.heap[g]? = some (.cells cur 39) ∧ ∀ j p, l[j]? = some p → C8 cur (j * 8) p
theorem PRow.lt {W : World} {g : Nat} {l : List Prm} (h : PRow W g l) : g < W.heap.size := by
  obtain ⟨cur, h1, _⟩ := h
  exact lt_of_block h1
theorem PRow.of_block {W W' : World} {g : Nat} {l : List Prm} (h : PRow W g l) (e : W'.heap[g]? = W.heap[g]?) : PRow W' g l := by
  obtain ⟨cur, h1, h2⟩ := h
  exact ⟨cur, e.trans h1, h2⟩
theorem PRow.psAt {W : World} {g : Nat} {l : List Prm} (h : PRow W g l) (cap : Nat) : PsAt W (.slice (some ⟨g, 0, none⟩) l.length cap) l := by
  obtain ⟨cur, h1, h2⟩ := h
  refine Or.inr ⟨g, 0, cap, rfl, lt_of_block h1, fun k p hk => ?_⟩
  rw [Nat.zero_add]
  obtain ⟨c0, c1, c2, c3, c4, c5, c6, c7⟩ := h2 k p hk
  exact ⟨by simp [World.cell?, h1, c0], by simp [World.cell?, h1, c1], by simp [World.cell?, h1, c2], by simp [World.cell?, h1, c3], by simp [World.cell?, h1, c4], by simp [World.cell?, h1, c5], by simp [World.cell?, h1, c6], by simp [World.cell?, h1, c7]⟩
/-- A neuron is stored. -/
def put8 (W : World) (g o : Nat) (p : Prm) : World :=
  (((((((W.setCell ⟨g, o, none⟩ (.int .i64 p.lk)).setCell ⟨g, o + 1, none⟩ (.int .i64 p.lv)).setCell ⟨g, o + 2, none⟩ (.int .i64 p.bi)).setCell ⟨g, o + 3, none⟩ (.int .i64 p.th)).setCell ⟨g, o + 4, none⟩ (.int .i64 p.rk)).setCell ⟨g, o + 5, none⟩ (.int .i64 p.rs)).setCell ⟨g, o + 6, none⟩ (.int .i64 p.fl)).setCell ⟨g, o + 7, none⟩ (.int .i64 p.re)
theorem PRow.put {W : World} {g : Nat} {l : List Prm} (h : PRow W g l) {x : Nat} (hx : x < l.length) (p : Prm) : PRow (put8 W g (x * 8) p) g (l.set x p) := by
  obtain ⟨cur, h1, h2⟩ := h
  refine ⟨(((((((cur.setIfInBounds (x * 8) (.int .i64 p.lk)).setIfInBounds (x * 8 + 1) (.int .i64 p.lv)).setIfInBounds (x * 8 + 2) (.int .i64 p.bi)).setIfInBounds (x * 8 + 3) (.int .i64 p.th)).setIfInBounds (x * 8 + 4) (.int .i64 p.rk)).setIfInBounds (x * 8 + 5) (.int .i64 p.rs)).setIfInBounds (x * 8 + 6) (.int .i64 p.fl)).setIfInBounds (x * 8 + 7) (.int .i64 p.re), by simp [put8, World.setCell, Array.getElem?_modify, h1], fun j q hj => ?_⟩
  have hs : x * 8 + 7 < cur.size := by
    obtain ⟨q', hq'⟩ : ∃ q', l[x]? = some q' := ⟨_, List.getElem?_eq_getElem hx⟩
    exact (Array.getElem?_eq_some_iff.1 (h2 x q' hq').c7).1
  by_cases e : j = x
  · subst e
    rw [List.getElem?_set_self hx] at hj
    cases hj
    constructor <;> simp [Array.getElem?_setIfInBounds] <;> omega
  · rw [List.getElem?_set_ne (fun h => e h.symm)] at hj
    obtain ⟨c0, c1, c2, c3, c4, c5, c6, c7⟩ := h2 j q hj
    have key : ∀ o, j * 8 ≤ o → o < j * 8 + 8 → ∀ c, c < 8 → x * 8 + c ≠ o := fun o h1 h2 c h3 => by omega
    have k0 : ∀ o, j * 8 ≤ o → o < j * 8 + 8 → x * 8 ≠ o := fun o h1 h2 => by omega
    constructor
    all_goals (repeat rw [Array.getElem?_setIfInBounds_ne (by omega)])
    all_goals assumption
theorem put8_old {W : World} {g o b : Nat} {p : Prm} (h : b ≠ g) : (put8 W g o p).heap[b]? = W.heap[b]? := by
  simp [put8, World.setCell, Array.getElem?_modify, Ne.symm h]
theorem put8_size {W : World} {g o : Nat} {p : Prm} : (put8 W g o p).heap.size = W.heap.size := by simp [put8]

theorem info39 : (Try.prog.info? 39).map (fun i => (i.zero, i.size, i.bytes)) = some (some (.agg #[.int .i64 0, .int .i64 0, .int .i64 0, .int .i64 0, .int .i64 0, .int .i64 0, .int .i64 0, .int .i64 0]), 8, 64) := by kernel_rfl
def zRow (n : Nat) : Array Value := madeCells #[.int .i64 0, .int .i64 0, .int .i64 0, .int .i64 0, .int .i64 0, .int .i64 0, .int .i64 0, .int .i64 0] (n * 8)
theorem make_rows (n : Nat) (hn : n ≤ 100000) (W : World) :
    (Instr.makeSlice 22 (.int .i64 (n : Int)) (.int .i64 (n : Int))).run Try.prog W = .ok (.slice (some ⟨W.heap.size, 0, none⟩) n n) (W.alloc (.cells (zRow n) 39)) := by
  obtain ⟨i, h1, h2, h3, h4⟩ := info_parts info39
  have hr := run_make (P := Try.prog) W 22 39 i (.agg #[.int .i64 0, .int .i64 0, .int .i64 0, .int .i64 0, .int .i64 0, .int .i64 0, .int .i64 0, .int .i64 0]) Try.underlying22 h1 h2 .i64 .i64 n n (by omega) (by omega) (by rw [h4]; omega) (by omega)
  rw [hr, h3]
  rfl
theorem zRow_get {n j : Nat} (h : j < n * 8) : (zRow n)[j]? = some (.int .i64 0) := by
  have hm : j % 8 = 0 ∨ j % 8 = 1 ∨ j % 8 = 2 ∨ j % 8 = 3 ∨ j % 8 = 4 ∨ j % 8 = 5 ∨ j % 8 = 6 ∨ j % 8 = 7 := by omega
  rcases hm with e | e | e | e | e | e | e | e <;> simp [zRow, madeCells, h, e]
theorem pRow_new {W : World} {g n : Nat} (h : W.heap[g]? = some (.cells (zRow n) 39)) : PRow W g (List.replicate n zP) := by
  refine ⟨_, h, fun j p hj => ?_⟩
  obtain ⟨hl, he⟩ := List.getElem?_eq_some_iff.1 hj
  simp at hl he
  subst he
  constructor <;> exact zRow_get (by omega)
end Go.Proofs.Ytgbcdebnanejpaa.Rn
