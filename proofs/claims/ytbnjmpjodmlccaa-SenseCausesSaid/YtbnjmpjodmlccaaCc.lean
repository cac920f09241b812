/- Three growing lists of ints of one's own; what valid sensors return. Over this seat's program; the conditions are named. -/
import Derived.Test.YtbnjmpjodmlccaaCb
namespace Go.Proofs.Ytbnjmpjodmlccaa
set_option linter.unusedVariables false
open Go.RowKit Go.Shelf

def vs3 {α : Type} (a b c : α) : Nat → α | 0 => a | 1 => b | _ => c
def upd {α : Type} (f : Nat → α) (i : Nat) (x : α) : Nat → α := fun j => if j = i then x else f j
theorem upd3_0 {α : Type} (a b c x : α) : upd (vs3 a b c) 0 x = vs3 x b c := by funext j; match j with | 0 => rfl | 1 => rfl | j + 2 => rfl
theorem upd3_1 {α : Type} (a b c x : α) : upd (vs3 a b c) 1 x = vs3 a x c := by funext j; match j with | 0 => rfl | 1 => rfl | j + 2 => rfl
structure Rows3 (H : Nat) (A : World) (v : Nat → Value) (l : Nat → List Int) : Prop where
  own : ∀ i, i < 3 → A.ownsRow H 3 1 (v i) (l i).length (iCs (l i))
  dis : ∀ i j g, i < 3 → j < 3 → i ≠ j → (v i).ownBlock = some g → (v j).ownBlock ≠ some g
theorem Rows3.below {H : Nat} {A A' : World} {v : Nat → Value} {l : Nat → List Int} (h : Rows3 H A v l) (hb : Below A.heap.size A A') : Rows3 H A' v l :=
  ⟨fun i hi => ownsRow_of_block (h.own i hi) fun g hg => hb.block g ((h.own i hi).lt g hg).2, h.dis⟩
theorem Rows3.app {H : Nat} {A A' : World} {v : Nat → Value} {l : Nat → List Int} (h : Rows3 H A v l) {i : Nat} (hi : i < 3) {x : Int} {nv : Value} (ho : A'.ownsRow H 3 1 nv ((l i).length + 1) (iCs (l i) ++ [.int .i64 x]))
    (hg : A.grownBy A' (v i).ownBlock) (hw : nv.ownBlock = (v i).ownBlock ∨ nv.ownBlock = some A.heap.size) : Rows3 H A' (upd v i nv) (upd l i (l i ++ [x])) := by
  refine ⟨fun j hj => ?_, fun j k g hj hk hjk => ?_⟩
  · unfold upd
    by_cases e : j = i
    · rw [if_pos e, if_pos e, List.length_append]; simpa [iCs] using ho
    · rw [if_neg e, if_neg e]
      exact ownsRow_of_block (h.own j hj) fun b hb => hg.block b ((h.own j hj).lt b hb).2 (fun e2 => h.dis j i b hj hi e hb e2.symm)
  · have key : ∀ m, m < 3 → m ≠ i → ∀ g, nv.ownBlock = some g → (v m).ownBlock ≠ some g := fun m hm hmi g hg1 hg2 => by
      rcases hw with hw | hw
      · rw [hw] at hg1; exact h.dis i m g hi hm (fun e => hmi e.symm) hg1 hg2
      · rw [hw] at hg1
        have := ((h.own m hm).lt g hg2).2
        injection hg1 with e; omega
    unfold upd
    by_cases e : j = i
    · rw [if_pos e, if_neg (fun e2 => hjk (e.trans e2.symm))]
      exact fun h1 => key k hk (fun e2 => hjk (e.trans e2.symm)) g h1
    · rw [if_neg e]
      by_cases e2 : k = i
      · rw [if_pos e2]; exact fun h1 h2 => key j hj e g h2 h1
      · rw [if_neg e2]; exact h.dis j k g hj hk hjk
theorem Rows3.c2 {H : Nat} {A : World} {a b c x : Value} {p q r y : List Int} (h : Rows3 H A (upd (vs3 a b c) 2 x) (upd (vs3 p q r) 2 y)) : Rows3 H A (vs3 a b x) (vs3 p q y) := by
  have e1 : ∀ i, i < 3 → upd (vs3 a b c) 2 x i = vs3 a b x i := fun i hi => by match i, hi with | 0, _ | 1, _ | 2, _ => rfl
  have e2 : ∀ i, i < 3 → upd (vs3 p q r) 2 y i = vs3 p q y i := fun i hi => by match i, hi with | 0, _ | 1, _ | 2, _ => rfl
  refine ⟨fun i hi => ?_, fun i j g hi hj hij => ?_⟩
  · have := h.own i hi; rwa [e1 i hi, e2 i hi] at this
  · have := h.dis i j g hi hj hij; rwa [e1 i hi, e1 j hj] at this
/-- A row of one's own: nil, or with room. -/
theorem own_room {W : World} {H n : Nat} {a : Option Addr} {c : Nat} {cs : List Value} (h : W.ownsRow H 3 1 (.slice a n c) n cs) : (a = none ∧ n = 0 ∧ c = 0) ∨ ∃ g, a = some ⟨g, 0, none⟩ ∧ n ≤ c := by
  rcases h.2 with ⟨h1, h2⟩ | ⟨g, cap, cur, h1, h2, h3, h4, h5, h6, h7⟩
  · cases h1; exact .inl ⟨rfl, rfl, rfl⟩
  · cases h1; exact .inr ⟨g, rfl, by omega⟩
theorem wpList_app_i {ops : Array Oper} {rest : List Oper} {o : Oper} {a : Act} {Q : Exit → Act → World → Prop} (W : World) (hgd : o.guard = none) (s x : Operand)
    (ho : o.op = .call { callee := .builtin .append, args := #[s, x], argTypes := #[25, 25] }) (H : Nat) (v : Nat → Value) (l : Nat → List Int) (h : Rows3 H W v l) (i : Nat) (hi3 : i < 3) (hs : a.eval s = v i)
    (g : Nat) (X : Int) (hx : a.eval x = .slice (some ⟨g, 0, none⟩) 1 1) (hg : W.heap[g]? = some (.cells #[.int .i64 X] 3)) (hl : (l i).length ≤ 1000000) (hbase : H ≤ W.heap.size)
    (hK : ∀ nv W', Rows3 H W' (upd v i nv) (upd l i (l i ++ [X])) → Below H W W' → wpList Try.prog ops Q rest (a.put o.dst nv) W') : wpList Try.prog ops Q (o :: rest) a W := by
  obtain ⟨i0, hi, hz0, hzz1, hzz2⟩ := info_parts info3
  refine wpList_append_where W hgd s x 25 ho H 3 i0 (.int .i64 0) 1 8 Try.underlying25 hi hz0 hzz1 hzz2 rfl (by decide) (v i) _ _ hs (h.own i hi3) ⟨g, 0, none⟩ 1 1 (by decide) [.int .i64 X] hx rfl (cells_new hg) (by simp [Value.oneCell']) (by unfold maxLen; omega) (by omega) hbase ?_
  intro nv W' h1 h2 h3
  refine hK nv W' (h.app hi3 h1 h2 h3) ⟨h2.os, h2.tape, h2.output, h2.size, fun k hk => h2.block k (by omega) (fun e => ?_)⟩
  have := ((h.own i hi3).lt k e.symm).1
  omega
theorem he_ok {C : Nat} {S : Int} (h : ErOk C S) {l : List Int} (hl : l.length ≤ 4096) (hv : ∀ x ∈ l, -32767 ≤ x ∧ x ≤ 32767) : heE (C : Int) S l = 0 ∧ heL (C : Int) S l = erL S C l := by
  have e : heE (C : Int) S l = 0 := by
    unfold heE
    have h1 : inR (C : Int) 1 16 = true := inR_true.2 ⟨by have := h.c0; omega, by have := h.c1; omega⟩
    have h2 : inR S 1 32767 = true := inR_true.2 ⟨h.s0, h.s1⟩
    have h3 : (l.all fun x => inR x (-32767) 32767) = true := List.all_eq_true.2 fun x hx => inR_true.2 (hv x hx)
    rw [h1, h2, h3, if_neg (by simp), if_neg (by omega), if_neg (by simp)]
  exact ⟨e, by unfold heL; rw [if_pos e, Int.toNat_natCast]⟩
theorem fe_ok {T B : Int} (h : WhOk T B) {l : List Int} (hl : l.length ≤ 4096) (hv : ∀ x ∈ l, -1000 ≤ x ∧ x ≤ 1000) : feE T B l = 0 ∧ feL T B l = whL T B l := by
  have e : feE T B l = 0 := by
    unfold feE
    have h1 : inR T 1 1000 = true := inR_true.2 ⟨h.t0, h.t1⟩
    have h2 : inR B 0 T = true := inR_true.2 ⟨h.b0, h.b1⟩
    have h3 : (l.all fun x => inR x (-1000) 1000) = true := List.all_eq_true.2 fun x hx => inR_true.2 (hv x hx)
    rw [h1, h2, h3, if_neg (by simp), if_neg (by omega), if_neg (by simp)]
  exact ⟨e, by unfold feL; rw [if_pos e]⟩
theorem kat_take {W : World} {a : Option Addr} {n cap : Nat} {l : List Int} (h : KAt .i64 W (.slice a n cap) l) (k : Nat) (hk : k ≤ l.length) : KAt .i64 W (.slice a k cap) (l.take k) := by
  rcases h with ⟨e, rfl⟩ | ⟨b, off, cap', e, hl, h⟩
  · cases e
    obtain rfl : k = 0 := by simpa using hk
    exact .inl ⟨rfl, rfl⟩
  · cases e
    refine .inr ⟨b, off, cap, by rw [show (l.take k).length = k by simp; omega], hl, fun j z hz => ?_⟩
    have hjk : j < k := by have := (List.getElem?_eq_some_iff.1 hz).1; simp at this; omega
    rw [List.getElem?_take_of_lt hjk] at hz
    exact h j z hz
theorem own_kat {W : World} {H : Nat} {v : Value} {n : Nat} {l : List Int} (hn : n = l.length) (h : W.ownsRow H 3 1 v n (iCs l)) : KAt .i64 W v l := by subst hn; exact kat_of_owns h
theorem run_max2v {P : Program} {w : World} (ts : Array TypeId) (t : TypeId) (k k' : IntKind) (x y : Int) : (Builtin.max_ ts t #[.int k x, .int k' y]).run P w = .ok (.int k (max x y)) w := by
  rw [run_max_int2]
  have : (if y > x then y else x) = max x y := by split <;> omega
  rw [this]
/-- A number of a row of one's own is changed. -/
theorem own_set {W : World} {H n g c : Nat} {l : List Int} (h : W.ownsRow H 3 1 (.slice (some ⟨g, 0, none⟩) n c) n (iCs l)) {j : Nat} (hj : j < n) (x : Int) :
    (W.setCell ⟨g, j, none⟩ (.int .i64 x)).ownsRow H 3 1 (.slice (some ⟨g, 0, none⟩) n c) n (iCs (l.set j x)) ∧ W.frozen? ⟨g, j, none⟩ = false ∧ H ≤ g := by
  obtain ⟨h0, h1⟩ := h
  rcases h1 with ⟨e, _⟩ | ⟨g', cap, cur, e, hb, hg, hnc, hcm, hcs, ht⟩
  · cases e
  · cases e
    have hset : (W.setCell ⟨g, j, none⟩ (.int .i64 x)).heap[g]? = some (.cells (cur.setIfInBounds j (.int .i64 x)) 3) := by
      simp [World.setCell, Array.getElem?_modify, hg]
    refine ⟨⟨by simpa [iCs] using h0, .inr ⟨g, c, _, rfl, hb, hset, hnc, hcm, by simpa using hcs, ?_⟩⟩, by simp [World.frozen?, hg], hb⟩
    have e1 : (cur.setIfInBounds j (.int .i64 x)).toList = cur.toList.set j (.int .i64 x) := by simp
    rw [e1]
    have e2 : iCs (l.set j x) = (iCs l).set j (.int .i64 x) := by simp [iCs, List.map_set]
    rw [e2, ← ht, List.take_set]
/-- What Hear, or Feel, returns without an error. -/
def EvOk (L : List Evx) (w : World) (e : Ending) (w' : World) : Prop := ∃ v, e = .returned (.tuple #[v, .int .i64 0]) ∧ EvxsAt w' v L ∧ Below w.heap.size w w'
theorem hear_ok {C : Nat} {S : Int} (h : ErOk C S) {l : List Int} (hl : l.length ≤ 4096) (hv : ∀ x ∈ l, -32767 ≤ x ∧ x ≤ 32767) (a : Option Addr) (n cap : Nat) (hn : n = l.length) (w : World) (hk : KAt .i64 w (.slice a n cap) l) :
    Calls Try.prog 23 #[.agg #[.int .i64 (C : Int), .int .i64 S], .slice a n cap] w (EvOk (erL S C l) w) := by
  subst hn
  obtain ⟨e1, e2⟩ := he_ok h hl hv
  have := hear_any (C : Int) S l (by omega) a cap w hk
  rw [e1, e2] at this
  exact this
theorem feel_ok {T B : Int} (h : WhOk T B) {l : List Int} (hl : l.length ≤ 4096) (hv : ∀ x ∈ l, -1000 ≤ x ∧ x ≤ 1000) (a : Option Addr) (n cap : Nat) (hn : n = l.length) (w : World) (hk : KAt .i64 w (.slice a n cap) l) :
    Calls Try.prog 25 #[.agg #[.int .i64 T, .int .i64 B], .slice a n cap] w (EvOk (whL T B l) w) := by
  subst hn
  obtain ⟨e1, e2⟩ := fe_ok h hl hv
  have := feel_any T B l (by omega) a cap w hk
  rw [e1, e2] at this
  exact this
end Go.Proofs.Ytbnjmpjodmlccaa
