/- What Join returns: the mathematics; own rows of neurons. -/
import Derived.Test.YtgbcdebnanejpaaR2
import Derived.Lib.AppendZeros
import Derived.Lib.AppendZerosOnto
import Derived.Laws.AppendOwnNone
import Derived.StillTailTactics
namespace Go.Proofs.Ytgbcdebnanejpaa.Rn
set_option linter.unusedVariables false
open Go.RowKit Go.Shelf

/-- A synapse of the second network, with its new numbers. -/
def shS (k : Nat) (i : Int) (s : Syn) : Syn := ⟨if s.fr < 0 then s.fr - i else s.fr + (k : Int), s.to + (k : Int), s.wt, s.dl⟩
def joinN (a b : NetM) : NetM := ⟨a.ps ++ b.ps, a.inp + b.inp, a.ss ++ b.ss.map (shS a.ps.length a.inp)⟩
def joinE (a b : NetM) : Int := if ncheck a ≠ 0 then ncheck a else if ncheck b ≠ 0 then ncheck b else ncheck (joinN a b)
def joinR (a b : NetM) : NetM := if joinE a b = 0 then joinN a b else netZ
/-- The synapses, after j of the second network's have been renamed. -/
def midJ (xs ss : List Syn) (k : Nat) (i : Int) (j : Nat) : List Syn := xs ++ ((ss.take j).map (shS k i) ++ ss.drop j)
theorem midJ_length (xs ss : List Syn) (k : Nat) (i : Int) (j : Nat) : (midJ xs ss k i j).length = xs.length + ss.length := by
  simp [midJ]; omega
theorem midJ_zero (xs ss : List Syn) (k : Nat) (i : Int) : midJ xs ss k i 0 = xs ++ ss := by simp [midJ]
theorem midJ_all (xs ss : List Syn) (k : Nat) (i : Int) : midJ xs ss k i ss.length = xs ++ ss.map (shS k i) := by simp [midJ]
theorem midJ_at (xs ss : List Syn) (k : Nat) (i : Int) {j : Nat} {s : Syn} (h : ss[j]? = some s) : (midJ xs ss k i j)[xs.length + j]? = some s := by
  have hj := (List.getElem?_eq_some_iff.1 h).1
  rw [midJ, List.getElem?_append_right (by omega), show xs.length + j - xs.length = j by omega, List.getElem?_append_right (by simp; omega)]
  simp
  rw [show j - min j ss.length = 0 by omega, Nat.add_zero]; exact h
theorem midJ_succ (xs ss : List Syn) (k : Nat) (i : Int) {j : Nat} {s : Syn} (h : ss[j]? = some s) : midJ xs ss k i (j + 1) = (midJ xs ss k i j).set (xs.length + j) (shS k i s) := by
  obtain ⟨hj, he⟩ := List.getElem?_eq_some_iff.1 h
  unfold midJ
  rw [List.set_append_right _ _ (by omega), show xs.length + j - xs.length = j by omega, List.set_append_right _ _ (by simp; omega)]
  have e1 : ss.drop j = s :: ss.drop (j + 1) := by rw [List.drop_eq_getElem_cons hj, he]
  rw [e1, List.take_add_one, h]
  have e2 : j - ((ss.take j).map (shS k i)).length = 0 := by simp; omega
  rw [e2]
  simp

/-! ### own rows of neurons -/
def prmV (p : Prm) : List Value := [.int .i64 p.lk, .int .i64 p.lv, .int .i64 p.bi, .int .i64 p.th, .int .i64 p.rk, .int .i64 p.rs, .int .i64 p.fl, .int .i64 p.re]
def prmCs (l : List Prm) : List Value := l.flatMap prmV
theorem prmCs_length (l : List Prm) : (prmCs l).length = l.length * 8 := by
  induction l with
  | nil => rfl
  | cons s l ih => simp [prmCs, prmV] at *; omega
theorem prmCs_append (l m : List Prm) : prmCs (l ++ m) = prmCs l ++ prmCs m := by simp [prmCs]
theorem prmCs_one (p : Prm) : prmCs [p] = prmV p := by simp [prmCs]
theorem synCs_append (l m : List Syn) : synCs (l ++ m) = synCs l ++ synCs m := by simp [synCs]
theorem prmCs_get : ∀ (l : List Prm) (i c : Nat) (s : Prm), c < 8 → l[i]? = some s → (prmCs l)[i * 8 + c]? = (prmV s)[c]?
  | [], i, c, r, _, h => by simp at h
  | x :: rs, 0, c, r, hc, h => by
    simp at h; subst h
    rw [prmCs, List.flatMap_cons, List.getElem?_append_left (by simp [prmV]; omega)]
    simp
  | x :: rs, i + 1, c, r, hc, h => by
    rw [prmCs, List.flatMap_cons, List.getElem?_append_right (by simp [prmV]; omega)]
    have := prmCs_get rs i c r hc (by simpa using h)
    rw [← this, prmCs]
    congr 1
    simp [prmV]; omega
theorem prmV_one {u : Value} {l : List Prm} (h : u ∈ prmCs l) : u.oneCell' = true := by
  obtain ⟨s, _, hs⟩ := List.mem_flatMap.1 h
  simp [prmV] at hs
  rcases hs with rfl | rfl | rfl | rfl | rfl | rfl | rfl | rfl <;> rfl
theorem psAt_of_owns {W : World} {base : Nat} {v : Value} {l : List Prm} (h : W.ownsRow base 39 8 v l.length (prmCs l)) : PsAt W v l := by
  rcases h.2 with ⟨rfl, h0⟩ | ⟨g, cap, cur, rfl, hb, hg, _, _, _, ht⟩
  · exact Or.inl ⟨rfl, List.eq_nil_of_length_eq_zero h0⟩
  · refine Or.inr ⟨g, 0, cap, rfl, (Array.getElem?_eq_some_iff.1 hg).1, fun k r hk => ?_⟩
    have key : ∀ c u, c < 8 → (prmV r)[c]? = some u → W.cell? ⟨g, 0 + k * 8 + c, none⟩ = some u := fun c u hc hu => by
      have h1 := h.cells (g := g) rfl (k * 8 + c) u (by rw [prmCs_get l k c r hc hk]; exact hu)
      have hadd : (⟨g, 0, none⟩ : Addr).add (k * 8 + c) = ⟨g, k * 8 + c, none⟩ := by unfold Addr.add; split <;> simp_all
      rw [hadd] at h1
      rw [show 0 + k * 8 + c = k * 8 + c by omega]; exact h1
    exact ⟨key 0 _ (by omega) rfl, key 1 _ (by omega) rfl, key 2 _ (by omega) rfl, key 3 _ (by omega) rfl, key 4 _ (by omega) rfl, key 5 _ (by omega) rfl, key 6 _ (by omega) rfl, key 7 _ (by omega) rfl⟩
theorem prmCs_cell {W : World} {b off : Nat} {l : List Prm} (h : ∀ k s, l[k]? = some s → PrmCells W b (off + k * 8) s) : ∀ (j : Nat) u, (prmCs l)[j]? = some u → W.cell? ⟨b, off + j, none⟩ = some u := fun j u hu => by
  have hj : j < l.length * 8 := by rw [← prmCs_length]; exact (List.getElem?_eq_some_iff.1 hu).1
  obtain ⟨s, hs⟩ : ∃ s, l[j / 8]? = some s := ⟨_, List.getElem?_eq_getElem (by omega)⟩
  have h1 := prmCs_get l (j / 8) (j % 8) s (by omega) hs
  rw [show j / 8 * 8 + j % 8 = j by omega, hu] at h1
  obtain ⟨c0, c1, c2, c3, c4, c5, c6, c7⟩ := h _ _ hs
  have hq : j = j / 8 * 8 + j % 8 := by omega
  have hm : j % 8 = 0 ∨ j % 8 = 1 ∨ j % 8 = 2 ∨ j % 8 = 3 ∨ j % 8 = 4 ∨ j % 8 = 5 ∨ j % 8 = 6 ∨ j % 8 = 7 := by omega
  rcases hm with e | e | e | e | e | e | e | e <;> rw [e] at h1 hq <;> simp [prmV] at h1 <;> subst h1 <;> rw [hq]
  · exact c0
  · rw [← Nat.add_assoc]; exact c1
  · rw [← Nat.add_assoc]; exact c2
  · rw [← Nat.add_assoc]; exact c3
  · rw [← Nat.add_assoc]; exact c4
  · rw [← Nat.add_assoc]; exact c5
  · rw [← Nat.add_assoc]; exact c6
  · rw [← Nat.add_assoc]; exact c7
end Go.Proofs.Ytgbcdebnanejpaa.Rn
namespace Go.Proofs.Ytgbcdebnanejpaa.Rn
set_option linter.unusedVariables false
open Go.RowKit Go.Shelf

theorem own_none {W : World} {B : Nat} {e : TypeId} {sz n : Nat} {xs : List Value} (h : W.ownsRow B e sz (.slice none 0 0) n xs) : n = 0 := by
  rcases h.2 with ⟨_, h0⟩ | ⟨g, cap, cur, e1, _⟩
  · exact h0
  · cases e1

/-- What Grow and Concat leave: a row of one's own. -/
def PsOut (l : List Prm) (w : World) (e : Ending) (w' : World) : Prop :=
  ∃ v, e = .returned v ∧ w'.ownsRow w.heap.size 39 8 v l.length (prmCs l) ∧ Below w.heap.size w w'
set_option maxHeartbeats 1000000 in
set_option maxRecDepth 100000 in
theorem growP_any (n : Nat) (hn : n ≤ 200000) (w : World) : Calls Try.prog 106 #[.slice none 0 0, .int .i64 (n : Int)] w (PsOut [] w) := by
  obtain ⟨i0, hi, hz0, hzz1, hzz2⟩ := info_parts info39
  have h1 : ((n : Int) < 0) = False := by simp
  have hw : wrap64 ((n : Int) - 0) = (n : Int) := by unfold wrap64; omega
  by_cases hn0 : n = 0
  · subst hn0
    go_enter Try.func106, Try.ntmps106
    go_wp2
    go_ret
    exact ⟨_, rfl, World.ownsRow_nil _ _ _ _, Below.refl _ _⟩
  · have h4 : ((n : Int) > 0) = True := by simp; omega
    have hrz : ∀ ty, (Builtin.append_ #[22, 3] ty #[.slice none 0 0, .int .i64 (n : Int)]).run Try.prog w = _ := fun ty =>
      Lib.run_append_grow_zeros w 22 3 ty 39 i0 (.agg #[.int .i64 0, .int .i64 0, .int .i64 0, .int .i64 0, .int .i64 0, .int .i64 0, .int .i64 0, .int .i64 0]) .i64 .i64 Try.underlying22 Try.underlying3 hi hz0 none 0 0 [] (run_firstCells_none w.drew i0.size 0 0 0) n (by omega) (by rw [hzz1]; omega) (by omega) (by omega) (by rw [hzz2]; omega)
        (growslice_fits (by omega) (by rw [hzz2]; omega))
    have hge := grownCap_ge w (0 + n) 0 39
    have hle := grownCap_le_maxLen w (0 + n) 0 39 (by unfold maxLen; omega)
    obtain ⟨G, hG⟩ : ∃ G, G = grownCap w (0 + n) 0 39 := ⟨_, rfl⟩
    rw [← hG] at hrz hge hle
    have hsz : ((#[] : Array Value) ++ Builtin.zeroCells (Value.agg #[.int .i64 0, .int .i64 0, .int .i64 0, .int .i64 0, .int .i64 0, .int .i64 0, .int .i64 0, .int .i64 0]).cells n ++ Builtin.zeroCells (Value.agg #[.int .i64 0, .int .i64 0, .int .i64 0, .int .i64 0, .int .i64 0, .int .i64 0, .int .i64 0, .int .i64 0]).cells (G - (0 + n))).size = G * 8 := by
      simp [Builtin.zeroCells, Value.cells]; omega
    rw [show ([] : List Value).toArray = #[] from rfl] at hrz
    generalize ((#[] : Array Value) ++ Builtin.zeroCells (Value.agg #[.int .i64 0, .int .i64 0, .int .i64 0, .int .i64 0, .int .i64 0, .int .i64 0, .int .i64 0, .int .i64 0]).cells n ++ Builtin.zeroCells (Value.agg #[.int .i64 0, .int .i64 0, .int .i64 0, .int .i64 0, .int .i64 0, .int .i64 0, .int .i64 0, .int .i64 0]).cells (G - (0 + n))) = cur at *
    rw [Nat.zero_add] at hrz hge
    have HR := Lib.hid hrz
    have HS := Lib.hid hsz
    have hg0 : (0 : Int) ≤ (G : Int) := Int.natCast_nonneg _
    have hgn : (0 : Int) ≤ (n : Int) := Int.natCast_nonneg _
    have hgm : G ≤ 9223372036854775807 := by unfold maxLen at hle; omega
    clear hrz hsz hG
    go_enter Try.func106, Try.ntmps106
    go_wp2_with (at_builtin; refine Lib.wpList_append_run _ rfl _ _ _ _ rfl _ _ rfl rfl _ _ (HR.out _) ?_)
    all_goals (go_ret; exact ⟨_, rfl, ⟨rfl, .inr ⟨w.heap.size, G, cur, rfl, Nat.le_refl _, alloc_new_at _ _ _ rfl, Nat.zero_le _, hle, HS.out, rfl⟩⟩, (below_drewN (Below.refl _ _) 1).alloc (Nat.le_refl _) _⟩)

/-- What Grow and Concat leave: a row of one's own. -/
def SsOut (l : List Syn) (w : World) (e : Ending) (w' : World) : Prop :=
  ∃ v, e = .returned v ∧ w'.ownsRow w.heap.size 96 4 v l.length (synCs l) ∧ Below w.heap.size w w'
set_option maxHeartbeats 1000000 in
set_option maxRecDepth 100000 in
theorem growS_any (n : Nat) (hn : n ≤ 200000) (w : World) : Calls Try.prog 107 #[.slice none 0 0, .int .i64 (n : Int)] w (SsOut [] w) := by
  obtain ⟨i0, hi, hz0, hzz1, hzz2⟩ := info_parts info96
  have h1 : ((n : Int) < 0) = False := by simp
  have hw : wrap64 ((n : Int) - 0) = (n : Int) := by unfold wrap64; omega
  by_cases hn0 : n = 0
  · subst hn0
    go_enter Try.func107, Try.ntmps107
    go_wp2
    go_ret
    exact ⟨_, rfl, World.ownsRow_nil _ _ _ _, Below.refl _ _⟩
  · have h4 : ((n : Int) > 0) = True := by simp; omega
    have hrz : ∀ ty, (Builtin.append_ #[23, 3] ty #[.slice none 0 0, .int .i64 (n : Int)]).run Try.prog w = _ := fun ty =>
      Lib.run_append_grow_zeros w 23 3 ty 96 i0 (.agg #[.int .i64 0, .int .i64 0, .int .i64 0, .int .i64 0]) .i64 .i64 Try.underlying23 Try.underlying3 hi hz0 none 0 0 [] (run_firstCells_none w.drew i0.size 0 0 0) n (by omega) (by rw [hzz1]; omega) (by omega) (by omega) (by rw [hzz2]; omega)
        (growslice_fits (by omega) (by rw [hzz2]; omega))
    have hge := grownCap_ge w (0 + n) 0 96
    have hle := grownCap_le_maxLen w (0 + n) 0 96 (by unfold maxLen; omega)
    obtain ⟨G, hG⟩ : ∃ G, G = grownCap w (0 + n) 0 96 := ⟨_, rfl⟩
    rw [← hG] at hrz hge hle
    have hsz : ((#[] : Array Value) ++ Builtin.zeroCells (Value.agg #[.int .i64 0, .int .i64 0, .int .i64 0, .int .i64 0]).cells n ++ Builtin.zeroCells (Value.agg #[.int .i64 0, .int .i64 0, .int .i64 0, .int .i64 0]).cells (G - (0 + n))).size = G * 4 := by
      simp [Builtin.zeroCells, Value.cells]; omega
    rw [show ([] : List Value).toArray = #[] from rfl] at hrz
    generalize ((#[] : Array Value) ++ Builtin.zeroCells (Value.agg #[.int .i64 0, .int .i64 0, .int .i64 0, .int .i64 0]).cells n ++ Builtin.zeroCells (Value.agg #[.int .i64 0, .int .i64 0, .int .i64 0, .int .i64 0]).cells (G - (0 + n))) = cur at *
    rw [Nat.zero_add] at hrz hge
    have HR := Lib.hid hrz
    have HS := Lib.hid hsz
    have hg0 : (0 : Int) ≤ (G : Int) := Int.natCast_nonneg _
    have hgn : (0 : Int) ≤ (n : Int) := Int.natCast_nonneg _
    have hgm : G ≤ 9223372036854775807 := by unfold maxLen at hle; omega
    clear hrz hsz hG
    go_enter Try.func107, Try.ntmps107
    go_wp2_with (at_builtin; refine Lib.wpList_append_run _ rfl _ _ _ _ rfl _ _ rfl rfl _ _ (HR.out _) ?_)
    all_goals (go_ret; exact ⟨_, rfl, ⟨rfl, .inr ⟨w.heap.size, G, cur, rfl, Nat.le_refl _, alloc_new_at _ _ _ rfl, Nat.zero_le _, hle, HS.out, rfl⟩⟩, (below_drewN (Below.refl _ _) 1).alloc (Nat.le_refl _) _⟩)
end Go.Proofs.Ytgbcdebnanejpaa.Rn
namespace Go.Proofs.Ytgbcdebnanejpaa.Rn
set_option linter.unusedVariables false
open Go.RowKit Go.Shelf

theorem cells2g {W : World} {b : Nat} {v0 v1 : Value} {t : TypeId} (h : W.heap[b]? = some (.cells #[v0, v1] t)) : W.cell? ⟨b, 0, none⟩ = some v0 ∧ W.cell? ⟨b, 1, none⟩ = some v1 := by simp [World.cell?, h]

def catP (l1 l2 : List Prm) : Nat → List Prm | 0 => [] | 1 => l1 | _ => l1 ++ l2
theorem newsP {W : World} {a : Option Addr} {m c : Nat} {l : List Prm} (h : PsAt W (.slice a m c) l) : (a = none ∧ m = 0 ∧ c = 0 ∧ l = []) ∨ ∃ ad, a = some ad ∧ ∀ j u, (prmCs l)[j]? = some u → W.cell? (ad.add j) = some u := by
  rcases h with ⟨h1, rfl⟩ | ⟨b, off, c', h1, hbl, hc⟩
  · cases h1; exact Or.inl ⟨rfl, rfl, rfl, rfl⟩
  · cases h1
    refine Or.inr ⟨_, rfl, fun j u hu => ?_⟩
    rw [show (⟨b, off, none⟩ : Addr).add j = ⟨b, off + j, none⟩ by unfold Addr.add; split <;> simp_all]
    exact prmCs_cell hc j u hu
/-- An append of a whole list to a row of one's own. -/
theorem appP {ops : Array Oper} {rest : List Oper} {o : Oper} {a : Act} {Q : Exit → Act → World → Prop} {W w : World} (hg : o.guard = none) (s x : Operand)
    (hop : o.op = Op.call { callee := Callee.builtin Builtin.append, args := #[s, x], argTypes := #[22, 22] }) (v : Value) (k : Nat) (l n : List Prm) (hs : a.eval s = v) (hown : W.ownsRow w.heap.size 39 8 v k (prmCs l)) (hk : k ≤ 1000000)
    (hb : Below w.heap.size w W) (ad : Option Addr) (m c : Nat) (hx : a.eval x = .slice ad m c) (hm : m = n.length) (hn : PsAt w (.slice ad m c) n) (h2 : m ≤ 1000000)
    (hK : ∀ v' W', W'.ownsRow w.heap.size 39 8 v' (k + m) (prmCs (l ++ n)) → Below w.heap.size w W' → W.grownBy W' v.ownBlock → wpList Try.prog ops Q rest (a.put o.dst v') W') : wpList Try.prog ops Q (o :: rest) a W := by
  obtain ⟨i0, hi, hz0, hzz1, hzz2⟩ := info_parts info39
  have hz := hb.size
  rcases newsP (hn.below hb) with ⟨rfl, rfl, rfl, rfl⟩ | ⟨ad, rfl, hc⟩
  · refine wpList_append_own_none hg s x 22 hop w.heap.size 39 i0 8 Try.underlying22 hi v k (prmCs l) hs hown hx (hK v W ?_ hb (World.grownBy.refl _ _))
    simpa using hown
  · refine wpList_append_own _ hg s x 22 hop w.heap.size 39 i0 (.agg #[.int .i64 0, .int .i64 0, .int .i64 0, .int .i64 0, .int .i64 0, .int .i64 0, .int .i64 0, .int .i64 0]) 8 64 Try.underlying22 hi hz0 hzz1 hzz2 rfl (by decide) v k (prmCs l) hs hown ad m c (prmCs n) hx (by rw [prmCs_length, hm]) hc (fun u hu => prmV_one hu) (by unfold maxLen; omega) (by omega) hz ?_
    intro v' W' hown' hgr _
    refine hK v' W' (by rw [prmCs_append]; exact hown') (hb.trans ⟨hgr.os, hgr.tape, hgr.output, hgr.size, fun j hj => hgr.block j (by omega) fun e => ?_⟩) hgr
    have := hown.lt j e.symm
    omega
set_option maxHeartbeats 2000000 in
set_option maxRecDepth 100000 in
theorem concatP_any (l1 l2 : List Prm) (a1 a2 : Option Addr) (c1 c2 g : Nat) (h1 : l1.length ≤ 100000) (h2 : l2.length ≤ 100000) (w : World)
    (hg : w.heap[g]? = some (.cells #[.slice a1 l1.length c1, .slice a2 l2.length c2] 22)) (hp1 : PsAt w (.slice a1 l1.length c1) l1) (hp2 : PsAt w (.slice a2 l2.length c2) l2) :
    Calls Try.prog 70 #[.slice (some ⟨g, 0, none⟩) 2 2] w (PsOut (l1 ++ l2) w) := by
  obtain ⟨m1, hm1⟩ : ∃ m, m = l1.length := ⟨_, rfl⟩
  obtain ⟨m2, hm2⟩ : ∃ m, m = l2.length := ⟨_, rfl⟩
  rw [← hm1] at h1 hg hp1
  rw [← hm2] at h2 hg hp2
  have hgr : ∀ W, Calls Try.prog 106 #[.slice none 0 0, .int .i64 ((m1 : Int) + (m2 : Int))] W (PsOut [] W) := fun W => by
    have := growP_any (m1 + m2) (by omega) W
    rwa [Int.natCast_add] at this
  have HG := Lib.hid hg
  have H1 := Lib.hid hp1
  have H2 := Lib.hid hp2
  have HM1 := Lib.hid hm1
  have HM2 := Lib.hid hm2
  have HGR := Lib.hid hgr
  clear hg hp1 hp2 hm1 hm2 hgr
  have hlg : g < w.heap.size := lt_of_block HG.out
  obtain ⟨_, _⟩ := cells2g HG.out
  go_enter Try.func70, Try.ntmps70
  go_wp2
  go_loopw [3, 11] (fun s3 s11 wr => w = wr ∧ ((s11 = .int .i64 0 ∧ s3 = .int .i64 0) ∨ (s11 = .int .i64 1 ∧ s3 = .int .i64 (m1 : Int)) ∨ (s11 = .int .i64 2 ∧ s3 = .int .i64 ((m1 : Int) + (m2 : Int))))) (fun _ s11 _ => 2 - (intOf s11).toNat)
  case atStart => exact ⟨rfl, Or.inl ⟨rfl, rfl⟩⟩
  case round =>
    obtain ⟨rfl, hd⟩ := hrel
    rcases hd with ⟨rfl, rfl⟩ | ⟨rfl, rfl⟩ | ⟨rfl, rfl⟩
    · have e1 : wrap64 (0 + (m1 : Int)) = (m1 : Int) := by unfold wrap64; omega
      have e2 : ((m1 : Int) < 0) = False := by simp
      go_wp2
      go_roundw
      case rel => exact ⟨by trivial, Or.inr (Or.inl ⟨rfl, rfl⟩)⟩
      case measure => simp [intOf]
    · have e1 : wrap64 ((m1 : Int) + (m2 : Int)) = (m1 : Int) + (m2 : Int) := by unfold wrap64; omega
      have e2 : ((m1 : Int) + (m2 : Int) < 0) = False := by simp; omega
      go_wp2
      go_roundw
      case rel => exact ⟨by trivial, Or.inr (Or.inr ⟨rfl, rfl⟩)⟩
      case measure => simp [intOf]
    · go_wp2_with (go_at_call 106; refine (HGR.out _).mono ?_; rintro e w1 ⟨v, rfl, ho, hb⟩)
      go_loopw [6, 27] (fun s6 s27 wr => ∃ k : Nat, k ≤ 2 ∧ s27 = .int .i64 k ∧ wr.ownsRow w.heap.size 39 8 s6 (catP l1 l2 k).length (prmCs (catP l1 l2 k)) ∧ Below w.heap.size w wr) (fun _ s27 _ => 2 - (intOf s27).toNat)
      case atStart => exact ⟨0, by omega, rfl, ho, hb⟩
      case round =>
        obtain ⟨k, hk, rfl, ho', hb'⟩ := hrel
        clear ho hb
        have HO := Lib.hid ho'
        have HB := Lib.hid hb'
        obtain ⟨_, _⟩ := cells2g ((HB.out.block _ hlg).trans HG.out)
        clear ho' hb'
        have hk3 : k = 0 ∨ k = 1 ∨ k = 2 := by omega
        rcases hk3 with rfl | rfl | rfl
        · go_wp2_with (at_builtin; go_must (refine appP (w := w) rfl _ _ rfl _ _ _ l1 rfl HO.out (by simp [catP]) HB.out _ _ _ rfl HM1.out H1.out (by omega) ?_); intro v' w3 hn' hb3 _)
          go_roundw
          case rel => exact ⟨1, by omega, rfl, by simpa [catP, HM1.out] using hn', hb3⟩
          case measure => simp [intOf]
        · go_wp2_with (at_builtin; go_must (refine appP (w := w) rfl _ _ rfl _ _ _ l2 rfl HO.out (by simp [catP]; rw [← HM1.out]; omega) HB.out _ _ _ rfl HM2.out H2.out (by omega) ?_); intro v' w3 hn' hb3 _)
          go_roundw
          case rel => exact ⟨2, by omega, rfl, by simpa [catP, HM2.out] using hn', hb3⟩
          case measure => simp [intOf]
        · go_wp2
          go_ret
          exact ⟨_, rfl, HO.out, HB.out⟩

def catS (l1 l2 : List Syn) : Nat → List Syn | 0 => [] | 1 => l1 | _ => l1 ++ l2
theorem newsS {W : World} {a : Option Addr} {m c : Nat} {l : List Syn} (h : SsAt W (.slice a m c) l) : (a = none ∧ m = 0 ∧ c = 0 ∧ l = []) ∨ ∃ ad, a = some ad ∧ ∀ j u, (synCs l)[j]? = some u → W.cell? (ad.add j) = some u := by
  rcases h with ⟨h1, rfl⟩ | ⟨b, off, c', h1, hbl, hc⟩
  · cases h1; exact Or.inl ⟨rfl, rfl, rfl, rfl⟩
  · cases h1
    refine Or.inr ⟨_, rfl, fun j u hu => ?_⟩
    rw [show (⟨b, off, none⟩ : Addr).add j = ⟨b, off + j, none⟩ by unfold Addr.add; split <;> simp_all]
    exact synCs_cell (m := 0) hc j u hu
/-- An append of a whole list to a row of one's own. -/
theorem appS {ops : Array Oper} {rest : List Oper} {o : Oper} {a : Act} {Q : Exit → Act → World → Prop} {W w : World} (hg : o.guard = none) (s x : Operand)
    (hop : o.op = Op.call { callee := Callee.builtin Builtin.append, args := #[s, x], argTypes := #[23, 23] }) (v : Value) (k : Nat) (l n : List Syn) (hs : a.eval s = v) (hown : W.ownsRow w.heap.size 96 4 v k (synCs l)) (hk : k ≤ 1000000)
    (hb : Below w.heap.size w W) (ad : Option Addr) (m c : Nat) (hx : a.eval x = .slice ad m c) (hm : m = n.length) (hn : SsAt w (.slice ad m c) n) (h2 : m ≤ 1000000)
    (hK : ∀ v' W', W'.ownsRow w.heap.size 96 4 v' (k + m) (synCs (l ++ n)) → Below w.heap.size w W' → W.grownBy W' v.ownBlock → wpList Try.prog ops Q rest (a.put o.dst v') W') : wpList Try.prog ops Q (o :: rest) a W := by
  obtain ⟨i0, hi, hz0, hzz1, hzz2⟩ := info_parts info96
  have hz := hb.size
  rcases newsS (hn.below hb) with ⟨rfl, rfl, rfl, rfl⟩ | ⟨ad, rfl, hc⟩
  · refine wpList_append_own_none hg s x 23 hop w.heap.size 96 i0 4 Try.underlying23 hi v k (synCs l) hs hown hx (hK v W ?_ hb (World.grownBy.refl _ _))
    simpa using hown
  · refine wpList_append_own _ hg s x 23 hop w.heap.size 96 i0 (.agg #[.int .i64 0, .int .i64 0, .int .i64 0, .int .i64 0]) 4 32 Try.underlying23 hi hz0 hzz1 hzz2 rfl (by decide) v k (synCs l) hs hown ad m c (synCs n) hx (by rw [synCs_length, hm]) hc (fun u hu => synV_one hu) (by unfold maxLen; omega) (by omega) hz ?_
    intro v' W' hown' hgr _
    refine hK v' W' (by rw [synCs_append]; exact hown') (hb.trans ⟨hgr.os, hgr.tape, hgr.output, hgr.size, fun j hj => hgr.block j (by omega) fun e => ?_⟩) hgr
    have := hown.lt j e.symm
    omega
set_option maxHeartbeats 2000000 in
set_option maxRecDepth 100000 in
theorem concatS_any (l1 l2 : List Syn) (a1 a2 : Option Addr) (c1 c2 g : Nat) (h1 : l1.length ≤ 100000) (h2 : l2.length ≤ 100000) (w : World)
    (hg : w.heap[g]? = some (.cells #[.slice a1 l1.length c1, .slice a2 l2.length c2] 23)) (hp1 : SsAt w (.slice a1 l1.length c1) l1) (hp2 : SsAt w (.slice a2 l2.length c2) l2) :
    Calls Try.prog 71 #[.slice (some ⟨g, 0, none⟩) 2 2] w (SsOut (l1 ++ l2) w) := by
  obtain ⟨m1, hm1⟩ : ∃ m, m = l1.length := ⟨_, rfl⟩
  obtain ⟨m2, hm2⟩ : ∃ m, m = l2.length := ⟨_, rfl⟩
  rw [← hm1] at h1 hg hp1
  rw [← hm2] at h2 hg hp2
  have hgr : ∀ W, Calls Try.prog 107 #[.slice none 0 0, .int .i64 ((m1 : Int) + (m2 : Int))] W (SsOut [] W) := fun W => by
    have := growS_any (m1 + m2) (by omega) W
    rwa [Int.natCast_add] at this
  have HG := Lib.hid hg
  have H1 := Lib.hid hp1
  have H2 := Lib.hid hp2
  have HM1 := Lib.hid hm1
  have HM2 := Lib.hid hm2
  have HGR := Lib.hid hgr
  clear hg hp1 hp2 hm1 hm2 hgr
  have hlg : g < w.heap.size := lt_of_block HG.out
  obtain ⟨_, _⟩ := cells2g HG.out
  go_enter Try.func71, Try.ntmps71
  go_wp2
  go_loopw [3, 11] (fun s3 s11 wr => w = wr ∧ ((s11 = .int .i64 0 ∧ s3 = .int .i64 0) ∨ (s11 = .int .i64 1 ∧ s3 = .int .i64 (m1 : Int)) ∨ (s11 = .int .i64 2 ∧ s3 = .int .i64 ((m1 : Int) + (m2 : Int))))) (fun _ s11 _ => 2 - (intOf s11).toNat)
  case atStart => exact ⟨rfl, Or.inl ⟨rfl, rfl⟩⟩
  case round =>
    obtain ⟨rfl, hd⟩ := hrel
    rcases hd with ⟨rfl, rfl⟩ | ⟨rfl, rfl⟩ | ⟨rfl, rfl⟩
    · have e1 : wrap64 (0 + (m1 : Int)) = (m1 : Int) := by unfold wrap64; omega
      have e2 : ((m1 : Int) < 0) = False := by simp
      go_wp2
      go_roundw
      case rel => exact ⟨by trivial, Or.inr (Or.inl ⟨rfl, rfl⟩)⟩
      case measure => simp [intOf]
    · have e1 : wrap64 ((m1 : Int) + (m2 : Int)) = (m1 : Int) + (m2 : Int) := by unfold wrap64; omega
      have e2 : ((m1 : Int) + (m2 : Int) < 0) = False := by simp; omega
      go_wp2
      go_roundw
      case rel => exact ⟨by trivial, Or.inr (Or.inr ⟨rfl, rfl⟩)⟩
      case measure => simp [intOf]
    · go_wp2_with (go_at_call 107; refine (HGR.out _).mono ?_; rintro e w1 ⟨v, rfl, ho, hb⟩)
      go_loopw [6, 27] (fun s6 s27 wr => ∃ k : Nat, k ≤ 2 ∧ s27 = .int .i64 k ∧ wr.ownsRow w.heap.size 96 4 s6 (catS l1 l2 k).length (synCs (catS l1 l2 k)) ∧ Below w.heap.size w wr) (fun _ s27 _ => 2 - (intOf s27).toNat)
      case atStart => exact ⟨0, by omega, rfl, ho, hb⟩
      case round =>
        obtain ⟨k, hk, rfl, ho', hb'⟩ := hrel
        clear ho hb
        have HO := Lib.hid ho'
        have HB := Lib.hid hb'
        obtain ⟨_, _⟩ := cells2g ((HB.out.block _ hlg).trans HG.out)
        clear ho' hb'
        have hk3 : k = 0 ∨ k = 1 ∨ k = 2 := by omega
        rcases hk3 with rfl | rfl | rfl
        · go_wp2_with (at_builtin; go_must (refine appS (w := w) rfl _ _ rfl _ _ _ l1 rfl HO.out (by simp [catS]) HB.out _ _ _ rfl HM1.out H1.out (by omega) ?_); intro v' w3 hn' hb3 _)
          go_roundw
          case rel => exact ⟨1, by omega, rfl, by simpa [catS, HM1.out] using hn', hb3⟩
          case measure => simp [intOf]
        · go_wp2_with (at_builtin; go_must (refine appS (w := w) rfl _ _ rfl _ _ _ l2 rfl HO.out (by simp [catS]; rw [← HM1.out]; omega) HB.out _ _ _ rfl HM2.out H2.out (by omega) ?_); intro v' w3 hn' hb3 _)
          go_roundw
          case rel => exact ⟨2, by omega, rfl, by simpa [catS, HM2.out] using hn', hb3⟩
          case measure => simp [intOf]
        · go_wp2
          go_ret
          exact ⟨_, rfl, HO.out, HB.out⟩
end Go.Proofs.Ytgbcdebnanejpaa.Rn
namespace Go.Proofs.Ytgbcdebnanejpaa.Rn
set_option linter.unusedVariables false
open Go.RowKit Go.Shelf

structure JnR (W0 : World) (H : Nat) (I : Int) (pl : List Prm) (sl : List Syn) (s1 s2 s3 s4 : Value) (Kv : Nat → Value) (L : Array Bool) (val : Nat → Value) (W : World) : Prop where
  hz : H = W0.heap.size
  known : ∀ j, j < 15 → j ≠ 4 → j ≠ 5 → L.getD j false = true → val j = Kv j
  bel : Below H W0 W
  mk4 : L.getD 4 false = true → L.getD 5 false = false → val 4 = .slice (some ⟨vb (val 4), 0, none⟩) 2 2 ∧ W.heap[vb (val 4)]? = some (.cells #[s1, s2] 22)
  mk15 : L.getD 15 false = true → L.getD 16 false = false → val 15 = .slice (some ⟨vb (val 15), 0, none⟩) 2 2 ∧ W.heap[vb (val 15)]? = some (.cells #[s3, s4] 23)
  o5 : L.getD 5 false = true → W.ownsRow H 39 8 (val 5) pl.length (prmCs pl)
  o16 : L.getD 16 false = true → W.ownsRow H 96 4 (val 16) sl.length (synCs sl)
  bld : L.getD 17 false = true → val 17 = .agg #[val 5, .int .i64 I, val 16]
  al : L.getD 18 false = true → val 18 = .pointer (some ⟨vb (val 18), 0, none⟩) ∧ H ≤ vb (val 18) ∧ ∃ u x v, W.heap[vb (val 18)]? = some (.cells #[u, x, v] 25) ∧ (L.getD 19 false = true → u = val 5 ∧ x = .int .i64 I ∧ v = val 16)
  a5 : L.getD 5 false = true → L.getD 18 false = true → (val 5).ownBlock ≠ some (vb (val 18))
  a16 : L.getD 16 false = true → L.getD 18 false = true → (val 16).ownBlock ≠ some (vb (val 18))
  a516 : L.getD 5 false = true → L.getD 16 false = true → ∀ b, (val 5).ownBlock = some b → (val 16).ownBlock ≠ some b
  d17 : L.getD 17 false = true → L.getD 5 false = true ∧ L.getD 16 false = true
  d19 : L.getD 19 false = true → L.getD 17 false = true ∧ L.getD 18 false = true

section
variable {W0 W : World} {H : Nat} {I : Int} {pl : List Prm} {sl : List Syn} {s1 s2 s3 s4 : Value} {Kv : Nat → Value} {L : Array Bool} {val : Nat → Value}
theorem JnR.init (hH : H = W0.heap.size) : JnR W0 H I pl sl s1 s2 s3 s4 Kv (Array.replicate 20 false) (fun _ => undef) { W0 with drawn := W0.drawn + 1 } := by
  have z : ∀ j, (Array.replicate 20 false).getD j false = true → False := fun j h => by
    simp [Array.getD_eq_getD_getElem?, Array.getElem?_replicate] at h
    split at h <;> simp_all
  exact ⟨hH, fun j _ _ _ h => (z _ h).elim, ⟨rfl, rfl, rfl, Nat.le_refl _, fun _ _ => rfl⟩, fun h => (z _ h).elim, fun h => (z _ h).elim, fun h => (z _ h).elim, fun h => (z _ h).elim, fun h => (z _ h).elim, fun h => (z _ h).elim, fun h => (z _ h).elim, fun h => (z _ h).elim, fun h => (z _ h).elim, fun h => (z _ h).elim, fun h => (z _ h).elim⟩
theorem JnR.step (h : JnR W0 H I pl sl s1 s2 s3 s4 Kv L val W) (i : Nat) (hi : i < 19) (hs : 19 < L.size) (u : Value) (W' : World) (hb : Below W.heap.size W W') (hf : L.getD i false = false)
    (hk : i < 15 → i ≠ 4 → i ≠ 5 → u = Kv i)
    (h4 : i = 4 → u = .slice (some ⟨W.heap.size, 0, none⟩) 2 2 ∧ W'.heap[W.heap.size]? = some (.cells #[s1, s2] 22))
    (h15 : i = 15 → u = .slice (some ⟨W.heap.size, 0, none⟩) 2 2 ∧ W'.heap[W.heap.size]? = some (.cells #[s3, s4] 23))
    (h5 : i = 5 → W'.ownsRow W.heap.size 39 8 u pl.length (prmCs pl))
    (h16 : i = 16 → W'.ownsRow W.heap.size 96 4 u sl.length (synCs sl))
    (h17 : i = 17 → u = .agg #[val 5, .int .i64 I, val 16] ∧ L.getD 5 false = true ∧ L.getD 16 false = true)
    (h18 : i = 18 → u = .pointer (some ⟨W.heap.size, 0, none⟩) ∧ ∃ u x v, W'.heap[W.heap.size]? = some (.cells #[u, x, v] 25)) :
    JnR W0 H I pl sl s1 s2 s3 s4 Kv (L.setIfInBounds i true) (setV val i u) W' := by
  have hHW : H ≤ W.heap.size := by
    rw [h.hz]; exact h.bel.size
  have g : ∀ j, j ≠ i → (L.setIfInBounds i true).getD j false = true → L.getD j false = true := fun j hj hl => by rwa [getD_ne (fun e => hj e.symm)] at hl
  have gf : ∀ j, (L.setIfInBounds i true).getD j false = false → L.getD j false = false := fun j hl => by
    by_cases e : i = j
    · subst e; exact hf
    · rwa [getD_ne e] at hl
  have g' : ∀ j, L.getD j false = true → (L.setIfInBounds i true).getD j false = true := fun j hl => by
    by_cases e : i = j
    · subst e; rw [hf] at hl; cases hl
    · rw [getD_ne e]; exact hl
  have h19 : (L.setIfInBounds i true).getD 19 false = true → L.getD 19 false = true := fun hl => g 19 (by omega) hl
  have lt18 : L.getD 18 false = true → vb (val 18) < W.heap.size := fun hl => by
    obtain ⟨_, _, _, _, _, e, _⟩ := h.al hl
    exact lt_of_block e
  have lt5 : L.getD 5 false = true → ∀ b, (val 5).ownBlock = some b → b < W.heap.size := fun hl b hb => ((h.o5 hl).lt b hb).2
  have lt16 : L.getD 16 false = true → ∀ b, (val 16).ownBlock = some b → b < W.heap.size := fun hl b hb => ((h.o16 hl).lt b hb).2
  refine ⟨h.hz, fun j hj h4' h5' hl => ?_, h.bel.trans (hb.mono hHW), fun hl hl2 => ?_, fun hl hl2 => ?_, fun hl => ?_, fun hl => ?_, fun hl => ?_, fun hl => ?_, fun hl1 hl2 => ?_, fun hl1 hl2 => ?_, fun hl1 hl2 => ?_, fun hl => ?_, fun hl => ?_⟩
  · by_cases e : j = i
    · subst e; rw [sv_eq]; exact hk hj h4' h5'
    · rw [sv_ne e]; exact h.known j hj h4' h5' (g j e hl)
  · by_cases e : 4 = i
    · subst e; rw [sv_eq]
      obtain ⟨e1, e2⟩ := h4 rfl
      rw [e1]
      exact ⟨rfl, e2⟩
    · rw [sv_ne e]
      obtain ⟨e1, e3⟩ := h.mk4 (g 4 e hl) (gf 5 hl2)
      exact ⟨e1, (hb.block _ (lt_of_block e3)).trans e3⟩
  · by_cases e : 15 = i
    · subst e; rw [sv_eq]
      obtain ⟨e1, e2⟩ := h15 rfl
      rw [e1]
      exact ⟨rfl, e2⟩
    · rw [sv_ne e]
      obtain ⟨e1, e3⟩ := h.mk15 (g 15 e hl) (gf 16 hl2)
      exact ⟨e1, (hb.block _ (lt_of_block e3)).trans e3⟩
  · by_cases e : 5 = i
    · subst e; rw [sv_eq]
      exact ownsRow_base (h5 rfl) hHW
    · rw [sv_ne e]
      have h1 := h.o5 (g 5 e hl)
      exact ownsRow_of_block h1 fun b hb' => hb.block b (h1.lt b hb').2
  · by_cases e : 16 = i
    · subst e; rw [sv_eq]
      exact ownsRow_base (h16 rfl) hHW
    · rw [sv_ne e]
      have h1 := h.o16 (g 16 e hl)
      exact ownsRow_of_block h1 fun b hb' => hb.block b (h1.lt b hb').2
  · by_cases e : 17 = i
    · subst e; rw [sv_eq, sv_ne (by omega), sv_ne (by omega)]; exact (h17 rfl).1
    · rw [sv_ne e]
      have h9' := h.d17 (g 17 e hl)
      rw [h.bld (g 17 e hl)]
      have e3 : (5 : Nat) ≠ i := fun e => by subst e; rw [hf] at h9'; exact absurd h9'.1 (by simp)
      have e8 : (16 : Nat) ≠ i := fun e => by subst e; rw [hf] at h9'; exact absurd h9'.2 (by simp)
      rw [sv_ne e3, sv_ne e8]
  · by_cases e : 18 = i
    · subst e; rw [sv_eq]
      obtain ⟨e1, u', x', v', e2⟩ := h18 rfl
      rw [e1]
      refine ⟨rfl, hHW, u', x', v', e2, fun h11' => ?_⟩
      have := (h.d19 (h19 h11')).2
      rw [hf] at this; cases this
    · rw [sv_ne e]
      obtain ⟨e1, e2, u', x', v', e3, e4⟩ := h.al (g 18 e hl)
      refine ⟨e1, e2, u', x', v', (hb.block _ (lt_of_block e3)).trans e3, fun h11' => ?_⟩
      have h11'' := h19 h11'
      have h9' := h.d17 (h.d19 h11'').1
      have e3 : (5 : Nat) ≠ i := fun e => by subst e; rw [hf] at h9'; exact absurd h9'.1 (by simp)
      have e8 : (16 : Nat) ≠ i := fun e => by subst e; rw [hf] at h9'; exact absurd h9'.2 (by simp)
      rw [sv_ne e3, sv_ne e8]
      exact e4 h11''
  · by_cases e : 5 = i
    · subst e
      rw [sv_eq, sv_ne (by omega)]
      intro e'
      have h1 := ((h5 rfl).lt _ e').1
      have h2 := lt18 (g 18 (by omega) hl2)
      omega
    · by_cases e2 : 18 = i
      · subst e2
        rw [sv_eq, sv_ne (by omega), (h18 rfl).1]
        intro e'
        have := lt5 (g 5 e hl1) _ e'
        simp [vb] at this
      · rw [sv_ne e, sv_ne e2]; exact h.a5 (g 5 e hl1) (g 18 e2 hl2)
  · by_cases e : 16 = i
    · subst e
      rw [sv_eq, sv_ne (by omega)]
      intro e'
      have h1 := ((h16 rfl).lt _ e').1
      have h2 := lt18 (g 18 (by omega) hl2)
      omega
    · by_cases e2 : 18 = i
      · subst e2
        rw [sv_eq, sv_ne (by omega), (h18 rfl).1]
        intro e'
        have := lt16 (g 16 e hl1) _ e'
        simp [vb] at this
      · rw [sv_ne e, sv_ne e2]; exact h.a16 (g 16 e hl1) (g 18 e2 hl2)
  · by_cases e : 5 = i
    · subst e
      rw [sv_eq, sv_ne (by omega)]
      intro b hb1 hb2
      have h1 := ((h5 rfl).lt _ hb1).1
      have h2 := lt16 (g 16 (by omega) hl2) _ hb2
      omega
    · by_cases e2 : 16 = i
      · subst e2
        rw [sv_eq, sv_ne (by omega)]
        intro b hb1 hb2
        have h1 := ((h16 rfl).lt _ hb2).1
        have h2 := lt5 (g 5 (by omega) hl1) _ hb1
        omega
      · rw [sv_ne e, sv_ne e2]; exact h.a516 (g 5 e hl1) (g 16 e2 hl2)
  · by_cases e : 17 = i
    · subst e; obtain ⟨_, h1, h2⟩ := h17 rfl; exact ⟨g' 5 h1, g' 16 h2⟩
    · obtain ⟨h1, h2⟩ := h.d17 (g 17 e hl); exact ⟨g' 5 h1, g' 16 h2⟩
  · obtain ⟨h1, h2⟩ := h.d19 (h19 hl); exact ⟨g' 17 h1, g' 18 h2⟩
theorem JnR.fill (h : JnR W0 H I pl sl s1 s2 s3 s4 Kv L val W) (hs : 19 < L.size) (g : Nat) (hg : val 18 = .pointer (some ⟨g, 0, none⟩)) (h17 : L.getD 17 false = true) (h18 : L.getD 18 false = true) :
    JnR W0 H I pl sl s1 s2 s3 s4 Kv (L.setIfInBounds 19 true) (setV val 19 undef) (((W.setCell ⟨g, 0, none⟩ (val 5)).setCell ⟨g, 1, none⟩ (.int .i64 I)).setCell ⟨g, 2, none⟩ (val 16)) := by
  have e : ∀ j, j < 19 → (L.setIfInBounds 19 true).getD j false = L.getD j false := fun j hj => getD_ne (by omega)
  have s : ∀ j, j < 19 → setV val 19 undef j = val j := fun j hj => sv_ne (by omega)
  have hv : vb (val 18) = g := by rw [hg]; rfl
  obtain ⟨e1, e2, u, x, v, e3, e4⟩ := h.al h18
  obtain ⟨f5, f16⟩ := h.d17 h17
  have n5 := h.a5 f5 h18
  have n16 := h.a16 f16 h18
  rw [hv] at e1 e2 e3 n5 n16
  have hW : ∀ b, b ≠ g → (((W.setCell ⟨g, 0, none⟩ (val 5)).setCell ⟨g, 1, none⟩ (.int .i64 I)).setCell ⟨g, 2, none⟩ (val 16)).heap[b]? = W.heap[b]? := fun b hb => by
    simp [World.setCell, Array.getElem?_modify, Ne.symm hb]
  refine ⟨h.hz, fun j hj h3' h5' hl => ?_, ((h.bel.setCell (p := ⟨g, 0, none⟩) e2 _).setCell (p := ⟨g, 1, none⟩) e2 _).setCell (p := ⟨g, 2, none⟩) e2 _, fun hl hl2 => ?_, fun hl hl2 => ?_, fun hl => ?_, fun hl => ?_, fun hl => ?_, fun hl => ?_, fun hl1 hl2 => ?_, fun hl1 hl2 => ?_, fun hl1 hl2 => ?_, fun hl => ?_, fun hl => ?_⟩
  · rw [s j (by omega)]; rw [e j (by omega)] at hl; exact h.known j hj h3' h5' hl
  · rw [e 5 (by omega), f5] at hl2; cases hl2
  · rw [e 16 (by omega), f16] at hl2; cases hl2
  · rw [s 5 (by omega)]
    exact ownsRow_of_block (h.o5 f5) fun b hb => hW b fun e => n5 (by rw [hb, e])
  · rw [s 16 (by omega)]
    exact ownsRow_of_block (h.o16 f16) fun b hb => hW b fun e => n16 (by rw [hb, e])
  · rw [s 17 (by omega), s 5 (by omega), s 16 (by omega)]; exact h.bld h17
  · rw [s 18 (by omega), s 5 (by omega), s 16 (by omega), hv]
    exact ⟨hg, e2, val 5, .int .i64 I, val 16, by simp [World.setCell, Array.getElem?_modify, e3], fun _ => ⟨rfl, rfl, rfl⟩⟩
  · rw [s 5 (by omega), s 18 (by omega)]; exact h.a5 f5 h18
  · rw [s 16 (by omega), s 18 (by omega)]; exact h.a16 f16 h18
  · rw [s 5 (by omega), s 16 (by omega)]; exact h.a516 f5 f16
  · rw [e 5 (by omega), e 16 (by omega)]; exact ⟨f5, f16⟩
  · rw [e 17 (by omega), e 18 (by omega)]; exact ⟨h17, h18⟩
end
/-- What the loop of Join finds. -/
structure MidJ (w : World) (B H gN : Nat) (ia ib I : Int) (v5 v16 a1 a2 b1 b2 : Value) (pl : List Prm) (Sl : List Syn) (A : World) : Prop where
  row : A.ownsRow H 39 8 v5 pl.length (prmCs pl)
  syn : SRow A H v16 Sl
  box : NetBox A gN v5 I v16
  boxa : NetBox A B a1 ia a2
  boxb : NetBox A (B + 1) b1 ib b2
  box2 : NetBox A (B + 1 + 1) (.slice none 0 0) 0 (.slice none 0 0)
  bel : Below B w A
  loN : H ≤ gN
  loB : B + 1 + 1 < H
  n5N : v5.ownBlock ≠ some gN
  n16N : v16.ownBlock ≠ some gN
  n516 : ∀ b, v5.ownBlock = some b → v16.ownBlock ≠ some b
theorem MidJ.cell {w A : World} {B H gN g o m c : Nat} {ia ib I : Int} {v5 a1 a2 b1 b2 u : Value} {pl : List Prm} {Sl Sl' : List Syn} (h : MidJ w B H gN ia ib I v5 (.slice (some ⟨g, 0, none⟩) m c) a1 a2 b1 b2 pl Sl A) (hg : H ≤ g) (hs : SRow (A.setCell ⟨g, o, none⟩ u) H (.slice (some ⟨g, 0, none⟩) m c) Sl') : MidJ w B H gN ia ib I v5 (.slice (some ⟨g, 0, none⟩) m c) a1 a2 b1 b2 pl Sl' (A.setCell ⟨g, o, none⟩ u) := by
  have hB := h.loB
  have hN : gN ≠ g := fun e => h.n16N (by simp [Value.ownBlock, e])
  have e : ∀ b, b ≠ g → (A.setCell ⟨g, o, none⟩ u).heap[b]? = A.heap[b]? := fun b hb => by simp [World.setCell, Array.getElem?_modify, Ne.symm hb]
  have hbl : Below B A (A.setCell ⟨g, o, none⟩ u) := (Below.refl _ A).setCell (p := ⟨g, o, none⟩) (by show B ≤ g; omega) _
  generalize A.setCell ⟨g, o, none⟩ u = A' at *
  exact ⟨ownsRow_of_block h.row fun b hb => e b fun e => h.n516 b hb (by simp [Value.ownBlock, e]), hs, (e _ hN).trans h.box, (e B (by omega)).trans h.boxa, (e (B + 1) (by omega)).trans h.boxb, (e (B + 1 + 1) (by omega)).trans h.box2, h.bel.trans hbl, h.loN, h.loB, h.n5N, h.n16N, h.n516⟩
def joinK (B : Nat) (ia ib I : Int) (a1 a2 b1 b2 : Value) : Nat → Value
  | 0 => .pointer (some ⟨B, 0, none⟩)
  | 1 => a1
  | 2 => .pointer (some ⟨B + 1, 0, none⟩)
  | 3 => b1
  | 6 => .pointer (some ⟨B, 1, none⟩)
  | 7 => .int .i64 ia
  | 8 => .pointer (some ⟨B + 1, 1, none⟩)
  | 9 => .int .i64 ib
  | 10 => .int .i64 I
  | 11 => .pointer (some ⟨B, 2, none⟩)
  | 12 => a2
  | 13 => .pointer (some ⟨B + 1, 2, none⟩)
  | 14 => b2
  | _ => undef
end Go.Proofs.Ytgbcdebnanejpaa.Rn
namespace Go.Proofs.Ytgbcdebnanejpaa.Rn
set_option linter.unusedVariables false
open Go.RowKit Go.Shelf

theorem below3 (w : World) (o1 o2 o3 : Obj) : Below w.heap.size w (((w.alloc o1).alloc o2).alloc o3) := (((Below.refl _ _).alloc (Nat.le_refl _) _).alloc (by simp) _).alloc (by simp; omega) _
theorem MidJ.below {w A A' : World} {B H gN : Nat} {ia ib I : Int} {v5 v16 a1 a2 b1 b2 : Value} {pl : List Prm} {Sl : List Syn} (h : MidJ w B H gN ia ib I v5 v16 a1 a2 b1 b2 pl Sl A) (hb : Below A.heap.size A A') : MidJ w B H gN ia ib I v5 v16 a1 a2 b1 b2 pl Sl A' := by
  have z0 : B < A.heap.size := lt_of_block h.boxa
  have z1 : B + 1 < A.heap.size := lt_of_block h.boxb
  have z2 : B + 1 + 1 < A.heap.size := lt_of_block h.box2
  have zN : gN < A.heap.size := lt_of_block h.box
  have e0 := hb.block _ z0
  have e1 := hb.block _ z1
  have e2 := hb.block _ z2
  have eN := hb.block _ zN
  have hB : Below B w A' := h.bel.trans (hb.mono (by omega))
  exact ⟨ownsRow_of_block h.row fun g hg => hb.block g (h.row.lt g hg).2, h.syn.of_block fun g _ hg => hb.block _ hg, eN.trans h.box, e0.trans h.boxa, e1.trans h.boxb, e2.trans h.box2, hB, h.loN, h.loB, h.n5N, h.n16N, h.n516⟩
theorem blk3c (w : World) (o1 o2 o3 : Obj) : (((w.alloc o1).alloc o2).alloc o3).heap[w.heap.size + 1 + 1]? = some o3 := alloc_new_at _ _ _ (by simp)
theorem blk3b (w : World) (o1 o2 o3 : Obj) : (((w.alloc o1).alloc o2).alloc o3).heap[w.heap.size + 1]? = some o2 := (Below.heap_alloc _ _ _ (by simp)).trans (alloc_new_at _ _ _ (by simp))
theorem blk3a (w : World) (o1 o2 o3 : Obj) : (((w.alloc o1).alloc o2).alloc o3).heap[w.heap.size]? = some o1 := (Below.heap_alloc _ _ _ (by simp; omega)).trans ((Below.heap_alloc _ _ _ (by simp)).trans (alloc_new_at _ _ _ rfl))

set_option maxRecDepth 100000 in
set_option maxHeartbeats 4000000 in
theorem jn_bad1 (a b : NetM) (a1 a2 b1 b2 : Option Addr) (c1 c2 d1 d2 : Nat) (he : ncheck a ≠ 0) (w : World)
    (hpa : PsAt w (.slice a1 a.ps.length c1) a.ps) (hsa : SsAt w (.slice a2 a.ss.length c2) a.ss) (hpb : PsAt w (.slice b1 b.ps.length d1) b.ps) (hsb : SsAt w (.slice b2 b.ss.length d2) b.ss) :
    Calls Try.prog 27 #[.agg #[.slice a1 a.ps.length c1, .int .i64 a.inp, .slice a2 a.ss.length c2], .agg #[.slice b1 b.ps.length d1, .int .i64 b.inp, .slice b2 b.ss.length d2]] w (RenOut (joinE a b) (joinR a b) w) := by
  have hE : joinE a b = ncheck a := if_pos he
  have hR : joinR a b = netZ := if_neg (by rw [hE]; exact he)
  rw [hE, hR]
  have hck : ∀ w1, Below w.heap.size w w1 → Calls Try.prog 19 #[.agg #[.slice a1 a.ps.length c1, .int .i64 a.inp, .slice a2 a.ss.length c2]] w1 fun e w' => e = .returned (.int .i64 (ncheck a)) ∧ Below w1.heap.size w1 w' := fun w1 hb => ncheck_any a a1 a2 c1 c2 w1 (hpa.below hb) (hsa.below hb)
  have hne : (ncheck a != 0) = true := by simp [he]
  generalize ncheck a = X at *
  generalize a.ps.length = k at *
  generalize a.ss.length = m at *
  generalize a.inp = I at *
  generalize b.ps.length = k' at *
  generalize b.ss.length = m' at *
  generalize b.inp = I' at *
  have HCK := Lib.hid hck
  clear hck hpa hsa hpb hsb hE hR he
  go_enter Try.func27, Try.ntmps27
  go_wp2_with (go_at_call 19; refine (HCK.out _ (below3 w _ _ _)).mono ?_; rintro e w1 ⟨rfl, hb1⟩; have hbx1 : NetBox w1 (w.heap.size + 1 + 1) (.slice none 0 0) 0 (.slice none 0 0) := (hb1.block _ (by simp)).trans (blk3c _ _ _ _); obtain ⟨_, _, _, _, _, _⟩ := cells3f hbx1; have hz1 : w.heap.size + 1 + 1 < w1.heap.size := lt_of_block hbx1)
  have hb2 : Below w.heap.size w w1 := (below3 w _ _ _).trans (hb1.mono (by simp; omega))
  have hS := netBox_set (a := .slice none 0 0) (b := 0) (c := .slice none 0 0) hbx1
  have hB := ((hb2.setCell (p := ⟨w.heap.size + 1 + 1, 0, none⟩) (by simp; omega) (.slice none 0 0)).setCell (p := ⟨w.heap.size + 1 + 1, 1, none⟩) (by simp; omega) (.int .i64 0)).setCell (p := ⟨w.heap.size + 1 + 1, 2, none⟩) (by simp; omega) (.slice none 0 0)
  generalize ((w1.setCell ⟨w.heap.size + 1 + 1, 0, none⟩ (.slice none 0 0)).setCell ⟨w.heap.size + 1 + 1, 1, none⟩ (.int .i64 0)).setCell ⟨w.heap.size + 1 + 1, 2, none⟩ (.slice none 0 0) = S at *
  obtain ⟨d0, d1, d2, _, _, _⟩ := cells3f hS
  exact bodyPost_ret (v := .tuple #[.agg #[.slice none 0 0, .int .i64 0, .slice none 0 0], .int .i64 X]) (by simp [results, Try.results27, go_sem, d0, d1, d2]) rfl ⟨_, rfl, netZ_at _, hB⟩
set_option maxRecDepth 100000 in
set_option maxHeartbeats 4000000 in
theorem jn_bad2 (a b : NetM) (a1 a2 b1 b2 : Option Addr) (c1 c2 d1 d2 : Nat) (he : ncheck a = 0) (he2 : ncheck b ≠ 0) (w : World)
    (hpa : PsAt w (.slice a1 a.ps.length c1) a.ps) (hsa : SsAt w (.slice a2 a.ss.length c2) a.ss) (hpb : PsAt w (.slice b1 b.ps.length d1) b.ps) (hsb : SsAt w (.slice b2 b.ss.length d2) b.ss) :
    Calls Try.prog 27 #[.agg #[.slice a1 a.ps.length c1, .int .i64 a.inp, .slice a2 a.ss.length c2], .agg #[.slice b1 b.ps.length d1, .int .i64 b.inp, .slice b2 b.ss.length d2]] w (RenOut (joinE a b) (joinR a b) w) := by
  have hE : joinE a b = ncheck b := by rw [joinE, if_neg (by simpa using he)]; exact if_pos he2
  have hR : joinR a b = netZ := if_neg (by rw [hE]; exact he2)
  rw [hE, hR]
  have hck : ∀ w1, Below w.heap.size w w1 → Calls Try.prog 19 #[.agg #[.slice a1 a.ps.length c1, .int .i64 a.inp, .slice a2 a.ss.length c2]] w1 fun e w' => e = .returned (.int .i64 0) ∧ Below w1.heap.size w1 w' := fun w1 hb => by
    have := ncheck_any a a1 a2 c1 c2 w1 (hpa.below hb) (hsa.below hb)
    rwa [he] at this
  have hck2 : ∀ w1, Below w.heap.size w w1 → Calls Try.prog 19 #[.agg #[.slice b1 b.ps.length d1, .int .i64 b.inp, .slice b2 b.ss.length d2]] w1 fun e w' => e = .returned (.int .i64 (ncheck b)) ∧ Below w1.heap.size w1 w' := fun w1 hb => ncheck_any b b1 b2 d1 d2 w1 (hpb.below hb) (hsb.below hb)
  have hne : (ncheck b != 0) = true := by simp [he2]
  generalize ncheck b = X at *
  generalize a.ps.length = k at *
  generalize a.ss.length = m at *
  generalize a.inp = I at *
  generalize b.ps.length = k' at *
  generalize b.ss.length = m' at *
  generalize b.inp = I' at *
  have HCK := Lib.hid hck
  have HCK2 := Lib.hid hck2
  clear hck hck2 hpa hsa hpb hsb hE hR he he2
  go_enter Try.func27, Try.ntmps27
  go_upto_region 4 with (go_at_call 19; refine (HCK.out _ (below3 w _ _ _)).mono ?_; rintro e w1 ⟨rfl, hb1⟩)
  have hbx1 : NetBox w1 (w.heap.size + 1 + 1) (.slice none 0 0) 0 (.slice none 0 0) := (hb1.block _ (by simp)).trans (blk3c _ _ _ _)
  have hbxb : NetBox w1 (w.heap.size + 1) (.slice b1 k' d1) I' (.slice b2 m' d2) := (hb1.block _ (by simp <;> omega)).trans (blk3b _ _ _ _)
  have hz1 : w.heap.size + 1 + 1 < w1.heap.size := lt_of_block hbx1
  have hb2 : Below w.heap.size w w1 := (below3 w _ _ _).trans (hb1.mono (by simp; omega))
  obtain ⟨_, _, _, _, _, _⟩ := cells3f hbxb
  clear hb1
  go_wp2_with (go_at_call 19; refine (HCK2.out _ hb2).mono ?_; rintro e w2 ⟨rfl, hb3⟩; have hbx2 : NetBox w2 (w.heap.size + 1 + 1) (.slice none 0 0) 0 (.slice none 0 0) := (hb3.block _ hz1).trans hbx1; obtain ⟨_, _, _, _, _, _⟩ := cells3f hbx2; have hz2 : w.heap.size + 1 + 1 < w2.heap.size := lt_of_block hbx2)
  have hb4 : Below w.heap.size w w2 := hb2.trans (hb3.mono (by omega))
  have hS := netBox_set (a := .slice none 0 0) (b := 0) (c := .slice none 0 0) hbx2
  have hB := ((hb4.setCell (p := ⟨w.heap.size + 1 + 1, 0, none⟩) (by simp; omega) (.slice none 0 0)).setCell (p := ⟨w.heap.size + 1 + 1, 1, none⟩) (by simp; omega) (.int .i64 0)).setCell (p := ⟨w.heap.size + 1 + 1, 2, none⟩) (by simp; omega) (.slice none 0 0)
  generalize ((w2.setCell ⟨w.heap.size + 1 + 1, 0, none⟩ (.slice none 0 0)).setCell ⟨w.heap.size + 1 + 1, 1, none⟩ (.int .i64 0)).setCell ⟨w.heap.size + 1 + 1, 2, none⟩ (.slice none 0 0) = S at *
  obtain ⟨d0, d1, d2, _, _, _⟩ := cells3f hS
  exact bodyPost_ret (v := .tuple #[.agg #[.slice none 0 0, .int .i64 0, .slice none 0 0], .int .i64 X]) (by simp [results, Try.results27, go_sem, d0, d1, d2]) rfl ⟨_, rfl, netZ_at _, hB⟩

set_option maxRecDepth 100000 in
set_option maxHeartbeats 8000000 in
theorem jn_ok (a b : NetM) (a1 a2 b1 b2 : Option Addr) (c1 c2 d1 d2 : Nat) (he : ncheck a = 0) (he2 : ncheck b = 0) (w : World)
    (hpa : PsAt w (.slice a1 a.ps.length c1) a.ps) (hsa : SsAt w (.slice a2 a.ss.length c2) a.ss) (hpb : PsAt w (.slice b1 b.ps.length d1) b.ps) (hsb : SsAt w (.slice b2 b.ss.length d2) b.ss) :
    Calls Try.prog 27 #[.agg #[.slice a1 a.ps.length c1, .int .i64 a.inp, .slice a2 a.ss.length c2], .agg #[.slice b1 b.ps.length d1, .int .i64 b.inp, .slice b2 b.ss.length d2]] w (RenOut (joinE a b) (joinR a b) w) := by
  have hE : joinE a b = ncheck (joinN a b) := by rw [joinE, if_neg (by simpa using he)]; exact if_neg (by simpa using he2)
  have hR : joinR a b = if ncheck (joinN a b) = 0 then joinN a b else netZ := by rw [joinR, hE]
  rw [hE, hR]
  obtain ⟨NR, hNR⟩ : ∃ N, N = if ncheck (joinN a b) = 0 then joinN a b else netZ := ⟨_, rfl⟩
  rw [← hNR]
  have HNR := Lib.hid hNR
  clear hNR
  have oka := netOk_of he
  have okb := netOk_of he2
  have hck : ∀ w1, Below w.heap.size w w1 → Calls Try.prog 19 #[.agg #[.slice a1 a.ps.length c1, .int .i64 a.inp, .slice a2 a.ss.length c2]] w1 fun e w' => e = .returned (.int .i64 0) ∧ Below w1.heap.size w1 w' := fun w1 hb => by
    have := ncheck_any a a1 a2 c1 c2 w1 (hpa.below hb) (hsa.below hb)
    rwa [he] at this
  have hck2 : ∀ w1, Below w.heap.size w w1 → Calls Try.prog 19 #[.agg #[.slice b1 b.ps.length d1, .int .i64 b.inp, .slice b2 b.ss.length d2]] w1 fun e w' => e = .returned (.int .i64 0) ∧ Below w1.heap.size w1 w' := fun w1 hb => by
    have := ncheck_any b b1 b2 d1 d2 w1 (hpb.below hb) (hsb.below hb)
    rwa [he2] at this
  have p1 := oka.p1
  have p2 := okb.p1
  have q1 := oka.s1
  have q2 := okb.s1
  have i0 := oka.i0
  have i1 := oka.i1
  have j0 := okb.i0
  have j1 := okb.i1
  have hc5 : ∀ W g, Below w.heap.size w W → W.heap[g]? = some (.cells #[.slice a1 a.ps.length c1, .slice b1 b.ps.length d1] 22) → Calls Try.prog 70 #[.slice (some ⟨g, 0, none⟩) 2 2] W (PsOut (a.ps ++ b.ps) W) := fun W g hb hg => concatP_any a.ps b.ps a1 b1 c1 d1 g (by omega) (by omega) W hg (hpa.below hb) (hpb.below hb)
  have hc16 : ∀ W g, Below w.heap.size w W → W.heap[g]? = some (.cells #[.slice a2 a.ss.length c2, .slice b2 b.ss.length d2] 23) → Calls Try.prog 71 #[.slice (some ⟨g, 0, none⟩) 2 2] W (SsOut (a.ss ++ b.ss) W) := fun W g hb hg => concatS_any a.ss b.ss a2 b2 c2 d2 g (by omega) (by omega) W hg (hsa.below hb) (hsb.below hb)
  obtain ⟨k1, hk1⟩ : ∃ k, k = a.ps.length := ⟨_, rfl⟩
  obtain ⟨k2, hk2⟩ : ∃ k, k = b.ps.length := ⟨_, rfl⟩
  obtain ⟨m1, hm1⟩ : ∃ k, k = a.ss.length := ⟨_, rfl⟩
  obtain ⟨m2, hm2⟩ : ∃ k, k = b.ss.length := ⟨_, rfl⟩
  obtain ⟨ia, hia⟩ : ∃ k, k = a.inp := ⟨_, rfl⟩
  obtain ⟨ib, hib⟩ : ∃ k, k = b.inp := ⟨_, rfl⟩
  rw [← hk1, ← hm1, ← hia] at hck
  rw [← hk2, ← hm2, ← hib] at hck2
  rw [← hk1, ← hk2] at hc5
  rw [← hm1, ← hm2] at hc16
  rw [← hk1] at p1
  rw [← hk2] at p2
  rw [← hm1] at q1
  rw [← hm2] at q2
  rw [← hia] at i0 i1
  rw [← hib] at j0 j1
  rw [← hk1, ← hk2, ← hm1, ← hm2, ← hia, ← hib]
  have HCK := Lib.hid hck
  have HCK2 := Lib.hid hck2
  have HC50 := Lib.hid hc5
  have HC160 := Lib.hid hc16
  have OKB := Lib.hid okb
  have HK1 := Lib.hid hk1
  have HK2 := Lib.hid hk2
  have HM1 := Lib.hid hm1
  have HM2 := Lib.hid hm2
  have HIA := Lib.hid hia
  have HIB := Lib.hid hib
  have hsum : wrap64 (ia + ib) = ia + ib := by unfold wrap64; omega
  have hsum2 : (ia + ib + 9223372036854775808) % 18446744073709551616 - 9223372036854775808 = ia + ib := by omega
  have HSUM := Lib.hid hsum2
  clear hsum2
  clear hck hck2 hpa hsa hpb hsb hE hR he he2 hc5 hc16 oka okb hk1 hk2 hm1 hm2 hia hib
  go_enter Try.func27, Try.ntmps27
  go_upto_region 4 with (go_at_call 19; refine (HCK.out _ (below3 w _ _ _)).mono ?_; rintro e w1 ⟨rfl, hb1⟩)
  have hx2 : NetBox w1 (w.heap.size + 1 + 1) (.slice none 0 0) 0 (.slice none 0 0) := (hb1.block _ (by simp)).trans (blk3c _ _ _ _)
  have hxb : NetBox w1 (w.heap.size + 1) (.slice b1 k2 d1) ib (.slice b2 m2 d2) := (hb1.block _ (by simp <;> omega)).trans (blk3b _ _ _ _)
  have hxa : NetBox w1 w.heap.size (.slice a1 k1 c1) ia (.slice a2 m1 c2) := (hb1.block _ (by simp <;> omega)).trans (blk3a _ _ _ _)
  have hz1 : w.heap.size + 1 + 1 < w1.heap.size := lt_of_block hx2
  have hb2 : Below w.heap.size w w1 := (below3 w _ _ _).trans (hb1.mono (by simp; omega))
  obtain ⟨_, _, _, _, _, _⟩ := cells3f hxb
  clear hb1
  go_upto_region 7 with (go_at_call 19; refine (HCK2.out _ hb2).mono ?_; rintro e w2 ⟨rfl, hb3⟩)
  have hy2 : NetBox w2 (w.heap.size + 1 + 1) (.slice none 0 0) 0 (.slice none 0 0) := (hb3.block _ hz1).trans hx2
  have hyb : NetBox w2 (w.heap.size + 1) (.slice b1 k2 d1) ib (.slice b2 m2 d2) := (hb3.block _ (by omega)).trans hxb
  have hya : NetBox w2 w.heap.size (.slice a1 k1 c1) ia (.slice a2 m1 c2) := (hb3.block _ (by omega)).trans hxa
  have hz2 : w.heap.size + 1 + 1 < w2.heap.size := lt_of_block hy2
  have hb4 : Below w.heap.size w w2 := hb2.trans (hb3.mono (by omega))
  generalize hB0 : w.heap.size = B at *
  have HB0 := Lib.hid hB0
  have HB4 := Lib.hid hb4
  have HY2 := Lib.hid hy2
  have HYB := Lib.hid hyb
  have HYA := Lib.hid hya
  clear hb2 hb3 hb4 hB0 hx2 hxb hxa hy2 hyb hya hz1 HCK HCK2
  have hc5 : ∀ W g, Below w2.heap.size w2 W → W.heap[g]? = some (.cells #[.slice a1 k1 c1, .slice b1 k2 d1] 22) → Calls Try.prog 70 #[.slice (some ⟨g, 0, none⟩) 2 2] W (PsOut (a.ps ++ b.ps) W) := fun W g hb => HC50.out W g (HB4.out.trans (hb.mono (by omega)))
  have hc16 : ∀ W g, Below w2.heap.size w2 W → W.heap[g]? = some (.cells #[.slice a2 m1 c2, .slice b2 m2 d2] 23) → Calls Try.prog 71 #[.slice (some ⟨g, 0, none⟩) 2 2] W (SsOut (a.ss ++ b.ss) W) := fun W g hb => HC160.out W g (HB4.out.trans (hb.mono (by omega)))
  have HC5 := Lib.hid hc5
  have HC16 := Lib.hid hc16
  clear hc5 hc16 HC50 HC160
  refine wp_region_ghost (JnR w2 w2.heap.size (ia + ib) (a.ps ++ b.ps) (a.ss ++ b.ss) (.slice a1 k1 c1) (.slice b1 k2 d1) (.slice a2 m1 c2) (.slice b2 m2 d2) (joinK B ia ib (ia + ib) (.slice a1 k1 c1) (.slice a2 m1 c2) (.slice b1 k2 d1) (.slice b2 m2 d2))) (by kernel_rfl) (by kernel_rfl) (by kernel_rfl) (by kernel_rfl) (JnR.init rfl) ?stp ?dn
  case dn =>
    intro val W b' hI hh hbs
    have hb := has_all (by kernel_rfl) hh hbs
    obtain ⟨gN, hgN⟩ : ∃ g, g = vb (val 18) := ⟨_, rfl⟩
    have o5 := hI.o5 (by simp)
    have o16 := hI.o16 (by simp)
    obtain ⟨x18, loN, u', x', v', gb, gx⟩ := hI.al (by simp)
    obtain ⟨rfl, rfl, rfl⟩ := gx (by simp)
    have n5N := hI.a5 (by simp) (by simp)
    have n16N := hI.a16 (by simp) (by simp)
    have n516 := hI.a516 (by simp) (by simp)
    have x17 := hI.bld (by simp)
    rw [← hgN] at x18 loN gb n5N n16N
    have f5 : ∃ a5 c5, val 5 = .slice a5 (k1 + k2) c5 := by
      have e : (a.ps ++ b.ps).length = k1 + k2 := by rw [List.length_append, HK1.out, HK2.out]
      rw [e] at o5
      rcases ownsRow_forms o5 with ⟨e1, e2⟩ | ⟨g, c, e1⟩
      · exact ⟨none, 0, by rw [e1, e2]⟩
      · exact ⟨_, _, e1⟩
    have f16 : ∃ a16 c16, val 16 = .slice a16 (m1 + m2) c16 := by
      have e : (a.ss ++ b.ss).length = m1 + m2 := by rw [List.length_append, HM1.out, HM2.out]
      rw [e] at o16
      rcases ownsRow_forms o16 with ⟨e1, e2⟩ | ⟨g, c, e1⟩
      · exact ⟨none, 0, by rw [e1, e2]⟩
      · exact ⟨_, _, e1⟩
    obtain ⟨a5, c5, x5⟩ := f5
    obtain ⟨a16, c16, x16⟩ := f16
    rw [x5] at o5 n5N n516
    rw [x16] at o16 n16N n516
    rw [x5, x16] at gb x17
    have kn : ∀ j, j < 15 → j ≠ 4 → j ≠ 5 → val j = joinK B ia ib (ia + ib) (.slice a1 k1 c1) (.slice a2 m1 c2) (.slice b1 k2 d1) (.slice b2 m2 d2) j := fun j h1 h2 h3 => hI.known j h1 h2 h3 (repl_true (by show j < 20; omega))
    have w19 : ∀ a : Act, a.put none (val 19) = a := fun a => rfl
    obtain ⟨v4, hv4⟩ : ∃ v, v = val 4 := ⟨_, rfl⟩
    obtain ⟨v15, hv15⟩ : ∃ v, v = val 15 := ⟨_, rfl⟩
    simp only [puts, x5, x16, x17, x18, w19, ← hv4, ← hv15, kn 0 (by decide) (by decide) (by decide), kn 1 (by decide) (by decide) (by decide), kn 2 (by decide) (by decide) (by decide), kn 3 (by decide) (by decide) (by decide), kn 6 (by decide) (by decide) (by decide), kn 7 (by decide) (by decide) (by decide), kn 8 (by decide) (by decide) (by decide), kn 9 (by decide) (by decide) (by decide), kn 10 (by decide) (by decide) (by decide), kn 11 (by decide) (by decide) (by decide), kn 12 (by decide) (by decide) (by decide), kn 13 (by decide) (by decide) (by decide), kn 14 (by decide) (by decide) (by decide), joinK] at hb
    have hM0 : MidJ w B w2.heap.size gN ia ib (ia + ib) (.slice a5 (k1 + k2) c5) (.slice a16 (m1 + m2) c16) (.slice a1 k1 c1) (.slice a2 m1 c2) (.slice b1 k2 d1) (.slice b2 m2 d2) (a.ps ++ b.ps) (midJ a.ss b.ss k1 ia (m1 - m1)) W :=
      ⟨o5, sRow_of (by rw [Nat.sub_self, midJ_zero]; exact o16), gb, (hI.bel.block _ (by omega)).trans HYA.out, (hI.bel.block _ (by omega)).trans HYB.out, (hI.bel.block _ hz2).trans HY2.out, HB4.out.trans (hI.bel.mono (by have := HB4.out.size; have := HB0.out; omega)), loN, hz2, n5N, n16N, n516⟩
    have HM0 := Lib.hid hM0
    clear hI hh hbs o5 o16 x18 loN gb gx n5N n16N n516 x17 x5 x16 hgN kn w19 hv4 hv15 hM0 HY2 HYB HYA HC5 HC16
    subst hb
    simp only [Act.put, List.setIfInBounds_toArray, List.set_cons_succ, List.set_cons_zero]
    obtain ⟨_, _, _, _, _, _⟩ := cells3f HM0.out.boxa
    have hla : B < W.heap.size := lt_of_block HM0.out.boxa
    go_wp2
    go_loopw [9] (fun i wr => ∃ t : Nat, m1 ≤ t ∧ t ≤ m1 + m2 ∧ i = .int .i64 t ∧ MidJ w B w2.heap.size gN ia ib (ia + ib) (.slice a5 (k1 + k2) c5) (.slice a16 (m1 + m2) c16) (.slice a1 k1 c1) (.slice a2 m1 c2) (.slice b1 k2 d1) (.slice b2 m2 d2) (a.ps ++ b.ps) (midJ a.ss b.ss k1 ia (t - m1)) wr) (fun i _ => (m1 + m2) - (intOf i).toNat)
    case atStart => exact ⟨m1, Nat.le_refl _, Nat.le_add_right _ _, rfl, HM0.out⟩
    case round =>
      obtain ⟨t, ht1, ht2, rfl, hM⟩ := hrel
      have HMM := Lib.hid hM
      have hlB : B + 1 + 1 < wr.heap.size := lt_of_block hM.box2
      have hlN : gN < wr.heap.size := lt_of_block hM.box
      obtain ⟨_, _, _, _, _, _⟩ := cells3f hM.box
      obtain ⟨_, _, _, _, _, _⟩ := cells3f hM.boxa
      clear hM
      by_cases hlt : t < m1 + m2
      · obtain ⟨j, hj⟩ : ∃ j, j = t - m1 := ⟨_, rfl⟩
        obtain ⟨s, hs⟩ : ∃ s, b.ss[j]? = some s := ⟨_, List.getElem?_eq_getElem (by rw [← HM2.out]; omega)⟩
        have hso := OKB.out.ss s (List.mem_of_getElem? hs)
        have hmid := midJ_at a.ss b.ss k1 ia hs
        have hms := midJ_succ a.ss b.ss k1 ia hs
        rw [← HM1.out, show m1 + j = t by omega] at hmid hms
        rw [show j + 1 = t + 1 - m1 by omega] at hms
        rw [hj] at hmid hms
        obtain ⟨F, T, WT, DL⟩ := s
        simp [synOk, srcOk, inR] at hso
        rw [← HK2.out, ← HIB.out] at hso
        obtain ⟨g8, rfl, hg8, hz8, ⟨_, _, _, _⟩, _, _⟩ := HMM.out.syn.at hmid
        have wT : wrap64 (T + (k1 : Int)) = T + (k1 : Int) := by unfold wrap64; omega
        have hi0 : (0 : Int) ≤ (t : Int) := Int.natCast_nonneg _
        have hi1 : (t : Int) < ((m1 + m2 : Nat) : Int) := by omega
        have hne : B ≠ g8 := by have := HMM.out.loB; omega
        have hneN : gN ≠ g8 := fun e => HMM.out.n16N (by simp [Value.ownBlock, e])
        have hmid1 : ((midJ a.ss b.ss k1 ia (t - m1)).set t ⟨F, T + (k1 : Int), WT, DL⟩)[t]? = some ⟨F, T + (k1 : Int), WT, DL⟩ := List.getElem?_set_self (List.getElem?_eq_some_iff.1 hmid).1
        have HMID := Lib.hid hmid
        have HMD := Lib.hid hmid1
        have HMS := Lib.hid hms
        have HSO := Lib.hid hso
        clear hmid hmid1 hms hs hso hj
        go_wp2
        go_still_tail 10, (by kernel_rfl)
        change wpList _ _ _ _ _ wr.drew
        have hM7 := HMM.out.below (A' := wr.drew) ⟨rfl, rfl, rfl, Nat.le_refl _, fun _ _ => rfl⟩
        generalize wr.drew = W7 at *
        obtain ⟨g8', e8, _, hz8', ⟨_, _, _, _⟩, _, _⟩ := hM7.syn.at HMID.out
        cases e8
        have hM1 := hM7.cell hg8 (hM7.syn.set1 (T := T + (k1 : Int)) HMID.out)
        have HM1' := Lib.hid hM1
        clear hM7 hM1
        go_upto_region 13 with (fail)
        rw [wT]
        generalize W7.setCell ⟨g8, t * 4 + 1, none⟩ (.int .i64 (T + (k1 : Int))) = W8 at *
        obtain ⟨g8', e8, _, hz9, ⟨_, _, _, _⟩, _, _⟩ := HM1'.out.syn.at HMD.out
        cases e8
        obtain ⟨_, _, _, _, _, _⟩ := cells3f HM1'.out.boxa
        have hso := HSO.out
        by_cases hF : F < 0
        · have zF : (F < 0) = True := by simp [hF]
          have wF : wrap64 (F - ia) = F - ia := by unfold wrap64; omega
          have hst : ((midJ a.ss b.ss k1 ia (t - m1)).set t ⟨F, T + (k1 : Int), WT, DL⟩).set t ⟨F - ia, T + (k1 : Int), WT, DL⟩ = midJ a.ss b.ss k1 ia (t + 1 - m1) := by
            rw [HMS.out, List.set_set]; simp [shS, hF]
          have HST := Lib.hid hst
          clear hst hF hso
          go_wp2
          go_still_tail 9, (by kernel_rfl)
          change wpList _ _ _ _ _ W8.drew
          have hM9 := HM1'.out.below (A' := W8.drew) ⟨rfl, rfl, rfl, Nat.le_refl _, fun _ _ => rfl⟩
          generalize W8.drew = W9 at *
          obtain ⟨g8', e8, _, hzA, ⟨_, _, _, _⟩, _, _⟩ := hM9.syn.at HMD.out
          cases e8
          have hM2 := hM9.cell hg8 (hM9.syn.set0 (F := F - ia) HMD.out)
          have HM2' := Lib.hid hM2
          clear hM9 hM2
          go_wp2
          go_roundw
          case rel =>
            refine ⟨t + 1, by omega, by omega, by go_num, ?_⟩
            rw [← HST.out]
            exact HM2'.out
          case measure => simp [intOf]; omega
        · have zF : (F < 0) = False := by simp; omega
          have wF : wrap64 (F + (k1 : Int)) = F + (k1 : Int) := by unfold wrap64; omega
          have hst : ((midJ a.ss b.ss k1 ia (t - m1)).set t ⟨F, T + (k1 : Int), WT, DL⟩).set t ⟨F + (k1 : Int), T + (k1 : Int), WT, DL⟩ = midJ a.ss b.ss k1 ia (t + 1 - m1) := by
            rw [HMS.out, List.set_set]; simp [shS, hF]
          have HST := Lib.hid hst
          clear hst hF hso
          go_wp2
          go_still_tail 10, (by kernel_rfl)
          change wpList _ _ _ _ _ W8.drew
          have hM9 := HM1'.out.below (A' := W8.drew) ⟨rfl, rfl, rfl, Nat.le_refl _, fun _ _ => rfl⟩
          generalize W8.drew = W9 at *
          obtain ⟨g8', e8, _, hzA, ⟨_, _, _, _⟩, _, _⟩ := hM9.syn.at HMD.out
          cases e8
          have hM2 := hM9.cell hg8 (hM9.syn.set0 (F := F + (k1 : Int)) HMD.out)
          have HM2' := Lib.hid hM2
          clear hM9 hM2
          go_wp2
          go_roundw
          case rel =>
            refine ⟨t + 1, by omega, by omega, by go_num, ?_⟩
            rw [← HST.out]
            exact HM2'.out
          case measure => simp [intOf]; omega
      · obtain rfl : t = m1 + m2 := by omega
        clear hlt ht1 ht2
        have hpW : PsAt wr (.slice a5 (k1 + k2) c5) (joinN a b).ps := psAt_of_owns HMM.out.row
        have hsW : SsAt wr (.slice a16 (m1 + m2) c16) (joinN a b).ss := by
          have := HMM.out.syn.ssAt
          rw [show m1 + m2 - m1 = b.ss.length by rw [← HM2.out]; omega, midJ_all] at this
          rw [joinN, ← HK1.out, ← HIA.out]
          exact this
        have l1 : k1 + k2 = (joinN a b).ps.length := by rw [joinN, List.length_append, ← HK1.out, ← HK2.out]
        have l2 : m1 + m2 = (joinN a b).ss.length := by rw [joinN, List.length_append, List.length_map, ← HM1.out, ← HM2.out]
        have l3 : ia + ib = (joinN a b).inp := by rw [joinN, ← HIA.out, ← HIB.out]
        have hck3 : Calls Try.prog 19 #[.agg #[.slice a5 (k1 + k2) c5, .int .i64 (ia + ib), .slice a16 (m1 + m2) c16]] wr fun e w' => e = .returned (.int .i64 (ncheck (joinN a b))) ∧ Below wr.heap.size wr w' := by
          rw [l1, l2, l3]
          rw [l1] at hpW
          rw [l2] at hsW
          exact ncheck_any (joinN a b) a5 a16 c5 c16 wr hpW hsW
        have HCK3 := Lib.hid hck3
        have HPW := Lib.hid hpW
        have HSW := Lib.hid hsW
        have L1 := Lib.hid l1
        have L2 := Lib.hid l2
        have L3 := Lib.hid l3
        clear hck3 hpW hsW l1 l2 l3
        by_cases hX : ncheck (joinN a b) = 0
        · have hNR := HNR.out
          rw [if_pos hX] at hNR
          subst hNR
          clear HNR
          rw [hX] at HCK3 ⊢
          go_wp2_with (go_at_call 19; refine HCK3.out.mono ?_; rintro e w5 ⟨rfl, hb5⟩; have hv2 : NetBox w5 (B + 1 + 1) (.slice none 0 0) 0 (.slice none 0 0) := (hb5.block _ hlB).trans HMM.out.box2; have hvN : NetBox w5 gN (.slice a5 (k1 + k2) c5) (ia + ib) (.slice a16 (m1 + m2) c16) := (hb5.block _ hlN).trans HMM.out.box; obtain ⟨_, _, _, _, _, _⟩ := cells3f hv2; obtain ⟨_, _, _, _, _, _⟩ := cells3f hvN; have hz5 : B + 1 + 1 < w5.heap.size := lt_of_block hv2; have hz6 : gN < w5.heap.size := lt_of_block hvN)
          have hB5 : Below B w w5 := HMM.out.bel.trans (hb5.mono (by omega))
          have hS := netBox_set (a := .slice a5 (k1 + k2) c5) (b := ia + ib) (c := .slice a16 (m1 + m2) c16) hv2
          have hB := ((hB5.setCell (p := ⟨B + 1 + 1, 0, none⟩) (by simp; omega) (.slice a5 (k1 + k2) c5)).setCell (p := ⟨B + 1 + 1, 1, none⟩) (by simp; omega) (.int .i64 (ia + ib))).setCell (p := ⟨B + 1 + 1, 2, none⟩) (by simp; omega) (.slice a16 (m1 + m2) c16)
          have e : ∀ g, w2.heap.size ≤ g → g < wr.heap.size → (((w5.setCell ⟨B + 1 + 1, 0, none⟩ (.slice a5 (k1 + k2) c5)).setCell ⟨B + 1 + 1, 1, none⟩ (.int .i64 (ia + ib))).setCell ⟨B + 1 + 1, 2, none⟩ (.slice a16 (m1 + m2) c16)).heap[g]? = wr.heap[g]? := fun g h1 h2 => by
            rw [← hb5.block g h2]
            have : B + 1 + 1 ≠ g := by omega
            simp [World.setCell, Array.getElem?_modify, this]
          generalize ((w5.setCell ⟨B + 1 + 1, 0, none⟩ (.slice a5 (k1 + k2) c5)).setCell ⟨B + 1 + 1, 1, none⟩ (.int .i64 (ia + ib))).setCell ⟨B + 1 + 1, 2, none⟩ (.slice a16 (m1 + m2) c16) = S at *
          obtain ⟨d0, d1', d2', _, _, _⟩ := cells3f hS
          have hN : NetAt S (.agg #[.slice a5 (k1 + k2) c5, .int .i64 (ia + ib), .slice a16 (m1 + m2) c16]) (joinN a b) := by
            have hr := ownsRow_of_block (A' := S) HMM.out.row fun g hg => e g (HMM.out.row.lt g hg).1 (HMM.out.row.lt g hg).2
            have hs' : SRow S w2.heap.size (.slice a16 (m1 + m2) c16) (midJ a.ss b.ss k1 ia (m1 + m2 - m1)) := HMM.out.syn.of_block fun g hg hgl => e g (HMM.out.syn.lo hg) hgl
            have h1 := psAt_of_owns hr
            have h2 := hs'.ssAt
            rw [show m1 + m2 - m1 = b.ss.length by rw [← HM2.out]; omega, midJ_all] at h2
            have h2' : SsAt S (.slice a16 (m1 + m2) c16) (joinN a b).ss := by rw [joinN, ← HK1.out, ← HIA.out]; exact h2
            refine ⟨a5, c5, a16, c16, by rw [← L1.out, ← L2.out, ← L3.out], ?_, ?_⟩
            · rw [← L1.out]; exact h1
            · rw [← L2.out]; exact h2'
          exact bodyPost_ret (v := .tuple #[.agg #[.slice a5 (k1 + k2) c5, .int .i64 (ia + ib), .slice a16 (m1 + m2) c16], .int .i64 0]) (by simp [results, Try.results27, go_sem, d0, d1', d2']) rfl ⟨_, by rw [hX], hN, by rw [HB0.out]; exact hB⟩
        · have hNR := HNR.out
          rw [if_neg hX] at hNR
          subst hNR
          clear HNR
          have hne : (ncheck (joinN a b) != 0) = true := by simp [hX]
          generalize ncheck (joinN a b) = X at *
          go_wp2_with (go_at_call 19; refine HCK3.out.mono ?_; rintro e w5 ⟨rfl, hb5⟩; have hv2 : NetBox w5 (B + 1 + 1) (.slice none 0 0) 0 (.slice none 0 0) := (hb5.block _ hlB).trans HMM.out.box2; obtain ⟨_, _, _, _, _, _⟩ := cells3f hv2; have hz5 : B + 1 + 1 < w5.heap.size := lt_of_block hv2)
          have hB5 : Below B w w5 := HMM.out.bel.trans (hb5.mono (by omega))
          have hS := netBox_set (a := .slice none 0 0) (b := 0) (c := .slice none 0 0) hv2
          have hB := ((hB5.setCell (p := ⟨B + 1 + 1, 0, none⟩) (by simp; omega) (.slice none 0 0)).setCell (p := ⟨B + 1 + 1, 1, none⟩) (by simp; omega) (.int .i64 0)).setCell (p := ⟨B + 1 + 1, 2, none⟩) (by simp; omega) (.slice none 0 0)
          generalize ((w5.setCell ⟨B + 1 + 1, 0, none⟩ (.slice none 0 0)).setCell ⟨B + 1 + 1, 1, none⟩ (.int .i64 0)).setCell ⟨B + 1 + 1, 2, none⟩ (.slice none 0 0) = S at *
          obtain ⟨d0, d1', d2', _, _, _⟩ := cells3f hS
          exact bodyPost_ret (v := .tuple #[.agg #[.slice none 0 0, .int .i64 0, .slice none 0 0], .int .i64 X]) (by simp [results, Try.results27, go_sem, d0, d1', d2']) rfl ⟨_, rfl, netZ_at _, by rw [HB0.out]; exact hB⟩
  case stp =>
    intro L val W i' o b' hs ho hlF hdd hI hh
    have hi' := (List.getElem?_eq_some_iff.1 ho).1
    have hcs : i' = 0 ∨ i' = 1 ∨ i' = 2 ∨ i' = 3 ∨ i' = 4 ∨ i' = 5 ∨ i' = 6 ∨ i' = 7 ∨ i' = 8 ∨ i' = 9 ∨ i' = 10 ∨ i' = 11 ∨ i' = 12 ∨ i' = 13 ∨ i' = 14 ∨ i' = 15 ∨ i' = 16 ∨ i' = 17 ∨ i' = 18 ∨ i' = 19 := by simp at hi'; omega
    have hLs : 19 < L.size := by simp at hs; omega
    have hcw : ∀ b o, b < w2.heap.size → W.cell? ⟨b, o, none⟩ = w2.cell? ⟨b, o, none⟩ := fun b o hb => (bcell hI.bel).1 b o hb
    obtain ⟨p0, p1', p2'⟩ := cells3 HYA.out
    obtain ⟨r0, r1, r2⟩ := cells3 HYB.out
    rw [← hcw _ _ (by omega)] at p0 p1' p2' r0 r1 r2
    have HI := Lib.hid hI
    have HLF := Lib.hid hlF
    have HD := Lib.hid hdd
    clear hi' hs hI hlF hdd hcw
    rcases hcs with rfl | rfl | rfl | rfl | rfl | rfl | rfl | rfl | rfl | rfl | rfl | rfl | rfl | rfl | rfl | rfl | rfl | rfl | rfl | rfl
    · simp only [List.getElem?_cons_zero, Option.some.injEq] at ho
      subst ho
      have k2 := hh.kept 2 (by simp)
      simp at k2
      go_simp
      exact ⟨_, rfl, HI.out.step 0 (by omega) (by omega) _ _ (Below.refl _ _) HLF.out (fun _ _ _ => rfl) (fun h => by omega) (fun h => by omega) (fun h => by omega) (fun h => by omega) (fun h => by omega) (fun h => by omega)⟩
    · simp only [List.getElem?_cons_zero, List.getElem?_cons_succ, Option.some.injEq] at ho
      subst ho
      have l0 : L.getD 0 false = true := HD.out ⟨0, .data⟩ (by simp) rfl
      have g0 := hh.got 0 _ 24 rfl rfl l0 (by simp)
      rw [HI.out.known 0 (by omega) (by omega) (by omega) l0] at g0
      simp [joinK] at g0
      clear l0
      go_simp
      exact ⟨_, rfl, HI.out.step 1 (by omega) (by omega) _ _ (Below.refl _ _) HLF.out (fun _ _ _ => rfl) (fun h => by omega) (fun h => by omega) (fun h => by omega) (fun h => by omega) (fun h => by omega) (fun h => by omega)⟩
    · simp only [List.getElem?_cons_zero, List.getElem?_cons_succ, Option.some.injEq] at ho
      subst ho
      have k3 := hh.kept 3 (by simp)
      simp at k3
      go_simp
      exact ⟨_, rfl, HI.out.step 2 (by omega) (by omega) _ _ (Below.refl _ _) HLF.out (fun _ _ _ => rfl) (fun h => by omega) (fun h => by omega) (fun h => by omega) (fun h => by omega) (fun h => by omega) (fun h => by omega)⟩
    · simp only [List.getElem?_cons_zero, List.getElem?_cons_succ, Option.some.injEq] at ho
      subst ho
      have l2 : L.getD 2 false = true := HD.out ⟨2, .data⟩ (by simp) rfl
      have g2 := hh.got 2 _ 26 rfl rfl l2 (by simp)
      rw [HI.out.known 2 (by omega) (by omega) (by omega) l2] at g2
      simp [joinK] at g2
      clear l2
      go_simp
      exact ⟨_, rfl, HI.out.step 3 (by omega) (by omega) _ _ (Below.refl _ _) HLF.out (fun _ _ _ => rfl) (fun h => by omega) (fun h => by omega) (fun h => by omega) (fun h => by omega) (fun h => by omega) (fun h => by omega)⟩
    · simp only [List.getElem?_cons_zero, List.getElem?_cons_succ, Option.some.injEq] at ho
      subst ho
      have l1 : L.getD 1 false = true := HD.out ⟨1, .data⟩ (by simp) rfl
      have g1 := hh.got 1 _ 25 rfl rfl l1 (by simp)
      rw [HI.out.known 1 (by omega) (by omega) (by omega) l1] at g1
      simp [joinK] at g1
      have l3 : L.getD 3 false = true := HD.out ⟨3, .data⟩ (by simp) rfl
      have g3 := hh.got 3 _ 27 rfl rfl l3 (by simp)
      rw [HI.out.known 3 (by omega) (by omega) (by omega) l3] at g3
      simp [joinK] at g3
      clear l1 l3
      go_simp
      exact ⟨_, rfl, HI.out.step 4 (by omega) (by omega) _ _ ((Below.refl _ _).alloc (Nat.le_refl _) _) HLF.out (fun _ h _ => absurd rfl h) (fun _ => ⟨rfl, alloc_new_at _ _ _ rfl⟩) (fun h => by omega) (fun h => by omega) (fun h => by omega) (fun h => by omega) (fun h => by omega)⟩
    · simp only [List.getElem?_cons_zero, List.getElem?_cons_succ, Option.some.injEq] at ho
      subst ho
      have l4 : L.getD 4 false = true := HD.out ⟨4, .data⟩ (by simp) rfl
      have g4 := hh.got 4 _ 28 rfl rfl l4 (by simp)
      obtain ⟨e4, gb⟩ := HI.out.mk4 l4 HLF.out
      generalize hg : vb (val 4) = gg at e4 gb
      rw [e4] at g4
      simp at g4
      have HGB := Lib.hid gb
      clear l4 e4 gb hg
      go_simp
      refine (HC5.out W gg HI.out.bel HGB.out).mono ?_
      rintro e w' ⟨v, rfl, ho, hb⟩
      exact ⟨_, rfl, HI.out.step 5 (by omega) (by omega) _ _ hb HLF.out (fun _ _ h => absurd rfl h) (fun h => by omega) (fun h => by omega) (fun _ => ho) (fun h => by omega) (fun h => by omega) (fun h => by omega)⟩
    · simp only [List.getElem?_cons_zero, List.getElem?_cons_succ, Option.some.injEq] at ho
      subst ho
      have k2 := hh.kept 2 (by simp)
      simp at k2
      go_simp
      exact ⟨_, rfl, HI.out.step 6 (by omega) (by omega) _ _ (Below.refl _ _) HLF.out (fun _ _ _ => rfl) (fun h => by omega) (fun h => by omega) (fun h => by omega) (fun h => by omega) (fun h => by omega) (fun h => by omega)⟩
    · simp only [List.getElem?_cons_zero, List.getElem?_cons_succ, Option.some.injEq] at ho
      subst ho
      have l6 : L.getD 6 false = true := HD.out ⟨6, .data⟩ (by simp) rfl
      have g6 := hh.got 6 _ 30 rfl rfl l6 (by simp)
      rw [HI.out.known 6 (by omega) (by omega) (by omega) l6] at g6
      simp [joinK] at g6
      clear l6
      go_simp
      exact ⟨_, rfl, HI.out.step 7 (by omega) (by omega) _ _ (Below.refl _ _) HLF.out (fun _ _ _ => rfl) (fun h => by omega) (fun h => by omega) (fun h => by omega) (fun h => by omega) (fun h => by omega) (fun h => by omega)⟩
    · simp only [List.getElem?_cons_zero, List.getElem?_cons_succ, Option.some.injEq] at ho
      subst ho
      have k3 := hh.kept 3 (by simp)
      simp at k3
      go_simp
      exact ⟨_, rfl, HI.out.step 8 (by omega) (by omega) _ _ (Below.refl _ _) HLF.out (fun _ _ _ => rfl) (fun h => by omega) (fun h => by omega) (fun h => by omega) (fun h => by omega) (fun h => by omega) (fun h => by omega)⟩
    · simp only [List.getElem?_cons_zero, List.getElem?_cons_succ, Option.some.injEq] at ho
      subst ho
      have l8 : L.getD 8 false = true := HD.out ⟨8, .data⟩ (by simp) rfl
      have g8 := hh.got 8 _ 32 rfl rfl l8 (by simp)
      rw [HI.out.known 8 (by omega) (by omega) (by omega) l8] at g8
      simp [joinK] at g8
      clear l8
      go_simp
      exact ⟨_, rfl, HI.out.step 9 (by omega) (by omega) _ _ (Below.refl _ _) HLF.out (fun _ _ _ => rfl) (fun h => by omega) (fun h => by omega) (fun h => by omega) (fun h => by omega) (fun h => by omega) (fun h => by omega)⟩
    · simp only [List.getElem?_cons_zero, List.getElem?_cons_succ, Option.some.injEq] at ho
      subst ho
      have l7 : L.getD 7 false = true := HD.out ⟨7, .data⟩ (by simp) rfl
      have g7 := hh.got 7 _ 31 rfl rfl l7 (by simp)
      rw [HI.out.known 7 (by omega) (by omega) (by omega) l7] at g7
      simp [joinK] at g7
      have l9 : L.getD 9 false = true := HD.out ⟨9, .data⟩ (by simp) rfl
      have g9 := hh.got 9 _ 33 rfl rfl l9 (by simp)
      rw [HI.out.known 9 (by omega) (by omega) (by omega) l9] at g9
      simp [joinK] at g9
      clear l7 l9
      go_simp
      exact ⟨_, rfl, HI.out.step 10 (by omega) (by omega) _ _ (Below.refl _ _) HLF.out (fun _ _ _ => congrArg (Value.int .i64) ((IntKind.wrap_i64 _).trans HSUM.out)) (fun h => by omega) (fun h => by omega) (fun h => by omega) (fun h => by omega) (fun h => by omega) (fun h => by omega)⟩
    · simp only [List.getElem?_cons_zero, List.getElem?_cons_succ, Option.some.injEq] at ho
      subst ho
      have k2 := hh.kept 2 (by simp)
      simp at k2
      go_simp
      exact ⟨_, rfl, HI.out.step 11 (by omega) (by omega) _ _ (Below.refl _ _) HLF.out (fun _ _ _ => rfl) (fun h => by omega) (fun h => by omega) (fun h => by omega) (fun h => by omega) (fun h => by omega) (fun h => by omega)⟩
    · simp only [List.getElem?_cons_zero, List.getElem?_cons_succ, Option.some.injEq] at ho
      subst ho
      have l11 : L.getD 11 false = true := HD.out ⟨11, .data⟩ (by simp) rfl
      have g11 := hh.got 11 _ 35 rfl rfl l11 (by simp)
      rw [HI.out.known 11 (by omega) (by omega) (by omega) l11] at g11
      simp [joinK] at g11
      clear l11
      go_simp
      exact ⟨_, rfl, HI.out.step 12 (by omega) (by omega) _ _ (Below.refl _ _) HLF.out (fun _ _ _ => rfl) (fun h => by omega) (fun h => by omega) (fun h => by omega) (fun h => by omega) (fun h => by omega) (fun h => by omega)⟩
    · simp only [List.getElem?_cons_zero, List.getElem?_cons_succ, Option.some.injEq] at ho
      subst ho
      have k3 := hh.kept 3 (by simp)
      simp at k3
      go_simp
      exact ⟨_, rfl, HI.out.step 13 (by omega) (by omega) _ _ (Below.refl _ _) HLF.out (fun _ _ _ => rfl) (fun h => by omega) (fun h => by omega) (fun h => by omega) (fun h => by omega) (fun h => by omega) (fun h => by omega)⟩
    · simp only [List.getElem?_cons_zero, List.getElem?_cons_succ, Option.some.injEq] at ho
      subst ho
      have l13 : L.getD 13 false = true := HD.out ⟨13, .data⟩ (by simp) rfl
      have g13 := hh.got 13 _ 37 rfl rfl l13 (by simp)
      rw [HI.out.known 13 (by omega) (by omega) (by omega) l13] at g13
      simp [joinK] at g13
      clear l13
      go_simp
      exact ⟨_, rfl, HI.out.step 14 (by omega) (by omega) _ _ (Below.refl _ _) HLF.out (fun _ _ _ => rfl) (fun h => by omega) (fun h => by omega) (fun h => by omega) (fun h => by omega) (fun h => by omega) (fun h => by omega)⟩
    · simp only [List.getElem?_cons_zero, List.getElem?_cons_succ, Option.some.injEq] at ho
      subst ho
      have l12 : L.getD 12 false = true := HD.out ⟨12, .data⟩ (by simp) rfl
      have g12 := hh.got 12 _ 36 rfl rfl l12 (by simp)
      rw [HI.out.known 12 (by omega) (by omega) (by omega) l12] at g12
      simp [joinK] at g12
      have l14 : L.getD 14 false = true := HD.out ⟨14, .data⟩ (by simp) rfl
      have g14 := hh.got 14 _ 38 rfl rfl l14 (by simp)
      rw [HI.out.known 14 (by omega) (by omega) (by omega) l14] at g14
      simp [joinK] at g14
      clear l12 l14
      go_simp
      exact ⟨_, rfl, HI.out.step 15 (by omega) (by omega) _ _ ((Below.refl _ _).alloc (Nat.le_refl _) _) HLF.out (fun h => by omega) (fun h => by omega) (fun _ => ⟨rfl, alloc_new_at _ _ _ rfl⟩) (fun h => by omega) (fun h => by omega) (fun h => by omega) (fun h => by omega)⟩
    · simp only [List.getElem?_cons_zero, List.getElem?_cons_succ, Option.some.injEq] at ho
      subst ho
      have l15 : L.getD 15 false = true := HD.out ⟨15, .data⟩ (by simp) rfl
      have g15 := hh.got 15 _ 39 rfl rfl l15 (by simp)
      obtain ⟨e4, gb⟩ := HI.out.mk15 l15 HLF.out
      generalize hg : vb (val 15) = gg at e4 gb
      rw [e4] at g15
      simp at g15
      have HGB := Lib.hid gb
      clear l15 e4 gb hg
      go_simp
      refine (HC16.out W gg HI.out.bel HGB.out).mono ?_
      rintro e w' ⟨v, rfl, ho, hb⟩
      exact ⟨_, rfl, HI.out.step 16 (by omega) (by omega) _ _ hb HLF.out (fun h => by omega) (fun h => by omega) (fun h => by omega) (fun h => by omega) (fun _ => ho) (fun h => by omega) (fun h => by omega)⟩
    · simp only [List.getElem?_cons_zero, List.getElem?_cons_succ, Option.some.injEq] at ho
      subst ho
      have l5 : L.getD 5 false = true := HD.out ⟨5, .data⟩ (by simp) rfl
      have g5 := hh.got 5 _ 29 rfl rfl l5 (by simp)
      have l10 : L.getD 10 false = true := HD.out ⟨10, .data⟩ (by simp) rfl
      have g10 := hh.got 10 _ 34 rfl rfl l10 (by simp)
      rw [HI.out.known 10 (by omega) (by omega) (by omega) l10] at g10
      simp [joinK] at g10
      have l16 : L.getD 16 false = true := HD.out ⟨16, .data⟩ (by simp) rfl
      have g16 := hh.got 16 _ 40 rfl rfl l16 (by simp)
      obtain ⟨a5, n5, c5, x5⟩ := own_slice (HI.out.o5 l5)
      obtain ⟨a16, n16, c16, x16⟩ := own_slice (HI.out.o16 l16)
      rw [x5] at g5
      rw [x16] at g16
      simp at g5 g16
      have HL5 := Lib.hid l5
      have HL16 := Lib.hid l16
      have X5 := Lib.hid x5
      have X16 := Lib.hid x16
      clear l5 l10 l16 x5 x16
      go_simp
      exact ⟨_, rfl, HI.out.step 17 (by omega) (by omega) _ _ (Below.refl _ _) HLF.out (fun h => by omega) (fun h => by omega) (fun h => by omega) (fun h => by omega) (fun h => by omega) (fun _ => ⟨by rw [X5.out, X16.out], HL5.out, HL16.out⟩) (fun h => by omega)⟩
    · simp only [List.getElem?_cons_zero, List.getElem?_cons_succ, Option.some.injEq] at ho
      subst ho
      go_simp
      exact ⟨_, rfl, HI.out.step 18 (by omega) (by omega) _ _ ((Below.refl _ _).alloc (Nat.le_refl _) _) HLF.out (fun h => by omega) (fun h => by omega) (fun h => by omega) (fun h => by omega) (fun h => by omega) (fun h => by omega) (fun _ => ⟨rfl, _, _, _, alloc_new_at _ _ _ rfl⟩)⟩
    · simp only [List.getElem?_cons_zero, List.getElem?_cons_succ, Option.some.injEq] at ho
      subst ho
      have l17 : L.getD 17 false = true := HD.out ⟨17, .data⟩ (by simp) rfl
      have g17 := hh.got 17 _ 41 rfl rfl l17 (by simp)
      have l18 : L.getD 18 false = true := HD.out ⟨18, .data⟩ (by simp) rfl
      have g18 := hh.got 18 _ 8 rfl rfl l18 (by simp)
      obtain ⟨e18, _, u', x', v', gb, _⟩ := HI.out.al l18
      generalize hg : vb (val 18) = g at e18 gb
      have e17 := HI.out.bld l17
      obtain ⟨a5, n5, c5, x5⟩ := own_slice (HI.out.o5 (HI.out.d17 l17).1)
      obtain ⟨a16, n16, c16, x16⟩ := own_slice (HI.out.o16 (HI.out.d17 l17).2)
      rw [e17, x5, x16] at g17
      simp at g17
      rw [e18] at g18
      simp at g18
      obtain ⟨_, _, _, _, _, _⟩ := cells3f gb
      have hlg : g < W.heap.size := lt_of_block gb
      have HL17 := Lib.hid l17
      have HL18 := Lib.hid l18
      have HE18 := Lib.hid e18
      have X5 := Lib.hid x5
      have X16 := Lib.hid x16
      clear l17 l18 e17 e18 gb hg x5 x16
      go_simp
      have hf := HI.out.fill (by omega) g HE18.out HL17.out HL18.out
      rw [X5.out, X16.out] at hf
      exact ⟨undef, hf⟩

end Go.Proofs.Ytgbcdebnanejpaa.Rn
