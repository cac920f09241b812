/- Drawn regions whose operations make memory of their own: what each made, apart from what the others made. Over any program. -/
import Derived.Test.YtgbcdebnanejpaaN6
import Derived.Test.YtgbcdebnanejpaaN1
import Derived.OwnWalkIn
namespace Go.Proofs.Ytgbcdebnanejpaa
set_option linter.unusedVariables false
open Go Go.RowKit

theorem gdD {L : Array Bool} {i j : Nat} (h : j ≠ i) : (L.setIfInBounds i true).getD j false = L.getD j false := getD_set_ne3 (fun e => h e.symm)
/-- What the operations of a region have left so far: kn: their values are known beforehand; mk: they make memory, of which C says what it holds, between two numbers of blocks. -/
structure MkR (kn mk : Nat → Bool) (C : Nat → Value → Nat → Nat → World → Prop) (KB : Nat → Value) (W0 : World) (L : Array Bool) (val : Nat → Value) (W : World) : Prop where
  bel : Below W0.heap.size W0 W
  known : ∀ j, kn j = true → L.getD j false = true → val j = KB j
  iv : ∃ lo hi : Nat → Nat, (∀ j, mk j = true → L.getD j false = true → W0.heap.size ≤ lo j ∧ hi j ≤ W.heap.size ∧ C j (val j) (lo j) (hi j) W) ∧
    ∀ i j, i ≠ j → mk i = true → mk j = true → L.getD i false = true → L.getD j false = true → hi i ≤ lo j ∨ hi j ≤ lo i
section
variable {kn mk : Nat → Bool} {C : Nat → Value → Nat → Nat → World → Prop} {KB : Nat → Value} {W0 W W' : World} {L : Array Bool} {val : Nat → Value}
theorem MkR.init (N : Nat) : MkR kn mk C KB W0 (Array.replicate N false) (fun _ => undef) { W0 with drawn := W0.drawn + 1 } := by
  have e : ∀ j : Nat, (Array.replicate N false).getD j false = false := fun j => by simp [Array.getD_eq_getD_getElem?, Array.getElem?_replicate]; split <;> rfl
  exact ⟨⟨rfl, rfl, rfl, Nat.le_refl _, fun _ _ => rfl⟩, fun j _ h => (by rw [e j] at h; cases h), fun _ => 0, fun _ => 0, fun j _ h => (by rw [e j] at h; cases h), fun i j _ _ _ h => (by rw [e i] at h; cases h)⟩
/-- An operation that makes nothing that counts. -/
theorem MkR.skip (h : MkR kn mk C KB W0 L val W) (hC : ∀ j u lo hi A A', C j u lo hi A → (∀ b, lo ≤ b → b < hi → A'.heap[b]? = A.heap[b]?) → C j u lo hi A') (i : Nat) (hm : mk i = false) (u : Value) (hu : kn i = true → u = KB i) (hb : Below W.heap.size W W') :
    MkR kn mk C KB W0 (L.setIfInBounds i true) (setV val i u) W' := by
  obtain ⟨lo, hi, h1, h2⟩ := h.iv
  have hz := h.bel.size
  refine ⟨h.bel.trans (hb.mono hz), fun j hj hl => ?_, lo, hi, fun j hj hl => ?_, fun a b hab ha hb' hla hlb => ?_⟩
  · by_cases e : j = i
    · subst e; rw [setV_eq]; exact hu hj
    · rw [setV_ne e]; rw [gdD e] at hl; exact h.known j hj hl
  · have e : j ≠ i := fun e => by rw [e, hm] at hj; cases hj
    rw [gdD e] at hl
    obtain ⟨a1, a2, a3⟩ := h1 j hj hl
    rw [setV_ne e]
    exact ⟨a1, by have := hb.size; omega, hC _ _ _ _ _ _ a3 fun b _ hb' => hb.block b (by omega)⟩
  · have ea : a ≠ i := fun e => by rw [e, hm] at ha; cases ha
    have eb : b ≠ i := fun e => by rw [e, hm] at hb'; cases hb'
    rw [gdD ea] at hla
    rw [gdD eb] at hlb
    exact h2 a b hab ha hb' hla hlb
/-- An operation that makes memory. -/
theorem MkR.make (h : MkR kn mk C KB W0 L val W) (hC : ∀ j u lo hi A A', C j u lo hi A → (∀ b, lo ≤ b → b < hi → A'.heap[b]? = A.heap[b]?) → C j u lo hi A') (i : Nat) (hk : kn i = false) (u : Value) (hb : Below W.heap.size W W') (hc : C i u W.heap.size W'.heap.size W') :
    MkR kn mk C KB W0 (L.setIfInBounds i true) (setV val i u) W' := by
  obtain ⟨lo, hi, h1, h2⟩ := h.iv
  have hz := h.bel.size
  have hs := hb.size
  have old : ∀ j, j ≠ i → mk j = true → (L.setIfInBounds i true).getD j false = true → W0.heap.size ≤ lo j ∧ hi j ≤ W.heap.size ∧ C j (val j) (lo j) (hi j) W := fun j e hj hl => by
    rw [gdD e] at hl; exact h1 j hj hl
  refine ⟨h.bel.trans (hb.mono hz), fun j hj hl => ?_, fun j => if j = i then W.heap.size else lo j, fun j => if j = i then W'.heap.size else hi j, fun j hj hl => ?_, fun a b hab ha hb' hla hlb => ?_⟩
  · have e : j ≠ i := fun e => by rw [e, hk] at hj; cases hj
    rw [setV_ne e]; rw [gdD e] at hl; exact h.known j hj hl
  · by_cases e : j = i
    · subst e; simp only [setV_eq]; exact ⟨hz, Nat.le_refl _, hc⟩
    · simp only [if_neg e, setV_ne e]
      obtain ⟨a1, a2, a3⟩ := old j e hj hl
      exact ⟨a1, by omega, hC _ _ _ _ _ _ a3 fun b _ hb' => hb.block b (by omega)⟩
  · by_cases ea : a = i
    · have eb : b ≠ i := fun e => hab (by rw [ea, e])
      simp only [if_pos ea, if_neg eb]
      exact .inr (old b eb hb' hlb).2.1
    · by_cases eb : b = i
      · simp only [if_pos eb, if_neg ea]
        exact .inl (old a ea ha hla).2.1
      · simp only [if_neg ea, if_neg eb]
        rw [gdD ea] at hla
        rw [gdD eb] at hlb
        exact h2 a b hab ha hb' hla hlb
end
end Go.Proofs.Ytgbcdebnanejpaa
namespace Go.Proofs.Ytgbcdebnanejpaa.Bg
set_option linter.unusedVariables false
open Go.RowKit Go.Shelf

def prmV (p : Prm) : List Value := [.int .i64 p.lk, .int .i64 p.lv, .int .i64 p.bi, .int .i64 p.th, .int .i64 p.rk, .int .i64 p.rs, .int .i64 p.fl, .int .i64 p.re]
def prmCs (l : List Prm) : List Value := l.flatMap prmV
theorem prmCs_length (l : List Prm) : (prmCs l).length = l.length * 8 := by
  induction l with
  | nil => rfl
  | cons s l ih => simp [prmCs, prmV] at *; omega
theorem prmCs_append (l m : List Prm) : prmCs (l ++ m) = prmCs l ++ prmCs m := by simp [prmCs]
theorem prmCs_one (p : Prm) : prmCs [p] = prmV p := by simp [prmCs]
theorem prmCs_get : ∀ (l : List Prm) (i c : Nat) (s : Prm), c < 8 → l[i]? = some s → (prmCs l)[i * 8 + c]? = (prmV s)[c]?
  | [], i, c, r, _, h => by simp at h
  | x :: rs, 0, c, r, hc, h => by
    simp at h; subst h
    rw [prmCs, List.flatMap_cons, List.getElem?_append_left (by simp [prmV]; omega)]
    simp
  | x :: rs, i + 1, c, r, hc, h => by
    rw [prmCs, List.flatMap_cons, List.getElem?_append_right (by simp [prmV]; omega)]
    have := prmCs_get rs i c r hc (by simpa using h)
    rw [← this, prmCs]
    congr 1
    simp [prmV]; omega
theorem prmV_one {u : Value} {l : List Prm} (h : u ∈ prmCs l) : u.oneCell' = true := by
  obtain ⟨s, _, hs⟩ := List.mem_flatMap.1 h
  simp [prmV] at hs
  rcases hs with rfl | rfl | rfl | rfl | rfl | rfl | rfl | rfl <;> rfl
theorem psAt_of_owns {W : World} {base : Nat} {v : Value} {l : List Prm} (h : W.ownsRow base 39 8 v l.length (prmCs l)) : PsAt W v l := by
  rcases h.2 with ⟨rfl, h0⟩ | ⟨g, cap, cur, rfl, hb, hg, _, _, _, ht⟩
  · exact Or.inl ⟨rfl, List.eq_nil_of_length_eq_zero h0⟩
  · refine Or.inr ⟨g, 0, cap, rfl, (Array.getElem?_eq_some_iff.1 hg).1, fun k r hk => ?_⟩
    have key : ∀ c u, c < 8 → (prmV r)[c]? = some u → W.cell? ⟨g, 0 + k * 8 + c, none⟩ = some u := fun c u hc hu => by
      have h1 := h.cells (g := g) rfl (k * 8 + c) u (by rw [prmCs_get l k c r hc hk]; exact hu)
      have hadd : (⟨g, 0, none⟩ : Addr).add (k * 8 + c) = ⟨g, k * 8 + c, none⟩ := by unfold Addr.add; split <;> simp_all
      rw [hadd] at h1
      rw [show 0 + k * 8 + c = k * 8 + c by omega]; exact h1
    exact ⟨key 0 _ (by omega) rfl, key 1 _ (by omega) rfl, key 2 _ (by omega) rfl, key 3 _ (by omega) rfl, key 4 _ (by omega) rfl, key 5 _ (by omega) rfl, key 6 _ (by omega) rfl, key 7 _ (by omega) rfl⟩
theorem prmCs_cell {W : World} {b off : Nat} {l : List Prm} (h : ∀ k s, l[k]? = some s → PrmCells W b (off + k * 8) s) : ∀ (j : Nat) u, (prmCs l)[j]? = some u → W.cell? ⟨b, off + j, none⟩ = some u := fun j u hu => by
  have hj : j < l.length * 8 := by rw [← prmCs_length]; exact (List.getElem?_eq_some_iff.1 hu).1
  obtain ⟨s, hs⟩ : ∃ s, l[j / 8]? = some s := ⟨_, List.getElem?_eq_getElem (by omega)⟩
  have h1 := prmCs_get l (j / 8) (j % 8) s (by omega) hs
  rw [show j / 8 * 8 + j % 8 = j by omega, hu] at h1
  obtain ⟨c0, c1, c2, c3, c4, c5, c6, c7⟩ := h _ _ hs
  have hq : j = j / 8 * 8 + j % 8 := by omega
  have hm : j % 8 = 0 ∨ j % 8 = 1 ∨ j % 8 = 2 ∨ j % 8 = 3 ∨ j % 8 = 4 ∨ j % 8 = 5 ∨ j % 8 = 6 ∨ j % 8 = 7 := by omega
  rcases hm with e | e | e | e | e | e | e | e <;> rw [e] at h1 hq <;> simp [prmV] at h1 <;> subst h1 <;> rw [hq]
  · exact c0
  · rw [← Nat.add_assoc]; exact c1
  · rw [← Nat.add_assoc]; exact c2
  · rw [← Nat.add_assoc]; exact c3
  · rw [← Nat.add_assoc]; exact c4
  · rw [← Nat.add_assoc]; exact c5
  · rw [← Nat.add_assoc]; exact c6
  · rw [← Nat.add_assoc]; exact c7

theorem infoP : (Try.prog.info? 39).map (fun i => (i.zero, i.size, i.bytes)) = some (some (.agg #[.int .i64 0, .int .i64 0, .int .i64 0, .int .i64 0, .int .i64 0, .int .i64 0, .int .i64 0, .int .i64 0]), 8, 64) := by kernel_rfl
theorem infoS : (Try.prog.info? 98).map (fun i => (i.zero, i.size, i.bytes)) = some (some (.agg #[.int .i64 0, .int .i64 0]), 2, 16) := by kernel_rfl
/-- What Clone leaves. -/
def Cloned (ps : List Prm) (w : World) (e : Ending) (w' : World) : Prop :=
  ∃ v, e = .returned v ∧ w'.ownsRow w.heap.size 39 8 v ps.length (prmCs ps) ∧ Below w.heap.size w w'
set_option maxHeartbeats 1000000 in
set_option maxRecDepth 100000 in
theorem clone_any (a : Option Addr) (cap : Nat) (ps : List Prm) (hl : ps.length ≤ 100000) (w : World) (hS : PsAt w (.slice a ps.length cap) ps) :
    Calls Try.prog 85 #[.slice a ps.length cap] w (Cloned ps w) := by
  obtain ⟨i0, hi, hz0, hzz1, hzz2⟩ := info_parts infoP
  obtain ⟨n, hn⟩ : ∃ n, n = ps.length := ⟨_, rfl⟩
  rw [← hn] at hl hS ⊢
  have HL := Lib.hid hn
  rcases hS with ⟨h1, rfl⟩ | ⟨b, off, c', h1, hbl, hc⟩
  · obtain ⟨rfl, rfl, rfl⟩ : a = none ∧ n = 0 ∧ cap = 0 := by cases h1; exact ⟨rfl, rfl, rfl⟩
    have heq : ∀ W, (binOp .eql 22 (.slice none 0 0) (.slice none 0 0)).run Try.prog W = .ok (.bool true) W := fun W => by
      simp [binOp, run_equal_slice_nil W 22 39 _ _ _ Try.underlying22]
    clear hn h1
    go_enter Try.func85, Try.ntmps85
    go_wp2
    go_ret
    exact ⟨_, rfl, ⟨rfl, .inl ⟨rfl, rfl⟩⟩, Below.refl _ _⟩
  · obtain ⟨rfl, rfl⟩ : a = some ⟨b, off, none⟩ ∧ cap = c' := by cases h1; exact ⟨rfl, rfl⟩
    have hnews : ∀ (j : Nat) u, (prmCs ps)[j]? = some u → (w.alloc (.cells #[] 39)).cell? ((⟨b, off, none⟩ : Addr).add j) = some u := fun j u hu => by
      rw [show (⟨b, off, none⟩ : Addr).add j = ⟨b, off + j, none⟩ by unfold Addr.add; split <;> simp_all]
      rw [World.cell?_of_block (w := w) (Below.heap_alloc _ _ _ hbl)]
      exact prmCs_cell hc j u hu
    have hone : ∀ u ∈ prmCs ps, u.oneCell' = true := fun u hu => prmV_one hu
    have hown : (w.alloc (.cells #[] 39)).ownsRow w.heap.size 39 8 (.slice (some ⟨w.heap.size, 0, none⟩) 0 0) 0 [] :=
      ⟨rfl, .inr ⟨w.heap.size, 0, #[], rfl, Nat.le_refl _, alloc_new_at _ _ _ rfl, Nat.le_refl _, by unfold maxLen; omega, rfl, rfl⟩⟩
    have hlen : (prmCs ps).length = n * 8 := by rw [prmCs_length, hn]
    have HN := Lib.hid hnews
    have HO := Lib.hid hown
    have HE := Lib.hid hone
    have HC := Lib.hid hlen
    clear hnews hown hc hone hn h1 hlen
    have heq : ∀ W, (binOp .eql 22 (.slice (some ⟨b, off, none⟩) n cap) (.slice none 0 0)).run Try.prog W = .ok (.bool false) W := fun W => by
      simp [binOp, run_equal_slice_nil W 22 39 _ _ _ Try.underlying22]
    go_enter Try.func85, Try.ntmps85
    go_wp2_with (at_builtin; refine wpList_append_own _ rfl _ _ 22 rfl w.heap.size 39 i0 (.agg #[.int .i64 0, .int .i64 0, .int .i64 0, .int .i64 0, .int .i64 0, .int .i64 0, .int .i64 0, .int .i64 0]) 8 64 Try.underlying22 hi hz0 hzz1 hzz2 rfl (by decide) (.slice (some ⟨w.heap.size, 0, none⟩) 0 0) 0 _ rfl HO.out ⟨b, off, none⟩ n cap (prmCs ps) rfl HC.out HN.out HE.out (by unfold maxLen; omega) (by omega) (by simp) ?_; intro v' w3 hown' hgrow _; have HO' := Lib.hid hown'; have HG := Lib.hid hgrow; clear hown' hgrow)
    go_ret
    have h1 := HO'.out
    have h2 := HG.out
    have hs := h2.size
    rw [World.size_alloc] at hs
    have hb : Below w.heap.size w w3 := ⟨h2.os, h2.tape, h2.output, by omega, fun k hk => by
      rw [h2.block k (by rw [World.size_alloc]; omega) (fun e => by simp [Value.ownBlock] at e; omega), Below.heap_alloc _ _ _ (by omega)]⟩
    refine ⟨v', rfl, ?_, hb⟩
    rw [← HL.out]
    simpa using h1
theorem make_states (n : Nat) (hn : n ≤ 100000) (W : World) :
    (Instr.makeSlice 61 (.int .i64 (n : Int)) (.int .i64 (n : Int))).run Try.prog W = .ok (.slice (some ⟨W.heap.size, 0, none⟩) n n) (W.alloc (.cells (stC (List.replicate n (0, 0))).toArray 98)) := by
  obtain ⟨i, h1, h2, h3, h4⟩ := info_parts infoS
  have hr := run_make (P := Try.prog) W 61 98 i (.agg #[.int .i64 0, .int .i64 0]) Try.underlying61 h1 h2 .i64 .i64 n n (by omega) (by omega) (by rw [h4]; omega) (by omega)
  rw [hr, h3]
  have e : madeCells (Value.agg #[.int .i64 0, .int .i64 0]).cells ((n : Int).toNat * 2) = (stC (List.replicate n (0, 0))).toArray := by
    apply Array.ext
    · simp [madeCells, stC_length]
    · intro j h1 h2
      have hj : j < n * 2 := by simpa [stC_length] using h2
      have hq : j = j / 2 * 2 + j % 2 := by omega
      have h0 : (List.replicate n ((0 : Int), (0 : Int)))[j / 2]? = some (0, 0) := by rw [List.getElem?_replicate, if_pos (by omega)]
      obtain ⟨c0, c1⟩ := stC_at (List.replicate n ((0 : Int), (0 : Int))) (j / 2) (0, 0) h0
      have hm : j % 2 = 0 ∨ j % 2 = 1 := by omega
      have e2 : (stC (List.replicate n ((0 : Int), (0 : Int))))[j]? = some (.int .i64 0) := by
        rcases hm with e | e <;> rw [hq, e]
        · simpa using c0
        · simpa using c1
      have e3 : (madeCells (Value.agg #[.int .i64 0, .int .i64 0]).cells ((n : Int).toNat * 2))[j]? = some (.int .i64 0) := by
        rcases hm with e | e <;> simp [madeCells, Value.cells, hj, e]
      rw [Array.getElem?_eq_getElem h1] at e3
      rw [List.getElem?_eq_getElem (by simpa using h2)] at e2
      simp at e2 e3
      simp [e2, e3]
  rw [e]
  simp
theorem make_row (n : Nat) (hn : n ≤ 10000) (W : World) :
    (Instr.makeSlice 44 (.int .i64 (n : Int)) (.int .i64 (n : Int))).run Try.prog W = .ok (.slice (some ⟨W.heap.size, 0, none⟩) n n) (W.alloc (.cells (rowC n fun _ => 0).toArray 3)) := by
  obtain ⟨i, h1, h2, h3, h4⟩ := info_parts Try.info3
  have hr := run_make (P := Try.prog) W 44 3 i (.int .i64 0) Try.underlying44 h1 h2 .i64 .i64 n n (by omega) (by omega) (by rw [h4]; omega) (by omega)
  rw [hr, h3]
  have e : madeCells (Value.int .i64 0).cells ((n : Int).toNat * 1) = (rowC n fun _ => 0).toArray := by
    apply Array.toList_inj.1
    rw [Int.toNat_natCast, Nat.mul_one, show (Value.int .i64 0).cells = #[.int .i64 0] from rfl, toList_madeCells_one]
    simp [rowC, List.map_const']
  rw [e]
  simp
end Go.Proofs.Ytgbcdebnanejpaa.Bg
namespace Go.Proofs.Ytgbcdebnanejpaa.Bg
set_option linter.unusedVariables false
open Go.RowKit Go.Shelf

def ringC (B n i : Nat) : List Value := (List.range 16).map fun d => if d < i then .slice (some ⟨B + d, 0, none⟩) n n else .slice none 0 0
def ringV (B n : Nat) : Array Value := #[.slice (some ⟨B, 0, none⟩) n n, .slice (some ⟨B + 1, 0, none⟩) n n, .slice (some ⟨B + 2, 0, none⟩) n n, .slice (some ⟨B + 3, 0, none⟩) n n, .slice (some ⟨B + 4, 0, none⟩) n n, .slice (some ⟨B + 5, 0, none⟩) n n, .slice (some ⟨B + 6, 0, none⟩) n n, .slice (some ⟨B + 7, 0, none⟩) n n, .slice (some ⟨B + 8, 0, none⟩) n n, .slice (some ⟨B + 9, 0, none⟩) n n, .slice (some ⟨B + 10, 0, none⟩) n n, .slice (some ⟨B + 11, 0, none⟩) n n, .slice (some ⟨B + 12, 0, none⟩) n n, .slice (some ⟨B + 13, 0, none⟩) n n, .slice (some ⟨B + 14, 0, none⟩) n n, .slice (some ⟨B + 15, 0, none⟩) n n]
theorem ringC_all (B n : Nat) : (ringC B n 16).toArray = ringV B n := by simp [ringC, ringV, List.range_succ]
theorem ringC_zero (B n : Nat) : (ringC B n 0).toArray = #[.slice none 0 0, .slice none 0 0, .slice none 0 0, .slice none 0 0, .slice none 0 0, .slice none 0 0, .slice none 0 0, .slice none 0 0, .slice none 0 0, .slice none 0 0, .slice none 0 0, .slice none 0 0, .slice none 0 0, .slice none 0 0, .slice none 0 0, .slice none 0 0] := by simp [ringC, List.range_succ]
theorem ringC_set (B n i : Nat) : (ringC B n i).set i (.slice (some ⟨B + i, 0, none⟩) n n) = ringC B n (i + 1) := by
  apply List.ext_getElem
  · simp [ringC]
  · intro j h1 h2
    simp only [ringC, List.getElem_set, List.getElem_map, List.getElem_range]
    by_cases e : i = j
    · subst e; rw [if_pos rfl, if_pos (by omega)]
    · rw [if_neg e]
      by_cases q : j < i
      · rw [if_pos q, if_pos (by omega)]
      · rw [if_neg q, if_neg (by omega)]
theorem cells16 {W : World} {b : Nat} {v0 v1 v2 v3 v4 v5 v6 v7 v8 v9 v10 v11 v12 v13 v14 v15 : Value} {t : TypeId} (h : W.heap[b]? = some (.cells #[v0, v1, v2, v3, v4, v5, v6, v7, v8, v9, v10, v11, v12, v13, v14, v15] t)) : W.cell? ⟨b, 0, none⟩ = some v0 ∧ W.cell? ⟨b, 1, none⟩ = some v1 ∧ W.cell? ⟨b, 2, none⟩ = some v2 ∧ W.cell? ⟨b, 3, none⟩ = some v3 ∧ W.cell? ⟨b, 4, none⟩ = some v4 ∧ W.cell? ⟨b, 5, none⟩ = some v5 ∧ W.cell? ⟨b, 6, none⟩ = some v6 ∧ W.cell? ⟨b, 7, none⟩ = some v7 ∧ W.cell? ⟨b, 8, none⟩ = some v8 ∧ W.cell? ⟨b, 9, none⟩ = some v9 ∧ W.cell? ⟨b, 10, none⟩ = some v10 ∧ W.cell? ⟨b, 11, none⟩ = some v11 ∧ W.cell? ⟨b, 12, none⟩ = some v12 ∧ W.cell? ⟨b, 13, none⟩ = some v13 ∧ W.cell? ⟨b, 14, none⟩ = some v14 ∧ W.cell? ⟨b, 15, none⟩ = some v15 := by
  simp [World.cell?, h]
theorem frozen16 {W : World} {b : Nat} {c : Array Value} {t : TypeId} (h : W.heap[b]? = some (.cells c t)) (o : Nat) : W.frozen? ⟨b, o, none⟩ = false := by
  simp [World.frozen?, h]
def RingOut (n : Nat) (w : World) (e : Ending) (w' : World) : Prop :=
  ∃ B, w.heap.size ≤ B ∧ B + 16 ≤ w'.heap.size ∧ e = .returned (.agg (ringV B n)) ∧ (∀ d, d < 16 → RowAt w' (B + d) n fun _ => 0) ∧ Below w.heap.size w w'
/-- What the loop of newRing finds. -/
structure RgR (n : Nat) (w : World) (i : Nat) (A : World) : Prop where
  b0 : A.heap[w.heap.size]? = some (.cells #[.slice none 0 0, .slice none 0 0, .slice none 0 0, .slice none 0 0, .slice none 0 0, .slice none 0 0, .slice none 0 0, .slice none 0 0, .slice none 0 0, .slice none 0 0, .slice none 0 0, .slice none 0 0, .slice none 0 0, .slice none 0 0, .slice none 0 0, .slice none 0 0] 102)
  b1 : A.heap[w.heap.size + 1]? = some (.cells (ringC (w.heap.size + 2) n i).toArray 102)
  sz : A.heap.size = w.heap.size + 2 + i
  rows : ∀ d, d < i → RowAt A (w.heap.size + 2 + d) n fun _ => 0
  bel : Below w.heap.size w A
theorem RgR.step {n : Nat} {w : World} {i : Nat} {A : World} (h : RgR n w i A) (hi : i < 16) : RgR n w (i + 1) ((A.setCell ⟨w.heap.size + 1, i, none⟩ (.slice (some ⟨A.heap.size, 0, none⟩) n n)).alloc (.cells (rowC n fun _ => 0).toArray 3)) := by
  have hs := h.sz
  have hz : (A.setCell ⟨w.heap.size + 1, i, none⟩ (.slice (some ⟨A.heap.size, 0, none⟩) n n)).heap.size = A.heap.size := by simp
  have e : ∀ b, b < A.heap.size → b ≠ w.heap.size + 1 → ((A.setCell ⟨w.heap.size + 1, i, none⟩ (.slice (some ⟨A.heap.size, 0, none⟩) n n)).alloc (.cells (rowC n fun _ => 0).toArray 3)).heap[b]? = A.heap[b]? := fun b h1 h2 => by
    rw [Below.heap_alloc _ _ _ (by rw [hz]; exact h1), Below.heap_setCell _ _ _ _ (by exact h2)]
  refine ⟨(e _ (by omega) (by omega)).trans h.b0, ?_, by rw [World.size_alloc, hz]; omega, fun d hd => ?_, (h.bel.setCell (p := ⟨w.heap.size + 1, i, none⟩) (by show w.heap.size ≤ w.heap.size + 1; omega) _).alloc (by rw [hz]; omega) _⟩
  · rw [Below.heap_alloc _ _ _ (by rw [hz]; omega)]
    rw [← ringC_set (w.heap.size + 2) n i, show w.heap.size + 2 + i = A.heap.size from hs.symm]
    simp only [World.setCell, Array.getElem?_modify, if_pos, h.b1]
    simp
  · by_cases q : d < i
    · exact (e _ (by omega) (by omega)).trans (h.rows d q)
    · obtain rfl : d = i := by omega
      unfold RowAt
      exact alloc_new_at _ _ _ (by rw [hz]; exact hs.symm)

theorem setCells_all {b : Nat} {t : TypeId} : ∀ (vs pre old : List Value) (W : World), vs.length = old.length → W.heap[b]? = some (.cells (pre ++ old).toArray t) → (W.setCells b pre.length vs).heap[b]? = some (.cells (pre ++ vs).toArray t)
  | [], pre, old, W, hl, h => by
    obtain rfl : old = [] := List.eq_nil_of_length_eq_zero hl.symm
    exact h
  | v :: vs, pre, [], W, hl, h => by simp at hl
  | v :: vs, pre, o :: old, W, hl, h => by
    have h1 : (W.setCell ⟨b, pre.length, none⟩ v).heap[b]? = some (.cells ((pre ++ [v]) ++ old).toArray t) := by
      simp [World.setCell, Array.getElem?_modify, h]
    have h2 := setCells_all vs (pre ++ [v]) old _ (by simpa using hl) h1
    rw [List.length_append] at h2
    show ((W.setCell ⟨b, pre.length, none⟩ v).setCells b (pre.length + 1) vs).heap[b]? = _
    rw [show pre ++ v :: vs = (pre ++ [v]) ++ vs by simp]
    exact h2
set_option maxRecDepth 100000 in
set_option maxHeartbeats 4000000 in
theorem newRing_any (n : Nat) (hn : n ≤ 1024) (w : World) : Calls Try.prog 92 #[.int .i64 (n : Int)] w (RingOut n w) := by
  have hmk := make_row n (by omega)
  have hn0 : (0 : Int) ≤ (n : Int) := Int.natCast_nonneg _
  go_enter Try.func92, Try.ntmps92
  go_wp2
  have h0 : RgR n w 0 ((w.alloc (.cells #[.slice none 0 0, .slice none 0 0, .slice none 0 0, .slice none 0 0, .slice none 0 0, .slice none 0 0, .slice none 0 0, .slice none 0 0, .slice none 0 0, .slice none 0 0, .slice none 0 0, .slice none 0 0, .slice none 0 0, .slice none 0 0, .slice none 0 0, .slice none 0 0] 102)).alloc (.cells #[.slice none 0 0, .slice none 0 0, .slice none 0 0, .slice none 0 0, .slice none 0 0, .slice none 0 0, .slice none 0 0, .slice none 0 0, .slice none 0 0, .slice none 0 0, .slice none 0 0, .slice none 0 0, .slice none 0 0, .slice none 0 0, .slice none 0 0, .slice none 0 0] 102)) :=
    ⟨by rw [Below.heap_alloc _ _ _ (by simp)]; exact alloc_new_at _ _ _ rfl, by rw [ringC_zero]; exact alloc_new_at _ _ _ (by simp), by simp, fun d hd => by omega, ((Below.refl _ _).alloc (Nat.le_refl _) _).alloc (by simp) _⟩
  have H0 := Lib.hid h0
  clear h0
  go_loopw [5] (fun s wr => ∃ i : Nat, i ≤ 16 ∧ s = .int .i64 i ∧ RgR n w i wr) (fun s _ => 16 - (intOf s).toNat)
  case atStart => exact ⟨0, Nat.zero_le _, rfl, H0.out⟩
  case round =>
    obtain ⟨i, hi, rfl, hI⟩ := hrel
    have hi0 : (0 : Int) ≤ (i : Int) := Int.natCast_nonneg _
    have HI := Lib.hid hI
    have hsz := hI.sz
    by_cases hlt : i < 16
    · have hi1 : (i : Int) < 16 := by omega
      have hcl : wr.cell? ⟨w.heap.size + 1, i, none⟩ = some (.slice none 0 0) := by
        simp [World.cell?, hI.b1, ringC, hlt]
      have hfr := frozen16 hI.b1 i
      have hzr : w.heap.size + 1 < wr.heap.size := by omega
      have HZ := Lib.hid hsz
      clear hI hsz
      go_wp2
      go_roundw
      case rel => exact ⟨i + 1, hlt, by go_num, HI.out.step hlt⟩
      case measure => simp [intOf]; omega
    · obtain rfl : i = 16 := by omega
      have h1 := hI.b1
      rw [ringC_all] at h1
      unfold ringV at h1
      obtain ⟨_, _, _, _, _, _, _, _, _, _, _, _, _, _, _, _⟩ := cells16 h1
      obtain ⟨_, _, _, _, _, _, _, _, _, _, _, _, _, _, _, _⟩ := cells16 hI.b0
      have f0 := fun o => frozen16 hI.b0 o
      have hzr : w.heap.size + 1 < wr.heap.size := by omega
      have HZ := Lib.hid hsz
      have hfin : (wr.setCells w.heap.size 0 [.slice (some ⟨w.heap.size + 2, 0, none⟩) n n, .slice (some ⟨w.heap.size + 2 + 1, 0, none⟩) n n, .slice (some ⟨w.heap.size + 2 + 2, 0, none⟩) n n, .slice (some ⟨w.heap.size + 2 + 3, 0, none⟩) n n, .slice (some ⟨w.heap.size + 2 + 4, 0, none⟩) n n, .slice (some ⟨w.heap.size + 2 + 5, 0, none⟩) n n, .slice (some ⟨w.heap.size + 2 + 6, 0, none⟩) n n, .slice (some ⟨w.heap.size + 2 + 7, 0, none⟩) n n, .slice (some ⟨w.heap.size + 2 + 8, 0, none⟩) n n, .slice (some ⟨w.heap.size + 2 + 9, 0, none⟩) n n, .slice (some ⟨w.heap.size + 2 + 10, 0, none⟩) n n, .slice (some ⟨w.heap.size + 2 + 11, 0, none⟩) n n, .slice (some ⟨w.heap.size + 2 + 12, 0, none⟩) n n, .slice (some ⟨w.heap.size + 2 + 13, 0, none⟩) n n, .slice (some ⟨w.heap.size + 2 + 14, 0, none⟩) n n, .slice (some ⟨w.heap.size + 2 + 15, 0, none⟩) n n]).heap[w.heap.size]? = some (.cells (ringV (w.heap.size + 2) n) 102) := setCells_all _ [] [.slice none 0 0, .slice none 0 0, .slice none 0 0, .slice none 0 0, .slice none 0 0, .slice none 0 0, .slice none 0 0, .slice none 0 0, .slice none 0 0, .slice none 0 0, .slice none 0 0, .slice none 0 0, .slice none 0 0, .slice none 0 0, .slice none 0 0, .slice none 0 0] wr rfl hI.b0
      have hoth := fun b (hb : b ≠ w.heap.size) => setCells_other w.heap.size [.slice (some ⟨w.heap.size + 2, 0, none⟩) n n, .slice (some ⟨w.heap.size + 2 + 1, 0, none⟩) n n, .slice (some ⟨w.heap.size + 2 + 2, 0, none⟩) n n, .slice (some ⟨w.heap.size + 2 + 3, 0, none⟩) n n, .slice (some ⟨w.heap.size + 2 + 4, 0, none⟩) n n, .slice (some ⟨w.heap.size + 2 + 5, 0, none⟩) n n, .slice (some ⟨w.heap.size + 2 + 6, 0, none⟩) n n, .slice (some ⟨w.heap.size + 2 + 7, 0, none⟩) n n, .slice (some ⟨w.heap.size + 2 + 8, 0, none⟩) n n, .slice (some ⟨w.heap.size + 2 + 9, 0, none⟩) n n, .slice (some ⟨w.heap.size + 2 + 10, 0, none⟩) n n, .slice (some ⟨w.heap.size + 2 + 11, 0, none⟩) n n, .slice (some ⟨w.heap.size + 2 + 12, 0, none⟩) n n, .slice (some ⟨w.heap.size + 2 + 13, 0, none⟩) n n, .slice (some ⟨w.heap.size + 2 + 14, 0, none⟩) n n, .slice (some ⟨w.heap.size + 2 + 15, 0, none⟩) n n] 0 wr b hb
      have hrest := setCells_rest w.heap.size [.slice (some ⟨w.heap.size + 2, 0, none⟩) n n, .slice (some ⟨w.heap.size + 2 + 1, 0, none⟩) n n, .slice (some ⟨w.heap.size + 2 + 2, 0, none⟩) n n, .slice (some ⟨w.heap.size + 2 + 3, 0, none⟩) n n, .slice (some ⟨w.heap.size + 2 + 4, 0, none⟩) n n, .slice (some ⟨w.heap.size + 2 + 5, 0, none⟩) n n, .slice (some ⟨w.heap.size + 2 + 6, 0, none⟩) n n, .slice (some ⟨w.heap.size + 2 + 7, 0, none⟩) n n, .slice (some ⟨w.heap.size + 2 + 8, 0, none⟩) n n, .slice (some ⟨w.heap.size + 2 + 9, 0, none⟩) n n, .slice (some ⟨w.heap.size + 2 + 10, 0, none⟩) n n, .slice (some ⟨w.heap.size + 2 + 11, 0, none⟩) n n, .slice (some ⟨w.heap.size + 2 + 12, 0, none⟩) n n, .slice (some ⟨w.heap.size + 2 + 13, 0, none⟩) n n, .slice (some ⟨w.heap.size + 2 + 14, 0, none⟩) n n, .slice (some ⟨w.heap.size + 2 + 15, 0, none⟩) n n] 0 wr
      have HFIN := Lib.hid hfin
      have HOTH := Lib.hid hoth
      have HR := Lib.hid hrest
      clear hI hsz h1 hlt hi hfin hoth hrest
      go_wp2
      change bodyPost Try.prog Try.f92 (RingOut n w) Exit.ret _ (wr.setCells w.heap.size 0 [.slice (some ⟨w.heap.size + 2, 0, none⟩) n n, .slice (some ⟨w.heap.size + 2 + 1, 0, none⟩) n n, .slice (some ⟨w.heap.size + 2 + 2, 0, none⟩) n n, .slice (some ⟨w.heap.size + 2 + 3, 0, none⟩) n n, .slice (some ⟨w.heap.size + 2 + 4, 0, none⟩) n n, .slice (some ⟨w.heap.size + 2 + 5, 0, none⟩) n n, .slice (some ⟨w.heap.size + 2 + 6, 0, none⟩) n n, .slice (some ⟨w.heap.size + 2 + 7, 0, none⟩) n n, .slice (some ⟨w.heap.size + 2 + 8, 0, none⟩) n n, .slice (some ⟨w.heap.size + 2 + 9, 0, none⟩) n n, .slice (some ⟨w.heap.size + 2 + 10, 0, none⟩) n n, .slice (some ⟨w.heap.size + 2 + 11, 0, none⟩) n n, .slice (some ⟨w.heap.size + 2 + 12, 0, none⟩) n n, .slice (some ⟨w.heap.size + 2 + 13, 0, none⟩) n n, .slice (some ⟨w.heap.size + 2 + 14, 0, none⟩) n n, .slice (some ⟨w.heap.size + 2 + 15, 0, none⟩) n n])
      have hfin := HFIN.out
      have hoth := HOTH.out
      obtain ⟨r1, r2, r3, r4⟩ := HR.out
      generalize wr.setCells w.heap.size 0 [.slice (some ⟨w.heap.size + 2, 0, none⟩) n n, .slice (some ⟨w.heap.size + 2 + 1, 0, none⟩) n n, .slice (some ⟨w.heap.size + 2 + 2, 0, none⟩) n n, .slice (some ⟨w.heap.size + 2 + 3, 0, none⟩) n n, .slice (some ⟨w.heap.size + 2 + 4, 0, none⟩) n n, .slice (some ⟨w.heap.size + 2 + 5, 0, none⟩) n n, .slice (some ⟨w.heap.size + 2 + 6, 0, none⟩) n n, .slice (some ⟨w.heap.size + 2 + 7, 0, none⟩) n n, .slice (some ⟨w.heap.size + 2 + 8, 0, none⟩) n n, .slice (some ⟨w.heap.size + 2 + 9, 0, none⟩) n n, .slice (some ⟨w.heap.size + 2 + 10, 0, none⟩) n n, .slice (some ⟨w.heap.size + 2 + 11, 0, none⟩) n n, .slice (some ⟨w.heap.size + 2 + 12, 0, none⟩) n n, .slice (some ⟨w.heap.size + 2 + 13, 0, none⟩) n n, .slice (some ⟨w.heap.size + 2 + 14, 0, none⟩) n n, .slice (some ⟨w.heap.size + 2 + 15, 0, none⟩) n n] = WF at *
      have h16 := hfin
      unfold ringV at h16
      obtain ⟨_, _, _, _, _, _, _, _, _, _, _, _, _, _, _, _⟩ := cells16 h16
      have hzz := HZ.out
      refine bodyPost_ret (v := .agg (ringV (w.heap.size + 2) n)) (by simp [results, Try.results92, go_sem, ringV, *]) rfl ⟨w.heap.size + 2, by omega, by omega, rfl, fun d hd => ?_, ?_⟩
      · exact (hoth _ (by omega)).trans (HI.out.rows d hd)
      · exact ⟨r1.trans HI.out.bel.os, r2.trans HI.out.bel.tape, r3.trans HI.out.bel.output, by omega, fun b hb => (hoth b (by omega)).trans (HI.out.bel.block b hb)⟩
end Go.Proofs.Ytgbcdebnanejpaa.Bg
namespace Go.Proofs.Ytgbcdebnanejpaa.Bg
set_option linter.unusedVariables false
open Go.RowKit Go.Shelf

def knB (j : Nat) : Bool := [0, 1, 3, 4, 5, 7, 8, 9, 11, 12, 13].contains j
def mkB (j : Nat) : Bool := [2, 6, 10, 14].contains j
def kB (B : Nat) (a1 : Option Addr) (k c1 : Nat) (inp : Int) (a2 : Option Addr) (mm c2 : Nat) : Nat → Value
  | 0 => .pointer (some ⟨B, 0, none⟩)
  | 1 => .slice a1 k c1
  | 3 => .pointer (some ⟨B, 1, none⟩)
  | 4 => .int .i64 inp
  | 5 => .agg #[.slice a1 k c1, .int .i64 inp, .slice a2 mm c2]
  | 7 => .pointer (some ⟨B, 0, none⟩)
  | 8 => .slice a1 k c1
  | 9 => .int .i64 (k : Int)
  | 11 => .pointer (some ⟨B, 0, none⟩)
  | 12 => .slice a1 k c1
  | 13 => .int .i64 (k : Int)
  | _ => undef
/-- What the operations that make memory leave. -/
def cB (ps : List Prm) (ss : List Syn) (j : Nat) (u : Value) (lo hi : Nat) (W : World) : Prop :=
  (j = 2 → W.ownsRow lo 39 8 u ps.length (prmCs ps) ∧ ∀ g, u.ownBlock = some g → g < hi) ∧
  (j = 6 → ∃ mb sl nn, u = .map (some mb) ∧ WiresAt W mb (mb + 1) nn ss sl ∧ lo ≤ mb ∧ mb < hi ∧ ∀ x g, (sl x).ownBlock = some g → g < hi) ∧
  (j = 10 → ∃ b, u = .slice (some ⟨b, 0, none⟩) ps.length ps.length ∧ W.heap[b]? = some (.cells (stC (List.replicate ps.length (0, 0))).toArray 98) ∧ lo ≤ b ∧ b < hi) ∧
  (j = 14 → ∃ B, u = .agg (ringV B ps.length) ∧ lo ≤ B ∧ B + 16 ≤ hi ∧ ∀ d, d < 16 → RowAt W (B + d) ps.length fun _ => 0)
theorem cB_keep (ps : List Prm) (ss : List Syn) (j : Nat) (u : Value) (lo hi : Nat) (A A' : World) (h : cB ps ss j u lo hi A) (hb : ∀ b, lo ≤ b → b < hi → A'.heap[b]? = A.heap[b]?) : cB ps ss j u lo hi A' := by
  obtain ⟨h2, h6, h10, h14⟩ := h
  refine ⟨fun e => ?_, fun e => ?_, fun e => ?_, fun e => ?_⟩
  · obtain ⟨a, b⟩ := h2 e
    exact ⟨ownsRow_of_block a fun g hg => hb g (a.lt g hg).1 (b g hg), b⟩
  · obtain ⟨mb, sl, nn, a1, a2, a3, a4, a5⟩ := h6 e
    have hlt := a2.lt
    exact ⟨mb, sl, nn, a1, ⟨a2.map.of_block (hb mb a3 a4), fun x => ownsRow_of_block (a2.row x) fun g hg => hb g (by have := ((a2.row x).lt g hg).1; omega) (a5 x g hg), a2.nil, a2.apart, a2.lt⟩, a3, a4, a5⟩
  · obtain ⟨b, a1, a2, a3, a4⟩ := h10 e
    exact ⟨b, a1, (hb b a3 a4).trans a2, a3, a4⟩
  · obtain ⟨B, a1, a2, a3, a4⟩ := h14 e
    exact ⟨B, a1, a2, a3, fun d hd => (hb (B + d) (by omega) (by omega)).trans (a4 d hd)⟩
def aggB (inp : Int) (val : Nat → Value) (B k : Nat) : Value := .agg (#[.pointer none, val 2, .int .i64 inp, val 6, .int .i64 0, val 10] ++ ringV B k)
/-- The world inside the region that begins a simulation. -/
structure BnR (ps : List Prm) (inp : Int) (ss : List Syn) (KB : Nat → Value) (W0 : World) (L : Array Bool) (val : Nat → Value) (W : World) : Prop where
  core : MkR knB mkB (cB ps ss) KB W0 L val W
  c15 : L.getD 15 false = true → (L.getD 2 false = true ∧ L.getD 6 false = true ∧ L.getD 10 false = true ∧ L.getD 14 false = true) ∧ ∀ B, val 14 = .agg (ringV B ps.length) → val 15 = aggB inp val B ps.length
  c16 : L.getD 16 false = true → L.getD 15 false = true ∧ ∃ W1 cs, MkR knB mkB (cB ps ss) KB W0 L val W1 ∧ (∀ b, b < W1.heap.size → W.heap[b]? = W1.heap[b]?) ∧ W.heap[W1.heap.size]? = some (.cells cs 104) ∧ val 16 = .pointer (some ⟨W1.heap.size, 0, none⟩) ∧
    ∀ v2 mb b B a c, val 2 = .slice a ps.length c → val 6 = .map (some mb) → val 10 = .slice (some ⟨b, 0, none⟩) ps.length ps.length → val 14 = .agg (ringV B ps.length) → v2 = val 2 → cs = (#[.pointer none, v2, .int .i64 inp, .map (some mb), .int .i64 0, .slice (some ⟨b, 0, none⟩) ps.length ps.length] ++ ringV B ps.length)
  c17 : L.getD 17 false = true → L.getD 16 false = true ∧ val 17 = val 16
section
variable {ps : List Prm} {inp : Int} {ss : List Syn} {KB : Nat → Value} {W0 W W' : World} {L : Array Bool} {val : Nat → Value}
theorem BnR.init : BnR ps inp ss KB W0 (Array.replicate 18 false) (fun _ => undef) { W0 with drawn := W0.drawn + 1 } := by
  have e : ∀ j : Nat, (Array.replicate 18 false).getD j false = false := fun j => by simp [Array.getD_eq_getD_getElem?, Array.getElem?_replicate]; split <;> rfl
  exact ⟨MkR.init 18, fun h => (by rw [e 15] at h; cases h), fun h => (by rw [e 16] at h; cases h), fun h => (by rw [e 17] at h; cases h)⟩
theorem BnR.known (h : BnR ps inp ss KB W0 L val W) (j : Nat) (hk : knB j = true) (l : L.getD j false = true) : val j = KB j := h.core.known j hk l
theorem aggB_set (i : Nat) (hi : i ≠ 2 ∧ i ≠ 6 ∧ i ≠ 10 ∧ i ≠ 14) (u : Value) (B k : Nat) : aggB inp (setV val i u) B k = aggB inp val B k := by
  unfold aggB; rw [setV_ne (by omega), setV_ne (by omega), setV_ne (by omega)]
/-- Operations that read. -/
theorem BnR.skip (h : BnR ps inp ss KB W0 L val W) (i : Nat) (hk : knB i = true) (u : Value) (hu : u = KB i) : BnR ps inp ss KB W0 (L.setIfInBounds i true) (setV val i u) W := by
  have hc : i = 0 ∨ i = 1 ∨ i = 3 ∨ i = 4 ∨ i = 5 ∨ i = 7 ∨ i = 8 ∨ i = 9 ∨ i = 11 ∨ i = 12 ∨ i = 13 := by simpa [knB] using hk
  have hm : mkB i = false := by simp [mkB]; omega
  refine ⟨h.core.skip (cB_keep ps ss) i hm u (fun _ => hu) (Below.refl _ _), ?_, ?_, ?_⟩
  · rw [gdD (by omega), gdD (by omega), gdD (by omega), gdD (by omega), gdD (by omega), setV_ne (by omega), setV_ne (by omega)]
    exact fun l => ⟨(h.c15 l).1, fun B e => by rw [aggB_set i (by omega)]; exact (h.c15 l).2 B e⟩
  · rw [gdD (by omega), gdD (by omega)]
    intro l16
    obtain ⟨q1, W1, cs, q2, q3, q4, q5, q6⟩ := h.c16 l16
    refine ⟨q1, W1, cs, q2.skip (cB_keep ps ss) i hm u (fun _ => hu) (Below.refl _ _), q3, q4, by rw [setV_ne (by omega)]; exact q5, ?_⟩
    rw [setV_ne (by omega), setV_ne (by omega), setV_ne (by omega), setV_ne (by omega)]; exact q6
  · rw [gdD (by omega), gdD (by omega), setV_ne (by omega), setV_ne (by omega)]; exact h.c17
/-- Operations that make memory. -/
theorem BnR.make (h : BnR ps inp ss KB W0 L val W) (i : Nat) (hm : mkB i = true) (hf : L.getD i false = false) (u : Value) (hb : Below W.heap.size W W') (hc : cB ps ss i u W.heap.size W'.heap.size W') : BnR ps inp ss KB W0 (L.setIfInBounds i true) (setV val i u) W' := by
  have hi : i = 2 ∨ i = 6 ∨ i = 10 ∨ i = 14 := by simpa [mkB] using hm
  have hk : knB i = false := by simp [knB]; omega
  have n15 : ¬ L.getD 15 false = true := fun l => by
    obtain ⟨⟨a, b, c, d⟩, _⟩ := h.c15 l
    rcases hi with rfl | rfl | rfl | rfl <;> simp_all
  have n16 : ¬ L.getD 16 false = true := fun l => n15 (h.c16 l).1
  have n17 : ¬ L.getD 17 false = true := fun l => n16 (h.c17 l).1
  refine ⟨h.core.make (cB_keep ps ss) i hk u hb hc, ?_, ?_, ?_⟩
  · rw [gdD (j := 15) (by omega)]; exact fun l => (n15 l).elim
  · rw [gdD (j := 16) (by omega)]; exact fun l => (n16 l).elim
  · rw [gdD (j := 17) (by omega)]; exact fun l => (n17 l).elim
theorem BnR.build (h : BnR ps inp ss KB W0 L val W) (hs : L.size = 18) (hf : L.getD 15 false = false) (l2 : L.getD 2 false = true) (l6 : L.getD 6 false = true) (l10 : L.getD 10 false = true) (l14 : L.getD 14 false = true) {B : Nat} (e14 : val 14 = .agg (ringV B ps.length)) : BnR ps inp ss KB W0 (L.setIfInBounds 15 true) (setV val 15 (aggB inp val B ps.length)) W := by
  have n16 : ¬ L.getD 16 false = true := fun l => by have := (h.c16 l).1; simp_all
  have n17 : ¬ L.getD 17 false = true := fun l => n16 (h.c17 l).1
  refine ⟨h.core.skip (cB_keep ps ss) 15 (by decide) _ (fun e => by simp [knB] at e) (Below.refl _ _), fun _ => ⟨?_, ?_⟩, ?_, ?_⟩
  · rw [gdD (by omega), gdD (by omega), gdD (by omega), gdD (by omega)]; exact ⟨l2, l6, l10, l14⟩
  · rw [setV_ne (by omega), setV_eq]
    intro B' e'
    rw [aggB_set 15 (by omega)]
    rw [e14] at e'
    have hB : ringV B ps.length = ringV B' ps.length := by injection e'
    unfold aggB; rw [hB]
  · rw [gdD (j := 16) (by omega)]; exact fun l => (n16 l).elim
  · rw [gdD (j := 17) (by omega)]; exact fun l => (n17 l).elim
theorem BnR.box (h : BnR ps inp ss KB W0 L val W) (hs : L.size = 18) (hf : L.getD 16 false = false) (l15 : L.getD 15 false = true) {mb b B c : Nat} {a : Option Addr} (e2 : val 2 = .slice a ps.length c) (e6 : val 6 = .map (some mb)) (e10 : val 10 = .slice (some ⟨b, 0, none⟩) ps.length ps.length) (e14 : val 14 = .agg (ringV B ps.length)) :
    BnR ps inp ss KB W0 (L.setIfInBounds 16 true) (setV val 16 (.pointer (some ⟨W.heap.size, 0, none⟩))) (W.alloc (.cells (#[.pointer none, .slice a ps.length c, .int .i64 inp, .map (some mb), .int .i64 0, .slice (some ⟨b, 0, none⟩) ps.length ps.length] ++ ringV B ps.length) 104)) := by
  have n17 : ¬ L.getD 17 false = true := fun l => by have := (h.c17 l).1; simp_all
  refine ⟨h.core.skip (cB_keep ps ss) 16 (by decide) _ (fun e => by simp [knB] at e) ((Below.refl _ _).alloc (Nat.le_refl _) _), ?_, fun _ => ⟨?_, W, _, h.core.skip (cB_keep ps ss) 16 (by decide) _ (fun e => by simp [knB] at e) (Below.refl _ _), fun b hb => Below.heap_alloc _ _ _ hb, alloc_new_at _ _ _ rfl, setV_eq, ?_⟩, ?_⟩
  · rw [gdD (by omega), gdD (by omega), gdD (by omega), gdD (by omega), gdD (by omega), setV_ne (by omega), setV_ne (by omega)]
    exact fun l => ⟨(h.c15 l).1, fun B e => by rw [aggB_set 16 (by omega)]; exact (h.c15 l).2 B e⟩
  · rw [gdD (by omega)]; exact l15
  · rw [setV_ne (by omega), setV_ne (by omega), setV_ne (by omega), setV_ne (by omega)]
    intro v2 mb' b' B' a' c' q2 q6 q10 q14 qv
    rw [e6] at q6; rw [e10] at q10; rw [e14] at q14
    cases q6
    have : b = b' := by cases q10; rfl
    subst this
    rw [qv, e2]
    have hB : ringV B ps.length = ringV B' ps.length := by injection q14
    rw [hB]
  · rw [gdD (j := 17) (by omega)]; exact fun l => (n17 l).elim
theorem BnR.assign (h : BnR ps inp ss KB W0 L val W) (hs : L.size = 18) (l16 : L.getD 16 false = true) : BnR ps inp ss KB W0 (L.setIfInBounds 17 true) (setV val 17 (val 16)) W := by
  refine ⟨h.core.skip (cB_keep ps ss) 17 (by decide) _ (fun e => by simp [knB] at e) (Below.refl _ _), ?_, ?_, fun _ => ⟨?_, ?_⟩⟩
  · rw [gdD (by omega), gdD (by omega), gdD (by omega), gdD (by omega), gdD (by omega), setV_ne (by omega), setV_ne (by omega)]
    exact fun l => ⟨(h.c15 l).1, fun B e => by rw [aggB_set 17 (by omega)]; exact (h.c15 l).2 B e⟩
  · rw [gdD (by omega), gdD (by omega)]
    intro l
    obtain ⟨q1, W1, cs, q2, q3, q4, q5, q6⟩ := h.c16 l
    refine ⟨q1, W1, cs, q2.skip (cB_keep ps ss) 17 (by decide) _ (fun e => by simp [knB] at e) (Below.refl _ _), q3, q4, by rw [setV_ne (by omega)]; exact q5, ?_⟩
    rw [setV_ne (by omega), setV_ne (by omega), setV_ne (by omega), setV_ne (by omega)]; exact q6
  · rw [gdD (by omega)]; exact l16
  · rw [setV_eq, setV_ne (by omega)]
/-- The forms of what was made. -/
theorem BnR.forms (h : BnR ps inp ss KB W0 L val W) (l2 : L.getD 2 false = true) (l6 : L.getD 6 false = true) (l10 : L.getD 10 false = true) (l14 : L.getD 14 false = true) :
    ∃ a c mb b B, val 2 = .slice a ps.length c ∧ val 6 = .map (some mb) ∧ val 10 = .slice (some ⟨b, 0, none⟩) ps.length ps.length ∧ val 14 = .agg (ringV B ps.length) := by
  obtain ⟨lo, hi, h1, _⟩ := h.core.iv
  obtain ⟨_, _, c2, _, _, _⟩ := h1 2 (by decide) l2
  obtain ⟨_, _, _, c6, _, _⟩ := h1 6 (by decide) l6
  obtain ⟨_, _, _, _, c10, _⟩ := h1 10 (by decide) l10
  obtain ⟨_, _, _, _, _, c14⟩ := h1 14 (by decide) l14
  obtain ⟨mb, _, _, e6, _⟩ := c6 rfl
  obtain ⟨b, e10, _⟩ := c10 rfl
  obtain ⟨B, e14, _⟩ := c14 rfl
  rcases (c2 rfl).1.2 with ⟨e, e0⟩ | ⟨g, cap, cur, e, _⟩
  · exact ⟨none, 0, mb, b, B, by rw [e, e0], e6, e10, e14⟩
  · exact ⟨_, _, mb, b, B, e, e6, e10, e14⟩
end
/-- What begin leaves. -/
def BeginOut (n : NetM) (w : World) (e : Ending) (w' : World) : Prop :=
  ∃ z, e = .returned (.pointer (some ⟨z.bs, 0, none⟩)) ∧ SimAt n w' w.heap.size z 0 0 (beginM n).st (beginM n).due ∧ Below w.heap.size w w'
theorem begin_sim {n : NetM} {a1 a2 : Option Addr} {c1 c2 : Nat} {KB : Nat → Value} {w W0 W : World} {val : Nat → Value} (h : BnR n.ps n.inp n.ss KB W0 (Array.replicate 18 true) val W) (h0 : Below w.heap.size w W0) :
    ∃ bs, val 17 = .pointer (some ⟨bs, 0, none⟩) ∧ (∃ cs, W.heap[bs]? = some (.cells cs 104) ∧ 0 < cs.size) ∧ w.heap.size ≤ bs ∧
      ∃ z : SimZ, z.bs = bs ∧ SimAt n (W.setCell ⟨bs, 0, none⟩ (.pointer (some ⟨bs, 0, none⟩))) w.heap.size z 0 0 (beginM n).st (beginM n).due ∧ Below w.heap.size w (W.setCell ⟨bs, 0, none⟩ (.pointer (some ⟨bs, 0, none⟩))) := by
  obtain ⟨_, W1, cs, hM, hold, hbs, e16, hcs⟩ := h.c16 (by simp)
  obtain ⟨_, e17⟩ := h.c17 (by simp)
  obtain ⟨lo, hi, h1, h2⟩ := hM.iv
  obtain ⟨p1, p2, c2, _, _, _⟩ := h1 2 (by decide) (by simp)
  obtain ⟨q1, q2, _, c6, _, _⟩ := h1 6 (by decide) (by simp)
  obtain ⟨r1, r2, _, _, c10, _⟩ := h1 10 (by decide) (by simp)
  obtain ⟨s1, s2, _, _, _, c14⟩ := h1 14 (by decide) (by simp)
  obtain ⟨a, c, mb', b', B', e2, e6', e10', e14'⟩ := h.forms (by simp) (by simp) (by simp) (by simp)
  obtain ⟨x2, y2⟩ := c2 rfl
  obtain ⟨mb, sl, nn, e6, x6, y6, z6, t6⟩ := c6 rfl
  obtain ⟨b, e10, x10, y10, z10⟩ := c10 rfl
  obtain ⟨B, e14, y14, z14, x14⟩ := c14 rfl
  have hcs' := hcs (val 2) mb b B a c e2 e6 e10 e14 rfl
  have d1 := h2 2 10 (by decide) (by decide) (by decide) (by simp) (by simp)
  have d2 := h2 2 14 (by decide) (by decide) (by decide) (by simp) (by simp)
  have d3 := h2 6 10 (by decide) (by decide) (by decide) (by simp) (by simp)
  have d4 := h2 6 14 (by decide) (by decide) (by decide) (by simp) (by simp)
  have d5 := h2 10 14 (by decide) (by decide) (by decide) (by simp) (by simp)
  have hw := h0.size
  obtain ⟨bs, hbb⟩ : ∃ bs, bs = W1.heap.size := ⟨_, rfl⟩
  rw [← hbb] at hbs e16
  have hset : ∀ k, k < bs → (W.setCell ⟨bs, 0, none⟩ (.pointer (some ⟨bs, 0, none⟩))).heap[k]? = W1.heap[k]? := fun k hk => by
    rw [Below.heap_setCell _ _ _ _ (by show k ≠ bs; omega)]; exact hold k (by omega)
  have hkW : W0.heap.size ≤ bs := by omega
  have x2' := ownsRow_of_block (A' := W.setCell ⟨bs, 0, none⟩ (.pointer (some ⟨bs, 0, none⟩))) x2 fun g hg => hset g (by have := y2 g hg; omega)
  have hwr : WiresAt (W.setCell ⟨bs, 0, none⟩ (.pointer (some ⟨bs, 0, none⟩))) mb (mb + 1) nn n.ss sl := ⟨x6.map.of_block (hset mb (by omega)), fun x => ownsRow_of_block (x6.row x) fun g hg => hset g (by have := t6 x g hg; omega), x6.nil, x6.apart, x6.lt⟩
  refine ⟨bs, by rw [e17, e16], ⟨cs, hbs, by rw [hcs']; simp; omega⟩, by omega, ⟨bs, val 2, mb, mb + 1, nn, sl, b, fun d => B + d⟩, rfl, ⟨?_, psAt_of_owns x2', ?_, hwr, ?_, ?_, (hset b (by omega)).trans x10, by simp [beginM], fun k hk1 hk2 => ?_, fun _ _ _ => rfl, fun d d' _ _ e => (by simp at e; omega), ?_, ?_, ?_, ?_⟩, ?_⟩
  · have hd : (W.setCell ⟨bs, 0, none⟩ (.pointer (some ⟨bs, 0, none⟩))).heap[bs]? = some (.cells (cs.setIfInBounds 0 (.pointer (some ⟨bs, 0, none⟩))) 104) := by
      simp [World.setCell, Array.getElem?_modify, hbs]
    rw [hd, hcs']
    simp [simHead, simRows, ringV, List.range_succ]
  · rintro g hg (hm | hm | ⟨d, hd, hm⟩)
    · have := y2 g hg; simp at hm; omega
    · have := y2 g hg; have := (x2.lt g hg).1; simp at hm; omega
    · have := y2 g hg; have := (x2.lt g hg).1; simp at hm; omega
  · rintro x g hg (hm | hm | ⟨d, hd, hm⟩)
    · have := t6 x g hg; simp at hm; omega
    · have := t6 x g hg; have := ((x6.row x).lt g hg).1; simp at hm; omega
    · have := t6 x g hg; have := ((x6.row x).lt g hg).1; simp at hm; omega
  · rintro (hm | hm | ⟨d, hd, hm⟩) <;> simp at hm <;> omega
  · exact (hset _ (by show B + k % 16 < bs; omega)).trans (x14 _ (Nat.mod_lt _ (by omega)))
  · show bs ≠ b; omega
  · intro d hd; show bs ≠ B + d; omega
  · intro d hd; show b ≠ B + d; omega
  · rintro k (hm | hm | ⟨d, hd, hm⟩) <;> simp at hm <;> omega
  · have hB : Below w.heap.size w W := h0.trans (h.core.bel.mono hw)
    exact hB.setCell (p := ⟨bs, 0, none⟩) (by show w.heap.size ≤ bs; omega) _

set_option maxRecDepth 100000 in
set_option maxHeartbeats 4000000 in
theorem begin_any (n : NetM) (hok : NetOk n) (a1 a2 : Option Addr) (c1 c2 : Nat) (w : World) (hp : PsAt w (.slice a1 n.ps.length c1) n.ps) (hs : SsAt w (.slice a2 n.ss.length c2) n.ss) :
    Calls Try.prog 59 #[.agg #[.slice a1 n.ps.length c1, .int .i64 n.inp, .slice a2 n.ss.length c2]] w (BeginOut n w) := by
  have hnn := hok.p1
  obtain ⟨W0, hW0⟩ : ∃ W0, w.alloc (.cells #[.slice a1 n.ps.length c1, .int .i64 n.inp, .slice a2 n.ss.length c2] 25) = W0 := ⟨_, rfl⟩
  have h0 : Below w.heap.size w W0 := by rw [← hW0]; exact (Below.refl _ _).alloc (Nat.le_refl _) _
  have hbx : NetBox W0 w.heap.size (.slice a1 n.ps.length c1) n.inp (.slice a2 n.ss.length c2) := by rw [← hW0]; exact alloc_new_at _ _ _ rfl
  have hcl : ∀ W, Below W0.heap.size W0 W → Calls Try.prog 85 #[.slice a1 n.ps.length c1] W (Cloned n.ps W) := fun W hb => clone_any a1 c1 n.ps (by omega) W ((hp.below h0).below hb)
  have hwi : ∀ W, Below W0.heap.size W0 W → Calls Try.prog 75 #[.agg #[.slice a1 n.ps.length c1, .int .i64 n.inp, .slice a2 n.ss.length c2]] W (WireOut n.ss W) := fun W hb =>
    wire_any n.ps n.inp n.ss a1 a2 n.ps.length c1 c2 hok.s1 (fun s hsm => by have h1 := hok.i1; have := hok.ss s hsm; simp [synOk, srcOk, inR] at this; omega) W ((hs.below h0).below hb)
  have hrg := newRing_any n.ps.length (by omega)
  have hms := make_states n.ps.length (by omega)
  have hz : w.heap.size < W0.heap.size := lt_of_block hbx
  have HBX := Lib.hid hbx
  have HCL := Lib.hid hcl
  have HWI := Lib.hid hwi
  have HRG := Lib.hid hrg
  have H0 := Lib.hid h0
  have HW0 := Lib.hid hW0
  clear hbx hcl hwi hrg h0 hp hs hok hW0
  go_enter Try.func59, Try.ntmps59
  go_wp2
  rw [HW0.out]
  refine wp_region_ghost (BnR n.ps n.inp n.ss (kB w.heap.size a1 n.ps.length c1 n.inp a2 n.ss.length c2) W0) (by kernel_rfl) (by kernel_rfl) (by kernel_rfl) (by kernel_rfl) BnR.init ?stp ?dn
  case dn =>
    intro val W b' hI hh hbs
    have hb := has_all (by kernel_rfl) hh hbs
    obtain ⟨bs, e17, ⟨cs, hcs, hcs0⟩, hlo, z, hz1, hsim, hbel⟩ := begin_sim (a1 := a1) (a2 := a2) (c1 := c1) (c2 := c2) (w := w) hI H0.out
    have h00 : W.cell? ⟨bs, 0, none⟩ = cs[0]? ∧ W.frozen? ⟨bs, 0, none⟩ = false := by simp [World.cell?, World.frozen?, hcs]
    rw [Array.getElem?_eq_getElem hcs0] at h00
    obtain ⟨_, _⟩ := h00
    have hbl := lt_of_block hcs
    have HS := Lib.hid hsim
    have HB := Lib.hid hbel
    simp only [puts, e17] at hb
    have HZ1 := Lib.hid hz1
    clear hI hh hbs hcs hsim hbel hz1 e17
    subst hb
    simp only [Act.put, List.setIfInBounds_toArray, List.set_cons_succ, List.set_cons_zero]
    go_wp2
    go_ret
    refine ⟨z, ?_, HS.out, HB.out⟩
    rw [HZ1.out]; rfl
  case stp =>
    intro L val W i o b' hs ho hlF hdd hI hh
    have hi := (List.getElem?_eq_some_iff.1 ho).1
    have hc : i = 0 ∨ i = 1 ∨ i = 2 ∨ i = 3 ∨ i = 4 ∨ i = 5 ∨ i = 6 ∨ i = 7 ∨ i = 8 ∨ i = 9 ∨ i = 10 ∨ i = 11 ∨ i = 12 ∨ i = 13 ∨ i = 14 ∨ i = 15 ∨ i = 16 ∨ i = 17 := by simp at hi; omega
    have hs18 : L.size = 18 := by simpa using hs
    obtain ⟨_, _, _⟩ := cells3 ((hI.core.bel.block _ hz).trans HBX.out)
    have HI := Lib.hid hI
    have HLF := Lib.hid hlF
    have HD := Lib.hid hdd
    clear hi hs hI hlF hdd
    rcases hc with rfl | rfl | rfl | rfl | rfl | rfl | rfl | rfl | rfl | rfl | rfl | rfl | rfl | rfl | rfl | rfl | rfl | rfl
    · simp only [List.getElem?_cons_zero, Option.some.injEq] at ho
      subst ho
      have k1 := hh.kept 1 (by simp)
      simp at k1
      go_simp
      exact ⟨_, rfl, HI.out.skip 0 rfl _ rfl⟩
    · simp only [List.getElem?_cons_zero, List.getElem?_cons_succ, Option.some.injEq] at ho
      subst ho
      have l0 : L.getD 0 false = true := HD.out ⟨0, .data⟩ (by simp) rfl
      have g0 := hh.got 0 _ 4 rfl rfl l0 (by simp)
      rw [HI.out.known 0 rfl l0] at g0
      simp [kB] at g0
      clear l0
      go_simp
      exact ⟨_, rfl, HI.out.skip 1 rfl _ rfl⟩
    · simp only [List.getElem?_cons_zero, List.getElem?_cons_succ, Option.some.injEq] at ho
      subst ho
      have l1 : L.getD 1 false = true := HD.out ⟨1, .data⟩ (by simp) rfl
      have g1 := hh.got 1 _ 5 rfl rfl l1 (by simp)
      rw [HI.out.known 1 rfl l1] at g1
      simp [kB] at g1
      clear l1
      go_simp
      go_at_call 85
      refine (HCL.out _ HI.out.core.bel).mono ?_
      rintro e w6 ⟨v, rfl, hv, hb6⟩
      exact ⟨_, rfl, HI.out.make 2 rfl HLF.out v hb6 ⟨fun _ => ⟨hv, fun g hg => (hv.lt g hg).2⟩, fun e => by omega, fun e => by omega, fun e => by omega⟩⟩
    · simp only [List.getElem?_cons_zero, List.getElem?_cons_succ, Option.some.injEq] at ho
      subst ho
      have k1 := hh.kept 1 (by simp)
      simp at k1
      go_simp
      exact ⟨_, rfl, HI.out.skip 3 rfl _ rfl⟩
    · simp only [List.getElem?_cons_zero, List.getElem?_cons_succ, Option.some.injEq] at ho
      subst ho
      have l3 : L.getD 3 false = true := HD.out ⟨3, .data⟩ (by simp) rfl
      have g3 := hh.got 3 _ 7 rfl rfl l3 (by simp)
      rw [HI.out.known 3 rfl l3] at g3
      simp [kB] at g3
      clear l3
      go_simp
      exact ⟨_, rfl, HI.out.skip 4 rfl _ rfl⟩
    · simp only [List.getElem?_cons_zero, List.getElem?_cons_succ, Option.some.injEq] at ho
      subst ho
      have k1 := hh.kept 1 (by simp)
      simp at k1
      go_simp
      exact ⟨_, rfl, HI.out.skip 5 rfl _ rfl⟩
    · simp only [List.getElem?_cons_zero, List.getElem?_cons_succ, Option.some.injEq] at ho
      subst ho
      have l5 : L.getD 5 false = true := HD.out ⟨5, .data⟩ (by simp) rfl
      have g5 := hh.got 5 _ 9 rfl rfl l5 (by simp)
      rw [HI.out.known 5 rfl l5] at g5
      simp [kB] at g5
      clear l5
      go_simp
      go_at_call 75
      refine (HWI.out _ HI.out.core.bel).mono ?_
      rintro e w6 ⟨mb, sl, nn, rfl, hw6, hmb, hb6⟩
      exact ⟨_, rfl, HI.out.make 6 rfl HLF.out _ hb6 ⟨fun e => by omega, fun _ => ⟨mb, sl, nn, rfl, hw6, hmb, hw6.map.lt, fun x g hg => ((hw6.row x).lt g hg).2⟩, fun e => by omega, fun e => by omega⟩⟩
    · simp only [List.getElem?_cons_zero, List.getElem?_cons_succ, Option.some.injEq] at ho
      subst ho
      have k1 := hh.kept 1 (by simp)
      simp at k1
      go_simp
      exact ⟨_, rfl, HI.out.skip 7 rfl _ rfl⟩
    · simp only [List.getElem?_cons_zero, List.getElem?_cons_succ, Option.some.injEq] at ho
      subst ho
      have l7 : L.getD 7 false = true := HD.out ⟨7, .data⟩ (by simp) rfl
      have g7 := hh.got 7 _ 11 rfl rfl l7 (by simp)
      rw [HI.out.known 7 rfl l7] at g7
      simp [kB] at g7
      clear l7
      go_simp
      exact ⟨_, rfl, HI.out.skip 8 rfl _ rfl⟩
    · simp only [List.getElem?_cons_zero, List.getElem?_cons_succ, Option.some.injEq] at ho
      subst ho
      have l8 : L.getD 8 false = true := HD.out ⟨8, .data⟩ (by simp) rfl
      have g8 := hh.got 8 _ 12 rfl rfl l8 (by simp)
      rw [HI.out.known 8 rfl l8] at g8
      simp [kB] at g8
      clear l8
      go_simp
      exact ⟨_, rfl, HI.out.skip 9 rfl _ rfl⟩
    · simp only [List.getElem?_cons_zero, List.getElem?_cons_succ, Option.some.injEq] at ho
      subst ho
      have l9 : L.getD 9 false = true := HD.out ⟨9, .data⟩ (by simp) rfl
      have g9 := hh.got 9 _ 13 rfl rfl l9 (by simp)
      rw [HI.out.known 9 rfl l9] at g9
      simp [kB] at g9
      clear l9
      go_simp
      exact ⟨_, rfl, HI.out.make 10 rfl HLF.out _ ((Below.refl _ _).alloc (Nat.le_refl _) _) ⟨fun e => by omega, fun e => by omega, fun _ => ⟨W.heap.size, rfl, alloc_new_at _ _ _ rfl, Nat.le_refl _, by simp⟩, fun e => by omega⟩⟩
    · simp only [List.getElem?_cons_zero, List.getElem?_cons_succ, Option.some.injEq] at ho
      subst ho
      have k1 := hh.kept 1 (by simp)
      simp at k1
      go_simp
      exact ⟨_, rfl, HI.out.skip 11 rfl _ rfl⟩
    · simp only [List.getElem?_cons_zero, List.getElem?_cons_succ, Option.some.injEq] at ho
      subst ho
      have l11 : L.getD 11 false = true := HD.out ⟨11, .data⟩ (by simp) rfl
      have g11 := hh.got 11 _ 15 rfl rfl l11 (by simp)
      rw [HI.out.known 11 rfl l11] at g11
      simp [kB] at g11
      clear l11
      go_simp
      exact ⟨_, rfl, HI.out.skip 12 rfl _ rfl⟩
    · simp only [List.getElem?_cons_zero, List.getElem?_cons_succ, Option.some.injEq] at ho
      subst ho
      have l12 : L.getD 12 false = true := HD.out ⟨12, .data⟩ (by simp) rfl
      have g12 := hh.got 12 _ 16 rfl rfl l12 (by simp)
      rw [HI.out.known 12 rfl l12] at g12
      simp [kB] at g12
      clear l12
      go_simp
      exact ⟨_, rfl, HI.out.skip 13 rfl _ rfl⟩
    · simp only [List.getElem?_cons_zero, List.getElem?_cons_succ, Option.some.injEq] at ho
      subst ho
      have l13 : L.getD 13 false = true := HD.out ⟨13, .data⟩ (by simp) rfl
      have g13 := hh.got 13 _ 17 rfl rfl l13 (by simp)
      rw [HI.out.known 13 rfl l13] at g13
      simp [kB] at g13
      clear l13
      go_simp
      go_at_call 92
      refine (HRG.out _).mono ?_
      rintro e w6 ⟨B, hB1, hB2, rfl, hrw, hb6⟩
      exact ⟨_, rfl, HI.out.make 14 rfl HLF.out _ hb6 ⟨fun e => by omega, fun e => by omega, fun e => by omega, fun _ => ⟨B, rfl, hB1, hB2, hrw⟩⟩⟩
    · simp only [List.getElem?_cons_zero, List.getElem?_cons_succ, Option.some.injEq] at ho
      subst ho
      have l2 : L.getD 2 false = true := HD.out ⟨2, .data⟩ (by simp) rfl
      have g2 := hh.got 2 _ 6 rfl rfl l2 (by simp)
      have l4 : L.getD 4 false = true := HD.out ⟨4, .data⟩ (by simp) rfl
      have g4 := hh.got 4 _ 8 rfl rfl l4 (by simp)
      rw [HI.out.known 4 rfl l4] at g4
      simp [kB] at g4
      have l6 : L.getD 6 false = true := HD.out ⟨6, .data⟩ (by simp) rfl
      have g6 := hh.got 6 _ 10 rfl rfl l6 (by simp)
      have l10 : L.getD 10 false = true := HD.out ⟨10, .data⟩ (by simp) rfl
      have g10 := hh.got 10 _ 14 rfl rfl l10 (by simp)
      have l14 : L.getD 14 false = true := HD.out ⟨14, .data⟩ (by simp) rfl
      have g14 := hh.got 14 _ 18 rfl rfl l14 (by simp)
      obtain ⟨a, c, mb, b, B, e2, e6, e10, e14⟩ := HI.out.forms l2 l6 l10 l14
      have hq := HI.out.build hs18 HLF.out l2 l6 l10 l14 e14
      unfold aggB ringV at hq
      simp only [List.append_toArray, List.cons_append, List.nil_append] at hq
      rw [e2] at g2
      rw [e6] at g6
      rw [e10] at g10
      rw [e14] at g14
      unfold ringV at g14
      simp at g2 g6 g10 g14
      rw [e2, e6, e10] at hq
      have HQ := Lib.hid hq
      clear l2 l4 l6 l10 l14 hq e2 e6 e10 e14
      go_simp
      exact ⟨_, rfl, HQ.out⟩
    · simp only [List.getElem?_cons_zero, List.getElem?_cons_succ, Option.some.injEq] at ho
      subst ho
      have l15 : L.getD 15 false = true := HD.out ⟨15, .data⟩ (by simp) rfl
      have g15 := hh.got 15 _ 19 rfl rfl l15 (by simp)
      obtain ⟨⟨l2, l6, l10, l14⟩, e15⟩ := HI.out.c15 l15
      obtain ⟨a, c, mb, b, B, e2, e6, e10, e14⟩ := HI.out.forms l2 l6 l10 l14
      have hq := HI.out.box hs18 HLF.out l15 e2 e6 e10 e14
      unfold ringV at hq
      simp only [List.append_toArray, List.cons_append, List.nil_append] at hq
      have e15 := e15 B e14
      unfold aggB ringV at e15
      simp only [List.append_toArray, List.cons_append, List.nil_append] at e15
      rw [e2, e6, e10] at e15
      rw [e15] at g15
      simp at g15
      have HQ := Lib.hid hq
      clear l15 l2 l6 l10 l14 e2 e6 e10 e14 e15 hq
      go_simp
      exact ⟨_, rfl, HQ.out⟩
    · simp only [List.getElem?_cons_zero, List.getElem?_cons_succ, Option.some.injEq] at ho
      subst ho
      have l16 : L.getD 16 false = true := HD.out ⟨16, .data⟩ (by simp) rfl
      have g16 := hh.got 16 _ 20 rfl rfl l16 (by simp)
      have hq := HI.out.assign hs18 l16
      simp at g16
      have HQ := Lib.hid hq
      clear l16 hq
      go_simp
      exact ⟨_, rfl, HQ.out⟩
end Go.Proofs.Ytgbcdebnanejpaa.Bg
