/- The synapses of a source, yielded one by one. -/
import Derived.Test.YtgbcdebnanejpaaN6
namespace Go.Proofs.Ytgbcdebnanejpaa
set_option linter.unusedVariables false
open Go.RowKit Go.Shelf
attribute [local go_sem] Oper.semAt_some

def encS (s : Syn) : Array Value := #[.agg #[.int .i64 s.fr, .int .i64 s.to, .int .i64 s.wt, .int .i64 s.dl]]
theorem synCs_at : ∀ (l : List Syn) (j : Nat) (s : Syn), l[j]? = some s → (synCs l)[j * 4]? = some (.int .i64 s.fr) ∧ (synCs l)[j * 4 + 1]? = some (.int .i64 s.to) ∧ (synCs l)[j * 4 + 2]? = some (.int .i64 s.wt) ∧ (synCs l)[j * 4 + 3]? = some (.int .i64 s.dl)
  | [], j, s, h => by simp at h
  | x :: l, 0, s, h => by cases h; simp [synCs, synV]
  | x :: l, j + 1, s, h => by
    have ih := synCs_at l j s (by simpa using h)
    have e : synCs (x :: l) = synV x ++ synCs l := by simp [synCs]
    have hl : (synV x).length = 4 := rfl
    rw [e, List.getElem?_append_right (by omega), List.getElem?_append_right (by omega), List.getElem?_append_right (by omega), List.getElem?_append_right (by omega), hl]
    rw [show (j + 1) * 4 - 4 = j * 4 from by omega, show (j + 1) * 4 + 1 - 4 = j * 4 + 1 from by omega, show (j + 1) * 4 + 2 - 4 = j * 4 + 2 from by omega, show (j + 1) * 4 + 3 - 4 = j * 4 + 3 from by omega]
    exact ih
theorem own_form {w : World} {base : Nat} {e : TypeId} {size : Nat} {v : Value} {n : Nat} {xs : List Value} (h : w.ownsRow base e size v n xs) (hn : 0 < n) : ∃ g cap, v = .slice (some ⟨g, 0, none⟩) n cap := by
  rcases h.2 with ⟨_, h0⟩ | ⟨g, cap, cur, hv, _⟩
  · omega
  · exact ⟨g, cap, hv⟩
theorem entersFrom : ∀ args w, (callFunc 108 args).run Try.prog w = .ok (.enter 108 args) w := enters_of Try.func108 (by kernel_rfl) rfl

set_option maxRecDepth 100000 in
set_option maxHeartbeats 2000000 in
theorem from1_gives (bm bx mb base n : Nat) (ss : List Syn) (sl : Int → Value) (src : Int) (hwf : (Lit.int .i64 src).wf = true) (hm : (ofSrc ss src).length ≤ 8192) (w0 : World)
    (hbm : w0.heap[bm]? = some (.cells #[.map (some mb)] 100)) (hbx : w0.heap[bx]? = some (.cells #[.int .i64 src] 3)) (hW : WiresAt w0 mb base n ss sl) :
    Gives Try.prog 108 #[.pointer (some ⟨bm, 0, none⟩), .pointer (some ⟨bx, 0, none⟩)] encS (ofSrc ss src) (fun b => b = bm ∨ b = bx ∨ b = mb ∨ (sl src).ownBlock = some b) w0 := by
  intro l J Jx W hsz hsame hJ hJx h0 hY
  have h1 := (hsame bm (Or.inl rfl)).trans hbm
  have h2 := (hsame bx (Or.inr (Or.inl rfl))).trans hbx
  have hmap : MapIs W mb n (entW ss sl) := hW.map.of_block (hsame mb (Or.inr (Or.inr (Or.inl rfl))))
  have hrow : W.ownsRow base 96 4 (sl src) (ofSrc ss src).length (synCs (ofSrc ss src)) := ownsRow_of_block (hW.row src) fun g hg => hsame g (Or.inr (Or.inr (Or.inr hg)))
  have hnil := hW.nil src
  have hlk := hmap.look1 Try.underlying100 (zero23 _) src hwf
  rw [entW_get hW.nil] at hlk
  obtain ⟨c1, _⟩ := cells1 h1
  obtain ⟨c2, _⟩ := cells1 h2
  have hb1 := lt_of_block h1
  have hb2 := lt_of_block h2
  obtain ⟨m, hmm⟩ : ∃ m, m = (ofSrc ss src).length := ⟨_, rfl⟩
  rw [← hmm] at hm hrow
  by_cases hm0 : m = 0
  · have hv : sl src = .slice none 0 0 := hnil (List.eq_nil_of_length_eq_zero (by omega))
    rw [hv] at hlk
    have HMM := Lib.hid hmm
    have HM0 := Lib.hid hm0
    clear hsame hbm hbx hW h1 h2 hmap hrow hnil hmm hm0 hv
    refine callsIn_of_wp Try.func108 rfl trivial ?_ rfl
    simp only [Try.ntmps108, List.size_toArray, List.length_cons, List.length_nil, Nat.reduceAdd, Nat.reduceSub, Array.replicate_succ, Array.replicate_zero, List.push_toArray, List.append_toArray, List.nil_append, List.cons_append]
    gi_wp2
    gi_loopw [10] (fun i wr => i = .int .i64 0 ∧ wr = W) (fun _ _ => 0)
    case atStart => exact ⟨rfl, rfl⟩
    case round =>
      obtain ⟨rfl, rfl⟩ := hrel
      gi_wp2
      go_end0
      refine ⟨⟨_, rfl⟩, fun _ => False, fun _ h => h.elim, Nat.le_refl _, .inl ?_⟩
      rw [← HMM.out, HM0.out]; exact h0
  · obtain ⟨g, cap, hv⟩ := own_form hrow (by omega)
    have hgl := (hrow.lt g (by rw [hv]; rfl)).2
    have hcell : ∀ j s, (ofSrc ss src)[j]? = some s → SynCells W g (0 + j * 4) s := fun j s hj => by
      have hjl : j < m := by rw [hmm]; exact (List.getElem?_eq_some_iff.1 hj).1
      obtain ⟨e1, e2, e3, e4⟩ := synCs_at _ j s hj
      rw [hv] at hrow
      exact ⟨by rw [hrow.cellAt _ (by omega), Nat.zero_add, e1], by rw [hrow.cellAt _ (by omega), Nat.zero_add, e2], by rw [hrow.cellAt _ (by omega), Nat.zero_add, e3], by rw [hrow.cellAt _ (by omega), Nat.zero_add, e4]⟩
    have hown : (sl src).ownBlock = some g := by rw [hv]; rfl
    rw [hv] at hlk
    have HC := Lib.hid hcell
    have HMM := Lib.hid hmm
    have HOW := Lib.hid hown
    have hmpos : 0 < m := by omega
    clear hsame hbm hbx hW h1 h2 hmap hrow hnil hmm hv hcell hown hm0
    refine callsIn_of_wp Try.func108 rfl trivial ?_ rfl
    simp only [Try.ntmps108, List.size_toArray, List.length_cons, List.length_nil, Nat.reduceAdd, Nat.reduceSub, Array.replicate_succ, Array.replicate_zero, List.push_toArray, List.append_toArray, List.nil_append, List.cons_append]
    gi_wp2
    gi_loopw [10] (fun i wr => ∃ k : Nat, k ≤ m ∧ i = .int .i64 k ∧ ∃ G : Nat → Prop, (∀ b, G b → W.heap.size ≤ b ∧ b < wr.heap.size) ∧ W.heap.size ≤ wr.heap.size ∧ J G k wr ∧ wr.heap[g]? = W.heap[g]?)
      (fun i _ => m - (intOf i).toNat)
    case atStart => exact ⟨0, Nat.zero_le _, rfl, fun _ => False, fun _ h => h.elim, Nat.le_refl _, h0, rfl⟩
    case round =>
      obtain ⟨k, hk, rfl, G, hG, hsz1, hJs, hgg⟩ := hrel
      have hi0 : (0 : Int) ≤ (k : Int) := Int.natCast_nonneg _
      by_cases hlt : k < m
      · have hi1 : (k : Int) < (m : Int) := by omega
        obtain ⟨x, hx⟩ : ∃ x, (ofSrc ss src)[k]? = some x := ⟨_, List.getElem?_eq_getElem (by rw [← HMM.out]; exact hlt)⟩
        have hJ2 : J G k (wr.alloc (.cells #[.int .i64 x.fr, .int .i64 x.to, .int .i64 x.wt, .int .i64 x.dl] 96)) := hJ G k wr _ hJs ((Bel.refl _ _ _).alloc (Nat.le_refl _) _)
        obtain ⟨fn, tmps, assign, body, hy, hR⟩ := hY G k x _ (fun b hb => ⟨(hG b hb).1, by have := (hG b hb).2; simp; omega⟩) (by simp; omega) hJ2 hx
        have hcw : ∀ o, wr.cell? ⟨g, o, none⟩ = W.cell? ⟨g, o, none⟩ := fun o => by unfold World.cell?; rw [hgg]
        obtain ⟨s0, s1, s2, s3⟩ := HC.out k x hx
        rw [← hcw, Nat.zero_add] at s0 s1 s2 s3
        have HX := Lib.hid hx
        have HGG := Lib.hid hgg
        clear hx hgg hcw
        unfold encS at hy
        gi_wp2
        refine ⟨rfl, hR.mono ?_⟩
        rintro e W3 (⟨rfl, G', hg, hJ3, hb3⟩ | ⟨rfl, G', hg, hJ3, hb3⟩)
        · gi_wp2
          go_roundw
          case rel =>
            have hs3 := hb3.size
            rw [World.size_alloc] at hs3
            refine ⟨k + 1, by omega, by simp, G', fun b hb => ⟨by rcases hg.new b hb with h | h; exact (hG b h).1; rw [World.size_alloc] at h; omega, hg.lt b hb⟩, by omega, hJ3, ?_⟩
            rw [hb3.block g (by rw [World.size_alloc]; omega) (fun h => h.1 (Or.inr (Or.inr (Or.inr HOW.out)))), Below.heap_alloc _ _ _ (by omega)]
            exact HGG.out
          case measure => simp [intOf]; omega
        · gi_wp2
          have hs3 := hb3.size
          rw [World.size_alloc] at hs3
          refine bodyPost_ret (results_none rfl _ _ _) rfl ?_
          exact ⟨⟨_, rfl⟩, G', fun b hb => ⟨by rcases hg.new b hb with h | h; exact (hG b h).1; rw [World.size_alloc] at h; omega, hg.lt b hb⟩, by omega, .inr ⟨k + 1, by rw [← HMM.out]; omega, hJ3⟩⟩
      · have hkm : k = m := by omega
        subst hkm
        have HJS := Lib.hid hJs
        clear hJs hlt
        gi_wp2
        go_end0
        refine ⟨⟨_, rfl⟩, G, hG, hsz1, .inl ?_⟩
        rw [← HMM.out]; exact HJS.out
end Go.Proofs.Ytgbcdebnanejpaa
namespace Go.Proofs.Ytgbcdebnanejpaa
set_option linter.unusedVariables false
open Go.RowKit Go.Shelf

def rowC (n : Nat) (f : Nat → Int) : List Value := (List.range n).map fun i => .int .i64 (f i)
def stC (st : List (Int × Int)) : List Value := st.flatMap fun s => [.int .i64 s.1, .int .i64 s.2]
theorem rowC_length (n : Nat) (f : Nat → Int) : (rowC n f).length = n := by simp [rowC]
theorem rowC_at {n : Nat} {f : Nat → Int} {i : Nat} (h : i < n) : (rowC n f)[i]? = some (.int .i64 (f i)) := by simp [rowC, h]
theorem stC_length (st : List (Int × Int)) : (stC st).length = st.length * 2 := by
  induction st with
  | nil => rfl
  | cons s l ih => simp [stC] at *; omega
theorem stC_at : ∀ (st : List (Int × Int)) (j : Nat) (s : Int × Int), st[j]? = some s → (stC st)[j * 2]? = some (.int .i64 s.1) ∧ (stC st)[j * 2 + 1]? = some (.int .i64 s.2)
  | [], j, s, h => by simp at h
  | x :: l, 0, s, h => by cases h; simp [stC]
  | x :: l, j + 1, s, h => by
    have ih := stC_at l j s (by simpa using h)
    have e : stC (x :: l) = [.int .i64 x.1, .int .i64 x.2] ++ stC l := by simp [stC]
    rw [e, List.getElem?_append_right (by simp; omega), List.getElem?_append_right (by simp; omega)]
    simp only [List.length_cons, List.length_nil]
    rw [show (j + 1) * 2 - (0 + 1 + 1) = j * 2 from by omega, show (j + 1) * 2 + 1 - (0 + 1 + 1) = j * 2 + 1 from by omega]
    exact ih
/-- A block that holds a row of ints. -/
def RowAt (W : World) (b n : Nat) (f : Nat → Int) : Prop := W.heap[b]? = some (.cells (rowC n f).toArray 3)
theorem RowAt.cell {W : World} {b n i : Nat} {f : Nat → Int} (h : RowAt W b n f) (hi : i < n) : W.cell? ⟨b, i, none⟩ = some (.int .i64 (f i)) ∧ W.frozen? ⟨b, i, none⟩ = false := by
  unfold RowAt at h
  have := rowC_at (f := f) hi
  constructor
  · simp [World.cell?, h]; simpa using this
  · simp [World.frozen?, h]
theorem RowAt.set {W : World} {b n i : Nat} {f : Nat → Int} (h : RowAt W b n f) (hi : i < n) (x : Int) : RowAt (W.setCell ⟨b, i, none⟩ (.int .i64 x)) b n (fun j => if j = i then x else f j) := by
  have e0 : (W.setCell ⟨b, i, none⟩ (.int .i64 x)).heap[b]? = some (.cells ((rowC n f).set i (.int .i64 x)).toArray 3) := by
    unfold RowAt at h
    simp [World.setCell, Array.getElem?_modify, h]
  unfold RowAt
  rw [e0]
  have e1 : (rowC n f).set i (.int .i64 x) = rowC n (fun j => if j = i then x else f j) := by
    apply List.ext_getElem
    · simp [rowC]
    · intro j h1 h2
      simp only [rowC, List.getElem_set, List.getElem_map, List.getElem_range]
      by_cases e : i = j
      · subst e; simp
      · rw [if_neg e, if_neg (fun h => e h.symm)]
  rw [e1]

structure SimZ where
  bs : Nat
  nv : Value
  mb : Nat
  base : Nat
  mn : Nat
  sl : Int → Value
  sb : Nat
  rb : Nat → Nat
def simHead (n : NetM) (z : SimZ) (t : Nat) : List Value := [.pointer (some ⟨z.bs, 0, none⟩), z.nv, .int .i64 n.inp, .map (some z.mb), .int .i64 (t : Int), .slice (some ⟨z.sb, 0, none⟩) n.ps.length n.ps.length]
def simRows (n : NetM) (z : SimZ) : List Value := (List.range 16).map fun d => .slice (some ⟨z.rb d, 0, none⟩) n.ps.length n.ps.length
/-- The blocks that a simulation writes. -/
def SimZ.mut (z : SimZ) (b : Nat) : Prop := b = z.bs ∨ b = z.sb ∨ ∃ d, d < 16 ∧ b = z.rb d
/-- A simulation in the tick t; its rows stand for the ticks from r0 on. -/
structure SimAt (n : NetM) (A : World) (B : Nat) (z : SimZ) (t r0 : Nat) (st : List (Int × Int)) (due : Due) : Prop where
  blk : A.heap[z.bs]? = some (.cells (simHead n z t ++ simRows n z).toArray 104)
  ps : PsAt A z.nv n.ps
  psM : ∀ g, z.nv.ownBlock = some g → ¬ z.mut g
  wires : WiresAt A z.mb z.base z.mn n.ss z.sl
  wiM : ∀ x g, (z.sl x).ownBlock = some g → ¬ z.mut g
  mbM : ¬ z.mut z.mb
  stb : A.heap[z.sb]? = some (.cells (stC st).toArray 98)
  len : st.length = n.ps.length
  row : ∀ a, r0 ≤ a → a < r0 + 16 → RowAt A (z.rb (a % 16)) n.ps.length (due a)
  zero : ∀ a i, r0 + 16 ≤ a → due a i = 0
  inj : ∀ d d', d < 16 → d' < 16 → z.rb d = z.rb d' → d = d'
  ne1 : z.bs ≠ z.sb
  ne2 : ∀ d, d < 16 → z.bs ≠ z.rb d
  ne3 : ∀ d, d < 16 → z.sb ≠ z.rb d
  lo : ∀ b, z.mut b → B ≤ b
theorem SimAt.head {n : NetM} {A : World} {B : Nat} {z : SimZ} {t r0 : Nat} {st : List (Int × Int)} {due : Due} (h : SimAt n A B z t r0 st due) :
    A.cell? ⟨z.bs, 0, none⟩ = some (.pointer (some ⟨z.bs, 0, none⟩)) ∧ A.cell? ⟨z.bs, 1, none⟩ = some z.nv ∧ A.cell? ⟨z.bs, 2, none⟩ = some (.int .i64 n.inp) ∧ A.cell? ⟨z.bs, 3, none⟩ = some (.map (some z.mb)) ∧ A.cell? ⟨z.bs, 4, none⟩ = some (.int .i64 (t : Int)) ∧ A.cell? ⟨z.bs, 5, none⟩ = some (.slice (some ⟨z.sb, 0, none⟩) n.ps.length n.ps.length) := by
  have hb := h.blk
  simp only [simHead, List.cons_append, List.nil_append] at hb
  refine ⟨?_, ?_, ?_, ?_, ?_, ?_⟩ <;> simp [World.cell?, hb]
theorem SimAt.rowSlice {n : NetM} {A : World} {B : Nat} {z : SimZ} {t r0 : Nat} {st : List (Int × Int)} {due : Due} (h : SimAt n A B z t r0 st due) (a : Nat) : A.cell? ⟨z.bs, 6 + a % 16, none⟩ = some (.slice (some ⟨z.rb (a % 16), 0, none⟩) n.ps.length n.ps.length) := by
  have hb := h.blk
  have hd : a % 16 < 16 := Nat.mod_lt _ (by omega)
  have e : (simHead n z t ++ simRows n z)[6 + a % 16]? = some (.slice (some ⟨z.rb (a % 16), 0, none⟩) n.ps.length n.ps.length) := by
    rw [List.getElem?_append_right (by simp [simHead])]
    simp [simHead, simRows, hd]
  unfold World.cell?
  rw [hb]
  simpa using e
/-- What a simulation does not write may change. -/
theorem SimAt.keep {n : NetM} {A A' : World} {B : Nat} {z : SimZ} {t r0 : Nat} {st : List (Int × Int)} {due : Due} (h : SimAt n A B z t r0 st due) (hb : ∀ b, b < A.heap.size → A'.heap[b]? = A.heap[b]?) (hs : A.heap.size ≤ A'.heap.size) : SimAt n A' B z t r0 st due := by
  have hc : ∀ b o, b < A.heap.size → A'.cell? ⟨b, o, none⟩ = A.cell? ⟨b, o, none⟩ := fun b o hl => by unfold World.cell?; rw [hb b hl]
  refine ⟨(hb _ (lt_of_block h.blk)).trans h.blk, ?_, h.psM, h.wires.of_block (hb _ h.wires.map.lt) (fun b _ h2 => hb b h2), h.wiM, h.mbM, (hb _ (lt_of_block h.stb)).trans h.stb, h.len, fun a h1 h2 => (hb _ (lt_of_block (h.row a h1 h2))).trans (h.row a h1 h2), h.zero, h.inj, h.ne1, h.ne2, h.ne3, h.lo⟩
  rcases h.ps with h0 | ⟨b, off, cap, e, hl, h1⟩
  · exact Or.inl h0
  · refine Or.inr ⟨b, off, cap, e, by omega, fun k p hk => ?_⟩
    obtain ⟨c0, c1, c2, c3, c4, c5, c6, c7⟩ := h1 k p hk
    exact ⟨(hc _ _ hl).trans c0, (hc _ _ hl).trans c1, (hc _ _ hl).trans c2, (hc _ _ hl).trans c3, (hc _ _ hl).trans c4, (hc _ _ hl).trans c5, (hc _ _ hl).trans c6, (hc _ _ hl).trans c7⟩
end Go.Proofs.Ytgbcdebnanejpaa
namespace Go.Proofs.Ytgbcdebnanejpaa
set_option linter.unusedVariables false
open Go.RowKit Go.Shelf

/-- All blocks of a simulation lie below N. -/
structure SimIn (z : SimZ) (N : Nat) : Prop where
  bs : z.bs < N
  sb : z.sb < N
  rb : ∀ d, d < 16 → z.rb d < N
  mb : z.mb < N
  nv : ∀ g, z.nv.ownBlock = some g → g < N
  sl : ∀ x g, (z.sl x).ownBlock = some g → g < N
theorem SimIn.mut {z : SimZ} {N : Nat} (h : SimIn z N) {b : Nat} (hb : z.mut b) : b < N := by
  rcases hb with rfl | rfl | ⟨d, hd, rfl⟩
  · exact h.bs
  · exact h.sb
  · exact h.rb d hd
theorem SimAt.isIn {n : NetM} {A : World} {B : Nat} {z : SimZ} {t r0 : Nat} {st : List (Int × Int)} {due : Due} (h : SimAt n A B z t r0 st due) : SimIn z A.heap.size := by
  refine ⟨lt_of_block h.blk, lt_of_block h.stb, fun d hd => ?_, h.wires.map.lt, fun g hg => ?_, fun x g hg => ((h.wires.row x).lt g hg).2⟩
  · have hr := h.row (r0 + (d + 16 - r0 % 16) % 16) (by omega) (by omega)
    rw [show (r0 + (d + 16 - r0 % 16) % 16) % 16 = d from by omega] at hr
    exact lt_of_block hr
  · rcases h.ps with ⟨h0, _⟩ | ⟨b, off, cap, e, hl, _⟩
    · rw [h0] at hg; simp [Value.ownBlock] at hg
    · rw [e] at hg; simp [Value.ownBlock] at hg; omega
theorem SimAt.keepN {n : NetM} {A A' : World} {B N : Nat} {z : SimZ} {t r0 : Nat} {st : List (Int × Int)} {due : Due} (h : SimAt n A B z t r0 st due) (hN : SimIn z N) (hb : ∀ b, b < N → A'.heap[b]? = A.heap[b]?) : SimAt n A' B z t r0 st due := by
  have hc : ∀ b o, b < N → A'.cell? ⟨b, o, none⟩ = A.cell? ⟨b, o, none⟩ := fun b o hl => by unfold World.cell?; rw [hb b hl]
  refine ⟨(hb _ hN.bs).trans h.blk, ?_, h.psM, ⟨h.wires.map.of_block (hb _ hN.mb), fun x => ownsRow_of_block (h.wires.row x) fun g hg => hb g (hN.sl x g hg), h.wires.nil, h.wires.apart, h.wires.lt⟩, h.wiM, h.mbM, (hb _ hN.sb).trans h.stb, h.len, fun a h1 h2 => (hb _ (hN.rb _ (Nat.mod_lt _ (by omega)))).trans (h.row a h1 h2), h.zero, h.inj, h.ne1, h.ne2, h.ne3, h.lo⟩
  rcases h.ps with h0 | ⟨b, off, cap, e, hl, h1⟩
  · exact Or.inl h0
  · have hbN : b < N := hN.nv b (by rw [e]; rfl)
    have hl' : b < A'.heap.size := by
      have hx : A'.heap[b]? = some (A.heap[b]'hl) := by rw [hb b hbN]; exact Array.getElem?_eq_getElem hl
      exact lt_of_block hx
    refine Or.inr ⟨b, off, cap, e, hl', fun k p hk => ?_⟩
    obtain ⟨c0, c1, c2, c3, c4, c5, c6, c7⟩ := h1 k p hk
    exact ⟨(hc _ _ hbN).trans c0, (hc _ _ hbN).trans c1, (hc _ _ hbN).trans c2, (hc _ _ hbN).trans c3, (hc _ _ hbN).trans c4, (hc _ _ hbN).trans c5, (hc _ _ hbN).trans c6, (hc _ _ hbN).trans c7⟩
/-- One number of what is due. -/
theorem SimAt.setDue {n : NetM} {A : World} {B : Nat} {z : SimZ} {t r0 : Nat} {st : List (Int × Int)} {due : Due} (h : SimAt n A B z t r0 st due) (a i : Nat) (h1 : r0 ≤ a) (h2 : a < r0 + 16) (hi : i < n.ps.length) (x : Int) :
    SimAt n (A.setCell ⟨z.rb (a % 16), i, none⟩ (.int .i64 x)) B z t r0 st (fun a' i' => if a' = a ∧ i' = i then x else due a' i') := by
  have hm : z.mut (z.rb (a % 16)) := Or.inr (Or.inr ⟨_, Nat.mod_lt _ (by omega), rfl⟩)
  have hb : ∀ b, b ≠ z.rb (a % 16) → (A.setCell ⟨z.rb (a % 16), i, none⟩ (.int .i64 x)).heap[b]? = A.heap[b]? := fun b hn => Below.heap_setCell _ _ _ _ (by exact hn)
  have hnm : ∀ b, ¬ z.mut b → b ≠ z.rb (a % 16) := fun b hb e => hb (e ▸ hm)
  refine ⟨(hb _ (h.ne2 _ (Nat.mod_lt _ (by omega)))).trans h.blk, ?_, h.psM, ⟨h.wires.map.of_block (hb _ (hnm _ h.mbM)), fun x => ownsRow_of_block (h.wires.row x) fun g hg => hb g (hnm _ (h.wiM x g hg)), h.wires.nil, h.wires.apart, h.wires.lt⟩, h.wiM, h.mbM, (hb _ (h.ne3 _ (Nat.mod_lt _ (by omega)))).trans h.stb, h.len, fun a' g1 g2 => ?_, fun a' i' g => ?_, h.inj, h.ne1, h.ne2, h.ne3, h.lo⟩
  · rcases h.ps with h0 | ⟨b, off, cap, e, hl, h1'⟩
    · exact Or.inl h0
    · have hbn : b ≠ z.rb (a % 16) := hnm b (h.psM b (by rw [e]; rfl))
      have hc : ∀ o, (A.setCell ⟨z.rb (a % 16), i, none⟩ (.int .i64 x)).cell? ⟨b, o, none⟩ = A.cell? ⟨b, o, none⟩ := fun o => by unfold World.cell?; rw [hb b hbn]
      refine Or.inr ⟨b, off, cap, e, by simp [World.setCell]; exact hl, fun k p hk => ?_⟩
      obtain ⟨c0, c1, c2, c3, c4, c5, c6, c7⟩ := h1' k p hk
      exact ⟨(hc _).trans c0, (hc _).trans c1, (hc _).trans c2, (hc _).trans c3, (hc _).trans c4, (hc _).trans c5, (hc _).trans c6, (hc _).trans c7⟩
  · by_cases e : a' = a
    · subst e
      have := (h.row a' g1 g2).set hi x
      simpa using this
    · have hne : z.rb (a' % 16) ≠ z.rb (a % 16) := fun e1 => by
        have := h.inj _ _ (Nat.mod_lt _ (by omega)) (Nat.mod_lt _ (by omega)) e1
        omega
      have := (hb _ hne).trans (h.row a' g1 g2)
      simpa [RowAt, e] using this
  · rw [if_neg (by omega)]; exact h.zero a' i' g

set_option maxHeartbeats 400000 in
theorem from_any (mb : Nat) (src : Int) (w : World) :
    Calls Try.prog 77 #[.map (some mb), .int .i64 src] w fun e w' => e = .returned (.func (.func 108) #[] #[.pointer (some ⟨w.heap.size, 0, none⟩), .pointer (some ⟨w.heap.size + 1, 0, none⟩)]) ∧
      (w.alloc (.cells #[.map (some mb)] 100)).alloc (.cells #[.int .i64 src] 3) = w' := by
  go_enter Try.func77, Try.ntmps77
  go_wp2
  go_ret
  exact ⟨rfl, rfl⟩
end Go.Proofs.Ytgbcdebnanejpaa
