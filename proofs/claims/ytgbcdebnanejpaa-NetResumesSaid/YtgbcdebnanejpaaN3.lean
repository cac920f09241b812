/- net.take. -/
import Derived.Test.YtgbcdebnanejpaaN5
namespace Go.Proofs.Ytgbcdebnanejpaa
set_option linter.unusedVariables false
open Go.RowKit Go.Shelf

/-- A slice of events, with its capacity. -/
def EvsC (W : World) (sv : Value) (l : List Evt) : Prop := EvsAt W sv l ∧ ∃ a cap, sv = .slice a l.length cap ∧ l.length ≤ cap ∧ cap ≤ maxLen
theorem EvsC.below {W w1 : World} {sv : Value} {l : List Evt} (h : EvsC W sv l) (hb : Below W.heap.size W w1) : EvsC w1 sv l := ⟨h.1.below hb, h.2⟩
def sliceLen : Value → Nat
  | .slice _ n _ => n
  | _ => 0
/-- The first k events are at the tick t; these are their Ids, and the other events. -/
def TakeI (l : List Evt) (t : Int) (B : Nat) (s0 s4 : Value) (k : Nat) (A : World) : Prop :=
  k ≤ l.length ∧ (∀ j e, j < k → l[j]? = some e → e.tk = t) ∧ EvsC A s0 (l.drop k) ∧ (∀ g, s0.ownBlock = some g → g < B) ∧ A.ownsRow B 3 1 s4 k ((l.take k).map fun e => .int .i64 e.id)
/-- How many of the first events are at the tick t. -/
def cntT (l : List Evt) (t : Int) : Nat := (l.takeWhile fun e => decide (e.tk = t)).length
def TakeOut (l : List Evt) (t : Int) (w : World) (e : Ending) (w' : World) : Prop :=
  ∃ v v2, e = .returned (.tuple #[v, v2]) ∧ w'.ownsRow w.heap.size 3 1 v (cntT l t) ((l.take (cntT l t)).map fun e => .int .i64 e.id) ∧ EvsC w' v2 (l.drop (cntT l t)) ∧ Below w.heap.size w w'
theorem EvsAt.old {W : World} {sv : Value} {l : List Evt} (h : EvsAt W sv l) : ∀ g, sv.ownBlock = some g → g < W.heap.size := by
  intro g hg
  rcases h with ⟨rfl, _⟩ | ⟨b, off, cap, rfl, hb, _⟩
  · simp [Value.ownBlock] at hg
  · simp [Value.ownBlock] at hg; omega
theorem take_step {l : List Evt} {t X2 : Int} {B k b off L c : Nat} {w wr w3 : World} {s4 v' : Value} {o : Obj} (hk : k < l.length) (hx : l[k]? = some ⟨t, X2⟩) (h2 : ∀ j e, j < k → l[j]? = some e → e.tk = t)
    (h3 : EvsC wr (.slice (some ⟨b, off, none⟩) L c) (l.drop k)) (hL : L = l.length - k) (hb : b < B) (h4 : wr.ownsRow B 3 1 s4 k ((l.take k).map fun e => .int .i64 e.id)) (hBw : B ≤ wr.heap.size) (hbel : Below B w wr)
    (hown : w3.ownsRow B 3 1 v' (k + 1) ((l.take k).map (fun e => .int .i64 e.id) ++ [.int .i64 X2])) (hg : (wr.alloc o).grownBy w3 s4.ownBlock) :
    (c = 1 → TakeI l t B (.slice (some ⟨b, off, none⟩) 0 0) v' (k + 1) w3) ∧ (c ≠ 1 → TakeI l t B (.slice (some ⟨b, off + 2, none⟩) (L - 1) (c - 1)) v' (k + 1) w3) ∧ Below B w w3 := by
  have hs3 := hg.size
  rw [World.size_alloc] at hs3
  have old : ∀ g, g < B → w3.heap[g]? = wr.heap[g]? := fun g h => by
    rw [hg.block g (by rw [World.size_alloc]; omega) (fun e => by have := (h4.lt g e.symm).1; omega), Below.heap_alloc _ _ _ (by omega)]
  have hlen : (l.drop (k + 1)).length = L - 1 := by rw [List.length_drop]; omega
  have hrow : (l.take (k + 1)).map (fun e => Value.int .i64 e.id) = (l.take k).map (fun e => Value.int .i64 e.id) ++ [Value.int .i64 X2] := by
    rw [List.take_add_one, hx]; simp
  have h2' : ∀ j e, j < k + 1 → l[j]? = some e → e.tk = t := fun j e hj he => by
    by_cases q : j = k
    · subst q; rw [hx] at he; cases he; rfl
    · exact h2 j e (by omega) he
  obtain ⟨h31, a, cap, he, hcl, hcm⟩ := h3
  obtain ⟨_, _, e3⟩ : some (⟨b, off, none⟩ : Addr) = a ∧ L = (l.drop k).length ∧ c = cap := by simpa using he
  rw [← e3] at hcl hcm
  have hcells : ∀ j e, (l.drop k)[j]? = some e → EvCells wr b (off + j * 2) e := fun j e hj => by
    obtain ⟨b', off', e1, _, h⟩ := h31.at hj
    cases e1; exact h
  have hcl' : L ≤ c := by rw [List.length_drop] at hcl; omega
  have hL1 : c = 1 → L - 1 = 0 := by omega
  refine ⟨fun hc => ⟨by omega, h2', ⟨?_, some ⟨b, off, none⟩, 0, ?_, ?_, ?_⟩, fun g h => by simp [Value.ownBlock] at h; omega, by rw [hrow]; exact hown⟩, fun hc => ⟨by omega, h2', ⟨?_, some ⟨b, off + 2, none⟩, c - 1, ?_, ?_, ?_⟩, fun g h => by simp [Value.ownBlock] at h; omega, by rw [hrow]; exact hown⟩, ?_⟩
  · refine Or.inr ⟨b, off, 0, by rw [hlen, hL1 hc], by omega, fun j e hj => ?_⟩
    have : (l.drop (k + 1)).length = 0 := by omega
    rw [List.eq_nil_of_length_eq_zero this] at hj
    simp at hj
  · rw [hlen, hL1 hc]
  · omega
  · unfold maxLen; omega
  · refine Or.inr ⟨b, off + 2, c - 1, by rw [hlen], by omega, fun j e hj => ?_⟩
    have h := hcells (j + 1) e (by rw [List.getElem?_drop] at hj ⊢; rw [← hj]; congr 1; omega)
    have e1 : ∀ o', w3.cell? ⟨b, o', none⟩ = wr.cell? ⟨b, o', none⟩ := fun o' => by unfold World.cell?; rw [old b hb]
    exact ⟨by rw [e1, show off + 2 + j * 2 = off + (j + 1) * 2 from by omega]; exact h.c0, by rw [e1, show off + 2 + j * 2 + 1 = off + (j + 1) * 2 + 1 from by omega]; exact h.c1⟩
  · rw [hlen]
  · omega
  · omega
  · exact ⟨hg.os.trans hbel.os, hg.tape.trans hbel.tape, hg.output.trans hbel.output, by have := hbel.size; omega, fun b' h => (old b' h).trans (hbel.block b' h)⟩
theorem cntT_at {l : List Evt} {t : Int} {k : Nat} (h1 : k ≤ l.length) (h2 : ∀ j e, j < k → l[j]? = some e → e.tk = t) (h3 : ∀ e, l[k]? = some e → e.tk ≠ t) : cntT l t = k := by
  induction l generalizing k with
  | nil => simp [cntT] at *; omega
  | cons x l ih =>
    match k with
    | 0 => have := h3 x rfl; simp [cntT, this]
    | k + 1 =>
      have hx := h2 0 x (by omega) rfl
      have := ih (k := k) (by simpa using h1) (fun j e hj he => h2 (j + 1) e (by omega) (by simpa using he)) (fun e he => h3 e (by simpa using he))
      unfold cntT at *
      simp [hx, this]

set_option maxRecDepth 100000 in
set_option maxHeartbeats 4000000 in
theorem take_any (l : List Evt) (sv : Value) (t : Int) (hl : l.length ≤ 65536) (w : World) (he : EvsC w sv l) :
    Calls Try.prog 60 #[sv, .int .i64 t] w (TakeOut l t w) := by
  obtain ⟨i0, hi, hz0, hzz1, hzz2⟩ := info_parts Try.info3
  have HE := Lib.hid he
  have HO0 := Lib.hid he.1.old
  obtain ⟨_, a0, c0, rfl, hc0, hc1⟩ := he
  go_enter Try.func60, Try.ntmps60
  go_wp2
  go_loopw [0, 4] (fun s0 s4 wr => ∃ k : Nat, TakeI l t w.heap.size s0 s4 k wr ∧ Below w.heap.size w wr) (fun s0 _ _ => sliceLen s0)
  case atStart => exact ⟨0, ⟨Nat.zero_le _, fun j e h => by omega, HE.out, HO0.out, World.ownsRow_nil _ _ _ _⟩, Below.refl _ _⟩
  case round =>
    obtain ⟨k, ⟨h1, h2, h3, h5, h4⟩, hb⟩ := hrel
    have H3 := Lib.hid h3
    obtain ⟨h31, a, c, rfl, hcl, hcm⟩ := h3
    obtain ⟨L, hL⟩ : ∃ L, L = (l.drop k).length := ⟨_, rfl⟩
    rw [← hL] at h31 hcl H3 ⊢
    have hLk : L = l.length - k := by rw [hL, List.length_drop]
    have HL := Lib.hid hL
    have H2 := Lib.hid h2
    have H4 := Lib.hid h4
    have HB := Lib.hid hb
    have H5 := Lib.hid h5
    clear h2 h4 h5 hb hL
    by_cases hk : k = l.length
    · have hL0 : L = 0 := by omega
      have hct : cntT l t = k := cntT_at h1 H2.out fun e he => by rw [List.getElem?_eq_none (by omega)] at he; cases he
      have HCT := Lib.hid hct
      have HKK := Lib.hid hk
      have HLL := Lib.hid hLk
      subst hL0
      clear hct hk hLk h31
      go_wp2
      go_ret2
      refine ⟨_, _, rfl, ?_, ?_, HB.out⟩
      · rw [HCT.out]; exact H4.out
      · rw [HCT.out]; exact H3.out
    · obtain ⟨x, hx⟩ : ∃ x, l[k]? = some x := ⟨_, List.getElem?_eq_getElem (by omega)⟩
      have hx0 : (l.drop k)[0]? = some x := by rw [List.getElem?_drop]; simpa using hx
      obtain ⟨b, off, rfl, hbl, u1, u2⟩ := h31.at hx0
      simp only [Nat.zero_mul, Nat.add_zero] at u1 u2
      obtain ⟨X1, X2⟩ := x
      simp only at u1 u2
      have n0 : 0 < L := by omega
      have n1 : (0 : Int) < (L : Int) := by omega
      have HX := Lib.hid hx
      have HLL := Lib.hid hLk
      clear hx hx0 hLk h31
      by_cases ht : X1 = t
      · subst ht
        by_cases hc1' : c = 1
        · subst hc1'
          go_wp2_with (at_builtin; refine wpList_append_own _ rfl _ _ 44 rfl w.heap.size 3 i0 (.int .i64 0) 1 8 Try.underlying44 hi hz0 hzz1 hzz2 rfl (by decide) u4 k _ rfl (H4.out.alloc _) ⟨wr.heap.size, 0, none⟩ 1 1 [.int .i64 X2] rfl rfl (cell_one_new _ _ _) (by simp [Value.oneCell']) (by unfold maxLen; omega) (by omega) (by have := HB.out.size; simp; omega) ?_; intro v' w3 hown' hgrow _; have HO := Lib.hid hown'; have HG := Lib.hid hgrow; clear hown' hgrow)
          obtain ⟨q1, _, q3⟩ := take_step (by omega) HX.out H2.out H3.out HLL.out (H5.out b rfl) H4.out HB.out.size HB.out HO.out HG.out
          exact ⟨⟨k + 1, q1 rfl, q3⟩, by simp only [sliceLen]; omega⟩
        · have c1 : (c : Int) ≠ 1 := by omega
          have c2 : (c == 1) = false := by simp [hc1']
          have HC1 := Lib.hid hc1'
          clear hc1'
          go_wp2_with (at_builtin; refine wpList_append_own _ rfl _ _ 44 rfl w.heap.size 3 i0 (.int .i64 0) 1 8 Try.underlying44 hi hz0 hzz1 hzz2 rfl (by decide) u4 k _ rfl (H4.out.alloc _) ⟨wr.heap.size, 0, none⟩ 1 1 [.int .i64 X2] rfl rfl (cell_one_new _ _ _) (by simp [Value.oneCell']) (by unfold maxLen; omega) (by omega) (by have := HB.out.size; simp; omega) ?_; intro v' w3 hown' hgrow _; have HO := Lib.hid hown'; have HG := Lib.hid hgrow; clear hown' hgrow)
          obtain ⟨_, q2, q3⟩ := take_step (by omega) HX.out H2.out H3.out HLL.out (H5.out b rfl) H4.out HB.out.size HB.out HO.out HG.out
          exact ⟨⟨k + 1, q2 HC1.out, q3⟩, by simp only [sliceLen]; omega⟩
      · have ht' : (X1 == t) = false := by simp [ht]
        have hct : cntT l t = k := cntT_at h1 H2.out fun e he => by rw [HX.out] at he; cases he; exact ht
        have HCT := Lib.hid hct
        clear hct ht
        go_wp2
        go_ret2
        refine ⟨_, _, rfl, ?_, ?_, HB.out⟩
        · rw [HCT.out]; exact H4.out
        · rw [HCT.out]; exact H3.out
end Go.Proofs.Ytgbcdebnanejpaa
namespace Go.Proofs.Ytgbcdebnanejpaa
set_option linter.unusedVariables false
open Go.RowKit Go.Shelf

set_option maxHeartbeats 1000000 in
theorem row_any (b o t : Nat) (v : Value) (ht : (t : Int) ≤ 4294967296) (w : World) (hc : w.cell? ⟨b, o + t % 16, none⟩ = some v) :
    Calls Try.prog 80 #[.pointer (some ⟨b, o, none⟩), .int .i64 (t : Int)] w fun e w' => e = .returned v ∧ w = w' := by
  have h1 : (0 : Int) ≤ (t : Int) := Int.natCast_nonneg _
  have h2 : (t : Int) % 16 < 16 := by omega
  have h3 : (0 : Int) ≤ (t : Int) % 16 := by omega
  have h4 : ((t : Int) % 16).toNat = t % 16 := by omega
  go_enter Try.func80, Try.ntmps80
  go_wp2
  go_ret
  trace_state
  exact ⟨rfl, rfl⟩
end Go.Proofs.Ytgbcdebnanejpaa
