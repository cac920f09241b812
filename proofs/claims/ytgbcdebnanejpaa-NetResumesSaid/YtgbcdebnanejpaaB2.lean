/- The mathematics of a run: sorted events, valid states. Over any program. -/
import Derived.Test.YtgbcdebnanejpaaB1
import Derived.Test.YtgbcdebnanejpaaNu
import Derived.Test.YtgbcdebnanejpaaN3
import Derived.Sort.CutIn
namespace Go.Proofs.Ytgbcdebnanejpaa
set_option linter.unusedVariables false
open Go.RowKit Go.Shelf

/-- The events from the tick t on. -/
def fromT (l : List Evt) (t : Nat) : List Evt := l.dropWhile fun e => decide (e.tk < (t : Int))
abbrev LeT (a b : Evt) : Prop := a.tk ≤ b.tk
theorem takeW_eq {t : Int} : ∀ {l : List Evt}, l.Pairwise LeT → (∀ e ∈ l, t ≤ e.tk) → l.takeWhile (fun e => decide (e.tk = t)) = l.filter fun e => decide (e.tk = t)
  | [], _, _ => rfl
  | x :: l, h, hg => by
    obtain ⟨h1, h2⟩ := List.pairwise_cons.1 h
    by_cases e : x.tk = t
    · rw [List.takeWhile_cons_of_pos (by simpa using e), List.filter_cons_of_pos (by simpa using e), takeW_eq h2 fun e he => hg e (by simp [he])]
    · rw [List.takeWhile_cons_of_neg (by simpa using e), List.filter_cons_of_neg (by simpa using e)]
      symm
      rw [List.filter_eq_nil_iff]
      intro y hy
      have := h1 y hy
      have := hg x (by simp)
      simp; omega
theorem fromT_filter {t : Nat} : ∀ {l : List Evt}, l.Pairwise LeT → (fromT l t).takeWhile (fun e => decide (e.tk = (t : Int))) = l.filter fun e => decide (e.tk = (t : Int))
  | [], _ => rfl
  | x :: l, h => by
    obtain ⟨h1, h2⟩ := List.pairwise_cons.1 h
    by_cases e : x.tk < (t : Int)
    · have e1 : fromT (x :: l) t = fromT l t := by unfold fromT; rw [List.dropWhile_cons_of_pos (by simpa using e)]
      rw [e1, fromT_filter h2, List.filter_cons_of_neg (by simp; omega)]
    · have e1 : fromT (x :: l) t = x :: l := by unfold fromT; rw [List.dropWhile_cons_of_neg (by simpa using e)]
      rw [e1]
      exact takeW_eq h fun y hy => by
        rcases List.mem_cons.1 hy with rfl | hy
        · omega
        · have := h1 y hy; omega
theorem fromT_next {t : Nat} : ∀ {l : List Evt}, l.Pairwise LeT → (fromT l t).dropWhile (fun e => decide (e.tk = (t : Int))) = fromT l (t + 1)
  | [], _ => rfl
  | x :: l, h => by
    obtain ⟨h1, h2⟩ := List.pairwise_cons.1 h
    have ih := fromT_next (t := t) h2
    by_cases e : x.tk < (t : Int)
    · have e1 : fromT (x :: l) t = fromT l t := by unfold fromT; rw [List.dropWhile_cons_of_pos (by simpa using e)]
      have e2 : fromT (x :: l) (t + 1) = fromT l (t + 1) := by unfold fromT; rw [List.dropWhile_cons_of_pos (by simp; omega)]
      rw [e1, e2, ih]
    · have e1 : fromT (x :: l) t = x :: l := by unfold fromT; rw [List.dropWhile_cons_of_neg (by simpa using e)]
      rw [e1]
      by_cases q : x.tk = (t : Int)
      · have e2 : fromT (x :: l) (t + 1) = fromT l (t + 1) := by unfold fromT; rw [List.dropWhile_cons_of_pos (by simp; omega)]
        have e3 : fromT l t = l := by
          unfold fromT
          cases l with
          | nil => rfl
          | cons y l => rw [List.dropWhile_cons_of_neg (by have := h1 y (by simp); simp; omega)]
        rw [List.dropWhile_cons_of_pos (by simpa using q), e2, ← ih, e3]
      · have e2 : fromT (x :: l) (t + 1) = x :: l := by unfold fromT; rw [List.dropWhile_cons_of_neg (by simp; omega)]
        rw [List.dropWhile_cons_of_neg (by simpa using q), e2]
theorem fromT_zero {l : List Evt} (h : ∀ e ∈ l, 0 ≤ e.tk) : fromT l 0 = l := by
  unfold fromT
  cases l with
  | nil => rfl
  | cons x l => rw [List.dropWhile_cons_of_neg (by have := h x (by simp); simp; omega)]
theorem take_takeW {p : Evt → Bool} : ∀ l : List Evt, l.take (l.takeWhile p).length = l.takeWhile p
  | [] => rfl
  | x :: l => by
    by_cases h : p x = true
    · rw [List.takeWhile_cons_of_pos h]; simp [take_takeW l]
    · rw [List.takeWhile_cons_of_neg h]; simp
theorem drop_takeW {p : Evt → Bool} : ∀ l : List Evt, l.drop (l.takeWhile p).length = l.dropWhile p
  | [] => rfl
  | x :: l => by
    by_cases h : p x = true
    · rw [List.takeWhile_cons_of_pos h, List.dropWhile_cons_of_pos h]; simp [drop_takeW l]
    · rw [List.takeWhile_cons_of_neg h, List.dropWhile_cons_of_neg h]; simp
/-- What take gives in the tick t. -/
theorem fromT_take {l : List Evt} {t : Nat} (h : l.Pairwise LeT) : ((fromT l t).take (cntT (fromT l t) t)).map Evt.id = idsAt l t ∧ (fromT l t).drop (cntT (fromT l t) t) = fromT l (t + 1) ∧ cntT (fromT l t) t = (idsAt l t).length := by
  unfold cntT idsAt
  refine ⟨?_, ?_, ?_⟩
  · rw [take_takeW, fromT_filter h]
  · rw [drop_takeW, fromT_next h]
  · rw [fromT_filter h, List.length_map]
/-- Events that pass the check are sorted. -/
theorem evs_ok {l : List Evt} {inp most : Int} (h : evsErr l inp most = 0) : l.Pairwise LeT ∧ ∀ e ∈ l, 0 ≤ e.tk ∧ e.tk ≤ most - 1 ∧ 0 ≤ e.id ∧ e.id ≤ inp - 1 := by
  have h0 := firstNz_none _ h
  have hr : ∀ j, j < l.length → (0 ≤ (l[j]?.getD ⟨0, 0⟩).tk ∧ (l[j]?.getD ⟨0, 0⟩).tk ≤ most - 1) ∧ (0 ≤ (l[j]?.getD ⟨0, 0⟩).id ∧ (l[j]?.getD ⟨0, 0⟩).id ≤ inp - 1) ∧ (0 < j → evLt (l[j - 1]?.getD ⟨0, 0⟩) (l[j]?.getD ⟨0, 0⟩) = true) := fun j hj => by
    have h1 := h0 j hj
    unfold evErrAt at h1
    split at h1
    · rename_i hc
      simp [inR] at hc
      refine ⟨by omega, by omega, fun hj0 => ?_⟩
      split at h1
      · cases h1
      · rename_i hn
        cases hb : evLt (l[j - 1]?.getD ⟨0, 0⟩) (l[j]?.getD ⟨0, 0⟩) with
        | true => rfl
        | false => exact absurd ⟨hj0, hb⟩ hn
    · cases h1
  have hle : ∀ i d, i + d < l.length → (l[i]?.getD ⟨0, 0⟩).tk ≤ (l[i + d]?.getD ⟨0, 0⟩).tk := fun i d => by
    induction d with
    | zero => intro _; exact Int.le_refl _
    | succ d ih =>
      intro hd
      have h1 := ih (by omega)
      have h2 := (hr (i + d + 1) hd).2.2 (by omega)
      rw [Nat.add_sub_cancel] at h2
      simp [evLt] at h2
      rw [show i + (d + 1) = i + d + 1 by omega]
      omega
  refine ⟨List.pairwise_iff_getElem.2 fun i j hi hj hij => ?_, fun e he => ?_⟩
  · have h1 := hle i (j - i) (by omega)
    rw [show i + (j - i) = j by omega, List.getElem?_eq_getElem hi, List.getElem?_eq_getElem hj] at h1
    simpa using h1
  · obtain ⟨j, hj, rfl⟩ := List.getElem_of_mem he
    have h1 := hr j hj
    rw [List.getElem?_eq_getElem hj] at h1
    simp at h1
    omega
theorem ids_in {l : List Evt} {inp most : Int} (h : evsErr l inp most = 0) {t : Nat} {x : Int} (hx : x ∈ idsAt l t) : 0 ≤ x ∧ x < inp := by
  unfold idsAt at hx
  obtain ⟨e, he, rfl⟩ := List.mem_map.1 hx
  have := (evs_ok h).2 e (List.mem_filter.1 he).1
  omega
theorem idsAt_le (l : List Evt) (t : Nat) : (idsAt l t).length ≤ l.length := by
  unfold idsAt; rw [List.length_map]; exact List.length_filter_le _ _

theorem valid_tick {p : Prm} {V R d : Int} (h : validP p V R = 0) : validP p (tV p V R d) (tR p V R d) = 0 := by
  obtain ⟨hok, a, b, c, e⟩ := ok_of_valid h
  obtain ⟨h1, h2, h3, h4⟩ := tick_valid hok d a b c e
  have hck : checkP p = 0 := by
    unfold validP at h; split at h
    · assumption
    · rename_i hn; exact absurd h hn
  unfold validP; rw [if_pos hck, if_pos]; simp [inR, *]
theorem stOk_tick {n : NetM} {t : Nat} {S : RunS} {ids : List Int} (hl : S.st.length = n.ps.length) (h : StOk n.ps S.st) : StOk n.ps (tickM n t S ids).st := fun i p hp => by
  have hi : i < n.ps.length := (List.getElem?_eq_some_iff.1 hp).1
  have h1 := h i p hp
  show validP p (sAt (midS n.ps S.st (S.due t) n.ps.length) i).1 (sAt (midS n.ps S.st (S.due t) n.ps.length) i).2 = 0
  rw [sAt_midS _ _ _ _ _ (by omega), if_pos hi]
  have hpA : pAt n.ps i = p := by simp [pAt, hp]
  simp only [newS, hpA]
  exact valid_tick h1
theorem st_len (n : NetM) (l : List Evt) : ∀ t, (runS n l t).st.length = n.ps.length
  | 0 => by simp [runS, beginM]
  | t + 1 => by show (midS _ _ _ _).length = _; rw [midS_length]; exact st_len n l t
theorem stOk_run {n : NetM} (hok : NetOk n) (l : List Evt) : ∀ t, StOk n.ps (runS n l t).st
  | 0 => fun i p hp => by
    have hi : i < n.ps.length := (List.getElem?_eq_some_iff.1 hp).1
    have hs : sAt (runS n l 0).st i = (0, 0) := by simp [runS, beginM, sAt, hi]
    rw [hs]
    have hck := hok.ps p (List.mem_of_getElem? hp)
    have h1 := ok_of_check hck
    have h2 := h1.flM
    have h3 := h1.re0
    unfold validP; rw [if_pos hck, if_pos]; simp [inR, h2, h3]
  | t + 1 => stOk_tick (st_len n l t) (stOk_run hok l t)
theorem runO_mono (n : NetM) (l : List Evt) (t d : Nat) : (runO n l t).length ≤ (runO n l (t + d)).length := by
  induction d with
  | zero => exact Nat.le_refl _
  | succ d ih =>
    rw [show t + (d + 1) = (t + d) + 1 by omega]
    simp only [runO, List.length_append]
    omega
end Go.Proofs.Ytgbcdebnanejpaa
namespace Go.Proofs.Ytgbcdebnanejpaa
set_option linter.unusedVariables false
open Go.RowKit Go.Shelf

/-- The first k events are at the tick t; these are their Ids, and the other events. -/
def TakeJ (ob : Option Nat) (l : List Evt) (t : Int) (B : Nat) (s0 s4 : Value) (k : Nat) (A : World) : Prop :=
  k ≤ l.length ∧ (∀ j e, j < k → l[j]? = some e → e.tk = t) ∧ EvsC A s0 (l.drop k) ∧ (∀ g, s0.ownBlock = some g → g < B ∧ ob = some g) ∧ A.ownsRow B 3 1 s4 k ((l.take k).map fun e => .int .i64 e.id)
def Take2 (ob : Option Nat) (l : List Evt) (t : Int) (w : World) (e : Ending) (w' : World) : Prop :=
  ∃ v v2, e = .returned (.tuple #[v, v2]) ∧ w'.ownsRow w.heap.size 3 1 v (cntT l t) ((l.take (cntT l t)).map fun e => .int .i64 e.id) ∧ EvsC w' v2 (l.drop (cntT l t)) ∧ (∀ g, v2.ownBlock = some g → ob = some g) ∧ Below w.heap.size w w'
theorem take_step2 {l : List Evt} {t X2 : Int} {B k b off L c : Nat} {w wr w3 : World} {s4 v' : Value} {o : Obj} (hk : k < l.length) (hx : l[k]? = some ⟨t, X2⟩) (h2 : ∀ j e, j < k → l[j]? = some e → e.tk = t)
    (h3 : EvsC wr (.slice (some ⟨b, off, none⟩) L c) (l.drop k)) (hL : L = l.length - k) {ob : Option Nat} (hb : b < B) (hob : ob = some b) (h4 : wr.ownsRow B 3 1 s4 k ((l.take k).map fun e => .int .i64 e.id)) (hBw : B ≤ wr.heap.size) (hbel : Below B w wr)
    (hown : w3.ownsRow B 3 1 v' (k + 1) ((l.take k).map (fun e => .int .i64 e.id) ++ [.int .i64 X2])) (hg : (wr.alloc o).grownBy w3 s4.ownBlock) :
    (c = 1 → TakeJ ob l t B (.slice (some ⟨b, off, none⟩) 0 0) v' (k + 1) w3) ∧ (c ≠ 1 → TakeJ ob l t B (.slice (some ⟨b, off + 2, none⟩) (L - 1) (c - 1)) v' (k + 1) w3) ∧ Below B w w3 := by
  have hs3 := hg.size
  rw [World.size_alloc] at hs3
  have old : ∀ g, g < B → w3.heap[g]? = wr.heap[g]? := fun g h => by
    rw [hg.block g (by rw [World.size_alloc]; omega) (fun e => by have := (h4.lt g e.symm).1; omega), Below.heap_alloc _ _ _ (by omega)]
  have hlen : (l.drop (k + 1)).length = L - 1 := by rw [List.length_drop]; omega
  have hrow : (l.take (k + 1)).map (fun e => Value.int .i64 e.id) = (l.take k).map (fun e => Value.int .i64 e.id) ++ [Value.int .i64 X2] := by
    rw [List.take_add_one, hx]; simp
  have h2' : ∀ j e, j < k + 1 → l[j]? = some e → e.tk = t := fun j e hj he => by
    by_cases q : j = k
    · subst q; rw [hx] at he; cases he; rfl
    · exact h2 j e (by omega) he
  obtain ⟨h31, a, cap, he, hcl, hcm⟩ := h3
  obtain ⟨_, _, e3⟩ : some (⟨b, off, none⟩ : Addr) = a ∧ L = (l.drop k).length ∧ c = cap := by simpa using he
  rw [← e3] at hcl hcm
  have hcells : ∀ j e, (l.drop k)[j]? = some e → EvCells wr b (off + j * 2) e := fun j e hj => by
    obtain ⟨b', off', e1, _, h⟩ := h31.at hj
    cases e1; exact h
  have hcl' : L ≤ c := by rw [List.length_drop] at hcl; omega
  have hL1 : c = 1 → L - 1 = 0 := by omega
  refine ⟨fun hc => ⟨by omega, h2', ⟨?_, some ⟨b, off, none⟩, 0, ?_, ?_, ?_⟩, fun g h => ⟨by simp [Value.ownBlock] at h; omega, by simp [Value.ownBlock] at h; rw [hob, h]⟩, by rw [hrow]; exact hown⟩, fun hc => ⟨by omega, h2', ⟨?_, some ⟨b, off + 2, none⟩, c - 1, ?_, ?_, ?_⟩, fun g h => ⟨by simp [Value.ownBlock] at h; omega, by simp [Value.ownBlock] at h; rw [hob, h]⟩, by rw [hrow]; exact hown⟩, ?_⟩
  · refine Or.inr ⟨b, off, 0, by rw [hlen, hL1 hc], by omega, fun j e hj => ?_⟩
    have : (l.drop (k + 1)).length = 0 := by omega
    rw [List.eq_nil_of_length_eq_zero this] at hj
    simp at hj
  · rw [hlen, hL1 hc]
  · omega
  · unfold maxLen; omega
  · refine Or.inr ⟨b, off + 2, c - 1, by rw [hlen], by omega, fun j e hj => ?_⟩
    have h := hcells (j + 1) e (by rw [List.getElem?_drop] at hj ⊢; rw [← hj]; congr 1; omega)
    have e1 : ∀ o', w3.cell? ⟨b, o', none⟩ = wr.cell? ⟨b, o', none⟩ := fun o' => by unfold World.cell?; rw [old b hb]
    exact ⟨by rw [e1, show off + 2 + j * 2 = off + (j + 1) * 2 from by omega]; exact h.c0, by rw [e1, show off + 2 + j * 2 + 1 = off + (j + 1) * 2 + 1 from by omega]; exact h.c1⟩
  · rw [hlen]
  · omega
  · omega
  · exact ⟨hg.os.trans hbel.os, hg.tape.trans hbel.tape, hg.output.trans hbel.output, by have := hbel.size; omega, fun b' h => (old b' h).trans (hbel.block b' h)⟩
set_option maxRecDepth 100000 in
set_option maxHeartbeats 4000000 in
theorem take_any2 (l : List Evt) (sv : Value) (t : Int) (hl : l.length ≤ 65536) (w : World) (he : EvsC w sv l) :
    Calls Try.prog 60 #[sv, .int .i64 t] w (Take2 sv.ownBlock l t w) := by
  obtain ⟨i0, hi, hz0, hzz1, hzz2⟩ := info_parts Try.info3
  have HE := Lib.hid he
  obtain ⟨ob, hob⟩ : ∃ ob, ob = sv.ownBlock := ⟨_, rfl⟩
  rw [← hob]
  have HO0 : Hid (∀ g, sv.ownBlock = some g → g < w.heap.size ∧ ob = some g) := Lib.hid fun g hg => ⟨he.1.old g hg, hob.trans hg⟩
  clear hob
  obtain ⟨_, a0, c0, rfl, hc0, hc1⟩ := he
  go_enter Try.func60, Try.ntmps60
  go_wp2
  go_loopw [0, 4] (fun s0 s4 wr => ∃ k : Nat, TakeJ ob l t w.heap.size s0 s4 k wr ∧ Below w.heap.size w wr) (fun s0 _ _ => sliceLen s0)
  case atStart => exact ⟨0, ⟨Nat.zero_le _, fun j e h => by omega, HE.out, HO0.out, World.ownsRow_nil _ _ _ _⟩, Below.refl _ _⟩
  case round =>
    obtain ⟨k, ⟨h1, h2, h3, h5, h4⟩, hb⟩ := hrel
    have H3 := Lib.hid h3
    obtain ⟨h31, a, c, rfl, hcl, hcm⟩ := h3
    obtain ⟨L, hL⟩ : ∃ L, L = (l.drop k).length := ⟨_, rfl⟩
    rw [← hL] at h31 hcl H3 ⊢
    have hLk : L = l.length - k := by rw [hL, List.length_drop]
    have HL := Lib.hid hL
    have H2 := Lib.hid h2
    have H4 := Lib.hid h4
    have HB := Lib.hid hb
    have H5 := Lib.hid h5
    clear h2 h4 h5 hb hL
    by_cases hk : k = l.length
    · have hL0 : L = 0 := by omega
      have hct : cntT l t = k := cntT_at h1 H2.out fun e he => by rw [List.getElem?_eq_none (by omega)] at he; cases he
      have HCT := Lib.hid hct
      have HKK := Lib.hid hk
      have HLL := Lib.hid hLk
      subst hL0
      clear hct hk hLk h31
      go_wp2
      go_ret2
      refine ⟨_, _, rfl, ?_, ?_, fun g hg => (H5.out g (by revert hg; first | exact id | (cases a <;> exact id))).2, HB.out⟩
      · rw [HCT.out]; exact H4.out
      · rw [HCT.out]; exact H3.out
    · obtain ⟨x, hx⟩ : ∃ x, l[k]? = some x := ⟨_, List.getElem?_eq_getElem (by omega)⟩
      have hx0 : (l.drop k)[0]? = some x := by rw [List.getElem?_drop]; simpa using hx
      obtain ⟨b, off, rfl, hbl, u1, u2⟩ := h31.at hx0
      simp only [Nat.zero_mul, Nat.add_zero] at u1 u2
      obtain ⟨X1, X2⟩ := x
      simp only at u1 u2
      have n0 : 0 < L := by omega
      have n1 : (0 : Int) < (L : Int) := by omega
      have HX := Lib.hid hx
      have HLL := Lib.hid hLk
      clear hx hx0 hLk h31
      by_cases ht : X1 = t
      · subst ht
        by_cases hc1' : c = 1
        · subst hc1'
          go_wp2_with (at_builtin; refine wpList_append_own _ rfl _ _ 44 rfl w.heap.size 3 i0 (.int .i64 0) 1 8 Try.underlying44 hi hz0 hzz1 hzz2 rfl (by decide) u4 k _ rfl (H4.out.alloc _) ⟨wr.heap.size, 0, none⟩ 1 1 [.int .i64 X2] rfl rfl (cell_one_new _ _ _) (by simp [Value.oneCell']) (by unfold maxLen; omega) (by omega) (by have := HB.out.size; simp; omega) ?_; intro v' w3 hown' hgrow _; have HO := Lib.hid hown'; have HG := Lib.hid hgrow; clear hown' hgrow)
          obtain ⟨q1, _, q3⟩ := take_step2 (by omega) HX.out H2.out H3.out HLL.out (H5.out b rfl).1 (H5.out b rfl).2 H4.out HB.out.size HB.out HO.out HG.out
          exact ⟨⟨k + 1, q1 rfl, q3⟩, by simp only [sliceLen]; omega⟩
        · have c1 : (c : Int) ≠ 1 := by omega
          have c2 : (c == 1) = false := by simp [hc1']
          have HC1 := Lib.hid hc1'
          clear hc1'
          go_wp2_with (at_builtin; refine wpList_append_own _ rfl _ _ 44 rfl w.heap.size 3 i0 (.int .i64 0) 1 8 Try.underlying44 hi hz0 hzz1 hzz2 rfl (by decide) u4 k _ rfl (H4.out.alloc _) ⟨wr.heap.size, 0, none⟩ 1 1 [.int .i64 X2] rfl rfl (cell_one_new _ _ _) (by simp [Value.oneCell']) (by unfold maxLen; omega) (by omega) (by have := HB.out.size; simp; omega) ?_; intro v' w3 hown' hgrow _; have HO := Lib.hid hown'; have HG := Lib.hid hgrow; clear hown' hgrow)
          obtain ⟨_, q2, q3⟩ := take_step2 (by omega) HX.out H2.out H3.out HLL.out (H5.out b rfl).1 (H5.out b rfl).2 H4.out HB.out.size HB.out HO.out HG.out
          exact ⟨⟨k + 1, q2 HC1.out, q3⟩, by simp only [sliceLen]; omega⟩
      · have ht' : (X1 == t) = false := by simp [ht]
        have hct : cntT l t = k := cntT_at h1 H2.out fun e he => by rw [HX.out] at he; cases he; exact ht
        have HCT := Lib.hid hct
        clear hct ht
        go_wp2
        go_ret2
        refine ⟨_, _, rfl, ?_, ?_, fun g hg => (H5.out g (by revert hg; first | exact id | (cases a <;> exact id))).2, HB.out⟩
        · rw [HCT.out]; exact H4.out
        · rw [HCT.out]; exact H3.out
end Go.Proofs.Ytgbcdebnanejpaa
namespace Go.Proofs.Ytgbcdebnanejpaa
set_option linter.unusedVariables false
open Go.RowKit Go.Shelf

def evV (e : Evt) : List Value := [.int .i64 e.tk, .int .i64 e.id]
def evCs (l : List Evt) : List Value := l.flatMap evV
theorem evCs_length (l : List Evt) : (evCs l).length = l.length * 2 := by
  induction l with
  | nil => rfl
  | cons s l ih => simp [evCs, evV] at *; omega
theorem evCs_snoc (l : List Evt) (s : Evt) : evCs (l ++ [s]) = evCs l ++ evV s := by simp [evCs]
theorem evCs_get : ∀ (l : List Evt) (i c : Nat) (s : Evt), c < 2 → l[i]? = some s → (evCs l)[i * 2 + c]? = (evV s)[c]?
  | [], i, c, r, _, h => by simp at h
  | x :: rs, 0, c, r, hc, h => by
    simp at h; subst h
    rw [evCs, List.flatMap_cons, List.getElem?_append_left (by simp [evV]; omega)]
    simp
  | x :: rs, i + 1, c, r, hc, h => by
    rw [evCs, List.flatMap_cons, List.getElem?_append_right (by simp [evV]; omega)]
    have := evCs_get rs i c r hc (by simpa using h)
    rw [← this, evCs]
    congr 1
    simp [evV]; omega
theorem evsAt_of_owns {W : World} {base : Nat} {v : Value} {l : List Evt} (h : W.ownsRow base 85 2 v l.length (evCs l)) : EvsAt W v l := by
  rcases h.2 with ⟨rfl, h0⟩ | ⟨g, cap, cur, rfl, hb, hg, _, _, _, ht⟩
  · exact Or.inl ⟨rfl, List.eq_nil_of_length_eq_zero h0⟩
  · refine Or.inr ⟨g, 0, cap, rfl, (Array.getElem?_eq_some_iff.1 hg).1, fun k r hk => ?_⟩
    have key : ∀ c u, c < 2 → (evV r)[c]? = some u → W.cell? ⟨g, 0 + k * 2 + c, none⟩ = some u := fun c u hc hu => by
      have h1 := h.cells (g := g) rfl (k * 2 + c) u (by rw [evCs_get l k c r hc hk]; exact hu)
      have hadd : (⟨g, 0, none⟩ : Addr).add (k * 2 + c) = ⟨g, k * 2 + c, none⟩ := by unfold Addr.add; split <;> simp_all
      rw [hadd] at h1
      rw [show 0 + k * 2 + c = k * 2 + c by omega]; exact h1
    exact ⟨key 0 _ (by omega) rfl, key 1 _ (by omega) rfl⟩
theorem infoE : (Try.prog.info? 85).map (fun i => (i.zero, i.size, i.bytes)) = some (some (.agg #[.int .i64 0, .int .i64 0]), 2, 16) := by kernel_rfl
theorem SimAt.lower {n : NetM} {A : World} {B B' : Nat} {z : SimZ} {t r0 : Nat} {st : List (Int × Int)} {due : Due} (h : SimAt n A B z t r0 st due) (hB : B' ≤ B) : SimAt n A B' z t r0 st due :=
  ⟨h.blk, h.ps, h.psM, h.wires, h.wiM, h.mbM, h.stb, h.len, h.row, h.zero, h.inj, h.ne1, h.ne2, h.ne3, fun b hb => Nat.le_trans hB (h.lo b hb)⟩

theorem own_sl {W : World} {base : Nat} {e : TypeId} {sz : Nat} {v : Value} {n : Nat} {xs : List Value} (h : W.ownsRow base e sz v n xs) : ∃ a c, v = .slice a n c := by
  rcases h.2 with ⟨h1, h2⟩ | ⟨g, cap, cur, h1, _⟩
  · exact ⟨none, 0, by rw [h1, h2]⟩
  · exact ⟨_, _, h1⟩
def evI (t : Nat) (i : Int) : Evt := ⟨(t : Int), i⟩
theorem runO_succ (n : NetM) (l : List Evt) (t : Nat) : runO n l (t + 1) = runO n l t ++ (tickO n t (runS n l t)).map (evI t) := rfl
theorem take_evI {t : Nat} {L : List Int} {j : Nat} {x : Int} (h : L[j]? = some x) (o : List Evt) : o ++ (L.take (j + 1)).map (evI t) = (o ++ (L.take j).map (evI t)) ++ [evI t x] := by
  rw [List.take_add_one, h]; simp
/-- What Run holds before a tick. -/
structure RnI (n : NetM) (l : List Evt) (z : SimZ) (base : Nat) (w : World) (t : Nat) (v1 v10 : Value) (outs : List Evt) (A : World) : Prop where
  sim : SimAt n A w.heap.size z t t (runS n l t).st (runS n l t).due
  evs : EvsC A v1 (fromT l t)
  evo : ∀ g, v1.ownBlock = some g → g < w.heap.size
  row : A.ownsRow base 85 2 v10 outs.length (evCs outs)
  bel : Below w.heap.size w A
  zin : SimIn z base
  big : base ≤ A.heap.size
  low : w.heap.size ≤ base
section
variable {n : NetM} {l : List Evt} {z : SimZ} {base : Nat} {w A A' : World} {t : Nat} {v1 v2 v10 : Value} {outs : List Evt}
theorem EvsC.world {W W' : World} {sv : Value} {l : List Evt} (h : EvsC W sv l) (hb : ∀ g, sv.ownBlock = some g → W'.heap[g]? = W.heap[g]?) : EvsC W' sv l := by
  refine ⟨?_, h.2⟩
  rcases h.1 with h0 | ⟨b, off, cap, e, hl, hc⟩
  · exact Or.inl h0
  · have hbb := hb b (by rw [e]; rfl)
    have hl2 : b < W'.heap.size := by
      have hx : W'.heap[b]? = some (W.heap[b]'hl) := by rw [hbb]; exact Array.getElem?_eq_getElem hl
      exact lt_of_block hx
    refine Or.inr ⟨b, off, cap, e, hl2, fun k e hk => ?_⟩
    have := hc k e hk
    exact ⟨by unfold World.cell?; rw [hbb]; exact this.c0, by unfold World.cell?; rw [hbb]; exact this.c1⟩
/-- A tick has been done. -/
theorem RnI.ticked (h : RnI n l z base w t v1 v10 outs A) (hs : SimAt n A' w.heap.size z (t + 1) (t + 1) (runS n l (t + 1)).st (runS n l (t + 1)).due) (hv : EvsC A v2 (fromT l (t + 1))) (ho : ∀ g, v2.ownBlock = some g → v1.ownBlock = some g) (hb : Bel z.mut A.heap.size A A') : RnI n l z base w (t + 1) v2 v10 outs A' := by
  have hz := hb.size
  have hw := h.bel.size
  have hlo := fun b (hm : z.mut b) => h.sim.lo b hm
  refine ⟨hs, hv.world fun g hg => hb.block g (by have := h.evo g (ho g hg); omega) fun hm => by have := hlo g hm; have := h.evo g (ho g hg); omega, fun g hg => h.evo g (ho g hg), ownsRow_of_block h.row fun g hg => hb.block g (h.row.lt g hg).2 fun hm => by have := h.zin.mut hm; have := (h.row.lt g hg).1; omega, ⟨hb.os.trans h.bel.os, hb.tape.trans h.bel.tape, hb.output.trans h.bel.output, by omega, fun b hb' => (hb.block b (by omega) fun hm => by have := hlo b hm; omega).trans (h.bel.block b hb')⟩, h.zin, by have := h.big; omega, h.low⟩
theorem RnI.world (h : RnI n l z base w t v1 v10 outs A) (hb : Below A.heap.size A A') : RnI n l z base w t v1 v10 outs A' := by
  have hw := h.bel.size
  exact ⟨h.sim.keepN h.sim.isIn hb.block, h.evs.world fun g hg => hb.block g (by have := h.evo g hg; omega), h.evo, ownsRow_of_block h.row fun g hg => hb.block g (h.row.lt g hg).2, h.bel.trans (hb.mono hw), h.zin, by have := h.big; have := hb.size; omega, h.low⟩
/-- An event is appended. -/
theorem RnI.app (h : RnI n l z base w t v1 v10 outs A) {o : Obj} {v' : Value} {e : Evt} (hr : A'.ownsRow base 85 2 v' (outs.length + 1) (evCs outs ++ evV e)) (hg : (A.alloc o).grownBy A' v10.ownBlock) : RnI n l z base w t v1 v' (outs ++ [e]) A' := by
  have hs := hg.size
  rw [World.size_alloc] at hs
  have hw := h.bel.size
  have hbg := h.big
  have hlw := h.low
  have old : ∀ g, g < base → A'.heap[g]? = A.heap[g]? := fun g hgb => by
    rw [hg.block g (by rw [World.size_alloc]; omega) (fun e => by have := (h.row.lt g e.symm).1; omega), Below.heap_alloc _ _ _ (by omega)]
  refine ⟨h.sim.keepN h.zin old, h.evs.world fun g hgo => old g (by have := h.evo g hgo; omega), h.evo, by rw [List.length_append, evCs_snoc]; exact hr, ⟨hg.os.trans h.bel.os, hg.tape.trans h.bel.tape, hg.output.trans h.bel.output, by omega, fun b hb => (old b (by omega)).trans (h.bel.block b hb)⟩, h.zin, by omega, h.low⟩
end
def runE (n : NetM) (l : List Evt) (ticks : Int) : Int := if checkRunM n l ticks 10000 ≠ 0 then checkRunM n l ticks 10000 else if 65536 < (runO n l ticks.toNat).length then 8 else 0
def runR (n : NetM) (l : List Evt) (ticks : Int) : List Evt := if runE n l ticks = 0 then runO n l ticks.toNat else []
/-- What Run returns. -/
def NRunOut (n : NetM) (l : List Evt) (ticks : Int) (w : World) (e : Ending) (w' : World) : Prop :=
  ∃ v, e = .returned (.tuple #[v, .int .i64 (runE n l ticks)]) ∧ EvsAt w' v (runR n l ticks) ∧ Below w.heap.size w w'

set_option maxRecDepth 100000 in
set_option maxHeartbeats 1000000 in
theorem run_bad (n : NetM) (l : List Evt) (a1 a2 a3 : Option Addr) (c1 c2 c3 : Nat) (ticks : Int) (hne : checkRunM n l ticks 10000 ≠ 0) (w : World) (hp : PsAt w (.slice a1 n.ps.length c1) n.ps) (hs : SsAt w (.slice a2 n.ss.length c2) n.ss) (he : EvsAt w (.slice a3 l.length c3) l) :
    Calls Try.prog 22 #[.agg #[.slice a1 n.ps.length c1, .int .i64 n.inp, .slice a2 n.ss.length c2], .slice a3 l.length c3, .int .i64 ticks] w (NRunOut n l ticks w) := by
  have hck := fun W (hb : Below w.heap.size w W) => checkRun_any n l a1 a2 a3 c1 c2 c3 ticks 10000 (by omega) (by omega) W (hp.below hb) (hs.below hb) (he.below hb)
  have hE : runE n l ticks = checkRunM n l ticks 10000 := by unfold runE; rw [if_pos hne]
  have hR : runR n l ticks = [] := by unfold runR; rw [hE, if_neg hne]
  unfold NRunOut
  rw [hE, hR]
  generalize checkRunM n l ticks 10000 = X at *
  have e1 : (X == 0) = false := by simp [hne]
  have e2 : (X != 0) = true := by simp [hne]
  have HCK := Lib.hid hck
  clear hck hp hs he hE hR hne
  go_enter Try.func22, Try.ntmps22
  go_wp2_with (go_at_call 58; refine (HCK.out _ ((Below.refl _ _).alloc (Nat.le_refl _) _)).mono ?_; rintro e w1 ⟨rfl, hb1⟩)
  go_ret2
  exact ⟨_, rfl, Or.inl ⟨rfl, rfl⟩, ((Below.refl _ _).alloc (Nat.le_refl _) _).trans (hb1.mono (by simp))⟩

set_option maxRecDepth 100000 in
set_option maxHeartbeats 8000000 in
theorem run_good (n : NetM) (l : List Evt) (a1 a2 a3 : Option Addr) (c1 c2 c3 : Nat) (ticks : Int) (hne : checkRunM n l ticks 10000 = 0) (w : World) (hp : PsAt w (.slice a1 n.ps.length c1) n.ps) (hs : SsAt w (.slice a2 n.ss.length c2) n.ss) (he : EvsC w (.slice a3 l.length c3) l) :
    Calls Try.prog 22 #[.agg #[.slice a1 n.ps.length c1, .int .i64 n.inp, .slice a2 n.ss.length c2], .slice a3 l.length c3, .int .i64 ticks] w (NRunOut n l ticks w) := by
  have hck : ∀ W, Below w.heap.size w W → Calls Try.prog 58 #[.agg #[.slice a1 n.ps.length c1, .int .i64 n.inp, .slice a2 n.ss.length c2], .slice a3 l.length c3, .int .i64 ticks, .int .i64 10000] W fun e w' => e = .returned (.int .i64 0) ∧ Below W.heap.size W w' := fun W hb => by
    have := checkRun_any n l a1 a2 a3 c1 c2 c3 ticks 10000 (by omega) (by omega) W (hp.below hb) (hs.below hb) (he.1.below hb)
    rw [hne] at this; exact this
  obtain ⟨hn0, htk, hll, hev⟩ : ncheck n = 0 ∧ inR ticks 0 10000 = true ∧ l.length ≤ 65536 ∧ evsErr l n.inp 10000 = 0 := by
    unfold checkRunM at hne
    by_cases q1 : ncheck n ≠ 0
    · rw [if_pos q1] at hne; exact absurd hne q1
    · rw [if_neg q1] at hne
      by_cases q2 : inR ticks 0 10000 = false
      · rw [if_pos q2] at hne; cases hne
      · rw [if_neg q2] at hne
        by_cases q3 : 65536 < l.length
        · rw [if_pos q3] at hne; cases hne
        · rw [if_neg q3] at hne; exact ⟨by omega, by simpa using q2, by omega, hne⟩
  have hok := netOk_of hn0
  obtain ⟨T, rfl⟩ : ∃ T : Nat, ticks = (T : Int) := ⟨ticks.toNat, by simp [inR] at htk; omega⟩
  have hT : T ≤ 10000 := by simp [inR] at htk; omega
  have hT0 : (0 : Int) ≤ (T : Int) := Int.natCast_nonneg _
  obtain ⟨hsort, hrng⟩ := evs_ok hev
  have hbg := fun W (hb : Below w.heap.size w W) => Bg.begin_any n hok a1 a2 c1 c2 W (hp.below hb) (hs.below hb)
  have hout : ∀ v e w', (65536 < (runO n l T).length → e = .returned (.tuple #[.slice none 0 0, .int .i64 8]) ∧ Below w.heap.size w w') → ((runO n l T).length ≤ 65536 → e = .returned (.tuple #[v, .int .i64 0]) ∧ EvsAt w' v (runO n l T) ∧ Below w.heap.size w w') → NRunOut n l T w e w' := fun v e w' h1 h2 => by
    unfold NRunOut runR runE
    rw [if_neg (by rw [hne]; simp), Int.toNat_natCast]
    by_cases q : 65536 < (runO n l T).length
    · obtain ⟨rfl, hb⟩ := h1 q
      rw [if_pos q]
      exact ⟨_, rfl, by rw [if_neg (by decide)]; exact Or.inl ⟨rfl, rfl⟩, hb⟩
    · obtain ⟨rfl, hv, hb⟩ := h2 (by omega)
      rw [if_neg q]
      exact ⟨_, rfl, by rw [if_pos rfl]; exact hv, hb⟩
  have hown0 : ∀ g, (Value.slice a3 l.length c3).ownBlock = some g → g < w.heap.size := he.1.old
  have HCK := Lib.hid hck
  have HBG := Lib.hid hbg
  have HOUT := Lib.hid hout
  have HOK := Lib.hid hok
  have HEV := Lib.hid hev
  have HSORT := Lib.hid hsort
  have HE := Lib.hid he
  have HLL := Lib.hid hll
  have HZ : Hid (fromT l 0 = l) := Lib.hid (fromT_zero fun e he => (hrng e he).1)
  have HOW := Lib.hid hown0
  clear hck hbg hout hok hev hsort hrng he hll hp hs hne hn0 htk hown0
  go_enter Try.func22, Try.ntmps22
  go_wp2_with (go_at_call 58; refine (HCK.out _ ((Below.refl _ _).alloc (Nat.le_refl _) _)).mono ?_; rintro e w1 ⟨rfl, hb1⟩; have hbx1 : NetBox w1 w.heap.size (.slice a1 n.ps.length c1) n.inp (.slice a2 n.ss.length c2) := (hb1.block _ (by simp)).trans (alloc_new_at _ _ _ rfl); obtain ⟨_, _, _⟩ := cells3 hbx1; have hz1 := lt_of_block hbx1; have B1 := Lib.hid (((Below.refl _ _).alloc (Nat.le_refl _) _).trans (hb1.mono (by simp)) : Below w.heap.size w w1); clear hb1 hbx1)
  go_wp2_with (go_at_call 59; refine (HBG.out _ B1.out).mono ?_; rintro e w2 ⟨z, rfl, hsim, hb2⟩; have HSIM := Lib.hid hsim; have HB2 := Lib.hid hb2; clear hsim hb2)
  obtain ⟨base, hbase⟩ : ∃ base, base = w2.heap.size := ⟨_, rfl⟩
  have h0 : RnI n l z base w 0 (.slice a3 l.length c3) (.slice none 0 0) (runO n l 0) w2 := by
    have hB : Below w.heap.size w w2 := B1.out.trans (HB2.out.mono B1.out.size)
    refine ⟨HSIM.out.lower B1.out.size, by rw [HZ.out]; exact HE.out.below hB, HOW.out, World.ownsRow_nil _ _ _ _, hB, by rw [hbase]; exact HSIM.out.isIn, by omega, by have := hB.size; omega⟩
  have H0 := Lib.hid h0
  clear h0 hbase HSIM HB2 HZ HE
  go_loopw [1, 10, 25] (fun s1 s10 s25 wr => ∃ t : Nat, t ≤ T ∧ s25 = .int .i64 t ∧ (runO n l t).length ≤ 65536 ∧ RnI n l z base w t s1 s10 (runO n l t) wr) (fun _ _ s25 _ => T - (intOf s25).toNat)
  case atStart => exact ⟨0, Nat.zero_le _, rfl, by simp [runO], H0.out⟩
  case round =>
    obtain ⟨t, ht, rfl, hlen, hI⟩ := hrel
    have ht0 : (0 : Int) ≤ (t : Int) := Int.natCast_nonneg _
    have HI := Lib.hid hI
    by_cases hlt : t < T
    · have ht1 : ((t : Int) < (T : Int)) = True := by simp; omega
      have htk := take_any2 (fromT l t) u1 (t : Int) (by have : (fromT l t).length ≤ l.length := (List.dropWhile_sublist _).length_le; have := HLL.out; omega) wr hI.evs
      have HTK := Lib.hid htk
      clear hI htk
      go_upto_region 11 with (go_at_call 60; refine HTK.out.mono ?_; rintro e w3 ⟨vi, v2, rfl, hvi, hv2, ho2, hb3⟩)
      obtain ⟨e1, e2, e3⟩ := fromT_take (t := t) HSORT.out
      rw [show (List.map (fun e : Evt => Value.int .i64 e.id) (List.take (cntT (fromT l t) (t : Int)) (fromT l t))) = (idsAt l t).map (Value.int .i64) by rw [← e1, List.map_map]; rfl, e3] at hvi
      rw [e2] at hv2
      obtain ⟨ai, ci, rfl⟩ := own_sl hvi
      have hI3 := HI.out.world hb3
      have htick := tick_any n HOK.out w.heap.size z t (runS n l t).st (runS n l t).due (by omega) (stOk_run HOK.out l t) (idsAt l t) (fun x hx => ids_in HEV.out hx) ai ci (by have := idsAt_le l t; have := HLL.out; omega) w3 hI3.sim (intsAt_of_owns hvi) (fun g hg hm => by have := (hvi.lt g hg).1; have := HI.out.zin.mut hm; have := HI.out.big; omega)
      have HTICK := Lib.hid htick
      have HI3 := Lib.hid hI3
      have HV2 := Lib.hid hv2
      have HO2 := Lib.hid ho2
      clear e1 e2 e3 hvi hv2 ho2 hb3 hI3 htick HTK
      go_upto_region 12 with (go_at_call 61; refine HTICK.out.mono ?_; rintro e w4 ⟨vs, rfl, hvs, hsim4, hbel4⟩; obtain ⟨va, vc, rfl⟩ := own_sl hvs)
      have hI4 : RnI n l z base w (t + 1) v2 u10 (runO n l t) w4 := HI3.out.ticked hsim4 HV2.out HO2.out hbel4
      obtain ⟨L, hL⟩ : ∃ L, L = tickO n t (runS n l t) := ⟨_, rfl⟩
      have hvs : w4.ownsRow w3.heap.size 3 1 (.slice va L.length vc) L.length (L.map (Value.int .i64)) := by rw [hL]; exact hvs
      have hLL : L.length ≤ 1024 := by have := spkN_length n.ps (runS n l t).st ((runS n l t).due t) n.ps.length; have := HOK.out.p1; rw [hL]; unfold tickO; omega
      have hJ0 : RnI n l z base w (t + 1) v2 u10 (runO n l t ++ (L.take 0).map (evI t)) w4 ∧ w4.ownsRow w3.heap.size 3 1 (.slice va L.length vc) L.length (L.map (Value.int .i64)) ∧ (∀ g, (Value.slice va L.length vc).ownBlock = some g → u10.ownBlock ≠ some g) := by
        refine ⟨by simpa using hI4, hvs, fun g hg e => ?_⟩
        have := (hvs.lt g hg).1
        have := (HI3.out.row.lt g e).2
        omega
      have hN : tickO n t ⟨(runS n l t).st, (runS n l t).due⟩ = L := hL.symm
      rw [hN]
      have HJ0 := Lib.hid hJ0
      have HL := Lib.hid hL
      clear hvs hsim4 hbel4 hI4 hJ0 hL hN HI3 HTICK HV2 HO2
      go_loopw [10, 38] (fun s10 s38 wr2 => ∃ j : Nat, j ≤ L.length ∧ s38 = .int .i64 j ∧ RnI n l z base w (t + 1) v2 s10 (runO n l t ++ (L.take j).map (evI t)) wr2 ∧ wr2.ownsRow w3.heap.size 3 1 (.slice va L.length vc) L.length (L.map (Value.int .i64)) ∧ (∀ g, (Value.slice va L.length vc).ownBlock = some g → s10.ownBlock ≠ some g)) (fun _ s38 _ => L.length - (intOf s38).toNat)
      case atStart => exact ⟨0, Nat.zero_le _, rfl, HJ0.out⟩
      case round =>
        obtain ⟨j, hj, rfl, hJ, hvs, hne⟩ := hrel
        have hj0 : (0 : Int) ≤ (j : Int) := Int.natCast_nonneg _
        have HJ := Lib.hid hJ
        by_cases hlj : j < L.length
        · have hj1 : ((j : Int) < (L.length : Int)) = True := by simp; omega
          obtain ⟨g, cap, hv⟩ := own_form hvs (by omega)
          cases hv
          obtain ⟨x, hx⟩ : ∃ x, L[j]? = some x := ⟨_, List.getElem?_eq_getElem hlj⟩
          have hc : wr.cell? ⟨g, j, none⟩ = some (.int .i64 x) := by rw [hvs.cellAt j (by omega)]; simp [hx]
          obtain ⟨i0, hi, hz0, hzz1, hzz2⟩ := info_parts infoE
          have hlo : (runO n l t ++ (L.take j).map (evI t)).length ≤ 70000 := by simp; omega
          have hrow := hJ.row
          obtain ⟨outs, hos⟩ : ∃ outs, outs = runO n l t ++ (L.take j).map (evI t) := ⟨_, rfl⟩
          rw [← hos] at hrow hlo HJ
          have hbw : base ≤ wr.heap.size := hJ.big
          have hg := (hvs.lt g rfl).2
          have HROW := Lib.hid hrow
          have HX := Lib.hid hx
          have HVS := Lib.hid hvs
          have HNE := Lib.hid hne
          have HOS := Lib.hid hos
          clear hJ hvs hne hx hrow hos
          go_wp2_with (at_builtin; (refine wpList_append_where _ rfl _ _ 30 rfl base 85 i0 (.agg #[.int .i64 0, .int .i64 0]) 2 16 Try.underlying30 hi hz0 hzz1 hzz2 rfl (by decide) u10 _ _ rfl (HROW.out.alloc _) ⟨wr.heap.size, 0, none⟩ 1 1 (by decide) [.int .i64 (t : Int), .int .i64 x] rfl rfl (cell_two_new _ _ _ _) (by simp [Value.oneCell']) (by unfold maxLen; omega) (by omega) (by simp; omega) ?_; intro v' w5 hown' hgrow hwh; have HO := Lib.hid hown'; have HG := Lib.hid hgrow; have HWH := Lib.hid hwh; clear hown' hgrow hwh))
          go_roundw
          case rel =>
            refine ⟨j + 1, hlj, by go_num, ?_, ?_, ?_⟩
            · rw [take_evI HX.out, ← HOS.out]
              exact HJ.out.app HO.out HG.out
            · refine ownsRow_of_block HVS.out fun g' hg' => ?_
              have h1 := (HVS.out.lt g' hg').2
              rw [HG.out.block g' (by rw [World.size_alloc]; omega) (fun e => HNE.out g' hg' e.symm), Below.heap_alloc _ _ _ h1]
            · intro g' hg' e
              have h1 := (HVS.out.lt g' hg').2
              rcases HWH.out with h | h
              · exact HNE.out g' hg' (h.symm.trans e)
              · rw [e, World.size_alloc] at h
                have := Option.some.inj h
                omega
          case measure => simp [intOf]; omega
        · obtain rfl : j = L.length := by omega
          have hj1 : ((L.length : Int) < (L.length : Int)) = False := by simp
          have hlo : (runO n l (t + 1)).length ≤ 70000 := by rw [runO_succ]; simp; have := HL.out; rw [← HL.out]; omega
          rw [List.take_of_length_le (Nat.le_refl _), HL.out, ← runO_succ] at hJ
          obtain ⟨a10, c10, rfl⟩ := own_sl hJ.row
          have HJ1 := Lib.hid hJ
          clear hJ HJ hvs hne hj hlj
          by_cases hov : 65536 < (runO n l (t + 1)).length
          · have hov1 : ((65536 : Int) < ((runO n l (t + 1)).length : Int)) = True := by simp; omega
            have hov2 : 65536 < (runO n l T).length := by have := runO_mono n l (t + 1) (T - (t + 1)); rw [show t + 1 + (T - (t + 1)) = T by omega] at this; omega
            have HB := Lib.hid HJ1.out.bel
            have HOV := Lib.hid hov2
            clear hov2 hov
            go_wp2
            go_ret2
            exact HOUT.out (.slice none 0 0) _ _ (fun _ => ⟨rfl, HB.out⟩) (fun h => by have := HOV.out; omega)
          · have hov1 : ((65536 : Int) < ((runO n l (t + 1)).length : Int)) = False := by simp; omega
            have hov2 : (runO n l (t + 1)).length ≤ 65536 := by omega
            have HOV := Lib.hid hov2
            clear hov2 hov
            go_wp2
            go_roundw
            case rel => exact ⟨t + 1, hlt, by go_num, HOV.out, HJ1.out⟩
            case measure => simp [intOf]; omega
    · obtain rfl : t = T := by omega
      have ht1 : ((t : Int) < (t : Int)) = False := by simp
      have hev := evsAt_of_owns hI.row
      have HB := Lib.hid hI.bel
      have HEVS := Lib.hid hev
      have HLN := Lib.hid hlen
      clear hI HI hlt ht hev hlen
      go_wp2
      go_ret2
      exact HOUT.out _ _ _ (fun h => by have := HLN.out; omega) (fun _ => ⟨rfl, HEVS.out, HB.out⟩)
theorem run_any (n : NetM) (l : List Evt) (a1 a2 a3 : Option Addr) (c1 c2 c3 : Nat) (ticks : Int) (w : World) (hp : PsAt w (.slice a1 n.ps.length c1) n.ps) (hs : SsAt w (.slice a2 n.ss.length c2) n.ss) (he : EvsC w (.slice a3 l.length c3) l) :
    Calls Try.prog 22 #[.agg #[.slice a1 n.ps.length c1, .int .i64 n.inp, .slice a2 n.ss.length c2], .slice a3 l.length c3, .int .i64 ticks] w (NRunOut n l ticks w) := by
  by_cases h : checkRunM n l ticks 10000 = 0
  · exact run_good n l a1 a2 a3 c1 c2 c3 ticks h w hp hs he
  · exact run_bad n l a1 a2 a3 c1 c2 c3 ticks h w hp hs he.1
end Go.Proofs.Ytgbcdebnanejpaa
