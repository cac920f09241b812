/- A map whose keys are marks, as a function; repeated. Over this seat's program. (mk_Gj.py wrote this.) -/
import Derived.Test.YtmgdildbngbibaaGg
import Derived.Test.YtmgdildbngbibaaLf
import Derived.Maps.OwnSet
import Derived.DeepKeys4
namespace Go.Proofs.Ytmgdildbngbibaa
set_option linter.unusedVariables false
open Go.RowKit Go.Shelf

theorem lawK : Maps.Keyed Try.prog 76 := Maps.Keyed.of_law (deep_law_laid Lf.laidOut (m := 3) (by decide) (of_decide_eq_true (by kernel_rfl)) (by kernel_rfl) (by kernel_rfl))
theorem cellsK : Try.prog.cellsOf 76 = 2 := by kernel_rfl
theorem cellsOf3 : Try.prog.cellsOf 3 = 1 := by kernel_rfl
theorem keyK (V R : Int) (hV : (Lit.int .i64 V).wf = true) (hR : (Lit.int .i64 R).wf = true) : ∃ kl, keyOf Try.prog 76 (.agg #[.int .i64 V, .int .i64 R]) = some kl := by
  have h1 : Try.prog.keyType 76 = true := by kernel_rfl
  have h2 : Value.formed Try.prog 76 (.agg #[.int .i64 V, .int .i64 R]) = true := by
    simp [Value.formed, Try.underlying76, cellsK]
  obtain ⟨m, hm⟩ : ∃ m, Try.prog.types.size = m + 1 := ⟨Try.prog.types.size - 1, by have : 0 < Try.prog.types.size := of_decide_eq_true (by kernel_rfl); omega⟩
  unfold keyOf
  rw [Try.underlying76]
  simp only [h1, h2, Bool.and_self, if_true]
  rw [hm]
  unfold Program.keyLits
  simp [Try.underlying76, cellsK, cellsOf3, Value.cells, Program.keyLits, Try.underlying3, hV, hR]

def Rv (v : Value) : Option (DataW Value × List MemPlace) := some (.held v, [])
def encO : Option Value → DataW Value
  | none => .nil
  | some v => .held v
/-- Block b is a map of at most n entries, which holds what f says. -/
def MapIs (W : World) (b n : Nat) (f : Int → Int → Option Value) : Prop :=
  ∃ D, W.ownsMap Try.prog 76 Rv b n D ∧ ∀ V R kl, keyOf Try.prog 76 (.agg #[.int .i64 V, .int .i64 R]) = some kl → D.atKey kl .nil = encO (f V R)
def upd (f : Int → Int → Option Value) (V R : Int) (v : Value) : Int → Int → Option Value := fun V' R' => if V' = V ∧ R' = R then some v else f V' R'

theorem MapIs.made (W : World) : MapIs (W.alloc (.map #[] 0)) W.heap.size 0 (fun _ _ => none) :=
  ⟨.map [], World.ownsMap_made _ _ _ _, fun V R kl _ => rfl⟩
theorem MapIs.lt {W : World} {b n : Nat} {f : Int → Int → Option Value} (h : MapIs W b n f) : b < W.heap.size := by
  obtain ⟨D, h, _⟩ := h; exact h.lt
theorem MapIs.of_block {W W' : World} {b n : Nat} {f : Int → Int → Option Value} (h : MapIs W b n f) (hb : W'.heap[b]? = W.heap[b]?) : MapIs W' b n f := by
  obtain ⟨D, ⟨es, clock, h1, h2, h3, h4⟩, h5⟩ := h
  exact ⟨D, ⟨es, clock, hb.trans h1, h2, h3, h4⟩, h5⟩
theorem encO_inj {a b : Option Value} (h : encO a = encO b) : a = b := by
  cases a <;> cases b <;> simp [encO] at h <;> simp [h]
theorem MapIs.look {W : World} {b n : Nat} {f : Int → Int → Option Value} (h : MapIs W b n f) {t e : TypeId} (ht : Try.prog.underlying t = some (.map 76 e)) {z : Value} (hz : (zeroValue e).run Try.prog W = .ok z W) (V R : Int) (hV : (Lit.int .i64 V).wf = true) (hR : (Lit.int .i64 R).wf = true) :
    (Instr.lookup t (.map (some b)) (.agg #[.int .i64 V, .int .i64 R]) true).run Try.prog W = .ok (.tuple #[(f V R).getD z, .bool (f V R).isSome]) W := by
  obtain ⟨kl, hkl⟩ := keyK V R hV hR
  obtain ⟨D, ⟨es, clock, hb, F, hs, rfl⟩, hf⟩ := h
  have hat := hf V R kl hkl
  rcases Maps.fit_look true lawK ht hz hb F hkl with ⟨hrun, _, h1⟩ | ⟨e0, y, _, _, hrun, hy, h1, _⟩
  · rw [h1] at hat
    have : f V R = none := encO_inj (b := none) (by rw [← hat]; rfl)
    rw [hrun, this]; rfl
  · rw [h1] at hat
    have hy' : y.1 = encO (some e0.val) := by simp only [Rv, Option.some.injEq] at hy; rw [← hy]; rfl
    have : f V R = some e0.val := encO_inj (by rw [← hat, hy'])
    rw [hrun, this]; rfl
theorem MapIs.look1 {W : World} {b n : Nat} {f : Int → Int → Option Value} (h : MapIs W b n f) {t e : TypeId} (ht : Try.prog.underlying t = some (.map 76 e)) {z : Value} (hz : (zeroValue e).run Try.prog W = .ok z W) (V R : Int) (hV : (Lit.int .i64 V).wf = true) (hR : (Lit.int .i64 R).wf = true) :
    (Instr.lookup t (.map (some b)) (.agg #[.int .i64 V, .int .i64 R]) false).run Try.prog W = .ok ((f V R).getD z) W := by
  obtain ⟨kl, hkl⟩ := keyK V R hV hR
  obtain ⟨D, ⟨es, clock, hb, F, hs, rfl⟩, hf⟩ := h
  have hat := hf V R kl hkl
  rcases Maps.fit_look false lawK ht hz hb F hkl with ⟨hrun, _, h1⟩ | ⟨e0, y, _, _, hrun, hy, h1, _⟩
  · rw [h1] at hat
    have : f V R = none := encO_inj (b := none) (by rw [← hat]; rfl)
    rw [hrun, this]; rfl
  · rw [h1] at hat
    have hy' : y.1 = encO (some e0.val) := by simp only [Rv, Option.some.injEq] at hy; rw [← hy]; rfl
    have : f V R = some e0.val := encO_inj (by rw [← hat, hy'])
    rw [hrun, this]; rfl
theorem MapIs.update {W : World} {b n : Nat} {f : Int → Int → Option Value} (h : MapIs W b n f) (hn : n < maxLen) {t e : TypeId} (ht : Try.prog.underlying t = some (.map 76 e)) (V R : Int) (hV : (Lit.int .i64 V).wf = true) (hR : (Lit.int .i64 R).wf = true) (v : Value) :
    ∃ W', (Instr.mapUpdate t (.map (some b)) (.agg #[.int .i64 V, .int .i64 R]) v).run Try.prog W = .ok () W' ∧ MapIs W' b (n + 1) (upd f V R v) ∧ W.grownBy W' (some b) := by
  obtain ⟨kl, hkl⟩ := keyK V R hV hR
  obtain ⟨D, hown, hf⟩ := h
  obtain ⟨W', hrun, ho, hg⟩ := hown.update lawK ht hn hkl (show Rv v = some (.held v, []) from rfl)
  refine ⟨W', hrun, ⟨_, ho, fun V' R' kl' hkl' => ?_⟩, hg⟩
  by_cases e : kl' = kl
  · subst e
    have := lawK.inj hkl hkl'
    simp only [Value.agg.injEq, Array.mk.injEq, List.cons.injEq, Value.int.injEq, true_and, and_true] at this
    rw [Maps.atKey_put_same hown.isMap (lawK.key hkl)]
    unfold upd; rw [if_pos ⟨this.1.symm, this.2.symm⟩]; rfl
  · rw [Maps.atKey_put_other e, hf V' R' kl' hkl']
    unfold upd; rw [if_neg]
    rintro ⟨rfl, rfl⟩
    rw [hkl] at hkl'; exact e (Option.some.inj hkl').symm


/-! ### repeated -/
def dupAt (l : List Mrk) (i : Nat) : Prop := ∃ j x, j < i ∧ l[j]? = some x ∧ l[i]? = some x
def RepAt (l : List Mrk) (r : Nat) : Prop := r ≤ l.length ∧ (∀ i, i < r → ¬ dupAt l i) ∧ (r < l.length → dupAt l r)
def hasM (l : List Mrk) (k : Nat) (X Y : Int) : Bool := (l.take k).any fun s => s.ip == X && s.of == Y
theorem hasM_dup {l : List Mrk} {k : Nat} {X Y : Int} (hk : l[k]? = some ⟨X, Y⟩) : hasM l k X Y = true ↔ dupAt l k := by
  unfold hasM dupAt
  rw [List.any_eq_true]
  constructor
  · rintro ⟨s, hs, h⟩
    simp only [Bool.and_eq_true, beq_iff_eq] at h
    obtain ⟨j, hj⟩ := List.getElem?_of_mem hs
    rw [List.getElem?_take] at hj
    split at hj
    · rename_i hjk
      exact ⟨j, s, hjk, hj, by rw [hk]; obtain ⟨a, b⟩ := s; simp only at h; rw [h.1, h.2]⟩
    · cases hj
  · rintro ⟨j, s, hj, h1, h2⟩
    rw [hk] at h2; cases h2
    exact ⟨⟨X, Y⟩, List.mem_of_getElem? (show (l.take k)[j]? = some ⟨X, Y⟩ by rw [List.getElem?_take, if_pos hj]; exact h1), by simp⟩
def mF (l : List Mrk) (k : Nat) : Int → Int → Option Value := fun X Y => if hasM l k X Y then some (.bool true) else none
theorem mF_zero (l : List Mrk) : mF l 0 = fun _ _ => none := by
  funext X Y; simp [mF, hasM]
theorem mF_succ {l : List Mrk} {k : Nat} {X Y : Int} (hk : l[k]? = some ⟨X, Y⟩) : mF l (k + 1) = upd (mF l k) X Y (.bool true) := by
  funext X' Y'
  unfold mF upd hasM
  rw [List.take_add_one, hk]
  simp only [Option.toList_some, List.any_append, List.any_cons, List.any_nil, Bool.or_false, Bool.or_eq_true, Bool.and_eq_true, beq_iff_eq]
  by_cases h1 : X' = X ∧ Y' = Y
  · rw [if_pos h1, if_pos (.inr ⟨h1.1.symm, h1.2.symm⟩)]
  · rw [if_neg h1]
    by_cases h2 : ((l.take k).any fun s => s.ip == X' && s.of == Y') = true
    · rw [if_pos h2, if_pos (.inl h2)]
    · rw [if_neg h2, if_neg (fun h => by rcases h with h | h; exact h2 h; exact h1 ⟨h.1.symm, h.2.symm⟩)]
def KBox (W : World) (b : Nat) (x y : Int) : Prop := W.heap[b]? = some (.cells #[.int .i64 x, .int .i64 y] 76)
def RepGot (l : List Mrk) (w : World) (e : Ending) (w' : World) : Prop := ∃ r : Nat, e = .returned (.int .i64 (r : Int)) ∧ RepAt l r ∧ Below w.heap.size w w'
set_option maxRecDepth 100000 in
set_option maxHeartbeats 2000000 in
theorem repeated_any (l : List Mrk) (a : Option Addr) (cap : Nat) (hl : l.length ≤ 100000) (hwf : ∀ s ∈ l, (Lit.int .i64 s.ip).wf = true ∧ (Lit.int .i64 s.of).wf = true) (w : World) (hM : MrksAt w (.slice a l.length cap) l) :
    Calls Try.prog 91 #[.slice a l.length cap] w (RepGot l w) := by
  obtain ⟨n, hn⟩ : ∃ n, n = l.length := ⟨_, rfl⟩
  rw [← hn] at hl hM ⊢
  have HM := Lib.hid hM
  have HN := Lib.hid hn
  have HWF := Lib.hid hwf
  clear hM hn hwf
  have hmk : ∀ W, (Instr.makeMap 185 none).run Try.prog W = .ok (.map (some W.heap.size)) (W.alloc (.map #[] 0)) := fun W => by simp [Instr.makeMap]
  go_enter Try.func91, Try.ntmps91
  go_upto_region 2 with (fail)
  have hm0 := MapIs.made w
  have hbl : Below w.heap.size w (w.alloc (.map #[] 0)) := (Below.refl _ _).alloc (Nat.le_refl _) _
  obtain ⟨mb, hmb⟩ : ∃ mb, mb = w.heap.size := ⟨_, rfl⟩
  rw [← hmb] at hm0 ⊢
  generalize w.alloc (.map #[] 0) = W1 at *
  have HM0 := Lib.hid hm0
  have HBL := Lib.hid hbl
  have HMB := Lib.hid hmb
  clear hm0 hbl hmb hmk
  go_wp2
  go_loopw [9] (fun s wr => ∃ k : Nat, k ≤ n ∧ s = .int .i64 k ∧ Below w.heap.size w wr ∧ MapIs wr mb k (mF l k) ∧ ∀ i, i < k → ¬ dupAt l i) (fun s _ => n - (intOf s).toNat)
  case atStart => exact ⟨0, Nat.zero_le _, rfl, HBL.out, by rw [mF_zero]; exact HM0.out, fun i hi => by omega⟩
  case round =>
    obtain ⟨k, hk, rfl, hb, hm, hno⟩ := hrel
    have HB := Lib.hid hb
    have HMP := Lib.hid hm
    have HNO := Lib.hid hno
    have hmbl := hm.lt
    clear hb hm hno
    by_cases hlt : k < n
    · obtain ⟨x, hx⟩ : ∃ x, l[k]? = some x := ⟨_, List.getElem?_eq_getElem (by rw [← HN.out]; exact hlt)⟩
      have hi0 : (0 : Int) ≤ (k : Int) := Int.natCast_nonneg _
      have hi1 : (k : Int) < (n : Int) := by omega
      obtain ⟨b, off, rfl, hbl, hcl⟩ := (HM.out.below HB.out).at hx
      have hw := HWF.out x (List.mem_of_getElem? hx)
      obtain ⟨X, Y⟩ := x
      obtain ⟨u1, u2⟩ := hcl
      simp only at u1 u2 hw
      have HX := Lib.hid hx
      have HW := Lib.hid hw
      clear hx hw
      go_upto_region 5 with (fail)
      have hbn := HB.out.alloc HB.out.size (.cells #[.int .i64 X, .int .i64 Y] 76)
      have htb : KBox (wr.alloc (.cells #[.int .i64 X, .int .i64 Y] 76)) wr.heap.size X Y := alloc_new_at _ _ _ rfl
      have hmn := HMP.out.of_block (Below.heap_alloc wr (.cells #[.int .i64 X, .int .i64 Y] 76) mb hmbl)
      have hws : wr.heap.size < (wr.alloc (.cells #[.int .i64 X, .int .i64 Y] 76)).heap.size := by simp
      generalize wr.alloc (.cells #[.int .i64 X, .int .i64 Y] 76) = W5 at *
      have HBN := Lib.hid hbn
      obtain ⟨q0, q1, _, _⟩ := cells2 htb
      have hlk := hmn.look1 Try.underlying185 (z := .bool false) (by kernel_rfl) X Y HW.out.1 HW.out.2
      have HMN := Lib.hid hmn
      clear hbn htb u1 u2 hmn
      cases hd : hasM l k X Y with
      | true =>
        have hf : mF l k X Y = some (.bool true) := by unfold mF; rw [if_pos hd]
        rw [hf] at hlk
        simp only [Option.getD_some] at hlk
        have hdp := (hasM_dup HX.out).1 hd
        have HD := Lib.hid hdp
        clear hf hd hdp
        go_wp2
        go_ret
        exact ⟨k, rfl, ⟨by have := HN.out; omega, HNO.out, fun _ => HD.out⟩, HBN.out⟩
      | false =>
        have hf : mF l k X Y = none := by unfold mF; rw [if_neg (by simp [hd])]
        rw [hf] at hlk
        simp only [Option.getD_none] at hlk
        have hnd : ¬ dupAt l k := fun h => by rw [(hasM_dup HX.out).2 h] at hd; cases hd
        obtain ⟨W6, hup, hM6, hg6⟩ := HMN.out.update (by unfold maxLen; omega) Try.underlying185 X Y HW.out.1 HW.out.2 (.bool true)
        rw [← mF_succ HX.out] at hM6
        have HM6 := Lib.hid hM6
        have HG6 := Lib.hid hg6
        have HND := Lib.hid hnd
        clear hf hd hnd hM6 hg6
        go_wp2
        go_roundw
        case rel =>
          refine ⟨k + 1, by omega, by go_num, HBN.out.trans ⟨HG6.out.os, HG6.out.tape, HG6.out.output, HG6.out.size, fun q hq => HG6.out.block q (by have := HBN.out.size; omega) (fun e => by cases e; have := HMB.out; omega)⟩, HM6.out, fun i hi => ?_⟩
          by_cases e : i < k
          · exact HNO.out i e
          · obtain rfl : i = k := by omega
            exact HND.out
        case measure => simp [intOf]; omega
    · obtain rfl : k = n := by omega
      clear hlt
      go_wp2
      go_ret
      exact ⟨k, rfl, ⟨by have := HN.out; omega, HNO.out, fun h => by have := HN.out; omega⟩, HB.out⟩
end Go.Proofs.Ytmgdildbngbibaa
