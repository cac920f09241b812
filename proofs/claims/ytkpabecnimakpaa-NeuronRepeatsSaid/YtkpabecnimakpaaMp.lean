/- A map whose keys are states, as a function. -/
import Derived.Test.YtkpabecnimakpaaM
import Derived.Maps.OwnSet
import Derived.DeepKeys4
namespace Go.Proofs.Ytkpabecnimakpaa
set_option linter.unusedVariables false
open Go.RowKit

theorem law25 : Maps.Keyed Try.prog 25 := Maps.Keyed.of_law (deep_law_laid laidOut (m := 3) (by decide) (of_decide_eq_true (by kernel_rfl)) (by kernel_rfl) (by kernel_rfl))
theorem cellsOf3 : Try.prog.cellsOf 3 = 1 := by kernel_rfl
theorem key25 (V R : Int) (hV : (Lit.int .i64 V).wf = true) (hR : (Lit.int .i64 R).wf = true) : ∃ kl, keyOf Try.prog 25 (.agg #[.int .i64 V, .int .i64 R]) = some kl := by
  have h1 : Try.prog.keyType 25 = true := by kernel_rfl
  have h2 : Value.formed Try.prog 25 (.agg #[.int .i64 V, .int .i64 R]) = true := by
    simp [Value.formed, Try.underlying25, cells25]
  obtain ⟨m, hm⟩ : ∃ m, Try.prog.types.size = m + 1 := ⟨Try.prog.types.size - 1, by have : 0 < Try.prog.types.size := of_decide_eq_true (by kernel_rfl); omega⟩
  unfold keyOf
  rw [Try.underlying25]
  simp only [h1, h2, Bool.and_self, if_true]
  rw [hm]
  unfold Program.keyLits
  simp [Try.underlying25, cells25, cellsOf3, Value.cells, Program.keyLits, Try.underlying3, hV, hR]

def Rv (v : Value) : Option (DataW Value × List MemPlace) := some (.held v, [])
def encO : Option Value → DataW Value
  | none => .nil
  | some v => .held v
/-- Block b is a map of at most n entries, which holds what f says. -/
def MapIs (W : World) (b n : Nat) (f : Int → Int → Option Value) : Prop :=
  ∃ D, W.ownsMap Try.prog 25 Rv b n D ∧ ∀ V R kl, keyOf Try.prog 25 (.agg #[.int .i64 V, .int .i64 R]) = some kl → D.atKey kl .nil = encO (f V R)
def upd (f : Int → Int → Option Value) (V R : Int) (v : Value) : Int → Int → Option Value := fun V' R' => if V' = V ∧ R' = R then some v else f V' R'

theorem MapIs.made (W : World) : MapIs (W.alloc (.map #[] 0)) W.heap.size 0 (fun _ _ => none) :=
  ⟨.map [], World.ownsMap_made _ _ _ _, fun V R kl _ => rfl⟩
theorem MapIs.lt {W : World} {b n : Nat} {f : Int → Int → Option Value} (h : MapIs W b n f) : b < W.heap.size := by
  obtain ⟨D, h, _⟩ := h; exact h.lt
theorem MapIs.of_block {W W' : World} {b n : Nat} {f : Int → Int → Option Value} (h : MapIs W b n f) (hb : W'.heap[b]? = W.heap[b]?) : MapIs W' b n f := by
  obtain ⟨D, ⟨es, clock, h1, h2, h3, h4⟩, h5⟩ := h
  exact ⟨D, ⟨es, clock, hb.trans h1, h2, h3, h4⟩, h5⟩
theorem encO_inj {a b : Option Value} (h : encO a = encO b) : a = b := by
  cases a <;> cases b <;> simp [encO] at h <;> simp [h]
theorem MapIs.look {W : World} {b n : Nat} {f : Int → Int → Option Value} (h : MapIs W b n f) {t e : TypeId} (ht : Try.prog.underlying t = some (.map 25 e)) {z : Value} (hz : (zeroValue e).run Try.prog W = .ok z W) (V R : Int) (hV : (Lit.int .i64 V).wf = true) (hR : (Lit.int .i64 R).wf = true) :
    (Instr.lookup t (.map (some b)) (.agg #[.int .i64 V, .int .i64 R]) true).run Try.prog W = .ok (.tuple #[(f V R).getD z, .bool (f V R).isSome]) W := by
  obtain ⟨kl, hkl⟩ := key25 V R hV hR
  obtain ⟨D, ⟨es, clock, hb, F, hs, rfl⟩, hf⟩ := h
  have hat := hf V R kl hkl
  rcases Maps.fit_look true law25 ht hz hb F hkl with ⟨hrun, _, h1⟩ | ⟨e0, y, _, _, hrun, hy, h1, _⟩
  · rw [h1] at hat
    have : f V R = none := encO_inj (b := none) (by rw [← hat]; rfl)
    rw [hrun, this]; rfl
  · rw [h1] at hat
    have hy' : y.1 = encO (some e0.val) := by simp only [Rv, Option.some.injEq] at hy; rw [← hy]; rfl
    have : f V R = some e0.val := encO_inj (by rw [← hat, hy'])
    rw [hrun, this]; rfl
theorem MapIs.update {W : World} {b n : Nat} {f : Int → Int → Option Value} (h : MapIs W b n f) (hn : n < maxLen) {t e : TypeId} (ht : Try.prog.underlying t = some (.map 25 e)) (V R : Int) (hV : (Lit.int .i64 V).wf = true) (hR : (Lit.int .i64 R).wf = true) (v : Value) :
    ∃ W', (Instr.mapUpdate t (.map (some b)) (.agg #[.int .i64 V, .int .i64 R]) v).run Try.prog W = .ok () W' ∧ MapIs W' b (n + 1) (upd f V R v) ∧ W.grownBy W' (some b) := by
  obtain ⟨kl, hkl⟩ := key25 V R hV hR
  obtain ⟨D, hown, hf⟩ := h
  obtain ⟨W', hrun, ho, hg⟩ := hown.update law25 ht hn hkl (show Rv v = some (.held v, []) from rfl)
  refine ⟨W', hrun, ⟨_, ho, fun V' R' kl' hkl' => ?_⟩, hg⟩
  by_cases e : kl' = kl
  · subst e
    have := law25.inj hkl hkl'
    simp only [Value.agg.injEq, Array.mk.injEq, List.cons.injEq, Value.int.injEq, true_and, and_true] at this
    rw [Maps.atKey_put_same hown.isMap (law25.key hkl)]
    unfold upd; rw [if_pos ⟨this.1.symm, this.2.symm⟩]; rfl
  · rw [Maps.atKey_put_other e, hf V' R' kl' hkl']
    unfold upd; rw [if_neg]
    rintro ⟨rfl, rfl⟩
    rw [hkl] at hkl'; exact e (Option.some.inj hkl').symm

end Go.Proofs.Ytkpabecnimakpaa
