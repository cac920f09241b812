/- A map whose keys are ints, as a function. -/
import Derived.Test.YtgbcdebnanejpaaN3
import Derived.Maps.OwnSet
import Derived.DeepKeys4
namespace Go.Proofs.Ytgbcdebnanejpaa
set_option linter.unusedVariables false
open Go.RowKit

theorem keyed3 : Maps.Keyed Try.prog 3 := Maps.int_keyed Try.underlying3
theorem key3 (x : Int) (hx : (Lit.int .i64 x).wf = true) : ∃ kl, keyOf Try.prog 3 (.int .i64 x) = some kl := by
  exact ⟨_, Maps.keyOf_int_mk Try.underlying3 hx⟩
theorem wf64 {x : Int} (h1 : -9223372036854775808 ≤ x) (h2 : x ≤ 9223372036854775807) : (Lit.int .i64 x).wf = true := by
  simp [Lit.wf, IntKind.min, IntKind.max, IntKind.signed, IntKind.bits] <;> omega

def Rv (v : Value) : Option (DataW Value × List MemPlace) := some (.held v, [])
def encO : Option Value → DataW Value
  | none => .nil
  | some v => .held v
/-- Block b is a map of at most n entries, which holds what f says. -/
def MapIs (W : World) (b n : Nat) (f : Int → Option Value) : Prop :=
  ∃ D, W.ownsMap Try.prog 3 Rv b n D ∧ ∀ x kl, keyOf Try.prog 3 (.int .i64 x) = some kl → D.atKey kl .nil = encO (f x)
def upd1 (f : Int → Option Value) (x : Int) (v : Option Value) : Int → Option Value := fun y => if y = x then v else f y

theorem MapIs.made (W : World) : MapIs (W.alloc (.map #[] 0)) W.heap.size 0 (fun _ => none) :=
  ⟨.map [], World.ownsMap_made _ _ _ _, fun x kl _ => rfl⟩
theorem MapIs.lt {W : World} {b n : Nat} {f : Int → Option Value} (h : MapIs W b n f) : b < W.heap.size := by
  obtain ⟨D, h, _⟩ := h; exact h.lt
theorem MapIs.of_block {W W' : World} {b n : Nat} {f : Int → Option Value} (h : MapIs W b n f) (hb : W'.heap[b]? = W.heap[b]?) : MapIs W' b n f := by
  obtain ⟨D, ⟨es, clock, h1, h2, h3, h4⟩, h5⟩ := h
  exact ⟨D, ⟨es, clock, hb.trans h1, h2, h3, h4⟩, h5⟩
theorem encO_inj {a b : Option Value} (h : encO a = encO b) : a = b := by
  cases a <;> cases b <;> simp [encO] at h <;> simp [h]
theorem MapIs.look1 {W : World} {b n : Nat} {f : Int → Option Value} (h : MapIs W b n f) {t e : TypeId} (ht : Try.prog.underlying t = some (.map 3 e)) {z : Value} (hz : (zeroValue e).run Try.prog W = .ok z W) (x : Int) (hx : (Lit.int .i64 x).wf = true) :
    (Instr.lookup t (.map (some b)) (.int .i64 x) false).run Try.prog W = .ok ((f x).getD z) W := by
  obtain ⟨kl, hkl⟩ := key3 x hx
  obtain ⟨D, ⟨es, clock, hb, F, hs, rfl⟩, hf⟩ := h
  have hat := hf x kl hkl
  rcases Maps.fit_look false keyed3 ht hz hb F hkl with ⟨hrun, _, h1⟩ | ⟨e0, y, _, _, hrun, hy, h1, _⟩
  · rw [h1] at hat
    have : f x = none := encO_inj (b := none) (by rw [← hat]; rfl)
    rw [hrun, this]; rfl
  · rw [h1] at hat
    have hy' : y.1 = encO (some e0.val) := by simp only [Rv, Option.some.injEq] at hy; rw [← hy]; rfl
    have : f x = some e0.val := encO_inj (by rw [← hat, hy'])
    rw [hrun, this]; rfl
theorem MapIs.look2 {W : World} {b n : Nat} {f : Int → Option Value} (h : MapIs W b n f) {t e : TypeId} (ht : Try.prog.underlying t = some (.map 3 e)) {z : Value} (hz : (zeroValue e).run Try.prog W = .ok z W) (x : Int) (hx : (Lit.int .i64 x).wf = true) :
    (Instr.lookup t (.map (some b)) (.int .i64 x) true).run Try.prog W = .ok (.tuple #[(f x).getD z, .bool (f x).isSome]) W := by
  obtain ⟨kl, hkl⟩ := key3 x hx
  obtain ⟨D, ⟨es, clock, hb, F, hs, rfl⟩, hf⟩ := h
  have hat := hf x kl hkl
  rcases Maps.fit_look true keyed3 ht hz hb F hkl with ⟨hrun, _, h1⟩ | ⟨e0, y, _, _, hrun, hy, h1, _⟩
  · rw [h1] at hat
    have : f x = none := encO_inj (b := none) (by rw [← hat]; rfl)
    rw [hrun, this]; rfl
  · rw [h1] at hat
    have hy' : y.1 = encO (some e0.val) := by simp only [Rv, Option.some.injEq] at hy; rw [← hy]; rfl
    have : f x = some e0.val := encO_inj (by rw [← hat, hy'])
    rw [hrun, this]; rfl
theorem MapIs.update {W : World} {b n : Nat} {f : Int → Option Value} (h : MapIs W b n f) (hn : n < maxLen) {t e : TypeId} (ht : Try.prog.underlying t = some (.map 3 e)) (x : Int) (hx : (Lit.int .i64 x).wf = true) (v : Value) :
    ∃ W', (Instr.mapUpdate t (.map (some b)) (.int .i64 x) v).run Try.prog W = .ok () W' ∧ MapIs W' b (n + 1) (upd1 f x (some v)) ∧ W.grownBy W' (some b) := by
  obtain ⟨kl, hkl⟩ := key3 x hx
  obtain ⟨D, hown, hf⟩ := h
  obtain ⟨W', hrun, ho, hg⟩ := hown.update keyed3 ht hn hkl (show Rv v = some (.held v, []) from rfl)
  refine ⟨W', hrun, ⟨_, ho, fun x' kl' hkl' => ?_⟩, hg⟩
  by_cases e : kl' = kl
  · subst e
    have := keyed3.inj hkl hkl'
    simp only [Value.int.injEq, true_and] at this
    rw [Maps.atKey_put_same hown.isMap (keyed3.key hkl)]
    unfold upd1; rw [if_pos this.symm]; rfl
  · rw [Maps.atKey_put_other e, hf x' kl' hkl']
    unfold upd1; rw [if_neg]
    rintro rfl
    rw [hkl] at hkl'; exact e (Option.some.inj hkl').symm
end Go.Proofs.Ytgbcdebnanejpaa
