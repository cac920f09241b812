/- verify.kinds. Over this seat's program. (mk_Vj.py wrote this.) -/
import Derived.Test.YtnbndciididpoaaGreatVi
namespace Go.Proofs.YtnbndciididpoaaGreat
set_option linter.unusedVariables false
open Go.RowKit Go.Shelf

def kFirst : Value := .agg #[.func (.func 117) #[] #[], .func (.func 118) #[] #[]]
def kCount : Value := .agg #[.func (.func 119) #[] #[], .func (.func 120) #[] #[]]
def kindsF : Int → Option Value := upd (upd (fun _ => none) 1 kFirst) 2 kCount
theorem kindsF_at (k : Int) : kindsF k = if k = 2 then some kCount else if k = 1 then some kFirst else none := by
  unfold kindsF upd; rfl
set_option maxRecDepth 100000 in
theorem kinds_any (w : World) :
    Calls Tryz.prog 69 #[] w fun e w' => ∃ b, e = .returned (.map (some b)) ∧ w.heap.size ≤ b ∧ MapIs w' b 2 kindsF ∧ Below w.heap.size w w' := by
  have hmm := @run_makeMap Tryz.prog
  have hb0 := (Below.refl w.heap.size w).alloc (Nat.le_refl _) (.map #[] 0)
  obtain ⟨W2, h2, m2, g2⟩ := (MapIs.made w).update (by unfold maxLen; omega) Tryz.underlying140 1 (by decide) kFirst
  obtain ⟨W3, h3, m3, g3⟩ := m2.update (by unfold maxLen; omega) Tryz.underlying140 2 (by decide) kCount
  have hb2 : Below w.heap.size w W2 := hb0.trans ⟨g2.os, g2.tape, g2.output, g2.size, fun q hq => g2.block q (by simp; omega) (fun e => by cases e; omega)⟩
  have hb3 : Below w.heap.size w W3 := hb2.trans ⟨g3.os, g3.tape, g3.output, g3.size, fun q hq => g3.block q (by have := hb2.size; omega) (fun e => by cases e; omega)⟩
  have HM := Lib.hid m3
  have HB := Lib.hid hb3
  clear m2 m3 g2 g3 hb0 hb2 hb3
  unfold kFirst at h2
  unfold kCount at h3
  go_enter Tryz.func69, Tryz.ntmps69
  go_wp2
  go_ret
  exact ⟨_, rfl, Nat.le_refl _, HM.out, HB.out⟩
end Go.Proofs.YtnbndciididpoaaGreat
