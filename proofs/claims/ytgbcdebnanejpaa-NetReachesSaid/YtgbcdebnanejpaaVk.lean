/- Both Reaches return the same. Over this seat's program. -/
import Derived.Test.YtgbcdebnanejpaaVg
import Derived.Test.YtgbcdebnanejpaaV2
namespace Go.Proofs.Ytgbcdebnanejpaa
set_option linter.unusedVariables false
open Go.RowKit Go.Shelf

def rcE (n : NetM) (zs : List Int) : Int := if ncheck n = 0 then (if zs.all (srcOk n.ps.length n.inp) = true then 0 else 3) else ncheck n
def rcN (n : NetM) (zs : List Int) : Nat := if rcE n zs = 0 then n.ps.length else 0
def RcOut (n : NetM) (zs : List Int) (w : World) (e : Ending) (w' : World) : Prop :=
  ∃ a, e = .returned (.tuple #[.slice a (rcN n zs) (rcN n zs), .int .i64 (rcE n zs)]) ∧ (rcN n zs = 0 ∨ ∃ g, a = some ⟨g, 0, none⟩ ∧ BoolsAt w' g (rcN n zs) (rchB n.ss zs)) ∧ Below w.heap.size w w'
theorem first_bad (p : Int → Bool) : ∀ zs : List Int, zs.all p = false → ∃ f, f < zs.length ∧ p (zs[f]?.getD 0) = false ∧ ∀ j, j < f → p (zs[j]?.getD 0) = true
  | [], h => by simp at h
  | z :: zs, h => by
    by_cases hz : p z = true
    · have h' : zs.all p = false := by simpa [hz] using h
      obtain ⟨f, h1, h2, h3⟩ := first_bad p zs h'
      refine ⟨f + 1, by simpa using h1, by simpa using h2, fun j hj => ?_⟩
      cases j with
      | zero => simpa using hz
      | succ j => simpa using h3 j (by omega)
    · exact ⟨0, by simp, by simpa using hz, fun j hj => by omega⟩
theorem rcOut_err {n : NetM} {zs : List Int} {w w' : World} {e : Ending} {c : Int} (hc : rcE n zs = c) (h0 : c ≠ 0) (h : ReachErr c w e w') : RcOut n zs w e w' := by
  have hn : rcN n zs = 0 := by unfold rcN; rw [hc, if_neg h0]
  obtain ⟨rfl, hb⟩ := h
  exact ⟨none, by rw [hn, hc], .inl hn, hb⟩
theorem rcOut_ok {n : NetM} {zs : List Int} {w w' : World} {e : Ending} (hc : rcE n zs = 0) (h : ReachOk n zs w e w') : RcOut n zs w e w' := by
  have hn : rcN n zs = n.ps.length := by unfold rcN; rw [if_pos hc]
  obtain ⟨g, rfl, h1, hb⟩ := h
  exact ⟨_, by rw [hn, hc], .inr ⟨g, rfl, by rw [hn]; exact h1⟩, hb⟩
theorem rcE_cases (n : NetM) (zs : List Int) : (ncheck n ≠ 0 ∧ rcE n zs = ncheck n) ∨ (ncheck n = 0 ∧ rcE n zs = 3 ∧ ∃ f, f < zs.length ∧ srcOk n.ps.length n.inp (zs[f]?.getD 0) = false ∧ ∀ j, j < f → srcOk n.ps.length n.inp (zs[j]?.getD 0) = true) ∨ (ncheck n = 0 ∧ rcE n zs = 0 ∧ ∀ z ∈ zs, srcOk n.ps.length n.inp z = true) := by
  unfold rcE
  by_cases h : ncheck n = 0
  · rw [if_pos h]
    by_cases h2 : zs.all (srcOk n.ps.length n.inp) = true
    · rw [if_pos h2]; exact .inr (.inr ⟨h, rfl, fun z hz => List.all_eq_true.1 h2 z hz⟩)
    · rw [if_neg h2]; exact .inr (.inl ⟨h, rfl, first_bad _ zs (by simpa using h2)⟩)
  · rw [if_neg h]; exact .inl ⟨h, rfl⟩
theorem nreach_any (n : NetM) (zs : List Int) (a1 a2 sa : Option Addr) (c1 c2 cap : Nat) (hm2 : zs.length ≤ 100) (w : World)
    (hp : PsAt w (.slice a1 n.ps.length c1) n.ps) (hs : SsAt w (.slice a2 n.ss.length c2) n.ss) (hI : IntsAt w (.slice sa zs.length cap) zs) :
    Calls Try.prog 32 #[.agg #[.slice a1 n.ps.length c1, .int .i64 n.inp, .slice a2 n.ss.length c2], .slice sa zs.length cap] w (RcOut n zs w) := by
  rcases rcE_cases n zs with ⟨h1, h2⟩ | ⟨h1, h2, f, h3, h4, h5⟩ | ⟨h1, h2, h3⟩
  · exact (nreach_err0 n h1 a1 a2 c1 c2 _ w hp hs).mono fun _ _ h => rcOut_err h2 h1 h
  · exact (nreach_err3 n h1 a1 a2 c1 c2 _ _ _ rfl rfl rfl zs f h3 h4 h5 sa _ cap rfl hm2 w hp hs hI).mono fun _ _ h => rcOut_err h2 (by omega) h
  · exact (nreach_ok n h1 a1 a2 c1 c2 _ _ _ rfl rfl rfl zs h3 sa _ cap rfl hm2 w hp hs hI).mono fun _ _ h => rcOut_ok h2 h
theorem rreach_any (n : NetM) (zs : List Int) (a1 a2 sa : Option Addr) (c1 c2 cap : Nat) (hm2 : zs.length ≤ 100) (w : World)
    (hp : PsAt w (.slice a1 n.ps.length c1) n.ps) (hs : SsAt w (.slice a2 n.ss.length c2) n.ss) (hI : IntsAt w (.slice sa zs.length cap) zs) :
    Calls Try.prog 33 #[.agg #[.slice a1 n.ps.length c1, .int .i64 n.inp, .slice a2 n.ss.length c2], .slice sa zs.length cap] w (RcOut n zs w) := by
  rcases rcE_cases n zs with ⟨h1, h2⟩ | ⟨h1, h2, f, h3, h4, h5⟩ | ⟨h1, h2, h3⟩
  · exact (rreach_err0 n h1 a1 a2 c1 c2 _ w hp hs).mono fun _ _ h => rcOut_err h2 h1 h
  · exact (rreach_err3 n h1 a1 a2 c1 c2 _ _ _ rfl rfl rfl zs f h3 h4 h5 sa _ cap rfl hm2 w hp hs hI).mono fun _ _ h => rcOut_err h2 (by omega) h
  · exact (rreach_ok n h1 a1 a2 c1 c2 _ _ _ rfl rfl rfl zs h3 sa _ cap rfl hm2 w hp hs hI).mono fun _ _ h => rcOut_ok h2 h
end Go.Proofs.Ytgbcdebnanejpaa
