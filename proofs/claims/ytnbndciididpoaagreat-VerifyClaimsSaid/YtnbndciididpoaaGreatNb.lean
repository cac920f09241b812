/- Slices of structs in memory; neuron.Check and net's small tests; net.Check. -/
import Derived.Test.YtnbndciididpoaaGreatNa
import Derived.Test.YtnbndciididpoaaGreatL
namespace Go.Proofs.YtnbndciididpoaaGreat
set_option linter.unusedVariables false
open Go.RowKit Go.Shelf

/-- Eight cells in a row hold a neuron. -/
structure PrmCells (W : World) (b o : Nat) (p : Prm) : Prop where
  c0 : W.cell? ⟨b, o, none⟩ = some (.int .i64 p.lk)
  c1 : W.cell? ⟨b, o + 1, none⟩ = some (.int .i64 p.lv)
  c2 : W.cell? ⟨b, o + 2, none⟩ = some (.int .i64 p.bi)
  c3 : W.cell? ⟨b, o + 3, none⟩ = some (.int .i64 p.th)
  c4 : W.cell? ⟨b, o + 4, none⟩ = some (.int .i64 p.rk)
  c5 : W.cell? ⟨b, o + 5, none⟩ = some (.int .i64 p.rs)
  c6 : W.cell? ⟨b, o + 6, none⟩ = some (.int .i64 p.fl)
  c7 : W.cell? ⟨b, o + 7, none⟩ = some (.int .i64 p.re)
structure SynCells (W : World) (b o : Nat) (s : Syn) : Prop where
  c0 : W.cell? ⟨b, o, none⟩ = some (.int .i64 s.fr)
  c1 : W.cell? ⟨b, o + 1, none⟩ = some (.int .i64 s.to)
  c2 : W.cell? ⟨b, o + 2, none⟩ = some (.int .i64 s.wt)
  c3 : W.cell? ⟨b, o + 3, none⟩ = some (.int .i64 s.dl)
/-- A slice value reads as a list of neurons. -/
def PsAt (W : World) (sv : Value) (l : List Prm) : Prop :=
  (sv = .slice none 0 0 ∧ l = []) ∨ ∃ b off cap, sv = .slice (some ⟨b, off, none⟩) l.length cap ∧ b < W.heap.size ∧ ∀ k p, l[k]? = some p → PrmCells W b (off + k * 8) p
def SsAt (W : World) (sv : Value) (l : List Syn) : Prop :=
  (sv = .slice none 0 0 ∧ l = []) ∨ ∃ b off cap, sv = .slice (some ⟨b, off, none⟩) l.length cap ∧ b < W.heap.size ∧ ∀ k s, l[k]? = some s → SynCells W b (off + k * 4) s
theorem PrmCells.below {W w1 : World} {b o : Nat} {p : Prm} (h : PrmCells W b o p) (hb : Below W.heap.size W w1) (hl : b < W.heap.size) : PrmCells w1 b o p := by
  obtain ⟨hc, _⟩ := bcell hb
  obtain ⟨h0, h1, h2, h3, h4, h5, h6, h7⟩ := h
  exact ⟨(hc _ _ hl).trans h0, (hc _ _ hl).trans h1, (hc _ _ hl).trans h2, (hc _ _ hl).trans h3, (hc _ _ hl).trans h4, (hc _ _ hl).trans h5, (hc _ _ hl).trans h6, (hc _ _ hl).trans h7⟩
theorem SynCells.below {W w1 : World} {b o : Nat} {s : Syn} (h : SynCells W b o s) (hb : Below W.heap.size W w1) (hl : b < W.heap.size) : SynCells w1 b o s := by
  obtain ⟨hc, _⟩ := bcell hb
  obtain ⟨h0, h1, h2, h3⟩ := h
  exact ⟨(hc _ _ hl).trans h0, (hc _ _ hl).trans h1, (hc _ _ hl).trans h2, (hc _ _ hl).trans h3⟩
theorem PsAt.below {W w1 : World} {sv : Value} {l : List Prm} (h : PsAt W sv l) (hb : Below W.heap.size W w1) : PsAt w1 sv l := by
  rcases h with h | ⟨b, off, cap, e, hl, h⟩
  · exact Or.inl h
  · exact Or.inr ⟨b, off, cap, e, Nat.lt_of_lt_of_le hl hb.size, fun k p hk => (h k p hk).below hb hl⟩
theorem SsAt.below {W w1 : World} {sv : Value} {l : List Syn} (h : SsAt W sv l) (hb : Below W.heap.size W w1) : SsAt w1 sv l := by
  rcases h with h | ⟨b, off, cap, e, hl, h⟩
  · exact Or.inl h
  · exact Or.inr ⟨b, off, cap, e, Nat.lt_of_lt_of_le hl hb.size, fun k p hk => (h k p hk).below hb hl⟩
theorem PsAt.form {W : World} {sv : Value} {l : List Prm} (h : PsAt W sv l) : ∃ a cap, sv = .slice a l.length cap := by
  rcases h with ⟨rfl, rfl⟩ | ⟨b, off, cap, rfl, _⟩
  · exact ⟨none, 0, rfl⟩
  · exact ⟨_, cap, rfl⟩
theorem SsAt.form {W : World} {sv : Value} {l : List Syn} (h : SsAt W sv l) : ∃ a cap, sv = .slice a l.length cap := by
  rcases h with ⟨rfl, rfl⟩ | ⟨b, off, cap, rfl, _⟩
  · exact ⟨none, 0, rfl⟩
  · exact ⟨_, cap, rfl⟩
theorem PsAt.at {W : World} {a : Option Addr} {n cap : Nat} {l : List Prm} (h : PsAt W (.slice a n cap) l) {k : Nat} {p : Prm} (hk : l[k]? = some p) : ∃ b off, a = some ⟨b, off, none⟩ ∧ b < W.heap.size ∧ PrmCells W b (off + k * 8) p := by
  rcases h with ⟨_, rfl⟩ | ⟨b, off, cap', e, hl, h⟩
  · simp at hk
  · cases e; exact ⟨b, off, rfl, hl, h k p hk⟩
theorem SsAt.at {W : World} {a : Option Addr} {n cap : Nat} {l : List Syn} (h : SsAt W (.slice a n cap) l) {k : Nat} {s : Syn} (hk : l[k]? = some s) : ∃ b off, a = some ⟨b, off, none⟩ ∧ b < W.heap.size ∧ SynCells W b (off + k * 4) s := by
  rcases h with ⟨_, rfl⟩ | ⟨b, off, cap', e, hl, h⟩
  · simp at hk
  · cases e; exact ⟨b, off, rfl, hl, h k s hk⟩

set_option maxHeartbeats 400000 in
theorem namong_any (x a b : Int) (w : World) :
    Calls Tryz.prog 123 #[.int .i64 x, .int .i64 a, .int .i64 b] w fun e w' => e = .returned (.bool (inR x a b)) ∧ w = w' := by
  by_cases h1 : a ≤ x
  · go_enter Tryz.func123, Tryz.ntmps123
    go_wp2
    go_ret
    exact ⟨by simp [inR, *], rfl⟩
  · go_enter Tryz.func123, Tryz.ntmps123
    go_wp2
    go_ret
    exact ⟨by simp [inR]; omega, rfl⟩
end Go.Proofs.YtnbndciididpoaaGreat
