/- Check of a network that learns: slices of rules in memory; what Check says. Over this seat's program. -/
import Derived.Test.YtipodippfddlpaaNz
import Derived.Test.YtipodippfddlpaaLd
namespace Go.Proofs.Ytipodippfddlpaa.Lrn
set_option linter.unusedVariables false
open Go.RowKit Go.Shelf

/-- Ten cells in a row hold a rule. -/
structure RlCells (W : World) (b o : Nat) (r : Rul) : Prop where
  c0 : W.cell? ⟨b, o, none⟩ = some (.int .i64 r.kd)
  c1 : W.cell? ⟨b, o + 1, none⟩ = some (.int .i64 r.up)
  c2 : W.cell? ⟨b, o + 2, none⟩ = some (.int .i64 r.dn)
  c3 : W.cell? ⟨b, o + 3, none⟩ = some (.int .i64 r.sh)
  c4 : W.cell? ⟨b, o + 4, none⟩ = some (.int .i64 r.ga)
  c5 : W.cell? ⟨b, o + 5, none⟩ = some (.int .i64 r.ke)
  c6 : W.cell? ⟨b, o + 6, none⟩ = some (.int .i64 r.fa)
  c7 : W.cell? ⟨b, o + 7, none⟩ = some (.int .i64 r.lo)
  c8 : W.cell? ⟨b, o + 8, none⟩ = some (.int .i64 r.hi)
  c9 : W.cell? ⟨b, o + 9, none⟩ = some (.bool r.sm)
/-- A slice value reads as a list of rules. -/
def RlsAt (W : World) (sv : Value) (l : List Rul) : Prop :=
  (sv = .slice none 0 0 ∧ l = []) ∨ ∃ b off cap, sv = .slice (some ⟨b, off, none⟩) l.length cap ∧ b < W.heap.size ∧ ∀ k r, l[k]? = some r → RlCells W b (off + k * 10) r
theorem RlCells.below {W w1 : World} {b o : Nat} {r : Rul} (h : RlCells W b o r) (hb : Below W.heap.size W w1) (hl : b < W.heap.size) : RlCells w1 b o r := by
  have hc : ∀ o, w1.cell? ⟨b, o, none⟩ = W.cell? ⟨b, o, none⟩ := fun o => hb.cell (p := ⟨b, o, none⟩) hl
  obtain ⟨h0, h1, h2, h3, h4, h5, h6, h7, h8, h9⟩ := h
  exact ⟨(hc _).trans h0, (hc _).trans h1, (hc _).trans h2, (hc _).trans h3, (hc _).trans h4, (hc _).trans h5, (hc _).trans h6, (hc _).trans h7, (hc _).trans h8, (hc _).trans h9⟩
theorem RlsAt.below {W w1 : World} {sv : Value} {l : List Rul} (h : RlsAt W sv l) (hb : Below W.heap.size W w1) : RlsAt w1 sv l := by
  rcases h with h | ⟨b, off, cap, e, hl, h⟩
  · exact Or.inl h
  · exact Or.inr ⟨b, off, cap, e, Nat.lt_of_lt_of_le hl hb.size, fun k r hk => (h k r hk).below hb hl⟩
theorem RlsAt.form {W : World} {sv : Value} {l : List Rul} (h : RlsAt W sv l) : ∃ a cap, sv = .slice a l.length cap := by
  rcases h with ⟨rfl, rfl⟩ | ⟨b, off, cap, rfl, _⟩
  · exact ⟨none, 0, rfl⟩
  · exact ⟨_, cap, rfl⟩
theorem RlsAt.at {W : World} {a : Option Addr} {n cap : Nat} {l : List Rul} (h : RlsAt W (.slice a n cap) l) {k : Nat} {r : Rul} (hk : l[k]? = some r) : ∃ b off, a = some ⟨b, off, none⟩ ∧ b < W.heap.size ∧ RlCells W b (off + k * 10) r := by
  rcases h with ⟨_, rfl⟩ | ⟨b, off, cap', e, hl, h⟩
  · simp at hk
  · cases e; exact ⟨b, off, rfl, hl, h k r hk⟩
/-- A slice value reads as ints. -/
def IsAt (W : World) (sv : Value) (zs : List Int) : Prop :=
  (sv = .slice none 0 0 ∧ zs = []) ∨ ∃ b off cap, sv = .slice (some ⟨b, off, none⟩) zs.length cap ∧ b < W.heap.size ∧ ∀ k z, zs[k]? = some z → W.cell? ⟨b, off + k, none⟩ = some (.int .i64 z)
theorem IsAt.below {W w1 : World} {sv : Value} {l : List Int} (h : IsAt W sv l) (hb : Below W.heap.size W w1) : IsAt w1 sv l := by
  rcases h with h | ⟨b, off, cap, e, hl, h⟩
  · exact Or.inl h
  · exact Or.inr ⟨b, off, cap, e, Nat.lt_of_lt_of_le hl hb.size, fun k z hk => (hb.cell (p := ⟨b, off + k, none⟩) hl).trans (h k z hk)⟩
theorem IsAt.at {W : World} {a : Option Addr} {n cap : Nat} {l : List Int} (h : IsAt W (.slice a n cap) l) {k : Nat} {z : Int} (hk : l[k]? = some z) : ∃ b off, a = some ⟨b, off, none⟩ ∧ b < W.heap.size ∧ W.cell? ⟨b, off + k, none⟩ = some (.int .i64 z) := by
  rcases h with ⟨_, rfl⟩ | ⟨b, off, cap', e, hl, h⟩
  · simp at hk
  · cases e; exact ⟨b, off, rfl, hl, h k z hk⟩

def firstNz (f : Nat → Int) : Nat → Int
  | 0 => 0
  | n + 1 => if firstNz f n = 0 then f n else firstNz f n
theorem firstNz_zero {f : Nat → Int} : ∀ n, (∀ j, j < n → f j = 0) → firstNz f n = 0
  | 0, _ => rfl
  | n + 1, h => by unfold firstNz; rw [if_pos (firstNz_zero n fun j hj => h j (by omega))]; exact h n (by omega)
theorem firstNz_at {f : Nat → Int} {k : Nat} (h : ∀ j, j < k → f j = 0) (hk : f k ≠ 0) : ∀ n, k < n → firstNz f n = f k := by
  intro n
  induction n with
  | zero => intro h; omega
  | succ n ih =>
    intro hn
    unfold firstNz
    by_cases e : k = n
    · subst e; rw [if_pos (firstNz_zero k h)]
    · rw [ih (by omega), if_neg hk]
def rul0 : Rul := ⟨0, 0, 0, 0, 0, 0, 0, 0, 0, false⟩
def ruleAt (rs : List Rul) (i : Nat) : Rul := rs[i]?.getD rul0
/-- What is wrong with the number of a rule at synapse i. -/
def plErr (n : NetM) (rs : List Rul) (pl : List Int) (i : Nat) : Int :=
  if inR (pl[i]?.getD 0) (-1) ((rs.length : Int) - 1) then
    (if 0 ≤ pl[i]?.getD 0 ∧ inR (n.ss[i]?.getD ⟨0, 0, 0, 0⟩).wt (ruleAt rs (pl[i]?.getD 0).toNat).lo (ruleAt rs (pl[i]?.getD 0).toNat).hi = false then 21 else 0) else 3
def lcheck (n : NetM) (rs : List Rul) (pl : List Int) : Int :=
  if ncheck n ≠ 0 then ncheck n else if 16 < rs.length then 9 else if firstNz (fun i => ruleE (ruleAt rs i)) rs.length ≠ 0 then firstNz (fun i => ruleE (ruleAt rs i)) rs.length
  else if pl.length ≠ n.ss.length then 13 else firstNz (plErr n rs pl) pl.length
def LGot (X : Int) (w : World) (e : Ending) (w' : World) : Prop := e = .returned (.int .i64 X) ∧ Below w.heap.size w w'

theorem lcheck_net {n : NetM} {rs : List Rul} {pl : List Int} (h : ncheck n ≠ 0) : lcheck n rs pl = ncheck n := by unfold lcheck; rw [if_pos h]
theorem lcheck_many {n : NetM} {rs : List Rul} {pl : List Int} (h : ncheck n = 0) (h1 : 16 < rs.length) : lcheck n rs pl = 9 := by unfold lcheck; rw [if_neg (by simp [h]), if_pos h1]
theorem lcheck_rule {n : NetM} {rs : List Rul} {pl : List Int} {k : Nat} (h : ncheck n = 0) (h1 : rs.length ≤ 16) (hk : k < rs.length) (h2 : ∀ j, j < k → ruleE (ruleAt rs j) = 0) (h3 : ruleE (ruleAt rs k) ≠ 0) : lcheck n rs pl = ruleE (ruleAt rs k) := by
  have := firstNz_at (f := fun i => ruleE (ruleAt rs i)) h2 h3 rs.length hk
  unfold lcheck; rw [if_neg (by simp [h]), if_neg (by omega), if_pos (by rw [this]; exact h3), this]
theorem lcheck_shape {n : NetM} {rs : List Rul} {pl : List Int} (h : ncheck n = 0) (h1 : rs.length ≤ 16) (h2 : ∀ j, j < rs.length → ruleE (ruleAt rs j) = 0) (h3 : pl.length ≠ n.ss.length) : lcheck n rs pl = 13 := by
  have := firstNz_zero (f := fun i => ruleE (ruleAt rs i)) rs.length h2
  unfold lcheck; rw [if_neg (by simp [h]), if_neg (by omega), if_neg (by simp [this]), if_pos h3]
theorem lcheck_rest {n : NetM} {rs : List Rul} {pl : List Int} (h : ncheck n = 0) (h1 : rs.length ≤ 16) (h2 : ∀ j, j < rs.length → ruleE (ruleAt rs j) = 0) (h3 : pl.length = n.ss.length) : lcheck n rs pl = firstNz (plErr n rs pl) pl.length := by
  have := firstNz_zero (f := fun i => ruleE (ruleAt rs i)) rs.length h2
  unfold lcheck; rw [if_neg (by simp [h]), if_neg (by omega), if_neg (by simp [this]), if_neg (by simp [h3])]
end Go.Proofs.Ytipodippfddlpaa.Lrn
