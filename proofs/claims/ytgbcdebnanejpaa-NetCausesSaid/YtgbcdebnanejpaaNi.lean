/- net.before; the checks of a run's arguments: the mathematics. -/
import Derived.Test.YtgbcdebnanejpaaNh
namespace Go.Proofs.Ytgbcdebnanejpaa
set_option linter.unusedVariables false
open Go.RowKit Go.Shelf

theorem ncheck_any (n : NetM) (a1 a2 : Option Addr) (c1 c2 : Nat) (w : World) (hp : PsAt w (.slice a1 n.ps.length c1) n.ps) (hs : SsAt w (.slice a2 n.ss.length c2) n.ss) :
    Calls Try.prog 19 #[.agg #[.slice a1 n.ps.length c1, .int .i64 n.inp, .slice a2 n.ss.length c2]] w fun e w' => e = .returned (.int .i64 (ncheck n)) ∧ Below w.heap.size w w' := by
  by_cases h : n.ps.length = 0 ∨ 1024 < n.ps.length ∨ 256 < n.inp ∨ 8192 < n.ss.length ∨ n.inp < 0
  · exact ncheck_early n a1 a2 c1 c2 h w
  · exact ncheck_rest n.ps n.inp n.ss a1 a2 c1 c2 (by omega) (by omega) (by omega) (by omega) (by omega) w hp hs
theorem rncheck_any (n : NetM) (a1 a2 : Option Addr) (c1 c2 : Nat) (w : World) (hp : PsAt w (.slice a1 n.ps.length c1) n.ps) (hs : SsAt w (.slice a2 n.ss.length c2) n.ss) :
    Calls Try.prog 20 #[.agg #[.slice a1 n.ps.length c1, .int .i64 n.inp, .slice a2 n.ss.length c2]] w fun e w' => e = .returned (.int .i64 (ncheck n)) ∧ Below w.heap.size w w' := by
  by_cases h : n.ps.length = 0 ∨ 1024 < n.ps.length ∨ 256 < n.inp ∨ 8192 < n.ss.length ∨ n.inp < 0
  · exact rncheck_early n a1 a2 c1 c2 h w
  · exact rncheck_rest n.ps n.inp n.ss a1 a2 c1 c2 (by omega) (by omega) (by omega) (by omega) (by omega) w hp hs

/-- A valid network, in inequalities. -/
structure NetOk (n : NetM) : Prop where
  p0 : 1 ≤ n.ps.length
  p1 : n.ps.length ≤ 1024
  i0 : 0 ≤ n.inp
  i1 : n.inp ≤ 256
  s1 : n.ss.length ≤ 8192
  ps : ∀ p ∈ n.ps, checkP p = 0
  ss : ∀ s ∈ n.ss, synOk n.ps.length n.inp s = true
theorem netOk_of {n : NetM} (h : ncheck n = 0) : NetOk n := by
  unfold ncheck at h
  by_cases h0 : n.ps.length = 0
  · rw [if_pos h0] at h; omega
  · rw [if_neg h0] at h
    by_cases h1 : 1024 < n.ps.length ∨ 256 < n.inp ∨ 8192 < n.ss.length
    · rw [if_pos h1] at h; omega
    · rw [if_neg h1] at h
      by_cases h2 : n.inp < 0
      · rw [if_pos h2] at h; omega
      · rw [if_neg h2] at h
        by_cases h3 : firstBad n.ps ≠ 0
        · rw [if_pos h3] at h; exact absurd h h3
        · rw [if_neg h3] at h
          by_cases h4 : n.ss.all (synOk n.ps.length n.inp) = true
          · refine ⟨by omega, by omega, by omega, by omega, by omega, firstBad_all.1 (by simpa using h3), fun s hs => List.all_eq_true.1 h4 s hs⟩
          · rw [if_neg h4] at h; omega

def evLt (x y : Evt) : Bool := decide (x.tk < y.tk) || (decide (x.tk = y.tk) && decide (x.id < y.id))
set_option maxHeartbeats 1000000 in
theorem before_any (a b c d : Int) (w : World) :
    Calls Try.prog 91 #[.agg #[.int .i64 a, .int .i64 b], .agg #[.int .i64 c, .int .i64 d]] w fun e w' => e = .returned (.bool (evLt ⟨a, b⟩ ⟨c, d⟩)) ∧ Below w.heap.size w w' := by
  have hbl : Below w.heap.size w ((w.alloc (.cells #[.int .i64 a, .int .i64 b] 85)).alloc (.cells #[.int .i64 c, .int .i64 d] 85)) := ((Below.refl _ _).alloc (Nat.le_refl _) _).alloc (by simp) _
  by_cases h1 : a < c
  · have e : evLt ⟨a, b⟩ ⟨c, d⟩ = true := by simp [evLt, h1]
    rw [e]
    have z1 : (a < c) = True := by simp [h1]
    have HB := Lib.hid hbl
    clear e h1 hbl
    go_enter Try.func91, Try.ntmps91
    go_wp2
    go_ret
    exact ⟨rfl, HB.out⟩
  · have z1 : (a < c) = False := by simp; omega
    by_cases h2 : a = c
    · have z2 : (a == c) = true := by simp [h2]
      by_cases h3 : b < d
      · have e : evLt ⟨a, b⟩ ⟨c, d⟩ = true := by simp [evLt, h2, h3]
        rw [e]
        have z3 : (b < d) = True := by simp [h3]
        have HB := Lib.hid hbl
        clear e h1 h2 h3 hbl
        go_enter Try.func91, Try.ntmps91
        go_wp2
        go_ret
        exact ⟨rfl, HB.out⟩
      · have e : evLt ⟨a, b⟩ ⟨c, d⟩ = false := by simp [evLt, h2]; omega
        rw [e]
        have z3 : (b < d) = False := by simp; omega
        have HB := Lib.hid hbl
        clear e h1 h2 h3 hbl
        go_enter Try.func91, Try.ntmps91
        go_wp2
        go_ret
        exact ⟨rfl, HB.out⟩
    · have z2 : (a == c) = false := by simp [h2]
      have e : evLt ⟨a, b⟩ ⟨c, d⟩ = false := by simp [evLt, h1, h2]
      rw [e]
      have HB := Lib.hid hbl
      clear e h1 h2 hbl
      go_enter Try.func91, Try.ntmps91
      go_wp2
      go_ret
      exact ⟨rfl, HB.out⟩

/-- What the check finds at event i. -/
def evErrAt (l : List Evt) (inp most : Int) (i : Nat) : Int :=
  if inR (l[i]?.getD ⟨0, 0⟩).tk 0 (most - 1) && inR (l[i]?.getD ⟨0, 0⟩).id 0 (inp - 1) then (if 0 < i ∧ evLt (l[i - 1]?.getD ⟨0, 0⟩) (l[i]?.getD ⟨0, 0⟩) = false then 2 else 0) else 3
def firstNz (f : Nat → Int) : Nat → Int
  | 0 => 0
  | n + 1 => if firstNz f n = 0 then f n else firstNz f n
def evsErr (l : List Evt) (inp most : Int) : Int := firstNz (evErrAt l inp most) l.length
theorem firstNz_zero {f : Nat → Int} : ∀ n, (∀ j, j < n → f j = 0) → firstNz f n = 0
  | 0, _ => rfl
  | n + 1, h => by unfold firstNz; rw [if_pos (firstNz_zero n fun j hj => h j (by omega))]; exact h n (by omega)
theorem firstNz_at {f : Nat → Int} {k : Nat} (h : ∀ j, j < k → f j = 0) (hk : f k ≠ 0) : ∀ n, k < n → firstNz f n = f k := by
  intro n
  induction n with
  | zero => intro h; omega
  | succ n ih =>
    intro hn
    unfold firstNz
    by_cases e : k = n
    · subst e; rw [if_pos (firstNz_zero k h)]
    · rw [ih (by omega), if_neg hk]
theorem firstNz_none {f : Nat → Int} : ∀ n, firstNz f n = 0 → ∀ j, j < n → f j = 0
  | 0, _, j, hj => by omega
  | n + 1, h, j, hj => by
    unfold firstNz at h
    by_cases e : firstNz f n = 0
    · rw [if_pos e] at h
      by_cases e2 : j = n
      · subst e2; exact h
      · exact firstNz_none n e j (by omega)
    · rw [if_neg e] at h; exact absurd h e
def checkRunM (n : NetM) (l : List Evt) (ticks most : Int) : Int :=
  if ncheck n ≠ 0 then ncheck n else if inR ticks 0 most = false then 3 else if 65536 < l.length then 9 else evsErr l n.inp most
end Go.Proofs.Ytgbcdebnanejpaa
