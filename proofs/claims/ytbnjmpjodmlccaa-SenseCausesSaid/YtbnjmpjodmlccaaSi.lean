/- Ears: event, what the iterator hands out, heard. Over this seat's program; the conditions are named. -/
import Derived.Test.YtbnjmpjodmlccaaSg
import Derived.StillTailTactics
namespace Go.Proofs.Ytbnjmpjodmlccaa
set_option linter.unusedVariables false
open Go.RowKit Go.Shelf
attribute [local go_sem] Oper.semAt_some

/-- What event returns. -/
def erP (S : Int) (k : Nat) (b a : Int) : Int × Bool := if S ≤ a ∧ b < S then (2 * (k : Int) + 1, true) else if a ≤ -S ∧ -S < b then (2 * (k : Int), true) else (0, false)
theorem erC_of (S : Int) (t k : Nat) (b a : Int) : erC S t k b a = if (erP S k b a).2 then [⟨t, (erP S k b a).1⟩] else [] := by
  unfold erC erP
  split
  · rfl
  · split <;> rfl
/-- An ear as stated. -/
structure ErOk (C : Nat) (S : Int) : Prop where
  c0 : 1 ≤ C
  c1 : C ≤ 16
  s0 : 1 ≤ S
  s1 : S ≤ 32767

def EvtGot (S : Int) (k : Nat) (b a : Int) (w : World) (e : Ending) (w' : World) : Prop := e = .returned (.tuple #[.int .i64 (erP S k b a).1, .bool (erP S k b a).2]) ∧ Below w.heap.size w w'
theorem evtGot {S : Int} {k : Nat} {b a : Int} {w w' : World} (x : Int) (y : Bool) (h : erP S k b a = (x, y)) (hb : Below w.heap.size w w') : EvtGot S k b a w (.returned (.tuple #[.int .i64 x, .bool y])) w' := by
  unfold EvtGot; rw [h]; exact ⟨rfl, hb⟩
set_option maxRecDepth 100000 in
set_option maxHeartbeats 1000000 in
theorem event_any (C k : Nat) (S b a : Int) (h : ErOk C S) (hk : k ≤ 16) (w : World) :
    Calls Try.prog 83 #[.agg #[.int .i64 (C : Int), .int .i64 S], .int .i64 (k : Int), .int .i64 b, .int .i64 a] w (EvtGot S k b a w) := by
  obtain ⟨c0, c1, s0, s1⟩ := h
  have hk0 : (0 : Int) ≤ (k : Int) := Int.natCast_nonneg _
  have hbb := (Below.refl w.heap.size w).alloc (Nat.le_refl _) (.cells #[.int .i64 (C : Int), .int .i64 S] 47)
  have HBB := Lib.hid hbb
  clear hbb
  by_cases a1 : S ≤ a
  · have g1 : (S ≤ a) = True := by simp [a1]
    have g3 : (a ≤ -S) = False := by simp; omega
    by_cases b1 : b < S
    · have g2 : (b < S) = True := by simp [b1]
      have HR := Lib.hid (show erP S k b a = (2 * (k : Int) + 1, true) from if_pos ⟨a1, b1⟩)
      clear a1 b1
      go_enter Try.func83, Try.ntmps83
      go_wp2
      exact bodyPost_ret (v := .tuple #[.int .i64 (2 * (k : Int) + 1), .bool true]) (by simp [results, Try.results83, go_sem]) rfl (evtGot _ _ HR.out HBB.out)
    · have g2 : (b < S) = False := by simp; omega
      have HR := Lib.hid (show erP S k b a = (0, false) by unfold erP; rw [if_neg (by omega), if_neg (by omega)])
      clear a1 b1
      go_enter Try.func83, Try.ntmps83
      go_wp2
      exact bodyPost_ret (v := .tuple #[.int .i64 0, .bool false]) (by simp [results, Try.results83, go_sem]) rfl (evtGot _ _ HR.out HBB.out)
  · have g1 : (S ≤ a) = False := by simp; omega
    by_cases a2 : a ≤ -S
    · have g3 : (a ≤ -S) = True := by simp [a2]
      by_cases b1 : -S < b
      · have g2 : (-S < b) = True := by simp [b1]
        have HR := Lib.hid (show erP S k b a = (2 * (k : Int), true) by unfold erP; rw [if_neg (by omega), if_pos (by omega)])
        clear a1 b1 a2
        go_enter Try.func83, Try.ntmps83
        go_wp2
        exact bodyPost_ret (v := .tuple #[.int .i64 (2 * (k : Int)), .bool true]) (by simp [results, Try.results83, go_sem]) rfl (evtGot _ _ HR.out HBB.out)
      · have g2 : (-S < b) = False := by simp; omega
        have HR := Lib.hid (show erP S k b a = (0, false) by unfold erP; rw [if_neg (by omega), if_neg (by omega)])
        clear a1 b1 a2
        go_enter Try.func83, Try.ntmps83
        go_wp2
        exact bodyPost_ret (v := .tuple #[.int .i64 0, .bool false]) (by simp [results, Try.results83, go_sem]) rfl (evtGot _ _ HR.out HBB.out)
    · have g3 : (a ≤ -S) = False := by simp; omega
      have HR := Lib.hid (show erP S k b a = (0, false) by unfold erP; rw [if_neg (by omega), if_neg (by omega)])
      clear a1 a2
      go_enter Try.func83, Try.ntmps83
      go_wp2
      exact bodyPost_ret (v := .tuple #[.int .i64 0, .bool false]) (by simp [results, Try.results83, go_sem]) rfl (evtGot _ _ HR.out HBB.out)

/-- What the iterator of an ear holds, besides its rows: N: the heap's size when it began. -/
structure HrI (N : Nat) (w0 : World) (Cap : Nat → Prop) (J : (Nat → Prop) → Nat → World → Prop) (G : Nat → Prop) (m : Nat) (A : World) : Prop where
  gs : ∀ b, G b → N + 2 ≤ b ∧ b < A.heap.size
  sz : N + 2 ≤ A.heap.size
  j : J G m A
  cap : ∀ b, Cap b → A.heap[b]? = w0.heap[b]?
theorem HrI.own {N : Nat} {w0 : World} {Cap : Nat → Prop} {J : (Nat → Prop) → Nat → World → Prop} {G : Nat → Prop} {m : Nat} {A A' : World} (h : HrI N w0 Cap J G m A)
    (hJ : ∀ G k A A', J G k A → Bel (fun b => N ≤ b ∧ ¬ G b) A.heap.size A A' → J G k A') (hc : ∀ b, Cap b → b < N) (hb : Bel (fun b => b = N ∨ b = N + 1) A.heap.size A A') : HrI N w0 Cap J G m A' :=
  ⟨fun b hg => ⟨(h.gs b hg).1, Nat.lt_of_lt_of_le (h.gs b hg).2 hb.size⟩, Nat.le_trans h.sz hb.size, hJ _ _ _ _ h.j (hb.mono (Nat.le_refl _) fun b _ ho => ⟨by omega, fun hg => by have := (h.gs b hg).1; omega⟩),
    fun b hcb => (hb.block b (by have := hc b hcb; have := h.sz; omega) (by have := hc b hcb; omega)).trans (h.cap b hcb)⟩
def midZ (x : Int) (z : Nat → Int) (k i : Nat) : Int := if i < k then zN x z i else z i
def midL (u v : Nat → Int) (k i : Nat) : Int := if i < k then v i else u i
theorem midZ_set (x : Int) (z : Nat → Int) (k : Nat) (D : Int) (hD : z k + D = zN x z k) (i : Nat) : (if i = k then z k + D else midZ x z k i) = midZ x z (k + 1) i := by
  unfold midZ
  by_cases e : i = k
  · subst e; rw [if_pos rfl, if_pos (by omega)]; exact hD
  · rw [if_neg e]
    by_cases e2 : i < k
    · rw [if_pos e2, if_pos (by omega)]
    · rw [if_neg e2, if_neg (by omega)]
theorem midL_set (u v : Nat → Int) (k : Nat) (i : Nat) : (if i = k then v k else midL u v k i) = midL u v (k + 1) i := by
  unfold midL
  by_cases e : i = k
  · subst e; rw [if_pos rfl, if_pos (by omega)]
  · rw [if_neg e]
    by_cases e2 : i < k
    · rw [if_pos e2, if_pos (by omega)]
    · rw [if_neg e2, if_neg (by omega)]
end Go.Proofs.Ytbnjmpjodmlccaa
