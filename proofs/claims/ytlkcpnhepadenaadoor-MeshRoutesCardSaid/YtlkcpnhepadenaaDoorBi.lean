/- Barriers that come later: what MeshTogether makes, and asks. Over this seat's program. -/
import Derived.Test.YtlkcpnhepadenaaDoorBh
import Derived.Laws.MakeOwn
namespace Go.Proofs.YtlkcpnhepadenaaDoor
set_option linter.unusedVariables false
open Go.RowKit

set_option maxHeartbeats 1000000 in
theorem side_any (x : Int) (W : Nat) (hW : (W : Int) = 1 + x % 8) (h0 : 0 ≤ x) (h1 : x ≤ 255) (w : World) :
    Calls Tryd.prog 41 #[.int .u8 x] w fun e w' => e = .returned (.int .i64 (W : Int)) ∧ w = w' := by
  rw [hW]
  have HW := Lib.hid hW
  clear hW
  go_enter Tryd.func41, Tryd.ntmps41
  go_wp2
  go_ret
  exact ⟨rfl, rfl⟩

theorem make_zeros (n : Nat) (hn : n ≤ 10000) (W : World) :
    (Instr.makeSlice 24 (.int .i64 (n : Int)) (.int .i64 (n : Int))).run Tryd.prog W = .ok (.slice (some ⟨W.heap.size, 0, none⟩) n n) (W.alloc (.cells (List.replicate n (Value.int .i64 0)).toArray 3)) := by
  obtain ⟨i, h1, h2, h3, h4⟩ := info_parts Tryd.info3
  have hr := run_make (P := Tryd.prog) W 24 3 i (.int .i64 0) Tryd.underlying24 h1 h2 .i64 .i64 n n (by omega) (by omega) (by rw [h4]; omega) (by omega)
  rw [hr, h3]
  have e : madeCells (Value.int .i64 0).cells ((n : Int).toNat * 1) = (List.replicate n (Value.int .i64 0)).toArray := by
    apply Array.toList_inj.1
    rw [Int.toNat_natCast, Nat.mul_one, show (Value.int .i64 0).cells = #[.int .i64 0] from rfl, toList_madeCells_one]
  rw [e]
  simp
theorem timesAt_zeros (W : World) (n g : Nat) (hg : g = W.heap.size) : TimesAt (W.alloc (.cells (List.replicate n (Value.int .i64 0)).toArray 3)) g n (fun _ => 0) :=
  ⟨_, alloc_new_at _ _ _ hg, fun j hj => by simp [hj]⟩

/-- The greatest of the first k, and 0. -/
def mostF (f : Nat → Int) : Nat → Int
  | 0 => 0
  | k + 1 => max (mostF f k) (f k)
theorem mostF_ge (f : Nat → Int) : ∀ k j, j < k → f j ≤ mostF f k
  | k + 1, j, h => by
    simp only [mostF]
    by_cases e : j = k
    · subst e; omega
    · have := mostF_ge f k j (by omega); omega
theorem mostF_le (f : Nat → Int) (c : Int) (h0 : 0 ≤ c) : ∀ k, (∀ j, j < k → f j ≤ c) → mostF f k ≤ c
  | 0, _ => h0
  | k + 1, h => by
    have h1 := mostF_le f c h0 k fun j hj => h j (by omega)
    have h2 := h k (by omega)
    simp only [mostF]; omega
theorem mostF_nonneg (f : Nat → Int) : ∀ k, 0 ≤ mostF f k
  | 0 => Int.le_refl _
  | k + 1 => by have := mostF_nonneg f k; simp only [mostF]; omega
/-- When core i is ready. -/
def readyF (zs : List Int) (i : Nat) : Int := zs[i % zs.length]?.getD 0
theorem readyF_bd {zs : List Int} (h : ∀ z ∈ zs, 0 ≤ z ∧ z ≤ 255) (i : Nat) : 0 ≤ readyF zs i ∧ readyF zs i ≤ 255 := by
  unfold readyF
  cases hz : zs[i % zs.length]? with
  | none => simp
  | some z => exact h z (List.mem_of_getElem? hz)
def listOf (f : Nat → Int) (n : Nat) : List Int := (List.range n).map f
theorem listOf_len (f : Nat → Int) (n : Nat) : (listOf f n).length = n := by simp [listOf]
theorem timeOf_list {f : Nat → Int} {n j : Nat} (h : j < n) : timeOf (listOf f n) j = f j := by simp [timeOf, listOf, h]
theorem TimesAt.list {W : World} {g n cap : Nat} {f : Nat → Int} (h : TimesAt W g n f) : IntsAt W (.slice (some ⟨g, 0, none⟩) n cap) (listOf f n) := by
  have := h.ints (cap := cap) (L := listOf f n) (listOf_len f n) fun j hj => by simp [listOf, hj]
  rw [listOf_len] at this; exact this
theorem TimesAt.congr {W : World} {g n : Nat} {t u : Nat → Int} (h : TimesAt W g n t) (e : ∀ j, j < n → t j = u j) : TimesAt W g n u := by
  obtain ⟨cur, h1, h2⟩ := h
  exact ⟨cur, h1, fun j hj => by rw [← e j hj]; exact h2 j hj⟩
theorem last_list {f : Nat → Int} {W n : Nat} (hn : 0 < n) : last W (timeOf (listOf f n)) n = last W f n := last_congr (fun j hj => timeOf_list hj) hn
theorem barL_list {f : Nat → Int} {W n j : Nat} (hj : j < n) : (barL W (listOf f n))[j]?.getD 0 = last W f n + (dep W j : Nat) := by
  simp [barL, listOf_len, hj, last_list (f := f) (W := W) (n := n) (by omega)]
theorem allIn_list {f : Nat → Int} {n : Nat} (h : ∀ j, j < n → 0 ≤ f j ∧ f j ≤ 10000) : allIn (listOf f n) := fun z hz => by
  obtain ⟨j, hj, rfl⟩ := List.mem_map.1 hz
  have := h j (by simpa using hj)
  exact inR_true.2 this
end Go.Proofs.YtlkcpnhepadenaaDoor
