/- Chips: the dead cores. Over this seat's program. -/
import Derived.Test.YtdfkbbcnioccfaaGreatPa
namespace Go.Proofs.YtdfkbbcnioccfaaGreat
set_option linter.unusedVariables false
open Go.RowKit

/-- The error of the dead cores behind those of pre. -/
def deadE (X : Int) : List Int → List Int → Int
  | _, [] => 0
  | pre, z :: r => if inR z 0 (X - 1) = false then 3 else if z ∈ pre then 5 else deadE X (pre ++ [z]) r
theorem deadE_at {X E : Int} {zs : List Int} {k : Nat} (hk : k < zs.length) (h : deadE X (zs.take k) (zs.drop k) = E) :
    (inR (zs[k]?.getD 0) 0 (X - 1) = false ∧ E = 3) ∨ (inR (zs[k]?.getD 0) 0 (X - 1) = true ∧ zs[k]?.getD 0 ∈ zs.take k ∧ E = 5) ∨
    (inR (zs[k]?.getD 0) 0 (X - 1) = true ∧ zs[k]?.getD 0 ∉ zs.take k ∧ deadE X (zs.take (k + 1)) (zs.drop (k + 1)) = E) := by
  have hz : zs[k]?.getD 0 = zs[k] := by simp [hk]
  rw [List.drop_eq_getElem_cons hk] at h
  simp only [deadE] at h
  rw [hz]
  by_cases h1 : inR zs[k] 0 (X - 1) = false
  · rw [if_pos h1] at h; exact .inl ⟨h1, h.symm⟩
  · rw [if_neg h1] at h
    rw [Bool.not_eq_false] at h1
    by_cases h2 : zs[k] ∈ zs.take k
    · rw [if_pos h2] at h; exact .inr (.inl ⟨h1, h2, h.symm⟩)
    · rw [if_neg h2] at h
      refine .inr (.inr ⟨h1, h2, ?_⟩)
      rw [List.take_add_one, List.getElem?_eq_getElem hk]
      exact h
theorem deadE_end {X E : Int} {zs : List Int} (h : deadE X (zs.take zs.length) (zs.drop zs.length) = E) : E = 0 := by
  rw [List.drop_of_length_le (Nat.le_refl _)] at h
  exact h.symm

/-- At b, from off on, the ints zs. -/
def RowAt (W : World) (b off : Nat) (zs : List Int) : Prop := ∀ j, j < zs.length → W.cell? ⟨b, off + j, none⟩ = some (.int .i64 (zs[j]?.getD 0)) ∧ b < W.heap.size
theorem RowAt.below {w W : World} {b off : Nat} {zs : List Int} (h : RowAt w b off zs) (hb : Below w.heap.size w W) : RowAt W b off zs := fun j hj =>
  ⟨(hb.cell (p := ⟨b, off + j, none⟩) (h j hj).2).trans (h j hj).1, Nat.lt_of_lt_of_le (h j hj).2 hb.size⟩
theorem RowAt.take {W : World} {b off k : Nat} {zs : List Int} (h : RowAt W b off zs) : RowAt W b off (zs.take k) := fun j hj => by
  have hj2 : j < zs.length := by simp at hj; omega
  have hjk : j < k := by simp at hj; omega
  have := h j hj2
  rw [List.getElem?_take_of_lt hjk]; exact this

set_option maxRecDepth 100000 in
set_option maxHeartbeats 1000000 in
theorem has_any (x : Int) (sa : Option Addr) (b off n cap : Nat) (zs : List Int) (hn : n = zs.length) (hl : n ≤ 1000) (hsa : 0 < n → sa = some ⟨b, off, none⟩) (w : World) (hI : RowAt w b off zs) :
    Calls Tryz.prog 48 #[.slice sa n cap, .int .i64 x] w fun e w' => e = .returned (.bool (decide (x ∈ zs))) ∧ w = w' := by
  obtain ⟨A, hA⟩ : ∃ A, A = decide (x ∈ zs) := ⟨_, rfl⟩
  rw [← hA]
  have HA := Lib.hid hA
  have HI := Lib.hid hI
  have HN := Lib.hid hn
  have HSA := Lib.hid hsa
  clear hA hI hn hsa
  go_enter Tryz.func48, Tryz.ntmps48
  go_wp2
  go_loopw [5] (fun s wr => ∃ k : Nat, k ≤ n ∧ s = .int .i64 k ∧ wr = w ∧ ∀ j, j < k → zs[j]?.getD 0 ≠ x) (fun s _ => n - (intOf s).toNat)
  case atStart => exact ⟨0, Nat.zero_le _, rfl, by trivial, fun j hj => by omega⟩
  case round =>
    obtain ⟨k, hk, rfl, rfl, hno⟩ := hrel
    have HNO := Lib.hid hno
    clear hno
    by_cases hlt : k < n
    · have hi0 : (0 : Int) ≤ (k : Int) := Int.natCast_nonneg _
      have hi1 : (k : Int) < (n : Int) := by omega
      obtain rfl := HSA.out (by omega)
      obtain ⟨z, hz⟩ : ∃ z, z = zs[k]?.getD 0 := ⟨_, rfl⟩
      have c1 : wr.cell? ⟨b, off + k, none⟩ = some (.int .i64 z) := by rw [hz]; exact (HI.out k (by have := HN.out; omega)).1
      have HZ := Lib.hid hz
      clear hz
      by_cases hx : z = x
      · have g1 : (z == x) = true := by simp [hx]
        have HX := Lib.hid hx
        clear hx
        go_wp2
        go_ret
        have hA : A = true := by rw [HA.out]; exact decide_eq_true (by rw [← HX.out, HZ.out]; have := HN.out; rw [List.getElem?_eq_getElem (by omega)]; exact List.getElem_mem _)
        subst hA
        exact ⟨rfl, rfl⟩
      · have g1 : (z == x) = false := by simp [hx]
        have HX := Lib.hid hx
        clear hx
        go_wp2
        go_roundw
        case rel => exact ⟨k + 1, by omega, by go_num, by trivial, fun j hj => by
          rcases Nat.lt_or_ge j k with h | h
          · exact HNO.out j h
          · have : j = k := by omega
            subst this; rw [← HZ.out]; exact HX.out⟩
        case measure => simp [intOf]; omega
    · obtain rfl : k = n := by omega
      clear hlt hk
      go_wp2
      go_ret
      have hA : A = false := by
        rw [HA.out]
        refine decide_eq_false fun hm => ?_
        obtain ⟨j, hj, rfl⟩ := List.getElem_of_mem hm
        have := HNO.out j (by have := HN.out; omega)
        rw [List.getElem?_eq_getElem hj] at this
        exact this rfl
      subst hA
      exact ⟨rfl, rfl⟩
set_option maxRecDepth 100000 in
set_option maxHeartbeats 1000000 in
/-- slices.Index: below 0, or the number of an element that is x. -/
theorem index_any (x : Int) (sa : Option Addr) (b off n cap : Nat) (zs : List Int) (hn : n = zs.length) (hl : n ≤ 1000) (hsa : 0 < n → sa = some ⟨b, off, none⟩) (w : World) (hI : RowAt w b off zs) :
    Calls Tryz.prog 87 #[.slice sa n cap, .int .i64 x] w fun e w' => ∃ r : Int, e = .returned (.int .i64 r) ∧ decide (0 ≤ r) = decide (x ∈ zs) ∧ w = w' := by
  obtain ⟨A, hA⟩ : ∃ A, A = decide (x ∈ zs) := ⟨_, rfl⟩
  rw [← hA]
  have HA := Lib.hid hA
  have HI := Lib.hid hI
  have HN := Lib.hid hn
  have HSA := Lib.hid hsa
  clear hA hI hn hsa
  go_enter Tryz.func87, Tryz.ntmps87
  go_wp2
  go_loopw [8] (fun s wr => ∃ k : Nat, k ≤ n ∧ s = .int .i64 k ∧ wr = w ∧ ∀ j, j < k → zs[j]?.getD 0 ≠ x) (fun s _ => n - (intOf s).toNat)
  case atStart => exact ⟨0, Nat.zero_le _, rfl, by trivial, fun j hj => by omega⟩
  case round =>
    obtain ⟨k, hk, rfl, rfl, hno⟩ := hrel
    have HNO := Lib.hid hno
    clear hno
    by_cases hlt : k < n
    · have hi0 : (0 : Int) ≤ (k : Int) := Int.natCast_nonneg _
      have hi1 : (k : Int) < (n : Int) := by omega
      obtain rfl := HSA.out (by omega)
      obtain ⟨z, hz⟩ : ∃ z, z = zs[k]?.getD 0 := ⟨_, rfl⟩
      have c1 : wr.cell? ⟨b, off + k, none⟩ = some (.int .i64 z) := by rw [hz]; exact (HI.out k (by have := HN.out; omega)).1
      have HZ := Lib.hid hz
      clear hz
      by_cases hx : z = x
      · have g1 : (x == z) = true := by simp [hx]
        have HX := Lib.hid hx
        clear hx
        go_wp2
        go_ret
        have hA : A = true := by rw [HA.out]; exact decide_eq_true (by rw [← HX.out, HZ.out]; have := HN.out; rw [List.getElem?_eq_getElem (by omega)]; exact List.getElem_mem _)
        subst hA
        exact ⟨(k : Int), rfl, by simp, rfl⟩
      · have g1 : (x == z) = false := by simp; exact fun h => hx h.symm
        have HX := Lib.hid hx
        clear hx
        go_wp2
        go_roundw
        case rel => exact ⟨k + 1, by omega, by go_num, by trivial, fun j hj => by
          rcases Nat.lt_or_ge j k with h | h
          · exact HNO.out j h
          · have : j = k := by omega
            subst this; rw [← HZ.out]; exact HX.out⟩
        case measure => simp [intOf]; omega
    · obtain rfl : k = n := by omega
      clear hlt hk
      go_wp2
      go_ret
      have hA : A = false := by
        rw [HA.out]
        refine decide_eq_false fun hm => ?_
        obtain ⟨j, hj, rfl⟩ := List.getElem_of_mem hm
        have := HNO.out j (by have := HN.out; omega)
        rw [List.getElem?_eq_getElem hj] at this
        exact this rfl
      subst hA
      exact ⟨-1, rfl, by decide, rfl⟩
set_option maxHeartbeats 400000 in
theorem contains_any (x : Int) (sa : Option Addr) (b off n cap : Nat) (zs : List Int) (hn : n = zs.length) (hl : n ≤ 1000) (hsa : 0 < n → sa = some ⟨b, off, none⟩) (w : World) (hI : RowAt w b off zs) :
    Calls Tryz.prog 45 #[.slice sa n cap, .int .i64 x] w fun e w' => e = .returned (.bool (decide (x ∈ zs))) ∧ w = w' := by
  have H := Lib.hid (index_any x sa b off n cap zs hn hl hsa w hI)
  clear hI hn hsa
  generalize decide (x ∈ zs) = A at *
  go_enter Tryz.func45, Tryz.ntmps45
  go_wp2_with (go_at_call 87; refine H.out.mono ?_; rintro e w' ⟨r, rfl, hr, rfl⟩; have HR := Lib.hid hr; clear hr)
  go_ret
  have h := HR.out
  subst h
  exact ⟨rfl, rfl⟩
theorem has_is (A : Bool) (x : Int) (sa : Option Addr) (b off n cap : Nat) (zs : List Int) (hA : decide (x ∈ zs) = A) (hn : n = zs.length) (hl : n ≤ 1000) (hsa : 0 < n → sa = some ⟨b, off, none⟩) (w : World) (hI : RowAt w b off zs) :
    Calls Tryz.prog 48 #[.slice sa n cap, .int .i64 x] w fun e w' => e = .returned (.bool A) ∧ w = w' := hA ▸ has_any x sa b off n cap zs hn hl hsa w hI
end Go.Proofs.YtdfkbbcnioccfaaGreat
