/- Routes: the errors of mesh.Tree. Over this seat's program. -/
import Derived.Test.YtlkcpnhepadenaaDoorRg
namespace Go.Proofs.YtlkcpnhepadenaaDoor
set_option linter.unusedVariables false
open Go.RowKit Go.Shelf

/-- The error of Tree. -/
def terr (W H R a : Int) (zs : List Int) : Int :=
  if chkM W H R ≠ 0 then 3 else if inR a 0 (W * H - 1) = false then 4 else if zs.all (fun z => inR z 0 (W * H - 1)) = false then 4 else if zs = [] then 2 else 0
theorem first_bad {zs : List Int} {p : Int → Bool} (h : zs.all p = false) : ∃ q, q < zs.length ∧ (∀ j, j < q → p (zs[j]?.getD 0) = true) ∧ p (zs[q]?.getD 0) = false := by
  induction zs with
  | nil => simp at h
  | cons z r ih =>
    cases hz : p z with
    | false => exact ⟨0, by simp, fun j hj => by omega, by simpa using hz⟩
    | true =>
      rw [List.all_cons, hz, Bool.true_and] at h
      obtain ⟨q, h1, h2, h3⟩ := ih h
      refine ⟨q + 1, by simp; omega, fun j hj => ?_, by simpa using h3⟩
      cases j with
      | zero => simpa using hz
      | succ j => simpa using h2 j (by omega)
/-- The ways in which Tree ends. -/
theorem terr_cases {W H R a : Int} {zs : List Int} : (chkM W H R = 3 ∧ terr W H R a zs = 3) ∨ (chkM W H R = 0 ∧ terr W H R a zs = 4 ∧ inR a 0 (W * H - 1) = false) ∨
    (chkM W H R = 0 ∧ terr W H R a zs = 4 ∧ inR a 0 (W * H - 1) = true ∧ zs.all (fun z => inR z 0 (W * H - 1)) = false) ∨ (chkM W H R = 0 ∧ terr W H R a zs = 2 ∧ inR a 0 (W * H - 1) = true ∧ zs = []) ∨
    (chkM W H R = 0 ∧ terr W H R a zs = 0 ∧ inR a 0 (W * H - 1) = true ∧ zs.all (fun z => inR z 0 (W * H - 1)) = true ∧ zs ≠ []) := by
  by_cases hc : chkM W H R = 0
  · have e : terr W H R a zs = if inR a 0 (W * H - 1) = false then 4 else if zs.all (fun z => inR z 0 (W * H - 1)) = false then 4 else if zs = [] then 2 else 0 := by
      unfold terr; rw [if_neg (by simp [hc])]
    rw [e]
    cases inR a 0 (W * H - 1) with
    | false => simp [hc]
    | true =>
      cases hz : zs.all (fun z => inR z 0 (W * H - 1)) with
      | false => simp [hc]
      | true =>
        by_cases hn : zs = []
        · simp [hc, hn]
        · simp [hc, hn]
  · refine .inl ⟨chkM_ne hc, ?_⟩
    unfold terr; rw [if_pos hc]
/-- Where there is no error all are small natural numbers. -/
theorem terr_ok {W H R a : Int} {zs : List Int} (h : terr W H R a zs = 0) : ∃ (Wn Hn an : Nat) (ts : List Nat), W = Wn ∧ H = Hn ∧ a = an ∧ zs = ts.map (fun t : Nat => (t : Int)) ∧ (1 ≤ Wn ∧ Wn ≤ 8) ∧ (1 ≤ Hn ∧ Hn ≤ 8) ∧ (1 ≤ R ∧ R ≤ 64) ∧ an < Wn * Hn ∧ (∀ t ∈ ts, t < Wn * Hn) ∧ ts ≠ [] := by
  rcases terr_cases (W := W) (H := H) (R := R) (a := a) (zs := zs) with ⟨_, h2⟩ | ⟨_, h2, _⟩ | ⟨_, h2, _⟩ | ⟨_, h2, _⟩ | ⟨hc, _, h3, h4, h5⟩
  · rw [h] at h2; cases h2
  · rw [h] at h2; cases h2
  · rw [h] at h2; cases h2
  · rw [h] at h2; cases h2
  · obtain ⟨k1, k2, k3⟩ := chkM_ok hc
    rw [inR_true] at h3
    have hX : ((W.toNat * H.toNat : Nat) : Int) = W * H := by push_cast; rw [Int.toNat_of_nonneg (by omega), Int.toNat_of_nonneg (by omega)]
    have hz : ∀ z ∈ zs, 0 ≤ z ∧ z ≤ W * H - 1 := fun z hz => inR_true.1 (List.all_eq_true.1 h4 z hz)
    refine ⟨W.toNat, H.toNat, a.toNat, zs.map Int.toNat, by omega, by omega, by omega, ?_, by omega, by omega, k3, by omega, ?_, by simpa using h5⟩
    · rw [List.map_map]
      conv => lhs; rw [← List.map_id zs]
      exact List.map_congr_left fun z h => by have := hz z h; simp; omega
    · intro t ht
      obtain ⟨z, h6, rfl⟩ := List.mem_map.1 ht
      have := hz z h6
      omega

set_option maxRecDepth 100000 in
set_option maxHeartbeats 1000000 in
theorem tree_err (W H R a : Int) (sa : Option Addr) (m cap : Nat) (zs : List Int) (hm : m = zs.length) (hm2 : m ≤ 100) (w : World) (hI : IntsAt w (.slice sa m cap) zs) (h : terr W H R a zs ≠ 0) :
    Calls Tryd.prog 22 #[.agg #[.int .i64 W, .int .i64 H, .int .i64 R], .int .i64 a, .slice sa m cap] w fun e w' => e = .returned (.tuple #[.slice none 0 0, .int .i64 (terr W H R a zs)]) ∧ Below w.heap.size w w' := by
  have hck := check_any W H R
  rcases terr_cases (W := W) (H := H) (R := R) (a := a) (zs := zs) with ⟨hc, h2⟩ | ⟨hc, h2, h3⟩ | ⟨hc, h2, h3, h4⟩ | ⟨hc, h2, h3, h4⟩ | ⟨_, h2, _⟩
  · rw [hc] at hck
    rw [h2]
    have HCK := Lib.hid hck
    clear hck hc h h2 hI hm
    go_enter Tryd.func22, Tryd.ntmps22
    go_wp2_with (go_at_call 17; refine (HCK.out _).mono ?_; rintro e w1 ⟨rfl, hb1⟩)
    exact bodyPost_ret (v := .tuple #[.slice none 0 0, .int .i64 3]) (by simp [results, Tryd.results22, go_sem]) rfl ⟨rfl, ((Below.refl _ _).alloc (Nat.le_refl _) _).trans (hb1.mono (by simp))⟩
  all_goals try (exact absurd h2 h)
  all_goals rw [hc] at hck
  all_goals rw [h2]
  all_goals obtain ⟨k1, k2, _⟩ := chkM_ok hc
  all_goals obtain ⟨m1, m2⟩ := mul_le64 k1 k2
  all_goals have hea := fun x => exists_any W H R x _ k1 k2 rfl m1 m2
  all_goals have HCK := Lib.hid hck
  all_goals clear hck hc h h2
  · have hea := hea a
    rw [h3] at hea
    have HEA := Lib.hid hea
    clear hea h3 m1 m2 k1 k2 hI hm
    go_enter Tryd.func22, Tryd.ntmps22
    go_wp2_with (first | (go_at_call 17; refine (HCK.out _).mono ?_; rintro e w1 ⟨rfl, hb1⟩; have f1 : w1.heap[w.heap.size]? = _ := (hb1.block _ (by simp)).trans (alloc_new_at _ _ _ rfl); obtain ⟨_, _, _⟩ := cells3 f1; have z1 := lt_of_block f1; have B1 := Lib.hid (((Below.refl _ _).alloc (Nat.le_refl _) _).trans (hb1.mono (by simp)) : Below w.heap.size w w1); clear hb1 f1) | (go_at_call 50; refine (HEA.out _).mono ?_; rintro e w2 ⟨rfl, hb2⟩))
    exact bodyPost_ret (v := .tuple #[.slice none 0 0, .int .i64 4]) (by simp [results, Tryd.results22, go_sem]) rfl ⟨rfl, B1.out.trans (hb2.mono (by omega))⟩
  · obtain ⟨q, q1, q2, q3⟩ := first_bad h4
    have hex := hea a
    rw [h3] at hex
    have HEX := Lib.hid hex
    have HEA := Lib.hid hea
    have HQ2 := Lib.hid q2
    have HQ3 := Lib.hid q3
    rw [← hm] at q1
    obtain ⟨tb, to, rfl, _⟩ := intsAt_cell hI 0 (by omega)
    have hcl : ∀ j, j < m → w.cell? ⟨tb, to + j, none⟩ = some (.int .i64 (zs[j]?.getD 0)) ∧ tb < w.heap.size := fun j hj => by
      obtain ⟨b, o, e, hc⟩ := intsAt_cell hI j (by omega)
      cases e
      exact ⟨hc, World.block_lt_of_cell? w _ hc⟩
    have HCL := Lib.hid hcl
    clear hex hea q2 q3 h3 h4 m1 m2 k1 k2 hI hcl hm
    go_enter Tryd.func22, Tryd.ntmps22
    go_wp2_with (first | (go_at_call 17; refine (HCK.out _).mono ?_; rintro e w1 ⟨rfl, hb1⟩; have f1 : w1.heap[w.heap.size]? = _ := (hb1.block _ (by simp)).trans (alloc_new_at _ _ _ rfl); obtain ⟨_, _, _⟩ := cells3 f1; have z1 := lt_of_block f1; have F1 := Lib.hid f1; have B1 := Lib.hid (((Below.refl _ _).alloc (Nat.le_refl _) _).trans (hb1.mono (by simp)) : Below w.heap.size w w1); clear hb1 f1) | (go_at_call 50; refine (HEX.out _).mono ?_; rintro e w2 ⟨rfl, hb2⟩))
    have f2 := (hb2.block _ z1).trans F1.out
    have z2 := lt_of_block f2
    have F2 := Lib.hid f2
    have B2 := Lib.hid (B1.out.trans (hb2.mono (by omega)))
    clear f2 hb2
    go_loopw [27] (fun s27 wr => ∃ j : Nat, j ≤ q ∧ s27 = .int .i64 j ∧ Below w2.heap.size w2 wr) (fun s27 _ => q + 1 - (intOf s27).toNat)
    case atStart => exact ⟨0, Nat.zero_le _, rfl, Below.refl _ _⟩
    case round =>
      obtain ⟨j, hj, rfl, hb⟩ := hrel
      have hj0 : (0 : Int) ≤ (j : Int) := Int.natCast_nonneg _
      have hj1 : (j : Int) < (m : Int) := by omega
      obtain ⟨_, _, _⟩ := cells3 ((hb.block _ z2).trans F2.out)
      have hc1 := ((B2.out.trans (hb.mono (by omega))).cell (p := ⟨tb, to + j, none⟩) (HCL.out j (by omega)).2).trans (HCL.out j (by omega)).1
      have hea := HEA.out (zs[j]?.getD 0)
      have HQJ := Lib.hid (HQ2.out j)
      have hB := Lib.hid hb
      obtain ⟨z, hz⟩ : ∃ z, z = zs[j]?.getD 0 := ⟨_, rfl⟩
      rw [← hz] at hea hc1 HQJ
      have HZ := Lib.hid hz
      clear hb hz
      by_cases hlt : j < q
      · rw [HQJ.out hlt] at hea
        have HE2 := Lib.hid hea
        clear hea
        go_wp2_with (go_at_call 50; refine (HE2.out _).mono ?_; rintro e w3 ⟨rfl, hb3⟩; have HB3 := Lib.hid hb3; clear hb3)
        go_roundw
        case rel => exact ⟨j + 1, hlt, by go_num, hB.out.trans (HB3.out.mono hB.out.size)⟩
        case measure => simp [intOf]; omega
      · have hjq : j = q := by omega
        have q3 := HQ3.out
        rw [← hjq, ← HZ.out] at q3
        rw [q3] at hea
        have HE2 := Lib.hid hea
        clear hea q3 hjq
        go_wp2_with (go_at_call 50; refine (HE2.out _).mono ?_; rintro e w3 ⟨rfl, hb3⟩; have HB3 := Lib.hid hb3; clear hb3)
        exact bodyPost_ret (v := .tuple #[.slice none 0 0, .int .i64 4]) (by simp [results, Tryd.results22, go_sem]) rfl ⟨rfl, B2.out.trans ((hB.out.trans (HB3.out.mono hB.out.size)).mono (by omega))⟩
  · have hex := hea a
    rw [h3] at hex
    have HEX := Lib.hid hex
    have hm0 : m = 0 := by rw [hm, h4]; rfl
    subst hm0
    clear hex hea h3 h4 m1 m2 k1 k2 hI hm
    go_enter Tryd.func22, Tryd.ntmps22
    go_wp2_with (first | (go_at_call 17; refine (HCK.out _).mono ?_; rintro e w1 ⟨rfl, hb1⟩; have f1 : w1.heap[w.heap.size]? = _ := (hb1.block _ (by simp)).trans (alloc_new_at _ _ _ rfl); obtain ⟨_, _, _⟩ := cells3 f1; have z1 := lt_of_block f1; have F1 := Lib.hid f1; have B1 := Lib.hid (((Below.refl _ _).alloc (Nat.le_refl _) _).trans (hb1.mono (by simp)) : Below w.heap.size w w1); clear hb1 f1) | (go_at_call 50; refine (HEX.out _).mono ?_; rintro e w2 ⟨rfl, hb2⟩))
    have B2 := Lib.hid (B1.out.trans (hb2.mono (by omega)))
    clear hb2
    go_loopw [27] (fun s27 wr => s27 = .int .i64 0 ∧ wr = w2) (fun _ _ => 0)
    case atStart => exact ⟨rfl, rfl⟩
    case round =>
      obtain ⟨rfl, rfl⟩ := hrel
      go_wp2
      exact bodyPost_ret (v := .tuple #[.slice none 0 0, .int .i64 2]) (by simp [results, Tryd.results22, go_sem]) rfl ⟨rfl, B2.out⟩
end Go.Proofs.YtlkcpnhepadenaaDoor
