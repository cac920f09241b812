/- Routes: the errors of mesh.Route, mesh.Distance. Over this seat's program. -/
import Derived.Test.YtlkcpnhepadenaaDoorRd
namespace Go.Proofs.YtlkcpnhepadenaaDoor
set_option linter.unusedVariables false
open Go.RowKit Go.Shelf

/-- The error of a mesh and two routers. -/
def rerr (W H R a b : Int) : Int := if chkM W H R ≠ 0 then 3 else if inR a 0 (W * H - 1) && inR b 0 (W * H - 1) then 0 else 4
theorem mul_le64 {W H : Int} (h1 : 1 ≤ W ∧ W ≤ 8) (h2 : 1 ≤ H ∧ H ≤ 8) : 1 ≤ W * H ∧ W * H ≤ 64 := by
  have a1 : 1 * 1 ≤ W * H := Int.mul_le_mul h1.1 h2.1 (by omega) (by omega)
  have a2 : W * H ≤ 8 * 8 := Int.mul_le_mul h1.2 h2.2 (by omega) (by omega)
  omega
theorem chkM_ne {W H R : Int} (h : chkM W H R ≠ 0) : chkM W H R = 3 := by
  unfold chkM at *; split at h <;> simp_all
/-- Which of the three ways an error comes. -/
theorem rerr_cases {W H R a b : Int} : (chkM W H R = 3 ∧ rerr W H R a b = 3) ∨
    (chkM W H R = 0 ∧ rerr W H R a b = 4 ∧ (inR a 0 (W * H - 1) = false ∨ inR a 0 (W * H - 1) = true ∧ inR b 0 (W * H - 1) = false)) ∨
    (chkM W H R = 0 ∧ rerr W H R a b = 0 ∧ inR a 0 (W * H - 1) = true ∧ inR b 0 (W * H - 1) = true) := by
  by_cases hc : chkM W H R = 0
  · have e : rerr W H R a b = if inR a 0 (W * H - 1) && inR b 0 (W * H - 1) then 0 else 4 := by
      unfold rerr; rw [if_neg (by simp [hc])]
    rw [e]
    cases inR a 0 (W * H - 1) <;> cases inR b 0 (W * H - 1) <;> simp [hc]
  · refine .inl ⟨chkM_ne hc, ?_⟩
    unfold rerr; rw [if_pos hc]
/-- Where there is no error all are small natural numbers. -/
theorem rerr_ok {W H R a b : Int} (h : rerr W H R a b = 0) : ∃ (Wn Hn an bn : Nat), W = Wn ∧ H = Hn ∧ a = an ∧ b = bn ∧ (1 ≤ Wn ∧ Wn ≤ 8) ∧ (1 ≤ Hn ∧ Hn ≤ 8) ∧ (1 ≤ R ∧ R ≤ 64) ∧ an < Wn * Hn ∧ bn < Wn * Hn := by
  rcases rerr_cases (W := W) (H := H) (R := R) (a := a) (b := b) with ⟨_, h2⟩ | ⟨_, h2, _⟩ | ⟨hc, _, h3, h4⟩
  · rw [h] at h2; cases h2
  · rw [h] at h2; cases h2
  · obtain ⟨k1, k2, k3⟩ := chkM_ok hc
    rw [inR_true] at h3 h4
    refine ⟨W.toNat, H.toNat, a.toNat, b.toNat, by omega, by omega, by omega, by omega, by omega, by omega, k3, ?_, ?_⟩
    · have : ((W.toNat * H.toNat : Nat) : Int) = W * H := by push_cast; rw [Int.toNat_of_nonneg (by omega), Int.toNat_of_nonneg (by omega)]
      omega
    · have : ((W.toNat * H.toNat : Nat) : Int) = W * H := by push_cast; rw [Int.toNat_of_nonneg (by omega), Int.toNat_of_nonneg (by omega)]
      omega

set_option maxHeartbeats 1000000 in
theorem route_err (W H R a b : Int) (h : rerr W H R a b ≠ 0) (w : World) :
    Calls Tryd.prog 19 #[.agg #[.int .i64 W, .int .i64 H, .int .i64 R], .int .i64 a, .int .i64 b] w fun e w' => e = .returned (.tuple #[.slice none 0 0, .int .i64 (rerr W H R a b)]) ∧ Below w.heap.size w w' := by
  have hck := check_any W H R
  rcases rerr_cases (W := W) (H := H) (R := R) (a := a) (b := b) with ⟨hc, h2⟩ | ⟨hc, h2, h3⟩ | ⟨_, h2, _⟩
  · rw [hc] at hck
    rw [h2]
    have HCK := Lib.hid hck
    clear hck hc h h2
    go_enter Tryd.func19, Tryd.ntmps19
    go_wp2_with (go_at_call 17; refine (HCK.out _).mono ?_; rintro e w1 ⟨rfl, hb1⟩)
    exact bodyPost_ret (v := .tuple #[.slice none 0 0, .int .i64 3]) (by simp [results, Tryd.results19, go_sem]) rfl ⟨rfl, ((Below.refl _ _).alloc (Nat.le_refl _) _).trans (hb1.mono (by simp))⟩
  · rw [hc] at hck
    rw [h2]
    obtain ⟨k1, k2, _⟩ := chkM_ok hc
    obtain ⟨m1, m2⟩ := mul_le64 k1 k2
    have hea := exists_any W H R a _ k1 k2 rfl m1 m2
    have heb := exists_any W H R b _ k1 k2 rfl m1 m2
    have HCK := Lib.hid hck
    rcases h3 with h3 | ⟨h3, h4⟩
    · rw [h3] at hea
      have HEA := Lib.hid hea
      clear hck hc h h2 hea heb h3 m1 m2 k1 k2
      go_enter Tryd.func19, Tryd.ntmps19
      go_wp2_with (first | (go_at_call 17; refine (HCK.out _).mono ?_; rintro e w1 ⟨rfl, hb1⟩; have f1 : w1.heap[w.heap.size]? = _ := (hb1.block _ (by simp)).trans (alloc_new_at _ _ _ rfl); obtain ⟨_, _, _⟩ := cells3 f1; have z1 := lt_of_block f1; have B1 := Lib.hid (((Below.refl _ _).alloc (Nat.le_refl _) _).trans (hb1.mono (by simp)) : Below w.heap.size w w1); clear hb1 f1) | (go_at_call 50; refine (HEA.out _).mono ?_; rintro e w2 ⟨rfl, hb2⟩))
      exact bodyPost_ret (v := .tuple #[.slice none 0 0, .int .i64 4]) (by simp [results, Tryd.results19, go_sem]) rfl ⟨rfl, B1.out.trans (hb2.mono (by omega))⟩
    · rw [h3] at hea
      rw [h4] at heb
      have HEA := Lib.hid hea
      have HEB := Lib.hid heb
      clear hck hc h h2 hea heb h3 h4 m1 m2 k1 k2
      go_enter Tryd.func19, Tryd.ntmps19
      go_wp2_with (first | (go_at_call 17; refine (HCK.out _).mono ?_; rintro e w1 ⟨rfl, hb1⟩; have f1 : w1.heap[w.heap.size]? = _ := (hb1.block _ (by simp)).trans (alloc_new_at _ _ _ rfl); obtain ⟨_, _, _⟩ := cells3 f1; have z1 := lt_of_block f1; have F1 := Lib.hid f1; have B1 := Lib.hid (((Below.refl _ _).alloc (Nat.le_refl _) _).trans (hb1.mono (by simp)) : Below w.heap.size w w1); clear hb1 f1))
      go_wp2_with fail
      go_at_call 50
      refine (HEA.out _).mono ?_
      rintro e w2 ⟨rfl, hb2⟩
      have f2 := (hb2.block _ z1).trans F1.out
      obtain ⟨_, _, _⟩ := cells3 f2
      have z2 := lt_of_block f2
      have B2 := Lib.hid (B1.out.trans (hb2.mono (by omega)))
      clear f2 hb2
      go_wp2_with (go_at_call 50; refine (HEB.out _).mono ?_; rintro e w3 ⟨rfl, hb3⟩)
      exact bodyPost_ret (v := .tuple #[.slice none 0 0, .int .i64 4]) (by simp [results, Tryd.results19, go_sem]) rfl ⟨rfl, B2.out.trans (hb3.mono (by omega))⟩
  · exact absurd h2 h

set_option maxHeartbeats 1000000 in
theorem dist_ok (W a b Hn : Nat) (R : Int) (h1 : 1 ≤ W) (h2 : W ≤ 8) (hH : 1 ≤ Hn) (hH2 : Hn ≤ 8) (hR : 1 ≤ R ∧ R ≤ 64) (ha : a < W * Hn) (hb : b < W * Hn) (w : World) :
    Calls Tryd.prog 15 #[.agg #[.int .i64 (W : Int), .int .i64 (Hn : Int), .int .i64 R], .int .i64 (a : Int), .int .i64 (b : Int)] w fun e w' => e = .returned (.tuple #[.int .i64 ((ds W a b : Nat) : Int), .int .i64 0]) ∧ Below w.heap.size w w' := by
  have hrt := fun w => callsIn_wide.1 (route_in W a b Hn R h1 h2 hH hH2 hR ha hb w)
  have hds := ds_le (a := a) (b := b) h1 ha hb
  have hlen := pth_length W a b
  obtain ⟨D, hD⟩ : ∃ D, D = ds W a b := ⟨_, rfl⟩
  rw [← hD] at hds hlen ⊢
  have hDl : D ≤ 14 := by omega
  have HR := Lib.hid hrt
  have HL := Lib.hid hlen
  clear hrt hlen hD h1 h2 hH hH2 hR ha hb hds
  go_enter Tryd.func15, Tryd.ntmps15
  go_wp2_with (go_at_call 19; refine (HR.out _).mono ?_; rintro e w1 ⟨v, rfl, ho, hb1⟩; rw [HL.out] at ho; obtain ⟨g, cap, rfl⟩ := ownsRow_succ ho; clear ho)
  have hv : wrap64 ((D : Int) + 1 - 1) = (D : Int) := by rw [IntWalk.wrap64_in _ (by omega)]; omega
  go_wp2_with fail
  exact bodyPost_ret (v := .tuple #[.int .i64 (D : Int), .int .i64 0]) (by simp [results, Tryd.results15, go_sem]; try omega) rfl ⟨rfl, ((Below.refl _ _).alloc (Nat.le_refl _) _).trans (hb1.mono (by simp))⟩

set_option maxHeartbeats 1000000 in
theorem dist_err (W H R a b : Int) (h : rerr W H R a b ≠ 0) (w : World) :
    Calls Tryd.prog 15 #[.agg #[.int .i64 W, .int .i64 H, .int .i64 R], .int .i64 a, .int .i64 b] w fun e w' => e = .returned (.tuple #[.int .i64 0, .int .i64 (rerr W H R a b)]) ∧ Below w.heap.size w w' := by
  have hr := route_err W H R a b h
  have hne : (rerr W H R a b != 0) = true := by simpa using h
  obtain ⟨E, hE⟩ : ∃ E, E = rerr W H R a b := ⟨_, rfl⟩
  rw [← hE] at hr hne ⊢
  have HR := Lib.hid hr
  clear hr hE h
  go_enter Tryd.func15, Tryd.ntmps15
  go_wp2_with (go_at_call 19; refine (HR.out _).mono ?_; rintro e w1 ⟨rfl, hb1⟩)
  exact bodyPost_ret (v := .tuple #[.int .i64 0, .int .i64 E]) (by simp [results, Tryd.results15, go_sem]) rfl ⟨rfl, ((Below.refl _ _).alloc (Nat.le_refl _) _).trans (hb1.mono (by simp))⟩
end Go.Proofs.YtlkcpnhepadenaaDoor
