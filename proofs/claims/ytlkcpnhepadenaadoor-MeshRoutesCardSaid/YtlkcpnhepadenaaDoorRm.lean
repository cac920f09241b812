/- Routes: the specification's Tree. Over this seat's program. (mk_Rm.py wrote this.) -/
import Derived.Test.YtlkcpnhepadenaaDoorRk
import Derived.Test.YtlkcpnhepadenaaDoorRh
namespace Go.Proofs.YtlkcpnhepadenaaDoor
set_option linter.unusedVariables false
open Go.RowKit Go.Shelf

theorem row_cell {W : World} {base lg n lc k x : Nat} {xs : List Nat} (h : W.ownsRow base 3 1 (.slice (some ⟨lg, 0, none⟩) n lc) n (natV xs)) (hx : xs[k]? = some x) : W.cell? ⟨lg, k, none⟩ = some (.int .i64 (x : Int)) := by
  have := h.cells (g := lg) rfl k (.int .i64 (x : Int)) (by simp [natV, hx])
  have hadd : (⟨lg, 0, none⟩ : Addr).add k = ⟨lg, k, none⟩ := by unfold Addr.add; split <;> simp_all
  rw [hadd] at this; exact this
theorem getD_set_ne' {L : Array Bool} {i j : Nat} (h : i ≠ j) : (L.setIfInBounds i true).getD j false = L.getD j false := by
  simp only [Array.getD_eq_getD_getElem?]; rw [Array.getElem?_setIfInBounds_ne h]
/-- A region of reads with a store at its end. -/
def StR (wr : World) (g x : Nat) (e : Int) (L : Array Bool) (W1 : World) : Prop := (L.getD 24 false = false → Below wr.heap.size wr W1) ∧ (L.getD 24 false = true → ∃ W2, Below wr.heap.size wr W2 ∧ W1 = W2.setCell ⟨g, x, none⟩ (.int .i64 e))
theorem StR.skip {wr : World} {g x : Nat} {e : Int} {L : Array Bool} {W1 : World} (h24 : L.getD 24 false = false) (hb : Below wr.heap.size wr W1) (i : Nat) (hi : i ≠ 24) : StR wr g x e (L.setIfInBounds i true) W1 :=
  ⟨fun _ => hb, fun h => by rw [getD_set_ne' hi] at h; rw [h] at h24; cases h24⟩
theorem StR.store {wr : World} {g x : Nat} {e : Int} {L : Array Bool} {W1 : World} (hs : 24 < L.size) (hb : Below wr.heap.size wr W1) : StR wr g x e (L.setIfInBounds 24 true) (W1.setCell ⟨g, x, none⟩ (.int .i64 e)) :=
  ⟨fun h => by simp only [Array.getD_eq_getD_getElem?, Array.getElem?_setIfInBounds_self] at h; simp [hs] at h, fun _ => ⟨W1, hb, rfl⟩⟩
/-- What Route has left, as a slice. -/
def RowGot (wr : World) (D : Nat) (xs : List Nat) (v : Value) (W1 : World) : Prop := ∃ g cap', v = .slice (some ⟨g, 0, none⟩) (D + 1) cap' ∧ W1.ownsRow wr.heap.size 3 1 v (D + 1) (natV xs) ∧ Below wr.heap.size wr W1
def rm7 (W H R : Int) (tb to j m cap : Nat) (z : Int) (B : Bool) : Nat → Value
  | 0 => .agg #[.int .i64 W, .int .i64 H, .int .i64 R]
  | 1 => .slice (some ⟨tb, to, none⟩) m cap
  | 2 => .int .i64 (j : Int)
  | 3 => .pointer (some ⟨tb, to + j, none⟩)
  | 4 => .int .i64 z
  | 5 => .bool B
  | 6 => .bool (!B)
  | _ => undef
def rm15 (W H R a : Int) (tb to j m cap : Nat) (t : Int) (v : Value) : Nat → Value
  | 0 => .agg #[.int .i64 W, .int .i64 H, .int .i64 R]
  | 1 => .int .i64 a
  | 2 => .slice (some ⟨tb, to, none⟩) m cap
  | 3 => .int .i64 (j : Int)
  | 4 => .pointer (some ⟨tb, to + j, none⟩)
  | 5 => .int .i64 t
  | 6 => .tuple #[v, .int .i64 0]
  | 7 => .tuple #[v, .int .i64 0]
  | 8 => v
  | 9 => .int .i64 0
  | 10 => v
  | 11 => .int .i64 0
  | _ => undef
def rm19 (g n lg D lc k x : Nat) (old W H R : Int) (tb to m cap j : Nat) (t : Int) (tv : Nat) : Nat → Value
  | 0 => .slice (some ⟨g, 0, none⟩) n n
  | 1 => .slice (some ⟨lg, 0, none⟩) (D + 1) lc
  | 2 => .int .i64 (k : Int)
  | 3 => .pointer (some ⟨lg, k, none⟩)
  | 4 => .int .i64 (x : Int)
  | 5 => .slice (some ⟨g, 0, none⟩) n n
  | 6 => .slice (some ⟨lg, 0, none⟩) (D + 1) lc
  | 7 => .int .i64 (k : Int)
  | 8 => .pointer (some ⟨lg, k, none⟩)
  | 9 => .int .i64 (x : Int)
  | 10 => .pointer (some ⟨g, x, none⟩)
  | 11 => .int .i64 old
  | 12 => .agg #[.int .i64 W, .int .i64 H, .int .i64 R]
  | 13 => .slice (some ⟨lg, 0, none⟩) (D + 1) lc
  | 14 => .int .i64 (k : Int)
  | 15 => .pointer (some ⟨lg, k, none⟩)
  | 16 => .int .i64 (x : Int)
  | 17 => .slice (some ⟨tb, to, none⟩) m cap
  | 18 => .int .i64 (j : Int)
  | 19 => .pointer (some ⟨tb, to + j, none⟩)
  | 20 => .int .i64 t
  | 21 => .int .i64 (tv : Int)
  | 22 => .int .i64 (orM old (tv : Int))
  | 23 => .pointer (some ⟨g, x, none⟩)
  | _ => undef

theorem two_same {W H R a : Int} : rerr W H R a a = 0 ∨ (chkM W H R = 3 ∧ rerr W H R a a = 3) ∨ (chkM W H R = 0 ∧ inR a 0 (W * H - 1) = false ∧ rerr W H R a a = 4) := by
  rcases rerr_cases (W := W) (H := H) (R := R) (a := a) (b := a) with ⟨h1, h2⟩ | ⟨h1, h2, h3⟩ | ⟨_, h2, _⟩
  · exact .inr (.inl ⟨h1, h2⟩)
  · refine .inr (.inr ⟨h1, ?_, h2⟩)
    rcases h3 with h3 | ⟨h3, h4⟩
    · exact h3
    · rw [h3] at h4; cases h4
  · exact .inl h2
theorem rerr_zero {W H R a : Int} (hc : chkM W H R = 0) (h : inR a 0 (W * H - 1) = true) : rerr W H R a a = 0 := by
  unfold rerr; rw [if_neg (by simp [hc])]; simp [h]

set_option maxRecDepth 100000 in
set_option maxHeartbeats 4000000 in
theorem rtree_err (W H R a : Int) (sa : Option Addr) (m cap : Nat) (zs : List Int) (hm : m = zs.length) (hm2 : m ≤ 100) (w : World) (hI : IntsAt w (.slice sa m cap) zs) (h : terr W H R a zs ≠ 0) :
    Calls Tryd.prog 23 #[.agg #[.int .i64 W, .int .i64 H, .int .i64 R], .int .i64 a, .slice sa m cap] w fun e w' => e = .returned (.tuple #[.slice none 0 0, .int .i64 (terr W H R a zs)]) ∧ Below w.heap.size w w' := by
  have htw := two_any W H R a a
  have hten : ∀ E, rerr W H R a a = E → terr W H R a zs = E → E ≠ 0 → ∀ w, Calls Tryd.prog 23 #[.agg #[.int .i64 W, .int .i64 H, .int .i64 R], .int .i64 a, .slice sa m cap] w fun e w' => e = .returned (.tuple #[.slice none 0 0, .int .i64 (terr W H R a zs)]) ∧ Below w.heap.size w w' := by
    intro E h1 h2 h3 w
    rw [h2]
    rw [h1] at htw
    have hne : (E != 0) = true := by simpa using h3
    have HR := Lib.hid htw
    clear htw h h1 h2 h3 hI hm
    go_enter Tryd.func23, Tryd.ntmps23
    go_wp2_with (go_at_call 52; refine (HR.out _).mono ?_; rintro e w1 ⟨rfl, hb1⟩)
    exact bodyPost_ret (v := .tuple #[.slice none 0 0, .int .i64 E]) (by simp [results, Tryd.results23, go_sem]) rfl ⟨rfl, ((Below.refl _ _).alloc (Nat.le_refl _) _).trans (hb1.mono (by simp))⟩
  rcases terr_cases (W := W) (H := H) (R := R) (a := a) (zs := zs) with ⟨hc, h2⟩ | ⟨hc, h2, h3⟩ | ⟨hc, h2, h3, h4⟩ | ⟨hc, h2, h3, h4⟩ | ⟨_, h2, _⟩
  · exact hten 3 (by unfold rerr; rw [if_pos (by rw [hc]; decide)]) h2 (by decide) w
  · exact hten 4 (by unfold rerr; rw [if_neg (by simp [hc]), h3]; rfl) h2 (by decide) w
  · obtain ⟨q, q1, q2, q3⟩ := first_bad h4
    rw [rerr_zero hc h3] at htw
    rw [h2]
    obtain ⟨k1, k2, _⟩ := chkM_ok hc
    obtain ⟨m1, m2⟩ := mul_le64 k1 k2
    have hea := fun x => is_any W H R x _ k1 k2 rfl m1 m2
    have HEA := Lib.hid hea
    have HTW := Lib.hid htw
    have HQ2 := Lib.hid q2
    have HQ3 := Lib.hid q3
    rw [← hm] at q1
    obtain ⟨tb, to, rfl, _⟩ := intsAt_cell hI 0 (by omega)
    have hcl : ∀ j, j < m → w.cell? ⟨tb, to + j, none⟩ = some (.int .i64 (zs[j]?.getD 0)) ∧ tb < w.heap.size := fun j hj => by
      obtain ⟨b, o, e, hc⟩ := intsAt_cell hI j (by omega)
      cases e
      exact ⟨hc, World.block_lt_of_cell? w _ hc⟩
    have HCL := Lib.hid hcl
    clear hten htw hc h h2 hea q2 q3 h3 h4 m1 m2 k1 k2 hI hcl hm
    go_enter Tryd.func23, Tryd.ntmps23
    go_wp2_with (go_at_call 52; refine (HTW.out _).mono ?_; rintro e w1 ⟨rfl, hb1⟩; have f1 : w1.heap[w.heap.size]? = _ := (hb1.block _ (by simp)).trans (alloc_new_at _ _ _ rfl); have z1 := lt_of_block f1; have F1 := Lib.hid f1; have B1 := Lib.hid (((Below.refl _ _).alloc (Nat.le_refl _) _).trans (hb1.mono (by simp)) : Below w.heap.size w w1); clear hb1 f1)
    go_loopw [9] (fun s9 wr => ∃ j : Nat, j ≤ q ∧ s9 = .int .i64 j ∧ Below w1.heap.size w1 wr) (fun s9 _ => q + 1 - (intOf s9).toNat)
    case atStart => exact ⟨0, Nat.zero_le _, rfl, Below.refl _ _⟩
    case round =>
      obtain ⟨j, hj, rfl, hb⟩ := hrel
      have hj0 : (0 : Int) ≤ (j : Int) := Int.natCast_nonneg _
      have hj1 : (j : Int) < (m : Int) := by omega
      have fr : RSpecAt wr w.heap.size W H R := (hb.block _ z1).trans F1.out
      have zr := fr.lt
      have FR := Lib.hid fr
      have htb0 := (HCL.out j (by omega)).2
      have htb : tb < wr.heap.size := by omega
      have hc1 := ((B1.out.trans (hb.mono (by omega))).cell (p := ⟨tb, to + j, none⟩) htb0).trans (HCL.out j (by omega)).1
      have HQJ := Lib.hid (HQ2.out j)
      have hB := Lib.hid hb
      obtain ⟨z, hz⟩ : ∃ z, z = zs[j]?.getD 0 := ⟨_, rfl⟩
      rw [← hz] at hc1 HQJ
      have hea := HEA.out z
      have HZ := Lib.hid hz
      have HC1 := Lib.hid hc1
      clear hb hz fr hc1
      by_cases hlt : j < q
      · rw [HQJ.out hlt] at hea
        have HE2 := Lib.hid hea
        clear hea
        go_wp2
        refine wp_region_fix (rm7 W H R tb to j m cap z true) (fun _ => true) (fun _ => true) (fun _ => Below wr.heap.size wr) (by kernel_rfl) (by kernel_rfl) (by kernel_rfl) (by kernel_rfl) (by simp [dstIn]) ?gv ?un (Below.refl _ _).drew (fun _ _ _ _ h => h) ?stp ?dn
        case gv => intro i hi; simp [isGd] at hi
        case un => intro i hi hw; simp at hw
        case stp =>
          intro L W1 i o b' hs ho hwt hlF hcl hd hI hh hlate
          have hi := (List.getElem?_eq_some_iff.1 ho).1
          have hc : i = 0 ∨ i = 1 ∨ i = 2 ∨ i = 3 ∨ i = 4 ∨ i = 5 ∨ i = 6 := by simp at hi; omega
          obtain ⟨_, _, _⟩ := RSpecAt.cells (A := W) (H := H) (R := R) ((hI.block _ zr).trans FR.out)
          have hc1 := ((bcell hI).1 _ _ htb).trans HC1.out
          have HI := Lib.hid hI
          clear hi hI hs hlF hcl hd
          have k2 := hh.kept 2 (by simp)
          simp at k2
          have k3 := hh.kept 3 (by simp)
          simp at k3
          have k9 := hh.kept 9 (by simp)
          simp at k9
          rcases hc with rfl | rfl | rfl | rfl | rfl | rfl | rfl
          · simp only [List.getElem?_cons_zero, Option.some.injEq] at ho
            subst ho
            go_simp
            exact ⟨rfl, HI.out⟩
          · simp only [List.getElem?_cons_zero, List.getElem?_cons_succ, Option.some.injEq] at ho
            subst ho
            go_simp
            exact ⟨rfl, HI.out⟩
          · simp only [List.getElem?_cons_zero, List.getElem?_cons_succ, Option.some.injEq] at ho
            subst ho
            go_simp
            exact ⟨rfl, HI.out⟩
          · simp only [List.getElem?_cons_zero, List.getElem?_cons_succ, Option.some.injEq] at ho
            subst ho
            have g1 := hh.got 1 _ 29 rfl rfl ⟨⟨1, .data⟩, by simp, rfl, rfl⟩ (by simp)
            have g2 := hh.got 2 _ 30 rfl rfl ⟨⟨2, .data⟩, by simp, rfl, rfl⟩ (by simp)
            simp [rm7] at g1 g2
            go_simp
            exact ⟨rfl, HI.out⟩
          · simp only [List.getElem?_cons_zero, List.getElem?_cons_succ, Option.some.injEq] at ho
            subst ho
            have g3 := hh.got 3 _ 31 rfl rfl ⟨⟨3, .data⟩, by simp, rfl, rfl⟩ (by simp)
            simp [rm7] at g3
            go_simp
            exact ⟨rfl, HI.out⟩
          · simp only [List.getElem?_cons_zero, List.getElem?_cons_succ, Option.some.injEq] at ho
            subst ho
            have g0 := hh.got 0 _ 28 rfl rfl ⟨⟨0, .data⟩, by simp, rfl, rfl⟩ (by simp)
            have g4 := hh.got 4 _ 32 rfl rfl ⟨⟨4, .data⟩, by simp, rfl, rfl⟩ (by simp)
            simp [rm7] at g0 g4
            go_simp
            go_at_call 56
            refine (HE2.out _).mono ?_
            rintro e w6 ⟨rfl, hb6⟩
            exact ⟨rfl, HI.out.trans (hb6.mono HI.out.size)⟩
          · simp only [List.getElem?_cons_zero, List.getElem?_cons_succ, Option.some.injEq] at ho
            subst ho
            have g5 := hh.got 5 _ 33 rfl rfl ⟨⟨5, .data⟩, by simp, rfl, rfl⟩ (by simp)
            simp [rm7] at g5
            go_simp
            exact ⟨rfl, HI.out⟩
        case dn =>
          intro W1 b' hI hb
          simp only [puts, rm7] at hb
          subst hb
          simp only [Act.put, List.setIfInBounds_toArray, List.set_cons_succ, List.set_cons_zero]
          have HI := Lib.hid hI
          clear hI
          go_wp2
          go_roundw
          case rel => exact ⟨j + 1, hlt, by go_num, hB.out.trans (HI.out.mono hB.out.size)⟩
          case measure => simp [intOf]; omega
      · have hjq : j = q := by omega
        have q3 := HQ3.out
        rw [← hjq, ← HZ.out] at q3
        rw [q3] at hea
        have HE2 := Lib.hid hea
        clear hea q3 hjq
        go_wp2
        refine wp_region_fix (rm7 W H R tb to j m cap z false) (fun _ => true) (fun _ => true) (fun _ => Below wr.heap.size wr) (by kernel_rfl) (by kernel_rfl) (by kernel_rfl) (by kernel_rfl) (by simp [dstIn]) ?gv ?un (Below.refl _ _).drew (fun _ _ _ _ h => h) ?stp ?dn
        case gv => intro i hi; simp [isGd] at hi
        case un => intro i hi hw; simp at hw
        case stp =>
          intro L W1 i o b' hs ho hwt hlF hcl hd hI hh hlate
          have hi := (List.getElem?_eq_some_iff.1 ho).1
          have hc : i = 0 ∨ i = 1 ∨ i = 2 ∨ i = 3 ∨ i = 4 ∨ i = 5 ∨ i = 6 := by simp at hi; omega
          obtain ⟨_, _, _⟩ := RSpecAt.cells (A := W) (H := H) (R := R) ((hI.block _ zr).trans FR.out)
          have hc1 := ((bcell hI).1 _ _ htb).trans HC1.out
          have HI := Lib.hid hI
          clear hi hI hs hlF hcl hd
          have k2 := hh.kept 2 (by simp)
          simp at k2
          have k3 := hh.kept 3 (by simp)
          simp at k3
          have k9 := hh.kept 9 (by simp)
          simp at k9
          rcases hc with rfl | rfl | rfl | rfl | rfl | rfl | rfl
          · simp only [List.getElem?_cons_zero, Option.some.injEq] at ho
            subst ho
            go_simp
            exact ⟨rfl, HI.out⟩
          · simp only [List.getElem?_cons_zero, List.getElem?_cons_succ, Option.some.injEq] at ho
            subst ho
            go_simp
            exact ⟨rfl, HI.out⟩
          · simp only [List.getElem?_cons_zero, List.getElem?_cons_succ, Option.some.injEq] at ho
            subst ho
            go_simp
            exact ⟨rfl, HI.out⟩
          · simp only [List.getElem?_cons_zero, List.getElem?_cons_succ, Option.some.injEq] at ho
            subst ho
            have g1 := hh.got 1 _ 29 rfl rfl ⟨⟨1, .data⟩, by simp, rfl, rfl⟩ (by simp)
            have g2 := hh.got 2 _ 30 rfl rfl ⟨⟨2, .data⟩, by simp, rfl, rfl⟩ (by simp)
            simp [rm7] at g1 g2
            go_simp
            exact ⟨rfl, HI.out⟩
          · simp only [List.getElem?_cons_zero, List.getElem?_cons_succ, Option.some.injEq] at ho
            subst ho
            have g3 := hh.got 3 _ 31 rfl rfl ⟨⟨3, .data⟩, by simp, rfl, rfl⟩ (by simp)
            simp [rm7] at g3
            go_simp
            exact ⟨rfl, HI.out⟩
          · simp only [List.getElem?_cons_zero, List.getElem?_cons_succ, Option.some.injEq] at ho
            subst ho
            have g0 := hh.got 0 _ 28 rfl rfl ⟨⟨0, .data⟩, by simp, rfl, rfl⟩ (by simp)
            have g4 := hh.got 4 _ 32 rfl rfl ⟨⟨4, .data⟩, by simp, rfl, rfl⟩ (by simp)
            simp [rm7] at g0 g4
            go_simp
            go_at_call 56
            refine (HE2.out _).mono ?_
            rintro e w6 ⟨rfl, hb6⟩
            exact ⟨rfl, HI.out.trans (hb6.mono HI.out.size)⟩
          · simp only [List.getElem?_cons_zero, List.getElem?_cons_succ, Option.some.injEq] at ho
            subst ho
            have g5 := hh.got 5 _ 33 rfl rfl ⟨⟨5, .data⟩, by simp, rfl, rfl⟩ (by simp)
            simp [rm7] at g5
            go_simp
            exact ⟨rfl, HI.out⟩
        case dn =>
          intro W1 b' hI hb
          simp only [puts, rm7] at hb
          subst hb
          simp only [Act.put, List.setIfInBounds_toArray, List.set_cons_succ, List.set_cons_zero]
          have HI := Lib.hid hI
          clear hI
          go_wp2
          exact bodyPost_ret (v := .tuple #[.slice none 0 0, .int .i64 4]) (by simp [results, Tryd.results23, go_sem]) rfl ⟨rfl, B1.out.trans ((hB.out.trans (HI.out.mono hB.out.size)).mono (by omega))⟩
  · rw [rerr_zero hc h3] at htw
    rw [h2]
    have HTW := Lib.hid htw
    have hm0 : m = 0 := by rw [hm, h4]; rfl
    subst hm0
    clear hten htw hc h h2 h3 h4 hI hm
    go_enter Tryd.func23, Tryd.ntmps23
    go_wp2_with (go_at_call 52; refine (HTW.out _).mono ?_; rintro e w1 ⟨rfl, hb1⟩; have B1 := Lib.hid (((Below.refl _ _).alloc (Nat.le_refl _) _).trans (hb1.mono (by simp)) : Below w.heap.size w w1); clear hb1)
    go_loopw [9] (fun s9 wr => s9 = .int .i64 0 ∧ wr = w1) (fun _ _ => 0)
    case atStart => exact ⟨rfl, rfl⟩
    case round =>
      obtain ⟨rfl, rfl⟩ := hrel
      go_wp2
      exact bodyPost_ret (v := .tuple #[.slice none 0 0, .int .i64 2]) (by simp [results, Tryd.results23, go_sem]) rfl ⟨rfl, B1.out⟩
  · exact absurd h2 h

set_option maxRecDepth 100000 in
set_option maxHeartbeats 4000000 in
theorem rtree_ok (W a Hn : Nat) (R : Int) (h1 : 1 ≤ W) (h2 : W ≤ 8) (hH : 1 ≤ Hn) (hH2 : Hn ≤ 8) (hR : 1 ≤ R ∧ R ≤ 64) (ha : a < W * Hn) (ts : List Nat) (hts : ∀ t ∈ ts, t < W * Hn) (hne : ts ≠ []) (sa : Option Addr) (m cap : Nat) (hm : m = ts.length) (hm2 : m ≤ 100)
    (w : World) (hI : IntsAt w (.slice sa m cap) (ts.map fun t : Nat => (t : Int))) :
    Calls Tryd.prog 23 #[.agg #[.int .i64 (W : Int), .int .i64 (Hn : Int), .int .i64 R], .int .i64 (a : Int), .slice sa m cap] w (TreeOk W a (W * Hn) ts w) := by
  have h64 : W * Hn ≤ 64 := Nat.mul_le_mul h2 hH2
  have h65 : 1 * 1 ≤ W * Hn := Nat.mul_le_mul h1 hH
  have hX : (W : Int) * (Hn : Int) = ((W * Hn : Nat) : Int) := by push_cast; rfl
  have hc : chkM W Hn R = 0 := by
    unfold chkM; rw [if_pos]; simp only [Bool.and_eq_true, inR_true]; omega
  have htw := two_any W Hn R a a
  rw [rerr_zero hc (by rw [hX, inR_true]; omega)] at htw
  have hea : ∀ x, x < W * Hn → ∀ w, Calls Tryd.prog 56 #[.agg #[.int .i64 (W : Int), .int .i64 (Hn : Int), .int .i64 R], .int .i64 (x : Int)] w fun e w' => e = .returned (.bool true) ∧ Below w.heap.size w w' := fun x hx w => by
    have := is_any W Hn R x ((W * Hn : Nat) : Int) (by omega) (by omega) hX (by omega) (by omega) w
    rw [inR_true.2 (by omega)] at this
    exact this
  have hrr := fun (t : Nat) (ht : t < W * Hn) w => rroute_ok W a t Hn R h1 h2 hH hH2 hR ha ht w
  have htow := fun (x t : Nat) (hx : x < W * Hn) (ht : t < W * Hn) w => towards_any W x t Hn R h1 h2 (by omega) (by omega) w
  have hin := fun (t : Nat) (ht : t < W * Hn) => itr_in (W := W) (H := Hn) (a := a) (b := t) h1 ha ht
  have hdl := fun (t : Nat) (ht : t < W * Hn) => ds_le (a := a) (b := t) h1 ha ht
  have hzr := make_zeros (W * Hn) (by omega)
  obtain ⟨n, hn⟩ : ∃ n, n = W * Hn := ⟨_, rfl⟩
  have hmul : wrap64 ((W : Int) * (Hn : Int)) = (n : Int) := by rw [hX, ← hn, IntWalk.wrap64_in _ (by omega)]
  rw [← hn] at hzr h64 h65 hea ha hts hrr htow hin hdl ⊢
  have hm0 : 0 < m := by rw [hm]; exact List.length_pos_iff.2 hne
  obtain ⟨tb, to, rfl, _⟩ := intsAt_cell hI 0 (by simp; omega)
  have htl : ∀ j, j < m → ∃ t, ts[j]? = some t ∧ t < n ∧ w.cell? ⟨tb, to + j, none⟩ = some (.int .i64 (t : Int)) ∧ tb < w.heap.size := fun j hj => by
    obtain ⟨b, o, e, hc⟩ := intsAt_cell hI j (by simp; omega)
    cases e
    have hjl : j < ts.length := by omega
    refine ⟨ts[j], by simp [hjl], hts _ (List.getElem_mem hjl), ?_, World.block_lt_of_cell? w _ hc⟩
    rw [hc]; simp [hjl]
  have hn1 : (1 : Int) ≤ (n : Int) := by omega
  have hn2 : (n : Int) ≤ 64 := by omega
  have HEA := Lib.hid hea
  have HTW2 := Lib.hid htw
  have HRR0 := Lib.hid hrr
  have HTOW := Lib.hid htow
  have HIN := Lib.hid hin
  have HDL := Lib.hid hdl
  have HTL := Lib.hid htl
  have HM := Lib.hid hm
  have HWH := Lib.hid (show 1 ≤ W ∧ W ≤ 8 ∧ 1 ≤ Hn ∧ Hn ≤ 8 from ⟨h1, h2, hH, hH2⟩)
  have HMUL := Lib.hid hmul
  clear hc hea htw hrr htow hin hdl htl hm hn hX h1 h2 hH hH2 hR hI hts hne hmul ha
  go_enter Tryd.func23, Tryd.ntmps23
  go_wp2_with (go_at_call 52; refine (HTW2.out _).mono ?_; rintro e w1 ⟨rfl, hb1⟩; have f1 : w1.heap[w.heap.size]? = _ := (hb1.block _ (by simp)).trans (alloc_new_at _ _ _ rfl); have z1 := lt_of_block f1; have F1 := Lib.hid f1; have B1 := Lib.hid (((Below.refl _ _).alloc (Nat.le_refl _) _).trans (hb1.mono (by simp)) : Below w.heap.size w w1); clear hb1 f1)
  go_loopw [9] (fun s9 wr => ∃ j : Nat, j ≤ m ∧ s9 = .int .i64 j ∧ Below w1.heap.size w1 wr) (fun s9 _ => m - (intOf s9).toNat)
  case atStart => exact ⟨0, Nat.zero_le _, rfl, Below.refl _ _⟩
  case round =>
    obtain ⟨j, hj, rfl, hb⟩ := hrel
    have hj0 : (0 : Int) ≤ (j : Int) := Int.natCast_nonneg _
    have fr : RSpecAt wr w.heap.size W Hn R := (hb.block _ z1).trans F1.out
    have zr := fr.lt
    have FR := Lib.hid fr
    have HB := Lib.hid hb
    clear fr hb
    by_cases hlt : j < m
    · have hj1 : (j : Int) < (m : Int) := by omega
      obtain ⟨t, htj, htn, hct, htb0⟩ := HTL.out j hlt
      have htb : tb < wr.heap.size := by omega
      have HC1 := Lib.hid (((B1.out.trans (HB.out.mono (by omega))).cell (p := ⟨tb, to + j, none⟩) htb0).trans hct)
      have HE2 := Lib.hid (HEA.out t htn)
      clear hct htj
      go_wp2
      refine wp_region_fix (rm7 W Hn R tb to j m cap t true) (fun _ => true) (fun _ => true) (fun _ => Below wr.heap.size wr) (by kernel_rfl) (by kernel_rfl) (by kernel_rfl) (by kernel_rfl) (by simp [dstIn]) ?gv ?un (Below.refl _ _).drew (fun _ _ _ _ h => h) ?stp ?dn
      case gv => intro i hi; simp [isGd] at hi
      case un => intro i hi hw; simp at hw
      case stp =>
        intro L W1 i o b' hs ho hwt hlF hcl hd hI hh hlate
        have hi := (List.getElem?_eq_some_iff.1 ho).1
        have hc : i = 0 ∨ i = 1 ∨ i = 2 ∨ i = 3 ∨ i = 4 ∨ i = 5 ∨ i = 6 := by simp at hi; omega
        obtain ⟨_, _, _⟩ := RSpecAt.cells (A := W) (H := Hn) (R := R) ((hI.block _ zr).trans FR.out)
        have hc1 := ((bcell hI).1 _ _ htb).trans HC1.out
        have HI := Lib.hid hI
        clear hi hI hs hlF hcl hd
        have k2 := hh.kept 2 (by simp)
        simp at k2
        have k3 := hh.kept 3 (by simp)
        simp at k3
        have k9 := hh.kept 9 (by simp)
        simp at k9
        rcases hc with rfl | rfl | rfl | rfl | rfl | rfl | rfl
        · simp only [List.getElem?_cons_zero, Option.some.injEq] at ho
          subst ho
          go_simp
          exact ⟨rfl, HI.out⟩
        · simp only [List.getElem?_cons_zero, List.getElem?_cons_succ, Option.some.injEq] at ho
          subst ho
          go_simp
          exact ⟨rfl, HI.out⟩
        · simp only [List.getElem?_cons_zero, List.getElem?_cons_succ, Option.some.injEq] at ho
          subst ho
          go_simp
          exact ⟨rfl, HI.out⟩
        · simp only [List.getElem?_cons_zero, List.getElem?_cons_succ, Option.some.injEq] at ho
          subst ho
          have g1 := hh.got 1 _ 29 rfl rfl ⟨⟨1, .data⟩, by simp, rfl, rfl⟩ (by simp)
          have g2 := hh.got 2 _ 30 rfl rfl ⟨⟨2, .data⟩, by simp, rfl, rfl⟩ (by simp)
          simp [rm7] at g1 g2
          go_simp
          exact ⟨rfl, HI.out⟩
        · simp only [List.getElem?_cons_zero, List.getElem?_cons_succ, Option.some.injEq] at ho
          subst ho
          have g3 := hh.got 3 _ 31 rfl rfl ⟨⟨3, .data⟩, by simp, rfl, rfl⟩ (by simp)
          simp [rm7] at g3
          go_simp
          exact ⟨rfl, HI.out⟩
        · simp only [List.getElem?_cons_zero, List.getElem?_cons_succ, Option.some.injEq] at ho
          subst ho
          have g0 := hh.got 0 _ 28 rfl rfl ⟨⟨0, .data⟩, by simp, rfl, rfl⟩ (by simp)
          have g4 := hh.got 4 _ 32 rfl rfl ⟨⟨4, .data⟩, by simp, rfl, rfl⟩ (by simp)
          simp [rm7] at g0 g4
          go_simp
          go_at_call 56
          refine (HE2.out _).mono ?_
          rintro e w6 ⟨rfl, hb6⟩
          exact ⟨rfl, HI.out.trans (hb6.mono HI.out.size)⟩
        · simp only [List.getElem?_cons_zero, List.getElem?_cons_succ, Option.some.injEq] at ho
          subst ho
          have g5 := hh.got 5 _ 33 rfl rfl ⟨⟨5, .data⟩, by simp, rfl, rfl⟩ (by simp)
          simp [rm7] at g5
          go_simp
          exact ⟨rfl, HI.out⟩
      case dn =>
        intro W1 b' hI hb
        simp only [puts, rm7] at hb
        subst hb
        simp only [Act.put, List.setIfInBounds_toArray, List.set_cons_succ, List.set_cons_zero]
        have HI := Lib.hid hI
        clear hI
        go_wp2
        go_roundw
        case rel => exact ⟨j + 1, hlt, by go_num, HB.out.trans (HI.out.mono HB.out.size)⟩
        case measure => simp [intOf]; omega
    · obtain rfl : m = j := by omega
      obtain ⟨_, _, _⟩ := FR.out.cells
      have hm3 : ((m : Int) == 0) = false := by simp; omega
      have hmul := HMUL.out
      go_wp2
      obtain ⟨W2, hW2⟩ : ∃ W2, wr.alloc (.cells (Array.replicate n (Value.int .i64 0)) 3) = W2 := ⟨_, rfl⟩
      obtain ⟨g, hg⟩ : ∃ g, g = wr.heap.size := ⟨_, rfl⟩
      have q1 : TimesAt W2 g n (treeM W a (ts.take 0)) := by
        refine ⟨Array.replicate n (Value.int .i64 0), ?_, fun j hj => by simp [hj, treeM]⟩
        rw [← hW2]; exact alloc_new_at _ _ _ hg
      have q3 : RSpecAt W2 w.heap.size W Hn R := by rw [← hW2]; exact (Below.heap_alloc _ _ _ zr).trans FR.out
      have q4 : Below w.heap.size w W2 := by rw [← hW2]; exact (B1.out.trans (HB.out.mono (by omega))).alloc (by omega) _
      have hgw : w.heap.size < g := by omega
      rw [hW2, ← hg]
      have Q1 := Lib.hid q1
      have Q3 := Lib.hid q3
      have Q4 := Lib.hid q4
      clear hW2 hg q1 q3 q4 zr FR HB hmul hj
      go_loopw [11] (fun s11 wr => ∃ j : Nat, j ≤ m ∧ s11 = .int .i64 j ∧ TimesAt wr g n (treeM W a (ts.take j)) ∧ RSpecAt wr w.heap.size W Hn R ∧ Below w.heap.size w wr) (fun s11 _ => m - (intOf s11).toNat)
      case atStart => exact ⟨0, Nat.zero_le _, rfl, Q1.out, Q3.out, Q4.out⟩
      case round =>
        obtain ⟨j, hj, rfl, ht0, hs, hb⟩ := hrel
        have hj0 : (0 : Int) ≤ (j : Int) := Int.natCast_nonneg _
        have zr := hs.lt
        have hgl := ht0.lt
        obtain ⟨f0, hf0⟩ : ∃ f0, f0 = treeM W a (ts.take j) := ⟨_, rfl⟩
        rw [← hf0] at ht0
        have FR := Lib.hid hs
        have HB := Lib.hid hb
        have HT0 := Lib.hid ht0
        have HF0 := Lib.hid hf0
        clear hs hb ht0 hf0
        by_cases hlt : j < m
        · have hj1 : (j : Int) < (m : Int) := by omega
          obtain ⟨t, htj, htn, hct, htb0⟩ := HTL.out j hlt
          have htb : tb < wr.heap.size := by have := HB.out.size; omega
          have HCT := Lib.hid hct
          have HC1 := Lib.hid ((HB.out.cell (p := ⟨tb, to + j, none⟩) htb0).trans hct)
          have hrr := HRR0.out t htn
          have hdl := HDL.out t htn
          have hw := HWH.out
          have hlen := pth_length W a t
          have hxg : ∀ k, k ≤ ds W a t → (pth W a t)[k]? = some (itr W t a k) := fun k hk => pth_get hk
          have hrg : ∀ k, k ≤ ds W a t → (rtL W a t)[k]? = some (itr W t a k, tw W (itr W t a k) t) := fun k hk => rtL_get hk
          have hrl := rtL_length W a t
          obtain ⟨D, hD⟩ : ∃ D, D = ds W a t := ⟨_, rfl⟩
          obtain ⟨xs, hxs⟩ : ∃ xs, xs = pth W a t := ⟨_, rfl⟩
          rw [← hD] at hdl hlen hxg hrg hrl
          rw [← hxs] at hrr hlen hxg
          have hD14 : D ≤ 14 := by omega
          have HRR := Lib.hid hrr
          have HLEN := Lib.hid hlen
          have HXG := Lib.hid hxg
          have HRG := Lib.hid hrg
          have HRL := Lib.hid hrl
          have HTJ := Lib.hid htj
          have HTWT := Lib.hid (fun x hx => HTOW.out x t hx htn)
          have HINT := Lib.hid (HIN.out t htn)
          clear hct htj hrr hlen hxg hrg hrl hD hxs hdl hw
          go_wp2
          refine wp_region_one 6 (fun v => rm15 W Hn R a tb to j m cap t v) (Below wr.heap.size wr) (RowGot wr D xs) (by kernel_rfl) (by kernel_rfl) (by kernel_rfl) (by kernel_rfl) (by kernel_rfl) (by decide) (fun v v' i hi => by
            have hc : i = 0 ∨ i = 1 ∨ i = 2 ∨ i = 3 ∨ i = 4 ∨ i = 5 := by omega
            rcases hc with rfl | rfl | rfl | rfl | rfl | rfl <;> rfl) (Below.refl _ _).drew ?cal ?stp ?dn
          case cal =>
            intro v W1 o b' ho hI hh
            simp only [List.getElem?_cons_zero, List.getElem?_cons_succ, Option.some.injEq] at ho
            subst ho
            have g0 := hh.got 0 _ 51 rfl rfl ⟨⟨0, .data⟩, by simp, rfl, rfl⟩ (by simp)
            have g1 := hh.got 1 _ 52 rfl rfl ⟨⟨1, .data⟩, by simp, rfl, rfl⟩ (by simp)
            have g5 := hh.got 5 _ 56 rfl rfl ⟨⟨5, .data⟩, by simp, rfl, rfl⟩ (by simp)
            simp [rm15] at g0 g1 g5
            have HI := Lib.hid hI
            clear hI hh
            go_simp
            go_at_call 20
            refine (HRR.out _).mono ?_
            rintro e w6 ⟨v6, rfl, ho6, hb6⟩
            rw [HLEN.out] at ho6
            obtain ⟨g, cap', rfl⟩ := ownsRow_succ ho6
            exact ⟨.slice (some ⟨g, 0, none⟩) (D + 1) cap', rfl, g, cap', rfl, ownsRow_base HI.out.size ho6, HI.out.trans (hb6.mono HI.out.size)⟩
          case stp =>
            intro L v W1 i o b' ho hne hci hI0 hI1 hh hlate
            have hi := (List.getElem?_eq_some_iff.1 ho).1
            have hc : i = 0 ∨ i = 1 ∨ i = 2 ∨ i = 3 ∨ i = 4 ∨ i = 5 ∨ i = 6 ∨ i = 7 ∨ i = 8 ∨ i = 9 ∨ i = 10 ∨ i = 11 := by simp at hi; omega
            have hI : Below wr.heap.size wr W1 := by
              cases hL : L.getD 6 false with
              | false => exact hI0 hL
              | true => obtain ⟨_, _, _, _, hb⟩ := hI1 hL; exact hb
            obtain ⟨_, _, _⟩ := RSpecAt.cells (A := W) (H := Hn) (R := R) ((hI.block _ zr).trans FR.out)
            have hc1 := ((bcell hI).1 _ _ htb).trans HC1.out
            clear hi hI0 hI1 hI hci hlate
            have k1 := hh.kept 1 (by simp)
            simp at k1
            have k2 := hh.kept 2 (by simp)
            simp at k2
            have k3 := hh.kept 3 (by simp)
            simp at k3
            have k11 := hh.kept 11 (by simp)
            simp at k11
            rcases hc with rfl | rfl | rfl | rfl | rfl | rfl | rfl | rfl | rfl | rfl | rfl | rfl
            · simp only [List.getElem?_cons_zero, Option.some.injEq] at ho
              subst ho
              go_simp
              first | exact rfl | exact ⟨rfl, rfl⟩
            · simp only [List.getElem?_cons_zero, List.getElem?_cons_succ, Option.some.injEq] at ho
              subst ho
              go_simp
              first | exact rfl | exact ⟨rfl, rfl⟩
            · simp only [List.getElem?_cons_zero, List.getElem?_cons_succ, Option.some.injEq] at ho
              subst ho
              go_simp
              first | exact rfl | exact ⟨rfl, rfl⟩
            · simp only [List.getElem?_cons_zero, List.getElem?_cons_succ, Option.some.injEq] at ho
              subst ho
              go_simp
              first | exact rfl | exact ⟨rfl, rfl⟩
            · simp only [List.getElem?_cons_zero, List.getElem?_cons_succ, Option.some.injEq] at ho
              subst ho
              have g2 := hh.got 2 _ 53 rfl rfl ⟨⟨2, .data⟩, by simp, rfl, rfl⟩ (by simp)
              have g3 := hh.got 3 _ 54 rfl rfl ⟨⟨3, .data⟩, by simp, rfl, rfl⟩ (by simp)
              simp [rm15] at g2 g3
              go_simp
              first | exact rfl | exact ⟨rfl, rfl⟩
            · simp only [List.getElem?_cons_zero, List.getElem?_cons_succ, Option.some.injEq] at ho
              subst ho
              have g4 := hh.got 4 _ 55 rfl rfl ⟨⟨4, .data⟩, by simp, rfl, rfl⟩ (by simp)
              simp [rm15] at g4
              go_simp
              first | exact rfl | exact ⟨rfl, rfl⟩
            · simp only [List.getElem?_cons_zero, List.getElem?_cons_succ, Option.some.injEq] at ho
              subst ho
              have g0 := hh.got 0 _ 51 rfl rfl ⟨⟨0, .data⟩, by simp, rfl, rfl⟩ (by simp)
              have g1 := hh.got 1 _ 52 rfl rfl ⟨⟨1, .data⟩, by simp, rfl, rfl⟩ (by simp)
              have g5 := hh.got 5 _ 56 rfl rfl ⟨⟨5, .data⟩, by simp, rfl, rfl⟩ (by simp)
              simp [rm15] at g0 g1 g5
              exact absurd rfl hne
            · simp only [List.getElem?_cons_zero, List.getElem?_cons_succ, Option.some.injEq] at ho
              subst ho
              have g6 := hh.got 6 _ 57 rfl rfl ⟨⟨6, .data⟩, by simp, rfl, rfl⟩ (by simp)
              simp [rm15] at g6
              go_simp
              first | exact rfl | exact ⟨rfl, rfl⟩
            · simp only [List.getElem?_cons_zero, List.getElem?_cons_succ, Option.some.injEq] at ho
              subst ho
              have g7 := hh.got 7 _ 50 rfl rfl ⟨⟨7, .data⟩, by simp, rfl, rfl⟩ (by simp)
              simp [rm15] at g7
              go_simp
              first | exact rfl | exact ⟨rfl, rfl⟩
            · simp only [List.getElem?_cons_zero, List.getElem?_cons_succ, Option.some.injEq] at ho
              subst ho
              have g7 := hh.got 7 _ 50 rfl rfl ⟨⟨7, .data⟩, by simp, rfl, rfl⟩ (by simp)
              simp [rm15] at g7
              go_simp
              first | exact rfl | exact ⟨rfl, rfl⟩
            · simp only [List.getElem?_cons_zero, List.getElem?_cons_succ, Option.some.injEq] at ho
              subst ho
              have g8 := hh.got 8 _ 58 rfl rfl ⟨⟨8, .data⟩, by simp, rfl, rfl⟩ (by simp)
              simp [rm15] at g8
              go_simp
              first | exact rfl | exact ⟨rfl, rfl⟩
            · simp only [List.getElem?_cons_zero, List.getElem?_cons_succ, Option.some.injEq] at ho
              subst ho
              have g9 := hh.got 9 _ 59 rfl rfl ⟨⟨9, .data⟩, by simp, rfl, rfl⟩ (by simp)
              simp [rm15] at g9
              go_simp
              first | exact rfl | exact ⟨rfl, rfl⟩
          case dn =>
            intro v W1 b' hI hb
            obtain ⟨lg, lc, rfl, hrow, hbw⟩ := hI
            simp only [puts, rm15] at hb
            subst hb
            simp only [Act.put, List.setIfInBounds_toArray, List.set_cons_succ, List.set_cons_zero]
            go_wp2
            have o1 : W1.ownsRow wr.heap.size 3 1 (.slice (some ⟨lg, 0, none⟩) (D + 1) lc) (D + 1) (natV xs) := hrow
            have hlg := hrow.lt lg rfl
            have OB := Lib.hid (HB.out.trans (hbw.mono (by omega)) : Below w.heap.size w W1)
            have OR := Lib.hid o1
            have OT := Lib.hid (HT0.out.of_block (hbw.block _ hgl))
            have OS := Lib.hid ((hbw.block _ zr).trans FR.out : RSpecAt W1 w.heap.size W Hn R)
            clear o1 hrow hbw
            generalize wr = wo at *
            go_loopw [14] (fun s14 wr => ∃ k : Nat, k ≤ D + 1 ∧ s14 = .int .i64 k ∧ TimesAt wr g n (((rtL W a t).take k).foldl updM f0) ∧ wr.ownsRow wo.heap.size 3 1 (.slice (some ⟨lg, 0, none⟩) (D + 1) lc) (D + 1) (natV xs) ∧ RSpecAt wr w.heap.size W Hn R ∧ Below w.heap.size w wr) (fun s14 _ => D + 1 - (intOf s14).toNat)
            case atStart => exact ⟨0, Nat.zero_le _, rfl, OT.out, OR.out, OS.out, OB.out⟩
            case round =>
              obtain ⟨k, hk, rfl, ht1, ho1, hs1, hb1⟩ := hrel
              have hk0 : (0 : Int) ≤ (k : Int) := Int.natCast_nonneg _
              have zr := hs1.lt
              have hgl1 := ht1.lt
              have hlg1 := (ho1.lt lg rfl).2
              obtain ⟨f, hf⟩ : ∃ f, f = ((rtL W a t).take k).foldl updM f0 := ⟨_, rfl⟩
              rw [← hf] at ht1
              have FR := Lib.hid hs1
              have HB1 := Lib.hid hb1
              have HROW := Lib.hid ht1
              have HO1 := Lib.hid ho1
              have HF := Lib.hid hf
              have HC1 := Lib.hid ((hb1.cell (p := ⟨tb, to + j, none⟩) htb0).trans HCT.out)
              have htb1 : tb < wr.heap.size := by have := hb1.size; omega
              clear hs1 hb1 ht1 ho1 hf
              by_cases hlk : k < D + 1
              · have hk1 : (k : Int) < (D : Int) + 1 := by omega
                have hxk := HXG.out k (by omega)
                have hrk := HRG.out k (by omega)
                have hxn := HINT.out k
                obtain ⟨x, hx⟩ : ∃ x, x = itr W t a k := ⟨_, rfl⟩
                rw [← hx] at hxk hrk hxn
                have htow := HTWT.out x hxn
                obtain ⟨tv, htv⟩ : ∃ tv, tv = tw W x t := ⟨_, rfl⟩
                rw [← htv] at htow hrk
                obtain ⟨old, hold⟩ : ∃ old, old = f x := ⟨_, rfl⟩
                have hx0 : (0 : Int) ≤ (x : Int) := Int.natCast_nonneg _
                have hx1 : (x : Int) < (n : Int) := by omega
                have HC2 := Lib.hid (row_cell HO1.out hxk)
                have HTW := Lib.hid htow
                have HOLD := Lib.hid hold
                have HRK := Lib.hid hrk
                clear hxk hrk htow htv hold hx
                go_wp2
                refine wp_region_fix (rm19 g n lg D lc k x old W Hn R tb to m cap j t tv) (fun _ => true) (fun _ => true) (StR wr g x (orM old (tv : Int))) (by kernel_rfl) (by kernel_rfl) (by kernel_rfl) (by kernel_rfl) (by simp [dstIn]) ?gv ?un ⟨fun _ => (Below.refl _ _).drew, fun h => by simp at h⟩ (fun _ _ _ hw => by simp at hw) ?stp ?dn
                case gv => intro i hi; simp [isGd] at hi
                case un => intro i hi hw; simp at hw
                case stp =>
                  intro L W1 i o b' hs ho hwt hlF hcl hd hI hh hlate
                  have hi := (List.getElem?_eq_some_iff.1 ho).1
                  have hc : i = 0 ∨ i = 1 ∨ i = 2 ∨ i = 3 ∨ i = 4 ∨ i = 5 ∨ i = 6 ∨ i = 7 ∨ i = 8 ∨ i = 9 ∨ i = 10 ∨ i = 11 ∨ i = 12 ∨ i = 13 ∨ i = 14 ∨ i = 15 ∨ i = 16 ∨ i = 17 ∨ i = 18 ∨ i = 19 ∨ i = 20 ∨ i = 21 ∨ i = 22 ∨ i = 23 ∨ i = 24 := by simp at hi; omega
                  have h24 : L.getD 24 false = false := by
                    by_cases e : i = 24
                    · rw [← e]; exact hlF
                    · exact last_first (c := 24) (i := i) (by kernel_rfl) hcl (by omega) hlF
                  have hI := hI.1 h24
                  have hsL : 24 < L.size := by rw [hs]; simp
                  obtain ⟨_, _, _⟩ := RSpecAt.cells (A := W) (H := Hn) (R := R) ((hI.block _ zr).trans FR.out)
                  have hc1 := ((bcell hI).1 _ _ (show tb < wr.heap.size by omega)).trans HC1.out
                  have hc2 := ((bcell hI).1 _ _ (show lg < wr.heap.size by omega)).trans HC2.out
                  obtain ⟨hc3', hf3⟩ := (HROW.out.of_block (hI.block _ (by omega))).cell hxn
                  have hc3 : W1.cell? ⟨g, x, none⟩ = some (.int .i64 old) := by rw [HOLD.out]; exact hc3'
                  clear hc3'
                  have HI := Lib.hid hI
                  clear hi hI hs hlF hcl hd
                  have k2 := hh.kept 2 (by simp)
                  simp at k2
                  have k3 := hh.kept 3 (by simp)
                  simp at k3
                  have k10 := hh.kept 10 (by simp)
                  simp at k10
                  have k11 := hh.kept 11 (by simp)
                  simp at k11
                  have k12 := hh.kept 12 (by simp)
                  simp at k12
                  have k14 := hh.kept 14 (by simp)
                  simp at k14
                  rcases hc with rfl | rfl | rfl | rfl | rfl | rfl | rfl | rfl | rfl | rfl | rfl | rfl | rfl | rfl | rfl | rfl | rfl | rfl | rfl | rfl | rfl | rfl | rfl | rfl | rfl
                  · simp only [List.getElem?_cons_zero, Option.some.injEq] at ho
                    subst ho
                    go_simp
                    exact ⟨rfl, StR.skip h24 HI.out _ (by decide)⟩
                  · simp only [List.getElem?_cons_zero, List.getElem?_cons_succ, Option.some.injEq] at ho
                    subst ho
                    go_simp
                    exact ⟨rfl, StR.skip h24 HI.out _ (by decide)⟩
                  · simp only [List.getElem?_cons_zero, List.getElem?_cons_succ, Option.some.injEq] at ho
                    subst ho
                    go_simp
                    exact ⟨rfl, StR.skip h24 HI.out _ (by decide)⟩
                  · simp only [List.getElem?_cons_zero, List.getElem?_cons_succ, Option.some.injEq] at ho
                    subst ho
                    have g1 := hh.got 1 _ 67 rfl rfl ⟨⟨1, .data⟩, by simp, rfl, rfl⟩ (by simp)
                    have g2 := hh.got 2 _ 68 rfl rfl ⟨⟨2, .data⟩, by simp, rfl, rfl⟩ (by simp)
                    simp [rm19] at g1 g2
                    go_simp
                    exact ⟨rfl, StR.skip h24 HI.out _ (by decide)⟩
                  · simp only [List.getElem?_cons_zero, List.getElem?_cons_succ, Option.some.injEq] at ho
                    subst ho
                    have g3 := hh.got 3 _ 69 rfl rfl ⟨⟨3, .data⟩, by simp, rfl, rfl⟩ (by simp)
                    simp [rm19] at g3
                    go_simp
                    exact ⟨rfl, StR.skip h24 HI.out _ (by decide)⟩
                  · simp only [List.getElem?_cons_zero, List.getElem?_cons_succ, Option.some.injEq] at ho
                    subst ho
                    go_simp
                    exact ⟨rfl, StR.skip h24 HI.out _ (by decide)⟩
                  · simp only [List.getElem?_cons_zero, List.getElem?_cons_succ, Option.some.injEq] at ho
                    subst ho
                    go_simp
                    exact ⟨rfl, StR.skip h24 HI.out _ (by decide)⟩
                  · simp only [List.getElem?_cons_zero, List.getElem?_cons_succ, Option.some.injEq] at ho
                    subst ho
                    go_simp
                    exact ⟨rfl, StR.skip h24 HI.out _ (by decide)⟩
                  · simp only [List.getElem?_cons_zero, List.getElem?_cons_succ, Option.some.injEq] at ho
                    subst ho
                    have g6 := hh.got 6 _ 72 rfl rfl ⟨⟨6, .data⟩, by simp, rfl, rfl⟩ (by simp)
                    have g7 := hh.got 7 _ 73 rfl rfl ⟨⟨7, .data⟩, by simp, rfl, rfl⟩ (by simp)
                    simp [rm19] at g6 g7
                    go_simp
                    exact ⟨rfl, StR.skip h24 HI.out _ (by decide)⟩
                  · simp only [List.getElem?_cons_zero, List.getElem?_cons_succ, Option.some.injEq] at ho
                    subst ho
                    have g8 := hh.got 8 _ 74 rfl rfl ⟨⟨8, .data⟩, by simp, rfl, rfl⟩ (by simp)
                    simp [rm19] at g8
                    go_simp
                    exact ⟨rfl, StR.skip h24 HI.out _ (by decide)⟩
                  · simp only [List.getElem?_cons_zero, List.getElem?_cons_succ, Option.some.injEq] at ho
                    subst ho
                    have g5 := hh.got 5 _ 71 rfl rfl ⟨⟨5, .data⟩, by simp, rfl, rfl⟩ (by simp)
                    have g9 := hh.got 9 _ 75 rfl rfl ⟨⟨9, .data⟩, by simp, rfl, rfl⟩ (by simp)
                    simp [rm19] at g5 g9
                    go_simp
                    exact ⟨rfl, StR.skip h24 HI.out _ (by decide)⟩
                  · simp only [List.getElem?_cons_zero, List.getElem?_cons_succ, Option.some.injEq] at ho
                    subst ho
                    have g10 := hh.got 10 _ 76 rfl rfl ⟨⟨10, .data⟩, by simp, rfl, rfl⟩ (by simp)
                    simp [rm19] at g10
                    go_simp
                    exact ⟨rfl, StR.skip h24 HI.out _ (by decide)⟩
                  · simp only [List.getElem?_cons_zero, List.getElem?_cons_succ, Option.some.injEq] at ho
                    subst ho
                    go_simp
                    exact ⟨rfl, StR.skip h24 HI.out _ (by decide)⟩
                  · simp only [List.getElem?_cons_zero, List.getElem?_cons_succ, Option.some.injEq] at ho
                    subst ho
                    go_simp
                    exact ⟨rfl, StR.skip h24 HI.out _ (by decide)⟩
                  · simp only [List.getElem?_cons_zero, List.getElem?_cons_succ, Option.some.injEq] at ho
                    subst ho
                    go_simp
                    exact ⟨rfl, StR.skip h24 HI.out _ (by decide)⟩
                  · simp only [List.getElem?_cons_zero, List.getElem?_cons_succ, Option.some.injEq] at ho
                    subst ho
                    have g13 := hh.got 13 _ 79 rfl rfl ⟨⟨13, .data⟩, by simp, rfl, rfl⟩ (by simp)
                    have g14 := hh.got 14 _ 80 rfl rfl ⟨⟨14, .data⟩, by simp, rfl, rfl⟩ (by simp)
                    simp [rm19] at g13 g14
                    go_simp
                    exact ⟨rfl, StR.skip h24 HI.out _ (by decide)⟩
                  · simp only [List.getElem?_cons_zero, List.getElem?_cons_succ, Option.some.injEq] at ho
                    subst ho
                    have g15 := hh.got 15 _ 81 rfl rfl ⟨⟨15, .data⟩, by simp, rfl, rfl⟩ (by simp)
                    simp [rm19] at g15
                    go_simp
                    exact ⟨rfl, StR.skip h24 HI.out _ (by decide)⟩
                  · simp only [List.getElem?_cons_zero, List.getElem?_cons_succ, Option.some.injEq] at ho
                    subst ho
                    go_simp
                    exact ⟨rfl, StR.skip h24 HI.out _ (by decide)⟩
                  · simp only [List.getElem?_cons_zero, List.getElem?_cons_succ, Option.some.injEq] at ho
                    subst ho
                    go_simp
                    exact ⟨rfl, StR.skip h24 HI.out _ (by decide)⟩
                  · simp only [List.getElem?_cons_zero, List.getElem?_cons_succ, Option.some.injEq] at ho
                    subst ho
                    have g17 := hh.got 17 _ 83 rfl rfl ⟨⟨17, .data⟩, by simp, rfl, rfl⟩ (by simp)
                    have g18 := hh.got 18 _ 84 rfl rfl ⟨⟨18, .data⟩, by simp, rfl, rfl⟩ (by simp)
                    simp [rm19] at g17 g18
                    go_simp
                    exact ⟨rfl, StR.skip h24 HI.out _ (by decide)⟩
                  · simp only [List.getElem?_cons_zero, List.getElem?_cons_succ, Option.some.injEq] at ho
                    subst ho
                    have g19 := hh.got 19 _ 85 rfl rfl ⟨⟨19, .data⟩, by simp, rfl, rfl⟩ (by simp)
                    simp [rm19] at g19
                    go_simp
                    exact ⟨rfl, StR.skip h24 HI.out _ (by decide)⟩
                  · simp only [List.getElem?_cons_zero, List.getElem?_cons_succ, Option.some.injEq] at ho
                    subst ho
                    have g12 := hh.got 12 _ 78 rfl rfl ⟨⟨12, .data⟩, by simp, rfl, rfl⟩ (by simp)
                    have g16 := hh.got 16 _ 82 rfl rfl ⟨⟨16, .data⟩, by simp, rfl, rfl⟩ (by simp)
                    have g20 := hh.got 20 _ 86 rfl rfl ⟨⟨20, .data⟩, by simp, rfl, rfl⟩ (by simp)
                    simp [rm19] at g12 g16 g20
                    go_simp
                    go_at_call 54
                    refine (HTW.out _).mono ?_
                    rintro e w6 ⟨rfl, hb6⟩
                    exact ⟨rfl, StR.skip h24 (HI.out.trans (hb6.mono HI.out.size)) _ (by decide)⟩
                  · simp only [List.getElem?_cons_zero, List.getElem?_cons_succ, Option.some.injEq] at ho
                    subst ho
                    have g11 := hh.got 11 _ 77 rfl rfl ⟨⟨11, .data⟩, by simp, rfl, rfl⟩ (by simp)
                    have g21 := hh.got 21 _ 87 rfl rfl ⟨⟨21, .data⟩, by simp, rfl, rfl⟩ (by simp)
                    simp [rm19] at g11 g21
                    go_simp
                    exact ⟨rfl, StR.skip h24 HI.out _ (by decide)⟩
                  · simp only [List.getElem?_cons_zero, List.getElem?_cons_succ, Option.some.injEq] at ho
                    subst ho
                    have g0 := hh.got 0 _ 66 rfl rfl ⟨⟨0, .data⟩, by simp, rfl, rfl⟩ (by simp)
                    have g4 := hh.got 4 _ 70 rfl rfl ⟨⟨4, .data⟩, by simp, rfl, rfl⟩ (by simp)
                    simp [rm19] at g0 g4
                    go_simp
                    exact ⟨rfl, StR.skip h24 HI.out _ (by decide)⟩
                  · simp only [List.getElem?_cons_zero, List.getElem?_cons_succ, Option.some.injEq] at ho
                    subst ho
                    have g23 := hh.got 23 _ 89 rfl rfl ⟨⟨23, .data⟩, by simp, rfl, rfl⟩ (by simp)
                    have g22 := hh.got 22 _ 88 rfl rfl ⟨⟨22, .data⟩, by simp, rfl, rfl⟩ (by simp)
                    simp [rm19] at g23 g22
                    go_simp
                    first | exact StR.store hsL HI.out | exact ⟨rfl, StR.store hsL HI.out⟩
                case dn =>
                  intro W1 b' hI hb
                  obtain ⟨W2, hb2, rfl⟩ := hI.2 (by simp)
                  simp only [puts, rm19] at hb
                  subst hb
                  simp only [Act.put, List.setIfInBounds_toArray, List.set_cons_succ, List.set_cons_zero]
                  go_wp2
                  go_roundw
                  case rel =>
                    have hsn : ((rtL W a t).take (k + 1)).foldl updM f0 = updM f (x, tv) := by rw [take_snoc_of HRK.out, List.foldl_append, HF.out]; rfl
                    refine ⟨k + 1, hlk, by go_num, ?_, ?_, ?_, ?_⟩
                    · rw [hsn]
                      refine (HROW.out.of_block (hb2.block _ hgl1)).set hxn fun i => ?_
                      rw [HOLD.out]; rfl
                    · refine ownsRow_of_block (ownsRow_of_block HO1.out fun g' hg' => hb2.block g' (HO1.out.lt g' hg').2) fun g' hg' => ?_
                      obtain rfl : lg = g' := by simpa [Value.ownBlock] using hg'
                      exact Below.heap_setCell _ _ _ _ (by show lg ≠ g; omega)
                    · exact (Below.heap_setCell _ _ _ _ (by show w.heap.size ≠ g; omega)).trans ((hb2.block _ zr).trans FR.out)
                    · exact (HB1.out.trans (hb2.mono (by omega))).setCell (p := ⟨g, x, none⟩) (by show w.heap.size ≤ g; omega) _
                  case measure => simp [intOf]; omega
              · obtain rfl : k = D + 1 := by omega
                have hk2 : ((D : Int) + 1 < (D : Int) + 1) = False := by simp
                go_wp2
                go_roundw
                case rel =>
                  refine ⟨j + 1, hlt, by go_num, ?_, FR.out, HB1.out⟩
                  have e1 : treeM W a (ts.take (j + 1)) = wayM W a f0 t := by
                    unfold treeM; rw [take_snoc_of HTJ.out, List.foldl_append, HF0.out]; rfl
                  rw [e1]
                  have h6 := HROW.out
                  rw [HF.out, List.take_of_length_le (by rw [HRL.out]; exact Nat.le_refl _)] at h6
                  exact h6
                case measure => simp [intOf]; omega
        · obtain rfl : m = j := by omega
          go_wp2
          refine bodyPost_ret (v := .tuple #[.slice (some ⟨g, 0, none⟩) n n, .int .i64 0]) (by simp [results, Tryd.results23, go_sem]) rfl ⟨g, rfl, ?_, HB.out⟩
          have h6 := HT0.out
          rw [HF0.out, HM.out, List.take_of_length_le (Nat.le_refl _)] at h6
          exact h6
end Go.Proofs.YtlkcpnhepadenaaDoor
