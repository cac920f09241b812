/- Routes: the specification's Route and Distance. Over this seat's program. (mk_Rk.py wrote this.) -/
import Derived.Test.YtlkcpnhepadenaaDoorRe
import Derived.Test.YtlkcpnhepadenaaDoorBe
namespace Go.Proofs.YtlkcpnhepadenaaDoor
set_option linter.unusedVariables false
open Go.RowKit Go.Shelf

theorem pth_take {W a b k : Nat} (h : k + 1 ≤ ds W a b) : (pth W a b).take (k + 2) = (pth W a b).take (k + 1) ++ [itr W b a (k + 1)] := take_snoc_of (pth_get h)
theorem natV_len (l : List Nat) : (natV l).length = l.length := by simp [natV]
theorem ownsRow_lit {W : World} {base g : Nat} {x : Nat} (hb : base ≤ g) (h : W.heap[g]? = some (.cells #[.int .i64 (x : Int)] 3)) : W.ownsRow base 3 1 (.slice (some ⟨g, 0, none⟩) 1 1) 1 (natV [x]) :=
  ⟨rfl, .inr ⟨g, 1, _, rfl, hb, h, Nat.le_refl _, by decide, rfl, rfl⟩⟩
theorem ownsRow_base {W : World} {base base' : Nat} {e : TypeId} {size : Nat} {v : Value} {n : Nat} {xs : List Value} (hb : base' ≤ base) (h : W.ownsRow base e size v n xs) : W.ownsRow base' e size v n xs :=
  ⟨h.1, h.2.imp id fun ⟨g, cap, cur, x1, x2, x3⟩ => ⟨g, cap, cur, x1, Nat.le_trans hb x2, x3⟩⟩
/-- What the operations of the loop's region come to. -/
def rkV (W H R x b t y : Int) : Nat → Value
  | 0 => .agg #[.int .i64 W, .int .i64 H, .int .i64 R]
  | 1 => .int .i64 x
  | 2 => .agg #[.int .i64 W, .int .i64 H, .int .i64 R]
  | 3 => .int .i64 x
  | 4 => .int .i64 b
  | 5 => .int .i64 t
  | 6 => .int .i64 y
  | _ => .int .i64 y

set_option maxRecDepth 100000 in
set_option maxHeartbeats 2000000 in
theorem rroute_ok (W a b Hn : Nat) (R : Int) (h1 : 1 ≤ W) (h2 : W ≤ 8) (hH : 1 ≤ Hn) (hH2 : Hn ≤ 8) (hR : 1 ≤ R ∧ R ≤ 64) (ha : a < W * Hn) (hb : b < W * Hn) (w : World) :
    Calls Tryd.prog 20 #[.agg #[.int .i64 (W : Int), .int .i64 (Hn : Int), .int .i64 R], .int .i64 (a : Int), .int .i64 (b : Int)] w (RouteOk (pth W a b) w) := by
  have h64 : W * Hn ≤ 64 := Nat.mul_le_mul h2 hH2
  have h2w := two_any W Hn R a b
  have he0 : rerr W Hn R a b = 0 := by
    rcases rerr_cases (W := W) (H := Hn) (R := R) (a := a) (b := b) with ⟨hc, _⟩ | ⟨_, _, hc⟩ | ⟨_, h, _⟩
    · exfalso
      unfold chkM at hc
      rw [if_pos (by simp only [Bool.and_eq_true, inR_true]; omega)] at hc
      cases hc
    · exfalso
      have hX : (W : Int) * (Hn : Int) = ((W * Hn : Nat) : Int) := by push_cast; rfl
      rw [hX] at hc
      rcases hc with hc | ⟨_, hc⟩ <;> (rw [inR_false] at hc; omega)
    · exact h
  rw [he0] at h2w
  have hds := ds_le (a := a) (b := b) h1 ha hb
  have htw : ∀ x, x < W * Hn → ∀ w, Calls Tryd.prog 54 #[.agg #[.int .i64 (W : Int), .int .i64 (Hn : Int), .int .i64 R], .int .i64 (x : Int), .int .i64 (b : Int)] w fun e w' => e = .returned (.int .i64 ((tw W x b : Nat) : Int)) ∧ Below w.heap.size w w' := fun x hx w => towards_any W x b Hn R h1 h2 (by omega) (by omega) w
  have hov : ∀ x, x < W * Hn → x ≠ b → ∀ w, Calls Tryd.prog 53 #[.agg #[.int .i64 (W : Int), .int .i64 (Hn : Int), .int .i64 R], .int .i64 (x : Int), .int .i64 ((tw W x b : Nat) : Int)] w fun e w' => e = .returned (.int .i64 ((nx W x b : Nat) : Int)) ∧ Below w.heap.size w w' := fun x hx hne w => over_any W x b Hn R h1 h2 hH hH2 hx hb hne w
  have hin := itr_in (W := W) (H := Hn) (a := a) (b := b) h1 ha hb
  have hlen := pth_length W a b
  have htk := fun k => pth_take (W := W) (a := a) (b := b) (k := k)
  have ht1 : (pth W a b).take 1 = [a] := by rw [take_snoc_of (pth_get (Nat.zero_le _))]; rfl
  obtain ⟨xs, hxs⟩ : ∃ xs, xs = pth W a b := ⟨_, rfl⟩
  obtain ⟨D, hD⟩ : ∃ D, D = ds W a b := ⟨_, rfl⟩
  rw [← hxs] at hlen ht1 ⊢
  simp only [← hxs, ← hD] at htk
  rw [← hD] at hlen hds
  have hD14 : D ≤ 14 := by omega
  have H2W := Lib.hid h2w
  have HTK := Lib.hid htk
  have HT1 := Lib.hid ht1
  have HIN := Lib.hid hin
  have HTW0 := Lib.hid htw
  have HOV0 := Lib.hid hov
  have HD := Lib.hid hD
  have HLEN := Lib.hid hlen
  have HW1 := Lib.hid h1
  clear he0 h2w hds htw hov hin hlen htk ht1 hxs hD h1 h2 hH hH2 hR ha hb h64
  obtain ⟨i0, hi, hz0, hzz1, hzz2⟩ := info_parts Tryd.info3
  go_enter Tryd.func20, Tryd.ntmps20
  go_wp2_with (go_at_call 52; refine (H2W.out _).mono ?_; rintro e w1 ⟨rfl, hb1⟩; have f1 : w1.heap[w.heap.size]? = _ := (hb1.block _ (by simp)).trans (alloc_new_at _ _ _ rfl); have z1 := lt_of_block f1; have F1 := Lib.hid f1; have B1 := Lib.hid (((Below.refl _ _).alloc (Nat.le_refl _) _).trans (hb1.mono (by simp)) : Below w.heap.size w w1); clear hb1 f1)
  have o0 := ownsRow_lit (W := w1.alloc (.cells #[.int .i64 (a : Int)] 3)) (base := w.heap.size + 1) (g := w1.heap.size) (x := a) (by omega) (alloc_new_at _ _ _ rfl)
  have s0 : RSpecAt (w1.alloc (.cells #[.int .i64 (a : Int)] 3)) w.heap.size W Hn R := (Below.heap_alloc _ _ _ z1).trans F1.out
  have b0 : Below w.heap.size w (w1.alloc (.cells #[.int .i64 (a : Int)] 3)) := B1.out.alloc (by omega) _
  have O0 := Lib.hid o0
  have S0 := Lib.hid s0
  have B0 := Lib.hid b0
  clear o0 s0 b0
  go_loopw [1, 9] (fun s1 s9 wr => ∃ k : Nat, k ≤ D ∧ s1 = .int .i64 ((itr W b a k : Nat) : Int) ∧ wr.ownsRow (w.heap.size + 1) 3 1 s9 (k + 1) (natV (xs.take (k + 1))) ∧ RSpecAt wr w.heap.size W Hn R ∧ Below w.heap.size w wr) (fun s1 _ _ => ds W (intOf s1).toNat b)
  case atStart => exact ⟨0, Nat.zero_le _, rfl, by rw [HT1.out]; exact O0.out, S0.out, B0.out⟩
  case round =>
    obtain ⟨k, hk, rfl, ho, hs, hb⟩ := hrel
    obtain ⟨_, _, _⟩ := hs.cells
    have hzr : w.heap.size < wr.heap.size := hs.lt
    have hxin := HIN.out k
    obtain ⟨x, hx⟩ : ∃ x, x = itr W b a k := ⟨_, rfl⟩
    rw [← hx] at hxin ⊢
    have HO := Lib.hid ho
    have HS := Lib.hid hs
    have HB := Lib.hid hb
    have HX := Lib.hid hx
    clear ho hs hb hx
    by_cases hlt : k < D
    · have hne : x ≠ b := by rw [HX.out]; exact itr_ne HW1.out (by rw [← HD.out]; exact hlt)
      have hnx : nx W x b = itr W b a (k + 1) := by rw [HX.out]; rfl
      have g1 : ((x : Int) != (b : Int)) = true := by simp; omega
      have htw := HTW0.out x hxin
      have hov := HOV0.out x hxin hne
      have hds := (nx_facts (W := W) HW1.out hne).1
      obtain ⟨t, ht⟩ : ∃ t, t = tw W x b := ⟨_, rfl⟩
      rw [← ht] at htw hov
      obtain ⟨y, hy⟩ : ∃ y, y = nx W x b := ⟨_, rfl⟩
      rw [← hy] at hov hds hnx
      have HTW := Lib.hid htw
      have HOV := Lib.hid hov
      have HNX := Lib.hid hnx
      have HDS := Lib.hid hds
      clear htw hov hne ht hy hnx hds hxin
      go_wp2
      refine wp_region_fix (rkV W Hn R x b t y) (fun _ => true) (fun _ => true) (fun _ => Below wr.heap.size wr) (by kernel_rfl) (by kernel_rfl) (by kernel_rfl) (by kernel_rfl) (by simp [dstIn]) ?gv ?un (Below.refl _ _).drew (fun _ _ _ _ h => h) ?stp ?dn
      case gv => intro i hi; simp [isGd] at hi
      case un => intro i hi hw; simp at hw
      case stp =>
          intro L W1 i o b' hs ho hwt hlF hcl hd hI hh hlate
          have hi := (List.getElem?_eq_some_iff.1 ho).1
          have hc : i = 0 ∨ i = 1 ∨ i = 2 ∨ i = 3 ∨ i = 4 ∨ i = 5 ∨ i = 6 ∨ i = 7 := by simp at hi; omega
          obtain ⟨_, _, _⟩ := RSpecAt.cells (A := W) (H := Hn) (R := R) ((hI.block _ hzr).trans HS.out)
          have HI := Lib.hid hI
          clear hi hI hs hlF hcl hd
          have k2 := hh.kept 2 (by simp)
          simp at k2
          have k3 := hh.kept 3 (by simp)
          simp at k3
          rcases hc with rfl | rfl | rfl | rfl | rfl | rfl | rfl | rfl
          · simp only [List.getElem?_cons_zero, Option.some.injEq] at ho
            subst ho
            go_simp
            exact ⟨rfl, HI.out⟩
          · simp only [List.getElem?_cons_zero, List.getElem?_cons_succ, Option.some.injEq] at ho
            subst ho
            have k1 := hlate 1 (by kernel_rfl)
            simp at k1
            go_simp
            exact ⟨rfl, HI.out⟩
          · simp only [List.getElem?_cons_zero, List.getElem?_cons_succ, Option.some.injEq] at ho
            subst ho
            go_simp
            exact ⟨rfl, HI.out⟩
          · simp only [List.getElem?_cons_zero, List.getElem?_cons_succ, Option.some.injEq] at ho
            subst ho
            have k1 := hlate 1 (by kernel_rfl)
            simp at k1
            go_simp
            exact ⟨rfl, HI.out⟩
          · simp only [List.getElem?_cons_zero, List.getElem?_cons_succ, Option.some.injEq] at ho
            subst ho
            go_simp
            exact ⟨rfl, HI.out⟩
          · simp only [List.getElem?_cons_zero, List.getElem?_cons_succ, Option.some.injEq] at ho
            subst ho
            have g2 := hh.got 2 _ 24 rfl rfl ⟨⟨2, .data⟩, by simp, rfl, rfl⟩ (by simp)
            have g3 := hh.got 3 _ 25 rfl rfl ⟨⟨3, .data⟩, by simp, rfl, rfl⟩ (by simp)
            have g4 := hh.got 4 _ 26 rfl rfl ⟨⟨4, .data⟩, by simp, rfl, rfl⟩ (by simp)
            simp [rkV] at g2 g3 g4
            go_simp
            go_at_call 54
            refine (HTW.out _).mono ?_
            rintro e w6 ⟨rfl, hb6⟩
            exact ⟨rfl, HI.out.trans (hb6.mono HI.out.size)⟩
          · simp only [List.getElem?_cons_zero, List.getElem?_cons_succ, Option.some.injEq] at ho
            subst ho
            have g0 := hh.got 0 _ 22 rfl rfl ⟨⟨0, .data⟩, by simp, rfl, rfl⟩ (by simp)
            have g1 := hh.got 1 _ 23 rfl rfl ⟨⟨1, .data⟩, by simp, rfl, rfl⟩ (by simp)
            have g5 := hh.got 5 _ 27 rfl rfl ⟨⟨5, .data⟩, by simp, rfl, rfl⟩ (by simp)
            simp [rkV] at g0 g1 g5
            go_simp
            go_at_call 53
            refine (HOV.out _).mono ?_
            rintro e w6 ⟨rfl, hb6⟩
            exact ⟨rfl, HI.out.trans (hb6.mono HI.out.size)⟩
          · simp only [List.getElem?_cons_zero, List.getElem?_cons_succ, Option.some.injEq] at ho
            subst ho
            have g6 := hh.got 6 _ 28 rfl rfl ⟨⟨6, .data⟩, by simp, rfl, rfl⟩ (by simp)
            simp [rkV] at g6
            go_simp
            exact ⟨rfl, HI.out⟩
      case dn =>
        intro W1 b' hI hb
        simp only [puts, rkV] at hb
        subst hb
        simp only [Act.put, List.setIfInBounds_toArray, List.set_cons_succ, List.set_cons_zero]
        have o1 : W1.ownsRow (w.heap.size + 1) 3 1 u9 (k + 1) (natV (xs.take (k + 1))) := ownsRow_of_block HO.out fun g hg => hI.block g (HO.out.lt g hg).2
        have s1 : RSpecAt W1 w.heap.size W Hn R := (hI.block _ hzr).trans HS.out
        have b1 : Below w.heap.size w W1 := HB.out.trans (hI.mono (by omega))
        have O1 := Lib.hid o1
        have S1 := Lib.hid s1
        have z1' := lt_of_block s1
        have B1' := Lib.hid b1
        clear o1 s1 b1 hI
        go_wp2_with (at_builtin; go_loud (refine wpList_append_where _ rfl _ _ 24 rfl (w.heap.size + 1) 3 i0 (.int .i64 0) 1 8 Tryd.underlying24 hi hz0 hzz1 hzz2 rfl (by decide) u9 _ _ rfl (O1.out.alloc _) ⟨W1.heap.size, 0, none⟩ 1 1 (by decide) [.int .i64 (y : Int)] rfl rfl (cell_one_new _ _ _) (by simp [Value.oneCell']) (by unfold maxLen; omega) (by omega) (by simp; omega) ?_); intro v' w2 hown' hgrow hwhere; have HO2 := Lib.hid hown'; have HG2 := Lib.hid hgrow; clear hown' hgrow hwhere)
        go_roundw
        case rel =>
          have hne2 : ∀ g, Value.ownBlock u9 = some g → w.heap.size + 1 ≤ g := fun g hg => (O1.out.lt g hg).1
          have hkeep : ∀ b, b < w.heap.size + 1 → w2.heap[b]? = W1.heap[b]? := fun b hb => (HG2.out.block b (by rw [World.size_alloc]; omega) (fun e => by have := hne2 b e.symm; omega)).trans (Below.heap_alloc _ _ _ (by omega))
          refine ⟨k + 1, hlt, by rw [HNX.out], ?_, (hkeep _ (by omega)).trans S1.out, B1'.out.trans ⟨HG2.out.os, HG2.out.tape, HG2.out.output, by have := HG2.out.size; rw [World.size_alloc] at this; omega, fun b hb => hkeep b (by omega)⟩⟩
          rw [HTK.out k hlt, ← HNX.out]
          have := HO2.out
          unfold natV at this ⊢
          rw [List.map_append]
          exact this
        case measure => have := HDS.out; simp [intOf]; omega
    · obtain rfl : k = D := by omega
      have hxe : x = b := by rw [HX.out, HD.out]; exact itr_end HW1.out
      have g1 : ((x : Int) != (b : Int)) = false := by simp [hxe]
      obtain ⟨g, cap, rfl⟩ := ownsRow_succ HO.out
      clear hxe hlt hxin
      go_wp2
      refine bodyPost_ret (v := .tuple #[.slice (some ⟨g, 0, none⟩) (k + 1) cap, .int .i64 0]) (by simp [results, Tryd.results20, go_sem]) rfl ⟨_, rfl, ?_, HB.out⟩
      have := ownsRow_base (base' := w.heap.size) (by omega) HO.out
      rw [List.take_of_length_le (by rw [HLEN.out]; exact Nat.le_refl _)] at this
      rw [HLEN.out]
      exact this

set_option maxHeartbeats 1000000 in
theorem rroute_err (W H R a b : Int) (h : rerr W H R a b ≠ 0) (w : World) :
    Calls Tryd.prog 20 #[.agg #[.int .i64 W, .int .i64 H, .int .i64 R], .int .i64 a, .int .i64 b] w fun e w' => e = .returned (.tuple #[.slice none 0 0, .int .i64 (rerr W H R a b)]) ∧ Below w.heap.size w w' := by
  have hr := two_any W H R a b
  have hne : (rerr W H R a b != 0) = true := by simpa using h
  obtain ⟨E, hE⟩ : ∃ E, E = rerr W H R a b := ⟨_, rfl⟩
  rw [← hE] at hr hne ⊢
  have HR := Lib.hid hr
  clear hr hE h
  go_enter Tryd.func20, Tryd.ntmps20
  go_wp2_with (go_at_call 52; refine (HR.out _).mono ?_; rintro e w1 ⟨rfl, hb1⟩)
  exact bodyPost_ret (v := .tuple #[.slice none 0 0, .int .i64 E]) (by simp [results, Tryd.results20, go_sem]) rfl ⟨rfl, ((Below.refl _ _).alloc (Nat.le_refl _) _).trans (hb1.mono (by simp))⟩

set_option maxHeartbeats 1000000 in
theorem rdist_ok (W a b Hn : Nat) (R : Int) (h1 : 1 ≤ W) (h2 : W ≤ 8) (hH : 1 ≤ Hn) (hH2 : Hn ≤ 8) (hR : 1 ≤ R ∧ R ≤ 64) (ha : a < W * Hn) (hb : b < W * Hn) (w : World) :
    Calls Tryd.prog 16 #[.agg #[.int .i64 (W : Int), .int .i64 (Hn : Int), .int .i64 R], .int .i64 (a : Int), .int .i64 (b : Int)] w fun e w' => e = .returned (.tuple #[.int .i64 ((ds W a b : Nat) : Int), .int .i64 0]) ∧ Below w.heap.size w w' := by
  have hrt := fun w => rroute_ok W a b Hn R h1 h2 hH hH2 hR ha hb w
  have hds := ds_le (a := a) (b := b) h1 ha hb
  have hlen := pth_length W a b
  obtain ⟨D, hD⟩ : ∃ D, D = ds W a b := ⟨_, rfl⟩
  rw [← hD] at hds hlen ⊢
  have hDl : D ≤ 14 := by omega
  have HR := Lib.hid hrt
  have HL := Lib.hid hlen
  clear hrt hlen hD h1 h2 hH hH2 hR ha hb hds
  go_enter Tryd.func16, Tryd.ntmps16
  go_wp2_with (go_at_call 20; refine (HR.out _).mono ?_; rintro e w1 ⟨v, rfl, ho, hb1⟩; rw [HL.out] at ho; obtain ⟨g, cap, rfl⟩ := ownsRow_succ ho; clear ho)
  have hv : wrap64 ((D : Int) + 1 - 1) = (D : Int) := by rw [IntWalk.wrap64_in _ (by omega)]; omega
  go_wp2_with fail
  exact bodyPost_ret (v := .tuple #[.int .i64 (D : Int), .int .i64 0]) (by simp [results, Tryd.results16, go_sem]; try omega) rfl ⟨rfl, ((Below.refl _ _).alloc (Nat.le_refl _) _).trans (hb1.mono (by simp))⟩

set_option maxHeartbeats 1000000 in
theorem rdist_err (W H R a b : Int) (h : rerr W H R a b ≠ 0) (w : World) :
    Calls Tryd.prog 16 #[.agg #[.int .i64 W, .int .i64 H, .int .i64 R], .int .i64 a, .int .i64 b] w fun e w' => e = .returned (.tuple #[.int .i64 0, .int .i64 (rerr W H R a b)]) ∧ Below w.heap.size w w' := by
  have hr := rroute_err W H R a b h
  have hne : (rerr W H R a b != 0) = true := by simpa using h
  obtain ⟨E, hE⟩ : ∃ E, E = rerr W H R a b := ⟨_, rfl⟩
  rw [← hE] at hr hne ⊢
  have HR := Lib.hid hr
  clear hr hE h
  go_enter Tryd.func16, Tryd.ntmps16
  go_wp2_with (go_at_call 20; refine (HR.out _).mono ?_; rintro e w1 ⟨rfl, hb1⟩)
  exact bodyPost_ret (v := .tuple #[.int .i64 0, .int .i64 E]) (by simp [results, Tryd.results16, go_sem]) rfl ⟨rfl, ((Below.refl _ _).alloc (Nat.le_refl _) _).trans (hb1.mono (by simp))⟩
end Go.Proofs.YtlkcpnhepadenaaDoor
