/- For every value, greatest value, number of ticks and of losses, and every window the law CodeRound returns true: what encloses a rate encloses the value, and spikes are spread evenly. No condition. (mk_Round.py wrote this.) -/
import Derived.Test.YtjdcjcanmeangaaGreatAd
import Derived.Test.YtjdcjcanmeangaaGreatWk
namespace Go.Proofs.YtjdcjcanmeangaaGreat.codeRound
open Go.ChangeShapes Go.WideShapes Go.ChangeAt Go.RowKit Go.Proofs.YtjdcjcanmeangaaGreat.Lf
set_option linter.unusedVariables false

theorem cntW_next {a b k t : Nat} {L : List Int} (h : L[k]? = some (t : Int)) (hw : inW a b (t : Int) = true) : cntW a b (L.take (k + 1)) = cntW a b (L.take k) + 1 := by
  rw [List.take_add_one, h, cntW_append]; simp [cntW_one, hw]
theorem cntW_skip {a b k t : Nat} {L : List Int} (h : L[k]? = some (t : Int)) (hw : inW a b (t : Int) = false) : cntW a b (L.take (k + 1)) = cntW a b (L.take k) := by
  rw [List.take_add_one, h, cntW_append]; simp [cntW_one, hw]
theorem kat_lit (w : World) (l : List Int) : KAt .i64 (w.alloc (.cells ⟨l.map (Value.int .i64)⟩ 3)) (.slice (some ⟨w.heap.size, 0, none⟩) l.length l.length) l := by
  refine Or.inr ⟨w.heap.size, 0, l.length, rfl, by simp, fun j z hz => ?_⟩
  have h := cells_new (alloc_new_at w (.cells ⟨l.map (Value.int .i64)⟩ 3) w.heap.size rfl) j (.int .i64 z) (by simp [hz])
  have e : (⟨w.heap.size, 0, none⟩ : Addr).add j = ⟨w.heap.size, 0 + j, none⟩ := by unfold Addr.add; split <;> simp_all
  rwa [e] at h
theorem w64 (z : Int) (h1 : 0 ≤ z) (h2 : z ≤ 1000000) : wrap64 z = z := by unfold wrap64; omega
/-- What Unrate says when spikes were lost. -/
theorem unrate_round (M N x d : Nat) (more : Int) (hM : 1 ≤ M ∧ M ≤ 1024) (hN : 1 ≤ N ∧ N ≤ 4096) (hx : x ≤ M) (T : Nat) (hT : T = N * x / M) (hd : d ≤ T) (hmo : 0 ≤ more) :
    ∃ lo hi : Nat, lo ≤ x ∧ x ≤ hi ∧ hi ≤ M ∧ (∀ y, y ≤ M → (inR (((N * y / M : Nat) : Int) - ((T : Int) - d)) 0 (d + more) = true ↔ lo ≤ y ∧ y ≤ hi)) ∧
      ∀ w, Calls Tryz.prog 16 #[.int .i64 ((T : Int) - d), .int .i64 (M : Int), .int .i64 (N : Int), .int .i64 ((d : Int) + more)] w (UnGot (lo : Int) (hi : Int) 0 w) := by
  have hTN : T ≤ N := by
    rw [hT]
    have h1 : N * x / M ≤ N * M / M := Nat.div_le_div_right (Nat.mul_le_mul_left _ hx)
    rwa [Nat.mul_div_cancel _ (by omega)] at h1
  have hu := unrate_ok ((T : Int) - d) ((d : Int) + more) M N hM hN (by omega) (by omega)
  have hPx : unP M N ((T : Int) - d) ((d : Int) + more) x = true := by
    unfold unP
    rw [← hT]
    exact inR_true.2 (by omega)
  rcases unS_spec (unP M N ((T : Int) - d) ((d : Int) + more)) (M + 1) with ⟨h1, h2⟩ | ⟨a, b, h1, h2, h3, h4, h5, h6⟩
  · rw [h2 x (by omega)] at hPx; cases hPx
  · rw [h1] at hu
    have h7 := h6 x (by omega) hPx
    refine ⟨a, b, h7.1, h7.2, by omega, fun y hy => ⟨fun h => h6 y (by omega) h, fun h => ?_⟩, hu⟩
    have m1 : N * a / M ≤ N * y / M := mono_div h.1
    have m2 : N * y / M ≤ N * b / M := mono_div h.2
    unfold unP at h4 h5
    rw [inR_true] at h4 h5 ⊢
    omega

set_option maxRecDepth 100000 in
set_option maxHeartbeats 8000000 in
theorem walk (a0 : Int) (w0 : (Lit.int .u16 a0).wf = true) (a1 : Int) (w1 : (Lit.int .u8 a1).wf = true) (a2 : Int) (w2 : (Lit.int .u16 a2).wf = true) (a3 : Int) (w3 : (Lit.int .u8 a3).wf = true) (a4 : Int) (w4 : (Lit.int .u16 a4).wf = true) (a5 : Int) (w5 : (Lit.int .u16 a5).wf = true) (w : World) :
    Calls Tryz.prog 8 #[.int .u16 a0, .int .u8 a1, .int .u16 a2, .int .u8 a3, .int .u16 a4, .int .u16 a5] w fun e w' => e = .returned (.bool true) ∧ Below w.heap.size w w' := by
  have b0 : 0 ≤ a0 ∧ a0 ≤ 65535 := by simp only [Lit.wf, Bool.and_eq_true, decide_eq_true_eq] at w0; exact w0
  have b1 : 0 ≤ a1 ∧ a1 ≤ 255 := by simp only [Lit.wf, Bool.and_eq_true, decide_eq_true_eq] at w1; exact w1
  have b2 : 0 ≤ a2 ∧ a2 ≤ 65535 := by simp only [Lit.wf, Bool.and_eq_true, decide_eq_true_eq] at w2; exact w2
  have b3 : 0 ≤ a3 ∧ a3 ≤ 255 := by simp only [Lit.wf, Bool.and_eq_true, decide_eq_true_eq] at w3; exact w3
  have b4 : 0 ≤ a4 ∧ a4 ≤ 65535 := by simp only [Lit.wf, Bool.and_eq_true, decide_eq_true_eq] at w4; exact w4
  have b5 : 0 ≤ a5 ∧ a5 ≤ 65535 := by simp only [Lit.wf, Bool.and_eq_true, decide_eq_true_eq] at w5; exact w5
  clear w0 w1 w2 w3 w4 w5
  obtain ⟨M, hM⟩ : ∃ M : Nat, 1 + a1 = (M : Int) := ⟨(1 + a1).toNat, by omega⟩
  have hM1 : 1 ≤ M ∧ M ≤ 256 := by omega
  have r2 : 0 ≤ a2.tmod 512 ∧ a2.tmod 512 ≤ 511 := by rw [Int.tmod_eq_emod_of_nonneg b2.1]; omega
  obtain ⟨N, hN⟩ : ∃ N : Nat, 1 + a2.tmod 512 = (N : Int) := ⟨(1 + a2.tmod 512).toNat, by omega⟩
  have hN1 : 1 ≤ N ∧ N ≤ 512 := by omega
  have hxr : 0 ≤ a0.tmod ((M : Int) + 1) ∧ a0.tmod ((M : Int) + 1) ≤ M := by
    rw [Int.tmod_eq_emod_of_nonneg b0.1]
    have := Int.emod_nonneg a0 (b := (M : Int) + 1) (by omega)
    have := Int.emod_lt_of_pos a0 (b := (M : Int) + 1) (by omega)
    omega
  obtain ⟨x, hx⟩ : ∃ x : Nat, a0.tmod ((M : Int) + 1) = (x : Int) := ⟨(a0.tmod ((M : Int) + 1)).toNat, by omega⟩
  have hxM : x ≤ M := by omega
  obtain ⟨L, hL⟩ : ∃ L, L = rtL x M N := ⟨_, rfl⟩
  obtain ⟨T, hT⟩ : ∃ T, T = L.length := ⟨_, rfl⟩
  obtain ⟨p, hp⟩ : ∃ p, p = N * x := ⟨_, rfl⟩
  have hTp : T = p / M := by rw [hT, hL, rtL_length x M (by omega) hxM, hp]
  have hpl : p ≤ 200000 := by rw [hp]; exact Nat.le_trans (Nat.mul_le_mul hN1.2 (show x ≤ 256 by omega)) (by omega)
  have e1 : (N : Int) * (x : Int) = (p : Int) := by rw [hp]; simp
  have e2 : (p : Int).tdiv (M : Int) = (T : Int) := by rw [hTp]; rfl
  have hTN : T ≤ N := by rw [hT, hL]; exact rtL_le x M N
  have hTl := hTN
  have hdr : 0 ≤ a3.tmod ((T : Int) + 1) ∧ a3.tmod ((T : Int) + 1) ≤ T := by
    rw [Int.tmod_eq_emod_of_nonneg b3.1]
    have := Int.emod_nonneg a3 (b := (T : Int) + 1) (by omega)
    have := Int.emod_lt_of_pos a3 (b := (T : Int) + 1) (by omega)
    omega
  obtain ⟨d, hd⟩ : ∃ d : Nat, a3.tmod ((T : Int) + 1) = (d : Int) := ⟨(a3.tmod ((T : Int) + 1)).toNat, by omega⟩
  have hdT : d ≤ T := by omega
  have har : 0 ≤ a4.tmod (N : Int) ∧ a4.tmod (N : Int) < N := by
    rw [Int.tmod_eq_emod_of_nonneg b4.1]
    exact ⟨Int.emod_nonneg a4 (by omega), Int.emod_lt_of_pos a4 (by omega)⟩
  obtain ⟨A, hA⟩ : ∃ A : Nat, a4.tmod (N : Int) = (A : Int) := ⟨(a4.tmod (N : Int)).toNat, by omega⟩
  have hAN : A < N := by omega
  have hwr : 0 ≤ a5.tmod ((N : Int) - (A : Int) + 1) ∧ a5.tmod ((N : Int) - (A : Int) + 1) ≤ (N : Int) - A := by
    rw [Int.tmod_eq_emod_of_nonneg b5.1]
    have := Int.emod_nonneg a5 (b := (N : Int) - (A : Int) + 1) (by omega)
    have := Int.emod_lt_of_pos a5 (b := (N : Int) - (A : Int) + 1) (by omega)
    omega
  obtain ⟨V, hV⟩ : ∃ V : Nat, a5.tmod ((N : Int) - (A : Int) + 1) = (V : Int) := ⟨(a5.tmod ((N : Int) - (A : Int) + 1)).toNat, by omega⟩
  have hVN : A + V ≤ N := by omega
  have HC := Lib.hid (cntW_all x M A V N (by omega) hxM hVN)
  have HR := Lib.hid (fun W => rate_ok x M N (by omega) (by omega) hxM W)
  have HUN := Lib.hid (fun more h => unrate_round M N x d more (by omega) (by omega) hxM T (by rw [hTp, hp]) hdT h)
  rw [← hL] at HC HR
  have HL := Lib.hid hL
  have HT := Lib.hid hT
  have q0 : ((M : Int) + 1 == 0) = false := by simp; omega
  have q1 : ((M : Int) == 0) = false := by simp; omega
  have q2 : ((T : Int) + 1 == 0) = false := by simp; omega
  have q3 : ((N : Int) == 0) = false := by simp; omega
  have q4 : ((N : Int) - (A : Int) + 1 == 0) = false := by simp; omega
  have k0b : 0 ≤ a0 ∧ a0 ≤ 1000000 := by omega
  have k1b : 0 ≤ a1 ∧ a1 ≤ 1000000 := by omega
  have k2b : 0 ≤ a2 ∧ a2 ≤ 1000000 := by omega
  have k3b : 0 ≤ a3 ∧ a3 ≤ 1000000 := by omega
  have k4b : 0 ≤ a4 ∧ a4 ≤ 1000000 := by omega
  have k5b : 0 ≤ a5 ∧ a5 ≤ 1000000 := by omega
  have k0 : wrap64 a0 = a0 := w64 _ k0b.1 k0b.2
  have k1 : wrap64 a1 = a1 := w64 _ k1b.1 k1b.2
  have k2 : wrap64 a2 = a2 := w64 _ k2b.1 k2b.2
  have k3 : wrap64 a3 = a3 := w64 _ k3b.1 k3b.2
  have k4 : wrap64 a4 = a4 := w64 _ k4b.1 k4b.2
  have k5 : wrap64 a5 = a5 := w64 _ k5b.1 k5b.2
  clear k0b k1b k2b k3b k4b k5b
  have HE := Lib.hid hp
  clear b0 b2 b3 b4 b5 hxr hL hT hp hTp hdr har hwr
  go_enter Tryz.func8, Tryz.ntmps8
  go_wp2_with (fail)
  go_at_call 13
  refine (HR.out _).mono ?_
  rintro e w1 ⟨sv, rfl, ho1, hb1⟩
  have K1 := Lib.hid (kat_of_owns ho1)
  have B1 := Lib.hid hb1
  obtain ⟨sa, cap, rfl⟩ : ∃ a c, sv = .slice a T c := by
    rw [HT.out]
    rcases K1.out with ⟨rfl, h0⟩ | ⟨b, off, cap, rfl, _⟩
    · rw [h0]; exact ⟨_, _, rfl⟩
    · exact ⟨_, _, rfl⟩
  clear ho1 hb1
  go_upto_region 7 with (fail)
  go_wp2
  have KM := Lib.hid (kat_lit w1 [0, 1, 5])
  have K2 := Lib.hid (K1.out.below ((Below.refl w1.heap.size w1).alloc (Nat.le_refl _) (.cells #[.int .i64 0, .int .i64 1, .int .i64 5] 3)))
  have B2 := Lib.hid (B1.out.alloc B1.out.size (.cells #[.int .i64 0, .int .i64 1, .int .i64 5] 3))
  simp only [List.map_cons, List.map_nil, List.length_cons, List.length_nil, Nat.reduceAdd] at KM
  generalize w1.alloc (.cells #[.int .i64 0, .int .i64 1, .int .i64 5] 3) = W2 at *
  have KA := Lib.hid hA
  have KV := Lib.hid hV
  have K4 := Lib.hid k4
  have K5 := Lib.hid k5
  clear K1 B1 hM hN hx hd hA hV k0 k1 k2 k3 k4 k5 e1 e2 r2 b1
  generalize w1.heap.size = g2 at *
  go_loopw [71] (fun s71 wr => ∃ k : Nat, k ≤ 3 ∧ s71 = .int .i64 k ∧ Below W2.heap.size W2 wr) (fun s71 _ => 3 - (intOf s71).toNat)
  case atStart => exact ⟨0, Nat.zero_le _, rfl, Below.refl _ _⟩
  case round =>
    obtain ⟨k, hk, rfl, hb⟩ := hrel
    have HB := Lib.hid hb
    by_cases hlt : k < 3
    · have hi0 : (0 : Int) ≤ (k : Int) := Int.natCast_nonneg _
      have hi1 : (k : Int) < 3 := by omega
      obtain ⟨mo, hmo, hm0, hm5⟩ : ∃ mo : Int, ([0, 1, 5] : List Int)[k]? = some mo ∧ 0 ≤ mo ∧ mo ≤ 5 := by
        rcases (show k = 0 ∨ k = 1 ∨ k = 2 by omega) with rfl | rfl | rfl <;> exact ⟨_, rfl, by decide, by decide⟩
      obtain ⟨g, off, hge, hgl, hcc⟩ := (KM.out.below hb).at hmo
      cases hge
      rw [Nat.zero_add] at hcc
      obtain ⟨lo, hi, u1, u2, u3, u4, u5⟩ := HUN.out mo hm0
      have U4 := Lib.hid u4
      have U5 := Lib.hid u5
      have z1 : ((lo : Int) < 0) = False := by simp <;> omega
      have z2 : ((x : Int) < (lo : Int)) = False := by simp <;> omega
      have z3 : ((hi : Int) < (x : Int)) = False := by simp <;> omega
      have z4 : ((M : Int) < (hi : Int)) = False := by simp <;> omega
      have z5 : (x < lo) = False := by simp <;> omega
      have z6 : (hi < x) = False := by simp <;> omega
      have z7 : (M < hi) = False := by simp <;> omega
      have KK := Lib.hid (K2.out.below hb)
      clear u4 u5 hb hmo hlt hk
      go_upto_region 13 with (go_at_call 16; refine (U5.out _).mono ?_; rintro e w3 ⟨rfl, hb3⟩; have B3 := Lib.hid (HB.out.trans (hb3.mono HB.out.size)); clear hb3)
      clear hcc hgl HB KK
      generalize wr = wo at *
      go_wp2
      have KN := Lib.hid (kat_lit w3 [(lo : Int) - 1, (lo : Int), (hi : Int), (hi : Int) + 1])
      have B4 := Lib.hid (B3.out.alloc B3.out.size (.cells #[.int .i64 ((lo : Int) - 1), .int .i64 (lo : Int), .int .i64 (hi : Int), .int .i64 ((hi : Int) + 1)] 3))
      simp only [List.map_cons, List.map_nil, List.length_cons, List.length_nil, Nat.reduceAdd] at KN
      generalize w3.alloc (.cells #[.int .i64 ((lo : Int) - 1), .int .i64 (lo : Int), .int .i64 (hi : Int), .int .i64 ((hi : Int) + 1)] 3) = W4 at *
      clear B3
      generalize w3.heap.size = g4 at *
      go_loopw [118] (fun s118 wr => ∃ j : Nat, j ≤ 4 ∧ s118 = .int .i64 j ∧ Below W4.heap.size W4 wr) (fun s118 _ => 4 - (intOf s118).toNat)
      case atStart => exact ⟨0, Nat.zero_le _, rfl, Below.refl _ _⟩
      case round =>
        obtain ⟨j, hj, rfl, hb⟩ := hrel
        have HB := Lib.hid hb
        by_cases hlt : j < 4
        · have hi2 : (0 : Int) ≤ (j : Int) := Int.natCast_nonneg _
          have hi3 : (j : Int) < 4 := by omega
          obtain ⟨y, hy, hy0, hy1⟩ : ∃ y : Int, ([(lo : Int) - 1, (lo : Int), (hi : Int), (hi : Int) + 1] : List Int)[j]? = some y ∧ -1 ≤ y ∧ y ≤ M + 1 := by
            rcases (show j = 0 ∨ j = 1 ∨ j = 2 ∨ j = 3 by omega) with rfl | rfl | rfl | rfl <;> exact ⟨_, rfl, by omega, by omega⟩
          obtain ⟨g, off, hge, hgl, hcc⟩ := (KN.out.below hb).at hy
          cases hge
          rw [Nat.zero_add] at hcc
          clear hb hy hlt hj z1 z2 z3 z4 z5 z6 z7
          by_cases c1 : y < 0
          · have z1 : (y < 0) = True := by simp [c1]
            clear c1
            go_wp2
            go_roundw
            case rel => exact ⟨j + 1, by omega, by go_num, HB.out⟩
            case measure => simp [intOf]; omega
          · have z1 : (y < 0) = False := by simp [c1]
            by_cases c2 : (M : Int) < y
            · have z2 : ((M : Int) < y) = True := by simp [c2]
              clear c1 c2
              go_wp2
              go_roundw
              case rel => exact ⟨j + 1, by omega, by go_num, HB.out⟩
              case measure => simp [intOf]; omega
            · have z2 : ((M : Int) < y) = False := by simp [c2]
              obtain ⟨q, hq⟩ : ∃ q : Nat, q = N * y.toNat / M := ⟨_, rfl⟩
              obtain ⟨p2, hp2⟩ : ∃ p2 : Nat, p2 = N * y.toNat := ⟨_, rfl⟩
              have hpl2 : p2 ≤ 200000 := by rw [hp2]; exact Nat.le_trans (Nat.mul_le_mul hN1.2 (show y.toNat ≤ 256 by omega)) (by omega)
              have e3 : (N : Int) * y = (p2 : Int) := by rw [hp2]; push_cast; rw [Int.toNat_of_nonneg (by omega)]
              have e4 : (p2 : Int).tdiv (M : Int) = (q : Int) := by rw [hq, hp2]; rfl
              have hql : q ≤ 200000 := by rw [hq, ← hp2]; exact Nat.le_trans (Nat.div_le_self _ _) hpl2
              have h4 := U4.out y.toNat (by omega)
              rw [← hq] at h4
              have hqq : ((T : Int) - d ≤ q ∧ (q : Int) ≤ T + mo) ↔ ((lo : Int) ≤ y ∧ y ≤ hi) := by
                rw [inR_true] at h4
                constructor
                · intro h; have := h4.1 (by omega); omega
                · intro h; have := h4.2 (by omega); omega
              clear h4 hq hp2 c1 c2
              by_cases c3 : (T : Int) - d ≤ q
              · have z3 : ((T : Int) - d ≤ q) = True := by simp [c3]
                by_cases c4 : (q : Int) ≤ T + mo
                · have z4 : ((q : Int) ≤ T + mo) = True := by simp [c4]
                  have z5 : ((lo : Int) ≤ y) = True := by have := hqq.1 ⟨c3, c4⟩; simp [this]
                  have z6 : (y ≤ (hi : Int)) = True := by have := hqq.1 ⟨c3, c4⟩; simp [this]
                  clear hqq c3 c4
                  go_wp2
                  go_roundw
                  case rel => exact ⟨j + 1, by omega, by go_num, HB.out⟩
                  case measure => simp [intOf]; omega
                · have z4 : ((q : Int) ≤ T + mo) = False := by simp [c4]
                  have hn : ¬ ((lo : Int) ≤ y ∧ y ≤ hi) := fun h => c4 (hqq.2 h).2
                  clear hqq c3 c4
                  by_cases c5 : (lo : Int) ≤ y
                  · have z5 : ((lo : Int) ≤ y) = True := by simp [c5]
                    have z6 : (y ≤ (hi : Int)) = False := by simp <;> omega
                    clear hn c5
                    go_wp2
                    go_roundw
                    case rel => exact ⟨j + 1, by omega, by go_num, HB.out⟩
                    case measure => simp [intOf]; omega
                  · have z5 : ((lo : Int) ≤ y) = False := by simp [c5]
                    clear hn c5
                    go_wp2
                    go_roundw
                    case rel => exact ⟨j + 1, by omega, by go_num, HB.out⟩
                    case measure => simp [intOf]; omega
              · have z3 : ((T : Int) - d ≤ q) = False := by simp [c3]
                have hn : ¬ ((lo : Int) ≤ y ∧ y ≤ hi) := fun h => c3 (hqq.2 h).1
                clear hqq c3
                by_cases c5 : (lo : Int) ≤ y
                · have z5 : ((lo : Int) ≤ y) = True := by simp [c5]
                  have z6 : (y ≤ (hi : Int)) = False := by simp <;> omega
                  clear hn c5
                  go_wp2
                  go_roundw
                  case rel => exact ⟨j + 1, by omega, by go_num, HB.out⟩
                  case measure => simp [intOf]; omega
                · have z5 : ((lo : Int) ≤ y) = False := by simp [c5]
                  clear hn c5
                  go_wp2
                  go_roundw
                  case rel => exact ⟨j + 1, by omega, by go_num, HB.out⟩
                  case measure => simp [intOf]; omega
        · obtain rfl : j = 4 := by omega
          clear hlt hj hb
          go_wp2
          go_roundw
          case rel => exact ⟨k + 1, by omega, by go_num, B4.out.trans (HB.out.mono B4.out.size)⟩
          case measure => simp [intOf]; omega
    · obtain rfl : k = 3 := by omega
      have KK := Lib.hid (K2.out.below hb)
      have BB := Lib.hid (B2.out.trans (hb.mono B2.out.size))
      clear hlt hk hb HB KM K2 B2
      have HLM := Lib.hid (fun k z (h : L[k]? = some z) => rtL_mem (List.mem_of_getElem? (by rw [← HL.out]; exact h : (rtL x M N)[k]? = some z)))
      have HLA := Lib.hid (fun i a b (h1 : L[i]? = some a) (h2 : L[i + 1]? = some b) => rtL_asc x M N i a b (by rw [← HL.out]; exact h1) (by rw [← HL.out]; exact h2))
      have hA := KA.out
      have hV := KV.out
      have k4 := K4.out
      have k5 := K5.out
      go_upto_region 25 with (fail)
      go_wp2
      go_loopw [29, 172] (fun s29 s172 wr' => ∃ k : Nat, k ≤ T ∧ s172 = .int .i64 k ∧ s29 = .int .i64 ((cntW A (A + V) (L.take k) : Nat) : Int) ∧ Below wr.heap.size wr wr') (fun _ s172 _ => T - (intOf s172).toNat)
      case atStart => exact ⟨0, Nat.zero_le _, rfl, by simp [cntW], Below.refl _ _⟩
      case round =>
        obtain ⟨k, hk, rfl, rfl, hb⟩ := hrel
        have HB := Lib.hid hb
        have hcl : cntW A (A + V) (L.take k) ≤ 512 := by
          have h1 : cntW A (A + V) (L.take k) ≤ (L.take k).length := List.length_filter_le _ _
          rw [List.length_take] at h1; omega
        obtain ⟨c, hc⟩ : ∃ c, c = cntW A (A + V) (L.take k) := ⟨_, rfl⟩
        rw [← hc] at hcl ⊢
        have HCC := Lib.hid hc
        clear hc
        by_cases hlt : k < T
        · have hi0 : (0 : Int) ≤ (k : Int) := Int.natCast_nonneg _
          have hi1 : (k : Int) < (T : Int) := by omega
          obtain ⟨z, hz⟩ : ∃ z, L[k]? = some z := ⟨_, List.getElem?_eq_getElem (by rw [← HT.out]; exact hlt)⟩
          obtain ⟨t, rfl, htn⟩ := HLM.out k z hz
          obtain ⟨g, off, rfl, hgl, hcc⟩ := (KK.out.below hb).at hz
          have HZ := Lib.hid hz
          have z1 : ((t : Int) < 0) = False := by simp <;> omega
          have z2 : ((N : Int) ≤ (t : Int)) = False := by simp <;> omega
          have z2' : (N ≤ t) = False := by simp <;> omega
          by_cases hk0 : k = 0
          · subst hk0
            rw [Nat.add_zero] at hcc
            clear hz hb hk hlt
            by_cases c1 : (A : Int) ≤ (t : Int)
            · have y1 : ((A : Int) ≤ (t : Int)) = True := by simp [c1]
              have y1' : (A ≤ t) = True := by simp; omega
              by_cases c2 : (t : Int) < (A : Int) + (V : Int)
              · have y2 : ((t : Int) < (A : Int) + (V : Int)) = True := by simp [c2]
                have HW := Lib.hid (cntW_next (a := A) (b := A + V) HZ.out (show inW A (A + V) (t : Int) = true by simp only [inW, Bool.and_eq_true, decide_eq_true_eq]; omega))
                clear c1 c2
                go_wp2
                go_roundw
                case rel => exact ⟨0 + 1, by omega, by go_num, by rw [HW.out, ← HCC.out]; push_cast; rfl, HB.out⟩
                case measure => simp [intOf]; omega
              · have y2 : ((t : Int) < (A : Int) + (V : Int)) = False := by simp [c2]
                have HW := Lib.hid (cntW_skip (a := A) (b := A + V) HZ.out (show inW A (A + V) (t : Int) = false by simp only [inW, Bool.and_eq_false_iff, decide_eq_false_iff_not]; omega))
                clear c1 c2
                go_wp2
                go_roundw
                case rel => exact ⟨0 + 1, by omega, by go_num, by rw [HW.out, ← HCC.out], HB.out⟩
                case measure => simp [intOf]; omega
            · have y1 : ((A : Int) ≤ (t : Int)) = False := by simp [c1]
              have y1' : (A ≤ t) = False := by simp; omega
              have HW := Lib.hid (cntW_skip (a := A) (b := A + V) HZ.out (show inW A (A + V) (t : Int) = false by simp only [inW, Bool.and_eq_false_iff, decide_eq_false_iff_not]; omega))
              clear c1
              go_wp2
              go_roundw
              case rel => exact ⟨0 + 1, by omega, by go_num, by rw [HW.out, ← HCC.out], HB.out⟩
              case measure => simp [intOf]; omega
          · have kp : 1 ≤ k := by omega
            have z3 : ((0 : Int) < (k : Int)) = True := by simp <;> omega
            have z3' : (0 < k) = True := by simp <;> omega
            obtain ⟨y, hy⟩ : ∃ y, L[k - 1]? = some y := ⟨_, List.getElem?_eq_getElem (by rw [← HT.out]; omega)⟩
            obtain ⟨s, rfl, hsn⟩ := HLM.out (k - 1) y hy
            have hst := HLA.out (k - 1) s t hy (by rw [show k - 1 + 1 = k by omega]; exact hz)
            obtain ⟨g', off', hge, hgl', hcc'⟩ := (KK.out.below hb).at hy
            cases hge
            have z4 : ((t : Int) ≤ (s : Int)) = False := by simp <;> omega
            have z4' : (t ≤ s) = False := by simp <;> omega
            clear hz hy hb hk hk0 hlt hst
            by_cases c1 : (A : Int) ≤ (t : Int)
            · have y1 : ((A : Int) ≤ (t : Int)) = True := by simp [c1]
              have y1' : (A ≤ t) = True := by simp; omega
              by_cases c2 : (t : Int) < (A : Int) + (V : Int)
              · have y2 : ((t : Int) < (A : Int) + (V : Int)) = True := by simp [c2]
                have HW := Lib.hid (cntW_next (a := A) (b := A + V) HZ.out (show inW A (A + V) (t : Int) = true by simp only [inW, Bool.and_eq_true, decide_eq_true_eq]; omega))
                clear c1 c2
                go_wp2
                go_roundw
                case rel => exact ⟨k + 1, by omega, by go_num, by rw [HW.out, ← HCC.out]; push_cast; rfl, HB.out⟩
                case measure => simp [intOf]; omega
              · have y2 : ((t : Int) < (A : Int) + (V : Int)) = False := by simp [c2]
                have HW := Lib.hid (cntW_skip (a := A) (b := A + V) HZ.out (show inW A (A + V) (t : Int) = false by simp only [inW, Bool.and_eq_false_iff, decide_eq_false_iff_not]; omega))
                clear c1 c2
                go_wp2
                go_roundw
                case rel => exact ⟨k + 1, by omega, by go_num, by rw [HW.out, ← HCC.out], HB.out⟩
                case measure => simp [intOf]; omega
            · have y1 : ((A : Int) ≤ (t : Int)) = False := by simp [c1]
              have y1' : (A ≤ t) = False := by simp; omega
              have HW := Lib.hid (cntW_skip (a := A) (b := A + V) HZ.out (show inW A (A + V) (t : Int) = false by simp only [inW, Bool.and_eq_false_iff, decide_eq_false_iff_not]; omega))
              clear c1
              go_wp2
              go_roundw
              case rel => exact ⟨k + 1, by omega, by go_num, by rw [HW.out, ← HCC.out], HB.out⟩
              case measure => simp [intOf]; omega
        · obtain rfl : k = T := by omega
          obtain ⟨p3, hp3⟩ : ∃ p, p = V * x := ⟨_, rfl⟩
          have hpl3 : p3 ≤ 200000 := by rw [hp3]; exact Nat.le_trans (Nat.mul_le_mul (show V ≤ 512 by omega) (show x ≤ 256 by omega)) (by omega)
          have e5 : (V : Int) * (x : Int) = (p3 : Int) := by rw [hp3]; simp
          obtain ⟨q3, hq3⟩ : ∃ q, q = p3 / M := ⟨_, rfl⟩
          have hql3 : q3 ≤ 200000 := by rw [hq3]; exact Nat.le_trans (Nat.div_le_self _ _) hpl3
          have e6 : (p3 : Int).tdiv (M : Int) = (q3 : Int) := by rw [hq3]; rfl
          have hcq : c = q3 ∨ c = q3 + 1 := by
            have h1 := HC.out
            have h2 := HCC.out
            rw [List.take_of_length_le (by rw [← HT.out]; exact Nat.le_refl _)] at h2
            rw [hq3, hp3, h2]; exact h1
          clear hp3 hq3 hlt hk hb
          rcases hcq with rfl | rfl
          · go_wp2_with (go_at_call 18; refine (works_any _).mono ?_; rintro e w9 ⟨rfl, hb9⟩)
            go_ret
            exact ⟨rfl, (BB.out.trans (HB.out.mono BB.out.size)).trans (hb9.mono (BB.out.trans (HB.out.mono BB.out.size)).size)⟩
          · have z5 : (((q3 + 1 : Nat) : Int) == (q3 : Int)) = false := by simp <;> omega
            have z6 : ((q3 : Int) + 1 == (q3 : Int)) = false := by simp <;> omega
            go_wp2_with (go_at_call 18; refine (works_any _).mono ?_; rintro e w9 ⟨rfl, hb9⟩)
            go_ret
            exact ⟨rfl, (BB.out.trans (HB.out.mono BB.out.size)).trans (hb9.mono (BB.out.trans (HB.out.mono BB.out.size)).size)⟩

set_option maxRecDepth 100000 in
theorem lifted (os : Os) (started : os.Started) (H : Type) (enc : TypeId × Value → H) :
    ReturnsInHanded {} Tryz.checked os 8 .any (Rows.codeRoundSpec.pre6 enc Tryz.prog Tryz.f8 Rows.codeRoundRow.domain false) (Rows.codeRoundSpec.post enc Tryz.prog Tryz.f8 false true false false) := by
  refine returnsInHanded_of_change (C := Tryz.checked) own started (by kernel_rfl) Tryz.func8
    (ChangeSpec.witness6 (enc := enc) (C := Tryz.checked) false ⟨#[], #[.int .u16 0, .int .u8 0, .int .u16 0, .int .u8 0, .int .u16 0, .int .u16 0], []⟩ 8 (by kernel_rfl) (by kernel_rfl) (by kernel_rfl) (by kernel_rfl)) ?_
  intro W base args ds gs before hval0 hW hcnd hsz
  have hval : ∀ (j : Nat) t v, Tryz.f8.params[j]? = some t → args[j]? = some v → Value.okWide Tryz.prog W .any base t v := hval0
  have hW' := hW
  obtain ⟨p, q, hA0, hV, rfl, hfz, hnd⟩ := hW
  have hA : DataW.TrodAll enc Tryz.prog W 0 (fun _ => true) true Tryz.f8.params.toList args.toList ds p := hA0
  rw [Tryz.params8] at hA hval
  have hAll := hA
  obtain ⟨v0, vs0, d0, ds0, p0, q0, hargs, rfl, rfl, h0, r0⟩ := trodAll_cons hA
  obtain ⟨v1, vs1, d1, ds1, p1, q1, rfl, rfl, rfl, h1, r1⟩ := trodAll_cons r0
  obtain ⟨v2, vs2, d2, ds2, p2, q2, rfl, rfl, rfl, h2, r2⟩ := trodAll_cons r1
  obtain ⟨v3, vs3, d3, ds3, p3, q3, rfl, rfl, rfl, h3, r3⟩ := trodAll_cons r2
  obtain ⟨v4, vs4, d4, ds4, p4, q4, rfl, rfl, rfl, h4, r4⟩ := trodAll_cons r3
  obtain ⟨v5, vs5, d5, ds5, p5, q5, rfl, rfl, rfl, h5, r5⟩ := trodAll_cons r4
  obtain ⟨rfl, rfl, rfl⟩ := trodAll_nil r5
  obtain rfl : args = #[v0, v1, v2, v3, v4, v5] := by cases args; simp_all
  obtain ⟨rfl, rfl⟩ := trodVars_none hV
  obtain ⟨a0, rfl, rfl, rfl, w0⟩ := open_int Tryz.underlying83 (hval 0 83 v0 rfl rfl) h0
  obtain ⟨a1, rfl, rfl, rfl, w1⟩ := open_int Tryz.underlying5 (hval 1 5 v1 rfl rfl) h1
  obtain ⟨a2, rfl, rfl, rfl, w2⟩ := open_int Tryz.underlying83 (hval 2 83 v2 rfl rfl) h2
  obtain ⟨a3, rfl, rfl, rfl, w3⟩ := open_int Tryz.underlying5 (hval 3 5 v3 rfl rfl) h3
  obtain ⟨a4, rfl, rfl, rfl, w4⟩ := open_int Tryz.underlying83 (hval 4 83 v4 rfl rfl) h4
  obtain ⟨a5, rfl, rfl, rfl, w5⟩ := open_int Tryz.underlying83 (hval 5 83 v5 rfl rfl) h5
  clear hA0 hval0
  refine (walk a0 w0 a1 w1 a2 w2 a3 w3 a4 w4 a5 w5 W ).mono fun e W' ⟨he, bel⟩ => ?_
  subst he
  have hback := trodAll_below bel [83, 5, 83, 5, 83, 83] (by intro t ht; simp at ht; rcases ht with rfl | rfl | rfl | rfl | rfl | rfl <;> exact ⟨by kernel_rfl, of_decide_eq_true (by kernel_rfl)⟩) hAll
  exact ⟨_, rfl, _, _, _, [], _, [], hW', trodAll_mk1 (shut_bool Tryz.underlying4 _), hback, rfl, bel.frame _, fun h => by cases h⟩

theorem over : Rows.codeRoundRow.holds Tryz.pinned (OpenSpec.ofChange Rows.codeRoundSpec) :=
  OpenClaim.holds_of_wide 8 Tryz.f8 rfl rfl rfl rfl rfl rfl rfl ⟨rfl, rfl, rfl, rfl, rfl⟩ rfl rfl rfl rfl rfl (by kernel_rfl) Tryz.func8 (by kernel_rfl)
    (of_decide_eq_true (by kernel_rfl)) (by unfold Func.isWrapper; first | (rw [if_pos (by decide +kernel)]; kernel_rfl) | (rw [if_neg (by decide +kernel)]; exact ⟨rfl, rfl⟩))
    (fun os started H enc _ => lifted os started H enc)

theorem proved : Rows.CodeRoundSaid := over

end Go.Proofs.YtjdcjcanmeangaaGreat.codeRound
