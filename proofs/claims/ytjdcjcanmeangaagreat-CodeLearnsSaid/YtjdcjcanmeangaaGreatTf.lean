/- Learning: the specification's Train. Over this seat's program; the conditions are named in each. (mk_Tf.py wrote this.) -/
import Derived.Test.YtjdcjcanmeangaaGreatTe
namespace Go.Proofs.YtjdcjcanmeangaaGreat
set_option linter.unusedVariables false
open Go.RowKit

theorem res44 {W : World} {b : Nat} {v0 v1 v2 v3 : Value} {t : TypeId} (x : Int) (h : W.heap[b]? = some (.cells #[v0, v1, v2, v3] t)) (tm : Array Value) (h6 : tm[6]?.getD undef = .pointer (some ⟨b, 0, none⟩)) (h7 : tm[7]?.getD undef = .int .i64 x) :
    (results Tryz.f44 tm).run Tryz.prog W = .ok (.tuple #[.agg #[v0, v1, v2, v3], .int .i64 x]) W := by
  obtain ⟨_, _, _, _, _, _, _, _⟩ := cells4 h
  simp [results, Tryz.results44, go_sem, *]
/-- What has been learned, in the specification's memory. -/
def RtAt (W : World) (T g n : Nat) (st : TS) (d : Bool) : Prop := W.heap[T]? = some (.cells #[.slice (some ⟨g, 0, none⟩) n n, .int .i64 st.b, .int .i64 (st.u : Int), .bool d] 79) ∧ RowAt W g n st.f
theorem RtAt.cells {W : World} {T g n : Nat} {st : TS} {d : Bool} (h : RtAt W T g n st d) :
    W.cell? ⟨T, 0, none⟩ = some (.slice (some ⟨g, 0, none⟩) n n) ∧ W.cell? ⟨T, 1, none⟩ = some (.int .i64 st.b) ∧ W.cell? ⟨T, 2, none⟩ = some (.int .i64 (st.u : Int)) ∧ W.cell? ⟨T, 3, none⟩ = some (.bool d) ∧ W.frozen? ⟨T, 0, none⟩ = false ∧ W.frozen? ⟨T, 1, none⟩ = false ∧ W.frozen? ⟨T, 2, none⟩ = false ∧ W.frozen? ⟨T, 3, none⟩ = false := cells4 h.1
theorem trE_smp {l : List Smp} {m R E : Int} (h : smpE l = E) (h0 : E ≠ 0) : trE l m R = E := by unfold trE; rw [h, if_pos h0]
theorem trE_num {l : List Smp} {m R : Int} (h : smpE l = 0) (h0 : (inR m 0 1000000 && inR R 1 1000) = false) : trE l m R = 3 := by unfold trE; rw [h, if_neg (by simp), if_neg (by simp [h0])]
theorem trE_ok {l : List Smp} {m R : Int} (h : smpE l = 0) (h0 : (inR m 0 1000000 && inR R 1 1000) = true) : trE l m R = 0 := by unfold trE; rw [h, if_neg (by simp), if_pos h0]
theorem smpE_1 {l : List Smp} (h : l.length = 0) : smpE l = 3 := by unfold smpE; rw [if_pos h]
theorem smpE_2 {l : List Smp} (h : l.length ≠ 0) (h2 : 256 < l.length) : smpE l = 9 := by unfold smpE; rw [if_neg h, if_pos h2]
theorem smpE_3 {l : List Smp} (h : l.length ≠ 0) (h2 : ¬ 256 < l.length) (h3 : inR (n0 l : Int) 1 30 = false) : smpE l = 3 := by unfold smpE; rw [if_neg h, if_neg h2, if_pos h3]
theorem smpE_4 {l : List Smp} (h : l.length ≠ 0) (h2 : ¬ 256 < l.length) (h3 : inR (n0 l : Int) 1 30 = true) : smpE l = firstE (n0 l) l := by unfold smpE; rw [if_neg h, if_neg h2, if_neg (by simp [h3])]
set_option maxRecDepth 100000 in
set_option maxHeartbeats 16000000 in
theorem rtrain_any (l : List Smp) (m R : Int) (PN : Nat) (PS : TS) (PD : Bool) (PE : Int) (hp1 : trE l m R ≠ 0 → PN = 0 ∧ PS = initS ∧ PD = false ∧ PE = trE l m R) (hp2 : trE l m R = 0 → PN = n0 l ∧ PS = (trainS (n0 l) m l R.toNat).1 ∧ PD = (trainS (n0 l) m l R.toNat).2 ∧ PE = 0)
    (a : Option Addr) (cap : Nat) (hl : l.length ≤ 100000) (hx : ∀ s ∈ l, s.x.length ≤ 100000) (w : World) (hS : SmpsAt w (.slice a l.length cap) l) :
    Calls Tryz.prog 44 #[.slice a l.length cap, .int .i64 m, .int .i64 R] w (TrGot PN PS PD PE w) := by
  have hb0 : Below w.heap.size w (w.alloc (.cells #[.slice none 0 0, .int .i64 0, .int .i64 0, .bool false] 79)) := (Below.refl _ _).alloc (Nat.le_refl _) _
  have HRX := Lib.hid (show (w.alloc (.cells #[.slice none 0 0, .int .i64 0, .int .i64 0, .bool false] 79)).heap[w.heap.size]? = some (.cells #[.slice none 0 0, .int .i64 0, .int .i64 0, .bool false] 79) from alloc_new_at _ _ _ rfl)
  have HS0 := Lib.hid (hS.below hb0)
  have H0 := Lib.hid hb0
  have HX := Lib.hid hx
  have HP1 := Lib.hid hp1
  have HP2 := Lib.hid hp2
  obtain ⟨N, hN⟩ : ∃ N, N = l.length := ⟨_, rfl⟩
  rw [← hN] at HS0 hl ⊢
  have HN := Lib.hid hN
  clear hb0 hS hp1 hp2 hx hN
  by_cases c1 : N = 0
  · have z1 : ((N : Int) == 0) = true := by simp [c1]
    have he : trE l m R = 3 := trE_smp (smpE_1 (by rw [← HN.out]; exact c1)) (by decide)
    have HE := Lib.hid he
    clear he c1
    go_enter Tryz.func44, Tryz.ntmps44
    go_upto_region 1 with (fail)
    generalize w.alloc (.cells #[.slice none 0 0, .int .i64 0, .int .i64 0, .bool false] 79) = W0 at *
    have hrx := HRX.out
    obtain ⟨e1, e2, e3, e4⟩ := HP1.out (by rw [HE.out]; decide)
    rw [HE.out] at e4
    subst e1 e2 e3 e4
    obtain ⟨x0, x1, x2, x3, y0, y1, y2, y3⟩ := cells4 hrx
    go_wp2
    obtain ⟨W', hW', f1, f2, f3, f4, f5, f6⟩ := set4 (W := W0) (g := w.heap.size) (.slice none 0 0) (.int .i64 0) (.int .i64 0) (.bool false) HRX.out
    rw [← hW']
    exact bodyPost_ret (res44 _ f1 _ rfl rfl) rfl ⟨_, rfl, Or.inl ⟨rfl, rfl⟩, below_set4 H0.out (Nat.le_refl _) f2 f3 f4 f5 f6⟩
  · have z1 : ((N : Int) == 0) = false := by simp [c1]
    by_cases c2 : 256 < N
    · have z2 : ((256 : Int) < (N : Int)) = True := by simp <;> omega
      have he : trE l m R = 9 := trE_smp (smpE_2 (by rw [← HN.out]; exact c1) (by rw [← HN.out]; exact c2)) (by decide)
      have HE := Lib.hid he
      clear he c1 c2
      go_enter Tryz.func44, Tryz.ntmps44
      go_upto_region 1 with (fail)
      generalize w.alloc (.cells #[.slice none 0 0, .int .i64 0, .int .i64 0, .bool false] 79) = W0 at *
      obtain ⟨e1, e2, e3, e4⟩ := HP1.out (by rw [HE.out]; decide)
      rw [HE.out] at e4
      subst e1 e2 e3 e4
      obtain ⟨x0, x1, x2, x3, y0, y1, y2, y3⟩ := cells4 HRX.out
      go_wp2
      obtain ⟨W', hW', f1, f2, f3, f4, f5, f6⟩ := set4 (W := W0) (g := w.heap.size) (.slice none 0 0) (.int .i64 0) (.int .i64 0) (.bool false) HRX.out
      rw [← hW']
      exact bodyPost_ret (res44 _ f1 _ rfl rfl) rfl ⟨_, rfl, Or.inl ⟨rfl, rfl⟩, below_set4 H0.out (Nat.le_refl _) f2 f3 f4 f5 f6⟩
    · have z2 : ((256 : Int) < (N : Int)) = False := by simp <;> omega
      obtain ⟨s0, hs0⟩ : ∃ s, l[0]? = some s := ⟨_, List.getElem?_eq_getElem (by have := HN.out; omega)⟩
      obtain ⟨n, hnn⟩ : ∃ n, n = n0 l := ⟨_, rfl⟩
      have hx0 := n0_at hs0
      rw [← hnn] at hx0
      obtain ⟨b, off, sa0, c0, rfl, hbl, q0, q1, hk0⟩ := HS0.out.at hs0
      rw [Nat.zero_mul, Nat.add_zero] at q0 q1
      rw [← hx0] at q0
      have HNN := Lib.hid hnn
      have C1 := Lib.hid c1
      have C2 := Lib.hid c2
      clear hnn hs0 hk0 hx0
      cases c3 : inR (n : Int) 1 30 with
      | false =>
        have he : trE l m R = 3 := trE_smp (smpE_3 (by rw [← HN.out]; exact c1) (by rw [← HN.out]; exact c2) (by rw [← HNN.out]; exact c3)) (by decide)
        have HE := Lib.hid he
        have C3 := Lib.hid c3
        have hN0 : 0 < N := by omega
        clear he c1 c2 c3
        go_enter Tryz.func44, Tryz.ntmps44
        go_upto_region 1 with (fail)
        generalize w.alloc (.cells #[.slice none 0 0, .int .i64 0, .int .i64 0, .bool false] 79) = W0 at *
        go_upto_region 7 with (go_at_call 54; refine (rwithin_any _ _ _ _).mono ?_; rintro e w' ⟨rfl, rfl⟩; rw [C3.out])
        clear q0 q1 hbl
        obtain ⟨e1, e2, e3, e4⟩ := HP1.out (by rw [HE.out]; decide)
        rw [HE.out] at e4
        subst e1 e2 e3 e4
        obtain ⟨x0, x1, x2, x3, y0, y1, y2, y3⟩ := cells4 HRX.out
        go_wp2
        obtain ⟨W', hW', f1, f2, f3, f4, f5, f6⟩ := set4 (W := W0) (g := w.heap.size) (.slice none 0 0) (.int .i64 0) (.int .i64 0) (.bool false) HRX.out
        rw [← hW']
        exact bodyPost_ret (res44 _ f1 _ rfl rfl) rfl ⟨_, rfl, Or.inl ⟨rfl, rfl⟩, below_set4 H0.out (Nat.le_refl _) f2 f3 f4 f5 f6⟩
      | true =>
        have hsm : smpE l = firstE n l := by rw [HNN.out]; exact smpE_4 (by rw [← HN.out]; exact c1) (by rw [← HN.out]; exact c2) (by rw [← HNN.out]; exact c3)
        have hnr := inR_true.1 c3
        have hn1 : 1 ≤ n := by omega
        have hn2 : n ≤ 30 := by omega
        obtain ⟨Z, hZ⟩ : ∃ Z, Z = smpE l := ⟨_, rfl⟩
        rw [← hZ] at hsm
        have hN0 : 0 < N := by omega
        have HZ := Lib.hid hZ
        have HSM := Lib.hid hsm
        have C3 := Lib.hid c3
        clear c1 c2 c3 hsm hZ hnr
        go_enter Tryz.func44, Tryz.ntmps44
        go_upto_region 1 with (fail)
        generalize w.alloc (.cells #[.slice none 0 0, .int .i64 0, .int .i64 0, .bool false] 79) = W0 at *
        go_upto_region 8 with (go_at_call 54; refine (rwithin_any _ _ _ _).mono ?_; rintro e w' ⟨rfl, rfl⟩; rw [C3.out])
        clear q0 q1 hbl
        go_wp2
        go_loopw [9] (fun s9 wr => ∃ k : Nat, k ≤ N ∧ s9 = .int .i64 k ∧ firstE n (l.drop k) = Z ∧ Below W0.heap.size W0 wr) (fun s9 _ => N - (intOf s9).toNat)
        case atStart => exact ⟨0, Nat.zero_le _, rfl, HSM.out.symm, Below.refl _ _⟩
        case round =>
          obtain ⟨k, hk, rfl, hfe, hb⟩ := hrel
          have HB := Lib.hid hb
          have HFE := Lib.hid hfe
          have hi0 : (0 : Int) ≤ (k : Int) := Int.natCast_nonneg _
          by_cases hlt : k < N
          · have hi1 : (k : Int) < (N : Int) := by omega
            obtain ⟨s, hs⟩ : ∃ s, l[k]? = some s := ⟨_, List.getElem?_eq_getElem (by rw [← HN.out]; exact hlt)⟩
            have hxl := HX.out s (List.mem_of_getElem? hs)
            have hat := firstE_at hs hfe
            obtain ⟨b', off', sa, c, hbb, hbl', p0, p1, hkx⟩ := (HS0.out.below hb).at hs
            cases hbb
            obtain ⟨X, hX⟩ : ∃ X, X = s.x := ⟨_, rfl⟩
            rw [← hX] at hat hxl p0 hkx
            obtain ⟨LX, hL⟩ : ∃ L, L = X.length := ⟨_, rfl⟩
            rw [← hL] at hat hxl p0 hkx
            have HL := Lib.hid hL
            have HKX := Lib.hid hkx
            have P0 := Lib.hid p0
            have HBLw := Lib.hid hbl'
            have HS9 := Lib.hid hs
            clear hX hs hL hb hfe
            by_cases h1 : LX = n
            · subst h1
              have g1 : ((LX : Int) != (LX : Int)) = false := by simp
              have hok : okX X = false → Z = 3 := fun h => by
                rcases hat with ⟨q, _⟩ | ⟨_, _, q⟩ | ⟨_, q, _⟩
                · exact absurd rfl q
                · exact q
                · rw [h] at q; cases q
              have hnx : okX X = true → firstE LX (l.drop (k + 1)) = Z := fun h => by
                rcases hat with ⟨q, _⟩ | ⟨_, q, _⟩ | ⟨_, _, q⟩
                · exact absurd rfl q
                · rw [h] at q; cases q
                · exact q
              have HOK := Lib.hid hok
              have HNX := Lib.hid hnx
              clear hat hok hnx hkx
              go_upto_region 13 with (fail)
              go_wp2
              clear p0 p1 hbl' g1
              generalize wr = wo at *
              go_loopw [10] (fun s10 wr => ∃ j : Nat, j ≤ LX ∧ s10 = .int .i64 j ∧ (∀ i z, i < j → X[i]? = some z → inR z (-1000) 1000 = true) ∧ Below wo.heap.size wo wr) (fun s10 _ => LX - (intOf s10).toNat)
              case atStart => exact ⟨0, Nat.zero_le _, rfl, fun i z h => by omega, Below.refl _ _⟩
              case round =>
                obtain ⟨j, hj, rfl, hall, hb⟩ := hrel
                have HB5 := Lib.hid hb
                have HALL := Lib.hid hall
                have hj0 : (0 : Int) ≤ (j : Int) := Int.natCast_nonneg _
                by_cases hlj : j < LX
                · have hj1 : (j : Int) < (LX : Int) := by omega
                  obtain ⟨z, hz⟩ : ∃ z, X[j]? = some z := ⟨_, List.getElem?_eq_getElem (by rw [← HL.out]; exact hlj)⟩
                  have hzm := List.mem_of_getElem? hz
                  obtain ⟨ad, rfl, hxb, hxc⟩ := HKX.out.at hz
                  have hcc := (hb.cell (p := ad.add j) hxb).trans hxc
                  have p0 := (hb.cell (p := ⟨b, off + k * 2, none⟩) HBLw.out).trans P0.out
                  have HB6 := Lib.hid (HB.out.trans (hb.mono HB.out.size))
                  have HRX9 := Lib.hid ((HB6.out.block _ (lt_of_block HRX.out)).trans HRX.out)
                  have HZJ := Lib.hid hz
                  have HZM := Lib.hid hzm
                  clear hz hzm hb hall hxb hxc
                  cases hin : inR z (-1000) 1000 with
                  | false =>
                    have hz3 : Z = 3 := HOK.out (List.all_eq_false.2 ⟨z, HZM.out, by rw [hin]; decide⟩)
                    have he : trE l m R = 3 := trE_smp (by rw [← HZ.out]; exact hz3) (by decide)
                    have HE := Lib.hid he
                    have HIN := Lib.hid hin
                    clear he hz3 hin
                    go_upto_region 17 with (go_at_call 54; refine (rwithin_any _ _ _ _).mono ?_; rintro e w' ⟨rfl, rfl⟩; rw [HIN.out])
                    clear hcc p0
                    obtain ⟨e1, e2, e3, e4⟩ := HP1.out (by rw [HE.out]; decide)
                    rw [HE.out] at e4
                    subst e1 e2 e3 e4
                    obtain ⟨x0, x1, x2, x3, y0, y1, y2, y3⟩ := cells4 HRX9.out
                    go_wp2
                    obtain ⟨W', hW', f1, f2, f3, f4, f5, f6⟩ := set4 (W := wr) (g := w.heap.size) (.slice none 0 0) (.int .i64 0) (.int .i64 0) (.bool false) HRX9.out
                    rw [← hW']
                    exact bodyPost_ret (res44 _ f1 _ rfl rfl) rfl ⟨_, rfl, Or.inl ⟨rfl, rfl⟩, below_set4 (H0.out.trans (HB6.out.mono H0.out.size)) (Nat.le_refl _) f2 f3 f4 f5 f6⟩
                  | true =>
                    have HIN := Lib.hid hin
                    clear hin
                    go_upto_region 15 with (go_at_call 54; refine (rwithin_any _ _ _ _).mono ?_; rintro e w' ⟨rfl, rfl⟩; rw [HIN.out])
                    go_wp2
                    go_roundw
                    case rel => exact ⟨j + 1, by omega, by go_num, fun i y hi hy => by
                      rcases Nat.lt_or_ge i j with h | h
                      · exact HALL.out i y h hy
                      · have : i = j := by omega
                        subst this; rw [HZJ.out] at hy; cases hy; exact HIN.out, HB5.out⟩
                    case measure => simp [intOf]; omega
                · obtain rfl : j = LX := by omega
                  have hox : okX X = true := List.all_eq_true.2 fun x hx => by
                    obtain ⟨i, hi, rfl⟩ := List.getElem_of_mem hx
                    exact HALL.out i _ (by have := HL.out; omega) (List.getElem?_eq_getElem hi)
                  have HOX := Lib.hid (HNX.out hox)
                  have HB6 := Lib.hid (HB.out.trans (hb.mono HB.out.size))
                  clear hox hlj hj hall hb
                  go_wp2
                  go_roundw
                  case rel => exact ⟨k + 1, by omega, by go_num, HOX.out, HB6.out⟩
                  case measure => simp [intOf]; omega
            · have g1 : ((LX : Int) != (n : Int)) = true := by simp <;> omega
              have hz3 : Z = 13 := by
                rcases hat with ⟨_, q⟩ | ⟨q, _, _⟩ | ⟨q, _, _⟩
                · exact q
                · exact absurd q h1
                · exact absurd q h1
              have he : trE l m R = 13 := trE_smp (by rw [← HZ.out]; exact hz3) (by decide)
              have HE := Lib.hid he
              have HRX9 := Lib.hid ((HB.out.block _ (lt_of_block HRX.out)).trans HRX.out)
              clear he hz3 h1 hat hkx
              go_upto_region 12 with (fail)
              clear p0 p1 hbl'
              obtain ⟨e1, e2, e3, e4⟩ := HP1.out (by rw [HE.out]; decide)
              rw [HE.out] at e4
              subst e1 e2 e3 e4
              obtain ⟨x0, x1, x2, x3, y0, y1, y2, y3⟩ := cells4 HRX9.out
              go_wp2
              obtain ⟨W', hW', f1, f2, f3, f4, f5, f6⟩ := set4 (W := wr) (g := w.heap.size) (.slice none 0 0) (.int .i64 0) (.int .i64 0) (.bool false) HRX9.out
              rw [← hW']
              exact bodyPost_ret (res44 _ f1 _ rfl rfl) rfl ⟨_, rfl, Or.inl ⟨rfl, rfl⟩, below_set4 (H0.out.trans (HB.out.mono H0.out.size)) (Nat.le_refl _) f2 f3 f4 f5 f6⟩
          · obtain rfl : N = k := by omega
            have hz0 : Z = 0 := by
              have h1 := hfe
              rw [HN.out] at h1
              exact firstE_end h1
            have hs0 : smpE l = 0 := by rw [← HZ.out]; exact hz0
            have HRX9 := Lib.hid ((HB.out.block _ (lt_of_block HRX.out)).trans HRX.out)
            have H9 := Lib.hid (H0.out.trans (HB.out.mono H0.out.size))
            have HS9 := Lib.hid (HS0.out.below HB.out)
            have HZS := Lib.hid hs0
            clear hz0 hs0 hlt hk hfe hb hi0
            generalize wr = w3 at *
            cases d1 : inR m 0 1000000 with
            | false =>
              have he : trE l m R = 3 := trE_num HZS.out (by rw [d1]; rfl)
              have HE := Lib.hid he
              have D1 := Lib.hid d1
              clear he d1
              go_upto_region 19 with (go_at_call 54; refine (rwithin_any _ _ _ _).mono ?_; rintro e w' ⟨rfl, rfl⟩; rw [D1.out])
              obtain ⟨e1, e2, e3, e4⟩ := HP1.out (by rw [HE.out]; decide)
              rw [HE.out] at e4
              subst e1 e2 e3 e4
              obtain ⟨x0, x1, x2, x3, y0, y1, y2, y3⟩ := cells4 HRX9.out
              go_wp2
              obtain ⟨W', hW', f1, f2, f3, f4, f5, f6⟩ := set4 (W := w3) (g := w.heap.size) (.slice none 0 0) (.int .i64 0) (.int .i64 0) (.bool false) HRX9.out
              rw [← hW']
              exact bodyPost_ret (res44 _ f1 _ rfl rfl) rfl ⟨_, rfl, Or.inl ⟨rfl, rfl⟩, below_set4 H9.out (Nat.le_refl _) f2 f3 f4 f5 f6⟩
            | true =>
              cases d2 : inR R 1 1000 with
              | false =>
                have he : trE l m R = 3 := trE_num HZS.out (by rw [d1, d2]; rfl)
                have HE := Lib.hid he
                have D1 := Lib.hid d1
                have D2 := Lib.hid d2
                clear he d1 d2
                go_upto_region 19 with (go_at_call 54; refine (rwithin_any _ _ _ _).mono ?_; rintro e w' ⟨rfl, rfl⟩; first | rw [D1.out] | rw [D2.out])
                obtain ⟨e1, e2, e3, e4⟩ := HP1.out (by rw [HE.out]; decide)
                rw [HE.out] at e4
                subst e1 e2 e3 e4
                obtain ⟨x0, x1, x2, x3, y0, y1, y2, y3⟩ := cells4 HRX9.out
                go_wp2
                obtain ⟨W', hW', f1, f2, f3, f4, f5, f6⟩ := set4 (W := w3) (g := w.heap.size) (.slice none 0 0) (.int .i64 0) (.int .i64 0) (.bool false) HRX9.out
                rw [← hW']
                exact bodyPost_ret (res44 _ f1 _ rfl rfl) rfl ⟨_, rfl, Or.inl ⟨rfl, rfl⟩, below_set4 H9.out (Nat.le_refl _) f2 f3 f4 f5 f6⟩
              | true =>
                have he : trE l m R = 0 := trE_ok HZS.out (by rw [d1, d2]; rfl)
                obtain ⟨hl9, hn9, hsm9⟩ := smpE_ok HZS.out
                have hm9 := inR_true.1 d1
                have hR9 := inR_true.1 d2
                obtain ⟨e1, e2, e3, e4⟩ := HP2.out he
                rw [← HNN.out] at e1 e2 e3 hsm9
                obtain ⟨Q, rfl⟩ := Int.eq_ofNat_of_zero_le (a := R) (by omega)
                have D1 := Lib.hid d1
                have D2 := Lib.hid d2
                have HSMP := Lib.hid hsm9
                have HMM := Lib.hid hm9
                have HPP := Lib.hid (show PN = n ∧ PS = (trainS n m l Q).1 ∧ PD = (trainS n m l Q).2 ∧ PE = 0 from ⟨e1, e2, e3, e4⟩)
                have hl10 := hl9.2
                have hR10 := hR9.2
                rw [← HN.out] at hl10
                clear he d1 d2 e1 e2 e3 e4 hl9 hn9 hsm9 hm9 hR9 HP1 HP2
                have hmk := make_row n (by omega)
                go_upto_region 20 with (go_at_call 54; refine (rwithin_any _ _ _ _).mono ?_; rintro e w' ⟨rfl, rfl⟩; first | rw [D1.out] | rw [D2.out])
                go_wp2
                have hbW : Below w3.heap.size w3 ((w3.alloc (.cells (rowC n fun x => 0).toArray 3)).alloc (.cells #[.slice (some ⟨w3.heap.size, 0, none⟩) n n, .int .i64 0, .int .i64 0, .bool false] 79)) := ((Below.refl _ _).alloc (Nat.le_refl _) _).alloc (by simp) _
                have hTW : ((w3.alloc (.cells (rowC n fun x => 0).toArray 3)).alloc (.cells #[.slice (some ⟨w3.heap.size, 0, none⟩) n n, .int .i64 0, .int .i64 0, .bool false] 79)).heap[w3.heap.size + 1]? = some (.cells #[.slice (some ⟨w3.heap.size, 0, none⟩) n n, .int .i64 0, .int .i64 0, .bool false] 79) := alloc_new_at _ _ _ (by simp)
                have hgW : ((w3.alloc (.cells (rowC n fun x => 0).toArray 3)).alloc (.cells #[.slice (some ⟨w3.heap.size, 0, none⟩) n n, .int .i64 0, .int .i64 0, .bool false] 79)).heap[w3.heap.size]? = some (.cells (rowC n fun x => 0).toArray 3) := (Below.heap_alloc _ _ _ (by simp)).trans (alloc_new_at _ _ _ rfl)
                have HT4 := Lib.hid (show RtAt _ (w3.heap.size + 1) w3.heap.size n (trainS n m l 0).1 false from ⟨hTW, hgW⟩)
                have HB4 := Lib.hid hbW
                have HZZ := Lib.hid (lt_of_block HRX9.out)
                clear hbW hTW hgW hmk
                generalize (w3.alloc (.cells (rowC n fun x => 0).toArray 3)).alloc (.cells #[.slice (some ⟨w3.heap.size, 0, none⟩) n n, .int .i64 0, .int .i64 0, .bool false] 79) = W4 at *
                obtain ⟨T, hT⟩ : ∃ T, w3.heap.size + 1 = T := ⟨_, rfl⟩
                obtain ⟨g, hg⟩ : ∃ g, w3.heap.size = g := ⟨_, rfl⟩
                have HTg := Lib.hid (show w3.heap.size ≤ T ∧ w3.heap.size ≤ g ∧ T ≠ g ∧ w.heap.size < T ∧ w.heap.size < g by have := HZZ.out; omega)
                have HTR := Lib.hid (fun r => trainS_ok (m := m) HSMP.out r)
                rw [hT] at HT4 ⊢
                rw [hg] at HT4 ⊢
                clear hT hg
                go_loopw [12] (fun s12 wr => ∃ k : Nat, k ≤ Q ∧ s12 = .int .i64 k ∧ RtAt wr T g n (trainS n m l k).1 (trainS n m l k).2 ∧ Below w3.heap.size w3 wr) (fun s12 _ => Q - (intOf s12).toNat)
                case atStart => exact ⟨0, Nat.zero_le _, rfl, HT4.out, HB4.out⟩
                case round =>
                  obtain ⟨k, hk, rfl, hT, hb⟩ := hrel
                  have HB := Lib.hid hb
                  have hi0 : (0 : Int) ≤ (k : Int) := Int.natCast_nonneg _
                  obtain ⟨S, hS⟩ : ∃ S, S = (trainS n m l k).1 := ⟨_, rfl⟩
                  obtain ⟨Dn, hDn⟩ : ∃ d, d = (trainS n m l k).2 := ⟨_, rfl⟩
                  rw [← hS, ← hDn] at hT
                  have HTS := Lib.hid hT
                  have HSS := Lib.hid hS
                  have HDN := Lib.hid hDn
                  obtain ⟨t0, t1, t2, t3, z0, z1, z2, z3⟩ := hT.cells
                  by_cases hlt : k < Q
                  · have hi1 : (k : Int) < (Q : Int) := by omega
                    cases Dn with
                    | true =>
                      have HRX5 := Lib.hid ((hb.block _ HZZ.out).trans HRX9.out)
                      have hfin : PN = n ∧ PS = S ∧ PD = true ∧ PE = 0 := by
                        obtain ⟨e1, e2, e3, e4⟩ := HPP.out
                        have h2 := trainS_stop (n := n) (m := m) (l := l) (r := k) hDn.symm (Q - k)
                        rw [show k + (Q - k) = Q by omega] at h2
                        rw [h2, ← hS] at e2
                        rw [h2, ← hDn] at e3
                        exact ⟨e1, e2, e3, e4⟩
                      obtain ⟨rfl, rfl, rfl, rfl⟩ := hfin
                      clear hS hDn hT hb HPP
                      obtain ⟨x0, x1, x2, x3, y0, y1, y2, y3⟩ := cells4 HRX5.out
                      go_wp2
                      obtain ⟨W', hW', f1, f2, f3, f4, f5, f6⟩ := set4 (W := wr) (g := w.heap.size) (.slice (some ⟨g, 0, none⟩) PN PN) (.int .i64 PS.b) (.int .i64 (PS.u : Int)) (.bool true) HRX5.out
                      rw [← hW']
                      exact bodyPost_ret (res44 _ f1 _ rfl rfl) rfl ⟨_, rfl, RowAt.kat ((f2 g (by have := HTg.out; omega)).trans HTS.out.2), below_set4 (H9.out.trans (HB.out.mono H9.out.size)) (Nat.le_refl _) f2 f3 f4 f5 f6⟩
                    | false =>
                      have hok := HTR.out k
                      rw [← hS] at hok
                      have hu : S.u ≤ 255744 := Nat.le_trans hok.2 (Nat.le_trans (Nat.mul_le_mul (show k ≤ 999 by omega) (show l.length ≤ 256 by have := HN.out; omega)) (by omega))
                      have HOK := Lib.hid hok.1
                      have HU := Lib.hid hu
                      clear hS hDn hok hT hb hu
                      go_upto_region 25 with (fail)
                      go_wp2
                      clear t0 t1 t2 t3 z0 z1 z2 z3
                      generalize wr = wo at *
                      go_loopw [14] (fun s14 wr => ∃ j : Nat, j ≤ N ∧ s14 = .int .i64 j ∧ RtAt wr T g n (roundS n m (l.take j) S) false ∧ Below w3.heap.size w3 wr) (fun s14 _ => N - (intOf s14).toNat)
                      case atStart => exact ⟨0, Nat.zero_le _, rfl, HTS.out, HB.out⟩
                      case round =>
                        obtain ⟨j, hj, rfl, hT, hb⟩ := hrel
                        have HB5 := Lib.hid hb
                        have hj0 : (0 : Int) ≤ (j : Int) := Int.natCast_nonneg _
                        by_cases hlj : j < N
                        · have hj1 : (j : Int) < (N : Int) := by omega
                          obtain ⟨s, hs⟩ : ∃ s, l[j]? = some s := ⟨_, List.getElem?_eq_getElem (by rw [← HN.out]; exact hlj)⟩
                          have hsm := HSMP.out s (List.mem_of_getElem? hs)
                          obtain ⟨b', off', sa, c, hbb, hbl', p0, p1, hkx⟩ := HS9.out.at hs
                          cases hbb
                          have hnx := roundS_take (n := n) (m := m) (st := S) hs
                          have htb : TB (roundS n m (l.take j) S) := roundS_TB _ (fun t ht => HSMP.out t (List.mem_of_mem_take ht)) HOK.out
                          have hub : (roundS n m (l.take j) S).u ≤ 255999 := by
                            have h1 := (roundS_u n m S (l.take j)).2
                            rw [List.length_take] at h1
                            have h2 := HU.out
                            omega
                          obtain ⟨C, hC⟩ : ∃ C, C = roundS n m (l.take j) S := ⟨_, rfl⟩
                          rw [← hC] at hT hnx htb hub
                          rw [hsm.len] at p0 hkx
                          obtain ⟨X, Y⟩ := s
                          simp only at p0 p1 hkx
                          have hXL := hsm.len
                          simp only at hXL
                          have HXL := Lib.hid hXL
                          have HXR := Lib.hid (fun i => xg_rng hsm i)
                          have HFB := Lib.hid (show ∀ i, -256000000 ≤ C.f i ∧ C.f i ≤ 256000000 from fun i => by have := htb.f i; omega)
                          have hE : (m < sg Y * (C.b + dotF C.f (xg X) n) → learnS n m C ⟨X, Y⟩ = C) ∧ (¬ m < sg Y * (C.b + dotF C.f (xg X) n) → learnS n m C ⟨X, Y⟩ = ⟨fun i => C.f i + sg Y * xg X i, C.b + sg Y, C.u + 1⟩) := ⟨fun h => if_pos h, fun h => if_neg h⟩
                          rw [← hnx] at hE
                          have HE := Lib.hid hE
                          have HTB := Lib.hid htb
                          have HUB := Lib.hid hub
                          have P0 := Lib.hid p0
                          have P1 := Lib.hid p1
                          have HKX := Lib.hid hkx
                          have HBL := Lib.hid hbl'
                          have HTC := Lib.hid hT
                          obtain ⟨t0, t1, t2, t3, z0, z1, z2, z3⟩ := hT.cells
                          have q0 := (hb.cell (p := ⟨b, off + j * 2, none⟩) hbl').trans p0
                          have q1 := (hb.cell (p := ⟨b, off + j * 2 + 1, none⟩) hbl').trans p1
                          clear hs hsm hC hnx htb hub hXL hE hT hb p0 p1 hkx hbl'
                          cases Y with
                          | true =>
                            go_upto_region 32 with (fail)
                            go_wp2
                            clear t0 t1 t2 t3 z0 z1 z2 z3 q0 q1
                            generalize wr = wd at *
                            go_loopw [16, 17] (fun s16 s17 wr => ∃ i : Nat, i ≤ n ∧ s17 = .int .i64 i ∧ s16 = .int .i64 (C.b + dotF C.f (xg X) i) ∧ RtAt wr T g n C false ∧ Below w3.heap.size w3 wr) (fun _ s17 _ => n - (intOf s17).toNat)
                            case atStart => exact ⟨0, Nat.zero_le _, rfl, by simp [dotF], HTC.out, HB5.out⟩
                            case round =>
                              obtain ⟨i, hi, rfl, rfl, hT, hb⟩ := hrel
                              have HB6 := Lib.hid hb
                              have HT6 := Lib.hid hT
                              have hd := dotF_bound HFB.out HXR.out i
                              have hbb := HTB.out.b
                              have hub := HUB.out
                              have hi0' : (0 : Int) ≤ (i : Int) := Int.natCast_nonneg _
                              obtain ⟨t0, t1, t2, t3, z0, z1, z2, z3⟩ := hT.cells
                              have q0 := (hb.cell (p := ⟨b, off + j * 2, none⟩) HBL.out).trans P0.out
                              by_cases hli : i < n
                              · have hi1' : (i : Int) < (n : Int) := by omega
                                obtain ⟨z, hz⟩ : ∃ z, X[i]? = some z := ⟨_, List.getElem?_eq_getElem (by rw [HXL.out]; exact hli)⟩
                                obtain ⟨ad, rfl, hxb, hxc⟩ := HKX.out.at hz
                                have hcc := (hb.cell (p := ad.add i) hxb).trans hxc
                                obtain ⟨hc1, hc2⟩ := hT.2.cell hli
                                have hxz : xg X i = z := by unfold xg; rw [hz]; rfl
                                have hzr := HXR.out i
                                have hfr := HFB.out i
                                rw [hxz] at hzr
                                have hp := mul_bound hfr hzr (by omega) (by omega)
                                have hs : C.b + dotF C.f (xg X) (i + 1) = C.b + dotF C.f (xg X) i + C.f i * z := by simp only [dotF, hxz]; omega
                                obtain ⟨D, hD⟩ : ∃ D, D = C.b + dotF C.f (xg X) i := ⟨_, rfl⟩
                                have hdr : -10000000000000 ≤ D ∧ D ≤ 10000000000000 := by omega
                                rw [← hD] at hs ⊢
                                obtain ⟨F, hF⟩ : ∃ F, F = C.f i := ⟨_, rfl⟩
                                rw [← hF] at hs hp hc1 hfr
                                obtain ⟨Pp, hP⟩ : ∃ Pp, F * z = Pp := ⟨_, rfl⟩
                                rw [hP] at hp hs
                                have w1 : wrap64 Pp = Pp := by unfold wrap64; omega
                                have w2 : wrap64 (D + Pp) = D + Pp := by unfold wrap64; omega
                                have HS5 := Lib.hid hs
                                clear hz hb hT hi hs hxz hF hD hd hp hzr hfr hli hxb hxc hbb hub hdr
                                go_wp2
                                go_quiet (fail)
                                go_wp2
                                go_roundw
                                case rel => exact ⟨i + 1, by omega, by go_num, by rw [HS5.out, w2], HT6.out, below_drewN HB6.out _⟩
                                case measure => simp [intOf]; omega
                              · obtain rfl : n = i := by omega
                                have hE := HE.out
                                have hsg : sg true = 1 := rfl
                                rw [hsg] at hE
                                obtain ⟨D, hD⟩ : ∃ D, D = C.b + dotF C.f (xg X) n := ⟨_, rfl⟩
                                have hdr : -10000000000000 ≤ D ∧ D ≤ 10000000000000 := by omega
                                rw [← hD] at hE ⊢
                                have DX : (1 : Int) * D = D := by omega
                                rw [DX] at hE
                                have w1 : wrap64 (D) = D := by unfold wrap64; omega
                                clear hD hd hdr hli hi hT hb
                                by_cases hgo : m < D
                                · have zz : (m < D) = True := by simp [hgo]
                                  have HE2 := Lib.hid (hE.1 hgo)
                                  clear hE hgo hbb hub
                                  go_wp2
                                  go_roundw
                                  case rel => exact ⟨j + 1, by omega, by go_num, by rw [HE2.out]; exact HT6.out, HB6.out⟩
                                  case measure => simp [intOf]; omega
                                · have zz : (m < D) = False := by simp [hgo]
                                  have HE2 := Lib.hid (hE.2 (by omega))
                                  clear hE hgo hbb hub
                                  go_upto_region 38 with (fail)
                                  go_wp2
                                  clear t0 t1 t2 t3 z0 z1 z2 z3 q0 w1 DX zz
                                  generalize wr = we at *
                                  go_loopw [18] (fun s18 wr => ∃ i : Nat, i ≤ n ∧ s18 = .int .i64 i ∧ RtAt wr T g n ⟨mixF 1 X C i, C.b, C.u⟩ false ∧ Below w3.heap.size w3 wr) (fun s18 _ => n - (intOf s18).toNat)
                                  case atStart => exact ⟨0, Nat.zero_le _, rfl, ⟨HT6.out.1, HT6.out.2.congr fun i _ => by simp [mixF]⟩, HB6.out⟩
                                  case round =>
                                    obtain ⟨i, hi, rfl, hT, hb⟩ := hrel
                                    have HT7 := Lib.hid hT
                                    have HB7 := Lib.hid hb
                                    have hi0' : (0 : Int) ≤ (i : Int) := Int.natCast_nonneg _
                                    by_cases hli : i < n
                                    · have hi1' : (i : Int) < (n : Int) := by omega
                                      obtain ⟨z, hz⟩ : ∃ z, X[i]? = some z := ⟨_, List.getElem?_eq_getElem (by rw [HXL.out]; exact hli)⟩
                                      obtain ⟨ad, rfl, hxb, hxc⟩ := HKX.out.at hz
                                      have hcc := (hb.cell (p := ad.add i) hxb).trans hxc
                                      have q0 := (hb.cell (p := ⟨b, off + j * 2, none⟩) HBL.out).trans P0.out
                                      obtain ⟨hc1, hc2⟩ := (show RowAt wr g n (mixF 1 X C i) from hT.2).cell hli
                                      obtain ⟨t0, t1, t2, t3, z0, z1, z2, z3⟩ := cells4 (show wr.heap[T]? = some (.cells #[.slice (some ⟨g, 0, none⟩) n n, .int .i64 C.b, .int .i64 (C.u : Int), .bool false] 79) from hT.1)
                                      have hxz : xg X i = z := by unfold xg; rw [hz]; rfl
                                      have hzr := HXR.out i
                                      rw [hxz] at hzr
                                      have hfr := HTB.out.f i
                                      have hmk : mixF 1 X C i i = C.f i := by simp [mixF]
                                      rw [hmk] at hc1
                                      obtain ⟨F, hF⟩ : ∃ F, F = C.f i := ⟨_, rfl⟩
                                      rw [← hF] at hc1 hfr
                                      have HF := Lib.hid hF
                                      have HXZ := Lib.hid hxz
                                      have w1 : wrap64 (F + z) = F + z := by have := HUB.out; unfold wrap64; omega
                                      have w2 : wrap64 (z) = z := by unfold wrap64; omega
                                      clear hz hb hT hF hxz hmk hi hxb hxc hfr hzr
                                      go_upto_region 40 with (fail)
                                      go_still_tail 17, (by kernel_rfl)
                                      change wpList _ _ _ _ _ wr.drew
                                      have HT8 := Lib.hid (show RtAt wr.drew T g n ⟨mixF 1 X C i, C.b, C.u⟩ false from HT7.out)
                                      have HB8 := Lib.hid (show Below w3.heap.size w3 wr.drew from Below.drew HB7.out)
                                      have hc1 : wr.drew.cell? ⟨g, i, none⟩ = some (.int .i64 F) := hc1
                                      have hc2 : wr.drew.frozen? ⟨g, i, none⟩ = false := hc2
                                      clear t0 t1 t2 t3 z0 z1 z2 z3 q0 hcc
                                      generalize wr.drew = W8 at *
                                      go_wp2
                                      go_roundw
                                      case rel =>
                                        refine ⟨i + 1, by omega, by go_num, ⟨(setCell_ne HTg.out.2.2.1).trans HT8.out.1, ?_⟩, Below.setCell HB8.out (by have := HTg.out; simp; omega) _⟩
                                        refine (HT8.out.2.set hli _).congr fun q hq => ?_
                                        simp only [mixF]
                                        by_cases e : q = i
                                        · subst e; rw [if_pos rfl, if_pos (by omega), HF.out, HXZ.out]; omega
                                        · rw [if_neg e]
                                          by_cases h : q < i
                                          · rw [if_pos h, if_pos (by omega)]
                                          · rw [if_neg h, if_neg (by omega)]
                                      case measure => simp [intOf]; omega
                                    · obtain rfl : n = i := by omega
                                      obtain ⟨t0, t1, t2, t3, z0, z1, z2, z3⟩ := cells4 (show wr.heap[T]? = some (.cells #[.slice (some ⟨g, 0, none⟩) n n, .int .i64 C.b, .int .i64 (C.u : Int), .bool false] 79) from hT.1)
                                      have hbb := HTB.out.b
                                      have hub := HUB.out
                                      have w3' : wrap64 (C.b + 1) = C.b + 1 := by unfold wrap64; omega
                                      clear hli hi hT hb
                                      go_wp2
                                      go_roundw
                                      case rel =>
                                        refine ⟨j + 1, by omega, by go_num, ?_, Below.setCell (Below.setCell HB7.out (by have := HTg.out; simp; omega) _) (by have := HTg.out; simp; omega) _⟩
                                        rw [HE2.out]
                                        refine ⟨?_, ?_⟩
                                        · rw [setCell_T2 (setCell_T1 HT7.out.1)]
                                          congr 1
                                        · have e : ∀ W v o, RowAt W g n (mixF 1 X C n) → RowAt (World.setCell W ⟨T, o, none⟩ v) g n (mixF 1 X C n) := fun W v o h => (setCell_ne HTg.out.2.2.1.symm).trans h
                                          exact (e _ _ _ (e _ _ _ HT7.out.2)).congr fun q hq => by simp only [mixF, if_pos hq]
                                      case measure => simp [intOf]; omega
                          | false =>
                            go_upto_region 32 with (fail)
                            go_wp2
                            clear t0 t1 t2 t3 z0 z1 z2 z3 q0 q1
                            generalize wr = wd at *
                            go_loopw [16, 17] (fun s16 s17 wr => ∃ i : Nat, i ≤ n ∧ s17 = .int .i64 i ∧ s16 = .int .i64 (C.b + dotF C.f (xg X) i) ∧ RtAt wr T g n C false ∧ Below w3.heap.size w3 wr) (fun _ s17 _ => n - (intOf s17).toNat)
                            case atStart => exact ⟨0, Nat.zero_le _, rfl, by simp [dotF], HTC.out, HB5.out⟩
                            case round =>
                              obtain ⟨i, hi, rfl, rfl, hT, hb⟩ := hrel
                              have HB6 := Lib.hid hb
                              have HT6 := Lib.hid hT
                              have hd := dotF_bound HFB.out HXR.out i
                              have hbb := HTB.out.b
                              have hub := HUB.out
                              have hi0' : (0 : Int) ≤ (i : Int) := Int.natCast_nonneg _
                              obtain ⟨t0, t1, t2, t3, z0, z1, z2, z3⟩ := hT.cells
                              have q0 := (hb.cell (p := ⟨b, off + j * 2, none⟩) HBL.out).trans P0.out
                              by_cases hli : i < n
                              · have hi1' : (i : Int) < (n : Int) := by omega
                                obtain ⟨z, hz⟩ : ∃ z, X[i]? = some z := ⟨_, List.getElem?_eq_getElem (by rw [HXL.out]; exact hli)⟩
                                obtain ⟨ad, rfl, hxb, hxc⟩ := HKX.out.at hz
                                have hcc := (hb.cell (p := ad.add i) hxb).trans hxc
                                obtain ⟨hc1, hc2⟩ := hT.2.cell hli
                                have hxz : xg X i = z := by unfold xg; rw [hz]; rfl
                                have hzr := HXR.out i
                                have hfr := HFB.out i
                                rw [hxz] at hzr
                                have hp := mul_bound hfr hzr (by omega) (by omega)
                                have hs : C.b + dotF C.f (xg X) (i + 1) = C.b + dotF C.f (xg X) i + C.f i * z := by simp only [dotF, hxz]; omega
                                obtain ⟨D, hD⟩ : ∃ D, D = C.b + dotF C.f (xg X) i := ⟨_, rfl⟩
                                have hdr : -10000000000000 ≤ D ∧ D ≤ 10000000000000 := by omega
                                rw [← hD] at hs ⊢
                                obtain ⟨F, hF⟩ : ∃ F, F = C.f i := ⟨_, rfl⟩
                                rw [← hF] at hs hp hc1 hfr
                                obtain ⟨Pp, hP⟩ : ∃ Pp, F * z = Pp := ⟨_, rfl⟩
                                rw [hP] at hp hs
                                have w1 : wrap64 Pp = Pp := by unfold wrap64; omega
                                have w2 : wrap64 (D + Pp) = D + Pp := by unfold wrap64; omega
                                have HS5 := Lib.hid hs
                                clear hz hb hT hi hs hxz hF hD hd hp hzr hfr hli hxb hxc hbb hub hdr
                                go_wp2
                                go_quiet (fail)
                                go_wp2
                                go_roundw
                                case rel => exact ⟨i + 1, by omega, by go_num, by rw [HS5.out, w2], HT6.out, below_drewN HB6.out _⟩
                                case measure => simp [intOf]; omega
                              · obtain rfl : n = i := by omega
                                have hE := HE.out
                                have hsg : sg false = (-1) := rfl
                                rw [hsg] at hE
                                obtain ⟨D, hD⟩ : ∃ D, D = C.b + dotF C.f (xg X) n := ⟨_, rfl⟩
                                have hdr : -10000000000000 ≤ D ∧ D ≤ 10000000000000 := by omega
                                rw [← hD] at hE ⊢
                                have DX : ((-1) : Int) * D = -D := by omega
                                rw [DX] at hE
                                have w1 : wrap64 (-D) = -D := by unfold wrap64; omega
                                clear hD hd hdr hli hi hT hb
                                by_cases hgo : m < -D
                                · have zz : (m < -D) = True := by simp [hgo]
                                  have HE2 := Lib.hid (hE.1 hgo)
                                  clear hE hgo hbb hub
                                  go_wp2
                                  go_roundw
                                  case rel => exact ⟨j + 1, by omega, by go_num, by rw [HE2.out]; exact HT6.out, HB6.out⟩
                                  case measure => simp [intOf]; omega
                                · have zz : (m < -D) = False := by simp [hgo]
                                  have HE2 := Lib.hid (hE.2 (by omega))
                                  clear hE hgo hbb hub
                                  go_upto_region 38 with (fail)
                                  go_wp2
                                  clear t0 t1 t2 t3 z0 z1 z2 z3 q0 w1 DX zz
                                  generalize wr = we at *
                                  go_loopw [18] (fun s18 wr => ∃ i : Nat, i ≤ n ∧ s18 = .int .i64 i ∧ RtAt wr T g n ⟨mixF (-1) X C i, C.b, C.u⟩ false ∧ Below w3.heap.size w3 wr) (fun s18 _ => n - (intOf s18).toNat)
                                  case atStart => exact ⟨0, Nat.zero_le _, rfl, ⟨HT6.out.1, HT6.out.2.congr fun i _ => by simp [mixF]⟩, HB6.out⟩
                                  case round =>
                                    obtain ⟨i, hi, rfl, hT, hb⟩ := hrel
                                    have HT7 := Lib.hid hT
                                    have HB7 := Lib.hid hb
                                    have hi0' : (0 : Int) ≤ (i : Int) := Int.natCast_nonneg _
                                    by_cases hli : i < n
                                    · have hi1' : (i : Int) < (n : Int) := by omega
                                      obtain ⟨z, hz⟩ : ∃ z, X[i]? = some z := ⟨_, List.getElem?_eq_getElem (by rw [HXL.out]; exact hli)⟩
                                      obtain ⟨ad, rfl, hxb, hxc⟩ := HKX.out.at hz
                                      have hcc := (hb.cell (p := ad.add i) hxb).trans hxc
                                      have q0 := (hb.cell (p := ⟨b, off + j * 2, none⟩) HBL.out).trans P0.out
                                      obtain ⟨hc1, hc2⟩ := (show RowAt wr g n (mixF (-1) X C i) from hT.2).cell hli
                                      obtain ⟨t0, t1, t2, t3, z0, z1, z2, z3⟩ := cells4 (show wr.heap[T]? = some (.cells #[.slice (some ⟨g, 0, none⟩) n n, .int .i64 C.b, .int .i64 (C.u : Int), .bool false] 79) from hT.1)
                                      have hxz : xg X i = z := by unfold xg; rw [hz]; rfl
                                      have hzr := HXR.out i
                                      rw [hxz] at hzr
                                      have hfr := HTB.out.f i
                                      have hmk : mixF (-1) X C i i = C.f i := by simp [mixF]
                                      rw [hmk] at hc1
                                      obtain ⟨F, hF⟩ : ∃ F, F = C.f i := ⟨_, rfl⟩
                                      rw [← hF] at hc1 hfr
                                      have HF := Lib.hid hF
                                      have HXZ := Lib.hid hxz
                                      have w1 : wrap64 (F + -z) = F + -z := by have := HUB.out; unfold wrap64; omega
                                      have w2 : wrap64 (-z) = -z := by unfold wrap64; omega
                                      clear hz hb hT hF hxz hmk hi hxb hxc hfr hzr
                                      go_upto_region 40 with (fail)
                                      go_still_tail 17, (by kernel_rfl)
                                      change wpList _ _ _ _ _ wr.drew
                                      have HT8 := Lib.hid (show RtAt wr.drew T g n ⟨mixF (-1) X C i, C.b, C.u⟩ false from HT7.out)
                                      have HB8 := Lib.hid (show Below w3.heap.size w3 wr.drew from Below.drew HB7.out)
                                      have hc1 : wr.drew.cell? ⟨g, i, none⟩ = some (.int .i64 F) := hc1
                                      have hc2 : wr.drew.frozen? ⟨g, i, none⟩ = false := hc2
                                      clear t0 t1 t2 t3 z0 z1 z2 z3 q0 hcc
                                      generalize wr.drew = W8 at *
                                      go_wp2
                                      go_roundw
                                      case rel =>
                                        refine ⟨i + 1, by omega, by go_num, ⟨(setCell_ne HTg.out.2.2.1).trans HT8.out.1, ?_⟩, Below.setCell HB8.out (by have := HTg.out; simp; omega) _⟩
                                        refine (HT8.out.2.set hli _).congr fun q hq => ?_
                                        simp only [mixF]
                                        by_cases e : q = i
                                        · subst e; rw [if_pos rfl, if_pos (by omega), HF.out, HXZ.out]; omega
                                        · rw [if_neg e]
                                          by_cases h : q < i
                                          · rw [if_pos h, if_pos (by omega)]
                                          · rw [if_neg h, if_neg (by omega)]
                                      case measure => simp [intOf]; omega
                                    · obtain rfl : n = i := by omega
                                      obtain ⟨t0, t1, t2, t3, z0, z1, z2, z3⟩ := cells4 (show wr.heap[T]? = some (.cells #[.slice (some ⟨g, 0, none⟩) n n, .int .i64 C.b, .int .i64 (C.u : Int), .bool false] 79) from hT.1)
                                      have hbb := HTB.out.b
                                      have hub := HUB.out
                                      have w3' : wrap64 (C.b + (-1)) = C.b + (-1) := by unfold wrap64; omega
                                      clear hli hi hT hb
                                      go_wp2
                                      go_roundw
                                      case rel =>
                                        refine ⟨j + 1, by omega, by go_num, ?_, Below.setCell (Below.setCell HB7.out (by have := HTg.out; simp; omega) _) (by have := HTg.out; simp; omega) _⟩
                                        rw [HE2.out]
                                        refine ⟨?_, ?_⟩
                                        · rw [setCell_T2 (setCell_T1 HT7.out.1)]
                                          congr 1
                                        · have e : ∀ W v o, RowAt W g n (mixF (-1) X C n) → RowAt (World.setCell W ⟨T, o, none⟩ v) g n (mixF (-1) X C n) := fun W v o h => (setCell_ne HTg.out.2.2.1.symm).trans h
                                          exact (e _ _ _ (e _ _ _ HT7.out.2)).congr fun q hq => by simp only [mixF, if_pos hq]
                                      case measure => simp [intOf]; omega
                        · obtain rfl : N = j := by omega
                          rw [List.take_of_length_le (by rw [← HN.out]; exact Nat.le_refl _)] at hT
                          have hst := roundS_step (n := n) (m := m) (l := l) (r := k) HDN.out.symm
                          rw [← HSS.out] at hst
                          obtain ⟨S', hS'⟩ : ∃ S', S' = roundS n m l S := ⟨_, rfl⟩
                          rw [← hS'] at hT hst
                          obtain ⟨Bd, hBd⟩ : ∃ B, B = (S'.u == S.u) := ⟨_, rfl⟩
                          rw [← hBd] at hst
                          have g1 : ((S'.u : Int) == (S.u : Int)) = Bd := by rw [hBd, Bool.eq_iff_iff]; simp <;> omega
                          have HST := Lib.hid hst
                          have HT8 := Lib.hid hT
                          obtain ⟨t0, t1, t2, t3, z0, z1, z2, z3⟩ := hT.cells
                          clear hst hS' hBd hlj hj hb hT
                          go_wp2
                          go_roundw
                          case rel => exact ⟨k + 1, by omega, by go_num, by rw [HST.out]; exact ⟨setCell_T3 HT8.out.1, (setCell_ne HTg.out.2.2.1.symm).trans HT8.out.2⟩, Below.setCell HB5.out (by have := HTg.out; simp; omega) _⟩
                          case measure => simp [intOf]; omega
                  · obtain rfl : Q = k := by omega
                    have HRX5 := Lib.hid ((hb.block _ HZZ.out).trans HRX9.out)
                    obtain ⟨e1, e2, e3, e4⟩ := HPP.out
                    rw [← hS] at e2
                    rw [← hDn] at e3
                    subst e1 e2 e3 e4
                    clear hS hDn hT hb HPP hlt
                    obtain ⟨x0, x1, x2, x3, y0, y1, y2, y3⟩ := cells4 HRX5.out
                    go_wp2
                    obtain ⟨W', hW', f1, f2, f3, f4, f5, f6⟩ := set4 (W := wr) (g := w.heap.size) (.slice (some ⟨g, 0, none⟩) PN PN) (.int .i64 PS.b) (.int .i64 (PS.u : Int)) (.bool PD) HRX5.out
                    rw [← hW']
                    exact bodyPost_ret (res44 _ f1 _ rfl rfl) rfl ⟨_, rfl, RowAt.kat ((f2 g (by have := HTg.out; omega)).trans HTS.out.2), below_set4 (H9.out.trans (HB.out.mono H9.out.size)) (Nat.le_refl _) f2 f3 f4 f5 f6⟩
end Go.Proofs.YtjdcjcanmeangaaGreat
