/- The specification's Feel. Over this seat's program; the condition is named. (mk_Sh.py wrote this.) -/
import Derived.Test.YtbnjmpjodmlccaaSg
namespace Go.Proofs.Ytbnjmpjodmlccaa
set_option linter.unusedVariables false
open Go.RowKit Go.Shelf

/-- What the specification calls the states. -/
def rbS (s : Int) : Int := if s = 2 then 0 else if s = 1 then 1 else -1
set_option maxRecDepth 100000 in
set_option maxHeartbeats 4000000 in
theorem rfeel_any (T B : Int) (l : List Int) (hl : l.length ≤ 10000) (a : Option Addr) (cap : Nat) (w : World) (hk : KAt .i64 w (.slice a l.length cap) l) :
    Calls Try.prog 26 #[.agg #[.int .i64 T, .int .i64 B], .slice a l.length cap] w (EvGot (feL T B l) (feE T B l) w) := by
  obtain ⟨n, hn⟩ : ∃ n, n = l.length := ⟨_, rfl⟩
  have HK := Lib.hid hk
  have HN := Lib.hid hn
  rw [← hn] at hl HK ⊢
  obtain ⟨E, hE⟩ : ∃ E, E = feE T B l := ⟨_, rfl⟩
  obtain ⟨L, hL⟩ : ∃ L, L = feL T B l := ⟨_, rfl⟩
  have hLL : L = if E = 0 then whL T B l else [] := by rw [hL, hE]; rfl
  rw [← hE, ← hL]
  unfold feE at hE
  rw [← hn] at hE
  have HL := Lib.hid hLL
  have HE := Lib.hid hE
  clear hk hn hL hLL hE
  have b0 : Below w.heap.size w (w.alloc (.cells #[.int .i64 T, .int .i64 B] 45)) := (Below.refl _ _).alloc (Nat.le_refl _) _
  have x0 : (w.alloc (.cells #[.int .i64 T, .int .i64 B] 45)).heap[w.heap.size]? = some (.cells #[.int .i64 T, .int .i64 B] 45) := alloc_new_at _ _ _ rfl
  have HB0 := Lib.hid b0
  have HX0 := Lib.hid x0
  clear b0 x0
  cases h1 : inR T 1 1000 with
  | false =>
    have hE := HE.out
    simp [h1] at hE
    clear HE
    subst hE
    have hL := HL.out
    simp at hL
    subst hL
    go_enter Try.func26, Try.ntmps26
    go_wp2_with (go_at_call 55; refine (rwithin_any _ _ _ _).mono ?_; rintro e w1 ⟨rfl, rfl⟩; rw [h1])
    exact bodyPost_ret (v := .tuple #[.slice none 0 0, .int .i64 3]) (by simp [results, Try.results26, go_sem]) rfl (evGot_err HB0.out)
  | true =>
  cases h2 : inR B 0 T with
  | false =>
    have hE := HE.out
    simp [h1, h2] at hE
    clear HE
    subst hE
    have hL := HL.out
    simp at hL
    subst hL
    go_enter Try.func26, Try.ntmps26
    go_wp2_with (fail)
    go_at_call 55
    refine (rwithin_any _ _ _ _).mono ?_
    rintro e w1 ⟨rfl, rfl⟩
    rw [h1]
    go_wp2_with (fail)
    go_at_call 55
    refine (rwithin_any _ _ _ _).mono ?_
    rintro e w1 ⟨rfl, rfl⟩
    rw [h2]
    go_wp2
    exact bodyPost_ret (v := .tuple #[.slice none 0 0, .int .i64 3]) (by simp [results, Try.results26, go_sem]) rfl (evGot_err HB0.out)
  | true =>
  go_enter Try.func26, Try.ntmps26
  go_wp2_with (fail)
  go_at_call 55
  refine (rwithin_any _ _ _ _).mono ?_
  rintro e w1 ⟨rfl, rfl⟩
  rw [h1]
  go_wp2_with (fail)
  go_at_call 55
  refine (rwithin_any _ _ _ _).mono ?_
  rintro e w1 ⟨rfl, rfl⟩
  rw [h2]
  have HH1 := Lib.hid h1
  have HH2 := Lib.hid h2
  clear h1 h2
  generalize w.alloc (.cells #[.int .i64 T, .int .i64 B] 45) = W1 at *
  by_cases hbig : 4096 < n
  · have hE := HE.out
    simp [HH1.out, HH2.out, hbig] at hE
    clear HE
    subst hE
    have hL := HL.out
    simp at hL
    subst hL
    have g1 : ((4096 : Int) < (n : Int)) = True := by simp only [eq_iff_iff, iff_true]; omega
    go_wp2
    exact bodyPost_ret (v := .tuple #[.slice none 0 0, .int .i64 9]) (by simp [results, Try.results26, go_sem]) rfl (evGot_err HB0.out)
  have g1 : ((4096 : Int) < (n : Int)) = False := by simp only [eq_iff_iff, iff_false]; omega
  go_wp2
  clear g1
  go_loopw [6] (fun st wr => ∃ k : Nat, k ≤ n ∧ st = .int .i64 k ∧ Hid (((l.take k).all fun x => inR x (-1000) 1000) = true) ∧ W1 = wr) (fun st _ => n - (intOf st).toNat)
  case atStart => exact ⟨0, Nat.zero_le _, rfl, Lib.hid (by simp), rfl⟩
  case round =>
    obtain ⟨k, hk, rfl, HA, rfl⟩ := hrel
    have hi0 : (0 : Int) ≤ (k : Int) := Int.natCast_nonneg _
    by_cases hlt : k < n
    · obtain ⟨x, hx⟩ : ∃ x, l[k]? = some x := ⟨_, List.getElem?_eq_getElem (by rw [← HN.out]; exact hlt)⟩
      have hi1 : (k : Int) < (n : Int) := by omega
      have hsn : ((l.take (k + 1)).all fun x => inR x (-1000) 1000) = (((l.take k).all fun x => inR x (-1000) 1000) && inR x (-1000) 1000) := by rw [take_snoc_of hx]; simp
      have HSN := Lib.hid hsn
      have hnot : inR x (-1000) 1000 = false → (l.all fun x => inR x (-1000) 1000) = false := fun h => by
        rw [List.all_eq_false]; exact ⟨x, List.mem_of_getElem? hx, by simp [h]⟩
      have HNOT := Lib.hid hnot
      obtain ⟨b, off, rfl, hbl, hcl⟩ := (HK.out.below HB0.out).at hx
      clear hx hsn hnot
      cases hin : inR x (-1000) 1000 with
      | false =>
        have hE := HE.out
        simp [HH1.out, HH2.out, hbig, HNOT.out hin] at hE
        clear HE
        subst hE
        have hL := HL.out
        simp at hL
        subst hL
        go_wp2_with (go_at_call 55; refine (rwithin_any _ _ _ _).mono ?_; rintro e w1 ⟨rfl, rfl⟩; rw [hin])
        exact bodyPost_ret (v := .tuple #[.slice none 0 0, .int .i64 3]) (by simp [results, Try.results26, go_sem]) rfl (evGot_err HB0.out)
      | true =>
        go_wp2_with (fail)
        go_at_call 55
        refine (rwithin_any _ _ _ _).mono ?_
        rintro e w1 ⟨rfl, rfl⟩
        rw [hin]
        go_wp2
        go_roundw
        case rel => exact ⟨k + 1, by omega, by go_num, Lib.hid (by rw [HSN.out, HA.out, hin]; rfl), trivial⟩
        case measure => simp [intOf]; omega
    · have hal : (l.all fun x => inR x (-1000) 1000) = true := by
        have h1 := HA.out
        rw [show k = l.length from by have := HN.out; omega, List.take_length] at h1
        exact h1
      have hE := HE.out
      simp [HH1.out, HH2.out, hbig, hal] at hE
      clear HE
      subst hE
      have hL := HL.out
      simp at hL
      subst hL
      have hok : WhOk T B := by
        have k1 := inR_true.1 HH1.out
        have k2 := inR_true.1 HH2.out
        exact ⟨k1.1, k1.2, k2.1, k2.2⟩
      have HV := Lib.hid (show ∀ x ∈ l, -1000 ≤ x ∧ x ≤ 1000 from fun x hx => inR_true.1 (List.all_eq_true.1 hal x hx))
      have hkn : k = n := by omega
      have HBIG := Lib.hid hbig
      subst hkn
      obtain ⟨t0, t1, b0, b1⟩ := hok
      clear hal hlt hbig HA
      go_wp2
      go_loopw [7, 8, 9] (fun s7 s8 s9 wr => ∃ j : Nat, j ≤ k ∧ wr.ownsRow (w.heap.size + 1) 63 2 s7 (pieces (whE T B l) j).length (evxCs (pieces (whE T B l) j)) ∧ s8 = .int .i64 (rbS (whS T B (l.take j))) ∧ s9 = .int .i64 j ∧ wr.heap[w.heap.size]? = some (.cells #[.int .i64 T, .int .i64 B] 45) ∧ Below w.heap.size w wr) (fun _ _ s9 _ => k - (intOf s9).toNat)
      case atStart => exact ⟨0, Nat.zero_le _, World.ownsRow_nil _ _ _ _, rfl, rfl, HX0.out, HB0.out⟩
      case round =>
        obtain ⟨j, hj, ho, rfl, rfl, hbx, hb⟩ := hrel
        have HO := Lib.hid ho
        have HB := Lib.hid hb
        have HBX := Lib.hid hbx
        have hlw := lt_of_block hbx
        obtain ⟨c0, c1, _, _⟩ := cells2 hbx
        obtain ⟨va, vc, rfl⟩ := own_slC ho
        clear ho hb hbx
        have hj0 : (0 : Int) ≤ (j : Int) := Int.natCast_nonneg _
        by_cases hlj : j < k
        · obtain ⟨x, hx⟩ : ∃ x, l[j]? = some x := ⟨_, List.getElem?_eq_getElem (by rw [← HN.out]; exact hlj)⟩
          have hi1 : (j : Int) < (k : Int) := by omega
          obtain ⟨q0, q1⟩ := HV.out x (List.mem_of_getElem? hx)
          have hst := whS_in T B (l.take j)
          have HSE := Lib.hid (whS_at T B hx)
          have hpp := pieces_succ (whE T B l) j
          rw [whE_at T B hx] at hpp
          have hple := pieces_le (whE_le T B l) j
          have HPP := Lib.hid hpp
          obtain ⟨b, off, rfl, hbl, hcl⟩ := (HK.out.below HB.out).at hx
          clear hx hpp
          obtain ⟨s, hs⟩ : ∃ s, s = whS T B (l.take j) := ⟨_, rfl⟩
          rw [← hs] at hst HSE HPP ⊢
          obtain ⟨M, hM⟩ : ∃ M, M = pieces (whE T B l) j := ⟨_, rfl⟩
          rw [← hM] at HO HPP hple ⊢
          clear hs hM
          rcases hst with rfl | rfl | rfl
          · rw [show rbS 0 = -1 from rfl]
            by_cases c : -x < T - B
            · have g1 : (-x < T - B) = True := by simp only [eq_iff_iff, iff_true]; omega
              have hN : whN T B 0 x = 2 := by unfold whN; simp [-Int.not_le, -Int.not_lt]; try omega
              have hP := HPP.out
              rw [hN] at hP HSE
              simp at hP
              have HP := Lib.hid hP
              clear hP hN HPP
              clear c
              go_wp2_with (at_builtin; refine wpList_app_ev _ rfl _ _ rfl (w.heap.size + 1) M _ rfl (HO.out.alloc _) wr.heap.size (j : Int) 2 rfl (alloc_new_at _ _ _ rfl) (by omega) (by simp; omega) ?_; intro v' w9 hown' hb9; obtain ⟨va', vc', rfl⟩ := own_slC hown'; have HO9 := Lib.hid hown'; have HB9 := Lib.hid (((Below.refl (w.heap.size + 1) wr).alloc (by omega) _).trans hb9); clear hown' hb9)
              go_roundw
              case rel => exact ⟨j + 1, by omega, by have h9 := HO9.out; rw [List.length_append] at h9; rw [HP.out, List.length_append]; exact h9, by rw [HSE.out]; rfl, by go_num, (HB9.out.block _ (by omega)).trans HBX.out, HB.out.trans (HB9.out.mono (by omega))⟩
              case measure => simp [intOf]; omega
            · have g1 : (-x < T - B) = False := by simp only [eq_iff_iff, iff_false]; omega
              have hN : whN T B 0 x = 0 := by unfold whN; simp [-Int.not_le, -Int.not_lt]; try omega
              have hP := HPP.out
              rw [hN] at hP HSE
              simp at hP
              have HP := Lib.hid hP
              clear hP hN HPP
              clear c
              go_wp2
              go_roundw
              case rel => exact ⟨j + 1, by omega, by rw [HP.out]; exact HO.out, by rw [HSE.out]; rfl, by go_num, HBX.out, HB.out⟩
              case measure => simp [intOf]; omega
          · rw [show rbS 1 = 1 from rfl]
            by_cases c : x < T - B
            · have g1 : (x < T - B) = True := by simp only [eq_iff_iff, iff_true]; omega
              have hN : whN T B 1 x = 2 := by unfold whN; simp [-Int.not_le, -Int.not_lt]; try omega
              have hP := HPP.out
              rw [hN] at hP HSE
              simp at hP
              have HP := Lib.hid hP
              clear hP hN HPP
              clear c
              go_wp2_with (at_builtin; refine wpList_app_ev _ rfl _ _ rfl (w.heap.size + 1) M _ rfl (HO.out.alloc _) wr.heap.size (j : Int) 2 rfl (alloc_new_at _ _ _ rfl) (by omega) (by simp; omega) ?_; intro v' w9 hown' hb9; obtain ⟨va', vc', rfl⟩ := own_slC hown'; have HO9 := Lib.hid hown'; have HB9 := Lib.hid (((Below.refl (w.heap.size + 1) wr).alloc (by omega) _).trans hb9); clear hown' hb9)
              go_roundw
              case rel => exact ⟨j + 1, by omega, by have h9 := HO9.out; rw [List.length_append] at h9; rw [HP.out, List.length_append]; exact h9, by rw [HSE.out]; rfl, by go_num, (HB9.out.block _ (by omega)).trans HBX.out, HB.out.trans (HB9.out.mono (by omega))⟩
              case measure => simp [intOf]; omega
            · have g1 : (x < T - B) = False := by simp only [eq_iff_iff, iff_false]; omega
              have hN : whN T B 1 x = 1 := by unfold whN; simp [-Int.not_le, -Int.not_lt]; try omega
              have hP := HPP.out
              rw [hN] at hP HSE
              simp at hP
              have HP := Lib.hid hP
              clear hP hN HPP
              clear c
              go_wp2
              go_roundw
              case rel => exact ⟨j + 1, by omega, by rw [HP.out]; exact HO.out, by rw [HSE.out]; rfl, by go_num, HBX.out, HB.out⟩
              case measure => simp [intOf]; omega
          · rw [show rbS 2 = 0 from rfl]
            by_cases c : T ≤ x
            · have g1 : (T ≤ x) = True := by simp only [eq_iff_iff, iff_true]; omega
              have hN : whN T B 2 x = 1 := by unfold whN; simp [-Int.not_le, -Int.not_lt]; try omega
              have hP := HPP.out
              rw [hN] at hP HSE
              simp at hP
              have HP := Lib.hid hP
              clear hP hN HPP
              clear c
              go_wp2_with (at_builtin; refine wpList_app_ev _ rfl _ _ rfl (w.heap.size + 1) M _ rfl (HO.out.alloc _) wr.heap.size (j : Int) 1 rfl (alloc_new_at _ _ _ rfl) (by omega) (by simp; omega) ?_; intro v' w9 hown' hb9; obtain ⟨va', vc', rfl⟩ := own_slC hown'; have HO9 := Lib.hid hown'; have HB9 := Lib.hid (((Below.refl (w.heap.size + 1) wr).alloc (by omega) _).trans hb9); clear hown' hb9)
              go_roundw
              case rel => exact ⟨j + 1, by omega, by have h9 := HO9.out; rw [List.length_append] at h9; rw [HP.out, List.length_append]; exact h9, by rw [HSE.out]; rfl, by go_num, (HB9.out.block _ (by omega)).trans HBX.out, HB.out.trans (HB9.out.mono (by omega))⟩
              case measure => simp [intOf]; omega
            · have g1 : (T ≤ x) = False := by simp only [eq_iff_iff, iff_false]; omega
              by_cases c2 : x ≤ -T
              · have g2 : (x ≤ -T) = True := by simp only [eq_iff_iff, iff_true]; omega
                have hN : whN T B 2 x = 0 := by unfold whN; simp [-Int.not_le, -Int.not_lt]; try omega
                have hP := HPP.out
                rw [hN] at hP HSE
                simp at hP
                have HP := Lib.hid hP
                clear hP hN HPP
                clear c c2
                go_wp2_with (at_builtin; refine wpList_app_ev _ rfl _ _ rfl (w.heap.size + 1) M _ rfl (HO.out.alloc _) wr.heap.size (j : Int) 0 rfl (alloc_new_at _ _ _ rfl) (by omega) (by simp; omega) ?_; intro v' w9 hown' hb9; obtain ⟨va', vc', rfl⟩ := own_slC hown'; have HO9 := Lib.hid hown'; have HB9 := Lib.hid (((Below.refl (w.heap.size + 1) wr).alloc (by omega) _).trans hb9); clear hown' hb9)
                go_roundw
                case rel => exact ⟨j + 1, by omega, by have h9 := HO9.out; rw [List.length_append] at h9; rw [HP.out, List.length_append]; exact h9, by rw [HSE.out]; rfl, by go_num, (HB9.out.block _ (by omega)).trans HBX.out, HB.out.trans (HB9.out.mono (by omega))⟩
                case measure => simp [intOf]; omega
              · have g2 : (x ≤ -T) = False := by simp only [eq_iff_iff, iff_false]; omega
                have hN : whN T B 2 x = 2 := by unfold whN; simp [-Int.not_le, -Int.not_lt]; try omega
                have hP := HPP.out
                rw [hN] at hP HSE
                simp at hP
                have HP := Lib.hid hP
                clear hP hN HPP
                clear c c2
                go_wp2
                go_roundw
                case rel => exact ⟨j + 1, by omega, by rw [HP.out]; exact HO.out, by rw [HSE.out]; rfl, by go_num, HBX.out, HB.out⟩
                case measure => simp [intOf]; omega
        · have hjk : j = k := by omega
          subst hjk
          have HOF := Lib.hid (show wr.ownsRow (w.heap.size + 1) 63 2 (.slice va (pieces (whE T B l) j).length vc) (whL T B l).length (evxCs (whL T B l)) from by unfold whL; rw [← HN.out]; exact HO.out)
          clear c0 c1
          obtain ⟨m, hm⟩ : ∃ m, m = (pieces (whE T B l) j).length := ⟨_, rfl⟩
          rw [← hm] at HOF ⊢
          clear HO hm
          go_wp2
          exact bodyPost_ret (v := .tuple #[.slice va m vc, .int .i64 0]) (by simp [results, Try.results26, go_sem]) rfl ⟨_, rfl, evxAt_of_owns HOF.out, HB.out⟩
end Go.Proofs.Ytbnjmpjodmlccaa
