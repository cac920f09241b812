/- The specification's Runs. Over this seat's program. (mk_Vh.py wrote this.) -/
import Derived.Test.YtimjmofkofjcoaaGreatVg
namespace Go.Proofs.YtimjmofkofjcoaaGreat
set_option linter.unusedVariables false
open Go.RowKit Go.Shelf

theorem inR_f {x a b : Int} (h : ¬ (a ≤ x ∧ x ≤ b)) : inR x a b = false := by
  unfold inR; simp only [Bool.and_eq_false_iff, decide_eq_false_iff_not]; omega
theorem inR_t {x a b : Int} (h1 : a ≤ x) (h2 : x ≤ b) : inR x a b = true := by
  unfold inR; simp only [Bool.and_eq_true, decide_eq_true_eq]; exact ⟨h1, h2⟩
set_option maxRecDepth 100000 in
set_option maxHeartbeats 4000000 in
theorem rRuns_any (j s : Int) (l : List Evx) (hl : l.length ≤ 70) (a : Option Addr) (cap : Nat) (w : World) (hT : EvxsAt w (.slice a l.length cap) l) :
    Calls Tryz.prog 33 #[.slice a l.length cap, .int .i64 j, .int .i64 s] w (RunsGot l j s w) := by
  obtain ⟨n, hn⟩ : ∃ n, n = l.length := ⟨_, rfl⟩
  rw [← hn] at hl hT ⊢
  have HT := Lib.hid hT
  have HN := Lib.hid hn
  clear hT hn
  by_cases hbig : 64 < n
  · have hR : runsR l j s = (0, 9) := by unfold runsR; rw [if_pos (by rw [← HN.out]; exact hbig)]
    have HR := Lib.hid hR
    have g1 : ((64 : Int) < (n : Int)) = True := by simp only [eq_iff_iff, iff_true]; omega
    clear hR
    go_enter Tryz.func33, Tryz.ntmps33
    go_wp2
    exact bodyPost_ret (v := .tuple #[.int .i64 0, .int .i64 9]) (by simp [results, Tryz.results33, go_sem]) rfl (runsGot _ _ HR.out (Below.refl _ _))
  have g1 : ((64 : Int) < (n : Int)) = False := by simp only [eq_iff_iff, iff_false]; omega
  have bad : (inR j 0 64 && inR s 0 64) = false → runsR l j s = (0, 3) := fun h => by unfold runsR; rw [if_neg (by rw [← HN.out]; exact hbig), if_pos h]
  have BAD := Lib.hid bad
  clear bad
  by_cases j0 : j < 0
  · have HR := Lib.hid (BAD.out (by rw [inR_f (by omega)]; rfl))
    have e1 : (j < 0) = True := by simp only [eq_iff_iff, iff_true]; exact j0
    go_enter Tryz.func33, Tryz.ntmps33
    go_wp2
    exact bodyPost_ret (v := .tuple #[.int .i64 0, .int .i64 3]) (by simp [results, Tryz.results33, go_sem]) rfl (runsGot _ _ HR.out (Below.refl _ _))
  by_cases j1 : 64 < j
  · have HR := Lib.hid (BAD.out (by rw [inR_f (by omega)]; rfl))
    have e1 : (j < 0) = False := by simp only [eq_iff_iff, iff_false]; exact j0
    have e2 : (64 < j) = True := by simp only [eq_iff_iff, iff_true]; exact j1
    go_enter Tryz.func33, Tryz.ntmps33
    go_wp2
    exact bodyPost_ret (v := .tuple #[.int .i64 0, .int .i64 3]) (by simp [results, Tryz.results33, go_sem]) rfl (runsGot _ _ HR.out (Below.refl _ _))
  have e1 : (j < 0) = False := by simp only [eq_iff_iff, iff_false]; exact j0
  have e2 : (64 < j) = False := by simp only [eq_iff_iff, iff_false]; exact j1
  by_cases s0 : s < 0
  · have HR := Lib.hid (BAD.out (by rw [inR_f (x := s) (by omega), Bool.and_false]))
    have e3 : (s < 0) = True := by simp only [eq_iff_iff, iff_true]; exact s0
    go_enter Tryz.func33, Tryz.ntmps33
    go_wp2
    exact bodyPost_ret (v := .tuple #[.int .i64 0, .int .i64 3]) (by simp [results, Tryz.results33, go_sem]) rfl (runsGot _ _ HR.out (Below.refl _ _))
  by_cases s1 : 64 < s
  · have HR := Lib.hid (BAD.out (by rw [inR_f (x := s) (by omega), Bool.and_false]))
    have e3 : (s < 0) = False := by simp only [eq_iff_iff, iff_false]; exact s0
    have e4 : (64 < s) = True := by simp only [eq_iff_iff, iff_true]; exact s1
    go_enter Tryz.func33, Tryz.ntmps33
    go_wp2
    exact bodyPost_ret (v := .tuple #[.int .i64 0, .int .i64 3]) (by simp [results, Tryz.results33, go_sem]) rfl (runsGot _ _ HR.out (Below.refl _ _))
  have e3 : (s < 0) = False := by simp only [eq_iff_iff, iff_false]; exact s0
  have e4 : (64 < s) = False := by simp only [eq_iff_iff, iff_false]; exact s1
  have HJS := Lib.hid (show (inR j 0 64 && inR s 0 64) = true from by rw [inR_t (x := j) (by omega) (by omega), inR_t (x := s) (by omega) (by omega)]; rfl)
  have HBIG := Lib.hid hbig
  go_enter Tryz.func33, Tryz.ntmps33
  go_upto_region 6 with (fail)
  clear g1 e1 e2 e3 e4
  obtain ⟨J, rfl⟩ : ∃ J : Nat, j = J := ⟨j.toNat, by omega⟩
  obtain ⟨S, rfl⟩ : ∃ S : Nat, s = S := ⟨s.toNat, by omega⟩
  have hJ : J ≤ 64 := by omega
  have hS : S ≤ 64 := by omega
  clear j0 j1 s0 s1 hbig BAD
  go_loopw [8] (fun st wr => ∃ k : Nat, k ≤ n ∧ st = .int .i64 k ∧ Hid (((l.take k).all fun x => inR x.tk 0 9999) = true) ∧ Below w.heap.size w wr) (fun st _ => n - (intOf st).toNat)
  case atStart => exact ⟨0, Nat.zero_le _, rfl, Lib.hid (by simp), Below.refl _ _⟩
  case round =>
    obtain ⟨k, hk, rfl, HA, hb⟩ := hrel
    have HB := Lib.hid hb
    clear hb
    have hi0 : (0 : Int) ≤ (k : Int) := Int.natCast_nonneg _
    by_cases hlt : k < n
    · obtain ⟨x, hx⟩ : ∃ x, l[k]? = some x := ⟨_, List.getElem?_eq_getElem (by rw [← HN.out]; exact hlt)⟩
      have hi1 : (k : Int) < (n : Int) := by omega
      have HSN := Lib.hid (all_take_succ hx)
      have hnot : inR x.tk 0 9999 = false → (l.all fun x => inR x.tk 0 9999) = false := fun h => by
        rw [List.all_eq_false]; exact ⟨x, List.mem_of_getElem? hx, by simp [h]⟩
      have hbad : inR x.tk 0 9999 = false → runsR l J S = (0, 3) := fun h => by unfold runsR; rw [if_neg (by rw [← HN.out]; exact HBIG.out), if_neg (by rw [HJS.out]; simp), if_pos (hnot h)]
      obtain ⟨b, off, rfl, hbl, hcl⟩ := (HT.out.below HB.out).at hx
      obtain ⟨X, Y⟩ := x
      obtain ⟨u1, u2⟩ := hcl
      simp only at u1 u2 hbad
      have BAD := Lib.hid hbad
      clear hx hnot hbad u2
      by_cases x0 : X < 0
      · have HR := Lib.hid (BAD.out (inR_f (by omega)))
        have e1 : (X < 0) = True := by simp only [eq_iff_iff, iff_true]; exact x0
        go_wp2
        exact bodyPost_ret (v := .tuple #[.int .i64 0, .int .i64 3]) (by simp [results, Tryz.results33, go_sem]) rfl (runsGot _ _ HR.out HB.out)
      have e1 : (X < 0) = False := by simp only [eq_iff_iff, iff_false]; exact x0
      by_cases x1 : 10000 ≤ X
      · have HR := Lib.hid (BAD.out (inR_f (by omega)))
        have e2 : (10000 ≤ X) = True := by simp only [eq_iff_iff, iff_true]; exact x1
        go_wp2
        exact bodyPost_ret (v := .tuple #[.int .i64 0, .int .i64 3]) (by simp [results, Tryz.results33, go_sem]) rfl (runsGot _ _ HR.out HB.out)
      have e2 : (10000 ≤ X) = False := by simp only [eq_iff_iff, iff_false]; exact x1
      have HIN := Lib.hid (inR_t (x := X) (a := 0) (b := 9999) (by omega) (by omega))
      clear BAD
      go_wp2
      go_roundw
      case rel => exact ⟨k + 1, by omega, by go_num, Lib.hid (by rw [HSN.out, HA.out, HIN.out]; rfl), HB.out⟩
      case measure => simp [intOf]; omega
    · have hal : (l.all fun x => inR x.tk 0 9999) = true := by
        have h1 := HA.out
        rw [show k = l.length from by have := HN.out; omega, List.take_length] at h1
        exact h1
      have hv : ∀ x ∈ l, 0 ≤ x.tk ∧ x.tk ≤ 9999 := fun x hx => by
        have := (List.all_eq_true.1 hal) x hx
        simpa [inR] using this
      have hn64 : n ≤ 64 := by have := HBIG.out; omega
      have hT2 := HT.out.below HB.out
      rw [HN.out] at hT2
      have HC := rruns_any J S hJ hS l (by have := HN.out; omega) hv a cap wr hT2
      rw [← HN.out] at HC
      have HC := Lib.hid HC
      have hG : ∀ L, StgR J S l l.length L → runsR l J S = if 20000 < L.length then (0, 9) else ((L.length : Int), 0) := fun L h => by
        have e : runsR l J S = if 20000 < sumTo (wayG J l) (S + 1) then ((0 : Int), (9 : Int)) else (((sumTo (wayG J l) (S + 1) : Nat) : Int), (0 : Int)) := by
          unfold runsR
          rw [if_neg (by rw [← HN.out]; exact HBIG.out), if_neg (by rw [HJS.out]; simp), if_neg (by rw [hal]; simp), Int.toNat_natCast, Int.toNat_natCast]
        rw [e, ← runE_len J S l hv]
        have hi := h.is
        rw [List.take_length] at hi
        rcases hi with rfl | ⟨h1, h2⟩
        · rfl
        · rw [if_pos h1, if_pos h2]
      have HG := Lib.hid hG
      clear hG hal hv hT2
      go_wp2_with (fail)
      go_at_call 78
      refine HC.out.mono ?_
      rintro e w2 ⟨sv, cp, L, rfl, hst, hb2⟩
      have HR0 := Lib.hid (HG.out L (by rw [← HN.out]; exact hst))
      have HB2 := Lib.hid (HB.out.trans (hb2.mono HB.out.size))
      have hLl := hst.len
      obtain ⟨A, hA⟩ : ∃ A, A = L.length := ⟨_, rfl⟩
      rw [← hA] at HR0 hLl ⊢
      have hA0 : (0 : Int) ≤ (A : Int) := Int.natCast_nonneg _
      clear hst hb2 hA
      by_cases hbg : 20000 < A
      · have g2 : ((20000 : Int) < (A : Int)) = True := by simp only [eq_iff_iff, iff_true]; omega
        have HR := Lib.hid (show runsR l J S = (0, 9) from by rw [HR0.out, if_pos hbg])
        clear hbg HR0
        go_wp2
        exact bodyPost_ret (v := .tuple #[.int .i64 0, .int .i64 9]) (by simp [results, Tryz.results33, go_sem]) rfl (runsGot _ _ HR.out HB2.out)
      · have g2 : ((20000 : Int) < (A : Int)) = False := by simp only [eq_iff_iff, iff_false]; omega
        have HR := Lib.hid (show runsR l J S = ((A : Int), 0) from by rw [HR0.out, if_neg hbg])
        clear hbg HR0
        go_wp2
        exact bodyPost_ret (v := .tuple #[.int .i64 (A : Int), .int .i64 0]) (by simp [results, Tryz.results33, go_sem]) rfl (runsGot _ _ HR.out HB2.out)
end Go.Proofs.YtimjmofkofjcoaaGreat
