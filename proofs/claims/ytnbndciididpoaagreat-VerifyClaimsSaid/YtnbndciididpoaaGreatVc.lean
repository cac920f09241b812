/- verify.Runs. Over this seat's program. (mk_Vc.py wrote this.) -/
import Derived.Test.YtnbndciididpoaaGreatVb
namespace Go.Proofs.YtnbndciididpoaaGreat
set_option linter.unusedVariables false
open Go.RowKit Go.Shelf

def RunsGot (l : List Evx) (j s : Int) (w0 : World) (e : Ending) (w' : World) : Prop := e = .returned (.tuple #[.int .i64 (runsR l j s).1, .int .i64 (runsR l j s).2]) ∧ Below w0.heap.size w0 w'
theorem runsGot {l : List Evx} {j s : Int} {w0 w' : World} (a b : Int) (h : runsR l j s = (a, b)) (hb : Below w0.heap.size w0 w') : RunsGot l j s w0 (.returned (.tuple #[.int .i64 a, .int .i64 b])) w' := by
  unfold RunsGot; rw [h]; exact ⟨rfl, hb⟩
theorem inR_nat {x : Int} {a b : Int} (h : inR x a b = true) (ha : 0 ≤ a) : ∃ n : Nat, x = n ∧ (n : Int) ≤ b := by
  simp [inR] at h
  exact ⟨x.toNat, by omega, by omega⟩
theorem all_take_succ {l : List Evx} {k : Nat} {x : Evx} (hx : l[k]? = some x) : ((l.take (k + 1)).all fun x => inR x.tk 0 9999) = (((l.take k).all fun x => inR x.tk 0 9999) && inR x.tk 0 9999) := by
  rw [List.take_add_one, hx]; simp
theorem all_of_take {l : List Evx} {k : Nat} (h : (l.all fun x => inR x.tk 0 9999) = true) : ((l.take k).all fun x => inR x.tk 0 9999) = true := by
  rw [List.all_eq_true] at *
  exact fun x hx => h x (List.mem_of_mem_take hx)
set_option maxRecDepth 100000 in
set_option maxHeartbeats 4000000 in
theorem vruns_any (j s : Int) (l : List Evx) (hl : l.length ≤ 70) (a : Option Addr) (cap : Nat) (w : World) (hT : EvxsAt w (.slice a l.length cap) l) :
    Calls Tryz.prog 32 #[.slice a l.length cap, .int .i64 j, .int .i64 s] w (RunsGot l j s w) := by
  obtain ⟨n, hn⟩ : ∃ n, n = l.length := ⟨_, rfl⟩
  rw [← hn] at hl hT ⊢
  have HT := Lib.hid hT
  have HN := Lib.hid hn
  clear hT hn
  by_cases hbig : 64 < n
  · have hR : runsR l j s = (0, 9) := by unfold runsR; rw [if_pos (by rw [← HN.out]; exact hbig)]
    have HR := Lib.hid hR
    have g1 : ((64 : Int) < (n : Int)) = True := by simp only [eq_iff_iff, iff_true]; omega
    clear hR
    go_enter Tryz.func32, Tryz.ntmps32
    go_wp2
    exact bodyPost_ret (v := .tuple #[.int .i64 0, .int .i64 9]) (by simp [results, Tryz.results32, go_sem]) rfl (runsGot _ _ HR.out (Below.refl _ _))
  have g1 : ((64 : Int) < (n : Int)) = False := by simp only [eq_iff_iff, iff_false]; omega
  cases hj : inR j 0 64 with
  | false =>
    have hR : runsR l j s = (0, 3) := by unfold runsR; rw [if_neg (by rw [← HN.out]; exact hbig), if_pos (by rw [hj]; rfl)]
    have HR := Lib.hid hR
    clear hR
    go_enter Tryz.func32, Tryz.ntmps32
    go_wp2_with (first | (go_at_call 72; refine (vamong_any _ _ _ _).mono ?_; rintro e w' ⟨rfl, rfl⟩; try rw [hj]))
    exact bodyPost_ret (v := .tuple #[.int .i64 0, .int .i64 3]) (by simp [results, Tryz.results32, go_sem]) rfl (runsGot _ _ HR.out (Below.refl _ _))
  | true =>
  cases hs : inR s 0 64 with
  | false =>
    have hR : runsR l j s = (0, 3) := by unfold runsR; rw [if_neg (by rw [← HN.out]; exact hbig), if_pos (by rw [hj, hs]; rfl)]
    have HR := Lib.hid hR
    clear hR
    go_enter Tryz.func32, Tryz.ntmps32
    go_wp2_with (first | (go_at_call 72; refine (vamong_any _ _ _ _).mono ?_; rintro e w' ⟨rfl, rfl⟩; first | rw [hj] | rw [hs]))
    exact bodyPost_ret (v := .tuple #[.int .i64 0, .int .i64 3]) (by simp [results, Tryz.results32, go_sem]) rfl (runsGot _ _ HR.out (Below.refl _ _))
  | true =>
  have hjs : (inR j 0 64 && inR s 0 64) = true := by rw [hj, hs]; rfl
  have HJS := Lib.hid hjs
  clear hjs
  have HBIG := Lib.hid hbig
  go_enter Tryz.func32, Tryz.ntmps32
  go_upto_region 6 with (first | (go_at_call 72; refine (vamong_any _ _ _ _).mono ?_; rintro e w' ⟨rfl, rfl⟩; first | rw [hj] | rw [hs]))
  clear g1
  obtain ⟨J, rfl, hJ⟩ := inR_nat hj (by omega)
  obtain ⟨S, rfl, hS⟩ := inR_nat hs (by omega)
  clear hj hs hbig
  go_loopw [24] (fun st wr => ∃ k : Nat, k ≤ n ∧ st = .int .i64 k ∧ Hid (((l.take k).all fun x => inR x.tk 0 9999) = true) ∧ Below w.heap.size w wr) (fun st _ => n - (intOf st).toNat)
  case atStart => exact ⟨0, Nat.zero_le _, rfl, Lib.hid (by simp), Below.refl _ _⟩
  case round =>
    obtain ⟨k, hk, rfl, HA, hb⟩ := hrel
    have HB := Lib.hid hb
    clear hb
    have hi0 : (0 : Int) ≤ (k : Int) := Int.natCast_nonneg _
    by_cases hlt : k < n
    · obtain ⟨x, hx⟩ : ∃ x, l[k]? = some x := ⟨_, List.getElem?_eq_getElem (by rw [← HN.out]; exact hlt)⟩
      have hi1 : (k : Int) < (n : Int) := by omega
      have HSN := Lib.hid (all_take_succ hx)
      have hnot : inR x.tk 0 9999 = false → (l.all fun x => inR x.tk 0 9999) = false := fun h => by
        rw [List.all_eq_false]; exact ⟨x, List.mem_of_getElem? hx, by simp [h]⟩
      obtain ⟨b, off, rfl, hbl, hcl⟩ := (HT.out.below HB.out).at hx
      obtain ⟨X, Y⟩ := x
      obtain ⟨u1, u2⟩ := hcl
      simp only at u1 u2 hnot
      go_upto_region 8 with (fail)
      have hbn := HB.out.alloc HB.out.size (.cells #[.int .i64 X, .int .i64 Y] 76)
      have htb : EBox (wr.alloc (.cells #[.int .i64 X, .int .i64 Y] 76)) wr.heap.size X Y := alloc_new_at _ _ _ rfl
      generalize wr.alloc (.cells #[.int .i64 X, .int .i64 Y] 76) = W5 at *
      have HBN := Lib.hid hbn
      obtain ⟨q0, q1, _, _⟩ := cells2 htb
      clear hbn htb u1 u2 hx
      cases hin : inR X 0 9999 with
      | false =>
        have hR : runsR l J S = (0, 3) := by unfold runsR; rw [if_neg (by rw [← HN.out]; exact HBIG.out), if_neg (by rw [HJS.out]; simp), if_pos (hnot hin)]
        have HR := Lib.hid hR
        clear hR hnot
        go_wp2_with (first | (go_at_call 76; refine (vexists_any _ _).mono ?_; rintro e w' ⟨rfl, rfl⟩; rw [hin]))
        exact bodyPost_ret (v := .tuple #[.int .i64 0, .int .i64 3]) (by simp [results, Tryz.results32, go_sem]) rfl (runsGot _ _ HR.out HBN.out)
      | true =>
        clear hnot
        go_upto_region 10 with (first | (go_at_call 76; refine (vexists_any _ _).mono ?_; rintro e w' ⟨rfl, rfl⟩; rw [hin]))
        clear q0 q1
        go_wp2
        go_roundw
        case rel => exact ⟨k + 1, by omega, by go_num, Lib.hid (by rw [HSN.out, HA.out]; exact hin), HBN.out⟩
        case measure => simp [intOf]; omega
    · have hal : (l.all fun x => inR x.tk 0 9999) = true := by
        have h1 := HA.out
        rw [show k = l.length from by have := HN.out; omega, List.take_length] at h1
        exact h1
      have hv : ∀ x ∈ l, 0 ≤ x.tk ∧ x.tk ≤ 9999 := fun x hx => by
        have := (List.all_eq_true.1 hal) x hx
        simpa [inR] using this
      have HC := Lib.hid (runsR_C l (J : Int) (S : Int) (by rw [← HN.out]; exact HBIG.out) HJS.out hal)
      have HV := Lib.hid hv
      have hn64 : n ≤ 64 := by have := HBIG.out; omega
      have HCA := Lib.hid (fun (W : World) (hT : EvxsAt W (.slice a n cap) l) => count_any J S (by omega) (by omega) l (by have := HN.out; omega) HV.out a cap W (by rw [← HN.out]; exact hT))
      obtain ⟨A, hA⟩ : ∃ A, A = sumTo (wayC J l) (S + 1) := ⟨_, rfl⟩
      have hA2 : A ≤ 65 * 20001 := by rw [hA]; exact Nat.le_trans (sumTo_bound (fun q => wayC_le _ _ q) _) (Nat.mul_le_mul_right _ (by omega))
      rw [← HN.out] at HCA
      rw [← hA] at HCA
      have hC2 := HC.out
      rw [Int.toNat_natCast, Int.toNat_natCast, ← hA] at hC2
      have HC2 := Lib.hid hC2
      clear hC2 hA hal hv HC
      have HTB := Lib.hid (HT.out.below HB.out)
      by_cases hbg : 20000 < A
      · have g2 : ((20000 : Int) < (A : Int)) = True := by simp only [eq_iff_iff, iff_true]; omega
        have hR : runsR l J S = (0, 9) := by rw [HC2.out, if_pos hbg]
        have HR := Lib.hid hR
        clear hR hbg HC2
        go_wp2_with (first | (go_at_call 77; refine (HCA.out _ HTB.out).mono ?_; rintro e w' ⟨rfl, hb2⟩; have HB2 := Lib.hid (HB.out.trans (hb2.mono HB.out.size)); clear hb2))
        exact bodyPost_ret (v := .tuple #[.int .i64 0, .int .i64 9]) (by simp [results, Tryz.results32, go_sem]) rfl (runsGot _ _ HR.out HB2.out)
      · have g2 : ((20000 : Int) < (A : Int)) = False := by simp only [eq_iff_iff, iff_false]; omega
        have hR : runsR l J S = ((A : Int), 0) := by rw [HC2.out, if_neg hbg]
        have HR := Lib.hid hR
        clear hR hbg HC2
        go_wp2_with (first | (go_at_call 77; refine (HCA.out _ HTB.out).mono ?_; rintro e w' ⟨rfl, hb2⟩; have HB2 := Lib.hid (HB.out.trans (hb2.mono HB.out.size)); clear hb2))
        exact bodyPost_ret (v := .tuple #[.int .i64 (A : Int), .int .i64 0]) (by simp [results, Tryz.results32, go_sem]) rfl (runsGot _ _ HR.out HB2.out)
end Go.Proofs.YtnbndciididpoaaGreat
