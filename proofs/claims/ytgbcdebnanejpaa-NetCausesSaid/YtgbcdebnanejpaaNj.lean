/- net.checkRun. -/
import Derived.Test.YtgbcdebnanejpaaNi
namespace Go.Proofs.Ytgbcdebnanejpaa
set_option linter.unusedVariables false
open Go.RowKit Go.Shelf

theorem cell_old_alloc' {W : World} {o : Obj} {b o' : Nat} (h : b < W.heap.size) : (W.alloc o).cell? ⟨b, o', none⟩ = W.cell? ⟨b, o', none⟩ := by
  unfold World.cell?; rw [Below.heap_alloc _ _ _ h]

set_option maxRecDepth 100000 in
set_option maxHeartbeats 4000000 in
theorem checkRun_loop (ps : List Prm) (inp : Int) (ss : List Syn) (l : List Evt) (a1 a2 a3 : Option Addr) (c1 c2 c3 : Nat) (ticks most : Int) (hi0 : 0 ≤ inp) (hi1 : inp ≤ 256) (ht : inR ticks 0 most = true) (hm1 : 1 ≤ most) (hm2 : most ≤ 1073741824) (hl : l.length ≤ 65536) (w : World)
    (hc : ∀ o, Calls Try.prog 19 #[.agg #[.slice a1 ps.length c1, .int .i64 inp, .slice a2 ss.length c2]] (w.alloc o) fun e w' => e = .returned (.int .i64 0) ∧ Below (w.alloc o).heap.size (w.alloc o) w')
    (he : EvsAt w (.slice a3 l.length c3) l) :
    Calls Try.prog 58 #[.agg #[.slice a1 ps.length c1, .int .i64 inp, .slice a2 ss.length c2], .slice a3 l.length c3, .int .i64 ticks, .int .i64 most] w fun e w' => e = .returned (.int .i64 (evsErr l inp most)) ∧ Below w.heap.size w w' := by
  obtain ⟨X, hX⟩ : ∃ X : Int, X = evsErr l inp most := ⟨_, rfl⟩
  rw [← hX]
  obtain ⟨n, hn⟩ : ∃ n, n = l.length := ⟨_, rfl⟩
  rw [← hn] at hl he ⊢
  have ha := fun W => namong_any ticks 0 most W
  rw [ht] at ha
  have g1 : ((65536 : Int) < (n : Int)) = False := by simp <;> omega
  have HC := Lib.hid hc
  have HE := Lib.hid he
  have HX := Lib.hid hX
  have HN := Lib.hid hn
  have HA := Lib.hid ha
  clear hc he hX hn ha ht
  go_enter Try.func58, Try.ntmps58
  go_wp2_with (first | (go_at_call 19; refine (HC.out _).mono ?_; rintro e w1 ⟨rfl, hb1⟩) | (go_at_call 55; refine (HA.out _).mono ?_; rintro e wq ⟨rfl, rfl⟩))
  have hbx : NetBox w1 w.heap.size (.slice a1 ps.length c1) inp (.slice a2 ss.length c2) := (hb1.block _ (by simp)).trans (alloc_new_at _ _ _ rfl)
  have hbl : Below w.heap.size w w1 := ((Below.refl _ _).alloc (Nat.le_refl _) _).trans (hb1.mono (by simp))
  have HB1 := Lib.hid hbx
  have HB2 := Lib.hid hbl
  clear hb1 hbx hbl
  go_loopw [26] (fun i wr => ∃ k : Nat, k ≤ n ∧ i = .int .i64 k ∧ Below w.heap.size w wr ∧ NetBox wr w.heap.size (.slice a1 ps.length c1) inp (.slice a2 ss.length c2) ∧ ∀ j, j < k → evErrAt l inp most j = 0) (fun i _ => n - (intOf i).toNat)
  case atStart => exact ⟨0, Nat.zero_le _, rfl, HB2.out, HB1.out, fun j h => by omega⟩
  case round =>
    obtain ⟨k, hk, rfl, hb, hbox, hgood⟩ := hrel
    have HB := Lib.hid hb
    have HBX := Lib.hid hbox
    have HG := Lib.hid hgood
    have hwl : w.heap.size < wr.heap.size := lt_of_block hbox
    obtain ⟨_, _, _⟩ := cells3 hbox
    clear hb hbox hgood
    by_cases hlt : k < n
    · obtain ⟨x, hx⟩ : ∃ x, l[k]? = some x := ⟨_, List.getElem?_eq_getElem (by rw [← HN.out]; exact hlt)⟩
      obtain ⟨b, off, rfl, hbl, hcc⟩ := HE.out.at hx
      obtain ⟨u1, u2⟩ := hcc.below HB.out hbl
      have hbr : b < wr.heap.size := Nat.lt_of_lt_of_le hbl HB.out.size
      obtain ⟨X1, X2⟩ := x
      simp only at u1 u2
      have hi2 : (0 : Int) ≤ (k : Int) := Int.natCast_nonneg _
      have hi3 : (k : Int) < (n : Int) := by omega
      have hev : evErrAt l inp most k = if inR X1 0 (most - 1) && inR X2 0 (inp - 1) then (if 0 < k ∧ evLt (l[k - 1]?.getD ⟨0, 0⟩) ⟨X1, X2⟩ = false then 2 else 0) else 3 := by
        unfold evErrAt; rw [hx]; rfl
      have ha1 := fun W => namong_any X1 0 (most - 1) W
      have ha2 := fun W => namong_any X2 0 (inp - 1) W
      generalize inR X1 0 (most - 1) = B1 at *
      generalize inR X2 0 (inp - 1) = B2 at *
      have HEV := Lib.hid hev
      have HX1 := Lib.hid hx
      have HA1 := Lib.hid ha1
      have HA2 := Lib.hid ha2
      clear hx hcc hev ha1 ha2
      cases B1 with
      | false =>
        have hf : X = 3 := by rw [HX.out, evsErr, firstNz_at HG.out (by rw [HEV.out]; simp) _ (by rw [← HN.out]; exact hlt), HEV.out]; simp
        have HF := Lib.hid hf
        clear hf
        go_wp2_with (go_at_call 55; with_reducible refine (HA1.out _).mono ?_; rintro e wq ⟨rfl, rfl⟩)
        go_ret
        exact ⟨ret_int HF.out.symm, HB.out.trans ((Below.refl _ _).alloc (by omega) _)⟩
      | true =>
        cases B2 with
        | false =>
          have hf : X = 3 := by rw [HX.out, evsErr, firstNz_at HG.out (by rw [HEV.out]; simp) _ (by rw [← HN.out]; exact hlt), HEV.out]; simp
          have HF := Lib.hid hf
          clear hf
          go_wp2_with (first | (go_at_call 55; with_reducible refine (HA1.out _).mono ?_; rintro e wq ⟨rfl, rfl⟩) | (go_at_call 55; with_reducible refine (HA2.out _).mono ?_; rintro e wq ⟨rfl, rfl⟩))
          go_ret
          exact ⟨ret_int HF.out.symm, HB.out.trans ((Below.refl _ _).alloc (by omega) _)⟩
        | true =>
          by_cases hk0 : k = 0
          · have hf : evErrAt l inp most k = 0 := by rw [HEV.out]; simp [hk0]
            have HF := Lib.hid hf
            clear hf
            subst hk0
            simp only [Nat.zero_mul, Nat.add_zero] at u1 u2
            have n0 : 0 < n := hlt
            have n1 : (0 : Int) < (n : Int) := by omega
            go_wp2_with (first | (go_at_call 55; with_reducible refine (HA1.out _).mono ?_; rintro e wq ⟨rfl, rfl⟩) | (go_at_call 55; with_reducible refine (HA2.out _).mono ?_; rintro e wq ⟨rfl, rfl⟩))
            go_quiet (fail)
            go_wp2
            go_roundw
            case rel =>
              refine ⟨1, by omega, rfl, ?_, ?_, fun j h => ?_⟩
              · first | exact HB.out.trans ((Below.refl _ _).alloc (by omega) _) | exact below_drewN (HB.out.trans ((Below.refl _ _).alloc (by omega) _)) _
              · first | exact (Below.heap_alloc _ _ _ (by omega)).trans HBX.out | exact HBX.out
              · obtain rfl : j = 0 := by omega
                exact HF.out
            case measure => simp [intOf]; omega
          · obtain ⟨y, hy⟩ : ∃ y, l[k - 1]? = some y := ⟨_, List.getElem?_eq_getElem (by rw [← HN.out]; omega)⟩
            obtain ⟨b2, off2, e2, hbl2, hcc2⟩ := HE.out.at hy
            cases e2
            obtain ⟨v1, v2⟩ := hcc2.below HB.out hbl
            obtain ⟨Y1, Y2⟩ := y
            simp only at v1 v2
            have hbf := fun W => before_any Y1 Y2 X1 X2 W
            have hev2 : evErrAt l inp most k = if evLt ⟨Y1, Y2⟩ ⟨X1, X2⟩ = false then 2 else 0 := by
              rw [HEV.out, hy]; simp; simp [Nat.pos_of_ne_zero hk0]
            generalize evLt ⟨Y1, Y2⟩ ⟨X1, X2⟩ = B3 at *
            have hk1 : (0 : Int) < (k : Int) := by omega
            have hk2 : 0 < k := by omega
            have hk3 : (1 : Int) ≤ (k : Int) := by omega
            have hk4 : (k : Int) - 1 < (n : Int) := by omega
            have hk5 : ((k : Int) - 1).toNat = k - 1 := by omega
            have hk6 : decide ((0 : Int) < (k : Int)) = true := by simp <;> omega
            have r1 := Lib.hid (IntWalk.i64_in ((k : Int) - 1) (by omega))
            have HBF := Lib.hid hbf
            have HEV2 := Lib.hid hev2
            have HNW := World.new_ne wr
            clear hbf hev2 hy hcc2 hk0 HNW
            cases B3 with
            | false =>
              have hf : X = 2 := by rw [HX.out, evsErr, firstNz_at HG.out (by rw [HEV2.out]; simp) _ (by rw [← HN.out]; exact hlt), HEV2.out]; simp
              have HF := Lib.hid hf
              clear hf
              go_wp2_with (first | (go_at_call 55; with_reducible refine (HA1.out _).mono ?_; rintro e wq ⟨rfl, rfl⟩) | (go_at_call 55; with_reducible refine (HA2.out _).mono ?_; rintro e wq ⟨rfl, rfl⟩))
              have hnb : (wr.alloc (.cells #[.int .i64 X1, .int .i64 X2] 85)).heap[wr.heap.size]? = some (.cells #[.int .i64 X1, .int .i64 X2] 85) := alloc_new_at _ _ _ rfl
              have hbb : Below w.heap.size w (wr.alloc (.cells #[.int .i64 X1, .int .i64 X2] 85)) := HB.out.trans ((Below.refl _ _).alloc (by omega) _)
              have hbx : NetBox (wr.alloc (.cells #[.int .i64 X1, .int .i64 X2] 85)) w.heap.size (.slice a1 ps.length c1) inp (.slice a2 ss.length c2) := (Below.heap_alloc _ _ _ (by omega)).trans HBX.out
              have hsz : (wr.alloc (.cells #[.int .i64 X1, .int .i64 X2] 85)).heap.size = wr.heap.size + 1 := by simp
              rw [← cell_old_alloc' (W := wr) (o := (.cells #[.int .i64 X1, .int .i64 X2] 85)) hbr] at v1 v2
              generalize wr.alloc (.cells #[.int .i64 X1, .int .i64 X2] 85) = W2 at *
              obtain ⟨_, _, _, _⟩ := cells2 hnb
              have hl1 : wr.heap.size < W2.heap.size := by omega
              have hl2 : b < W2.heap.size := by omega
              have HBB := Lib.hid hbb
              have HNB := Lib.hid hnb
              have HBX2 := Lib.hid hbx
              have HSZ := Lib.hid hsz
              clear hbb hnb hbx hsz
              have s1 := r1.out
              go_region_held3 (fun w' => w'.cell? ⟨b, off + (k - 1) * 2, none⟩ = some (.int .i64 Y1) ∧ w'.cell? ⟨b, off + (k - 1) * 2 + 1, none⟩ = some (.int .i64 Y2) ∧ w'.cell? ⟨wr.heap.size, 0, none⟩ = some (.int .i64 X1) ∧ w'.cell? ⟨wr.heap.size, 1, none⟩ = some (.int .i64 X2)) (first | (go_keep; done) | (refine ⟨?_, ?_, ?_, ?_⟩ <;> (refine (Below.cell (by assumption) ?_).trans ?_ <;> first | (simp; omega) | (simp; done) | (go_keep; done)))) ((go_at_call 91; refine (HBF.out _).mono ?_; rintro e w6 ⟨rfl, hb6⟩))
              clear s1
              go_wp2
              go_ret
              refine ⟨ret_int HF.out.symm, ?_⟩
              (repeat (first | exact HBB.out | refine below_drewN ?_ _ | refine Below.drew ?_ | refine Below.trans ?_ (Below.mono (by assumption) ?_)))
              all_goals (first | omega | (simp; done) | (simp; omega))
            | true =>
              have hf : evErrAt l inp most k = 0 := by rw [HEV2.out]; simp
              have HF := Lib.hid hf
              clear hf
              go_wp2_with (first | (go_at_call 55; with_reducible refine (HA1.out _).mono ?_; rintro e wq ⟨rfl, rfl⟩) | (go_at_call 55; with_reducible refine (HA2.out _).mono ?_; rintro e wq ⟨rfl, rfl⟩))
              have hnb : (wr.alloc (.cells #[.int .i64 X1, .int .i64 X2] 85)).heap[wr.heap.size]? = some (.cells #[.int .i64 X1, .int .i64 X2] 85) := alloc_new_at _ _ _ rfl
              have hbb : Below w.heap.size w (wr.alloc (.cells #[.int .i64 X1, .int .i64 X2] 85)) := HB.out.trans ((Below.refl _ _).alloc (by omega) _)
              have hbx : NetBox (wr.alloc (.cells #[.int .i64 X1, .int .i64 X2] 85)) w.heap.size (.slice a1 ps.length c1) inp (.slice a2 ss.length c2) := (Below.heap_alloc _ _ _ (by omega)).trans HBX.out
              have hsz : (wr.alloc (.cells #[.int .i64 X1, .int .i64 X2] 85)).heap.size = wr.heap.size + 1 := by simp
              rw [← cell_old_alloc' (W := wr) (o := (.cells #[.int .i64 X1, .int .i64 X2] 85)) hbr] at v1 v2
              generalize wr.alloc (.cells #[.int .i64 X1, .int .i64 X2] 85) = W2 at *
              obtain ⟨_, _, _, _⟩ := cells2 hnb
              have hl1 : wr.heap.size < W2.heap.size := by omega
              have hl2 : b < W2.heap.size := by omega
              have HBB := Lib.hid hbb
              have HNB := Lib.hid hnb
              have HBX2 := Lib.hid hbx
              have HSZ := Lib.hid hsz
              clear hbb hnb hbx hsz
              have s1 := r1.out
              go_region_held3 (fun w' => w'.cell? ⟨b, off + (k - 1) * 2, none⟩ = some (.int .i64 Y1) ∧ w'.cell? ⟨b, off + (k - 1) * 2 + 1, none⟩ = some (.int .i64 Y2) ∧ w'.cell? ⟨wr.heap.size, 0, none⟩ = some (.int .i64 X1) ∧ w'.cell? ⟨wr.heap.size, 1, none⟩ = some (.int .i64 X2)) (first | (go_keep; done) | (refine ⟨?_, ?_, ?_, ?_⟩ <;> (refine (Below.cell (by assumption) ?_).trans ?_ <;> first | (simp; omega) | (simp; done) | (go_keep; done)))) ((go_at_call 91; refine (HBF.out _).mono ?_; rintro e w6 ⟨rfl, hb6⟩))
              clear s1
              go_wp2
              go_roundw
              case rel =>
                refine ⟨k + 1, by omega, by go_num, ?_, ?_, fun j h => ?_⟩
                · (repeat (first | exact HBB.out | refine below_drewN ?_ _ | refine Below.drew ?_ | refine Below.trans ?_ (Below.mono (by assumption) ?_)))
                  all_goals (first | omega | (simp; done) | (simp; omega))
                · exact (hb6.block _ (by simp; omega)).trans HBX2.out
                · by_cases e : j = k
                  · subst e; exact HF.out
                  · exact HG.out j (by omega)
              case measure => simp [intOf]; omega
    · have hkn : k = n := by omega
      have hf : X = 0 := by rw [HX.out, evsErr]; exact firstNz_zero _ fun j hj => HG.out j (by rw [← HN.out] at hj; omega)
      have HF := Lib.hid hf
      subst hkn
      clear hf hlt
      go_wp2
      go_ret
      exact ⟨ret_int HF.out.symm, HB.out⟩

set_option maxRecDepth 100000 in
set_option maxHeartbeats 2000000 in
theorem checkRun_early (n : NetM) (k : Nat) (a1 a2 a3 : Option Addr) (c1 c2 c3 : Nat) (ticks most E : Int) (hm2 : most ≤ 1073741824) (h : E ≠ 0 ∨ inR ticks 0 most = false ∨ 65536 < k) (w : World)
    (hc : ∀ o, Calls Try.prog 19 #[.agg #[.slice a1 n.ps.length c1, .int .i64 n.inp, .slice a2 n.ss.length c2]] (w.alloc o) fun e w' => e = .returned (.int .i64 E) ∧ Below (w.alloc o).heap.size (w.alloc o) w') :
    Calls Try.prog 58 #[.agg #[.slice a1 n.ps.length c1, .int .i64 n.inp, .slice a2 n.ss.length c2], .slice a3 k c3, .int .i64 ticks, .int .i64 most] w fun e w' => e = .returned (.int .i64 (if E ≠ 0 then E else if inR ticks 0 most = false then 3 else 9)) ∧ Below w.heap.size w w' := by
  have ha := fun W => namong_any ticks 0 most W
  have HC := Lib.hid hc
  clear hc
  by_cases h1 : E ≠ 0
  · rw [if_pos h1]
    have g1 : (E != 0) = true := by simp [h1]
    clear ha h h1
    go_enter Try.func58, Try.ntmps58
    go_wp2_with (go_at_call 19; refine (HC.out _).mono ?_; rintro e w1 ⟨rfl, hb1⟩)
    go_ret
    exact ⟨rfl, ((Below.refl _ _).alloc (Nat.le_refl _) _).trans (hb1.mono (by simp))⟩
  · rw [if_neg h1]
    have h1' : E = 0 := by omega
    subst h1'
    by_cases h2 : inR ticks 0 most = false
    · rw [if_pos h2]
      rw [h2] at ha
      have HA := Lib.hid ha
      clear ha h h1 h2
      go_enter Try.func58, Try.ntmps58
      go_wp2_with (first | (go_at_call 19; refine (HC.out _).mono ?_; rintro e w1 ⟨rfl, hb1⟩) | (go_at_call 55; refine (HA.out _).mono ?_; rintro e wq ⟨rfl, rfl⟩))
      go_ret
      exact ⟨rfl, ((Below.refl _ _).alloc (Nat.le_refl _) _).trans (hb1.mono (by simp))⟩
    · rw [if_neg h2]
      have h2' : inR ticks 0 most = true := by simpa using h2
      rw [h2'] at ha
      have HA := Lib.hid ha
      have g1 : ((65536 : Int) < (k : Int)) = True := by simp <;> (rcases h with h | h | h <;> first | exact absurd h h1 | exact absurd h h2 | omega)
      clear ha h h1 h2 h2'
      go_enter Try.func58, Try.ntmps58
      go_wp2_with (first | (go_at_call 19; refine (HC.out _).mono ?_; rintro e w1 ⟨rfl, hb1⟩) | (go_at_call 55; refine (HA.out _).mono ?_; rintro e wq ⟨rfl, rfl⟩))
      go_ret
      exact ⟨rfl, ((Below.refl _ _).alloc (Nat.le_refl _) _).trans (hb1.mono (by simp))⟩

theorem checkRun_any (n : NetM) (l : List Evt) (a1 a2 a3 : Option Addr) (c1 c2 c3 : Nat) (ticks most : Int) (hm1 : 1 ≤ most) (hm2 : most ≤ 1073741824) (w : World)
    (hp : PsAt w (.slice a1 n.ps.length c1) n.ps) (hs : SsAt w (.slice a2 n.ss.length c2) n.ss) (he : EvsAt w (.slice a3 l.length c3) l) :
    Calls Try.prog 58 #[.agg #[.slice a1 n.ps.length c1, .int .i64 n.inp, .slice a2 n.ss.length c2], .slice a3 l.length c3, .int .i64 ticks, .int .i64 most] w fun e w' => e = .returned (.int .i64 (checkRunM n l ticks most)) ∧ Below w.heap.size w w' := by
  have hc := fun o => ncheck_any n a1 a2 c1 c2 (w.alloc o) (hp.below ((Below.refl _ _).alloc (Nat.le_refl _) o)) (hs.below ((Below.refl _ _).alloc (Nat.le_refl _) o))
  by_cases h : ncheck n ≠ 0 ∨ inR ticks 0 most = false ∨ 65536 < l.length
  · refine (checkRun_early n l.length a1 a2 a3 c1 c2 c3 ticks most (ncheck n) hm2 h w hc).mono fun e w' ⟨h1, h2⟩ => ⟨?_, h2⟩
    rw [h1, checkRunM]
    by_cases q1 : ncheck n ≠ 0
    · rw [if_pos q1, if_pos q1]
    · rw [if_neg q1, if_neg q1]
      by_cases q2 : inR ticks 0 most = false
      · rw [if_pos q2, if_pos q2]
      · rw [if_neg q2, if_neg q2, if_pos (by rcases h with h | h | h <;> first | exact absurd h q1 | exact absurd h q2 | exact h)]
  · have h0 : ncheck n = 0 := by
      by_cases q : ncheck n = 0
      · exact q
      · exact absurd (Or.inl q) h
    have hok := netOk_of h0
    have ht : inR ticks 0 most = true := by
      by_cases q : inR ticks 0 most = true
      · exact q
      · exact absurd (Or.inr (Or.inl (by simpa using q))) h
    have hl : l.length ≤ 65536 := by
      by_cases q : 65536 < l.length
      · exact absurd (Or.inr (Or.inr q)) h
      · omega
    rw [h0] at hc
    refine (checkRun_loop n.ps n.inp n.ss l a1 a2 a3 c1 c2 c3 ticks most hok.i0 hok.i1 ht hm1 hm2 hl w hc he).mono fun e w' ⟨h1, h2⟩ => ⟨?_, h2⟩
    rw [h1, checkRunM, if_neg (by simp [h0]), if_neg (by simp [ht]), if_neg (by omega)]
end Go.Proofs.Ytgbcdebnanejpaa
