/- The specification's Source, Check. -/
import Derived.Test.YtnbndciididpoaaGreatNe
namespace Go.Proofs.YtnbndciididpoaaGreat
set_option linter.unusedVariables false
open Go.RowKit Go.Shelf

set_option maxHeartbeats 400000 in
theorem rsrc_any (a : Option Addr) (nn cap : Nat) (inp : Int) (ssv : Value) (x : Int) (h0 : 0 ≤ inp) (h1 : inp ≤ 256) (h2 : nn ≤ 1024) (w : World) :
    Calls Tryz.prog 104 #[.agg #[.slice a nn cap, .int .i64 inp, ssv], .int .i64 x] w fun e w' => e = .returned (.bool (srcOk nn inp x)) ∧ Below w.heap.size w w' := by
  by_cases hx : x < (nn : Int)
  · by_cases hy : -inp ≤ x
    · have e : srcOk nn inp x = true := by simp [srcOk, inR]; omega
      rw [e]
      have g1 : (x < (nn : Int)) = True := by simp [hx]
      have g2 : (-inp ≤ x) = True := by simp [hy]
      clear e hx hy
      go_enter Tryz.func104, Tryz.ntmps104
      go_wp2
      go_ret
      exact ⟨rfl, (Below.refl _ _).alloc (Nat.le_refl _) _⟩
    · have e : srcOk nn inp x = false := by simp [srcOk, inR]; omega
      rw [e]
      have g1 : (x < (nn : Int)) = True := by simp [hx]
      have g2 : (-inp ≤ x) = False := by simp; omega
      clear e hx hy
      go_enter Tryz.func104, Tryz.ntmps104
      go_wp2
      go_ret
      exact ⟨rfl, (Below.refl _ _).alloc (Nat.le_refl _) _⟩
  · have e : srcOk nn inp x = false := by simp [srcOk, inR]; omega
    rw [e]
    have g1 : (x < (nn : Int)) = False := by simp; omega
    clear e hx
    go_enter Tryz.func104, Tryz.ntmps104
    go_wp2
    go_ret
    exact ⟨rfl, (Below.refl _ _).alloc (Nat.le_refl _) _⟩

set_option maxRecDepth 100000 in
set_option maxHeartbeats 2000000 in
theorem rncheck_early (n : NetM) (a1 a2 : Option Addr) (c1 c2 : Nat) (h : n.ps.length = 0 ∨ 1024 < n.ps.length ∨ 256 < n.inp ∨ 8192 < n.ss.length ∨ n.inp < 0) (w : World) :
    Calls Tryz.prog 52 #[.agg #[.slice a1 n.ps.length c1, .int .i64 n.inp, .slice a2 n.ss.length c2]] w fun e w' => e = .returned (.int .i64 (ncheck n)) ∧ Below w.heap.size w w' := by
  obtain ⟨X, hX⟩ : ∃ X : Int, X = ncheck n := ⟨_, rfl⟩
  rw [← hX]
  unfold ncheck at hX
  obtain ⟨ps, inp, ss⟩ := n
  simp only at hX h ⊢
  generalize ps.length = k at *
  generalize ss.length = m at *
  by_cases h0 : k = 0
  · rw [if_pos h0] at hX
    subst hX h0
    clear h
    go_enter Tryz.func52, Tryz.ntmps52
    go_wp2
    go_ret
    exact ⟨rfl, (Below.refl _ _).alloc (Nat.le_refl _) _⟩
  · rw [if_neg h0] at hX
    have g0 : ((k : Int) == 0) = false := by simp; omega
    by_cases h1 : 1024 < k ∨ 256 < inp ∨ 8192 < m
    · rw [if_pos h1] at hX
      subst hX
      clear h
      by_cases h2 : 1024 < k
      · have g1 : ((1024 : Int) < (k : Int)) = True := by simp; omega
        clear h0 h1 h2
        go_enter Tryz.func52, Tryz.ntmps52
        go_wp2
        go_ret
        exact ⟨rfl, (Below.refl _ _).alloc (Nat.le_refl _) _⟩
      · have g1 : ((1024 : Int) < (k : Int)) = False := by simp; omega
        by_cases h3 : 256 < inp
        · have g2 : ((256 : Int) < inp) = True := by simp; omega
          clear h0 h1 h2 h3
          go_enter Tryz.func52, Tryz.ntmps52
          go_wp2
          go_ret
          exact ⟨rfl, (Below.refl _ _).alloc (Nat.le_refl _) _⟩
        · have g2 : ((256 : Int) < inp) = False := by simp; omega
          have g3 : ((8192 : Int) < (m : Int)) = True := by simp; omega
          clear h0 h1 h2 h3
          go_enter Tryz.func52, Tryz.ntmps52
          go_wp2
          go_ret
          exact ⟨rfl, (Below.refl _ _).alloc (Nat.le_refl _) _⟩
    · rw [if_neg h1, if_pos (by omega)] at hX
      subst hX
      have g1 : ((1024 : Int) < (k : Int)) = False := by simp; omega
      have g2 : ((256 : Int) < inp) = False := by simp; omega
      have g3 : ((8192 : Int) < (m : Int)) = False := by simp; omega
      have g4 : (inp < 0) = True := by simp; omega
      clear h0 h1 h
      go_enter Tryz.func52, Tryz.ntmps52
      go_wp2
      go_ret
      exact ⟨rfl, (Below.refl _ _).alloc (Nat.le_refl _) _⟩
set_option maxRecDepth 100000 in
set_option maxHeartbeats 4000000 in
theorem rncheck_rest (ps : List Prm) (inp : Int) (ss : List Syn) (a1 a2 : Option Addr) (c1 c2 : Nat) (h0 : 1 ≤ ps.length) (h1 : ps.length ≤ 1024) (h2 : 0 ≤ inp) (h3 : inp ≤ 256) (h4 : ss.length ≤ 8192) (w : World)
    (hp : PsAt w (.slice a1 ps.length c1) ps) (hs : SsAt w (.slice a2 ss.length c2) ss) :
    Calls Tryz.prog 52 #[.agg #[.slice a1 ps.length c1, .int .i64 inp, .slice a2 ss.length c2]] w fun e w' => e = .returned (.int .i64 (ncheck ⟨ps, inp, ss⟩)) ∧ Below w.heap.size w w' := by
  obtain ⟨X, hX⟩ : ∃ X : Int, X = ncheck ⟨ps, inp, ss⟩ := ⟨_, rfl⟩
  rw [← hX]
  unfold ncheck at hX
  simp only at hX
  rw [if_neg (by omega), if_neg (by omega), if_neg (by omega)] at hX
  obtain ⟨k, hk⟩ : ∃ k, k = ps.length := ⟨_, rfl⟩
  obtain ⟨m, hm⟩ : ∃ m, m = ss.length := ⟨_, rfl⟩
  rw [← hk] at hX h0 h1 hp ⊢
  rw [← hm] at h4 hs ⊢
  have g0 : ((k : Int) == 0) = false := by simp; omega
  have g1 : ((1024 : Int) < (k : Int)) = False := by simp; omega
  have g2 : ((256 : Int) < inp) = False := by simp; omega
  have g3 : ((8192 : Int) < (m : Int)) = False := by simp; omega
  have g4 : (inp < 0) = False := by simp; omega
  have HP := Lib.hid hp
  have HS := Lib.hid hs
  have HX := Lib.hid hX
  have HKK := Lib.hid hk
  have HMM := Lib.hid hm
  clear hp hs hX hk hm
  go_enter Tryz.func52, Tryz.ntmps52
  go_wp2
  go_loopw [3] (fun i wr => ∃ j : Nat, j ≤ k ∧ i = .int .i64 j ∧ Below w.heap.size w wr ∧ NetBox wr w.heap.size (.slice a1 k c1) inp (.slice a2 m c2) ∧ ∀ t q, t < j → ps[t]? = some q → checkP q = 0) (fun i _ => k - (intOf i).toNat)
  case atStart => exact ⟨0, Nat.zero_le _, rfl, (Below.refl _ _).alloc (Nat.le_refl _) _, alloc_new_at _ _ _ rfl, fun t q h => by omega⟩
  case round =>
    obtain ⟨j, hj, rfl, hb, hbox, hgood⟩ := hrel
    have HB := Lib.hid hb
    have HBX := Lib.hid hbox
    have HG := Lib.hid hgood
    obtain ⟨_, _, _⟩ := cells3 hbox
    clear hb hbox hgood
    by_cases hlt : j < k
    · obtain ⟨q, hq⟩ : ∃ q, ps[j]? = some q := ⟨_, List.getElem?_eq_getElem (by rw [← HKK.out]; exact hlt)⟩
      obtain ⟨b, off, rfl, hbl, hc⟩ := HP.out.at hq
      obtain ⟨_, _, _, _, _, _, _, _⟩ := hc.below HB.out hbl
      have hi0 : (0 : Int) ≤ (j : Int) := Int.natCast_nonneg _
      have hi1 : (j : Int) < (k : Int) := by omega
      have HQ := Lib.hid hq
      clear hq hc
      by_cases hgd : checkP q = 0
      · have gg : (checkP q != 0) = false := by simp [hgd]
        have HGD := Lib.hid hgd
        clear hgd
        go_wp2_with (go_at_call 103; refine (rcheck_any q _).mono ?_; rintro e w1 ⟨rfl, hb1⟩)
        have hl : w.heap.size < wr.heap.size := lt_of_block HBX.out
        go_roundw
        case rel =>
          refine ⟨j + 1, by omega, by go_num, ?_, ?_, fun t q' h1 h2 => ?_⟩
          · exact HB.out.trans (hb1.mono (by omega))
          · exact (hb1.block _ (by omega)).trans HBX.out
          · by_cases e : t = j
            · subst e; rw [HQ.out] at h2; cases h2; exact HGD.out
            · exact HG.out t q' (by omega) h2
        case measure => simp [intOf]; omega
      · have gg : (checkP q != 0) = true := by simp [hgd]
        have hfb : X = checkP q := by
          rw [HX.out, firstBad_at HQ.out HG.out hgd, if_pos hgd]
        have HGD := Lib.hid hgd
        have HFB := Lib.hid hfb
        clear hgd hfb
        go_wp2_with (go_at_call 103; refine (rcheck_any q _).mono ?_; rintro e w1 ⟨rfl, hb1⟩)
        have hl : w.heap.size < wr.heap.size := lt_of_block HBX.out
        go_ret
        exact ⟨ret_int HFB.out.symm, HB.out.trans (hb1.mono (by omega))⟩
    · have hjk : j = k := by omega
      have hX1 : X = if ss.all (synOk k inp) then 0 else 3 := by
        have hf : firstBad ps = 0 := firstBad_none fun t q h1 h2 => HG.out t q (by rw [← HKK.out] at h1; omega) h2
        rw [HX.out, if_neg (by rw [hf]; simp)]
      subst hjk
      have HX1 := Lib.hid hX1
      clear hX1 hlt
      go_wp2
      have hwl : w.heap.size < wr.heap.size := lt_of_block HBX.out
      have HWL := Lib.hid hwl



      clear hwl
      go_loopw [5] (fun i wr => ∃ t : Nat, t ≤ m ∧ i = .int .i64 t ∧ Below w.heap.size w wr ∧ NetBox wr w.heap.size (.slice a1 j c1) inp (.slice a2 m c2) ∧ ∀ q s, q < t → ss[q]? = some s → synOk j inp s = true) (fun i _ => m - (intOf i).toNat)
      case atStart => exact ⟨0, Nat.zero_le _, rfl, HB.out, HBX.out, fun t q h => by omega⟩
      case round =>
        obtain ⟨t, ht, rfl, hb, hbox, hgood⟩ := hrel
        have HB := Lib.hid hb
        have HBX := Lib.hid hbox
        have HG := Lib.hid hgood
        clear hb hgood
        have hwl : w.heap.size < wr.heap.size := lt_of_block HBX.out
        obtain ⟨_, _, _⟩ := cells3 hbox
        clear hbox
        by_cases hlt : t < m
        · obtain ⟨s, hs⟩ : ∃ s, ss[t]? = some s := ⟨_, List.getElem?_eq_getElem (by rw [← HMM.out]; exact hlt)⟩
          obtain ⟨b, off, rfl, hbl, hc⟩ := HS.out.at hs
          obtain ⟨_, _, _, _⟩ := hc.below HB.out hbl
          have hi0 : (0 : Int) ≤ (t : Int) := Int.natCast_nonneg _
          have hi1 : (t : Int) < (m : Int) := by omega
          have hsrc := fun W => rsrc_any a1 j c1 inp (.slice (some ⟨b, off, none⟩) m c2) s.fr h2 h3 h1 W
          have hok : synOk j inp s = (srcOk j inp s.fr && inR s.to 0 ((j : Int) - 1) && inR s.wt (-32768) 32768 && inR s.dl 1 16) := rfl
          generalize srcOk j inp s.fr = B0 at *
          have HS1 := Lib.hid hs
          have HOK := Lib.hid hok
          have HSRC := Lib.hid hsrc
          clear hs hok hsrc hc
          cases B0 with
          | false =>
            have hf : synOk j inp s = false := by rw [HOK.out]; simp
            have HX2 : X = 3 := by rw [HX1.out, all_at HS1.out hf]; rfl
            have HX3 := Lib.hid HX2
            clear hf HX2
            go_wp2_with (go_at_call 104; refine (HSRC.out _).mono ?_; rintro e w1 ⟨rfl, hb1⟩; obtain ⟨hc1, hf1⟩ := bcell hb1; have hz1 : wr.heap.size < w1.heap.size := (by have := hb1.size; simp at this; omega))
            go_ret
            exact ⟨ret_int HX3.out.symm, HB.out.trans (((Below.refl _ _).alloc (by omega) _).trans (hb1.mono (by simp; omega)))⟩
          | true =>
            by_cases q0 : s.to < 0
            · have hf : synOk j inp s = false := by rw [HOK.out]; simp [inR]; omega
              have HX2 : X = 3 := by rw [HX1.out, all_at HS1.out hf]; rfl
              have HX3 := Lib.hid HX2
              clear hf HX2
              have z0 : (s.to < 0) = True := by simp [q0]
              clear q0
              go_wp2_with (go_at_call 104; refine (HSRC.out _).mono ?_; rintro e w1 ⟨rfl, hb1⟩; obtain ⟨hc1, hf1⟩ := bcell hb1; have hz1 : wr.heap.size < w1.heap.size := (by have := hb1.size; simp at this; omega))
              go_ret
              exact ⟨ret_int HX3.out.symm, HB.out.trans (((Below.refl _ _).alloc (by omega) _).trans (hb1.mono (by simp; omega)))⟩
            · have z0 : (s.to < 0) = False := by simp [q0]
              by_cases q1 : (j : Int) ≤ s.to
              · have hf : synOk j inp s = false := by rw [HOK.out]; simp [inR]; omega
                have HX2 : X = 3 := by rw [HX1.out, all_at HS1.out hf]; rfl
                have HX3 := Lib.hid HX2
                clear hf HX2
                have z1 : ((j : Int) ≤ s.to) = True := by simp [q1]
                clear q1
                go_wp2_with (go_at_call 104; refine (HSRC.out _).mono ?_; rintro e w1 ⟨rfl, hb1⟩; obtain ⟨hc1, hf1⟩ := bcell hb1; have hz1 : wr.heap.size < w1.heap.size := (by have := hb1.size; simp at this; omega))
                go_ret
                exact ⟨ret_int HX3.out.symm, HB.out.trans (((Below.refl _ _).alloc (by omega) _).trans (hb1.mono (by simp; omega)))⟩
              · have z1 : ((j : Int) ≤ s.to) = False := by simp [q1]
                by_cases q2 : s.wt < -32768
                · have hf : synOk j inp s = false := by rw [HOK.out]; simp [inR]; omega
                  have HX2 : X = 3 := by rw [HX1.out, all_at HS1.out hf]; rfl
                  have HX3 := Lib.hid HX2
                  clear hf HX2
                  have z2 : (s.wt < -32768) = True := by simp [q2]
                  clear q2
                  go_wp2_with (go_at_call 104; refine (HSRC.out _).mono ?_; rintro e w1 ⟨rfl, hb1⟩; obtain ⟨hc1, hf1⟩ := bcell hb1; have hz1 : wr.heap.size < w1.heap.size := (by have := hb1.size; simp at this; omega))
                  go_ret
                  exact ⟨ret_int HX3.out.symm, HB.out.trans (((Below.refl _ _).alloc (by omega) _).trans (hb1.mono (by simp; omega)))⟩
                · have z2 : (s.wt < -32768) = False := by simp [q2]
                  by_cases q3 : 32768 < s.wt
                  · have hf : synOk j inp s = false := by rw [HOK.out]; simp [inR]; omega
                    have HX2 : X = 3 := by rw [HX1.out, all_at HS1.out hf]; rfl
                    have HX3 := Lib.hid HX2
                    clear hf HX2
                    have z3 : (32768 < s.wt) = True := by simp [q3]
                    clear q3
                    go_wp2_with (go_at_call 104; refine (HSRC.out _).mono ?_; rintro e w1 ⟨rfl, hb1⟩; obtain ⟨hc1, hf1⟩ := bcell hb1; have hz1 : wr.heap.size < w1.heap.size := (by have := hb1.size; simp at this; omega))
                    go_ret
                    exact ⟨ret_int HX3.out.symm, HB.out.trans (((Below.refl _ _).alloc (by omega) _).trans (hb1.mono (by simp; omega)))⟩
                  · have z3 : (32768 < s.wt) = False := by simp [q3]
                    by_cases q4 : s.dl < 1
                    · have hf : synOk j inp s = false := by rw [HOK.out]; simp [inR]; omega
                      have HX2 : X = 3 := by rw [HX1.out, all_at HS1.out hf]; rfl
                      have HX3 := Lib.hid HX2
                      clear hf HX2
                      have z4 : (s.dl < 1) = True := by simp [q4]
                      clear q4
                      go_wp2_with (go_at_call 104; refine (HSRC.out _).mono ?_; rintro e w1 ⟨rfl, hb1⟩; obtain ⟨hc1, hf1⟩ := bcell hb1; have hz1 : wr.heap.size < w1.heap.size := (by have := hb1.size; simp at this; omega))
                      go_ret
                      exact ⟨ret_int HX3.out.symm, HB.out.trans (((Below.refl _ _).alloc (by omega) _).trans (hb1.mono (by simp; omega)))⟩
                    · have z4 : (s.dl < 1) = False := by simp [q4]
                      by_cases q5 : 16 < s.dl
                      · have hf : synOk j inp s = false := by rw [HOK.out]; simp [inR]; omega
                        have HX2 : X = 3 := by rw [HX1.out, all_at HS1.out hf]; rfl
                        have HX3 := Lib.hid HX2
                        clear hf HX2
                        have z5 : (16 < s.dl) = True := by simp [q5]
                        clear q5
                        go_wp2_with (go_at_call 104; refine (HSRC.out _).mono ?_; rintro e w1 ⟨rfl, hb1⟩; obtain ⟨hc1, hf1⟩ := bcell hb1; have hz1 : wr.heap.size < w1.heap.size := (by have := hb1.size; simp at this; omega))
                        go_ret
                        exact ⟨ret_int HX3.out.symm, HB.out.trans (((Below.refl _ _).alloc (by omega) _).trans (hb1.mono (by simp; omega)))⟩
                      · have z5 : (16 < s.dl) = False := by simp [q5]
                        have hf : synOk j inp s = true := by rw [HOK.out]; simp [inR]; omega
                        have HFF := Lib.hid hf
                        clear hf
                        clear q0 q1 q2 q3 q4 q5
                        go_wp2_with (go_at_call 104; refine (HSRC.out _).mono ?_; rintro e w1 ⟨rfl, hb1⟩; obtain ⟨hc1, hf1⟩ := bcell hb1; have hz1 : wr.heap.size < w1.heap.size := (by have := hb1.size; simp at this; omega))
                        go_roundw
                        case rel =>
                          refine ⟨t + 1, by omega, by go_num, ?_, ?_, fun q s' g1 g2 => ?_⟩
                          · exact HB.out.trans (((Below.refl _ _).alloc (by omega) _).trans (hb1.mono (by simp; omega)))
                          · exact (hb1.block _ (by simp; omega)).trans ((Below.heap_alloc _ _ _ (by omega)).trans HBX.out)
                          · by_cases e : q = t
                            · subst e; rw [HS1.out] at g2; cases g2; exact HFF.out
                            · exact HG.out q s' (by omega) g2
                        case measure => simp [intOf]; omega
        · have htm : t = m := by omega
          have HX2 : X = 0 := by
            rw [HX1.out, all_none fun q s g1 g2 => HG.out q s (by rw [← HMM.out] at g1; omega) g2]; rfl
          have HX3 := Lib.hid HX2
          subst htm
          clear HX2 hlt
          go_wp2
          go_ret
          exact ⟨ret_int HX3.out.symm, HB.out⟩
end Go.Proofs.YtnbndciididpoaaGreat
