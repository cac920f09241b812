/- For every two networks the law NetJoins returns true: net.Join returns what the specification's does, and the examples hold. No condition. -/
import Derived.Test.YtgbcdebnanejpaaJg
import Derived.Test.YtgbcdebnanejpaaNx
import Derived.Test.YtgbcdebnanejpaaWk
namespace Go.Proofs.Ytgbcdebnanejpaa.netJoins
open Go.ChangeShapes Go.WideShapes Go.ChangeAt Go.RowKit Go.Proofs.Ytgbcdebnanejpaa.Rn
set_option linter.unusedVariables false

theorem jn_any (a b : NetM) (a1 a2 b1 b2 : Option Addr) (c1 c2 d1 d2 : Nat) (w : World)
    (hpa : PsAt w (.slice a1 a.ps.length c1) a.ps) (hsa : SsAt w (.slice a2 a.ss.length c2) a.ss) (hpb : PsAt w (.slice b1 b.ps.length d1) b.ps) (hsb : SsAt w (.slice b2 b.ss.length d2) b.ss) :
    Calls Try.prog 27 #[.agg #[.slice a1 a.ps.length c1, .int .i64 a.inp, .slice a2 a.ss.length c2], .agg #[.slice b1 b.ps.length d1, .int .i64 b.inp, .slice b2 b.ss.length d2]] w (RenOut (joinE a b) (joinR a b) w) := by
  by_cases he : ncheck a = 0
  · by_cases he2 : ncheck b = 0
    · exact jn_ok a b a1 a2 b1 b2 c1 c2 d1 d2 he he2 w hpa hsa hpb hsb
    · exact jn_bad2 a b a1 a2 b1 b2 c1 c2 d1 d2 he he2 w hpa hsa hpb hsb
  · exact jn_bad1 a b a1 a2 b1 b2 c1 c2 d1 d2 he w hpa hsa hpb hsb
theorem rjn_any (a b : NetM) (a1 a2 b1 b2 : Option Addr) (c1 c2 d1 d2 : Nat) (w : World)
    (hpa : PsAt w (.slice a1 a.ps.length c1) a.ps) (hsa : SsAt w (.slice a2 a.ss.length c2) a.ss) (hpb : PsAt w (.slice b1 b.ps.length d1) b.ps) (hsb : SsAt w (.slice b2 b.ss.length d2) b.ss) :
    Calls Try.prog 28 #[.agg #[.slice a1 a.ps.length c1, .int .i64 a.inp, .slice a2 a.ss.length c2], .agg #[.slice b1 b.ps.length d1, .int .i64 b.inp, .slice b2 b.ss.length d2]] w (RenOut (joinE a b) (joinR a b) w) := by
  by_cases he : ncheck a = 0
  · by_cases he2 : ncheck b = 0
    · exact rjn_ok a b a1 a2 b1 b2 c1 c2 d1 d2 he he2 w hpa hsa hpb hsb
    · exact rjn_bad2 a b a1 a2 b1 b2 c1 c2 d1 d2 he he2 w hpa hsa hpb hsb
  · exact rjn_bad1 a b a1 a2 b1 b2 c1 c2 d1 d2 he w hpa hsa hpb hsb
theorem joinR_small (a b : NetM) : (joinR a b).ps.length ≤ 100000 ∧ (joinR a b).ss.length ≤ 100000 := by
  unfold joinR
  by_cases h : joinE a b = 0
  · rw [if_pos h]
    unfold joinE at h
    by_cases h1 : ncheck a ≠ 0
    · rw [if_pos h1] at h; exact absurd h h1
    · rw [if_neg h1] at h
      by_cases h2 : ncheck b ≠ 0
      · rw [if_pos h2] at h; exact absurd h h2
      · rw [if_neg h2] at h
        have h3 := (netOk_of h).p1
        have h4 := (netOk_of h).s1
        exact ⟨by omega, by omega⟩
  · rw [if_neg h]; simp [netZ]
theorem fewB_small {k m : Nat} (h : fewB k m = true) : k ≤ 100000 ∧ m ≤ 100000 := by
  simp [fewB] at h; omega
theorem below2 (w : World) (o1 o2 : Obj) : Below w.heap.size w ((w.alloc o1).alloc o2) := ((Below.refl _ _).alloc (Nat.le_refl _) _).alloc (by simp) _
theorem blk2b (w : World) (o1 o2 : Obj) : ((w.alloc o1).alloc o2).heap[w.heap.size + 1]? = some o2 := alloc_new_at _ _ _ (by simp)
theorem blk2a (w : World) (o1 o2 : Obj) : ((w.alloc o1).alloc o2).heap[w.heap.size]? = some o1 := (Below.heap_alloc _ _ _ (by simp)).trans (alloc_new_at _ _ _ rfl)
/-- What the law stands before when it joins: the networks in their boxes. -/
structure Stand (a b : NetM) (w : World) (a1 a2 b1 b2 : Option Addr) (c1 c2 d1 d2 k m k' m' : Nat) (A : World) : Prop where
  ek : k = a.ps.length
  em : m = a.ss.length
  ek' : k' = b.ps.length
  em' : m' = b.ss.length
  bel : Below w.heap.size w A
  boxa : NetBox A w.heap.size (.slice a1 k c1) a.inp (.slice a2 m c2)
  boxb : NetBox A (w.heap.size + 1) (.slice b1 k' d1) b.inp (.slice b2 m' d2)
  pa : PsAt A (.slice a1 k c1) a.ps
  sa : SsAt A (.slice a2 m c2) a.ss
  pb : PsAt A (.slice b1 k' d1) b.ps
  sb : SsAt A (.slice b2 m' d2) b.ss
section
variable {a b : NetM} {w A A' : World} {a1 a2 b1 b2 : Option Addr} {c1 c2 d1 d2 k m k' m' : Nat}
theorem Stand.below (h : Stand a b w a1 a2 b1 b2 c1 c2 d1 d2 k m k' m' A) (hb : Below A.heap.size A A') : Stand a b w a1 a2 b1 b2 c1 c2 d1 d2 k m k' m' A' :=
  ⟨h.ek, h.em, h.ek', h.em', h.bel.trans (hb.mono h.bel.size), (hb.block _ (lt_of_block h.boxa)).trans h.boxa, (hb.block _ (lt_of_block h.boxb)).trans h.boxb, h.pa.below hb, h.sa.below hb, h.pb.below hb, h.sb.below hb⟩
theorem Stand.join (h : Stand a b w a1 a2 b1 b2 c1 c2 d1 d2 k m k' m' A) : Calls Try.prog 27 #[.agg #[.slice a1 k c1, .int .i64 a.inp, .slice a2 m c2], .agg #[.slice b1 k' d1, .int .i64 b.inp, .slice b2 m' d2]] A (RenOut (joinE a b) (joinR a b) A) := by
  obtain ⟨rfl, rfl, rfl, rfl, _, _, _, h1, h2, h3, h4⟩ := h
  exact jn_any a b a1 a2 b1 b2 c1 c2 d1 d2 A h1 h2 h3 h4
theorem Stand.rjoin (h : Stand a b w a1 a2 b1 b2 c1 c2 d1 d2 k m k' m' A) : Calls Try.prog 28 #[.agg #[.slice a1 k c1, .int .i64 a.inp, .slice a2 m c2], .agg #[.slice b1 k' d1, .int .i64 b.inp, .slice b2 m' d2]] A (RenOut (joinE a b) (joinR a b) A) := by
  obtain ⟨rfl, rfl, rfl, rfl, _, _, _, h1, h2, h3, h4⟩ := h
  exact rjn_any a b a1 a2 b1 b2 c1 c2 d1 d2 A h1 h2 h3 h4
end
theorem netBox_set0' {W : World} {g : Nat} {a a0 c : Value} {b : Int} (h : NetBox W g a0 b c) : NetBox (W.setCell ⟨g, 0, none⟩ a) g a b c := by
  unfold NetBox at *
  simp [World.setCell, Array.getElem?_modify, h]

set_option maxRecDepth 100000 in
set_option maxHeartbeats 4000000 in
theorem walk (a b : NetM) (g : Bool) (a1 a2 b1 b2 : Option Addr) (c1 c2 d1 d2 : Nat) (w : World) (hpa : PsAt w (.slice a1 a.ps.length c1) a.ps) (hsa : SsAt w (.slice a2 a.ss.length c2) a.ss) (hpb : PsAt w (.slice b1 b.ps.length d1) b.ps) (hsb : SsAt w (.slice b2 b.ss.length d2) b.ss) :
    Calls Try.prog 6 #[.agg #[.slice a1 a.ps.length c1, .int .i64 a.inp, .slice a2 a.ss.length c2], .agg #[.slice b1 b.ps.length d1, .int .i64 b.inp, .slice b2 b.ss.length d2], .bool g] w fun e w' => e = .returned (.bool true) ∧ Below w.heap.size w w' := by
  cases hfa : fewB a.ps.length a.ss.length with
  | false =>
    clear hpa hsa hpb hsb
    go_enter Try.func6, Try.ntmps6
    go_wp2_with (first | (go_at_call 17; refine (few_any _ _ _ _ _ _ _ _).mono ?_; rintro e w1 ⟨rfl, hb1⟩; rw [hfa]) | (go_at_call 18; refine (Lf.works_any _).mono ?_; rintro e w2 ⟨rfl, hb2⟩))
    go_ret
    exact ⟨rfl, ((below2 w _ _).trans (hb1.mono (by simp; omega))).trans (hb2.mono (by have := hb1.size; simp at this; omega))⟩
  | true =>
    cases hfb : fewB b.ps.length b.ss.length with
    | false =>
      clear hpa hsa hpb hsb
      generalize a.ps.length = k at *
      generalize a.ss.length = m at *
      generalize b.ps.length = k' at *
      generalize b.ss.length = m' at *
      go_enter Try.func6, Try.ntmps6
      go_wp2_with (first | (go_at_call 17; refine (few_any _ _ _ _ _ _ _ _).mono ?_; rintro e w1 ⟨rfl, hb1⟩; rw [hfa]; have hbb : NetBox w1 (w.heap.size + 1) (.slice b1 k' d1) b.inp (.slice b2 m' d2) := (hb1.block _ (by simp)).trans (blk2b _ _ _); obtain ⟨_, _, _, _, _, _⟩ := cells3f hbb; have hz1 : w.heap.size + 1 < w1.heap.size := lt_of_block hbb) | (go_at_call 17; refine (few_any _ _ _ _ _ _ _ _).mono ?_; rintro e w3 ⟨rfl, hb3⟩; rw [hfb]) | (go_at_call 18; refine (Lf.works_any _).mono ?_; rintro e w2 ⟨rfl, hb2⟩))
      go_ret
      exact ⟨rfl, (((below2 w _ _).trans (hb1.mono (by simp; omega))).trans (hb3.mono (by omega))).trans (hb2.mono (by have := hb3.size; omega))⟩
    | true =>
      obtain ⟨f1, f2⟩ := fewB_small hfa
      obtain ⟨f3, f4⟩ := fewB_small hfb
      have hst : ∀ A, Below w.heap.size w A → NetBox A w.heap.size (.slice a1 a.ps.length c1) a.inp (.slice a2 a.ss.length c2) → NetBox A (w.heap.size + 1) (.slice b1 b.ps.length d1) b.inp (.slice b2 b.ss.length d2) → Stand a b w a1 a2 b1 b2 c1 c2 d1 d2 a.ps.length a.ss.length b.ps.length b.ss.length A := fun A hb h1 h2 => ⟨rfl, rfl, rfl, rfl, hb, h1, h2, hpa.below hb, hsa.below hb, hpb.below hb, hsb.below hb⟩
      have HST0 := Lib.hid hst
      have HPA := Lib.hid hpa
      have HSA := Lib.hid hsa
      have HPB := Lib.hid hpb
      have HSB := Lib.hid hsb
      clear hst hpa hsa hpb hsb
      obtain ⟨k, hk⟩ : ∃ k, k = a.ps.length := ⟨_, rfl⟩
      obtain ⟨m, hm⟩ : ∃ k, k = a.ss.length := ⟨_, rfl⟩
      obtain ⟨k', hk'⟩ : ∃ k, k = b.ps.length := ⟨_, rfl⟩
      obtain ⟨m', hm'⟩ : ∃ k, k = b.ss.length := ⟨_, rfl⟩
      rw [← hk, ← hm] at hfa
      rw [← hk', ← hm'] at hfb
      rw [← hk] at f1
      rw [← hk, ← hm, ← hk', ← hm']
      have HK := Lib.hid hk
      have HM := Lib.hid hm
      have HK' := Lib.hid hk'
      have HM' := Lib.hid hm'
      rw [← hk, ← hm, ← hk', ← hm'] at HST0
      clear hk hm hk' hm'
      go_enter Try.func6, Try.ntmps6
      go_upto_region 3 with (first | (go_at_call 17; refine (few_any _ _ _ _ _ _ _ _).mono ?_; rintro e w1 ⟨rfl, hb1⟩; rw [hfa]; have hba : NetBox w1 w.heap.size (.slice a1 k c1) a.inp (.slice a2 m c2) := (hb1.block _ (by simp <;> omega)).trans (blk2a _ _ _); have hbb : NetBox w1 (w.heap.size + 1) (.slice b1 k' d1) b.inp (.slice b2 m' d2) := (hb1.block _ (by simp)).trans (blk2b _ _ _); obtain ⟨_, _, _, _, _, _⟩ := cells3f hbb; have hz1 : w.heap.size + 1 < w1.heap.size := lt_of_block hbb) | (go_at_call 17; refine (few_any _ _ _ _ _ _ _ _).mono ?_; rintro e w3 ⟨rfl, hb3⟩; rw [hfb]))
      have h03 : Below w.heap.size w w3 := ((below2 w _ _).trans (hb1.mono (by simp; omega))).trans (hb3.mono (by omega))
      have hba3 := (hb3.block _ (by omega)).trans hba
      have hbb3 := (hb3.block _ (by omega)).trans hbb
      have hS3 := HST0.out w3 h03 hba3 hbb3
      have HS3 := Lib.hid hS3
      obtain ⟨_, _, _, _, _, _⟩ := cells3f hba3
      obtain ⟨_, _, _, _, _, _⟩ := cells3f hbb3
      have hz3 : w.heap.size + 1 < w3.heap.size := lt_of_block hbb3
      have hz30 : w.heap.size < w3.heap.size := by omega
      clear hb1 hb3 hba hbb hz1 h03 hS3 HST0 hfa hfb
      by_cases hgr : g = true ∧ 0 < k
      · obtain ⟨rfl, hk0⟩ := hgr
        have zk : ((k : Int) > 0) = True := by simp; omega
        obtain ⟨i0, hi, hz0, hzz1, hzz2⟩ := info_parts info39
        obtain ⟨p0, hp0⟩ : ∃ p0, a.ps[0]? = some p0 := ⟨_, List.getElem?_eq_getElem (by rw [← HK.out]; exact hk0)⟩
        have HPA3 := Lib.hid HS3.out.pa
        have hown : (w3.alloc (.cells #[] 39)).ownsRow w3.heap.size 39 8 (.slice (some ⟨w3.heap.size, 0, none⟩) 0 0) 0 (prmCs []) :=
          ⟨rfl, .inr ⟨w3.heap.size, 0, #[], rfl, Nat.le_refl _, alloc_new_at _ _ _ rfl, Nat.le_refl _, by unfold maxLen; omega, rfl, rfl⟩⟩
        have HOW := Lib.hid hown
        have HP0 := Lib.hid hp0
        have HBA := Lib.hid hba3
        have HBB := Lib.hid hbb3
        clear hown hp0 hba3 hbb3
        go_wp2_with (at_builtin; go_must (refine appP (w := w3) rfl _ _ rfl _ 0 [] a.ps rfl HOW.out (by omega) ((Below.refl _ _).alloc (Nat.le_refl _) _) _ _ _ rfl HK.out HPA3.out (by omega) ?_); intro v' W9 hn9 hb9 _)
        go_loopw [7, 8] (fun s7 s8 wr => ∃ j : Nat, j ≤ 1000 ∧ s8 = .int .i64 j ∧ wr.ownsRow w3.heap.size 39 8 s7 (k + j) (prmCs (a.ps ++ List.replicate j p0)) ∧ Below w3.heap.size w3 wr) (fun _ s8 _ => 1000 - (intOf s8).toNat)
        case atStart => exact ⟨0, by omega, rfl, by simpa using hn9, hb9⟩
        case round =>
          obtain ⟨j, hj, rfl, ho, hb⟩ := hrel
          clear hn9 hb9
          have HO := Lib.hid ho
          have HB := Lib.hid hb
          have hba' := (hb.block _ hz30).trans HBA.out
          have hbb' := (hb.block _ hz3).trans HBB.out
          obtain ⟨_, _, _, _, _, _⟩ := cells3f hba'
          have hzr := hb.size
          have hzr0 : w.heap.size < wr.heap.size := by omega
          clear ho hb
          by_cases hlt : j < 1000
          · have zj : ((j : Int) < 1000) = True := by simp; omega
            obtain ⟨bb, off, rfl, hbl, hc⟩ := (HPA3.out.below HB.out).at HP0.out
            simp only [Nat.zero_mul, Nat.add_zero] at hc
            obtain ⟨_, _, _, _, _, _, _, _⟩ := hc
            have HNEW := Lib.hid (show (wr.alloc (.cells #[.int .i64 p0.lk, .int .i64 p0.lv, .int .i64 p0.bi, .int .i64 p0.th, .int .i64 p0.rk, .int .i64 p0.rs, .int .i64 p0.fl, .int .i64 p0.re] 39)).heap[wr.heap.size]? = some (.cells ⟨prmV p0⟩ 39) from alloc_new_at _ _ _ rfl)
            go_wp2_with (at_builtin; go_must (refine wpList_append_own _ rfl _ _ 22 rfl w3.heap.size 39 i0 _ 8 64 Try.underlying22 hi hz0 hzz1 hzz2 rfl (by decide) _ _ _ rfl (HO.out.alloc _) ⟨wr.heap.size, 0, none⟩ 1 1 (prmV p0) rfl rfl (cells_new HNEW.out) (by simp [prmV, Value.oneCell']) (by unfold maxLen; omega) (by omega) (by simp; omega) ?_); intro v' W8 hown' hgrow _)
            go_roundw
            case rel =>
              refine ⟨j + 1, by omega, by go_num, ?_, ?_⟩
              · rw [List.replicate_succ', ← List.append_assoc, prmCs_append (a.ps ++ List.replicate j p0) [p0], prmCs_one]
                exact hown'
              · have hsz := hgrow.size
                rw [World.size_alloc] at hsz
                refine HB.out.trans ⟨hgrow.os, hgrow.tape, hgrow.output, by omega, fun q hq => ?_⟩
                rw [hgrow.block q (by rw [World.size_alloc]; omega) (fun e => by have := (HO.out.lt q e.symm).1; omega), Below.heap_alloc _ _ _ (by omega)]
            case measure => simp [intOf]; omega
          · obtain rfl : j = 1000 := by omega
            have zj : (((1000 : Nat) : Int) < 1000) = False := by simp
            have fg : ∃ g cg, u7 = .slice (some ⟨g, 0, none⟩) (k + 1000) cg ∧ w3.heap.size ≤ g := by
              rcases HO.out.2 with ⟨_, h0⟩ | ⟨g, cap, cur, e, hg, _⟩
              · omega
              · exact ⟨g, cap, e, hg⟩
            obtain ⟨g, cg, rfl, hgl⟩ := fg
            go_upto_region 10 with (fail)
            obtain ⟨aG, haG⟩ : ∃ n : NetM, n = ⟨a.ps ++ List.replicate 1000 p0, a.inp, a.ss⟩ := ⟨_, rfl⟩
            obtain ⟨ag, hag⟩ : ∃ x : Option Addr, x = some ⟨g, 0, none⟩ := ⟨_, rfl⟩
            have hlen : k + 1000 = aG.ps.length := by rw [haG]; simp [HK.out]
            have hbx : NetBox (wr.setCell ⟨w.heap.size, 0, none⟩ (.slice (some ⟨g, 0, none⟩) (k + 1000) cg)) w.heap.size (.slice (some ⟨g, 0, none⟩) (k + 1000) cg) a.inp (.slice a2 m c2) := netBox_set0' hba'
            have e : ∀ q, q ≠ w.heap.size → (wr.setCell ⟨w.heap.size, 0, none⟩ (.slice (some ⟨g, 0, none⟩) (k + 1000) cg)).heap[q]? = wr.heap[q]? := fun q hq => by simp [World.setCell, Array.getElem?_modify, Ne.symm hq]
            have hbel : Below w.heap.size w (wr.setCell ⟨w.heap.size, 0, none⟩ (.slice (some ⟨g, 0, none⟩) (k + 1000) cg)) := (HS3.out.bel.trans (HB.out.mono (by omega))).setCell (p := ⟨w.heap.size, 0, none⟩) (Nat.le_refl _) _
            generalize wr.setCell ⟨w.heap.size, 0, none⟩ (.slice (some ⟨g, 0, none⟩) (k + 1000) cg) = S9 at *
            have hrow := ownsRow_of_block (A' := S9) HO.out fun q hq => e q (by have := (HO.out.lt q hq).1; omega)
            have hpG : PsAt S9 (.slice (some ⟨g, 0, none⟩) (k + 1000) cg) aG.ps := by
              have := psAt_of_owns (l := a.ps ++ List.replicate 1000 p0) (v := .slice (some ⟨g, 0, none⟩) (k + 1000) cg) (W := S9) (base := w3.heap.size) (by rw [show (a.ps ++ List.replicate 1000 p0).length = k + 1000 by simp [HK.out]]; exact hrow)
              rw [haG]; exact this
            have hi1 : aG.inp = a.inp := by rw [haG]
            have hi2 : aG.ss = a.ss := by rw [haG]
            rw [← hag] at hbx hpG ⊢
            rw [← hi1] at hbx
            have hS9 : Stand aG b w ag a2 b1 b2 cg c2 d1 d2 (k + 1000) m k' m' S9 := ⟨hlen, by rw [hi2]; exact HM.out, HK'.out, HM'.out, hbel, hbx, (e _ (by omega)).trans hbb', hpG, by rw [hi2, HM.out]; exact HSA.out.below hbel, by rw [HK'.out]; exact HPB.out.below hbel, by rw [HM'.out]; exact HSB.out.below hbel⟩
            have HS9 := Lib.hid hS9
            clear hlen hbx e hrow hpG hi2 haG hag hbel HPA HSA HPB HSB HO HB hba' HBA HBB HOW HP0 HPA3 HS3
            obtain ⟨_, _, _, _, _, _⟩ := cells3f hS9.boxa
            obtain ⟨_, _, _, _, _, _⟩ := cells3f hS9.boxb
            have hz90 : w.heap.size < S9.heap.size := lt_of_block hS9.boxa
            have hz91 : w.heap.size + 1 < S9.heap.size := lt_of_block hS9.boxb
            clear hS9 hi1
            obtain ⟨g1, g2⟩ := joinR_small aG b
            have hj : Calls Try.prog 27 #[.agg #[.slice ag (k + 1000) cg, .int .i64 aG.inp, .slice a2 m c2], .agg #[.slice b1 k' d1, .int .i64 b.inp, .slice b2 m' d2]] S9 (RenOut (joinE aG b) (joinR aG b) S9) := HS9.out.join
            have hrj : ∀ A', Stand aG b w ag a2 b1 b2 cg c2 d1 d2 (k + 1000) m k' m' A' → Calls Try.prog 28 #[.agg #[.slice ag (k + 1000) cg, .int .i64 aG.inp, .slice a2 m c2], .agg #[.slice b1 k' d1, .int .i64 b.inp, .slice b2 m' d2]] A' (RenOut (joinE aG b) (joinR aG b) A') := fun A' h => h.rjoin
            generalize joinR aG b = N at *
            generalize joinE aG b = X at *
            have hxx : (X == X) = true := by simp
            have HJ := Lib.hid hj
            have HRJ := Lib.hid hrj
            clear hj hrj
            go_upto_region 11 with (go_at_call 27; refine HJ.out.mono ?_; rintro e w4 ⟨v1, rfl, ⟨p1, q1, p2, q2, rfl, hp1, hs1⟩, hb4⟩)
            have hW3 : Below S9.heap.size S9 (w4.alloc (.cells #[.slice p1 N.ps.length q1, .int .i64 N.inp, .slice p2 N.ss.length q2] 25)) := hb4.alloc hb4.size _
            have hk3 : NetBox (w4.alloc (.cells #[.slice p1 N.ps.length q1, .int .i64 N.inp, .slice p2 N.ss.length q2] 25)) w4.heap.size (.slice p1 N.ps.length q1) N.inp (.slice p2 N.ss.length q2) := alloc_new_at _ _ _ rfl
            have hp3 := hp1.below ((Below.refl w4.heap.size w4).alloc (Nat.le_refl _) (.cells #[.slice p1 N.ps.length q1, .int .i64 N.inp, .slice p2 N.ss.length q2] 25))
            have hs3 := hs1.below ((Below.refl w4.heap.size w4).alloc (Nat.le_refl _) (.cells #[.slice p1 N.ps.length q1, .int .i64 N.inp, .slice p2 N.ss.length q2] 25))
            have hS5 := HS9.out.below hW3
            generalize w4.alloc (.cells #[.slice p1 N.ps.length q1, .int .i64 N.inp, .slice p2 N.ss.length q2] 25) = W5 at *
            generalize w4.heap.size = B3 at *
            obtain ⟨_, _, _, _, _, _⟩ := cells3f hS5.boxa
            obtain ⟨_, _, _, _, _, _⟩ := cells3f hS5.boxb
            have HK3 := Lib.hid hk3
            have HP3 := Lib.hid hp3
            have HS33 := Lib.hid hs3
            have HS5 := Lib.hid hS5
            have hz5 : w.heap.size < W5.heap.size := lt_of_block hS5.boxa
            have hz6 : w.heap.size + 1 < W5.heap.size := lt_of_block hS5.boxb
            clear hW3 hk3 hp3 hs3 hS5 hb4 hp1 hs1
            go_upto_region 12 with (go_at_call 28; refine (HRJ.out _ HS5.out).mono ?_; rintro e w6 ⟨v2, rfl, ⟨p3, q3, p4, q4, rfl, hp4, hs4⟩, hb6⟩)
            have hW4 : Below W5.heap.size W5 (w6.alloc (.cells #[.slice p3 N.ps.length q3, .int .i64 N.inp, .slice p4 N.ss.length q4] 25)) := hb6.alloc hb6.size _
            have hk4 : NetBox (w6.alloc (.cells #[.slice p3 N.ps.length q3, .int .i64 N.inp, .slice p4 N.ss.length q4] 25)) w6.heap.size (.slice p3 N.ps.length q3) N.inp (.slice p4 N.ss.length q4) := alloc_new_at _ _ _ rfl
            have hp5 := hp4.below ((Below.refl w6.heap.size w6).alloc (Nat.le_refl _) (.cells #[.slice p3 N.ps.length q3, .int .i64 N.inp, .slice p4 N.ss.length q4] 25))
            have hs5 := hs4.below ((Below.refl w6.heap.size w6).alloc (Nat.le_refl _) (.cells #[.slice p3 N.ps.length q3, .int .i64 N.inp, .slice p4 N.ss.length q4] 25))
            generalize w6.alloc (.cells #[.slice p3 N.ps.length q3, .int .i64 N.inp, .slice p4 N.ss.length q4] 25) = W7 at *
            generalize w6.heap.size = B4 at *
            have h04 : Below w.heap.size w W7 := HS5.out.bel.trans (hW4.mono (by omega))
            have hk5 : NetBox W7 B3 (.slice p1 N.ps.length q1) N.inp (.slice p2 N.ss.length q2) := (hW4.block _ (lt_of_block HK3.out)).trans HK3.out
            have hp6 := HP3.out.below hW4
            have hs6 := HS33.out.below hW4
            have hsame := sameNet_any N.ps N.inp N.ss p1 p2 p3 p4 q1 q2 q3 q4 g1 g2 W7 hp6 hs6 hp5 hs5
            obtain ⟨_, _, _, _, _, _⟩ := cells3f hk4
            obtain ⟨_, _, _, _, _, _⟩ := cells3f hk5
            have hz7 : B4 < W7.heap.size := lt_of_block hk4
            have hz8 : B3 < W7.heap.size := lt_of_block hk5
            have hz9 : w.heap.size ≤ W7.heap.size := h04.size
            have HSM := Lib.hid hsame
            have H04 := Lib.hid h04
            clear hW4 hk4 hk5 hp4 hs4 hb6 hp5 hs5 hp6 hs6 hsame h04
            go_wp2_with (first | (go_at_call 29; refine HSM.out.mono ?_; rintro e w8 ⟨rfl, hb8⟩) | (go_at_call 18; refine (Lf.works_any _).mono ?_; rintro e w9 ⟨rfl, hb9⟩))
            go_ret
            exact ⟨rfl, (H04.out.trans (hb8.mono hz9)).trans (hb9.mono (by have := hb8.size; omega))⟩
      · have hone : ∃ wX : World, wX = w3 := ⟨_, rfl⟩
        clear HPA HSA HPB HSB hone
        cases g with
        | false =>
          go_upto_region 10 with (fail)
          obtain ⟨g1, g2⟩ := joinR_small a b
          have hj : Calls Try.prog 27 #[.agg #[.slice a1 k c1, .int .i64 a.inp, .slice a2 m c2], .agg #[.slice b1 k' d1, .int .i64 b.inp, .slice b2 m' d2]] w3 (RenOut (joinE a b) (joinR a b) w3) := HS3.out.join
          have hrj : ∀ A', Stand a b w a1 a2 b1 b2 c1 c2 d1 d2 k m k' m' A' → Calls Try.prog 28 #[.agg #[.slice a1 k c1, .int .i64 a.inp, .slice a2 m c2], .agg #[.slice b1 k' d1, .int .i64 b.inp, .slice b2 m' d2]] A' (RenOut (joinE a b) (joinR a b) A') := fun A' h => h.rjoin
          generalize joinR a b = N at *
          generalize joinE a b = X at *
          have hxx : (X == X) = true := by simp
          have HJ := Lib.hid hj
          have HRJ := Lib.hid hrj
          clear hj hrj
          go_upto_region 11 with (go_at_call 27; refine HJ.out.mono ?_; rintro e w4 ⟨v1, rfl, ⟨p1, q1, p2, q2, rfl, hp1, hs1⟩, hb4⟩)
          have hW3 : Below w3.heap.size w3 (w4.alloc (.cells #[.slice p1 N.ps.length q1, .int .i64 N.inp, .slice p2 N.ss.length q2] 25)) := hb4.alloc hb4.size _
          have hk3 : NetBox (w4.alloc (.cells #[.slice p1 N.ps.length q1, .int .i64 N.inp, .slice p2 N.ss.length q2] 25)) w4.heap.size (.slice p1 N.ps.length q1) N.inp (.slice p2 N.ss.length q2) := alloc_new_at _ _ _ rfl
          have hp3 := hp1.below ((Below.refl w4.heap.size w4).alloc (Nat.le_refl _) (.cells #[.slice p1 N.ps.length q1, .int .i64 N.inp, .slice p2 N.ss.length q2] 25))
          have hs3 := hs1.below ((Below.refl w4.heap.size w4).alloc (Nat.le_refl _) (.cells #[.slice p1 N.ps.length q1, .int .i64 N.inp, .slice p2 N.ss.length q2] 25))
          have hS5 := HS3.out.below hW3
          generalize w4.alloc (.cells #[.slice p1 N.ps.length q1, .int .i64 N.inp, .slice p2 N.ss.length q2] 25) = W5 at *
          generalize w4.heap.size = B3 at *
          obtain ⟨_, _, _, _, _, _⟩ := cells3f hS5.boxa
          obtain ⟨_, _, _, _, _, _⟩ := cells3f hS5.boxb
          have HK3 := Lib.hid hk3
          have HP3 := Lib.hid hp3
          have HS33 := Lib.hid hs3
          have HS5 := Lib.hid hS5
          have hz5 : w.heap.size < W5.heap.size := lt_of_block hS5.boxa
          have hz6 : w.heap.size + 1 < W5.heap.size := lt_of_block hS5.boxb
          clear hW3 hk3 hp3 hs3 hS5 hb4 hp1 hs1
          go_upto_region 12 with (go_at_call 28; refine (HRJ.out _ HS5.out).mono ?_; rintro e w6 ⟨v2, rfl, ⟨p3, q3, p4, q4, rfl, hp4, hs4⟩, hb6⟩)
          have hW4 : Below W5.heap.size W5 (w6.alloc (.cells #[.slice p3 N.ps.length q3, .int .i64 N.inp, .slice p4 N.ss.length q4] 25)) := hb6.alloc hb6.size _
          have hk4 : NetBox (w6.alloc (.cells #[.slice p3 N.ps.length q3, .int .i64 N.inp, .slice p4 N.ss.length q4] 25)) w6.heap.size (.slice p3 N.ps.length q3) N.inp (.slice p4 N.ss.length q4) := alloc_new_at _ _ _ rfl
          have hp5 := hp4.below ((Below.refl w6.heap.size w6).alloc (Nat.le_refl _) (.cells #[.slice p3 N.ps.length q3, .int .i64 N.inp, .slice p4 N.ss.length q4] 25))
          have hs5 := hs4.below ((Below.refl w6.heap.size w6).alloc (Nat.le_refl _) (.cells #[.slice p3 N.ps.length q3, .int .i64 N.inp, .slice p4 N.ss.length q4] 25))
          generalize w6.alloc (.cells #[.slice p3 N.ps.length q3, .int .i64 N.inp, .slice p4 N.ss.length q4] 25) = W7 at *
          generalize w6.heap.size = B4 at *
          have h04 : Below w.heap.size w W7 := HS5.out.bel.trans (hW4.mono (by omega))
          have hk5 : NetBox W7 B3 (.slice p1 N.ps.length q1) N.inp (.slice p2 N.ss.length q2) := (hW4.block _ (lt_of_block HK3.out)).trans HK3.out
          have hp6 := HP3.out.below hW4
          have hs6 := HS33.out.below hW4
          have hsame := sameNet_any N.ps N.inp N.ss p1 p2 p3 p4 q1 q2 q3 q4 g1 g2 W7 hp6 hs6 hp5 hs5
          obtain ⟨_, _, _, _, _, _⟩ := cells3f hk4
          obtain ⟨_, _, _, _, _, _⟩ := cells3f hk5
          have hz7 : B4 < W7.heap.size := lt_of_block hk4
          have hz8 : B3 < W7.heap.size := lt_of_block hk5
          have hz9 : w.heap.size ≤ W7.heap.size := h04.size
          have HSM := Lib.hid hsame
          have H04 := Lib.hid h04
          clear hW4 hk4 hk5 hp4 hs4 hb6 hp5 hs5 hp6 hs6 hsame h04
          go_wp2_with (first | (go_at_call 29; refine HSM.out.mono ?_; rintro e w8 ⟨rfl, hb8⟩) | (go_at_call 18; refine (Lf.works_any _).mono ?_; rintro e w9 ⟨rfl, hb9⟩))
          go_ret
          exact ⟨rfl, (H04.out.trans (hb8.mono hz9)).trans (hb9.mono (by have := hb8.size; omega))⟩
        | true =>
          obtain rfl : k = 0 := by
            by_cases h : 0 < k
            · exact absurd ⟨rfl, h⟩ hgr
            · omega
          go_upto_region 10 with (fail)
          obtain ⟨g1, g2⟩ := joinR_small a b
          have hj : Calls Try.prog 27 #[.agg #[.slice a1 0 c1, .int .i64 a.inp, .slice a2 m c2], .agg #[.slice b1 k' d1, .int .i64 b.inp, .slice b2 m' d2]] w3 (RenOut (joinE a b) (joinR a b) w3) := HS3.out.join
          have hrj : ∀ A', Stand a b w a1 a2 b1 b2 c1 c2 d1 d2 0 m k' m' A' → Calls Try.prog 28 #[.agg #[.slice a1 0 c1, .int .i64 a.inp, .slice a2 m c2], .agg #[.slice b1 k' d1, .int .i64 b.inp, .slice b2 m' d2]] A' (RenOut (joinE a b) (joinR a b) A') := fun A' h => h.rjoin
          generalize joinR a b = N at *
          generalize joinE a b = X at *
          have hxx : (X == X) = true := by simp
          have HJ := Lib.hid hj
          have HRJ := Lib.hid hrj
          clear hj hrj
          go_upto_region 11 with (go_at_call 27; refine HJ.out.mono ?_; rintro e w4 ⟨v1, rfl, ⟨p1, q1, p2, q2, rfl, hp1, hs1⟩, hb4⟩)
          have hW3 : Below w3.heap.size w3 (w4.alloc (.cells #[.slice p1 N.ps.length q1, .int .i64 N.inp, .slice p2 N.ss.length q2] 25)) := hb4.alloc hb4.size _
          have hk3 : NetBox (w4.alloc (.cells #[.slice p1 N.ps.length q1, .int .i64 N.inp, .slice p2 N.ss.length q2] 25)) w4.heap.size (.slice p1 N.ps.length q1) N.inp (.slice p2 N.ss.length q2) := alloc_new_at _ _ _ rfl
          have hp3 := hp1.below ((Below.refl w4.heap.size w4).alloc (Nat.le_refl _) (.cells #[.slice p1 N.ps.length q1, .int .i64 N.inp, .slice p2 N.ss.length q2] 25))
          have hs3 := hs1.below ((Below.refl w4.heap.size w4).alloc (Nat.le_refl _) (.cells #[.slice p1 N.ps.length q1, .int .i64 N.inp, .slice p2 N.ss.length q2] 25))
          have hS5 := HS3.out.below hW3
          generalize w4.alloc (.cells #[.slice p1 N.ps.length q1, .int .i64 N.inp, .slice p2 N.ss.length q2] 25) = W5 at *
          generalize w4.heap.size = B3 at *
          obtain ⟨_, _, _, _, _, _⟩ := cells3f hS5.boxa
          obtain ⟨_, _, _, _, _, _⟩ := cells3f hS5.boxb
          have HK3 := Lib.hid hk3
          have HP3 := Lib.hid hp3
          have HS33 := Lib.hid hs3
          have HS5 := Lib.hid hS5
          have hz5 : w.heap.size < W5.heap.size := lt_of_block hS5.boxa
          have hz6 : w.heap.size + 1 < W5.heap.size := lt_of_block hS5.boxb
          clear hW3 hk3 hp3 hs3 hS5 hb4 hp1 hs1
          go_upto_region 12 with (go_at_call 28; refine (HRJ.out _ HS5.out).mono ?_; rintro e w6 ⟨v2, rfl, ⟨p3, q3, p4, q4, rfl, hp4, hs4⟩, hb6⟩)
          have hW4 : Below W5.heap.size W5 (w6.alloc (.cells #[.slice p3 N.ps.length q3, .int .i64 N.inp, .slice p4 N.ss.length q4] 25)) := hb6.alloc hb6.size _
          have hk4 : NetBox (w6.alloc (.cells #[.slice p3 N.ps.length q3, .int .i64 N.inp, .slice p4 N.ss.length q4] 25)) w6.heap.size (.slice p3 N.ps.length q3) N.inp (.slice p4 N.ss.length q4) := alloc_new_at _ _ _ rfl
          have hp5 := hp4.below ((Below.refl w6.heap.size w6).alloc (Nat.le_refl _) (.cells #[.slice p3 N.ps.length q3, .int .i64 N.inp, .slice p4 N.ss.length q4] 25))
          have hs5 := hs4.below ((Below.refl w6.heap.size w6).alloc (Nat.le_refl _) (.cells #[.slice p3 N.ps.length q3, .int .i64 N.inp, .slice p4 N.ss.length q4] 25))
          generalize w6.alloc (.cells #[.slice p3 N.ps.length q3, .int .i64 N.inp, .slice p4 N.ss.length q4] 25) = W7 at *
          generalize w6.heap.size = B4 at *
          have h04 : Below w.heap.size w W7 := HS5.out.bel.trans (hW4.mono (by omega))
          have hk5 : NetBox W7 B3 (.slice p1 N.ps.length q1) N.inp (.slice p2 N.ss.length q2) := (hW4.block _ (lt_of_block HK3.out)).trans HK3.out
          have hp6 := HP3.out.below hW4
          have hs6 := HS33.out.below hW4
          have hsame := sameNet_any N.ps N.inp N.ss p1 p2 p3 p4 q1 q2 q3 q4 g1 g2 W7 hp6 hs6 hp5 hs5
          obtain ⟨_, _, _, _, _, _⟩ := cells3f hk4
          obtain ⟨_, _, _, _, _, _⟩ := cells3f hk5
          have hz7 : B4 < W7.heap.size := lt_of_block hk4
          have hz8 : B3 < W7.heap.size := lt_of_block hk5
          have hz9 : w.heap.size ≤ W7.heap.size := h04.size
          have HSM := Lib.hid hsame
          have H04 := Lib.hid h04
          clear hW4 hk4 hk5 hp4 hs4 hb6 hp5 hs5 hp6 hs6 hsame h04
          go_wp2_with (first | (go_at_call 29; refine HSM.out.mono ?_; rintro e w8 ⟨rfl, hb8⟩) | (go_at_call 18; refine (Lf.works_any _).mono ?_; rintro e w9 ⟨rfl, hb9⟩))
          go_ret
          exact ⟨rfl, (H04.out.trans (hb8.mono hz9)).trans (hb9.mono (by have := hb8.size; omega))⟩

set_option maxRecDepth 100000 in
theorem lifted (os : Os) (started : os.Started) (H : Type) (enc : TypeId × Value → H) :
    ReturnsInHanded {} Try.checked os 6 .any (Rows.netJoinsSpec.pre6 enc Try.prog Try.f6 Rows.netJoinsRow.domain false) (Rows.netJoinsSpec.post enc Try.prog Try.f6 false true false false) := by
  refine returnsInHanded_of_change (C := Try.checked) own started (by kernel_rfl) Try.func6
    (ChangeSpec.witness6 (enc := enc) (C := Try.checked) false ⟨#[], #[.agg #[.slice none 0 0, .int .i64 0, .slice none 0 0], .agg #[.slice none 0 0, .int .i64 0, .slice none 0 0], .bool false], []⟩ 8 (by kernel_rfl) (by kernel_rfl) (by kernel_rfl) (by kernel_rfl)) ?_
  intro W base args ds gs before hval0 hW hcnd hsz
  have hval : ∀ (j : Nat) t v, Try.f6.params[j]? = some t → args[j]? = some v → Value.okWide Try.prog W .any base t v := hval0
  have hW' := hW
  obtain ⟨p, q, hA0, hV, rfl, hfz, hnd⟩ := hW
  have hA : DataW.TrodAll enc Try.prog W 0 (fun _ => true) true Try.f6.params.toList args.toList ds p := hA0
  rw [Try.params6] at hA hval
  have hAll := hA
  obtain ⟨v0, vs0, d0, ds0, p0, q0, hargs, rfl, rfl, h0, r0⟩ := trodAll_cons hA
  obtain ⟨v1, vs1, d1, ds1, p1, q1, rfl, rfl, rfl, h1, r1⟩ := trodAll_cons r0
  obtain ⟨v2, vs2, d2, ds2, p2, q2, rfl, rfl, rfl, h2, r2⟩ := trodAll_cons r1
  obtain ⟨rfl, rfl, rfl⟩ := trodAll_nil r2
  obtain rfl : args = #[v0, v1, v2] := by cases args; simp_all
  obtain ⟨rfl, rfl⟩ := trodVars_none hV
  obtain ⟨n0, ⟨a0, c0, e0, f0, rfl, hp0, hs0⟩, _, _⟩ := open_net (hval 0 25 v0 rfl rfl) h0
  obtain ⟨n1, ⟨a1, c1, e1, f1, rfl, hp1, hs1⟩, _, _⟩ := open_net (hval 1 25 v1 rfl rfl) h1
  obtain ⟨x2, rfl, rfl, rfl⟩ := Go.RowKit.open_bool Try.underlying4 (hval 2 4 v2 rfl rfl) h2
  clear hA0 hval0
  refine (walk n0 n1 x2 a0 e0 a1 e1 c0 f0 c1 f1 W hp0 hs0 hp1 hs1).mono fun e W' ⟨he, bel⟩ => ?_
  subst he
  have hback := trodAll_below bel [25, 25, 4] (by intro t ht; simp at ht; rcases ht with rfl | rfl | rfl <;> exact ⟨by kernel_rfl, of_decide_eq_true (by kernel_rfl)⟩) hAll
  exact ⟨_, rfl, _, _, _, [], _, [], hW', trodAll_mk1 (shut_bool Try.underlying4 _), hback, rfl, bel.frame _, fun h => by cases h⟩

theorem over : Rows.netJoinsRow.holds Try.pinned (OpenSpec.ofChange Rows.netJoinsSpec) :=
  OpenClaim.holds_of_wide 6 Try.f6 rfl rfl rfl rfl rfl rfl rfl ⟨rfl, rfl, rfl, rfl, rfl⟩ rfl rfl rfl rfl rfl (by kernel_rfl) Try.func6 (by kernel_rfl)
    (of_decide_eq_true (by kernel_rfl)) (by unfold Func.isWrapper; first | (rw [if_pos (by decide +kernel)]; kernel_rfl) | (rw [if_neg (by decide +kernel)]; exact ⟨rfl, rfl⟩))
    (fun os started H enc _ => lifted os started H enc)

theorem proved : Rows.NetJoinsSaid := over

end Go.Proofs.Ytgbcdebnanejpaa.netJoins
