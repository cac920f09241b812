/- The walk of the law NetCauses. Over this seat's program. (mk_nca.py wrote this.) -/
import Derived.Test.YtgbcdebnanejpaaC1
import Derived.Test.YtgbcdebnanejpaaV3
import Derived.Test.YtgbcdebnanejpaaNx
import Derived.Test.YtgbcdebnanejpaaWk
namespace Go.Proofs.Ytgbcdebnanejpaa.netCauses
open Go.ChangeShapes Go.WideShapes Go.ChangeAt Go.RowKit
set_option linter.unusedVariables false

/-- What the loop that leaves events out holds. -/
structure CsI (base : Nat) (w1 : World) (E O : List Evt) (v13 v14 : Value) (A : World) : Prop where
  r13 : A.ownsRow base 85 2 v13 E.length (evCs E)
  r14 : A.ownsRow base 85 2 v14 O.length (evCs O)
  ap : ∀ g, v13.ownBlock = some g → v14.ownBlock ≠ some g
  bel : Below w1.heap.size w1 A
  low : w1.heap.size ≤ base
  big : base ≤ A.heap.size
section
variable {base : Nat} {w1 A A' : World} {E O : List Evt} {v13 v14 v' : Value} {o : Obj} {e : Evt}
theorem CsI.app13 (h : CsI base w1 E O v13 v14 A) (hr : A'.ownsRow base 85 2 v' (E.length + 1) (evCs E ++ evV e)) (hg : (A.alloc o).grownBy A' v13.ownBlock) (hw : v'.ownBlock = v13.ownBlock ∨ v'.ownBlock = some (A.alloc o).heap.size) : CsI base w1 (E ++ [e]) O v' v14 A' := by
  have hs := hg.size
  rw [World.size_alloc] at hs hw
  have hA := h.bel.size
  refine ⟨by rw [List.length_append, evCs_snoc]; exact hr, ownsRow_of_block h.r14 fun g hgo => ?_, fun g hgo e => ?_, (h.bel.alloc hA o).grown hg (by rw [World.size_alloc]; omega) (fun k hk => by have := (h.r13.lt k hk).1; have := h.low; omega), h.low, by have := h.big; omega⟩
  · have h1 := (h.r14.lt g hgo).2
    rw [hg.block g (by rw [World.size_alloc]; omega) (fun e => h.ap g e.symm hgo), Below.heap_alloc _ _ _ h1]
  · rcases hw with hw | hw
    · exact h.ap g (hw.symm.trans hgo) e
    · rw [hgo] at hw
      have := Option.some.inj hw
      have := (h.r14.lt g e).2
      omega
theorem CsI.app14 (h : CsI base w1 E O v13 v14 A) (hr : A'.ownsRow base 85 2 v' (O.length + 1) (evCs O ++ evV e)) (hg : (A.alloc o).grownBy A' v14.ownBlock) (hw : v'.ownBlock = v14.ownBlock ∨ v'.ownBlock = some (A.alloc o).heap.size) : CsI base w1 E (O ++ [e]) v13 v' A' := by
  have hs := hg.size
  rw [World.size_alloc] at hs hw
  have hA := h.bel.size
  refine ⟨ownsRow_of_block h.r13 fun g hgo => ?_, by rw [List.length_append, evCs_snoc]; exact hr, fun g hgo e => ?_, (h.bel.alloc hA o).grown hg (by rw [World.size_alloc]; omega) (fun k hk => by have := (h.r14.lt k hk).1; have := h.low; omega), h.low, by have := h.big; omega⟩
  · have h1 := (h.r13.lt g hgo).2
    rw [hg.block g (by rw [World.size_alloc]; omega) (fun e => h.ap g hgo e.symm), Below.heap_alloc _ _ _ h1]
  · rcases hw with hw | hw
    · exact h.ap g hgo (hw.symm.trans e)
    · rw [e] at hw
      have := Option.some.inj hw
      have := (h.r13.lt g hgo).2
      omega
end
theorem evsC_of_owns {W : World} {base : Nat} {a : Option Addr} {n c : Nat} {l : List Evt} (hn : n = l.length) (h : W.ownsRow base 85 2 (.slice a n c) l.length (evCs l)) : EvsC W (.slice a l.length c) l := by
  subst hn
  refine ⟨evsAt_of_owns h, a, c, rfl, ?_⟩
  rcases h.2 with ⟨e, h0⟩ | ⟨g, cap, cur, e, _, _, h1, h2, _⟩
  · obtain ⟨_, h2, h3⟩ : a = none ∧ l.length = 0 ∧ c = 0 := by simpa using e
    exact ⟨by omega, by unfold maxLen; omega⟩
  · obtain ⟨_, h3⟩ : a = some ⟨g, 0, none⟩ ∧ c = cap := by simpa using e
    rw [h3]; exact ⟨h1, h2⟩
theorem runB_parts {n : NetM} {l : List Evt} {T : Int} (h : runB n l T = true) : l.length ≤ 300 ∧ 0 ≤ T ∧ T ≤ 300 ∧ runE n l T = 0 := by
  simp [runB] at h
  obtain ⟨⟨⟨⟨_, h1⟩, h2⟩, h3⟩, h4⟩ := h
  exact ⟨h1, h2, h3, h4⟩
theorem runO_short {n : NetM} {l : List Evt} {T : Int} (h : runE n l T = 0) : (runO n l T.toNat).length ≤ 65536 := by
  have hc := check_of_runE h
  unfold runE at h
  rw [if_neg (by simp [hc])] at h
  by_cases q : 65536 < (runO n l T.toNat).length
  · rw [if_pos q] at h; cases h
  · omega
theorem outF_outB (n : NetM) (zs : List Int) : outF n.ps.length (rchB n.ss zs) = outB n zs := rfl

set_option maxRecDepth 100000 in
set_option maxHeartbeats 8000000 in
theorem walk (n : NetM) (l : List Evt) (a1 a2 al : Option Addr) (c1 c2 cl : Nat) (T fr xi : Int) (hfr : 0 ≤ fr ∧ fr ≤ 65535) (hxi : 0 ≤ xi ∧ xi ≤ 255) (w : World) (hp : PsAt w (.slice a1 n.ps.length c1) n.ps) (hs : SsAt w (.slice a2 n.ss.length c2) n.ss) (hi : EvsC w (.slice al l.length cl) l) :
    Calls Try.prog 14 #[.agg #[.slice a1 n.ps.length c1, .int .i64 n.inp, .slice a2 n.ss.length c2], .slice al l.length cl, .int .i64 T, .int .u16 fr, .int .u8 xi] w fun e w' => e = .returned (.bool true) ∧ Below w.heap.size w w' := by
  have hrun := fun W (hb : Below w.heap.size w W) => runLaw_any n l a1 a2 al c1 c2 cl T W (hp.below hb) (hs.below hb) (hi.below hb)
  unfold RunBOut at hrun
  cases hB : runB n l T with
  | false =>
    rw [hB] at hrun
    have HRUN := Lib.hid hrun
    clear hrun hB hp hs hi
    go_enter Try.func14, Try.ntmps14
    go_wp2_with (first | (go_at_call 46; refine (HRUN.out _ ((Below.refl _ _).alloc (Nat.le_refl _) _)).mono ?_; rintro e w1 ⟨v, rfl, _, hb1⟩) | (go_at_call 18; refine (Lf.works_any _).mono ?_; rintro e w2 ⟨rfl, hb2⟩))
    go_ret
    exact ⟨rfl, (((Below.refl _ _).alloc (Nat.le_refl _) _).trans (hb1.mono (by simp))).trans (hb2.mono (by have := hb1.size; simp at this; omega))⟩
  | true =>
    obtain ⟨hl3, hT0, hT1, hE0⟩ := runB_parts hB
    have hck := check_of_runE hE0
    rw [hB] at hrun
    by_cases hxn : n.inp ≤ xi
    · have z1 : (n.inp ≤ xi) = True := eq_true hxn
      have z2 : (xi ≥ n.inp) = True := eq_true hxn
      have HRUN := Lib.hid hrun
      clear hrun hB hp hs hi hxn hck hE0
      go_enter Try.func14, Try.ntmps14
      go_wp2_with (first | (go_at_call 46; refine (HRUN.out _ ((Below.refl _ _).alloc (Nat.le_refl _) _)).mono ?_; rintro e w1 ⟨v, rfl, _, hb1⟩; have hbx1 : NetBox w1 w.heap.size (.slice a1 n.ps.length c1) n.inp (.slice a2 n.ss.length c2) := (hb1.block _ (by simp)).trans (alloc_new_at _ _ _ rfl); obtain ⟨_, _, _⟩ := cells3 hbx1; have B1 := Lib.hid (((Below.refl _ _).alloc (Nat.le_refl _) _).trans (hb1.mono (by simp)) : Below w.heap.size w w1); have hz1 := hb1.size; clear hb1 hbx1) | (go_at_call 18; refine (Lf.works_any _).mono ?_; rintro e w2 ⟨rfl, hb2⟩))
      go_ret
      exact ⟨rfl, B1.out.trans (hb2.mono B1.out.size)⟩
    · have z1 : (n.inp ≤ xi) = False := eq_false hxn
      have z2 : (xi ≥ n.inp) = False := eq_false hxn
      obtain ⟨k, rfl⟩ : ∃ k : Nat, fr = (k : Int) := ⟨fr.toNat, by omega⟩
      obtain ⟨E, hE⟩ : ∃ E, E = l.filter fun e => decide (e.tk < (k : Int)) := ⟨_, rfl⟩
      obtain ⟨O, hO⟩ : ∃ O, O = l.filter fun e => decide (e.id ≠ xi) := ⟨_, rfl⟩
      have hckE : checkRunM n E T 10000 = 0 := by rw [hE]; exact checkRun_filter _ hck
      have hckO : checkRunM n O T 10000 = 0 := by rw [hO]; exact checkRun_filter _ hck
      have hn0 : ncheck n = 0 := by
        unfold checkRunM at hck
        by_cases q : ncheck n = 0
        · exact q
        · rw [if_pos q] at hck; exact absurd hck q
      have hok := netOk_of hn0
      have hk1 := hok.p0
      have hk2 := hok.p1
      have hrc : rcE n [-1 - xi] = 0 := by
        unfold rcE
        rw [if_pos hn0, if_pos]
        have := hok.i0
        simp [srcOk, inR]; omega
      have hrn : rcN n [-1 - xi] = n.ps.length := by unfold rcN; rw [if_pos hrc]
      have hsh := runO_short hE0
      have HRUN := Lib.hid hrun
      have HP := Lib.hid hp
      have HS := Lib.hid hs
      have HI := Lib.hid hi
      have HEE := Lib.hid hE
      have HOO := Lib.hid hO
      have HCE := Lib.hid hckE
      have HCO := Lib.hid hckO
      have HRC := Lib.hid (And.intro hrc hrn)
      have HE0 := Lib.hid hE0
      clear hrun hB hp hs hi hxn hck hE0 hE hO hckE hckO hrc hrn hn0 hok
      go_enter Try.func14, Try.ntmps14
      go_upto_region 6 with (go_at_call 46; refine (HRUN.out _ ((Below.refl _ _).alloc (Nat.le_refl _) _)).mono ?_; rintro e w1 ⟨v11, rfl, hv11, hb1⟩; have hbx1 : NetBox w1 w.heap.size (.slice a1 n.ps.length c1) n.inp (.slice a2 n.ss.length c2) := (hb1.block _ (by simp)).trans (alloc_new_at _ _ _ rfl); obtain ⟨_, _, _⟩ := cells3 hbx1; have HBX := Lib.hid hbx1; have hzb := lt_of_block hbx1; have B1 := Lib.hid (((Below.refl _ _).alloc (Nat.le_refl _) _).trans (hb1.mono (by simp)) : Below w.heap.size w w1); have HV11 := Lib.hid (hv11 rfl); clear hb1 hbx1 hv11)
      obtain ⟨base, hbase⟩ : ∃ base, base = w1.heap.size := ⟨_, rfl⟩
      have h0 : CsI base w1 ((l.take 0).filter fun e => decide (e.tk < (k : Int))) ((l.take 0).filter fun e => decide (e.id ≠ xi)) (.slice none 0 0) (.slice none 0 0) w1 := ⟨World.ownsRow_nil _ _ _ _, World.ownsRow_nil _ _ _ _, fun g h => by simp [Value.ownBlock] at h, Below.refl _ _, by omega, by omega⟩
      have H0 := Lib.hid h0
      have hm0 : (0 : Int) ≤ (l.length : Int) := Int.natCast_nonneg _
      have HBASE := Lib.hid hbase
      clear h0 hbase
      go_loopw [13, 14, 15] (fun s13 s14 s15 wr => ∃ j : Nat, j ≤ l.length ∧ s15 = .int .i64 j ∧ CsI base w1 ((l.take j).filter fun e => decide (e.tk < (k : Int))) ((l.take j).filter fun e => decide (e.id ≠ xi)) s13 s14 wr) (fun _ _ s15 _ => l.length - (intOf s15).toNat)
      case atStart => exact ⟨0, Nat.zero_le _, rfl, H0.out⟩
      case round =>
        obtain ⟨j, hj, rfl, hI⟩ := hrel
        have hj0 : (0 : Int) ≤ (j : Int) := Int.natCast_nonneg _
        have HC := Lib.hid hI
        have hzw := hI.bel.size
        have hbg := hI.big
        by_cases hlt : j < l.length
        · have hj1 : ((j : Int) < (l.length : Int)) = True := by simp; omega
          obtain ⟨x, hx⟩ : ∃ x, l[j]? = some x := ⟨_, List.getElem?_eq_getElem hlt⟩
          have hfE := filt_succ (p := fun e : Evt => decide (e.tk < (k : Int))) hx
          have hfO := filt_succ (p := fun e : Evt => decide (e.id ≠ xi)) hx
          have hlE : ((l.take j).filter fun e => decide (e.tk < (k : Int))).length ≤ 300 := by
            have h1 := List.length_filter_le (fun e : Evt => decide (e.tk < (k : Int))) (l.take j)
            have h2 : (l.take j).length ≤ j := by simp; omega
            omega
          have hlO : ((l.take j).filter fun e => decide (e.id ≠ xi)).length ≤ 300 := by
            have h1 := List.length_filter_le (fun e : Evt => decide (e.id ≠ xi)) (l.take j)
            have h2 : (l.take j).length ≤ j := by simp; omega
            omega
          have hB := B1.out.trans (hI.bel.mono B1.out.size)
          obtain ⟨b, off, rfl, hbl, hcc⟩ := HI.out.1.at hx
          obtain ⟨X1, X2⟩ := x
          obtain ⟨y1, y2⟩ := hcc.below hB hbl
          simp only at y1 y2
          have hbr : b < wr.heap.size := by have := hB.size; omega
          obtain ⟨i0, hi, hz0, hzz1, hzz2⟩ := info_parts infoE
          have hR13 := hI.r13
          have hR14 := hI.r14
          have hgE : ∀ g, u13.ownBlock = some g → base ≤ g := fun g hg => (hR13.lt g hg).1
          have HGE := Lib.hid hgE
          have hbw1 : b < base := by rw [HBASE.out]; have := B1.out.size; omega
          generalize (l.take j).filter (fun e => decide (e.tk < (k : Int))) = E' at *
          generalize (l.take j).filter (fun e => decide (e.id ≠ xi)) = O' at *
          have HFE := Lib.hid hfE
          have HFO := Lib.hid hfO
          have HR13 := Lib.hid hR13
          have HR14 := Lib.hid hR14
          have HCC := Lib.hid (And.intro hcc hbl)
          have HBB := Lib.hid hB
          clear hI hx hfE hfO hB hcc hR13 hR14 hgE
          by_cases q1 : X1 < (k : Int)
          · have q2 : (X1 < (k : Int)) = True := eq_true q1
            have q3 : decide (X1 < (k : Int)) = true := decide_eq_true q1
            go_upto_region 10 with (at_builtin; go_loud (refine wpList_append_where _ rfl _ _ 30 rfl base 85 i0 (.agg #[.int .i64 0, .int .i64 0]) 2 16 Try.underlying30 hi hz0 hzz1 hzz2 rfl (by decide) u13 _ _ rfl (HR13.out.alloc _) ⟨wr.heap.size, 0, none⟩ 1 1 (by decide) [.int .i64 X1, .int .i64 X2] rfl rfl (cell_two_new _ _ _ _) (by simp [Value.oneCell']) (by unfold maxLen; omega) (by omega) (by simp; omega) ?_; intro v' w5 hown' hgrow hwh; have HO := Lib.hid hown'; have HG := Lib.hid hgrow; have HWH := Lib.hid hwh; clear hown' hgrow hwh))
            have HC1 := Lib.hid (HC.out.app13 (e := ⟨X1, X2⟩) HO.out HG.out HWH.out)
            have hB5 := B1.out.trans (HC1.out.bel.mono B1.out.size)
            obtain ⟨y3, y4⟩ := HCC.out.1.below hB5 HCC.out.2
            simp only at y3 y4
            have hbr5 : b < w5.heap.size := by have := hB5.size; have := HCC.out.2; omega
            have HR14' := Lib.hid HC1.out.r14
            have hbg5 := HC1.out.big
            have HQ3 := Lib.hid q3
            clear y1 y2 hB5 q1 q3
            by_cases p1 : X2 = xi
            · have p2 : (X2 == xi) = true := by simp [p1]
              have p3 : (X2 != xi) = false := by simp [p1]
              have HP1 := Lib.hid p1
              clear p1
              go_wp2
              go_roundw
              case rel => exact ⟨j + 1, hlt, by go_num, by rw [HFE.out, HFO.out, if_pos HQ3.out, if_neg (by simp [HP1.out]), List.append_nil]; exact HC1.out⟩
              case measure => simp [intOf]; omega
            · have p2 : (X2 == xi) = false := by simp [p1]
              have p3 : (X2 != xi) = true := by simp [p1]
              have p4 : (X2 = xi) = False := eq_false p1
              have HP1 := Lib.hid p1
              clear p1 HO HG HWH
              go_wp2_with (at_builtin; go_loud (refine wpList_append_where _ rfl _ _ 30 rfl base 85 i0 (.agg #[.int .i64 0, .int .i64 0]) 2 16 Try.underlying30 hi hz0 hzz1 hzz2 rfl (by decide) u14 _ _ rfl (HR14'.out.alloc _) ⟨w5.heap.size, 0, none⟩ 1 1 (by decide) [.int .i64 X1, .int .i64 X2] rfl rfl (cell_two_new _ _ _ _) (by simp [Value.oneCell']) (by unfold maxLen; omega) (by omega) (by simp; omega) ?_; intro v' w6 hown' hgrow hwh; have HO := Lib.hid hown'; have HG := Lib.hid hgrow; have HWH := Lib.hid hwh; clear hown' hgrow hwh))
              go_roundw
              case rel => exact ⟨j + 1, hlt, by go_num, by rw [HFE.out, HFO.out, if_pos HQ3.out, if_pos (by simp [HP1.out])]; exact HC1.out.app14 (e := ⟨X1, X2⟩) HO.out HG.out HWH.out⟩
              case measure => simp [intOf]; omega
          · have q2 : (X1 < (k : Int)) = False := eq_false q1
            have HQ1 := Lib.hid q1
            clear q1
            by_cases p1 : X2 = xi
            · have p2 : (X2 == xi) = true := by simp [p1]
              have p3 : (X2 != xi) = false := by simp [p1]
              have HP1 := Lib.hid p1
              clear p1
              go_wp2
              go_roundw
              case rel => exact ⟨j + 1, hlt, by go_num, by rw [HFE.out, HFO.out, if_neg (by simpa using HQ1.out), if_neg (by simp [HP1.out]), List.append_nil, List.append_nil]; exact HC.out⟩
              case measure => simp [intOf]; omega
            · have p2 : (X2 == xi) = false := by simp [p1]
              have p3 : (X2 != xi) = true := by simp [p1]
              have p4 : (X2 = xi) = False := eq_false p1
              have HP1 := Lib.hid p1
              clear p1
              go_wp2_with (at_builtin; go_loud (refine wpList_append_where _ rfl _ _ 30 rfl base 85 i0 (.agg #[.int .i64 0, .int .i64 0]) 2 16 Try.underlying30 hi hz0 hzz1 hzz2 rfl (by decide) u14 _ _ rfl (HR14.out.alloc _) ⟨wr.heap.size, 0, none⟩ 1 1 (by decide) [.int .i64 X1, .int .i64 X2] rfl rfl (cell_two_new _ _ _ _) (by simp [Value.oneCell']) (by unfold maxLen; omega) (by omega) (by simp; omega) ?_; intro v' w5 hown' hgrow hwh; have HO := Lib.hid hown'; have HG := Lib.hid hgrow; have HWH := Lib.hid hwh; clear hown' hgrow hwh))
              go_roundw
              case rel => exact ⟨j + 1, hlt, by go_num, by rw [HFE.out, HFO.out, if_neg (by simpa using HQ1.out), if_pos (by simp [HP1.out]), List.append_nil]; exact HC.out.app14 (e := ⟨X1, X2⟩) HO.out HG.out HWH.out⟩
              case measure => simp [intOf]; omega
        · obtain rfl : j = l.length := by omega
          have hj1 : ((l.length : Int) < (l.length : Int)) = False := by simp
          rw [List.take_of_length_le (Nat.le_refl _), ← HEE.out, ← HOO.out] at hI
          obtain ⟨a13, c13, hf13⟩ := own_sl hI.r13
          obtain ⟨a14, c14, hf14⟩ := own_sl hI.r14
          rw [hf13, hf14] at hI
          subst hf13 hf14
          obtain ⟨a11, c11, hf11⟩ := HV11.out.form
          subst hf11
          have hB := B1.out.trans (hI.bel.mono B1.out.size)
          have hbxr : NetBox wr w.heap.size (.slice a1 n.ps.length c1) n.inp (.slice a2 n.ss.length c2) := (hI.bel.block _ hzb).trans HBX.out
          obtain ⟨_, _, _⟩ := cells3 hbxr
          have hr1 := run_any n E a1 a2 a13 c1 c2 c13 T wr (HP.out.below hB) (HS.out.below hB) (evsC_of_owns rfl hI.r13)
          obtain ⟨UL, hUL⟩ : ∃ UL, (runO n l T.toNat).filter (fun e => decide (e.tk ≤ (k : Int))) = UL := ⟨_, rfl⟩
          have hUE : (runO n E T.toNat).filter (fun e => decide (e.tk ≤ (k : Int))) = UL := by rw [HEE.out, until_early, hUL]
          obtain ⟨WL, hWL⟩ : ∃ WL, (runO n l T.toNat).filter (outF n.ps.length (rchB n.ss [-1 - xi])) = WL := ⟨_, rfl⟩
          have hWO : (runO n O T.toNat).filter (outF n.ps.length (rchB n.ss [-1 - xi])) = WL := by rw [HOO.out, ← hWL]; exact without_other n l xi T.toNat
          have hULL : UL.length ≤ 65536 := by rw [← hUL]; have := List.length_filter_le (fun e : Evt => decide (e.tk ≤ (k : Int))) (runO n l T.toNat); omega
          have hWLL : WL.length ≤ 65536 := by rw [← hWL]; have := List.length_filter_le (outF n.ps.length (rchB n.ss [-1 - xi])) (runO n l T.toNat); omega
          have HUL := Lib.hid hUL
          have HUE := Lib.hid hUE
          have HWL := Lib.hid hWL
          have HWO := Lib.hid hWO
          have HULL := Lib.hid hULL
          have HWLL := Lib.hid hWLL
          have HSL := Lib.hid hsh
          have HR14 := Lib.hid hI.r14
          have BR := Lib.hid hI.bel
          have HBXR := Lib.hid hbxr
          have hzr := hI.bel.size
          clear hUL hUE hWL hWO hULL hWLL hsh hI HC hB hbxr H0 hj hlt
          unfold NRunOut at hr1
          have HR1 := Lib.hid hr1
          clear hr1
          have hn1024 : n.ps.length ≤ 1024 := hk2
          rcases runE_two HCE.out with hE1 | hE1 <;> rcases runE_two HCO.out with hO1 | hO1
          · have HX1 := Lib.hid hE1
            have HX2 := Lib.hid hO1
            have hr1 := HR1.out
            rw [hE1] at hr1
            rw [show runR n E T = runO n E T.toNat by unfold runR; rw [if_pos hE1]] at hr1
            have HSE := Lib.hid (runO_short hE1)
            have HR1' := Lib.hid hr1
            clear hr1 hE1 hO1 HR1
            go_wp2_with (fail)
            refine HR1'.out.mono ?_
            rintro e w2 ⟨v16, rfl, hv16, hb2⟩
            have hz2 := hb2.size
            have hbx2 := (hb2.block _ (by omega)).trans HBXR.out
            obtain ⟨_, _, _⟩ := cells3 hbx2
            have B2 := Lib.hid (BR.out.trans (hb2.mono (by omega)) : Below w1.heap.size w1 w2)
            have hr2 := run_any n O a1 a2 a14 c1 c2 c14 T w2 (HP.out.below (B1.out.trans (B2.out.mono (by omega)))) (HS.out.below (B1.out.trans (B2.out.mono (by omega)))) (evsC_of_owns rfl (ownsRow_of_block HR14.out fun g hg => hb2.block g (HR14.out.lt g hg).2))
            unfold NRunOut at hr2
            rw [HX2.out] at hr2
            rw [show runR n O T = runO n O T.toNat by unfold runR; rw [if_pos HX2.out]] at hr2
            have HSO := Lib.hid (runO_short HX2.out)
            have HR2 := Lib.hid hr2
            have HV16 := Lib.hid hv16
            have HBX2 := Lib.hid hbx2
            clear hv16 hb2 hr2 hbx2
            go_wp2_with (fail)
            refine HR2.out.mono ?_
            rintro e w3 ⟨v18, rfl, hv18, hb3⟩
            have hz3 := hb3.size
            have hbx3 := (hb3.block _ (by omega)).trans HBX2.out
            obtain ⟨_, _, _⟩ := cells3 hbx3
            have B3 := Lib.hid (B2.out.trans (hb3.mono (by omega)) : Below w1.heap.size w1 w3)
            have B23 := Lib.hid (hb3 : Below w2.heap.size w2 w3)
            have HBX3 := Lib.hid hbx3
            have HV18 := Lib.hid hv18
            have hr3 : Calls Try.prog 32 #[.agg #[.slice a1 n.ps.length c1, .int .i64 n.inp, .slice a2 n.ss.length c2], .slice (some ⟨w3.heap.size, 0, none⟩) 1 1] (w3.alloc (.cells #[.int .i64 (-1 - xi)] 3)) (RcOut n [-1 - xi] (w3.alloc (.cells #[.int .i64 (-1 - xi)] 3))) :=
              nreach_any n [-1 - xi] a1 a2 (some ⟨w3.heap.size, 0, none⟩) c1 c2 1 (by simp) _ (HP.out.below (B1.out.trans ((B3.out.mono (by omega)).alloc (by omega) _))) (HS.out.below (B1.out.trans ((B3.out.mono (by omega)).alloc (by omega) _))) (Or.inr ⟨w3.heap.size, 0, 1, rfl, fun j hj => by
                obtain rfl : j = 0 := by simpa using hj
                exact (cells1 (alloc_new_at _ _ _ rfl)).1⟩)
            unfold RcOut at hr3
            rw [HRC.out.1, HRC.out.2] at hr3
            have HR3 := Lib.hid hr3
            clear hr3 hv18 hb3 hbx3
            have hx0 := hxi.1
            have hx1 := hxi.2
            go_wp2_with (fail)
            refine HR3.out.mono ?_
            rintro e w4 ⟨ra, rfl, hra, hb4⟩
            have hz4 := hb4.size
            rw [World.size_alloc] at hz4
            have hbx4 : NetBox w4 w.heap.size (.slice a1 n.ps.length c1) n.inp (.slice a2 n.ss.length c2) := (hb4.block _ (by simp; omega)).trans ((Below.heap_alloc _ _ _ (by omega)).trans HBX3.out)
            obtain ⟨_, _, _⟩ := cells3 hbx4
            obtain ⟨g, hg⟩ : ∃ g, ra = some ⟨g, 0, none⟩ ∧ BoolsAt w4 g n.ps.length (rchB n.ss [-1 - xi]) := by
              rcases hra with h | h
              · omega
              · exact h
            obtain ⟨rfl, hba⟩ := hg
            have HBA := Lib.hid hba
            have B34 := Lib.hid (((Below.refl _ _).alloc (Nat.le_refl _) _).trans (hb4.mono (by simp)) : Below w3.heap.size w3 w4)
            have B14 := Lib.hid (B3.out.trans (B34.out.mono (by omega)) : Below w1.heap.size w1 w4)
            have B24 := Lib.hid (B23.out.trans (B34.out.mono (by omega)) : Below w2.heap.size w2 w4)
            clear hba hra hb4 hbx4
            obtain ⟨a16, c16, hf16⟩ := HV16.out.form
            subst hf16
            go_wp2_with (fail)
            refine (until_any (runO n E T.toNat) a16 c16 (k : Int) HSE.out _ (HV16.out.below (B24.out.mono (by omega)))).mono ?_
            rintro e w5 ⟨vu1, rfl, hu1, hb5⟩
            rw [HUE.out] at hu1
            obtain ⟨au1, cu1, rfl⟩ := own_sl hu1
            have B25 := Lib.hid (B24.out.trans (hb5.mono (by omega)) : Below w2.heap.size w2 w5)
            have B15 := Lib.hid (B14.out.trans (hb5.mono (by omega)) : Below w1.heap.size w1 w5)
            have hz5 := hb5.size
            have HU1 := Lib.hid (evsAt_of_owns hu1)
            have HB5 := Lib.hid hb5
            have HBA5 := Lib.hid (HBA.out.of_block (hb5.block _ HBA.out.lt))
            clear hu1 hb5
            go_wp2_with (fail)
            refine (until_any (runO n l T.toNat) a11 c11 (k : Int) HSL.out _ (HV11.out.below B15.out)).mono ?_
            rintro e w6 ⟨vu2, rfl, hu2, hb6⟩
            rw [HUL.out] at hu2
            obtain ⟨au2, cu2, rfl⟩ := own_sl hu2
            have hsame := same_eq UL au1 au2 cu1 cu2 (by have := HULL.out; omega) w6 (HU1.out.below (hb6.mono (Nat.le_refl _))) (evsAt_of_owns hu2)
            have HSAME := Lib.hid hsame
            have hz6 := hb6.size
            have B16 := Lib.hid (B15.out.trans (hb6.mono (by omega)) : Below w1.heap.size w1 w6)
            have B36 := Lib.hid (B34.out.trans ((HB5.out.mono (by omega)).trans (hb6.mono (by omega))) : Below w3.heap.size w3 w6)
            have HBA6 := Lib.hid (HBA5.out.of_block (hb6.block _ HBA5.out.lt))
            clear hu2 hb6 hsame
            go_wp2_with (fail)
            refine HSAME.out.mono ?_
            rintro e w7 ⟨rfl, hb7⟩
            have hz7 := hb7.size
            have BW := Lib.hid (B16.out.trans (hb7.mono (by omega)) : Below w1.heap.size w1 w7)
            have BV := Lib.hid (B36.out.trans (hb7.mono (by omega)) : Below w3.heap.size w3 w7)
            have HBAW := Lib.hid (HBA6.out.of_block (hb7.block _ HBA6.out.lt))
            clear hb7
            obtain ⟨a18, c18, hf18⟩ := HV18.out.form
            subst hf18
            go_wp2_with (fail)
            refine (without_any (runO n O T.toNat) a18 c18 g n.ps.length (rchB n.ss [-1 - xi]) (by omega) HSO.out _ (HV18.out.below BV.out) HBAW.out).mono ?_
            rintro e w8 ⟨vo1, rfl, ho1, hb8⟩
            rw [HWO.out] at ho1
            obtain ⟨ao1, co1, rfl⟩ := own_sl ho1
            have hz8 := hb8.size
            have BW8 := Lib.hid (BW.out.trans (hb8.mono BW.out.size) : Below w1.heap.size w1 w8)
            have HO1 := Lib.hid (evsAt_of_owns ho1)
            have HBA8 := Lib.hid (HBAW.out.of_block (hb8.block _ HBAW.out.lt))
            clear ho1 hb8
            go_wp2_with (fail)
            refine (without_any (runO n l T.toNat) a11 c11 g n.ps.length (rchB n.ss [-1 - xi]) (by omega) HSL.out _ (HV11.out.below BW8.out) HBA8.out).mono ?_
            rintro e w9 ⟨vo2, rfl, ho2, hb9⟩
            rw [HWL.out] at ho2
            obtain ⟨ao2, co2, rfl⟩ := own_sl ho2
            have hsame2 := same_eq WL ao1 ao2 co1 co2 (by have := HWLL.out; omega) w9 (HO1.out.below (hb9.mono (Nat.le_refl _))) (evsAt_of_owns ho2)
            have HSAME2 := Lib.hid hsame2
            have hz9 := hb9.size
            have BW9 := Lib.hid (BW8.out.trans (hb9.mono BW8.out.size) : Below w1.heap.size w1 w9)
            clear ho2 hb9 hsame2
            go_wp2_with (fail)
            refine HSAME2.out.mono ?_
            rintro e w10 ⟨rfl, hb10⟩
            have BWX := Lib.hid (BW9.out.trans (hb10.mono BW9.out.size) : Below w1.heap.size w1 w10)
            clear hb10
            go_wp2_with (fail)
            refine (Lf.works_any _).mono ?_
            rintro e w11 ⟨rfl, hb11⟩
            have BF := Lib.hid ((B1.out.trans (BWX.out.mono B1.out.size)).trans (hb11.mono (by have := BWX.out.size; have := B1.out.size; omega)) : Below w.heap.size w w11)
            clear hb11
            go_wp2
            go_ret
            exact ⟨rfl, BF.out⟩
          · have HX1 := Lib.hid hE1
            have HX2 := Lib.hid hO1
            have hr1 := HR1.out
            rw [hE1] at hr1
            rw [show runR n E T = runO n E T.toNat by unfold runR; rw [if_pos hE1]] at hr1
            have HSE := Lib.hid (runO_short hE1)
            have HR1' := Lib.hid hr1
            clear hr1 hE1 hO1 HR1
            go_wp2_with (fail)
            refine HR1'.out.mono ?_
            rintro e w2 ⟨v16, rfl, hv16, hb2⟩
            have hz2 := hb2.size
            have hbx2 := (hb2.block _ (by omega)).trans HBXR.out
            obtain ⟨_, _, _⟩ := cells3 hbx2
            have B2 := Lib.hid (BR.out.trans (hb2.mono (by omega)) : Below w1.heap.size w1 w2)
            have hr2 := run_any n O a1 a2 a14 c1 c2 c14 T w2 (HP.out.below (B1.out.trans (B2.out.mono (by omega)))) (HS.out.below (B1.out.trans (B2.out.mono (by omega)))) (evsC_of_owns rfl (ownsRow_of_block HR14.out fun g hg => hb2.block g (HR14.out.lt g hg).2))
            unfold NRunOut at hr2
            rw [HX2.out] at hr2
            skip
            have HR2 := Lib.hid hr2
            have HV16 := Lib.hid hv16
            have HBX2 := Lib.hid hbx2
            clear hv16 hb2 hr2 hbx2
            go_wp2_with (fail)
            refine HR2.out.mono ?_
            rintro e w3 ⟨v18, rfl, hv18, hb3⟩
            have hz3 := hb3.size
            have hbx3 := (hb3.block _ (by omega)).trans HBX2.out
            obtain ⟨_, _, _⟩ := cells3 hbx3
            have B3 := Lib.hid (B2.out.trans (hb3.mono (by omega)) : Below w1.heap.size w1 w3)
            have B23 := Lib.hid (hb3 : Below w2.heap.size w2 w3)
            have HBX3 := Lib.hid hbx3
            have HV18 := Lib.hid hv18
            have hr3 : Calls Try.prog 32 #[.agg #[.slice a1 n.ps.length c1, .int .i64 n.inp, .slice a2 n.ss.length c2], .slice (some ⟨w3.heap.size, 0, none⟩) 1 1] (w3.alloc (.cells #[.int .i64 (-1 - xi)] 3)) (RcOut n [-1 - xi] (w3.alloc (.cells #[.int .i64 (-1 - xi)] 3))) :=
              nreach_any n [-1 - xi] a1 a2 (some ⟨w3.heap.size, 0, none⟩) c1 c2 1 (by simp) _ (HP.out.below (B1.out.trans ((B3.out.mono (by omega)).alloc (by omega) _))) (HS.out.below (B1.out.trans ((B3.out.mono (by omega)).alloc (by omega) _))) (Or.inr ⟨w3.heap.size, 0, 1, rfl, fun j hj => by
                obtain rfl : j = 0 := by simpa using hj
                exact (cells1 (alloc_new_at _ _ _ rfl)).1⟩)
            unfold RcOut at hr3
            rw [HRC.out.1, HRC.out.2] at hr3
            have HR3 := Lib.hid hr3
            clear hr3 hv18 hb3 hbx3
            have hx0 := hxi.1
            have hx1 := hxi.2
            go_wp2_with (fail)
            refine HR3.out.mono ?_
            rintro e w4 ⟨ra, rfl, hra, hb4⟩
            have hz4 := hb4.size
            rw [World.size_alloc] at hz4
            have hbx4 : NetBox w4 w.heap.size (.slice a1 n.ps.length c1) n.inp (.slice a2 n.ss.length c2) := (hb4.block _ (by simp; omega)).trans ((Below.heap_alloc _ _ _ (by omega)).trans HBX3.out)
            obtain ⟨_, _, _⟩ := cells3 hbx4
            obtain ⟨g, hg⟩ : ∃ g, ra = some ⟨g, 0, none⟩ ∧ BoolsAt w4 g n.ps.length (rchB n.ss [-1 - xi]) := by
              rcases hra with h | h
              · omega
              · exact h
            obtain ⟨rfl, hba⟩ := hg
            have HBA := Lib.hid hba
            have B34 := Lib.hid (((Below.refl _ _).alloc (Nat.le_refl _) _).trans (hb4.mono (by simp)) : Below w3.heap.size w3 w4)
            have B14 := Lib.hid (B3.out.trans (B34.out.mono (by omega)) : Below w1.heap.size w1 w4)
            have B24 := Lib.hid (B23.out.trans (B34.out.mono (by omega)) : Below w2.heap.size w2 w4)
            clear hba hra hb4 hbx4
            obtain ⟨a16, c16, hf16⟩ := HV16.out.form
            subst hf16
            go_wp2_with (fail)
            refine (until_any (runO n E T.toNat) a16 c16 (k : Int) HSE.out _ (HV16.out.below (B24.out.mono (by omega)))).mono ?_
            rintro e w5 ⟨vu1, rfl, hu1, hb5⟩
            rw [HUE.out] at hu1
            obtain ⟨au1, cu1, rfl⟩ := own_sl hu1
            have B25 := Lib.hid (B24.out.trans (hb5.mono (by omega)) : Below w2.heap.size w2 w5)
            have B15 := Lib.hid (B14.out.trans (hb5.mono (by omega)) : Below w1.heap.size w1 w5)
            have hz5 := hb5.size
            have HU1 := Lib.hid (evsAt_of_owns hu1)
            have HB5 := Lib.hid hb5
            have HBA5 := Lib.hid (HBA.out.of_block (hb5.block _ HBA.out.lt))
            clear hu1 hb5
            go_wp2_with (fail)
            refine (until_any (runO n l T.toNat) a11 c11 (k : Int) HSL.out _ (HV11.out.below B15.out)).mono ?_
            rintro e w6 ⟨vu2, rfl, hu2, hb6⟩
            rw [HUL.out] at hu2
            obtain ⟨au2, cu2, rfl⟩ := own_sl hu2
            have hsame := same_eq UL au1 au2 cu1 cu2 (by have := HULL.out; omega) w6 (HU1.out.below (hb6.mono (Nat.le_refl _))) (evsAt_of_owns hu2)
            have HSAME := Lib.hid hsame
            have hz6 := hb6.size
            have B16 := Lib.hid (B15.out.trans (hb6.mono (by omega)) : Below w1.heap.size w1 w6)
            have B36 := Lib.hid (B34.out.trans ((HB5.out.mono (by omega)).trans (hb6.mono (by omega))) : Below w3.heap.size w3 w6)
            have HBA6 := Lib.hid (HBA5.out.of_block (hb6.block _ HBA5.out.lt))
            clear hu2 hb6 hsame
            go_wp2_with (fail)
            refine HSAME.out.mono ?_
            rintro e w7 ⟨rfl, hb7⟩
            have hz7 := hb7.size
            have BW := Lib.hid (B16.out.trans (hb7.mono (by omega)) : Below w1.heap.size w1 w7)
            have BV := Lib.hid (B36.out.trans (hb7.mono (by omega)) : Below w3.heap.size w3 w7)
            have HBAW := Lib.hid (HBA6.out.of_block (hb7.block _ HBA6.out.lt))
            clear hb7
            have BWX := BW
            go_wp2_with (fail)
            refine (Lf.works_any _).mono ?_
            rintro e w11 ⟨rfl, hb11⟩
            have BF := Lib.hid ((B1.out.trans (BWX.out.mono B1.out.size)).trans (hb11.mono (by have := BWX.out.size; have := B1.out.size; omega)) : Below w.heap.size w w11)
            clear hb11
            go_wp2
            go_ret
            exact ⟨rfl, BF.out⟩
          · have HX1 := Lib.hid hE1
            have HX2 := Lib.hid hO1
            have hr1 := HR1.out
            rw [hE1] at hr1
            skip
            have HR1' := Lib.hid hr1
            clear hr1 hE1 hO1 HR1
            go_wp2_with (fail)
            refine HR1'.out.mono ?_
            rintro e w2 ⟨v16, rfl, hv16, hb2⟩
            have hz2 := hb2.size
            have hbx2 := (hb2.block _ (by omega)).trans HBXR.out
            obtain ⟨_, _, _⟩ := cells3 hbx2
            have B2 := Lib.hid (BR.out.trans (hb2.mono (by omega)) : Below w1.heap.size w1 w2)
            have hr2 := run_any n O a1 a2 a14 c1 c2 c14 T w2 (HP.out.below (B1.out.trans (B2.out.mono (by omega)))) (HS.out.below (B1.out.trans (B2.out.mono (by omega)))) (evsC_of_owns rfl (ownsRow_of_block HR14.out fun g hg => hb2.block g (HR14.out.lt g hg).2))
            unfold NRunOut at hr2
            rw [HX2.out] at hr2
            rw [show runR n O T = runO n O T.toNat by unfold runR; rw [if_pos HX2.out]] at hr2
            have HSO := Lib.hid (runO_short HX2.out)
            have HR2 := Lib.hid hr2
            have HV16 := Lib.hid hv16
            have HBX2 := Lib.hid hbx2
            clear hv16 hb2 hr2 hbx2
            go_wp2_with (fail)
            refine HR2.out.mono ?_
            rintro e w3 ⟨v18, rfl, hv18, hb3⟩
            have hz3 := hb3.size
            have hbx3 := (hb3.block _ (by omega)).trans HBX2.out
            obtain ⟨_, _, _⟩ := cells3 hbx3
            have B3 := Lib.hid (B2.out.trans (hb3.mono (by omega)) : Below w1.heap.size w1 w3)
            have B23 := Lib.hid (hb3 : Below w2.heap.size w2 w3)
            have HBX3 := Lib.hid hbx3
            have HV18 := Lib.hid hv18
            have hr3 : Calls Try.prog 32 #[.agg #[.slice a1 n.ps.length c1, .int .i64 n.inp, .slice a2 n.ss.length c2], .slice (some ⟨w3.heap.size, 0, none⟩) 1 1] (w3.alloc (.cells #[.int .i64 (-1 - xi)] 3)) (RcOut n [-1 - xi] (w3.alloc (.cells #[.int .i64 (-1 - xi)] 3))) :=
              nreach_any n [-1 - xi] a1 a2 (some ⟨w3.heap.size, 0, none⟩) c1 c2 1 (by simp) _ (HP.out.below (B1.out.trans ((B3.out.mono (by omega)).alloc (by omega) _))) (HS.out.below (B1.out.trans ((B3.out.mono (by omega)).alloc (by omega) _))) (Or.inr ⟨w3.heap.size, 0, 1, rfl, fun j hj => by
                obtain rfl : j = 0 := by simpa using hj
                exact (cells1 (alloc_new_at _ _ _ rfl)).1⟩)
            unfold RcOut at hr3
            rw [HRC.out.1, HRC.out.2] at hr3
            have HR3 := Lib.hid hr3
            clear hr3 hv18 hb3 hbx3
            have hx0 := hxi.1
            have hx1 := hxi.2
            go_wp2_with (fail)
            refine HR3.out.mono ?_
            rintro e w4 ⟨ra, rfl, hra, hb4⟩
            have hz4 := hb4.size
            rw [World.size_alloc] at hz4
            have hbx4 : NetBox w4 w.heap.size (.slice a1 n.ps.length c1) n.inp (.slice a2 n.ss.length c2) := (hb4.block _ (by simp; omega)).trans ((Below.heap_alloc _ _ _ (by omega)).trans HBX3.out)
            obtain ⟨_, _, _⟩ := cells3 hbx4
            obtain ⟨g, hg⟩ : ∃ g, ra = some ⟨g, 0, none⟩ ∧ BoolsAt w4 g n.ps.length (rchB n.ss [-1 - xi]) := by
              rcases hra with h | h
              · omega
              · exact h
            obtain ⟨rfl, hba⟩ := hg
            have HBA := Lib.hid hba
            have B34 := Lib.hid (((Below.refl _ _).alloc (Nat.le_refl _) _).trans (hb4.mono (by simp)) : Below w3.heap.size w3 w4)
            have B14 := Lib.hid (B3.out.trans (B34.out.mono (by omega)) : Below w1.heap.size w1 w4)
            have B24 := Lib.hid (B23.out.trans (B34.out.mono (by omega)) : Below w2.heap.size w2 w4)
            clear hba hra hb4 hbx4
            have BW := B14
            have BV := B34
            have HBAW := HBA
            obtain ⟨a18, c18, hf18⟩ := HV18.out.form
            subst hf18
            go_wp2_with (fail)
            refine (without_any (runO n O T.toNat) a18 c18 g n.ps.length (rchB n.ss [-1 - xi]) (by omega) HSO.out _ (HV18.out.below BV.out) HBAW.out).mono ?_
            rintro e w8 ⟨vo1, rfl, ho1, hb8⟩
            rw [HWO.out] at ho1
            obtain ⟨ao1, co1, rfl⟩ := own_sl ho1
            have hz8 := hb8.size
            have BW8 := Lib.hid (BW.out.trans (hb8.mono BW.out.size) : Below w1.heap.size w1 w8)
            have HO1 := Lib.hid (evsAt_of_owns ho1)
            have HBA8 := Lib.hid (HBAW.out.of_block (hb8.block _ HBAW.out.lt))
            clear ho1 hb8
            go_wp2_with (fail)
            refine (without_any (runO n l T.toNat) a11 c11 g n.ps.length (rchB n.ss [-1 - xi]) (by omega) HSL.out _ (HV11.out.below BW8.out) HBA8.out).mono ?_
            rintro e w9 ⟨vo2, rfl, ho2, hb9⟩
            rw [HWL.out] at ho2
            obtain ⟨ao2, co2, rfl⟩ := own_sl ho2
            have hsame2 := same_eq WL ao1 ao2 co1 co2 (by have := HWLL.out; omega) w9 (HO1.out.below (hb9.mono (Nat.le_refl _))) (evsAt_of_owns ho2)
            have HSAME2 := Lib.hid hsame2
            have hz9 := hb9.size
            have BW9 := Lib.hid (BW8.out.trans (hb9.mono BW8.out.size) : Below w1.heap.size w1 w9)
            clear ho2 hb9 hsame2
            go_wp2_with (fail)
            refine HSAME2.out.mono ?_
            rintro e w10 ⟨rfl, hb10⟩
            have BWX := Lib.hid (BW9.out.trans (hb10.mono BW9.out.size) : Below w1.heap.size w1 w10)
            clear hb10
            go_wp2_with (fail)
            refine (Lf.works_any _).mono ?_
            rintro e w11 ⟨rfl, hb11⟩
            have BF := Lib.hid ((B1.out.trans (BWX.out.mono B1.out.size)).trans (hb11.mono (by have := BWX.out.size; have := B1.out.size; omega)) : Below w.heap.size w w11)
            clear hb11
            go_wp2
            go_ret
            exact ⟨rfl, BF.out⟩
          · have HX1 := Lib.hid hE1
            have HX2 := Lib.hid hO1
            have hr1 := HR1.out
            rw [hE1] at hr1
            skip
            have HR1' := Lib.hid hr1
            clear hr1 hE1 hO1 HR1
            go_wp2_with (fail)
            refine HR1'.out.mono ?_
            rintro e w2 ⟨v16, rfl, hv16, hb2⟩
            have hz2 := hb2.size
            have hbx2 := (hb2.block _ (by omega)).trans HBXR.out
            obtain ⟨_, _, _⟩ := cells3 hbx2
            have B2 := Lib.hid (BR.out.trans (hb2.mono (by omega)) : Below w1.heap.size w1 w2)
            have hr2 := run_any n O a1 a2 a14 c1 c2 c14 T w2 (HP.out.below (B1.out.trans (B2.out.mono (by omega)))) (HS.out.below (B1.out.trans (B2.out.mono (by omega)))) (evsC_of_owns rfl (ownsRow_of_block HR14.out fun g hg => hb2.block g (HR14.out.lt g hg).2))
            unfold NRunOut at hr2
            rw [HX2.out] at hr2
            skip
            have HR2 := Lib.hid hr2
            have HV16 := Lib.hid hv16
            have HBX2 := Lib.hid hbx2
            clear hv16 hb2 hr2 hbx2
            go_wp2_with (fail)
            refine HR2.out.mono ?_
            rintro e w3 ⟨v18, rfl, hv18, hb3⟩
            have hz3 := hb3.size
            have hbx3 := (hb3.block _ (by omega)).trans HBX2.out
            obtain ⟨_, _, _⟩ := cells3 hbx3
            have B3 := Lib.hid (B2.out.trans (hb3.mono (by omega)) : Below w1.heap.size w1 w3)
            have B23 := Lib.hid (hb3 : Below w2.heap.size w2 w3)
            have HBX3 := Lib.hid hbx3
            have HV18 := Lib.hid hv18
            have hr3 : Calls Try.prog 32 #[.agg #[.slice a1 n.ps.length c1, .int .i64 n.inp, .slice a2 n.ss.length c2], .slice (some ⟨w3.heap.size, 0, none⟩) 1 1] (w3.alloc (.cells #[.int .i64 (-1 - xi)] 3)) (RcOut n [-1 - xi] (w3.alloc (.cells #[.int .i64 (-1 - xi)] 3))) :=
              nreach_any n [-1 - xi] a1 a2 (some ⟨w3.heap.size, 0, none⟩) c1 c2 1 (by simp) _ (HP.out.below (B1.out.trans ((B3.out.mono (by omega)).alloc (by omega) _))) (HS.out.below (B1.out.trans ((B3.out.mono (by omega)).alloc (by omega) _))) (Or.inr ⟨w3.heap.size, 0, 1, rfl, fun j hj => by
                obtain rfl : j = 0 := by simpa using hj
                exact (cells1 (alloc_new_at _ _ _ rfl)).1⟩)
            unfold RcOut at hr3
            rw [HRC.out.1, HRC.out.2] at hr3
            have HR3 := Lib.hid hr3
            clear hr3 hv18 hb3 hbx3
            have hx0 := hxi.1
            have hx1 := hxi.2
            go_wp2_with (fail)
            refine HR3.out.mono ?_
            rintro e w4 ⟨ra, rfl, hra, hb4⟩
            have hz4 := hb4.size
            rw [World.size_alloc] at hz4
            have hbx4 : NetBox w4 w.heap.size (.slice a1 n.ps.length c1) n.inp (.slice a2 n.ss.length c2) := (hb4.block _ (by simp; omega)).trans ((Below.heap_alloc _ _ _ (by omega)).trans HBX3.out)
            obtain ⟨_, _, _⟩ := cells3 hbx4
            obtain ⟨g, hg⟩ : ∃ g, ra = some ⟨g, 0, none⟩ ∧ BoolsAt w4 g n.ps.length (rchB n.ss [-1 - xi]) := by
              rcases hra with h | h
              · omega
              · exact h
            obtain ⟨rfl, hba⟩ := hg
            have HBA := Lib.hid hba
            have B34 := Lib.hid (((Below.refl _ _).alloc (Nat.le_refl _) _).trans (hb4.mono (by simp)) : Below w3.heap.size w3 w4)
            have B14 := Lib.hid (B3.out.trans (B34.out.mono (by omega)) : Below w1.heap.size w1 w4)
            have B24 := Lib.hid (B23.out.trans (B34.out.mono (by omega)) : Below w2.heap.size w2 w4)
            clear hba hra hb4 hbx4
            have BW := B14
            have BV := B34
            have HBAW := HBA
            have BWX := BW
            go_wp2_with (fail)
            refine (Lf.works_any _).mono ?_
            rintro e w11 ⟨rfl, hb11⟩
            have BF := Lib.hid ((B1.out.trans (BWX.out.mono B1.out.size)).trans (hb11.mono (by have := BWX.out.size; have := B1.out.size; omega)) : Below w.heap.size w w11)
            clear hb11
            go_wp2
            go_ret
            exact ⟨rfl, BF.out⟩

end Go.Proofs.Ytgbcdebnanejpaa.netCauses
