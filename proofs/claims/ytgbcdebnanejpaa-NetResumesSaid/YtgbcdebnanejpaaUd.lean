/- net.Resume. Over this seat's program. -/
import Derived.Test.YtgbcdebnanejpaaU1
import Derived.Test.YtgbcdebnanejpaaDl
namespace Go.Proofs.Ytgbcdebnanejpaa
set_option linter.unusedVariables false
open Go.RowKit Go.Shelf

def rk13 (bs T k rb nn rc : Nat) (ad : Addr) : Nat → Value
  | 0 => .pointer (some ⟨bs, 0, none⟩)
  | 1 => .pointer (some ⟨bs, 0, none⟩)
  | 2 => .pointer (some ⟨bs, 6, none⟩)
  | 3 => .pointer (some ⟨bs, 0, none⟩)
  | 4 => .pointer (some ⟨bs, 0, none⟩)
  | 5 => .pointer (some ⟨bs, 4, none⟩)
  | 6 => .int .i64 (T : Int)
  | 7 => .int .i64 (k : Int)
  | 8 => .int .i64 ((T : Int) + (k : Int))
  | 9 => .slice (some ⟨rb, 0, none⟩) nn nn
  | 10 => .slice (some ad) nn rc
  | 11 => .int .i64 (nn : Int)
  | _ => undef
/-- The error of Resume. -/
def resErr (n : NetM) (x : ImgM) : Int := if ncheck n ≠ 0 then ncheck n else imgErr n x
def ResOut (n : NetM) (x : ImgM) (w : World) (e : Ending) (w' : World) : Prop :=
  ∃ p, e = .returned (.tuple #[p, .int .i64 (resErr n x)]) ∧ Below w.heap.size w w' ∧ (resErr n x ≠ 0 → p = .pointer none) ∧
    (resErr n x = 0 → ∃ z : SimZ, p = .pointer (some ⟨z.bs, 0, none⟩) ∧ SimAt n w' w.heap.size z x.tk.toNat x.tk.toNat x.st (dueK x.tk.toNat x.du 16))
/-- What a good image holds. -/
structure ImgOk (n : NetM) (x : ImgM) : Prop where
  net : NetOk n
  tk0 : 0 ≤ x.tk
  tk1 : x.tk ≤ 10000
  st : x.st.length = n.ps.length
  du : x.du.length = 16
  rows : ∀ (k : Nat) (r : List Int), x.du[k]? = some r → r.length = n.ps.length
  ok : StOk n.ps x.st
  rng : ∀ (k : Nat) (r : List Int), x.du[k]? = some r → ∀ (j : Nat) (d : Int), r[j]? = some d → -268435456 ≤ d ∧ d ≤ 268435456
theorem imgOk_of {n : NetM} {x : ImgM} (h : resErr n x = 0) : ImgOk n x := by
  unfold resErr at h
  by_cases q : ncheck n ≠ 0
  · rw [if_pos q] at h; exact absurd h q
  rw [if_neg q] at h
  unfold imgErr at h
  by_cases q1 : inR x.tk 0 10000 = false
  · rw [if_pos q1] at h; cases h
  rw [if_neg q1] at h
  by_cases q2 : x.st.length ≠ n.ps.length
  · rw [if_pos q2] at h; cases h
  rw [if_neg q2] at h
  by_cases q3 : x.du.length ≠ 16
  · rw [if_pos q3] at h; cases h
  rw [if_neg q3] at h
  by_cases q4 : (x.du.all fun r => decide (r.length = n.ps.length)) = false
  · rw [if_pos q4] at h; cases h
  rw [if_neg q4] at h
  by_cases q5 : stGood n.ps x.st = false
  · rw [if_pos q5] at h; cases h
  rw [if_neg q5] at h
  by_cases q6 : x.du.all rowGood = false
  · rw [if_pos q6] at h; cases h
  have e1 : inR x.tk 0 10000 = true := by simpa using q1
  obtain ⟨e1, e2⟩ := inR_true.1 e1
  have e4 := List.all_eq_true.1 (show (x.du.all fun r => decide (r.length = n.ps.length)) = true by simpa using q4)
  have e5 := List.all_eq_true.1 (show stGood n.ps x.st = true by simpa using q5)
  have e6 := List.all_eq_true.1 (show x.du.all rowGood = true by simpa using q6)
  refine ⟨netOk_of (by omega), e1, e2, by omega, by omega, fun k r hr => by simpa using e4 r (List.mem_of_getElem? hr), fun i p hp => ?_, fun k r hr j d hd => ?_⟩
  · have hi := (List.getElem?_eq_some_iff.1 hp).1
    have := e5 i (List.mem_range.2 (by omega))
    rw [show pAt n.ps i = p by simp [pAt, hp]] at this
    simpa using this
  · have := List.all_eq_true.1 (e6 r (List.mem_of_getElem? hr)) d (List.mem_of_getElem? hd)
    exact inR_true.1 this

set_option maxRecDepth 100000 in
set_option maxHeartbeats 8000000 in
theorem resume_any (n : NetM) (x : ImgM) (a1 a2 a3 a4 : Option Addr) (c1 c2 c3 c4 : Nat) (w : World) (hp : PsAt w (.slice a1 n.ps.length c1) n.ps) (hs : SsAt w (.slice a2 n.ss.length c2) n.ss) (hst : StsAt w (.slice a3 x.st.length c3) x.st) (hdu : RowsIn w (.slice a4 x.du.length c4) x.du) :
    Calls Try.prog 41 #[.agg #[.slice a1 n.ps.length c1, .int .i64 n.inp, .slice a2 n.ss.length c2], .agg #[.int .i64 x.tk, .slice a3 x.st.length c3, .slice a4 x.du.length c4]] w (ResOut n x w) := by
  obtain ⟨E1, hE1⟩ : ∃ E, E = ncheck n := ⟨_, rfl⟩
  obtain ⟨E2, hE2⟩ : ∃ E, E = imgErr n x := ⟨_, rfl⟩
  have hck := fun W (hb : Below w.heap.size w W) => ncheck_any n a1 a2 c1 c2 W (hp.below hb) (hs.below hb)
  rw [← hE1] at hck
  have hb0 : Below w.heap.size w ((w.alloc (.cells #[.slice a1 n.ps.length c1, .int .i64 n.inp, .slice a2 n.ss.length c2] 25)).alloc (.cells #[.int .i64 x.tk, .slice a3 x.st.length c3, .slice a4 x.du.length c4] 66)) := ((Below.refl _ _).alloc (Nat.le_refl _) _).alloc (by simp) _
  have hbb := boxed2 w 66 (.slice a1 n.ps.length c1) (.slice a2 n.ss.length c2) (.slice a3 x.st.length c3) (.slice a4 x.du.length c4) n.inp x.tk
  have HB0 := Lib.hid hb0
  have HBB := Lib.hid hbb
  have HCK := Lib.hid hck
  have HE1 := Lib.hid hE1
  have HE2 := Lib.hid hE2
  have hbg := fun (hok : NetOk n) W (hb : Below w.heap.size w W) => Bg.begin_any n hok a1 a2 c1 c2 W (hp.below hb) (hs.below hb)
  have hci := fun (hok : NetOk n) W (hb : Below w.heap.size w W) => checkImage_any n hok x a1 a2 a3 a4 c1 c2 c3 c4 W (hp.below hb) (hst.below hb) (hdu.below hb)
  rw [← hE2] at hci
  have HBG := Lib.hid hbg
  have HCI := Lib.hid hci
  have HST := Lib.hid hst
  have HDU := Lib.hid hdu
  clear hp hs hst hdu hE1 hE2 hck hb0 hbb hbg hci
  by_cases hz1 : E1 = 0
  · have g1 : (E1 != 0) = false := by simp [hz1]
    have hok : NetOk n := netOk_of (by rw [← HE1.out]; exact hz1)
    have HOK := Lib.hid hok
    have HZ1 := Lib.hid hz1
    clear hz1 hok
    by_cases hz2 : E2 = 0
    · have g2 : (E2 != 0) = false := by simp [hz2]
      have hre : resErr n x = 0 := by unfold resErr; rw [← HE1.out, ← HE2.out, HZ1.out]; simpa using hz2
      have HRE := Lib.hid hre
      have HIM := Lib.hid (imgOk_of hre)
      clear hz2 hre
      go_enter Try.func41, Try.ntmps41
      go_upto_region 2 with (go_at_call 19; refine (HCK.out _ HB0.out).mono ?_; rintro e w1 ⟨rfl, hb1⟩; have hbb1 := HBB.out.below hb1; obtain ⟨_, _, _⟩ := cells3 hbb1.net; obtain ⟨_, _, _⟩ := cells3 hbb1.img; have HB1 := Lib.hid (HB0.out.trans (hb1.mono HB0.out.size)); have HBB1 := Lib.hid hbb1; clear hb1 hbb1)
      go_upto_region 5 with (go_at_call 82; refine (HCI.out HOK.out _ HB1.out).mono ?_; rintro e w2 ⟨rfl, hb2⟩; have hbb2 := HBB1.out.below hb2; obtain ⟨_, _, _⟩ := cells3 hbb2.net; obtain ⟨_, _, _⟩ := cells3 hbb2.img; have HB2 := Lib.hid (HB1.out.trans (hb2.mono HB1.out.size)); have HBB2 := Lib.hid hbb2; clear hb2 hbb2)
      go_upto_region 8 with (go_at_call 59; refine (HBG.out HOK.out _ HB2.out).mono ?_; rintro e w3 ⟨z, rfl, hsim, hb3⟩; have hbb3 := HBB2.out.below hb3; obtain ⟨_, _, _⟩ := cells3 hbb3.img; have HB3 := Lib.hid (HB2.out.trans (hb3.mono HB2.out.size)); have HBB3 := Lib.hid hbb3; have HSIM := Lib.hid hsim; clear hb3 hbb3 hsim)
      obtain ⟨T, hT⟩ : ∃ T : Nat, x.tk = (T : Int) := ⟨x.tk.toNat, by have := HIM.out.tk0; omega⟩
      have hT4 : (T : Int) ≤ 10000 := by have := HIM.out.tk1; omega
      have hlen := HIM.out.st
      have hdl := HIM.out.du
      have HTT : Hid (x.tk.toNat = T) := Lib.hid (by rw [hT]; simp)
      rw [hdl] at HBB3 HDU ⊢
      obtain ⟨N, hN⟩ : ∃ N, n.ps.length = N := ⟨_, rfl⟩
      rw [hlen, hN] at HBB3 HST ⊢
      have HT := Lib.hid hT
      have HN := Lib.hid hN
      have HDL := Lib.hid hdl
      have HLEN := Lib.hid hlen
      have hN0 : 1 ≤ N := by rw [← hN]; exact HOK.out.p0
      have hN1 : N ≤ 1024 := by rw [← hN]; exact HOK.out.p1
      have HBX2 : Hid (w.heap.size ≤ w2.heap.size) := Lib.hid HB2.out.size
      have HBL2 : Hid (w.heap.size + 1 < w2.heap.size) := Lib.hid (lt_of_block HBB2.out.img)
      clear HBB2 HBB1 HB1 HBB hT hlen hdl hN
      have hfz := HSIM.out.nowCell
      obtain ⟨b0, b1, b2⟩ := cells3 HBB3.out.img
      rw [show (beginM n).due = fun _ _ => 0 from rfl] at HSIM
      have hs1 := (HSIM.out.turn T).retick T
      rw [← HT.out] at hs1
      have hbz := HSIM.out.lo z.bs (.inl rfl)
      have hbo : ∀ b, b ≠ z.bs → (w3.setCell ⟨z.bs, 4, none⟩ (.int .i64 x.tk)).heap[b]? = w3.heap[b]? := fun b hn => Below.heap_setCell w3 ⟨z.bs, 4, none⟩ (.int .i64 x.tk) b hn
      have hcell4 := HSIM.out.head.2.2.2.2.1
      go_upto_region 9 with (fail)
      have hb4 : Below w.heap.size w (w3.setCell ⟨z.bs, 4, none⟩ (.int .i64 x.tk)) := HB3.out.setCell (p := ⟨z.bs, 4, none⟩) (by show w.heap.size ≤ z.bs; have := HBX2.out; omega) _
      have himg : ImgBox (w3.setCell ⟨z.bs, 4, none⟩ (.int .i64 x.tk)) (w.heap.size + 1) 66 x.tk (.slice a3 N c3) (.slice a4 16 c4) := (hbo _ (by have := HBB3.out.img; have := HBX2.out; have := HBL2.out; omega)).trans HBB3.out.img
      generalize w3.setCell ⟨z.bs, 4, none⟩ (.int .i64 x.tk) = W4 at *
      have HS1 := Lib.hid hs1
      have HB4 := Lib.hid hb4
      have HIMG := Lib.hid himg
      obtain ⟨_, _, _⟩ := cells3 himg
      have hc5 := hs1.head.2.2.2.2.2
      rw [HN.out] at hc5
      clear hs1 hb4 himg hbo hcell4 b0 b1 b2 hfz HSIM HB3 HBB3 hbz
      obtain ⟨s0, hs0⟩ : ∃ s, x.st[0]? = some s := ⟨_, List.getElem?_eq_getElem (by rw [HLEN.out, HN.out]; omega)⟩
      obtain ⟨sb, so, rfl, hsl, _⟩ := HST.out.at hs0
      clear hs0
      go_still_tail 6, (by kernel_rfl)
      change wpList _ _ _ _ _ W4.drew
      have hsD : SimAt n W4.drew w2.heap.size z T T (beginM n).st (fun _ _ => 0) := by
        have e : ∀ b : Nat, W4.drew.heap[b]? = W4.heap[b]? := fun b => rfl
        have := HS1.out.keepN HS1.out.isIn fun b _ => e b
        exact this
      have hb5 : Below w.heap.size w W4.drew := HB4.out.drew
      have himg5 : ImgBox W4.drew (w.heap.size + 1) 66 x.tk (.slice (some ⟨sb, so, none⟩) N c3) (.slice a4 16 c4) := HIMG.out
      generalize W4.drew = W5 at *
      have hcs := (HST.out.below hb5).cellsAll
      have hl1 : (stC x.st).length = N * 2 := by rw [stC_length, HLEN.out, HN.out]
      have hsb := hsD.lo z.sb (.inr (.inl rfl))
      refine wpList_copy_all rfl _ _ 61 61 rfl 98 2 Try.underlying61 (by kernel_rfl) z.sb N N ⟨sb, so, none⟩ c3 rfl rfl _ 98 hsD.stb (stC x.st) hl1 (by rw [hl1]; simp [stC_length, hsD.len, HN.out]) hcs (fun v hv => stC_one hv) ?_
      have hs6 : SimAt n (W5.setRow z.sb (stC x.st).toArray) w2.heap.size z T T x.st (fun _ _ => 0) := hsD.newSt (by rw [HLEN.out]) (fun b _ hn => setRow_other _ _ _ _ hn) (setRow_heap _ _ _ _ _ _ hsD.stb)
      have hb6 : Below w.heap.size w (W5.setRow z.sb (stC x.st).toArray) := below_setRow hb5 (by have := HBX2.out; omega) _
      have himg6 : ImgBox (W5.setRow z.sb (stC x.st).toArray) (w.heap.size + 1) 66 x.tk (.slice (some ⟨sb, so, none⟩) N c3) (.slice a4 16 c4) := (setRow_other _ _ _ _ (by have := HBL2.out; omega)).trans himg5
      generalize W5.setRow z.sb (stC x.st).toArray = W6 at *
      obtain ⟨_, _, _⟩ := cells3 himg6
      rw [← dueK_zero T x.du] at hs6
      have HS6 := Lib.hid hs6
      have HB6 := Lib.hid hb6
      clear hcs hl1 hsb hsD hb5 himg5 hs6 hb6 himg6 HS1 HB4 HIMG hc5
      go_wp2
      go_loopw [39] (fun i wr => ∃ k : Nat, k ≤ 16 ∧ i = .int .i64 k ∧ SimAt n wr w2.heap.size z T T x.st (dueK T x.du k) ∧ Below w.heap.size w wr) (fun i _ => 16 - (intOf i).toNat)
      case atStart => exact ⟨0, Nat.zero_le _, rfl, HS6.out, HB6.out⟩
      case round =>
        obtain ⟨k, hk, rfl, hs, hb⟩ := hrel
        have hk0 : (0 : Int) ≤ (k : Int) := Int.natCast_nonneg _
        have HS := Lib.hid hs
        have HB := Lib.hid hb
        by_cases hlt : k < 16
        · have hk1 : (k : Int) < 16 := by omega
          obtain ⟨r, hr⟩ : ∃ r, x.du[k]? = some r := ⟨_, List.getElem?_eq_getElem (by rw [HDL.out]; exact hlt)⟩
          obtain ⟨rb, ro, ra, rc, rfl, hrl, hrc, hri⟩ := HDU.out.at hr
          have hrn : r.length = N := by rw [← HN.out]; exact HIM.out.rows k r hr
          rw [hrn] at hrc hri
          have hrc' := (hb.cell (p := ⟨rb, ro + k, none⟩) hrl).trans hrc
          have hri' := hri.below hb
          obtain ⟨d0, hd0⟩ : ∃ d, r[0]? = some d := ⟨_, List.getElem?_eq_getElem (by omega)⟩
          obtain ⟨ad, rfl, _, _⟩ := hri'.at hd0
          have hrs := hs.rowSlice (T + k)
          rw [HN.out] at hrs
          have hnow := hs.head.2.2.2.2.1
          have HR := Lib.hid hr
          have HRN := Lib.hid hrn
          have HRI := Lib.hid hri'
          clear hs hb hr hrc hri hrn hri' hd0
          go_upto_region 13 with (fail)
          have HRS := Lib.hid hrs
          have HNOW := Lib.hid hnow
          clear hrs hnow
          refine wp_region_last (rk13 z.bs T k (z.rb ((T + k) % 16)) N rc ad) (fun _ => true) (fun _ => true) (fun W => W = wr.drew) (fun W => W = wr.drew.setRow (z.rb ((T + k) % 16)) (r.map (Value.int .i64)).toArray) 11 (by kernel_rfl) rfl (by kernel_rfl) (by kernel_rfl) (by kernel_rfl) (by kernel_rfl) (by simp [dstIn]) ?gv ?un ?ini ?stp ?lst ?dn
          case gv => intro i hi; simp [isGd] at hi
          case un => intro i hi hw; simp at hw
          case ini =>
            rfl
          case stp =>
            intro W1 i o b' ho hic hwt hI hh hlate
            have hi := (List.getElem?_eq_some_iff.1 ho).1
            have hc : i = 0 ∨ i = 1 ∨ i = 2 ∨ i = 3 ∨ i = 4 ∨ i = 5 ∨ i = 6 ∨ i = 7 ∨ i = 8 ∨ i = 9 ∨ i = 10 ∨ i = 11 := by simp at hi; omega
            have hI0 := hI
            have hrs1 : W1.cell? ⟨z.bs, 6 + (T + k) % 16, none⟩ = some (.slice (some ⟨z.rb ((T + k) % 16), 0, none⟩) N N) := by rw [hI]; exact HRS.out
            have hnow1 : W1.cell? ⟨z.bs, 4, none⟩ = some (.int .i64 (T : Int)) := by rw [hI]; exact HNOW.out
            clear hI0
            have HI := Lib.hid hI
            clear hi hI
            have k8 := hh.kept 8 (by simp)
            simp at k8
            have k9 := hh.kept 9 (by simp)
            simp at k9
            have k10 := hh.kept 10 (by simp)
            simp at k10
            rcases hc with rfl | rfl | rfl | rfl | rfl | rfl | rfl | rfl | rfl | rfl | rfl | rfl
            · simp only [List.getElem?_cons_zero, Option.some.injEq] at ho
              subst ho
              go_simp
              exact ⟨rfl, HI.out⟩
            · simp only [List.getElem?_cons_zero, List.getElem?_cons_succ, Option.some.injEq] at ho
              subst ho
              have g0 := hh.got 0 _ 44 rfl rfl ⟨⟨0, .data⟩, by simp, rfl, rfl⟩ (by simp)
              simp [rk13] at g0
              go_simp
              exact ⟨rfl, HI.out⟩
            · simp only [List.getElem?_cons_zero, List.getElem?_cons_succ, Option.some.injEq] at ho
              subst ho
              have g1 := hh.got 1 _ 45 rfl rfl ⟨⟨1, .data⟩, by simp, rfl, rfl⟩ (by simp)
              simp [rk13] at g1
              go_simp
              exact ⟨rfl, HI.out⟩
            · simp only [List.getElem?_cons_zero, List.getElem?_cons_succ, Option.some.injEq] at ho
              subst ho
              go_simp
              exact ⟨rfl, HI.out⟩
            · simp only [List.getElem?_cons_zero, List.getElem?_cons_succ, Option.some.injEq] at ho
              subst ho
              have g3 := hh.got 3 _ 47 rfl rfl ⟨⟨3, .data⟩, by simp, rfl, rfl⟩ (by simp)
              simp [rk13] at g3
              go_simp
              exact ⟨rfl, HI.out⟩
            · simp only [List.getElem?_cons_zero, List.getElem?_cons_succ, Option.some.injEq] at ho
              subst ho
              have g4 := hh.got 4 _ 48 rfl rfl ⟨⟨4, .data⟩, by simp, rfl, rfl⟩ (by simp)
              simp [rk13] at g4
              go_simp
              exact ⟨rfl, HI.out⟩
            · simp only [List.getElem?_cons_zero, List.getElem?_cons_succ, Option.some.injEq] at ho
              subst ho
              have g5 := hh.got 5 _ 49 rfl rfl ⟨⟨5, .data⟩, by simp, rfl, rfl⟩ (by simp)
              simp [rk13] at g5
              go_simp
              exact ⟨rfl, HI.out⟩
            · simp only [List.getElem?_cons_zero, List.getElem?_cons_succ, Option.some.injEq] at ho
              subst ho
              go_simp
              exact ⟨rfl, HI.out⟩
            · simp only [List.getElem?_cons_zero, List.getElem?_cons_succ, Option.some.injEq] at ho
              subst ho
              have g6 := hh.got 6 _ 50 rfl rfl ⟨⟨6, .data⟩, by simp, rfl, rfl⟩ (by simp)
              have g7 := hh.got 7 _ 51 rfl rfl ⟨⟨7, .data⟩, by simp, rfl, rfl⟩ (by simp)
              simp [rk13] at g6 g7
              go_simp
              exact ⟨by rw [IntWalk.i64_in _ (by omega)]; rfl, HI.out⟩
            · simp only [List.getElem?_cons_zero, List.getElem?_cons_succ, Option.some.injEq] at ho
              subst ho
              have g2 := hh.got 2 _ 46 rfl rfl ⟨⟨2, .data⟩, by simp, rfl, rfl⟩ (by simp)
              have g8 := hh.got 8 _ 52 rfl rfl ⟨⟨8, .data⟩, by simp, rfl, rfl⟩ (by simp)
              simp [rk13] at g2 g8
              go_simp
              go_at_call 80
              refine (row_any z.bs 6 (T + k) (.slice (some ⟨z.rb ((T + k) % 16), 0, none⟩) N N) (by omega) _ (by assumption)).mono ?_
              rintro e w6 ⟨rfl, rfl⟩
              exact ⟨rfl, HI.out⟩
            · simp only [List.getElem?_cons_zero, List.getElem?_cons_succ, Option.some.injEq] at ho
              subst ho
              go_simp
              exact ⟨rfl, HI.out⟩
            · simp only [List.getElem?_cons_zero, List.getElem?_cons_succ, Option.some.injEq] at ho
              subst ho
              have g9 := hh.got 9 _ 53 rfl rfl ⟨⟨9, .data⟩, by simp, rfl, rfl⟩ (by simp)
              have g10 := hh.got 10 _ 54 rfl rfl ⟨⟨10, .data⟩, by simp, rfl, rfl⟩ (by simp)
              simp [rk13] at g9 g10
              exact absurd rfl hic
          case lst =>
            intro W1 o b' ho hI hh
            simp only [List.getElem?_cons_zero, List.getElem?_cons_succ, Option.some.injEq] at ho
            subst ho
            have g9 := hh.got 9 _ 53 rfl rfl ⟨⟨9, .data⟩, by simp, rfl, rfl⟩ (by simp)
            have g10 := hh.got 10 _ 54 rfl rfl ⟨⟨10, .data⟩, by simp, rfl, rfl⟩ (by simp)
            simp [rk13] at g9 g10
            have hI0 := hI
            have hrs1 : W1.cell? ⟨z.bs, 6 + (T + k) % 16, none⟩ = some (.slice (some ⟨z.rb ((T + k) % 16), 0, none⟩) N N) := by rw [hI]; exact HRS.out
            have hnow1 : W1.cell? ⟨z.bs, 4, none⟩ = some (.int .i64 (T : Int)) := by rw [hI]; exact HNOW.out
            clear hI0
            have HI := Lib.hid hI
            clear hI
            refine oper_copy_all (.tmp 53) (.tmp 54) 44 44 rfl 3 1 Try.underlying44 (by kernel_rfl) (z.rb ((T + k) % 16)) N N ad rc (by simpa [Act.eval] using g9) (by simpa [Act.eval] using g10) _ 3 (by rw [HI.out]; exact HS.out.row (T + k) (by omega) (by omega)) (r.map (Value.int .i64)) (by simp [HRN.out]) (by simp [rowC, HN.out, HRN.out]) (by rw [HI.out]; exact HRI.out.cellsAll) (fun v hv => ints_one hv) ⟨rfl, by rw [HI.out]⟩
          case dn =>
            intro W1 b' hI hb
            simp only [puts, rk13] at hb
            subst hb
            simp only [Act.put, List.setIfInBounds_toArray, List.set_cons_succ, List.set_cons_zero]
            have hnr : SimAt n W1 w2.heap.size z T T x.st (dueK T x.du (k + 1)) := by
              have e : ∀ b : Nat, wr.drew.heap[b]? = wr.heap[b]? := fun b => rfl
              have hx : ∀ b, b ≠ z.rb ((T + k) % 16) → W1.heap[b]? = wr.heap[b]? := fun b hn => by rw [hI, setRow_other _ _ _ _ hn]; rfl
              have := HS.out.newRow (A' := W1) (T + k) (by omega) (by omega) (rowF r) hx (by rw [hI]; simp [World.setRow]) (by
                have h1 := setRow_heap wr.drew (z.rb ((T + k) % 16)) _ (r.map (Value.int .i64)).toArray 3 (0, 0) (HS.out.row (T + k) (by omega) (by omega))
                rw [← rowC_rowF, HRN.out] at h1
                rw [hI, ← rowC_rowF, HRN.out]
                unfold RowAt
                rw [HN.out]
                exact h1)
              rw [dueK_succ HR.out] at this
              exact this
            have hbr : Below w.heap.size w W1 := by
              rw [hI]
              exact below_setRow HB.out.drew (by have := HS.out.lo _ (.inr (.inr ⟨(T + k) % 16, Nat.mod_lt _ (by omega), rfl⟩)); have := HBX2.out; omega) _
            clear hI
            go_wp2
            go_roundw
            case rel => exact ⟨k + 1, by omega, by go_num, hnr, hbr⟩
            case measure => simp [intOf]; omega
        · have hk6 : k = 16 := by omega
          subst hk6
          clear hs hb
          go_wp2
          go_ret2
          exact ⟨_, by rw [HRE.out]; rfl, HB.out, fun h => absurd HRE.out h, fun _ => ⟨z, rfl, by rw [HTT.out]; exact HS.out.lower HBX2.out⟩⟩
    · have g2 : (E2 != 0) = true := by simp [hz2]
      have hre : resErr n x = E2 := by unfold resErr; rw [← HE1.out, ← HE2.out, HZ1.out]; simp
      have HRE := Lib.hid hre
      have HZ2 := Lib.hid hz2
      clear hre hz2
      go_enter Try.func41, Try.ntmps41
      go_upto_region 2 with (go_at_call 19; refine (HCK.out _ HB0.out).mono ?_; rintro e w1 ⟨rfl, hb1⟩; have hbb1 := HBB.out.below hb1; obtain ⟨_, _, _⟩ := cells3 hbb1.net; obtain ⟨_, _, _⟩ := cells3 hbb1.img; have HB1 := Lib.hid (HB0.out.trans (hb1.mono HB0.out.size)); have HBB1 := Lib.hid hbb1; clear hb1 hbb1)
      go_upto_region 5 with (go_at_call 82; refine (HCI.out HOK.out _ HB1.out).mono ?_; rintro e w2 ⟨rfl, hb2⟩; have HB2 := Lib.hid (HB1.out.trans (hb2.mono HB1.out.size)); clear hb2)
      go_wp2
      go_ret2
      exact ⟨_, by rw [HRE.out]; rfl, HB2.out, fun _ => rfl, fun h => absurd (HRE.out.symm.trans h) HZ2.out⟩
  · have g1 : (E1 != 0) = true := by simp [hz1]
    have hre : resErr n x = E1 := by unfold resErr; rw [← HE1.out, if_pos hz1]
    have HRE := Lib.hid hre
    have HZ1 := Lib.hid hz1
    clear hre hz1
    go_enter Try.func41, Try.ntmps41
    go_upto_region 2 with (go_at_call 19; refine (HCK.out _ HB0.out).mono ?_; rintro e w1 ⟨rfl, hb1⟩; have HB1 := Lib.hid (HB0.out.trans (hb1.mono HB0.out.size)); clear hb1)
    go_wp2
    go_ret2
    exact ⟨_, by rw [HRE.out]; rfl, HB1.out, fun _ => rfl, fun h => absurd (HRE.out.symm.trans h) HZ1.out⟩
end Go.Proofs.Ytgbcdebnanejpaa
