/- The specification's Reach where it gives an error. Over this seat's program. (mk_Vc.py wrote this.) -/
import Derived.Test.YtgbcdebnanejpaaVb
import Derived.Test.YtgbcdebnanejpaaNd
namespace Go.Proofs.Ytgbcdebnanejpaa
set_option linter.unusedVariables false
open Go.RowKit Go.Shelf

def ReachErr (c : Int) (w : World) (e : Ending) (w' : World) : Prop :=
  e = .returned (.tuple #[.slice none 0 0, .int .i64 c]) ∧ Below w.heap.size w w'

theorem rreach_err0 (n : NetM) (he : ncheck n ≠ 0) (a1 a2 : Option Addr) (c1 c2 : Nat) (sv : Value) (w : World)
    (hp : PsAt w (.slice a1 n.ps.length c1) n.ps) (hs : SsAt w (.slice a2 n.ss.length c2) n.ss) :
    Calls Try.prog 33 #[.agg #[.slice a1 n.ps.length c1, .int .i64 n.inp, .slice a2 n.ss.length c2], sv] w (ReachErr (ncheck n) w) := by
  have hck := fun W (hb : Below w.heap.size w W) => rncheck_any n a1 a2 c1 c2 W (hp.below hb) (hs.below hb)
  obtain ⟨c, hc⟩ : ∃ c, c = ncheck n := ⟨_, rfl⟩
  obtain ⟨k, hk⟩ : ∃ k, k = n.ps.length := ⟨_, rfl⟩
  obtain ⟨mm, hmm⟩ : ∃ mm, mm = n.ss.length := ⟨_, rfl⟩
  obtain ⟨inp, hi⟩ : ∃ inp, inp = n.inp := ⟨_, rfl⟩
  rw [← hc, ← hk, ← hmm, ← hi] at hck
  rw [← hc] at he
  rw [← hc, ← hk, ← hmm, ← hi]
  have HCK := Lib.hid hck
  clear hck hp hs hc hk hmm hi
  unfold ReachErr
  have e1 : (c == 0) = false := by simp [he]
  have e2 : (c != 0) = true := by simp [he]
  go_enter Try.func33, Try.ntmps33
  go_wp2_with (go_at_call 20; refine (HCK.out _ ((Below.refl _ _).alloc (Nat.le_refl _) _)).mono ?_; rintro e w1 ⟨rfl, hb1⟩; have hbx1 : NetBox w1 w.heap.size (.slice a1 k c1) inp (.slice a2 mm c2) := (hb1.block _ (by simp)).trans (alloc_new_at _ _ _ rfl); have B1 := Lib.hid (((Below.refl _ _).alloc (Nat.le_refl _) _).trans (hb1.mono (by simp)) : Below w.heap.size w w1); clear hb1 hbx1)
  exact bodyPost_ret (v := .tuple #[.slice none 0 0, .int .i64 c]) (by simp [results, Try.results33, go_sem]) rfl ⟨rfl, B1.out⟩

set_option maxRecDepth 100000 in
set_option maxHeartbeats 1000000 in
theorem rreach_err3 (n : NetM) (hok : ncheck n = 0) (a1 a2 : Option Addr) (c1 c2 k mm : Nat) (inp : Int) (hk : k = n.ps.length) (hmm : mm = n.ss.length) (hinp : inp = n.inp) (zs : List Int) (f : Nat) (hfm : f < zs.length) (hbad : srcOk k inp (zs[f]?.getD 0) = false) (hz : ∀ j, j < f → srcOk k inp (zs[j]?.getD 0) = true) (sa : Option Addr) (m cap : Nat) (hm : m = zs.length) (hm2 : m ≤ 100) (w : World)
    (hp : PsAt w (.slice a1 k c1) n.ps) (hs : SsAt w (.slice a2 mm c2) n.ss) (hI : IntsAt w (.slice sa m cap) zs) :
    Calls Try.prog 33 #[.agg #[.slice a1 k c1, .int .i64 inp, .slice a2 mm c2], .slice sa m cap] w (ReachErr 3 w) := by
  have hN := netOk_of hok
  have hck : ∀ W, Below w.heap.size w W → Calls Try.prog 20 #[.agg #[.slice a1 k c1, .int .i64 inp, .slice a2 mm c2]] W fun e w' => e = .returned (.int .i64 0) ∧ Below W.heap.size W w' := fun W hb => by
    subst hk hmm hinp
    have := rncheck_any n a1 a2 c1 c2 W (hp.below hb) (hs.below hb)
    rw [hok] at this
    exact this
  have p1 : k ≤ 1024 := by rw [hk]; exact hN.p1
  have i0 : 0 ≤ inp := by rw [hinp]; exact hN.i0
  have i1 : inp ≤ 256 := by rw [hinp]; exact hN.i1
  have hfm2 : f < m := by omega
  have hsrc : ∀ z W, Calls Try.prog 57 #[.agg #[.slice a1 k c1, .int .i64 inp, .slice a2 mm c2], .int .i64 z] W fun e w' => e = .returned (.bool (srcOk k inp z)) ∧ Below W.heap.size W w' := fun z W => rsrc_any a1 k c1 inp (.slice a2 mm c2) z i0 i1 p1 W
  have hwf : ∀ z : Int, srcOk k inp z = true → (Lit.int .i64 z).wf = true := fun z h => by simp [srcOk, inR] at h; exact wf64 (by omega) (by omega)
  have htl : ∀ j, j < m → ∃ tb to, sa = some ⟨tb, to, none⟩ ∧ w.cell? ⟨tb, to + j, none⟩ = some (.int .i64 (zs[j]?.getD 0)) ∧ tb < w.heap.size := fun j hj => by
    rcases hI with ⟨_, rfl⟩ | ⟨b, off, cap', e, hc⟩
    · simp at hm; omega
    · cases e
      have hc := hc j (by omega)
      exact ⟨b, off, rfl, hc, World.block_lt_of_cell? w _ hc⟩
  unfold ReachErr
  have HCK := Lib.hid hck
  have HSR := Lib.hid hsrc
  have HTL := Lib.hid htl
  have HWF := Lib.hid hwf
  have HZ := Lib.hid hz
  have HBAD := Lib.hid hbad
  clear hck hsrc htl hwf hm hmm hk hinp hok hN hp hs hI hz hbad hfm
  have hmk := @run_makeMap Try.prog
  go_enter Try.func33, Try.ntmps33
  go_wp2_with (go_at_call 20; refine (HCK.out _ ((Below.refl _ _).alloc (Nat.le_refl _) _)).mono ?_; rintro e w1 ⟨rfl, hb1⟩; have hbx1 : NetBox w1 w.heap.size (.slice a1 k c1) inp (.slice a2 mm c2) := (hb1.block _ (by simp)).trans (alloc_new_at _ _ _ rfl); have hz1 := lt_of_block hbx1; have B1 := Lib.hid (((Below.refl _ _).alloc (Nat.le_refl _) _).trans (hb1.mono (by simp)) : Below w.heap.size w w1); have BX1 := Lib.hid hbx1; clear hb1 hbx1)
  have hm0 : MapIs (w1.alloc (.map #[] 0)) w1.heap.size 0 (metM fun _ => false) := by rw [← metM_none]; exact MapIs.made w1
  obtain ⟨mb, hmb⟩ : ∃ mb, mb = w1.heap.size := ⟨_, rfl⟩
  have b0 : Below w.heap.size w (w1.alloc (.map #[] 0)) := B1.out.alloc (by omega) _
  have x0 : NetBox (w1.alloc (.map #[] 0)) w.heap.size (.slice a1 k c1) inp (.slice a2 mm c2) := (Below.heap_alloc _ _ _ hz1).trans BX1.out
  have hmbw : w.heap.size < mb := by omega
  rw [← hmb] at hm0 ⊢
  have M0 := Lib.hid hm0
  have B0 := Lib.hid b0
  have X0 := Lib.hid x0
  clear hm0 b0 x0 hmb
  go_loopw [8] (fun s8 wr => ∃ j : Nat, j ≤ f ∧ s8 = .int .i64 j ∧ (∃ cnt g, cnt ≤ j ∧ MapIs wr mb cnt (metM g)) ∧ NetBox wr w.heap.size (.slice a1 k c1) inp (.slice a2 mm c2) ∧ Below w.heap.size w wr) (fun s8 _ => m - (intOf s8).toNat)
  case atStart => exact ⟨0, Nat.zero_le _, rfl, ⟨0, _, Nat.le_refl _, M0.out⟩, X0.out, B0.out⟩
  case round =>
    obtain ⟨j, hj, rfl, ⟨cnt, gm, hcnt, hmap⟩, hbx, hb⟩ := hrel
    have hj0 : (0 : Int) ≤ (j : Int) := Int.natCast_nonneg _
    have hzr := lt_of_block hbx
    have hmbl := hmap.lt
    have HMAP := Lib.hid hmap
    have HBX := Lib.hid hbx
    have HB := Lib.hid hb
    clear hmap hbx hb
    have JM : j < m := by omega
    have hj1 : (j : Int) < (m : Int) := by omega
    by_cases hlt : j < f
    · obtain ⟨tb, to, rfl, hct, htb0⟩ := HTL.out j JM
      obtain ⟨z, hz⟩ : ∃ z, z = zs[j]?.getD 0 := ⟨_, rfl⟩
      rw [← hz] at hct
      have HC1 := Lib.hid ((HB.out.cell (p := ⟨tb, to + j, none⟩) htb0).trans hct)
      have htb : tb < wr.heap.size := by have := HB.out.size; omega
      have hzk : srcOk k inp z = true := by rw [hz]; exact HZ.out j hlt
      have hzw := HWF.out z hzk
      have hsz := HSR.out z
      rw [hzk] at hsz
      have HSRC := Lib.hid hsz
      clear hct hz hzk hsz
      go_wp2
      refine wp_region_fix (rv8 a1 k c1 inp a2 mm c2 tb to j m cap z true) (fun _ => true) (fun _ => true) (fun _ => Below wr.heap.size wr) (by kernel_rfl) (by kernel_rfl) (by kernel_rfl) (by kernel_rfl) (by simp [dstIn]) ?gv ?un (Below.refl _ _).drew (fun _ _ _ _ h => h) ?stp ?dn
      case gv => intro i hi; simp [isGd] at hi
      case un => intro i hi hw; simp at hw
      case stp =>
        intro L W1 i o b' hs ho hwt hlF hcl hd hI hh hlate
        have hi := (List.getElem?_eq_some_iff.1 ho).1
        have hc : i = 0 ∨ i = 1 ∨ i = 2 ∨ i = 3 ∨ i = 4 ∨ i = 5 ∨ i = 6 := by simp at hi; omega
        obtain ⟨_, _, _⟩ := cells3 ((hI.block _ hzr).trans HBX.out)
        have hc1 := ((bcell hI).1 _ _ htb).trans HC1.out
        have HI := Lib.hid hI
        clear hi hI hs hlF hcl hd
        have k1 := hh.kept 1 (by simp)
        simp at k1
        have k2 := hh.kept 2 (by simp)
        simp at k2
        have k8 := hh.kept 8 (by simp)
        simp at k8
        rcases hc with rfl | rfl | rfl | rfl | rfl | rfl | rfl
        · simp only [List.getElem?_cons_zero, Option.some.injEq] at ho
          subst ho
          go_simp
          exact ⟨rfl, HI.out⟩
        · simp only [List.getElem?_cons_zero, List.getElem?_cons_succ, Option.some.injEq] at ho
          subst ho
          go_simp
          exact ⟨rfl, HI.out⟩
        · simp only [List.getElem?_cons_zero, List.getElem?_cons_succ, Option.some.injEq] at ho
          subst ho
          go_simp
          exact ⟨rfl, HI.out⟩
        · simp only [List.getElem?_cons_zero, List.getElem?_cons_succ, Option.some.injEq] at ho
          subst ho
          have g1 := hh.got 1 _ 27 rfl rfl ⟨⟨1, .data⟩, by simp, rfl, rfl⟩ (by simp)
          have g2 := hh.got 2 _ 28 rfl rfl ⟨⟨2, .data⟩, by simp, rfl, rfl⟩ (by simp)
          simp [rv8] at g1 g2
          go_simp
          exact ⟨rfl, HI.out⟩
        · simp only [List.getElem?_cons_zero, List.getElem?_cons_succ, Option.some.injEq] at ho
          subst ho
          have g3 := hh.got 3 _ 29 rfl rfl ⟨⟨3, .data⟩, by simp, rfl, rfl⟩ (by simp)
          simp [rv8] at g3
          go_simp
          exact ⟨rfl, HI.out⟩
        · simp only [List.getElem?_cons_zero, List.getElem?_cons_succ, Option.some.injEq] at ho
          subst ho
          have g0 := hh.got 0 _ 26 rfl rfl ⟨⟨0, .data⟩, by simp, rfl, rfl⟩ (by simp)
          have g4 := hh.got 4 _ 30 rfl rfl ⟨⟨4, .data⟩, by simp, rfl, rfl⟩ (by simp)
          simp [rv8] at g0 g4
          go_simp
          go_at_call 57
          refine (HSRC.out _).mono ?_
          rintro e w6 ⟨rfl, hb6⟩
          exact ⟨rfl, HI.out.trans (hb6.mono HI.out.size)⟩
        · simp only [List.getElem?_cons_zero, List.getElem?_cons_succ, Option.some.injEq] at ho
          subst ho
          have g5 := hh.got 5 _ 31 rfl rfl ⟨⟨5, .data⟩, by simp, rfl, rfl⟩ (by simp)
          simp [rv8] at g5
          go_simp
          exact ⟨rfl, HI.out⟩
      case dn =>
        intro W1 b' hI hb
        simp only [puts, rv8] at hb
        subst hb
        simp only [Act.put, List.setIfInBounds_toArray, List.set_cons_succ, List.set_cons_zero]
        obtain ⟨W3, hrun, hm3, hg3⟩ := (HMAP.out.of_block (hI.block _ hmbl)).update (by unfold maxLen; omega) Try.underlying131 z hzw (.bool true)
        have hc1 := ((bcell hI).1 _ _ htb).trans HC1.out
        have HI := Lib.hid hI
        have HM3 := Lib.hid hm3
        have HG3 := Lib.hid hg3
        clear hI hm3 hg3
        go_wp2
        go_roundw
        case rel =>
          have hg := HG3.out
          have hke : ∀ b, b ≠ mb → b < W1.heap.size → W3.heap[b]? = W1.heap[b]? := fun b hb hl => hg.block b hl (fun e => hb (Option.some.inj e))
          refine ⟨j + 1, hlt, by go_num, ⟨cnt + 1, fun y => if y = z then true else gm y, by omega, ?_⟩, (hke _ (by omega) (by have := HI.out.size; omega)).trans ((HI.out.block _ hzr).trans HBX.out), HB.out.trans ((HI.out.mono (by omega)).trans ⟨hg.os, hg.tape, hg.output, hg.size, fun b hb => hke b (by omega) (by have := HI.out.size; omega)⟩)⟩
          have h6 := HM3.out
          rw [metM_upd] at h6
          exact h6
        case measure => simp [intOf]; omega
    · obtain ⟨tb, to, rfl, hct, htb0⟩ := HTL.out j JM
      obtain ⟨z, hz⟩ : ∃ z, z = zs[j]?.getD 0 := ⟨_, rfl⟩
      rw [← hz] at hct
      have HC1 := Lib.hid ((HB.out.cell (p := ⟨tb, to + j, none⟩) htb0).trans hct)
      have htb : tb < wr.heap.size := by have := HB.out.size; omega
      obtain rfl : j = f := by omega
      have hzk : srcOk k inp z = false := by rw [hz]; exact HBAD.out
      have hsz := HSR.out z
      rw [hzk] at hsz
      have HSRC := Lib.hid hsz
      clear hct hz hzk hsz
      go_wp2
      refine wp_region_fix (rv8 a1 k c1 inp a2 mm c2 tb to j m cap z false) (fun _ => true) (fun _ => true) (fun _ => Below wr.heap.size wr) (by kernel_rfl) (by kernel_rfl) (by kernel_rfl) (by kernel_rfl) (by simp [dstIn]) ?gv ?un (Below.refl _ _).drew (fun _ _ _ _ h => h) ?stp ?dn
      case gv => intro i hi; simp [isGd] at hi
      case un => intro i hi hw; simp at hw
      case stp =>
        intro L W1 i o b' hs ho hwt hlF hcl hd hI hh hlate
        have hi := (List.getElem?_eq_some_iff.1 ho).1
        have hc : i = 0 ∨ i = 1 ∨ i = 2 ∨ i = 3 ∨ i = 4 ∨ i = 5 ∨ i = 6 := by simp at hi; omega
        obtain ⟨_, _, _⟩ := cells3 ((hI.block _ hzr).trans HBX.out)
        have hc1 := ((bcell hI).1 _ _ htb).trans HC1.out
        have HI := Lib.hid hI
        clear hi hI hs hlF hcl hd
        have k1 := hh.kept 1 (by simp)
        simp at k1
        have k2 := hh.kept 2 (by simp)
        simp at k2
        have k8 := hh.kept 8 (by simp)
        simp at k8
        rcases hc with rfl | rfl | rfl | rfl | rfl | rfl | rfl
        · simp only [List.getElem?_cons_zero, Option.some.injEq] at ho
          subst ho
          go_simp
          exact ⟨rfl, HI.out⟩
        · simp only [List.getElem?_cons_zero, List.getElem?_cons_succ, Option.some.injEq] at ho
          subst ho
          go_simp
          exact ⟨rfl, HI.out⟩
        · simp only [List.getElem?_cons_zero, List.getElem?_cons_succ, Option.some.injEq] at ho
          subst ho
          go_simp
          exact ⟨rfl, HI.out⟩
        · simp only [List.getElem?_cons_zero, List.getElem?_cons_succ, Option.some.injEq] at ho
          subst ho
          have g1 := hh.got 1 _ 27 rfl rfl ⟨⟨1, .data⟩, by simp, rfl, rfl⟩ (by simp)
          have g2 := hh.got 2 _ 28 rfl rfl ⟨⟨2, .data⟩, by simp, rfl, rfl⟩ (by simp)
          simp [rv8] at g1 g2
          go_simp
          exact ⟨rfl, HI.out⟩
        · simp only [List.getElem?_cons_zero, List.getElem?_cons_succ, Option.some.injEq] at ho
          subst ho
          have g3 := hh.got 3 _ 29 rfl rfl ⟨⟨3, .data⟩, by simp, rfl, rfl⟩ (by simp)
          simp [rv8] at g3
          go_simp
          exact ⟨rfl, HI.out⟩
        · simp only [List.getElem?_cons_zero, List.getElem?_cons_succ, Option.some.injEq] at ho
          subst ho
          have g0 := hh.got 0 _ 26 rfl rfl ⟨⟨0, .data⟩, by simp, rfl, rfl⟩ (by simp)
          have g4 := hh.got 4 _ 30 rfl rfl ⟨⟨4, .data⟩, by simp, rfl, rfl⟩ (by simp)
          simp [rv8] at g0 g4
          go_simp
          go_at_call 57
          refine (HSRC.out _).mono ?_
          rintro e w6 ⟨rfl, hb6⟩
          exact ⟨rfl, HI.out.trans (hb6.mono HI.out.size)⟩
        · simp only [List.getElem?_cons_zero, List.getElem?_cons_succ, Option.some.injEq] at ho
          subst ho
          have g5 := hh.got 5 _ 31 rfl rfl ⟨⟨5, .data⟩, by simp, rfl, rfl⟩ (by simp)
          simp [rv8] at g5
          go_simp
          exact ⟨rfl, HI.out⟩
      case dn =>
        intro W1 b' hI hb
        simp only [puts, rv8] at hb
        subst hb
        simp only [Act.put, List.setIfInBounds_toArray, List.set_cons_succ, List.set_cons_zero]
        have hc1 := HC1.out
        have HI := Lib.hid hI
        clear hI
        go_wp2
        exact bodyPost_ret (v := .tuple #[.slice none 0 0, .int .i64 3]) (by simp [results, Try.results33, go_sem]) rfl ⟨rfl, HB.out.trans (HI.out.mono (by omega))⟩
end Go.Proofs.Ytgbcdebnanejpaa
namespace Go.Proofs.Ytgbcdebnanejpaa
set_option linter.unusedVariables false
open Go.RowKit Go.Shelf

theorem nreach_err0 (n : NetM) (he : ncheck n ≠ 0) (a1 a2 : Option Addr) (c1 c2 : Nat) (sv : Value) (w : World)
    (hp : PsAt w (.slice a1 n.ps.length c1) n.ps) (hs : SsAt w (.slice a2 n.ss.length c2) n.ss) :
    Calls Try.prog 32 #[.agg #[.slice a1 n.ps.length c1, .int .i64 n.inp, .slice a2 n.ss.length c2], sv] w (ReachErr (ncheck n) w) := by
  have hck := fun W (hb : Below w.heap.size w W) => ncheck_any n a1 a2 c1 c2 W (hp.below hb) (hs.below hb)
  obtain ⟨c, hc⟩ : ∃ c, c = ncheck n := ⟨_, rfl⟩
  obtain ⟨k, hk⟩ : ∃ k, k = n.ps.length := ⟨_, rfl⟩
  obtain ⟨mm, hmm⟩ : ∃ mm, mm = n.ss.length := ⟨_, rfl⟩
  obtain ⟨inp, hi⟩ : ∃ inp, inp = n.inp := ⟨_, rfl⟩
  rw [← hc, ← hk, ← hmm, ← hi] at hck
  rw [← hc] at he
  rw [← hc, ← hk, ← hmm, ← hi]
  have HCK := Lib.hid hck
  clear hck hp hs hc hk hmm hi
  unfold ReachErr
  have e1 : (c == 0) = false := by simp [he]
  have e2 : (c != 0) = true := by simp [he]
  go_enter Try.func32, Try.ntmps32
  go_wp2_with (go_at_call 19; refine (HCK.out _ ((Below.refl _ _).alloc (Nat.le_refl _) _)).mono ?_; rintro e w1 ⟨rfl, hb1⟩; have hbx1 : NetBox w1 w.heap.size (.slice a1 k c1) inp (.slice a2 mm c2) := (hb1.block _ (by simp)).trans (alloc_new_at _ _ _ rfl); have B1 := Lib.hid (((Below.refl _ _).alloc (Nat.le_refl _) _).trans (hb1.mono (by simp)) : Below w.heap.size w w1); clear hb1 hbx1)
  exact bodyPost_ret (v := .tuple #[.slice none 0 0, .int .i64 c]) (by simp [results, Try.results32, go_sem]) rfl ⟨rfl, B1.out⟩

set_option maxRecDepth 100000 in
set_option maxHeartbeats 1000000 in
theorem nreach_err3 (n : NetM) (hok : ncheck n = 0) (a1 a2 : Option Addr) (c1 c2 k mm : Nat) (inp : Int) (hk : k = n.ps.length) (hmm : mm = n.ss.length) (hinp : inp = n.inp) (zs : List Int) (f : Nat) (hfm : f < zs.length) (hbad : srcOk k inp (zs[f]?.getD 0) = false) (hz : ∀ j, j < f → srcOk k inp (zs[j]?.getD 0) = true) (sa : Option Addr) (m cap : Nat) (hm : m = zs.length) (hm2 : m ≤ 100) (w : World)
    (hp : PsAt w (.slice a1 k c1) n.ps) (hs : SsAt w (.slice a2 mm c2) n.ss) (hI : IntsAt w (.slice sa m cap) zs) :
    Calls Try.prog 32 #[.agg #[.slice a1 k c1, .int .i64 inp, .slice a2 mm c2], .slice sa m cap] w (ReachErr 3 w) := by
  have hN := netOk_of hok
  have hck : ∀ W, Below w.heap.size w W → Calls Try.prog 19 #[.agg #[.slice a1 k c1, .int .i64 inp, .slice a2 mm c2]] W fun e w' => e = .returned (.int .i64 0) ∧ Below W.heap.size W w' := fun W hb => by
    subst hk hmm hinp
    have := ncheck_any n a1 a2 c1 c2 W (hp.below hb) (hs.below hb)
    rw [hok] at this
    exact this
  have p1 : k ≤ 1024 := by rw [hk]; exact hN.p1
  have i0 : 0 ≤ inp := by rw [hinp]; exact hN.i0
  have i1 : inp ≤ 256 := by rw [hinp]; exact hN.i1
  have hfm2 : f < m := by omega
  have hsrc : ∀ z W, Calls Try.prog 54 #[.agg #[.slice a1 k c1, .int .i64 inp, .slice a2 mm c2], .int .i64 z] W fun e w' => e = .returned (.bool (srcOk k inp z)) ∧ Below W.heap.size W w' := fun z W => nsrc_any a1 k c1 inp (.slice a2 mm c2) z i0 i1 p1 W
  have hwf : ∀ z : Int, srcOk k inp z = true → (Lit.int .i64 z).wf = true := fun z h => by simp [srcOk, inR] at h; exact wf64 (by omega) (by omega)
  have htl : ∀ j, j < m → ∃ tb to, sa = some ⟨tb, to, none⟩ ∧ w.cell? ⟨tb, to + j, none⟩ = some (.int .i64 (zs[j]?.getD 0)) ∧ tb < w.heap.size := fun j hj => by
    rcases hI with ⟨_, rfl⟩ | ⟨b, off, cap', e, hc⟩
    · simp at hm; omega
    · cases e
      have hc := hc j (by omega)
      exact ⟨b, off, rfl, hc, World.block_lt_of_cell? w _ hc⟩
  unfold ReachErr
  have HCK := Lib.hid hck
  have HSR := Lib.hid hsrc
  have HTL := Lib.hid htl
  have HWF := Lib.hid hwf
  have HZ := Lib.hid hz
  have HBAD := Lib.hid hbad
  clear hck hsrc htl hwf hm hmm hk hinp hok hN hp hs hI hz hbad hfm
  go_enter Try.func32, Try.ntmps32
  go_wp2_with (go_at_call 19; refine (HCK.out _ ((Below.refl _ _).alloc (Nat.le_refl _) _)).mono ?_; rintro e w1 ⟨rfl, hb1⟩; have hbx1 : NetBox w1 w.heap.size (.slice a1 k c1) inp (.slice a2 mm c2) := (hb1.block _ (by simp)).trans (alloc_new_at _ _ _ rfl); have hz1 := lt_of_block hbx1; have B1 := Lib.hid (((Below.refl _ _).alloc (Nat.le_refl _) _).trans (hb1.mono (by simp)) : Below w.heap.size w w1); have BX1 := Lib.hid hbx1; clear hb1 hbx1)
  go_loopw [24] (fun s24 wr => ∃ j : Nat, j ≤ f ∧ s24 = .int .i64 j ∧ NetBox wr w.heap.size (.slice a1 k c1) inp (.slice a2 mm c2) ∧ Below w.heap.size w wr) (fun s24 _ => m - (intOf s24).toNat)
  case atStart => exact ⟨0, Nat.zero_le _, rfl, BX1.out, B1.out⟩
  case round =>
    obtain ⟨j, hj, rfl, hbx, hb⟩ := hrel
    have hj0 : (0 : Int) ≤ (j : Int) := Int.natCast_nonneg _
    have hzr := lt_of_block hbx
    obtain ⟨_, _, _⟩ := cells3 hbx
    have HBX := Lib.hid hbx
    have HB := Lib.hid hb
    clear hbx hb
    have JM : j < m := by omega
    have hj1 : ((j : Int) < (m : Int)) = True := by simp; omega
    obtain ⟨tb, to, rfl, hct, htb0⟩ := HTL.out j JM
    obtain ⟨z, hz⟩ : ∃ z, z = zs[j]?.getD 0 := ⟨_, rfl⟩
    rw [← hz] at hct
    have hc1 := (HB.out.cell (p := ⟨tb, to + j, none⟩) htb0).trans hct
    by_cases hlt : j < f
    · have hzk : srcOk k inp z = true := by rw [hz]; exact HZ.out j hlt
      have hsz := HSR.out z
      rw [hzk] at hsz
      have HSRC := Lib.hid hsz
      clear hct hz hzk hsz
      go_wp2_with (go_at_call 54; refine (HSRC.out _).mono ?_; rintro e w2 ⟨rfl, hb2⟩; have hbx2 : NetBox w2 w.heap.size (.slice a1 k c1) inp (.slice a2 mm c2) := (hb2.block _ hzr).trans HBX.out; have B2 := Lib.hid (HB.out.trans (hb2.mono (by omega)) : Below w.heap.size w w2); have BX2 := Lib.hid hbx2; clear hb2 hbx2)
      go_roundw
      case rel => exact ⟨j + 1, hlt, by go_num, BX2.out, B2.out⟩
      case measure => simp [intOf]; omega
    · obtain rfl : j = f := by omega
      have hzk : srcOk k inp z = false := by rw [hz]; exact HBAD.out
      have hsz := HSR.out z
      rw [hzk] at hsz
      have HSRC := Lib.hid hsz
      clear hct hz hzk hsz
      go_wp2_with (go_at_call 54; refine (HSRC.out _).mono ?_; rintro e w2 ⟨rfl, hb2⟩; have B2 := Lib.hid (HB.out.trans (hb2.mono (by omega)) : Below w.heap.size w w2); clear hb2)
      exact bodyPost_ret (v := .tuple #[.slice none 0 0, .int .i64 3]) (by simp [results, Try.results32, go_sem]) rfl ⟨rfl, B2.out⟩
end Go.Proofs.Ytgbcdebnanejpaa
