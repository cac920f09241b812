/- Learning: code.Train. Over this seat's program; the conditions are named in each. (mk_Td.py wrote this.) -/
import Derived.Test.YtjdcjcanmeangaaGreatTc
namespace Go.Proofs.YtjdcjcanmeangaaGreat
set_option linter.unusedVariables false
open Go.RowKit

theorem setCell_own {W : World} {g i : Nat} {cs : Array Value} {T : TypeId} (u : Value) (h : W.heap[g]? = some (.cells cs T)) : (W.setCell ⟨g, i, none⟩ u).heap[g]? = some (.cells (cs.setIfInBounds i u) T) := by
  simp [World.setCell, Array.getElem?_modify, h]
theorem setCell_sz {W : World} {a : Addr} {u : Value} : (W.setCell a u).heap.size = W.heap.size := by simp [World.setCell]
theorem set4 {W : World} {g : Nat} {T : TypeId} {v0 v1 v2 v3 : Value} (u0 u1 u2 u3 : Value) (h : W.heap[g]? = some (.cells #[v0, v1, v2, v3] T)) :
    ∃ W', W' = ((((W.setCell ⟨g, 0, none⟩ u0).setCell ⟨g, 1, none⟩ u1).setCell ⟨g, 2, none⟩ u2).setCell ⟨g, 3, none⟩ u3) ∧
      W'.heap[g]? = some (.cells #[u0, u1, u2, u3] T) ∧ (∀ b, b ≠ g → W'.heap[b]? = W.heap[b]?) ∧ W'.heap.size = W.heap.size ∧ W'.os = W.os ∧ W'.tape = W.tape ∧ W'.output = W.output := by
  have h0 := setCell_own (i := 0) u0 h
  have h1 := setCell_own (i := 1) u1 h0
  have h2 := setCell_own (i := 2) u2 h1
  have h3 := setCell_own (i := 3) u3 h2
  simp only [List.setIfInBounds_toArray, List.set_cons_succ, List.set_cons_zero] at h3
  refine ⟨_, rfl, h3, fun b hb => ?_, ?_, rfl, rfl, rfl⟩
  · rw [setCell_ne hb, setCell_ne hb, setCell_ne hb, setCell_ne hb]
  · simp only [setCell_sz]
/-- What a Train returns. -/
def TrGot (n : Nat) (st : TS) (d : Bool) (E : Int) (w : World) (e : Ending) (w' : World) : Prop :=
  ∃ sv, e = .returned (.tuple #[.agg #[sv, .int .i64 st.b, .int .i64 (st.u : Int), .bool d], .int .i64 E]) ∧ KAt .i64 w' sv ((List.range n).map st.f) ∧ Below w.heap.size w w'
theorem below_set4 {H g : Nat} {w W W' : World} (hb : Below H w W) (hg : H ≤ g) (f2 : ∀ b, b ≠ g → W'.heap[b]? = W.heap[b]?) (f3 : W'.heap.size = W.heap.size) (f4 : W'.os = W.os) (f5 : W'.tape = W.tape) (f6 : W'.output = W.output) : Below H w W' :=
  ⟨by rw [f4]; exact hb.os, by rw [f5]; exact hb.tape, by rw [f6]; exact hb.output, by rw [f3]; exact hb.size, fun b h => (f2 b (by omega)).trans (hb.block b h)⟩
theorem res43 {W : World} {b : Nat} {v0 v1 v2 v3 : Value} {t : TypeId} (x : Int) (h : W.heap[b]? = some (.cells #[v0, v1, v2, v3] t)) (tm : Array Value) (h6 : tm[6]?.getD undef = .pointer (some ⟨b, 0, none⟩)) (h7 : tm[7]?.getD undef = .int .i64 x) :
    (results Tryz.f43 tm).run Tryz.prog W = .ok (.tuple #[.agg #[v0, v1, v2, v3], .int .i64 x]) W := by
  obtain ⟨_, _, _, _, _, _, _, _⟩ := cells4 h
  simp [results, Tryz.results43, go_sem, *]
theorem row_zero_init {W : World} {g n : Nat} (h : RowAt W g n fun _ => 0) : RowAt W g n initS.f := h
theorem roundS_step {n : Nat} {m : Int} {l : List Smp} {r : Nat} (h : (trainS n m l r).2 = false) : trainS n m l (r + 1) = (roundS n m l (trainS n m l r).1, (roundS n m l (trainS n m l r).1).u == (trainS n m l r).1.u) := by
  simp only [trainS, h]; simp
set_option maxRecDepth 100000 in
set_option maxHeartbeats 8000000 in
theorem train_ok (l : List Smp) (hE : smpE l = 0) (m : Int) (hm : 0 ≤ m ∧ m ≤ 1000000) (R : Nat) (hR : 1 ≤ R ∧ R ≤ 1000) (a : Option Addr) (cap : Nat) (w : World) (hS : SmpsAt w (.slice a l.length cap) l) :
    Calls Tryz.prog 43 #[.slice a l.length cap, .int .i64 m, .int .i64 (R : Int)] w (TrGot (n0 l) (trainS (n0 l) m l R).1 (trainS (n0 l) m l R).2 0 w) := by
  have hok := smpE_ok hE
  obtain ⟨hl, hn, hsm⟩ := hok
  have hl1 := hl.1
  have hl2 := hl.2
  have hR2 := hR.2
  have hck := fun W (h : SmpsAt W (.slice a l.length cap) l) => checkSamples_any l a cap (by omega) (fun s hs => by have := (hsm s hs).len; omega) W h
  rw [hE] at hck
  have r1 : inR m 0 1000000 = true := inR_true.2 hm
  have r2 : inR (R : Int) 1 1000 = true := inR_true.2 (by omega)
  have hb0 : Below w.heap.size w (w.alloc (.cells #[.slice none 0 0, .int .i64 0, .int .i64 0, .bool false] 76)) := (Below.refl _ _).alloc (Nat.le_refl _) _
  have HRX := Lib.hid (show (w.alloc (.cells #[.slice none 0 0, .int .i64 0, .int .i64 0, .bool false] 76)).heap[w.heap.size]? = some (.cells #[.slice none 0 0, .int .i64 0, .int .i64 0, .bool false] 76) from alloc_new_at _ _ _ rfl)
  have HS0 := Lib.hid (hS.below hb0)
  have H0 := Lib.hid hb0
  have HCK := Lib.hid hck
  have R1 := Lib.hid r1
  have R2 := Lib.hid r2
  have HSM := Lib.hid hsm
  have HTR := Lib.hid (fun r => trainS_ok (m := m) hsm r)
  obtain ⟨n, hnn⟩ : ∃ n, n = n0 l := ⟨_, rfl⟩
  rw [← hnn] at hn HSM HTR ⊢
  have hn1 := hn.1
  have hn2 := hn.2
  have hmk := make_row n (by omega)
  have HNN := Lib.hid hnn
  obtain ⟨N, hN⟩ : ∃ N, N = l.length := ⟨_, rfl⟩
  rw [← hN] at HS0 HCK hl1 hl2 ⊢
  have HN := Lib.hid hN
  have HMM := Lib.hid hm
  clear hl hn hsm hck r1 r2 hb0 hS hE hR hnn hN hm
  go_enter Tryz.func43, Tryz.ntmps43
  go_upto_region 1 with (fail)
  generalize w.alloc (.cells #[.slice none 0 0, .int .i64 0, .int .i64 0, .bool false] 76) = W0 at *
  go_upto_region 6 with (first
    | (go_at_call 84; refine (HCK.out _ HS0.out).mono ?_; rintro e w1 ⟨rfl, hb1⟩; have B1 := Lib.hid hb1; clear hb1)
    | (go_at_call 52; with_reducible refine (within_new 0 1000000 m _).mono ?_; rintro e w2 ⟨rfl, hb2⟩; rw [R1.out]; have B2 := Lib.hid (B1.out.trans (hb2.mono B1.out.size)); clear hb2)
    | (go_at_call 52; with_reducible refine (within_new 1 1000 (R : Int) _).mono ?_; rintro e w3 ⟨rfl, hb3⟩; rw [R2.out]; have B3 := Lib.hid (B2.out.trans (hb3.mono B2.out.size)); clear hb3))
  have HS3 := Lib.hid (HS0.out.below B3.out)
  have HRX3 := Lib.hid ((B3.out.block _ (lt_of_block HRX.out)).trans HRX.out)
  have H3 := Lib.hid (H0.out.trans (B3.out.mono H0.out.size))
  clear HS0 HRX H0 B1 B2 B3 HCK
  obtain ⟨s0, hs0⟩ : ∃ s, l[0]? = some s := ⟨_, List.getElem?_eq_getElem (by have := HN.out; omega)⟩
  have hx0 := n0_at hs0
  rw [← HNN.out] at hx0
  obtain ⟨b, off, sa0, c0, rfl, hbl, q0, q1, hk0⟩ := HS3.out.at hs0
  rw [Nat.zero_mul, Nat.add_zero] at q0 q1
  rw [← hx0] at q0
  clear hs0 hk0 hx0
  go_wp2
  have hbW : Below w3.heap.size w3 ((w3.alloc (.cells (rowC n fun x => 0).toArray 3)).alloc (.cells #[.slice (some ⟨w3.heap.size, 0, none⟩) n n, .int .i64 0, .int .i64 0, .bool false] 76)) := ((Below.refl _ _).alloc (Nat.le_refl _) _).alloc (by simp) _
  have hTW : ((w3.alloc (.cells (rowC n fun x => 0).toArray 3)).alloc (.cells #[.slice (some ⟨w3.heap.size, 0, none⟩) n n, .int .i64 0, .int .i64 0, .bool false] 76)).heap[w3.heap.size + 1]? = some (.cells #[.slice (some ⟨w3.heap.size, 0, none⟩) n n, .int .i64 0, .int .i64 0, .bool false] 76) := alloc_new_at _ _ _ (by simp)
  have hgW : ((w3.alloc (.cells (rowC n fun x => 0).toArray 3)).alloc (.cells #[.slice (some ⟨w3.heap.size, 0, none⟩) n n, .int .i64 0, .int .i64 0, .bool false] 76)).heap[w3.heap.size]? = some (.cells (rowC n fun x => 0).toArray 3) := (Below.heap_alloc _ _ _ (by simp)).trans (alloc_new_at _ _ _ rfl)
  have HT4 := Lib.hid (show TrAt _ (w3.heap.size + 1) w3.heap.size n (trainS n m l 0).1 false from ⟨hTW, hgW⟩)
  have HB4 := Lib.hid hbW
  have HZ := Lib.hid (lt_of_block HRX3.out)
  clear hbW hTW hgW hmk q0 q1 hbl
  generalize (w3.alloc (.cells (rowC n fun x => 0).toArray 3)).alloc (.cells #[.slice (some ⟨w3.heap.size, 0, none⟩) n n, .int .i64 0, .int .i64 0, .bool false] 76) = W4 at *
  obtain ⟨T, hT⟩ : ∃ T, w3.heap.size + 1 = T := ⟨_, rfl⟩
  obtain ⟨g, hg⟩ : ∃ g, w3.heap.size = g := ⟨_, rfl⟩
  have HTg := Lib.hid (show w3.heap.size ≤ T ∧ w3.heap.size ≤ g ∧ T ≠ g ∧ w.heap.size < T ∧ w.heap.size < g by have := HZ.out; omega)
  rw [hT] at HT4 ⊢
  rw [hg] at HT4 ⊢
  clear hT hg
  go_loopw [38] (fun s38 wr => ∃ k : Nat, k ≤ R ∧ s38 = .int .i64 k ∧ (trainS n m l k).2 = false ∧ TrAt wr T g n (trainS n m l k).1 false ∧ Below w3.heap.size w3 wr) (fun s38 _ => R - (intOf s38).toNat)
  case atStart => exact ⟨0, Nat.zero_le _, rfl, rfl, HT4.out, HB4.out⟩
  case round =>
    obtain ⟨k, hk, rfl, hd, hT, hb⟩ := hrel
    have HD := Lib.hid hd
    have HT := Lib.hid hT
    have HB := Lib.hid hb
    have hi0 : (0 : Int) ≤ (k : Int) := Int.natCast_nonneg _
    by_cases hlt : k < R
    · have hi1 : (k : Int) < (R : Int) := by omega
      obtain ⟨S, hS⟩ : ∃ S, S = (trainS n m l k).1 := ⟨_, rfl⟩
      have hok := HTR.out k
      rw [← hS] at hok hT
      have hu : S.u ≤ 255744 := Nat.le_trans hok.2 (Nat.le_trans (Nat.mul_le_mul (show k ≤ 999 by omega) (show l.length ≤ 256 by have := HN.out; omega)) (by omega))
      have HTS := Lib.hid hT
      have HSS := Lib.hid hS
      have HOK := Lib.hid hok.1
      have HU := Lib.hid hu
      obtain ⟨t0, t1, t2, t3, z0, z1, z2, z3⟩ := cells4 hT.1
      clear hS hok hT hb hd hu
      go_upto_region 10 with (fail)
      go_wp2
      clear t0 t1 t2 t3 z0 z1 z2 z3
      generalize wr = wo at *
      go_loopw [44] (fun s44 wr => ∃ j : Nat, j ≤ N ∧ s44 = .int .i64 j ∧ TrAt wr T g n (roundS n m (l.take j) S) false ∧ Below w3.heap.size w3 wr) (fun s44 _ => N - (intOf s44).toNat)
      case atStart => exact ⟨0, Nat.zero_le _, rfl, HTS.out, HB.out⟩
      case round =>
        obtain ⟨j, hj, rfl, hT, hb⟩ := hrel
        have HT5 := Lib.hid hT
        have HB5 := Lib.hid hb
        by_cases hlj : j < N
        · have hj0 : (0 : Int) ≤ (j : Int) := Int.natCast_nonneg _
          have hj1 : (j : Int) < (N : Int) := by omega
          obtain ⟨s, hs⟩ : ∃ s, l[j]? = some s := ⟨_, List.getElem?_eq_getElem (by rw [← HN.out]; exact hlj)⟩
          have hsm := HSM.out s (List.mem_of_getElem? hs)
          obtain ⟨b', off', sa, c, hbb, hbl, p0, p1, hkx⟩ := HS3.out.at hs
          cases hbb
          have q0 := ((hb.cell (p := ⟨b, off + j * 2, none⟩) hbl)).trans p0
          have q1 := ((hb.cell (p := ⟨b, off + j * 2 + 1, none⟩) hbl)).trans p1
          have hnx := roundS_take (n := n) (m := m) (st := S) hs
          have htb : TB (roundS n m (l.take j) S) := roundS_TB _ (fun t ht => HSM.out t (List.mem_of_mem_take ht)) HOK.out
          have hub : (roundS n m (l.take j) S).u ≤ 255999 := by
            have h1 := (roundS_u n m S (l.take j)).2
            rw [List.length_take] at h1
            have h2 := HU.out
            omega
          rw [hsm.len] at q0 hkx
          obtain ⟨X, Y⟩ := s
          simp only at q0 q1 hkx
          have hcl : Below wr.heap.size wr (wr.alloc (.cells #[.slice sa n c, .bool Y] 74)) := (Below.refl _ _).alloc (Nat.le_refl _) _
          have hT6 := hT.below hcl (lt_of_block hT.1) (lt_of_block hT.2)
          have hB6 := hb.trans (hcl.mono hb.size)
          have HLC := Lib.hid (learn_any w3 T g n (roundS n m (l.take j) S) false X Y m HTg.out.1 HTg.out.2.1 HTg.out.2.2.1 hn2 hsm htb hub HMM.out sa c _ hT6 hkx hB6)
          have HBX := Lib.hid (show (wr.alloc (.cells #[.slice sa n c, .bool Y] 74)).heap[wr.heap.size]? = some (.cells #[.slice sa n c, .bool Y] 74) from alloc_new_at _ _ _ rfl)
          have HNX := Lib.hid hnx
          clear hs hsm hbl p0 p1 hkx hnx htb hub hcl hT6 hB6 hT hb
          go_upto_region 13 with (fail)
          generalize wr.alloc (.cells #[.slice sa n c, .bool Y] 74) = W6 at *
          obtain ⟨d0, d1⟩ := cells2b HBX.out
          go_upto_region 14 with (go_at_call 85; refine HLC.out.mono ?_; rintro e w7 ⟨rfl, hb7, hT7⟩; have HB7 := Lib.hid hb7; have HT7 := Lib.hid hT7; clear hb7 hT7)
          go_wp2
          go_roundw
          case rel => exact ⟨j + 1, by omega, by go_num, by rw [HNX.out]; exact HT7.out, HB7.out⟩
          case measure => simp [intOf]; omega
        · obtain rfl : j = N := by omega
          rw [List.take_of_length_le (by rw [← HN.out]; exact Nat.le_refl _)] at hT
          have hst := roundS_step HD.out
          rw [← HSS.out] at hst
          have hu2 := (roundS_u n m S l).1
          obtain ⟨S', hS'⟩ : ∃ S', S' = roundS n m l S := ⟨_, rfl⟩
          rw [← hS'] at hT hst hu2
          have HST := Lib.hid hst
          have HT8 := Lib.hid hT
          obtain ⟨t0, t1, t2, t3, z0, z1, z2, z3⟩ := cells4 hT.1
          have htl := lt_of_block hT.1
          clear hst hS' hlj hj hb hT
          by_cases he : S'.u = S.u
          · have g1 : ((S'.u : Int) == (S.u : Int)) = true := by simp [he]
            have HRX9 := Lib.hid ((setCell_ne (W := wr) (a := ⟨T, 3, none⟩) (v := .bool true) (b := w.heap.size) (show w.heap.size ≠ T by have := HTg.out; omega)).trans ((HB5.out.block _ HZ.out).trans HRX3.out))
            have HB9 := Lib.hid (Below.setCell (p := ⟨T, 3, none⟩) HB5.out (by have := HTg.out; simp; omega) (.bool true))
            have HT9 := Lib.hid (show TrAt (wr.setCell ⟨T, 3, none⟩ (.bool true)) T g n S' true from ⟨setCell_T3 HT8.out.1, (setCell_ne HTg.out.2.2.1.symm).trans HT8.out.2⟩)
            have HE := Lib.hid he
            clear he
            go_upto_region 18 with (fail)
            clear t0 t1 t2 t3 z0 z1 z2 z3 htl
            generalize wr.setCell ⟨T, 3, none⟩ (.bool true) = W9 at *
            obtain ⟨t0, t1, t2, t3, z0, z1, z2, z3⟩ := cells4 HT9.out.1
            obtain ⟨x0, x1, x2, x3, y0, y1, y2, y3⟩ := cells4 HRX9.out
            go_wp2
            obtain ⟨W', hW', f1, f2, f3, f4, f5, f6⟩ := set4 (W := W9) (g := w.heap.size) (.slice (some ⟨g, 0, none⟩) n n) (.int .i64 S'.b) (.int .i64 (S'.u : Int)) (.bool true) HRX9.out
            rw [← hW']
            have hfin : trainS n m l R = (S', true) := by
              have h1 : trainS n m l (k + 1) = (S', true) := by rw [HST.out, HE.out]; simp
              have h2 := trainS_stop (n := n) (m := m) (l := l) (r := k + 1) (by rw [h1]) (R - (k + 1))
              rw [show k + 1 + (R - (k + 1)) = R by omega] at h2
              rw [h2, h1]
            rw [hfin]
            exact bodyPost_ret (res43 _ f1 _ rfl rfl) rfl ⟨_, rfl, RowAt.kat ((f2 g (by have := HTg.out; omega)).trans HT9.out.2), below_set4 (H3.out.trans (HB9.out.mono H3.out.size)) (Nat.le_refl _) f2 f3 f4 f5 f6⟩
          · have g1 : ((S'.u : Int) == (S.u : Int)) = false := by simp <;> omega
            have HE := Lib.hid he
            clear he
            go_wp2
            go_roundw
            case rel => exact ⟨k + 1, by omega, by go_num, by rw [HST.out]; simpa using HE.out, by rw [HST.out]; exact HT8.out, HB5.out⟩
            case measure => simp [intOf]; omega
    · obtain rfl : k = R := by omega
      obtain ⟨S, hS⟩ : ∃ S, S = (trainS n m l k).1 := ⟨_, rfl⟩
      have HFIN := Lib.hid (show trainS n m l k = (S, false) from Prod.ext hS.symm hd)
      rw [← hS] at hT
      have HT9 := Lib.hid hT
      have HRX9 := Lib.hid ((hb.block _ HZ.out).trans HRX3.out)
      obtain ⟨t0, t1, t2, t3, z0, z1, z2, z3⟩ := cells4 hT.1
      obtain ⟨x0, x1, x2, x3, y0, y1, y2, y3⟩ := cells4 HRX9.out
      clear hS hd hT hb hlt hk
      go_wp2
      obtain ⟨W', hW', f1, f2, f3, f4, f5, f6⟩ := set4 (W := wr) (g := w.heap.size) (.slice (some ⟨g, 0, none⟩) n n) (.int .i64 S.b) (.int .i64 (S.u : Int)) (.bool false) HRX9.out
      rw [← hW']
      rw [HFIN.out]
      exact bodyPost_ret (res43 _ f1 _ rfl rfl) rfl ⟨_, rfl, RowAt.kat ((f2 g (by have := HTg.out; omega)).trans HT9.out.2), below_set4 (H3.out.trans (HB.out.mono H3.out.size)) (Nat.le_refl _) f2 f3 f4 f5 f6⟩
end Go.Proofs.YtjdcjcanmeangaaGreat
