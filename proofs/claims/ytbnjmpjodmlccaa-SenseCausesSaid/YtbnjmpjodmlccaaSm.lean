/- The specification's Hear. Over this seat's program; the condition is named. (mk_Sm.py wrote this.) -/
import Derived.Test.YtbnjmpjodmlccaaSl
namespace Go.Proofs.Ytbnjmpjodmlccaa
set_option linter.unusedVariables false
open Go.RowKit Go.Shelf

/-- What the specification's Hear holds: rows at N and N + 1, the list of events above, the ear at e. -/
structure RhI (w : World) (N : Nat) (C : Nat) (S : Int) (z u : Nat → Int) (M : List Evx) (v : Value) (A : World) : Prop where
  z : RowAt A N (C + 1) z
  q : RowAt A (N + 1) C u
  own : A.ownsRow (N + 2) 63 2 v M.length (evxCs M)
  box : A.heap[w.heap.size]? = some (.cells #[.int .i64 (C : Int), .int .i64 S] 43)
  bel : Below w.heap.size w A
section
variable {w : World} {N C : Nat} {S : Int} {z u : Nat → Int} {M : List Evx} {v : Value} {A A' : World}
theorem RhI.drew (h : RhI w N C S z u M v A) (k : Nat) : RhI w N C S z u M v (A.drewN k) :=
  ⟨(below_drewN (Below.refl A.heap.size A) k).block _ (lt_of_block h.z) |>.trans h.z, (below_drewN (Below.refl A.heap.size A) k).block _ (lt_of_block h.q) |>.trans h.q,
    ownsRow_of_block h.own fun g hg => (below_drewN (Below.refl A.heap.size A) k).block g (h.own.lt g hg).2, (below_drewN (Below.refl A.heap.size A) k).block _ (lt_of_block h.box) |>.trans h.box, below_drewN h.bel k⟩
theorem RhI.drew1 (h : RhI w N C S z u M v A) : RhI w N C S z u M v A.drew := ⟨h.z, h.q, h.own, h.box, h.bel.drew⟩
theorem RhI.setZ (h : RhI w N C S z u M v A) (hN : w.heap.size < N) {i : Nat} (hi : i < C + 1) (x : Int) {z' : Nat → Int} (hz : ∀ j, j < C + 1 → (if j = i then x else z j) = z' j) : RhI w N C S z' u M v (A.setCell ⟨N, i, none⟩ (.int .i64 x)) :=
  ⟨(h.z.set hi x).congr hz, (Below.heap_setCell _ _ _ _ (by show N + 1 ≠ N; omega)).trans h.q, ownsRow_of_block h.own fun g hg => Below.heap_setCell _ _ _ _ (by have := (h.own.lt g hg).1; show g ≠ N; omega),
    (Below.heap_setCell _ _ _ _ (by show w.heap.size ≠ N; omega)).trans h.box, h.bel.setCell (p := ⟨N, i, none⟩) (by show w.heap.size ≤ N; omega) _⟩
theorem RhI.setQ (h : RhI w N C S z u M v A) (hN : w.heap.size < N) {i : Nat} (hi : i < C) (x : Int) {u' : Nat → Int} (hu : ∀ j, j < C → (if j = i then x else u j) = u' j) : RhI w N C S z u' M v (A.setCell ⟨N + 1, i, none⟩ (.int .i64 x)) :=
  ⟨(Below.heap_setCell _ _ _ _ (by show N ≠ N + 1; omega)).trans h.z, (h.q.set hi x).congr hu, ownsRow_of_block h.own fun g hg => Below.heap_setCell _ _ _ _ (by have := (h.own.lt g hg).1; show g ≠ N + 1; omega),
    (Below.heap_setCell _ _ _ _ (by show w.heap.size ≠ N + 1; omega)).trans h.box, h.bel.setCell (p := ⟨N + 1, i, none⟩) (by show w.heap.size ≤ N + 1; omega) _⟩
theorem RhI.app (h : RhI w N C S z u M v A) (hN : w.heap.size < N) (hb : Below (N + 2) A A') {M' : List Evx} {v' : Value} (ho : A'.ownsRow (N + 2) 63 2 v' M'.length (evxCs M')) : RhI w N C S z u M' v' A' :=
  ⟨(hb.block N (by omega)).trans h.z, (hb.block (N + 1) (by omega)).trans h.q, ho, (hb.block w.heap.size (by omega)).trans h.box, h.bel.trans (hb.mono (by omega))⟩
end
theorem pow2_le {k : Nat} (h : k ≤ 17) : (2 : Int) ^ k ≤ 131072 := by
  have h1 : 2 ^ k ≤ 2 ^ 17 := Nat.pow_le_pow_right (by decide) h
  have h2 : ((2 ^ k : Nat) : Int) = (2 : Int) ^ k := by push_cast; rfl
  rw [← h2]; omega
set_option maxRecDepth 100000 in
set_option maxHeartbeats 4000000 in
theorem rhear_any (T B : Int) (l : List Int) (hl : l.length ≤ 10000) (a : Option Addr) (cap : Nat) (w : World) (hk : KAt .i64 w (.slice a l.length cap) l) :
    Calls Try.prog 24 #[.agg #[.int .i64 T, .int .i64 B], .slice a l.length cap] w (EvGot (heL T B l) (heE T B l) w) := by
  obtain ⟨n, hn⟩ : ∃ n, n = l.length := ⟨_, rfl⟩
  have HK := Lib.hid hk
  have HN := Lib.hid hn
  rw [← hn] at hl HK ⊢
  obtain ⟨E, hE⟩ : ∃ E, E = heE T B l := ⟨_, rfl⟩
  obtain ⟨L, hL⟩ : ∃ L, L = heL T B l := ⟨_, rfl⟩
  have hLL : L = if E = 0 then erL B T.toNat l else [] := by rw [hL, hE]; rfl
  rw [← hE, ← hL]
  unfold heE at hE
  rw [← hn] at hE
  have HL := Lib.hid hLL
  have HE := Lib.hid hE
  clear hk hn hL hLL hE
  have b0 : Below w.heap.size w (w.alloc (.cells #[.int .i64 T, .int .i64 B] 43)) := (Below.refl _ _).alloc (Nat.le_refl _) _
  have x0 : (w.alloc (.cells #[.int .i64 T, .int .i64 B] 43)).heap[w.heap.size]? = some (.cells #[.int .i64 T, .int .i64 B] 43) := alloc_new_at _ _ _ rfl
  have HB0 := Lib.hid b0
  have HX0 := Lib.hid x0
  clear b0 x0
  cases h1 : inR T 1 16 with
  | false =>
    have hE := HE.out
    simp [h1] at hE
    clear HE
    subst hE
    have hL := HL.out
    simp at hL
    subst hL
    go_enter Try.func24, Try.ntmps24
    go_wp2_with (go_at_call 55; refine (rwithin_any _ _ _ _).mono ?_; rintro e w1 ⟨rfl, rfl⟩; rw [h1])
    exact bodyPost_ret (v := .tuple #[.slice none 0 0, .int .i64 3]) (by simp [results, Try.results24, go_sem]) rfl (evGot_err HB0.out)
  | true =>
  cases h2 : inR B 1 32767 with
  | false =>
    have hE := HE.out
    simp [h1, h2] at hE
    clear HE
    subst hE
    have hL := HL.out
    simp at hL
    subst hL
    go_enter Try.func24, Try.ntmps24
    go_wp2_with (fail)
    go_at_call 55
    refine (rwithin_any _ _ _ _).mono ?_
    rintro e w1 ⟨rfl, rfl⟩
    rw [h1]
    go_wp2_with (fail)
    go_at_call 55
    refine (rwithin_any _ _ _ _).mono ?_
    rintro e w1 ⟨rfl, rfl⟩
    rw [h2]
    go_wp2
    exact bodyPost_ret (v := .tuple #[.slice none 0 0, .int .i64 3]) (by simp [results, Try.results24, go_sem]) rfl (evGot_err HB0.out)
  | true =>
  go_enter Try.func24, Try.ntmps24
  go_wp2_with (fail)
  go_at_call 55
  refine (rwithin_any _ _ _ _).mono ?_
  rintro e w1 ⟨rfl, rfl⟩
  rw [h1]
  go_wp2_with (fail)
  go_at_call 55
  refine (rwithin_any _ _ _ _).mono ?_
  rintro e w1 ⟨rfl, rfl⟩
  rw [h2]
  have HH1 := Lib.hid h1
  have HH2 := Lib.hid h2
  clear h1 h2
  generalize w.alloc (.cells #[.int .i64 T, .int .i64 B] 43) = W1 at *
  by_cases hbig : 4096 < n
  · have hE := HE.out
    simp [HH1.out, HH2.out, hbig] at hE
    clear HE
    subst hE
    have hL := HL.out
    simp at hL
    subst hL
    have g1 : ((4096 : Int) < (n : Int)) = True := by simp only [eq_iff_iff, iff_true]; omega
    go_wp2
    exact bodyPost_ret (v := .tuple #[.slice none 0 0, .int .i64 9]) (by simp [results, Try.results24, go_sem]) rfl (evGot_err HB0.out)
  have g1 : ((4096 : Int) < (n : Int)) = False := by simp only [eq_iff_iff, iff_false]; omega
  go_wp2
  clear g1
  go_loopw [6] (fun st wr => ∃ k : Nat, k ≤ n ∧ st = .int .i64 k ∧ Hid (((l.take k).all fun x => inR x (-32767) 32767) = true) ∧ W1 = wr) (fun st _ => n - (intOf st).toNat)
  case atStart => exact ⟨0, Nat.zero_le _, rfl, Lib.hid (by simp), rfl⟩
  case round =>
    obtain ⟨k, hk, rfl, HA, rfl⟩ := hrel
    have hi0 : (0 : Int) ≤ (k : Int) := Int.natCast_nonneg _
    by_cases hlt : k < n
    · obtain ⟨x, hx⟩ : ∃ x, l[k]? = some x := ⟨_, List.getElem?_eq_getElem (by rw [← HN.out]; exact hlt)⟩
      have hi1 : (k : Int) < (n : Int) := by omega
      have hsn : ((l.take (k + 1)).all fun x => inR x (-32767) 32767) = (((l.take k).all fun x => inR x (-32767) 32767) && inR x (-32767) 32767) := by rw [take_snoc_of hx]; simp
      have HSN := Lib.hid hsn
      have hnot : inR x (-32767) 32767 = false → (l.all fun x => inR x (-32767) 32767) = false := fun h => by
        rw [List.all_eq_false]; exact ⟨x, List.mem_of_getElem? hx, by simp [h]⟩
      have HNOT := Lib.hid hnot
      obtain ⟨b, off, rfl, hbl, hcl⟩ := (HK.out.below HB0.out).at hx
      clear hx hsn hnot
      cases hin : inR x (-32767) 32767 with
      | false =>
        have hE := HE.out
        simp [HH1.out, HH2.out, hbig, HNOT.out hin] at hE
        clear HE
        subst hE
        have hL := HL.out
        simp at hL
        subst hL
        go_wp2_with (go_at_call 55; refine (rwithin_any _ _ _ _).mono ?_; rintro e w1 ⟨rfl, rfl⟩; rw [hin])
        exact bodyPost_ret (v := .tuple #[.slice none 0 0, .int .i64 3]) (by simp [results, Try.results24, go_sem]) rfl (evGot_err HB0.out)
      | true =>
        go_wp2_with (fail)
        go_at_call 55
        refine (rwithin_any _ _ _ _).mono ?_
        rintro e w1 ⟨rfl, rfl⟩
        rw [hin]
        go_wp2
        go_roundw
        case rel => exact ⟨k + 1, by omega, by go_num, Lib.hid (by rw [HSN.out, HA.out, hin]; rfl), trivial⟩
        case measure => simp [intOf]; omega
    · have hal : (l.all fun x => inR x (-32767) 32767) = true := by
        have h1 := HA.out
        rw [show k = l.length from by have := HN.out; omega, List.take_length] at h1
        exact h1
      have hE := HE.out
      simp [HH1.out, HH2.out, hbig, hal] at hE
      clear HE
      subst hE
      have hL := HL.out
      simp at hL
      subst hL
      have HV := Lib.hid (show ∀ x ∈ l, -32767 ≤ x ∧ x ≤ 32767 from fun x hx => inR_true.1 (List.all_eq_true.1 hal x hx))
      have k1 := inR_true.1 HH1.out
      have k2 := inR_true.1 HH2.out
      obtain ⟨C, rfl⟩ : ∃ C : Nat, T = (C : Int) := ⟨T.toNat, by omega⟩
      rw [Int.toNat_natCast]
      have hC1 : C ≤ 16 := by omega
      have hok : ErOk C B := ⟨by omega, by omega, k2.1, k2.2⟩
      have HOK := Lib.hid hok
      obtain ⟨s0, s1⟩ := k2
      have hkn : k = n := by omega
      have HBIG := Lib.hid (show k ≤ 4096 by omega)
      subst hkn
      have hNl := lt_of_block HX0.out
      have hmk1 := fun W => make_row (C + 1) (by omega) W
      have hmk2 := fun W => make_row C (by omega) W
      rw [show ((C + 1 : Nat) : Int) = (C : Int) + 1 from by omega] at hmk1
      obtain ⟨x0, x1, _, _⟩ := cells2 HX0.out
      have hC0 : (0 : Int) ≤ (C : Int) := Int.natCast_nonneg _
      have HHOK := Lib.hid hal
      clear hal hlt hbig HA k1 hok
      go_upto_region 13 with (fail)
      have hI0 : RhI w W1.heap.size C B (fun _ => 0) (fun _ => 0) [] (.slice none 0 0) ((W1.alloc (.cells (rowC (C + 1) fun _ => 0).toArray 3)).alloc (.cells (rowC C fun _ => 0).toArray 3)) :=
        ⟨(Below.heap_alloc _ _ _ (by simp)).trans (alloc_new_at _ _ _ rfl), alloc_new_at _ _ _ (by simp), World.ownsRow_nil _ _ _ _, by rw [Below.heap_alloc _ _ _ (by simp; omega), Below.heap_alloc _ _ _ hNl]; exact HX0.out, (HB0.out.alloc HB0.out.size _).alloc (by simp; omega) _⟩
      have HI0 := Lib.hid hI0
      clear hI0 hmk1 hmk2 x0 x1
      generalize (W1.alloc (.cells (rowC (C + 1) fun _ => 0).toArray 3)).alloc (.cells (rowC C fun _ => 0).toArray 3) = W2 at *
      go_wp2
      go_loopw [7, 10] (fun s7 s10 wr => ∃ t : Nat, t ≤ k ∧ s10 = .int .i64 t ∧ RhI w W1.heap.size C B (zA (l.take t)) (lN (zA (l.take t))) (pieces (erT B C l) t) s7 wr) (fun _ s10 _ => k - (intOf s10).toNat)
      case atStart => exact ⟨0, Nat.zero_le _, rfl, ⟨HI0.out.z.congr (fun i _ => by simp [zA]), HI0.out.q.congr (fun i _ => by simp [lN, zA]), HI0.out.own, HI0.out.box, HI0.out.bel⟩⟩
      case round =>
        obtain ⟨t, ht, rfl, hi⟩ := hrel
        obtain ⟨va, vc, rfl⟩ := own_slC hi.own
        have ht0 : (0 : Int) ≤ (t : Int) := Int.natCast_nonneg _
        by_cases hlt : t < k
        · have ht1 : (t : Int) < (k : Int) := by omega
          obtain ⟨x, hx⟩ : ∃ x, l[t]? = some x := ⟨_, List.getElem?_eq_getElem (by rw [← HN.out]; exact hlt)⟩
          obtain ⟨x0, x1⟩ := HV.out x (List.mem_of_getElem? hx)
          have hzb := zA_in (a := -8388352) (b := 8388352) (by decide) (by decide) (l.take t) (fun y hy => by have := HV.out y (List.mem_of_mem_take hy); omega)
          have hznx := zA_at hx
          have HXE := Lib.hid hx
          obtain ⟨z, hzz⟩ : ∃ z, z = zA (l.take t) := ⟨_, rfl⟩
          rw [← hzz] at hi hzb hznx
          have hzn : ∀ j, -8388352 ≤ zN x z j ∧ zN x z j ≤ 8388352 := fun j => zN_in (hzb j).1 (hzb j).2 (by omega) (by omega)
          have HI := Lib.hid hi
          have HZB := Lib.hid hzb
          have HZNB := Lib.hid hzn
          have HZNX := Lib.hid hznx
          have HZE := Lib.hid hzz
          obtain ⟨m, hm⟩ : ∃ m, m = (pieces (erT B C l) t).length := ⟨_, rfl⟩
          have HMQ := Lib.hid hm
          rw [← hm] at HI ⊢
          clear hx hi hzb hznx hzz hzn hm
          generalize wr = wo at *
          go_wp2
          go_loopw [11] (fun s wr => ∃ q : Nat, q ≤ C + 1 ∧ s = .int .i64 q ∧ RhI w W1.heap.size C B (midZ x z q) (lN z) (pieces (erT B C l) t) (.slice va m vc) wr) (fun s _ => C + 1 - (intOf s).toNat)
          case atStart => exact ⟨0, Nat.zero_le _, rfl, ⟨HI.out.z.congr (fun i _ => by simp [midZ]), HI.out.q, HI.out.own, HI.out.box, HI.out.bel⟩⟩
          case round =>
            obtain ⟨q, hq, rfl, hi⟩ := hrel
            have hq0 : (0 : Int) ≤ (q : Int) := Int.natCast_nonneg _
            have HI2 := Lib.hid hi
            obtain ⟨bx0, bx1, _, _⟩ := cells2 hi.box
            have hbxl := lt_of_block hi.box
            obtain ⟨g, off, hge, hgl, hcc⟩ := (HK.out.below hi.bel).at HXE.out
            subst hge
            by_cases hlq : q < C + 1
            · have hq1 : (q : Int) < (C : Int) + 1 := by omega
              have hq2 : ((q : Int) ≤ (C : Int)) = True := by simp only [eq_iff_iff, iff_true]; omega
              obtain ⟨y0, f0⟩ := hi.z.cell (i := q) (by omega)
              rw [show midZ x z q q = z q from if_neg (by omega)] at y0
              obtain ⟨b0, b1⟩ := HZB.out q
              obtain ⟨e0, e1⟩ := HZNB.out q
              have hd : zN x z q = z q + (256 * x - z q) / (2 : Int) ^ (q + 1) := rfl
              have hP0 := pow2_pos (q + 1)
              have hP1 := pow2_le (k := q + 1) (by omega)
              obtain ⟨P, hP⟩ : ∃ P, (2 : Int) ^ (q + 1) = P := ⟨_, rfl⟩
              obtain ⟨D, hD⟩ : ∃ D, (256 * x - z q) / P = D := ⟨_, rfl⟩
              rw [hP] at hd hP0 hP1
              rw [hD] at hd
              have HSET := Lib.hid (fun (A : World) (hA : RhI w W1.heap.size C B (midZ x z q) (lN z) (pieces (erT B C l) t) (.slice va m vc) A) => hA.setZ hNl (by omega : q < C + 1) (z q + D) (fun j _ => midZ_set x z q D hd.symm j))
              rw [hd] at e0 e1
              obtain ⟨zq, hzq⟩ : ∃ zq, zq = z q := ⟨_, rfl⟩
              rw [← hzq] at y0 b0 b1 e0 e1 hD HSET
              have HDN := Lib.hid (fun W => down_any (256 * x - zq) P D hP0 (by omega) (by omega) hD W)
              clear hd hzq hi hD hlq
              go_upto_region 19 with (fail)
              have h2 : ((q : Int) + 1).toNat = q + 1 := by omega
              have hp0 : (0 : Int) ≤ (q : Int) + 1 := by omega
              have hp1 : (q : Int) + 1 ≤ 64 := by omega
              have hw1 : IntKind.i64.wrap (256 * x) = 256 * x := by rw [IntKind.wrap_i64]; omega
              have hw2 : IntKind.i64.wrap (256 * x - zq) = 256 * x - zq := by rw [IntKind.wrap_i64]; omega
              have hw3 : IntKind.i64.wrap ((q : Int) + 1) = (q : Int) + 1 := by rw [IntKind.wrap_i64]; omega
              have hw4 : IntKind.i64.wrap (zq + D) = zq + D := by rw [IntKind.wrap_i64]; omega
              have hw5 : IntKind.i64.wrap P = P := by rw [IntKind.wrap_i64]; omega
              go_still_tail 20, (by kernel_rfl)
              still_call (HDN.out _)
              repeat still_step
              try refine wpStill_nil ?_
              change wpList _ _ _ _ _ wr.drew
              clear hw1 hw2 hw3 hw4 hw5 hp0 hp1 h2
              have HS2 := Lib.hid (HSET.out _ HI2.out.drew1)
              have y1 : wr.drew.cell? ⟨W1.heap.size, q, none⟩ = some (.int .i64 zq) := y0
              have f1 : wr.drew.frozen? ⟨W1.heap.size, q, none⟩ = false := f0
              clear y0 f0 hP bx0 bx1 hcc
              generalize wr.drew = W7 at *
              go_wp2
              go_roundw
              case rel => exact ⟨q + 1, by omega, by go_num, HS2.out⟩
              case measure => simp [intOf]; omega
            · have hqe : q = C + 1 := by omega
              subst hqe
              have hq2 : ((C : Int) + 1 ≤ (C : Int)) = False := by simp only [eq_iff_iff, iff_false]; omega
              rw [show ((C + 1 : Nat) : Int) = (C : Int) + 1 from by omega]
              obtain ⟨v, hv⟩ : ∃ v, v = zN x z := ⟨_, rfl⟩
              have hzc : ∀ i, i < C + 1 → midZ x z (C + 1) i = v i := fun i hi => by unfold midZ; rw [if_pos hi, hv]
              have hM0 : erM B C l t 0 = pieces (erT B C l) t := erM_zero _ _ _ _
              have HI3 := Lib.hid (show RhI w W1.heap.size C B v (lN z) (erM B C l t 0) (.slice va m vc) wr from by rw [hM0]; exact ⟨hi.z.congr hzc, hi.q, hi.own, hi.box, hi.bel⟩)
              have HVE := Lib.hid hv
              have HVB := Lib.hid (show ∀ j, -8388352 ≤ v j ∧ v j ≤ 8388352 from hv ▸ HZNB.out)
              have HME := Lib.hid (show ∀ q, erM B C l t (q + 1) = erM B C l t q ++ erC B t q (lN z q) (lN v q) from fun q => by rw [hv, erM_succ]; unfold erE; rw [HZNX.out, ← HZE.out])
              have HML := Lib.hid (show ∀ q, q ≤ C → (erM B C l t q).length ≤ 65536 from fun q hq => by
                have h1 := erM_le B C l (t := t) (k := q) (by rw [← HN.out]; exact hlt) hq
                have h2 : l.length * C ≤ 4096 * 16 := Nat.mul_le_mul (by rw [← HN.out]; exact HBIG.out) hC1
                omega)
              clear hv hzc hM0 hi hq hq0 hlq hcc hgl
              generalize wr = wi at *
              go_wp2
              clear hq2 bx0 bx1
              go_loopw [7, 12] (fun s7 s12 wr => ∃ q : Nat, q ≤ C ∧ s12 = .int .i64 q ∧ RhI w W1.heap.size C B v (midL (lN z) (lN v) q) (erM B C l t q) s7 wr) (fun _ s12 _ => C - (intOf s12).toNat)
              case atStart => exact ⟨0, Nat.zero_le _, rfl, ⟨HI3.out.z, HI3.out.q.congr (fun i _ => by simp [midL]), HI3.out.own, HI3.out.box, HI3.out.bel⟩⟩
              case round =>
                obtain ⟨q, hq, rfl, hi⟩ := hrel
                obtain ⟨va4, vc4, rfl⟩ := own_slC hi.own
                have hq0 : (0 : Int) ≤ (q : Int) := Int.natCast_nonneg _
                obtain ⟨bx0, bx1, _, _⟩ := cells2 hi.box
                have hbxl := lt_of_block hi.box
                by_cases hlq : q < C
                · have hq1 : (q : Int) < (C : Int) := by omega
                  have hq2 : (q : Int) < (C : Int) + 1 := by omega
                  have hq3 : (q : Int) + 1 < (C : Int) + 1 := by omega
                  obtain ⟨y0, f0⟩ := hi.q.cell (i := q) (by omega)
                  rw [show midL (lN z) (lN v) q q = lN z q from if_neg (by omega)] at y0
                  obtain ⟨p0, _⟩ := hi.z.cell (i := q) (by omega)
                  obtain ⟨p1, _⟩ := hi.z.cell (i := q + 1) (by omega)
                  obtain ⟨b0, b1⟩ := HVB.out q
                  obtain ⟨d0, d1⟩ := HVB.out (q + 1)
                  have hvd : lN v q = (v q - v (q + 1)) / 256 := rfl
                  have HMQ4 := Lib.hid (HME.out q)
                  have hml := HML.out q (by omega)
                  have HSET := Lib.hid (fun (A : World) (M' : List Evx) (v' : Value) (hA : RhI w W1.heap.size C B v (midL (lN z) (lN v) q) M' v' A) => hA.setQ hNl hlq (lN v q) (fun j _ => midL_set (lN z) (lN v) q j))
                  have HI4 := Lib.hid hi
                  obtain ⟨X, hX⟩ : ∃ X, X = v q := ⟨_, rfl⟩
                  obtain ⟨Y, hY⟩ : ∃ Y, Y = v (q + 1) := ⟨_, rfl⟩
                  obtain ⟨V, hV⟩ : ∃ V, V = lN v q := ⟨_, rfl⟩
                  obtain ⟨U, hU⟩ : ∃ U, U = lN z q := ⟨_, rfl⟩
                  obtain ⟨M, hM⟩ : ∃ M, M = erM B C l t q := ⟨_, rfl⟩
                  rw [← hX, ← hY, ← hV] at hvd
                  rw [← hV] at HSET HMQ4
                  rw [← hU] at HMQ4 y0
                  rw [← hM] at HMQ4 HI4 hml ⊢
                  rw [← hX] at p0 b0 b1
                  rw [← hY] at p1 d0 d1
                  have HDN := Lib.hid (fun W => down_any (X - Y) 256 V (by decide) (by omega) (by omega) hvd.symm W)
                  have HUE := Lib.hid hU
                  clear hi hX hY hV hU hvd hM
                  go_upto_region 23 with (fail)
                  have hp0 : (0 : Int) ≤ (q : Int) + 1 := by omega
                  have h2 : ((q : Int) + 1).toNat = q + 1 := by omega
                  have hw1 : IntKind.i64.wrap ((q : Int) + 1) = (q : Int) + 1 := by rw [IntKind.wrap_i64]; omega
                  have hw2 : IntKind.i64.wrap (X - Y) = X - Y := by rw [IntKind.wrap_i64]; omega
                  go_quiet ((go_at_call 61; exact Calls.quiet_of_same (HDN.out _)))
                  have HI5 := Lib.hid (HI4.out.drew nq)
                  clear hw1 hw2 hp0 h2 p0 p1 y0 f0 bx0 bx1 b0 b1 d0 d1 hbxl HI4
                  generalize wr.drewN nq = W5 at *
                  obtain ⟨y0, f0⟩ := HI5.out.q.cell (i := q) (by omega)
                  rw [show midL (lN z) (lN v) q q = lN z q from if_neg (by omega)] at y0
                  rw [← HUE.out] at y0
                  by_cases c1 : V ≤ -B
                  · have q1 := c1
                    by_cases c2 : -B < U
                    · have q2 := c2
                      have g0 : (V ≤ -B) = True := by simp only [eq_iff_iff, iff_true]; omega
                      have g1 : (-B < U) = True := by simp only [eq_iff_iff, iff_true]; omega
                      have g2 : (B ≤ V) = False := by simp only [eq_iff_iff, iff_false]; omega
                      have hec : erC B t q U V = [⟨t, 2 * (q : Int)⟩] := by unfold erC; rw [if_neg (by omega), if_pos (by omega)]
                      have HEC := Lib.hid hec
                      clear hec c1
                      obtain ⟨bx0, bx1, _, _⟩ := cells2 HI5.out.box
                      have hbxl := lt_of_block HI5.out.box
                      have hql := lt_of_block HI5.out.q
                      go_upto_region 24 with (fail)
                      have hwB : IntKind.i64.wrap (-B) = -B := by rw [IntKind.wrap_i64]; omega
                      go_quiet (fail)
                      have HI6 := Lib.hid (HI5.out.drew nq)
                      clear hwB y0 f0 bx0 bx1 hbxl hql
                      generalize W5.drewN nq = W6 at *
                      obtain ⟨bx0, bx1, _, _⟩ := cells2 HI6.out.box
                      have hbxl := lt_of_block HI6.out.box
                      have hql := lt_of_block HI6.out.q
                      go_upto_region 26 with (at_builtin; refine wpList_app_ev _ rfl _ _ rfl (W1.heap.size + 2) M _ rfl (HI6.out.own.alloc _) W6.heap.size (t : Int) (2 * (q : Int)) rfl (alloc_new_at _ _ _ rfl) (by omega) (by simp; omega) ?_; intro v' w9 hown' hb9; obtain ⟨va', vc', rfl⟩ := own_slC hown'; have HIA := Lib.hid (HI6.out.app hNl (((Below.refl (W1.heap.size + 2) W6).alloc (by omega) _).trans hb9) hown'); clear hown' hb9)
                      clear bx0 bx1 hbxl hql
                      obtain ⟨bx0, bx1, _, _⟩ := cells2 HIA.out.box
                      have hbxl := lt_of_block HIA.out.box
                      have hql := lt_of_block HIA.out.q
                      obtain ⟨y0, f0⟩ := HIA.out.q.cell (i := q) (by omega)
                      rw [show midL (lN z) (lN v) q q = lN z q from if_neg (by omega), ← HUE.out] at y0
                      go_quiet (fail)
                      have HI7 := Lib.hid (HIA.out.drew nq)
                      clear y0 f0 bx0 bx1 hbxl hql
                      generalize w9.drewN nq = W7 at *
                      obtain ⟨bx0, bx1, _, _⟩ := cells2 HI7.out.box
                      have hbxl := lt_of_block HI7.out.box
                      have hql := lt_of_block HI7.out.q
                      go_upto_region 28 with (fail)
                      clear bx0 bx1 hbxl hql
                      obtain ⟨y0, f0⟩ := HI7.out.q.cell (i := q) (by omega)
                      rw [show midL (lN z) (lN v) q q = lN z q from if_neg (by omega), ← HUE.out] at y0
                      have HI8 := Lib.hid (HSET.out _ _ _ HI7.out)
                      go_wp2
                      go_roundw
                      case rel => exact ⟨q + 1, by omega, by go_num, by have h9 := HI8.out; rw [List.length_append] at h9; rw [HMQ4.out, HEC.out]; exact h9⟩
                      case measure => simp [intOf]; omega
                    · have q2 := c2
                      have g0 : (V ≤ -B) = True := by simp only [eq_iff_iff, iff_true]; omega
                      have g1 : (-B < U) = False := by simp only [eq_iff_iff, iff_false]; omega
                      have g2 : (B ≤ V) = False := by simp only [eq_iff_iff, iff_false]; omega
                      have hec : erC B t q U V = [] := by unfold erC; rw [if_neg (by omega), if_neg (by omega)]
                      have HEC := Lib.hid hec
                      clear hec c1
                      obtain ⟨bx0, bx1, _, _⟩ := cells2 HI5.out.box
                      have hbxl := lt_of_block HI5.out.box
                      have hql := lt_of_block HI5.out.q
                      go_upto_region 24 with (fail)
                      have hwB : IntKind.i64.wrap (-B) = -B := by rw [IntKind.wrap_i64]; omega
                      go_quiet (fail)
                      have HI6 := Lib.hid (HI5.out.drew nq)
                      clear hwB y0 f0 bx0 bx1 hbxl hql
                      generalize W5.drewN nq = W6 at *
                      obtain ⟨bx0, bx1, _, _⟩ := cells2 HI6.out.box
                      have hbxl := lt_of_block HI6.out.box
                      have hql := lt_of_block HI6.out.q
                      go_upto_region 26 with (fail)
                      clear bx0 bx1 hbxl hql
                      obtain ⟨bx0, bx1, _, _⟩ := cells2 HI6.out.box
                      have hbxl := lt_of_block HI6.out.box
                      have hql := lt_of_block HI6.out.q
                      obtain ⟨y0, f0⟩ := HI6.out.q.cell (i := q) (by omega)
                      rw [show midL (lN z) (lN v) q q = lN z q from if_neg (by omega), ← HUE.out] at y0
                      go_quiet (fail)
                      have HI7 := Lib.hid (HI6.out.drew nq)
                      clear y0 f0 bx0 bx1 hbxl hql
                      generalize W6.drewN nq = W7 at *
                      obtain ⟨bx0, bx1, _, _⟩ := cells2 HI7.out.box
                      have hbxl := lt_of_block HI7.out.box
                      have hql := lt_of_block HI7.out.q
                      go_upto_region 28 with (fail)
                      clear bx0 bx1 hbxl hql
                      obtain ⟨y0, f0⟩ := HI7.out.q.cell (i := q) (by omega)
                      rw [show midL (lN z) (lN v) q q = lN z q from if_neg (by omega), ← HUE.out] at y0
                      have HI8 := Lib.hid (HSET.out _ _ _ HI7.out)
                      go_wp2
                      go_roundw
                      case rel => exact ⟨q + 1, by omega, by go_num, by have h9 := HI8.out; rw [HMQ4.out, HEC.out]; simp only [List.append_nil]; exact h9⟩
                      case measure => simp [intOf]; omega
                  · have q1 := c1
                    by_cases c3 : B ≤ V
                    · by_cases c2 : U < B
                      · have q2 := c2
                        have g0 : (V ≤ -B) = False := by simp only [eq_iff_iff, iff_false]; omega
                        have g1 : (B ≤ V) = True := by simp only [eq_iff_iff, iff_true]; omega
                        have g2 : (U < B) = True := by simp only [eq_iff_iff, iff_true]; omega
                        have hec : erC B t q U V = [⟨t, 2 * (q : Int) + 1⟩] := by unfold erC; rw [if_pos (by omega)]
                        have HEC := Lib.hid hec
                        clear hec c1
                        obtain ⟨bx0, bx1, _, _⟩ := cells2 HI5.out.box
                        have hbxl := lt_of_block HI5.out.box
                        have hql := lt_of_block HI5.out.q
                        go_upto_region 24 with (fail)
                        have hwB : IntKind.i64.wrap (-B) = -B := by rw [IntKind.wrap_i64]; omega
                        go_quiet (fail)
                        have HI6 := Lib.hid (HI5.out.drew nq)
                        clear hwB y0 f0 bx0 bx1 hbxl hql
                        generalize W5.drewN nq = W6 at *
                        obtain ⟨bx0, bx1, _, _⟩ := cells2 HI6.out.box
                        have hbxl := lt_of_block HI6.out.box
                        have hql := lt_of_block HI6.out.q
                        go_upto_region 26 with (fail)
                        clear bx0 bx1 hbxl hql
                        obtain ⟨bx0, bx1, _, _⟩ := cells2 HI6.out.box
                        have hbxl := lt_of_block HI6.out.box
                        have hql := lt_of_block HI6.out.q
                        obtain ⟨y0, f0⟩ := HI6.out.q.cell (i := q) (by omega)
                        rw [show midL (lN z) (lN v) q q = lN z q from if_neg (by omega), ← HUE.out] at y0
                        go_quiet (fail)
                        have HI7 := Lib.hid (HI6.out.drew nq)
                        clear y0 f0 bx0 bx1 hbxl hql
                        generalize W6.drewN nq = W7 at *
                        obtain ⟨bx0, bx1, _, _⟩ := cells2 HI7.out.box
                        have hbxl := lt_of_block HI7.out.box
                        have hql := lt_of_block HI7.out.q
                        go_upto_region 28 with (at_builtin; refine wpList_app_ev _ rfl _ _ rfl (W1.heap.size + 2) M _ rfl (HI7.out.own.alloc _) W7.heap.size (t : Int) (2 * (q : Int) + 1) rfl (alloc_new_at _ _ _ rfl) (by omega) (by simp; omega) ?_; intro v' w9 hown' hb9; obtain ⟨va', vc', rfl⟩ := own_slC hown'; have HIA := Lib.hid (HI7.out.app hNl (((Below.refl (W1.heap.size + 2) W7).alloc (by omega) _).trans hb9) hown'); clear hown' hb9)
                        clear bx0 bx1 hbxl hql
                        obtain ⟨y0, f0⟩ := HIA.out.q.cell (i := q) (by omega)
                        rw [show midL (lN z) (lN v) q q = lN z q from if_neg (by omega), ← HUE.out] at y0
                        have HI8 := Lib.hid (HSET.out _ _ _ HIA.out)
                        go_wp2
                        go_roundw
                        case rel => exact ⟨q + 1, by omega, by go_num, by have h9 := HI8.out; rw [List.length_append] at h9; rw [HMQ4.out, HEC.out]; exact h9⟩
                        case measure => simp [intOf]; omega
                      · have q2 := c2
                        have g0 : (V ≤ -B) = False := by simp only [eq_iff_iff, iff_false]; omega
                        have g1 : (B ≤ V) = True := by simp only [eq_iff_iff, iff_true]; omega
                        have g2 : (U < B) = False := by simp only [eq_iff_iff, iff_false]; omega
                        have hec : erC B t q U V = [] := by unfold erC; rw [if_neg (by omega), if_neg (by omega)]
                        have HEC := Lib.hid hec
                        clear hec c1
                        obtain ⟨bx0, bx1, _, _⟩ := cells2 HI5.out.box
                        have hbxl := lt_of_block HI5.out.box
                        have hql := lt_of_block HI5.out.q
                        go_upto_region 24 with (fail)
                        have hwB : IntKind.i64.wrap (-B) = -B := by rw [IntKind.wrap_i64]; omega
                        go_quiet (fail)
                        have HI6 := Lib.hid (HI5.out.drew nq)
                        clear hwB y0 f0 bx0 bx1 hbxl hql
                        generalize W5.drewN nq = W6 at *
                        obtain ⟨bx0, bx1, _, _⟩ := cells2 HI6.out.box
                        have hbxl := lt_of_block HI6.out.box
                        have hql := lt_of_block HI6.out.q
                        go_upto_region 26 with (fail)
                        clear bx0 bx1 hbxl hql
                        obtain ⟨bx0, bx1, _, _⟩ := cells2 HI6.out.box
                        have hbxl := lt_of_block HI6.out.box
                        have hql := lt_of_block HI6.out.q
                        obtain ⟨y0, f0⟩ := HI6.out.q.cell (i := q) (by omega)
                        rw [show midL (lN z) (lN v) q q = lN z q from if_neg (by omega), ← HUE.out] at y0
                        go_quiet (fail)
                        have HI7 := Lib.hid (HI6.out.drew nq)
                        clear y0 f0 bx0 bx1 hbxl hql
                        generalize W6.drewN nq = W7 at *
                        obtain ⟨bx0, bx1, _, _⟩ := cells2 HI7.out.box
                        have hbxl := lt_of_block HI7.out.box
                        have hql := lt_of_block HI7.out.q
                        go_upto_region 28 with (fail)
                        clear bx0 bx1 hbxl hql
                        obtain ⟨y0, f0⟩ := HI7.out.q.cell (i := q) (by omega)
                        rw [show midL (lN z) (lN v) q q = lN z q from if_neg (by omega), ← HUE.out] at y0
                        have HI8 := Lib.hid (HSET.out _ _ _ HI7.out)
                        go_wp2
                        go_roundw
                        case rel => exact ⟨q + 1, by omega, by go_num, by have h9 := HI8.out; rw [HMQ4.out, HEC.out]; simp only [List.append_nil]; exact h9⟩
                        case measure => simp [intOf]; omega
                    · have q2 := c3
                      have g0 : (V ≤ -B) = False := by simp only [eq_iff_iff, iff_false]; omega
                      have g1 : (B ≤ V) = False := by simp only [eq_iff_iff, iff_false]; omega
                      have hec : erC B t q U V = [] := by unfold erC; rw [if_neg (by omega), if_neg (by omega)]
                      have HEC := Lib.hid hec
                      clear hec c1
                      obtain ⟨bx0, bx1, _, _⟩ := cells2 HI5.out.box
                      have hbxl := lt_of_block HI5.out.box
                      have hql := lt_of_block HI5.out.q
                      go_upto_region 24 with (fail)
                      have hwB : IntKind.i64.wrap (-B) = -B := by rw [IntKind.wrap_i64]; omega
                      go_quiet (fail)
                      have HI6 := Lib.hid (HI5.out.drew nq)
                      clear hwB y0 f0 bx0 bx1 hbxl hql
                      generalize W5.drewN nq = W6 at *
                      obtain ⟨bx0, bx1, _, _⟩ := cells2 HI6.out.box
                      have hbxl := lt_of_block HI6.out.box
                      have hql := lt_of_block HI6.out.q
                      go_upto_region 26 with (fail)
                      clear bx0 bx1 hbxl hql
                      obtain ⟨bx0, bx1, _, _⟩ := cells2 HI6.out.box
                      have hbxl := lt_of_block HI6.out.box
                      have hql := lt_of_block HI6.out.q
                      obtain ⟨y0, f0⟩ := HI6.out.q.cell (i := q) (by omega)
                      rw [show midL (lN z) (lN v) q q = lN z q from if_neg (by omega), ← HUE.out] at y0
                      go_quiet (fail)
                      have HI7 := Lib.hid (HI6.out.drew nq)
                      clear y0 f0 bx0 bx1 hbxl hql
                      generalize W6.drewN nq = W7 at *
                      obtain ⟨bx0, bx1, _, _⟩ := cells2 HI7.out.box
                      have hbxl := lt_of_block HI7.out.box
                      have hql := lt_of_block HI7.out.q
                      go_upto_region 28 with (fail)
                      clear bx0 bx1 hbxl hql
                      obtain ⟨y0, f0⟩ := HI7.out.q.cell (i := q) (by omega)
                      rw [show midL (lN z) (lN v) q q = lN z q from if_neg (by omega), ← HUE.out] at y0
                      have HI8 := Lib.hid (HSET.out _ _ _ HI7.out)
                      go_wp2
                      go_roundw
                      case rel => exact ⟨q + 1, by omega, by go_num, by have h9 := HI8.out; rw [HMQ4.out, HEC.out]; simp only [List.append_nil]; exact h9⟩
                      case measure => simp [intOf]; omega
                · have hqe : q = C := by omega
                  subst hqe
                  have HI9 := Lib.hid (show RhI w W1.heap.size q B (zA (l.take (t + 1))) (lN (zA (l.take (t + 1)))) (pieces (erT B q l) (t + 1)) (.slice va4 (erM B q l t q).length vc4) wr from by
                    rw [HZNX.out, ← HVE.out, ← erM_full]
                    exact ⟨hi.z, hi.q.congr (fun i hi => by unfold midL; rw [if_pos hi]), hi.own, hi.box, hi.bel⟩)
                  obtain ⟨m9, hm9⟩ : ∃ m9, m9 = (erM B q l t q).length := ⟨_, rfl⟩
                  rw [← hm9] at HI9 ⊢
                  clear hi hlq hm9
                  go_wp2
                  go_roundw
                  case rel => exact ⟨t + 1, by omega, by go_num, HI9.out⟩
                  case measure => simp [intOf]; omega
        · have htk : t = k := by omega
          subst htk
          have hlL : (pieces (erT B C l) t).length = (erL B C l).length := by unfold erL; rw [← HN.out]
          have hle := erL_short HOK.out (l := l) (by rw [← HN.out]; exact HBIG.out)
          rw [← hlL] at hle
          have HIF := Lib.hid (show RhI w W1.heap.size C B (zA (l.take t)) (lN (zA (l.take t))) (erL B C l) (.slice va (pieces (erT B C l) t).length vc) wr from by unfold erL; rw [← HN.out]; exact hi)
          obtain ⟨m, hm⟩ : ∃ m, m = (pieces (erT B C l) t).length := ⟨_, rfl⟩
          rw [← hm] at HIF hle ⊢
          have g9 : ((65536 : Int) < (m : Int)) = False := by simp only [eq_iff_iff, iff_false]; omega
          clear hi hlL hm hlt
          go_wp2
          exact bodyPost_ret (v := .tuple #[.slice va m vc, .int .i64 0]) (by simp [results, Try.results24, go_sem]) rfl ⟨_, rfl, evxAt_of_owns HIF.out.own, HIF.out.bel⟩
end Go.Proofs.Ytbnjmpjodmlccaa
