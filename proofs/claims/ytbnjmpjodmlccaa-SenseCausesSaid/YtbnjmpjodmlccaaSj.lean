/- Ears: what the iterator hands out. (mk_Sj.py wrote this.) Over this seat's program; the conditions are named. -/
import Derived.Test.YtbnjmpjodmlccaaSi
import Derived.Test.YtbnjmpjodmlccaaDq
namespace Go.Proofs.Ytbnjmpjodmlccaa
set_option linter.unusedVariables false
open Go.RowKit Go.Shelf
attribute [local go_sem] Oper.semAt_some

/-- The values of the region that calls event. -/
def hr14 (N C q : Nat) (S U V R : Int) (is : Bool) : Nat → Value
  | 0 => .agg #[.int .i64 (C : Int), .int .i64 S]
  | 1 => .int .i64 (q : Int)
  | 2 => .int .i64 U
  | 3 => .slice (some ⟨N + 1, 0, none⟩) C C
  | 4 => .int .i64 (q : Int)
  | 5 => .pointer (some ⟨N + 1, q, none⟩)
  | 6 => .int .i64 V
  | 7 => .tuple #[.int .i64 R, .bool is]
  | 8 => .tuple #[.int .i64 R, .bool is]
  | 9 => .int .i64 R
  | 10 => .bool is
  | 11 => .int .i64 R
  | 12 => .bool is
  | _ => undef
set_option maxRecDepth 100000 in
set_option maxHeartbeats 4000000 in
theorem heard1_gives (C : Nat) (S : Int) (h : ErOk C S) (l : List Int) (n cap : Nat) (sa : Option Addr) (hn : n = l.length) (hl : n ≤ 4096) (hv : ∀ x ∈ l, -32767 ≤ x ∧ x ≤ 32767) (be bl : Nat) (w0 : World)
    (hbe : w0.heap[be]? = some (.cells #[.int .i64 (C : Int), .int .i64 S] 47)) (hbl : w0.heap[bl]? = some (.cells #[.slice sa n cap] 25)) (hk : KAt .i64 w0 (.slice sa n cap) l) :
    Gives Try.prog 82 #[.pointer (some ⟨be, 0, none⟩), .pointer (some ⟨bl, 0, none⟩)] evEnc (erL S C l) (fun b => b = be ∨ b = bl ∨ dataB (.slice sa n cap) b) w0 := by
  intro L J Jx W hsz hsame hJ hJx h0 hY
  have hWl := (hsame bl (.inr (.inl rfl))).trans hbl
  have hWe := (hsame be (.inl rfl)).trans hbe
  have hltl := lt_of_block hWl
  have hlte := lt_of_block hWe
  obtain ⟨cl, _⟩ := cells1 hWl
  obtain ⟨ce0, ce1, _, _⟩ := cells2 hWe
  have hcap : ∀ b, (b = be ∨ b = bl ∨ dataB (.slice sa n cap) b) → b < W.heap.size := by
    rintro b (rfl | rfl | hb)
    · exact hlte
    · exact hltl
    · exact Nat.lt_of_lt_of_le (hk.lt hb) hsz
  obtain ⟨c0, c1, s0, s1⟩ := h
  have HOK := Lib.hid (show ErOk C S from ⟨c0, c1, s0, s1⟩)
  have HCAP := Lib.hid hcap
  have HSM := Lib.hid hsame
  have HBE := Lib.hid hbe
  have HBL := Lib.hid hbl
  have HK := Lib.hid hk
  have HV := Lib.hid hv
  have HN := Lib.hid hn
  have HJ := Lib.hid hJ
  have HY := Lib.hid hY
  have HJ0 := Lib.hid h0
  clear hbl hbe hk hWl hWe hsame hv hn hcap hJ hJx hY h0
  refine callsIn_wide.2 ?_
  simp only [List.append_toArray, List.nil_append, List.cons_append]
  have hmk1 := fun W => make_row (C + 1) (by omega) W
  have hmk2 := fun W => make_row C (by omega) W
  rw [show ((C + 1 : Nat) : Int) = (C : Int) + 1 from by omega] at hmk1
  go_enter Try.func82, Try.ntmps82
  go_upto_region 2 with (fail)
  have hz0 : RowAt ((W.alloc (.cells (rowC (C + 1) fun _ => 0).toArray 3)).alloc (.cells (rowC C fun _ => 0).toArray 3)) W.heap.size (C + 1) (fun _ => 0) := (Below.heap_alloc _ _ _ (by simp)).trans (alloc_new_at _ _ _ rfl)
  have hq0 : RowAt ((W.alloc (.cells (rowC (C + 1) fun _ => 0).toArray 3)).alloc (.cells (rowC C fun _ => 0).toArray 3)) (W.heap.size + 1) C (fun _ => 0) := alloc_new_at _ _ _ (by simp)
  have hb0 : Below W.heap.size W ((W.alloc (.cells (rowC (C + 1) fun _ => 0).toArray 3)).alloc (.cells (rowC C fun _ => 0).toArray 3)) := ((Below.refl _ _).alloc (Nat.le_refl _) _).alloc (by simp) _
  have hs0 : W.heap.size + 2 ≤ ((W.alloc (.cells (rowC (C + 1) fun _ => 0).toArray 3)).alloc (.cells (rowC C fun _ => 0).toArray 3)).heap.size := by simp
  have hj0 := HJ.out _ _ _ _ HJ0.out (Bel.ofBelow hb0 (Nat.le_refl _))
  generalize (W.alloc (.cells (rowC (C + 1) fun _ => 0).toArray 3)).alloc (.cells (rowC C fun _ => 0).toArray 3) = W1 at *
  have hcl1 := (hb0.cell (p := ⟨bl, 0, none⟩) hltl).trans cl
  have hi0 : HrI W.heap.size w0 (fun b => b = be ∨ b = bl ∨ dataB (.slice sa n cap) b) J (fun _ => False) 0 W1 := ⟨fun b h => h.elim, hs0, hj0, fun b hb => (hb0.block b (HCAP.out b hb)).trans (HSM.out b hb)⟩
  have HZ0 := Lib.hid hz0
  have HQ0 := Lib.hid hq0
  have HI0 := Lib.hid hi0
  clear hz0 hq0 hb0 hs0 hj0 hi0 cl ce0 ce1 hmk1 hmk2 hltl hlte
  go_upto_region 3 with (fail)
  go_loopw [22] (fun s wr => ∃ (k : Nat) (G : Nat → Prop), k ≤ n ∧ s = .int .i64 k ∧ RowAt wr W.heap.size (C + 1) (zA (l.take k)) ∧ RowAt wr (W.heap.size + 1) C (lN (zA (l.take k))) ∧ HrI W.heap.size w0 (fun b => b = be ∨ b = bl ∨ dataB (.slice sa n cap) b) J G (pieces (erT S C l) k).length wr) (fun s _ => n - (intOf s).toNat)
  case atStart => exact ⟨0, _, Nat.zero_le _, rfl, HZ0.out, HQ0.out.congr (fun i _ => by simp [lN, zA]), HI0.out⟩
  case round =>
    obtain ⟨k, G, hk, rfl, hz, hq, hi⟩ := hrel
    have hk0 : (0 : Int) ≤ (k : Int) := Int.natCast_nonneg _
    by_cases hlt : k < n
    · have hi1 : (k : Int) < (n : Int) := by omega
      obtain ⟨x, hx⟩ : ∃ x, l[k]? = some x := ⟨_, List.getElem?_eq_getElem (by rw [← HN.out]; exact hlt)⟩
      obtain ⟨x0, x1⟩ := HV.out x (List.mem_of_getElem? hx)
      have hzb := zA_in (a := -8388352) (b := 8388352) (by decide) (by decide) (l.take k) (fun y hy => by have := HV.out y (List.mem_of_mem_take hy); omega)
      have hznx := zA_at hx
      obtain ⟨g, off, hge, hgl, hcc⟩ := (HK.out.same (fun b hb => hi.cap b (.inr (.inr hb)))).at hx
      subst hge
      have hM : ∀ q, erM S C l k q = pieces (erT S C l) k ++ pieces (fun j => erC S k j (lN (zA (l.take k)) j) (lN (zN x (zA (l.take k))) j)) q := fun q => by unfold erM erE; rw [hznx]
      obtain ⟨z, hzz⟩ : ∃ z, z = zA (l.take k) := ⟨_, rfl⟩
      rw [← hzz] at hz hq hzb hznx hM
      have hzn : ∀ j, -8388352 ≤ zN x z j ∧ zN x z j ≤ 8388352 := fun j => zN_in (hzb j).1 (hzb j).2 (by omega) (by omega)
      have HZ := Lib.hid hz
      have HQ := Lib.hid hq
      have HI := Lib.hid hi
      have HZB := Lib.hid hzb
      have HZNB := Lib.hid hzn
      have HZNX := Lib.hid hznx
      have HMM := Lib.hid hM
      have HXE := Lib.hid hx
      have HZE := Lib.hid hzz
      clear hx hz hq hi hzb hznx hzz hM hzn
      generalize wr = wo at *
      go_wp2
      go_loopw [29] (fun s wr => ∃ q : Nat, q ≤ C + 1 ∧ s = .int .i64 q ∧ RowAt wr W.heap.size (C + 1) (midZ x z q) ∧ Bel (fun b => b = W.heap.size) wo.heap.size wo wr) (fun s _ => C + 1 - (intOf s).toNat)
      case atStart => exact ⟨0, Nat.zero_le _, rfl, HZ.out.congr (fun i _ => by simp [midZ]), Bel.refl _ _ _⟩
      case round =>
        obtain ⟨q, hq, rfl, hr, hb⟩ := hrel
        have hq0 : (0 : Int) ≤ (q : Int) := Int.natCast_nonneg _
        have HB := Lib.hid hb
        have HR := Lib.hid hr
        clear hb
        by_cases hlq : q < C + 1
        · have hq1 : (q : Int) < (C : Int) + 1 := by omega
          obtain ⟨y0, f0⟩ := hr.cell (i := q) (by omega)
          rw [show midZ x z q q = z q from if_neg (by omega)] at y0
          obtain ⟨b0, b1⟩ := HZB.out q
          obtain ⟨e0, e1⟩ := HZNB.out q
          have hd : zN x z q = z q + (256 * x - z q) / (2 : Int) ^ (q + 1) := rfl
          have hset : ∀ D, z q + D = zN x z q → RowAt (wr.setCell ⟨W.heap.size, q, none⟩ (.int .i64 (z q + D))) W.heap.size (C + 1) (midZ x z (q + 1)) := fun D hD =>
            (hr.set (i := q) (by omega) (z q + D)).congr (fun i _ => midZ_set x z q D hD i)
          obtain ⟨D, hD⟩ : ∃ D, (256 * x - z q) / (2 : Int) ^ (q + 1) = D := ⟨_, rfl⟩
          rw [hD] at hd
          have HSET := Lib.hid (hset D hd.symm)
          rw [hd] at e0 e1
          obtain ⟨zq, hzq⟩ : ∃ zq, zq = z q := ⟨_, rfl⟩
          rw [← hzq] at y0 b0 b1 e0 e1 hD HSET
          have hwl : wr.heap.size = wo.heap.size ∨ wo.heap.size < wr.heap.size := by have := HB.out.size; omega
          clear hset hd hzq hr hwl
          have h2 : ((q : Int) + 1).toNat = q + 1 := by omega
          go_upto_region 8 with (fail)
          have hp0 : (0 : Int) ≤ (q : Int) + 1 := by omega
          have hp1 : (q : Int) + 1 ≤ 64 := by omega
          have hw1 : IntKind.i64.wrap (256 * x) = 256 * x := by rw [IntKind.wrap_i64]; omega
          have hw2 : IntKind.i64.wrap (256 * x - zq) = 256 * x - zq := by rw [IntKind.wrap_i64]; omega
          have hw3 : IntKind.i64.wrap ((q : Int) + 1) = (q : Int) + 1 := by rw [IntKind.wrap_i64]; omega
          have hw4 : IntKind.i64.wrap (zq + D) = zq + D := by rw [IntKind.wrap_i64]; omega
          go_still_tail 16, (by kernel_rfl)
          clear hw1 hw2 hw3 hw4 hp0 hp1 h2
          change wpList _ _ _ _ _ wr.drew
          have HSD := Lib.hid (show RowAt (wr.drew.setCell ⟨W.heap.size, q, none⟩ (.int .i64 (zq + D))) W.heap.size (C + 1) (midZ x z (q + 1)) from HSET.out)
          have HBD := Lib.hid (show Bel (fun b => b = W.heap.size) wo.heap.size wo (wr.drew.setCell ⟨W.heap.size, q, none⟩ (.int .i64 (zq + D))) from HB.out.drew.setCell (Or.inl rfl) _)
          have y1 : wr.drew.cell? ⟨W.heap.size, q, none⟩ = some (.int .i64 zq) := y0
          have f1 : wr.drew.frozen? ⟨W.heap.size, q, none⟩ = false := f0
          clear y0 f0 HSET
          generalize wr.drew = W7 at *
          go_wp2
          go_roundw
          case rel => exact ⟨q + 1, by omega, by go_num, HSD.out, HBD.out⟩
          case measure => simp [intOf]; omega
        · have hqe : q = C + 1 := by omega
          subst hqe
          have HI2 := Lib.hid (HI.out.own HJ.out HCAP.out (HB.out.mono (Nat.le_refl _) fun b _ h => Or.inl h))
          have HZ2 := Lib.hid (HR.out.congr (g := zN x z) (fun i hi => by unfold midZ; rw [if_pos hi]))
          have HQ2 := Lib.hid (show RowAt wr (W.heap.size + 1) C (lN z) from (HB.out.block _ (by have := HI.out.sz; omega) (by omega)).trans HQ.out)
          clear hr hlq HR HB
          rw [show ((C + 1 : Nat) : Int) = (C : Int) + 1 from by omega]
          have hM0 : erM S C l k 0 = pieces (erT S C l) k := erM_zero _ _ _ _
          have HI3 := Lib.hid (show HrI W.heap.size w0 (fun b => b = be ∨ b = bl ∨ dataB (.slice (some ⟨g, off, none⟩) n cap) b) J G (erM S C l k 0).length wr from by rw [hM0]; exact HI2.out)
          clear hM0 HI2 HI HZ HQ hgl hcc hq hq0
          obtain ⟨v, hv⟩ : ∃ v, v = zN x z := ⟨_, rfl⟩
          have HVE := Lib.hid hv
          have HZ3 := Lib.hid (show RowAt wr W.heap.size (C + 1) v from hv ▸ HZ2.out)
          have HVB := Lib.hid (show ∀ j, -8388352 ≤ v j ∧ v j ≤ 8388352 from hv ▸ HZNB.out)
          have HME := Lib.hid (show ∀ q, erM S C l k (q + 1) = erM S C l k q ++ erC S k q (lN z q) (lN v q) from fun q => by rw [hv, erM_succ]; unfold erE; rw [HZNX.out, ← HZE.out])
          have HMP := Lib.hid (show ∀ q, q ≤ C → erM S C l k q <+: erL S C l from fun q hq => erM_prefix S C l (by rw [← HN.out]; exact hlt) hq)
          clear hv HZ2
          generalize wr = wi at *
          go_wp2
          go_loopw [51] (fun s wr => ∃ (q : Nat) (G : Nat → Prop), q ≤ C ∧ s = .int .i64 q ∧ RowAt wr W.heap.size (C + 1) v ∧ RowAt wr (W.heap.size + 1) C (midL (lN z) (lN v) q) ∧ HrI W.heap.size w0 (fun b => b = be ∨ b = bl ∨ dataB (.slice (some ⟨g, off, none⟩) n cap) b) J G (erM S C l k q).length wr) (fun s _ => C - (intOf s).toNat)
          case atStart => exact ⟨0, G, Nat.zero_le _, rfl, HZ3.out, HQ2.out.congr (fun i _ => by simp [midL]), HI3.out⟩
          case round =>
            obtain ⟨q, G, hq, rfl, hz, hr, hi⟩ := hrel
            have hq0 : (0 : Int) ≤ (q : Int) := Int.natCast_nonneg _
            have HI4 := Lib.hid hi
            have hwz := hi.sz
            by_cases hlq : q < C
            · have hq1 : (q : Int) < (C : Int) := by omega
              have hq2 : (q : Int) < (C : Int) + 1 := by omega
              have hq3 : (q : Int) + 1 < (C : Int) + 1 := by omega
              obtain ⟨y0, f0⟩ := hr.cell (i := q) (by omega)
              rw [show midL (lN z) (lN v) q q = lN z q from if_neg (by omega)] at y0
              obtain ⟨p0, _⟩ := hz.cell (i := q) (by omega)
              obtain ⟨p1, _⟩ := hz.cell (i := q + 1) (by omega)
              obtain ⟨b0, b1⟩ := HVB.out q
              obtain ⟨d0, d1⟩ := HVB.out (q + 1)
              have hvd : lN v q = (v q - v (q + 1)) / 256 := rfl
              have hset := (hr.set (i := q) (by omega) (lN v q)).congr (fun i _ => midL_set (lN z) (lN v) q i)
              have HSET := Lib.hid hset
              have HZW := Lib.hid hz
              have HMQ := Lib.hid (HME.out q)
              obtain ⟨A, hA⟩ : ∃ A, A = v q := ⟨_, rfl⟩
              obtain ⟨B, hB⟩ : ∃ B, B = v (q + 1) := ⟨_, rfl⟩
              obtain ⟨V, hV⟩ : ∃ V, V = lN v q := ⟨_, rfl⟩
              obtain ⟨U, hU⟩ : ∃ U, U = lN z q := ⟨_, rfl⟩
              rw [← hA, ← hB, ← hV] at hvd
              rw [← hV] at HSET HMQ
              rw [← hU] at HMQ y0
              rw [← hA] at p0 b0 b1
              rw [← hB] at p1 d0 d1
              have HVV := Lib.hid hV
              clear hset hr hz hi hA hB hV hU
              go_upto_region 13 with (fail)
              have hp0 : (0 : Int) ≤ (q : Int) + 1 := by omega
              have h2 : ((q : Int) + 1).toNat = q + 1 := by omega
              have hw1 : IntKind.i64.wrap ((q : Int) + 1) = (q : Int) + 1 := by rw [IntKind.wrap_i64]; omega
              have hw2 : IntKind.i64.wrap (A - B) = A - B := by rw [IntKind.wrap_i64]; omega
              go_still_tail 14, (by kernel_rfl)
              clear hw1 hw2 hp0 h2
              change wpList _ _ _ _ _ wr.drew
              have HSD := Lib.hid (show RowAt (wr.drew.setCell ⟨W.heap.size + 1, q, none⟩ (.int .i64 V)) (W.heap.size + 1) C (midL (lN z) (lN v) (q + 1)) from HSET.out)
              have HBD := Lib.hid (show Bel (fun b => b = W.heap.size + 1) wr.heap.size wr (wr.drew.setCell ⟨W.heap.size + 1, q, none⟩ (.int .i64 V)) from Bel.setCell (p := ⟨W.heap.size + 1, q, none⟩) (Bel.drew (Bel.refl (fun b => b = W.heap.size + 1) wr.heap.size wr)) (Or.inl rfl) _)
              have y1 : wr.drew.cell? ⟨W.heap.size + 1, q, none⟩ = some (.int .i64 U) := y0
              have f1 : wr.drew.frozen? ⟨W.heap.size + 1, q, none⟩ = false := f0
              have ev : (A - B) / 256 = V := hvd.symm
              have ev2 : (A - B) / 2 ^ 8 = V := hvd.symm
              clear y0 f0 HSET p0 p1 hvd
              generalize hW7 : wr.drew = W7 at *
              clear hW7
              go_upto_region 14 with (fail)
              clear y1 f1 ev ev2 b0 b1 d0 d1
              generalize W7.setCell ⟨W.heap.size + 1, q, none⟩ (.int .i64 V) = W8 at *
              have HI5 := Lib.hid (HI4.out.own HJ.out HCAP.out (HBD.out.mono (Nat.le_refl _) fun b _ h => Or.inr h))
              have HZ5 := Lib.hid (show RowAt W8 W.heap.size (C + 1) v from (HBD.out.block _ (by omega) (by omega)).trans HZW.out)
              obtain ⟨y1, f1⟩ := HSD.out.cell (i := q) (by omega)
              rw [show midL (lN z) (lN v) (q + 1) q = lN v q from if_pos (by omega)] at y1
              rw [← HVV.out] at y1
              have hbel := lt_of_block ((HI5.out.cap be (.inl rfl)).trans HBE.out)
              have hpc := erC_of S k q U V
              obtain ⟨R, hR⟩ : ∃ R, R = erP S q U V := ⟨_, rfl⟩
              have HEV := Lib.hid (fun W => event_any C q S U V HOK.out (by omega) W)
              obtain ⟨id, is⟩ := R
              have hev : ∀ W, Calls Try.prog 83 #[.agg #[.int .i64 (C : Int), .int .i64 S], .int .i64 (q : Int), .int .i64 U, .int .i64 V] W fun e w' => e = .returned (.tuple #[.int .i64 id, .bool is]) ∧ Below W.heap.size W w' := fun W => by
                refine (HEV.out W).mono ?_
                rintro e w' ⟨he, hb⟩
                rw [← hR] at he
                exact ⟨he, hb⟩
              have HEV2 := Lib.hid hev
              rw [← hR] at hpc
              have hye := lt_of_block HSD.out
              have hbeB := Lib.hid ((HI5.out.cap be (.inl rfl)).trans HBE.out)
              have HY1 := Lib.hid y1
              clear hR hev HEV y1 f1
              refine wp_region_one 7 (fun _ => hr14 W.heap.size C q S U V id is) (fun W1 => Below W8.heap.size W8 W1) (fun _ W1 => Below W8.heap.size W8 W1) (by kernel_rfl) (by kernel_rfl) (by kernel_rfl) (by kernel_rfl) (by kernel_rfl) (by decide) (fun v v' i hi => rfl) (Below.refl _ _).drew ?cal ?stp ?dn
              case cal =>
                intro v W1 o b' ho hI hh
                simp only [List.getElem?_cons_zero, List.getElem?_cons_succ, Option.some.injEq] at ho
                subst ho
                have g0 := hh.got 0 _ 71 rfl rfl ⟨⟨0, .data⟩, by simp, rfl, rfl⟩ (by simp)
                have g1 := hh.got 1 _ 72 rfl rfl ⟨⟨1, .data⟩, by simp, rfl, rfl⟩ (by simp)
                have g2 := hh.got 2 _ 73 rfl rfl ⟨⟨2, .data⟩, by simp, rfl, rfl⟩ (by simp)
                have g6 := hh.got 6 _ 77 rfl rfl ⟨⟨6, .data⟩, by simp, rfl, rfl⟩ (by simp)
                simp [hr14] at g0 g1 g2 g6
                have HI := Lib.hid hI
                clear hI hh
                go_simp
                go_at_call 83
                refine (HEV2.out _).mono ?_
                rintro e w6 ⟨rfl, hb6⟩
                exact ⟨rfl, HI.out.trans (hb6.mono HI.out.size)⟩
              case stp =>
                intro L v W1 i o b' ho hne hci hI0 hI1 hh hlate
                have hi := (List.getElem?_eq_some_iff.1 ho).1
                have hc : i = 0 ∨ i = 1 ∨ i = 2 ∨ i = 3 ∨ i = 4 ∨ i = 5 ∨ i = 6 ∨ i = 7 ∨ i = 8 ∨ i = 9 ∨ i = 10 ∨ i = 11 ∨ i = 12 := by simp at hi; omega
                have hI : Below W8.heap.size W8 W1 := by
                  cases hL : L.getD 7 false with
                  | false => exact hI0 hL
                  | true => exact hI1 hL
                obtain ⟨ce0, ce1, _, _⟩ := cells2 ((hI.block be hbel).trans hbeB.out)
                have y1 := ((bcell hI).1 (W.heap.size + 1) q hye).trans HY1.out
                clear hi hI0 hI1 hI hci
                have k1 := hh.kept 1 (by simp)
                simp at k1
                have k5 := hh.kept 5 (by simp)
                simp at k5
                have k9 := hh.kept 9 (by simp)
                simp at k9
                have k10 := hh.kept 10 (by simp)
                simp at k10
                rcases hc with rfl | rfl | rfl | rfl | rfl | rfl | rfl | rfl | rfl | rfl | rfl | rfl | rfl
                · simp only [List.getElem?_cons_zero, Option.some.injEq] at ho
                  subst ho
                  go_simp
                  first | exact rfl | exact ⟨rfl, rfl⟩
                · simp only [List.getElem?_cons_zero, List.getElem?_cons_succ, Option.some.injEq] at ho
                  subst ho
                  go_simp
                  first | exact rfl | exact ⟨rfl, rfl⟩
                · simp only [List.getElem?_cons_zero, List.getElem?_cons_succ, Option.some.injEq] at ho
                  subst ho
                  go_simp
                  first | exact rfl | exact ⟨rfl, rfl⟩
                · simp only [List.getElem?_cons_zero, List.getElem?_cons_succ, Option.some.injEq] at ho
                  subst ho
                  go_simp
                  first | exact rfl | exact ⟨rfl, rfl⟩
                · simp only [List.getElem?_cons_zero, List.getElem?_cons_succ, Option.some.injEq] at ho
                  subst ho
                  go_simp
                  first | exact rfl | exact ⟨rfl, rfl⟩
                · simp only [List.getElem?_cons_zero, List.getElem?_cons_succ, Option.some.injEq] at ho
                  subst ho
                  have g3 := hh.got 3 _ 74 rfl rfl ⟨⟨3, .data⟩, by simp, rfl, rfl⟩ (by simp)
                  have g4 := hh.got 4 _ 75 rfl rfl ⟨⟨4, .data⟩, by simp, rfl, rfl⟩ (by simp)
                  simp [hr14] at g3 g4
                  go_simp
                  first | exact rfl | exact ⟨rfl, rfl⟩
                · simp only [List.getElem?_cons_zero, List.getElem?_cons_succ, Option.some.injEq] at ho
                  subst ho
                  have g5 := hh.got 5 _ 76 rfl rfl ⟨⟨5, .data⟩, by simp, rfl, rfl⟩ (by simp)
                  simp [hr14] at g5
                  go_simp
                  first | exact rfl | exact ⟨rfl, rfl⟩
                · simp only [List.getElem?_cons_zero, List.getElem?_cons_succ, Option.some.injEq] at ho
                  subst ho
                  have g0 := hh.got 0 _ 71 rfl rfl ⟨⟨0, .data⟩, by simp, rfl, rfl⟩ (by simp)
                  have g1 := hh.got 1 _ 72 rfl rfl ⟨⟨1, .data⟩, by simp, rfl, rfl⟩ (by simp)
                  have g2 := hh.got 2 _ 73 rfl rfl ⟨⟨2, .data⟩, by simp, rfl, rfl⟩ (by simp)
                  have g6 := hh.got 6 _ 77 rfl rfl ⟨⟨6, .data⟩, by simp, rfl, rfl⟩ (by simp)
                  simp [hr14] at g0 g1 g2 g6
                  exact absurd rfl hne
                · simp only [List.getElem?_cons_zero, List.getElem?_cons_succ, Option.some.injEq] at ho
                  subst ho
                  have g7 := hh.got 7 _ 78 rfl rfl ⟨⟨7, .data⟩, by simp, rfl, rfl⟩ (by simp)
                  simp [hr14] at g7
                  go_simp
                  first | exact rfl | exact ⟨rfl, rfl⟩
                · simp only [List.getElem?_cons_zero, List.getElem?_cons_succ, Option.some.injEq] at ho
                  subst ho
                  have g8 := hh.got 8 _ 70 rfl rfl ⟨⟨8, .data⟩, by simp, rfl, rfl⟩ (by simp)
                  simp [hr14] at g8
                  go_simp
                  first | exact rfl | exact ⟨rfl, rfl⟩
                · simp only [List.getElem?_cons_zero, List.getElem?_cons_succ, Option.some.injEq] at ho
                  subst ho
                  have g8 := hh.got 8 _ 70 rfl rfl ⟨⟨8, .data⟩, by simp, rfl, rfl⟩ (by simp)
                  simp [hr14] at g8
                  go_simp
                  first | exact rfl | exact ⟨rfl, rfl⟩
                · simp only [List.getElem?_cons_zero, List.getElem?_cons_succ, Option.some.injEq] at ho
                  subst ho
                  have g9 := hh.got 9 _ 79 rfl rfl ⟨⟨9, .data⟩, by simp, rfl, rfl⟩ (by simp)
                  simp [hr14] at g9
                  go_simp
                  first | exact rfl | exact ⟨rfl, rfl⟩
                · simp only [List.getElem?_cons_zero, List.getElem?_cons_succ, Option.some.injEq] at ho
                  subst ho
                  have g10 := hh.got 10 _ 80 rfl rfl ⟨⟨10, .data⟩, by simp, rfl, rfl⟩ (by simp)
                  simp [hr14] at g10
                  go_simp
                  first | exact rfl | exact ⟨rfl, rfl⟩
              case dn =>
                intro vv w1 b' hb1 hb
                simp only [puts, hr14] at hb
                subst hb
                simp only [Act.put, List.setIfInBounds_toArray, List.set_cons_succ, List.set_cons_zero]
                go_upto_region 15 with (fail)
                have HI7 := Lib.hid (HI5.out.own HJ.out HCAP.out (Bel.ofBelow hb1 (Nat.le_refl _)))
                have HZ7 := Lib.hid ((hb1.block _ (lt_of_block HZ5.out)).trans HZ5.out)
                have HS7 := Lib.hid ((hb1.block _ (lt_of_block HSD.out)).trans HSD.out)
                have hme := HMQ.out
                rw [hpc] at hme
                clear hpc hb1
                cases is with
                | false =>
                  simp only at hme
                  simp at hme
                  have HME2 := Lib.hid hme
                  clear hme
                  go_wp2
                  go_roundw
                  case rel => exact ⟨q + 1, G, by omega, by go_num, HZ7.out, HS7.out, by rw [HME2.out]; exact HI7.out⟩
                  case measure => simp [intOf]; omega
                | true =>
                  simp only at hme
                  simp at hme
                  have hx : (erL S C l)[(erM S C l k q).length]? = some (⟨(k : Int), id⟩ : Evx) := at_prefix (by rw [← hme]; exact HMP.out _ (by omega))
                  have hle : (erM S C l k q).length + 1 ≤ (erL S C l).length := by have := (HMP.out (q + 1) (by omega)).length_le; rw [hme] at this; simpa using this
                  have hlm : (erM S C l k (q + 1)).length = (erM S C l k q).length + 1 := by rw [hme]; simp
                  have HME2 := Lib.hid hlm
                  have HLE := Lib.hid hle
                  obtain ⟨fn, tmps, assign, body, hy, hR⟩ := HY.out G _ (⟨(k : Int), id⟩ : Evx) w1 (fun b hb => ⟨by have := (HI7.out.gs b hb).1; omega, (HI7.out.gs b hb).2⟩) (by have := HI7.out.sz; omega) HI7.out.j hx
                  have HRR := Lib.hid hR
                  simp only [evEnc] at hy
                  clear hme hx hle hlm hR
                  refine (wpIn_wide (n := 0)).1 ?_
                  gi_wp2
                  refine ⟨rfl, HRR.out.mono ?_⟩
                  rintro e W3 (⟨rfl, G', hg, hJ3, hb3⟩ | ⟨rfl, G', hg, hJ3, hb3⟩)
                  · have hng : ∀ b, W.heap.size ≤ b → b < W.heap.size + 2 → ¬ (¬ (b = be ∨ b = bl ∨ dataB (.slice (some ⟨g, off, none⟩) n cap) b) ∧ (b < W.heap.size ∨ G b)) := fun b q1 q2 q3 => by
                      rcases q3.2 with h | h
                      · omega
                      · have := (HI7.out.gs b h).1; omega
                    have hsw := HI7.out.sz
                    have HI9 := Lib.hid (show HrI W.heap.size w0 (fun b => b = be ∨ b = bl ∨ dataB (.slice (some ⟨g, off, none⟩) n cap) b) J G' (erM S C l k (q + 1)).length W3 from by
                      rw [HME2.out]
                      exact ⟨fun b hb => ⟨by rcases hg.new b hb with h | h; exact (HI7.out.gs b h).1; omega, hg.lt b hb⟩, Nat.le_trans hsw hb3.size, hJ3, fun b hb => (hb3.block b (by have := HCAP.out b hb; omega) (fun h => h.1 hb)).trans (HI7.out.cap b hb)⟩)
                    have HZ9 := Lib.hid ((hb3.block W.heap.size (by omega) (hng _ (by omega) (by omega))).trans HZ7.out)
                    have HS9 := Lib.hid ((hb3.block (W.heap.size + 1) (by omega) (hng _ (by omega) (by omega))).trans HS7.out)
                    clear hng hb3 hg hJ3 hy hsw
                    gi_wp2
                    go_wp2
                    go_roundw
                    case rel => exact ⟨q + 1, G', by omega, by go_num, HZ9.out, HS9.out, HI9.out⟩
                    case measure => simp [intOf]; omega
                  · have hsw := HI7.out.sz
                    have HJ3 := Lib.hid hJ3
                    have HG3 := Lib.hid hg
                    have hs3 := hb3.size
                    clear hJ3 hg hb3 hy
                    gi_wp2
                    go_wp2
                    refine bodyPost_ret (results_none rfl _ _ _) rfl ?_
                    exact ⟨⟨_, rfl⟩, G', fun b hb => ⟨by rcases HG3.out.new b hb with h | h; have := (HI7.out.gs b h).1; omega; omega, HG3.out.lt b hb⟩, by omega, .inr ⟨_, HLE.out, HJ3.out⟩⟩
            · have hqe : q = C := by omega
              subst hqe
              have HI8 := Lib.hid (show HrI W.heap.size w0 (fun b => b = be ∨ b = bl ∨ dataB (.slice (some ⟨g, off, none⟩) n cap) b) J G (pieces (erT S q l) (k + 1)).length wr from by rw [← erM_full]; exact HI4.out)
              have HZ8 := Lib.hid (show RowAt wr W.heap.size (q + 1) (zA (l.take (k + 1))) from by rw [HZNX.out, ← HVE.out]; exact hz)
              have HS8 := Lib.hid (show RowAt wr (W.heap.size + 1) q (lN (zA (l.take (k + 1)))) from by rw [HZNX.out, ← HVE.out]; exact hr.congr (fun i hi => by unfold midL; rw [if_pos hi]))
              clear hz hr hi hlq hwz HI4
              go_wp2
              go_roundw
              case rel => exact ⟨k + 1, G, by omega, by go_num, HZ8.out, HS8.out, HI8.out⟩
              case measure => simp [intOf]; omega
    · have hkn : k = n := by omega
      have e8 : (pieces (erT S C l) k).length = (erL S C l).length := by unfold erL; rw [← HN.out, hkn]
      rw [e8] at hi
      have HI8 := Lib.hid hi
      clear hz hq hi hlt e8
      subst hkn
      go_wp2
      go_end0
      exact ⟨⟨_, rfl⟩, G, fun b hb => ⟨by have := (HI8.out.gs b hb).1; omega, (HI8.out.gs b hb).2⟩, by have := HI8.out.sz; omega, .inl HI8.out.j⟩

theorem enters_heard1 : ∀ args w, (callFunc 82 args).run Try.prog w = .ok (.enter 82 args) w := enters_of Try.func82 (by kernel_rfl) rfl
set_option maxRecDepth 100000 in
theorem heard_any (C S : Int) (v : Value) (w : World) (hv : ∃ a n c, v = .slice a n c) :
    Calls Try.prog 60 #[.agg #[.int .i64 C, .int .i64 S], v] w fun e w' => ∃ be bl : Nat, e = .returned (.func (.func 82) #[] #[.pointer (some ⟨be, 0, none⟩), .pointer (some ⟨bl, 0, none⟩)]) ∧
      w'.heap[be]? = some (.cells #[.int .i64 C, .int .i64 S] 47) ∧ w'.heap[bl]? = some (.cells #[v] 25) ∧ Below w.heap.size w w' := by
  obtain ⟨a, n, c, rfl⟩ := hv
  go_enter Try.func60, Try.ntmps60
  go_wp2
  go_ret
  exact ⟨_, _, rfl, by rw [Below.heap_alloc _ _ _ (by simp)]; exact alloc_new_at _ _ _ rfl, alloc_new_at _ _ _ (by simp), ((Below.refl _ _).alloc (Nat.le_refl _) _).alloc (by simp) _⟩
end Go.Proofs.Ytbnjmpjodmlccaa
