/- For all numbers, taps and marks the law MotifFilters returns true: networks that count, and that find patterns, or the errors, are the document's. No condition. (mk_filters.py wrote this.) -/
import Derived.Test.YtmgdildbngbibaaGl
import Derived.Test.YtmgdildbngbibaaWk
namespace Go.Proofs.Ytmgdildbngbibaa.motifFilters
open Go.ChangeShapes Go.WideShapes Go.ChangeAt Go.RowKit Go.Proofs.Ytmgdildbngbibaa.Lf
set_option linter.unusedVariables false

def taK (n cap : Nat) (b off k : Nat) (X Y Z : Int) (v0 : Value) : Nat → Value
  | 0 => v0
  | 1 => .slice (some ⟨b, off, none⟩) n cap
  | 2 => .int .i64 (k : Int)
  | 3 => .pointer (some ⟨b, off + k * 3, none⟩)
  | 4 => .pointer (some ⟨b, off + k * 3, none⟩)
  | 5 => .int .i64 X
  | 6 => .slice (some ⟨b, off, none⟩) n cap
  | 7 => .int .i64 (k : Int)
  | 8 => .pointer (some ⟨b, off + k * 3, none⟩)
  | 9 => .pointer (some ⟨b, off + k * 3 + 1, none⟩)
  | 10 => .int .i64 Y
  | 11 => .slice (some ⟨b, off, none⟩) n cap
  | 12 => .int .i64 (k : Int)
  | 13 => .pointer (some ⟨b, off + k * 3, none⟩)
  | 14 => .pointer (some ⟨b, off + k * 3 + 2, none⟩)
  | 15 => .int .i64 Z
  | 16 => .agg #[.int .i64 X, .int .i64 Y, .int .i64 Z]
  | _ => undef
def maK (n cap : Nat) (b off k : Nat) (X Y : Int) (v0 : Value) : Nat → Value
  | 0 => v0
  | 1 => .slice (some ⟨b, off, none⟩) n cap
  | 2 => .int .i64 (k : Int)
  | 3 => .pointer (some ⟨b, off + k * 2, none⟩)
  | 4 => .pointer (some ⟨b, off + k * 2, none⟩)
  | 5 => .int .i64 X
  | 6 => .slice (some ⟨b, off, none⟩) n cap
  | 7 => .int .i64 (k : Int)
  | 8 => .pointer (some ⟨b, off + k * 2, none⟩)
  | 9 => .pointer (some ⟨b, off + k * 2 + 1, none⟩)
  | 10 => .int .i64 Y
  | 11 => .agg #[.int .i64 X, .int .i64 Y]
  | _ => undef
theorem cntR_len (inp : Int) (l : List Tap) (th : Int) : (cntR inp l th).ps.length ≤ 100000 ∧ (cntR inp l th).ss.length ≤ l.length := by
  unfold cntR
  split
  · simp [cntN]
  · simp [netZ]
theorem patR_len (inp : Int) (l : List Mrk) (ms : Int) : (patR inp l ms).ps.length ≤ 100000 ∧ (patR inp l ms).ss.length ≤ l.length := by
  unfold patR
  split
  · simp [patN]
  · simp [netZ]
/-- Rows of neurons or synapses don't lie in a block of three cells. -/
theorem psAt_set {W W' : World} {sv : Value} {l : List Prm} {R : Nat} {v0 v1 v2 : Value} {T : TypeId} (h : PsAt W sv l) (hR : W.heap[R]? = some (.cells #[v0, v1, v2] T)) (ho : ∀ b, b ≠ R → W'.heap[b]? = W.heap[b]?) (hs : W'.heap.size = W.heap.size) : PsAt W' sv l := by
  rcases h with h | ⟨b, off, cap, e, hl, hc⟩
  · exact .inl h
  · refine .inr ⟨b, off, cap, e, by omega, fun k p hk => ?_⟩
    have c := hc k p hk
    have hb : b ≠ R := by
      rintro rfl
      have h7 := c.c7
      simp only [World.cell?, hR] at h7
      have := (Array.getElem?_eq_some_iff.1 h7).1
      simp at this
      omega
    have hk2 := ho b hb
    exact ⟨(World.cell?_of_block hk2).trans c.c0, (World.cell?_of_block hk2).trans c.c1, (World.cell?_of_block hk2).trans c.c2, (World.cell?_of_block hk2).trans c.c3, (World.cell?_of_block hk2).trans c.c4, (World.cell?_of_block hk2).trans c.c5, (World.cell?_of_block hk2).trans c.c6, (World.cell?_of_block hk2).trans c.c7⟩
theorem ssAt_set {W W' : World} {sv : Value} {l : List Syn} {R : Nat} {v0 v1 v2 : Value} {T : TypeId} (h : SsAt W sv l) (hR : W.heap[R]? = some (.cells #[v0, v1, v2] T)) (ho : ∀ b, b ≠ R → W'.heap[b]? = W.heap[b]?) (hs : W'.heap.size = W.heap.size) : SsAt W' sv l := by
  rcases h with h | ⟨b, off, cap, e, hl, hc⟩
  · exact .inl h
  · refine .inr ⟨b, off, cap, e, by omega, fun k p hk => ?_⟩
    have c := hc k p hk
    have hb : b ≠ R := by
      rintro rfl
      have h7 := c.c3
      simp only [World.cell?, hR] at h7
      have := (Array.getElem?_eq_some_iff.1 h7).1
      simp at this
      omega
    have hk2 := ho b hb
    exact ⟨(World.cell?_of_block hk2).trans c.c0, (World.cell?_of_block hk2).trans c.c1, (World.cell?_of_block hk2).trans c.c2, (World.cell?_of_block hk2).trans c.c3⟩
/-- Two networks of equal lists: nets says true. -/
theorem nets_at (N : NetM) (h1 : N.ps.length ≤ 100000) (h2 : N.ss.length ≤ 100000) (a1 a2 b1 b2 : Option Addr) (c1 c2 d1 d2 : Nat) (w : World)
    (hp : PsAt w (.slice a1 N.ps.length c1) N.ps) (hs : SsAt w (.slice a2 N.ss.length c2) N.ss) (hp' : PsAt w (.slice b1 N.ps.length d1) N.ps) (hs' : SsAt w (.slice b2 N.ss.length d2) N.ss) :
    Calls Try.prog 17 #[.agg #[.slice a1 N.ps.length c1, .int .i64 N.inp, .slice a2 N.ss.length c2], .agg #[.slice b1 N.ps.length d1, .int .i64 N.inp, .slice b2 N.ss.length d2]] w fun e w' => e = .returned (.bool true) ∧ Below w.heap.size w w' :=
  nets_any N.ps N.inp N.ss a1 a2 b1 b2 c1 c2 d1 d2 h1 h2 w hp hs hp' hs'

set_option maxRecDepth 100000 in
set_option maxHeartbeats 2000000 in
theorem early (n m : Nat) (sa sb : Option Addr) (ca cb : Nat) (a0 a2 a4 : Int) (w : World)
    (hg : (((60 : Int) < (n : Int)) = True ∧ ((n : Int) ≤ 512) = True) ∨ ((((60 : Int) < (n : Int)) = False ∨ (((60 : Int) < (n : Int)) = True ∧ ((n : Int) ≤ 512) = False)) ∧ (((520 : Int) < (n : Int)) = True ∨ (((520 : Int) < (n : Int)) = False ∧ ((70 : Int) < (m : Int)) = True)))) :
    Calls Try.prog 5 #[.int .i64 a0, .slice sa n ca, .int .i64 a2, .slice sb m cb, .int .i64 a4] w fun e w' => e = .returned (.bool true) ∧ Below w.heap.size w w' := by
  rcases hg with ⟨g1, g2⟩ | ⟨g1 | ⟨g1, g2⟩, g3 | ⟨g3, g4⟩⟩
  all_goals
    go_enter Try.func5, Try.ntmps5
    go_wp2_with (fail)
    go_at_call 13
    refine (works_any _).mono ?_
    rintro e w1 ⟨rfl, hb1⟩
    go_wp2
    go_ret
    exact ⟨rfl, hb1⟩

set_option maxRecDepth 100000 in
set_option maxHeartbeats 20000000 in
theorem main (n m : Nat) (l : List Tap) (ms : List Mrk) (hn : n = l.length) (hm : m = ms.length) (hn1 : n ≤ 520) (hm1 : m ≤ 70) (sa sb : Option Addr) (ca cb : Nat) (a0 a2 a4 : Int) (w4 : (Lit.int .i64 a4).wf = true)
    (hwf : ∀ s ∈ ms, (Lit.int .i64 s.ip).wf = true ∧ (Lit.int .i64 s.of).wf = true) (w : World) (hT : TapsAt w (.slice sa n ca) l) (hM : MrksAt w (.slice sb m cb) ms)
    (g3 : ((520 : Int) < (n : Int)) = False) (g4 : ((70 : Int) < (m : Int)) = False)
    (hg : ((60 : Int) < (n : Int)) = False ∨ (((60 : Int) < (n : Int)) = True ∧ ((n : Int) ≤ 512) = False)) :
    Calls Try.prog 5 #[.int .i64 a0, .slice sa n ca, .int .i64 a2, .slice sb m cb, .int .i64 a4] w fun e w' => e = .returned (.bool true) ∧ Below w.heap.size w w' := by
  have HC := Lib.hid (fun a cap W (h : TapsAt W (.slice a l.length cap) l) => count_any a0 l a2 a cap (by omega) W h)
  have HRC := Lib.hid (fun W (h : TapsAt W (.slice sa l.length ca) l) => rcount_any a0 l a2 sa ca (by omega) W h)
  have HP := Lib.hid (fun a cap W (h : MrksAt W (.slice a ms.length cap) ms) => pattern_any a0 ms a4 w4 a cap (by omega) hwf W h)
  have HRP := Lib.hid (fun W (h : MrksAt W (.slice sb ms.length cb) ms) => rpattern_any a0 ms a4 w4 sb cb (by omega) W h)
  have hcl := cntR_len a0 l a2
  have hpl := patR_len a0 ms a4
  obtain ⟨N1, hN1⟩ : ∃ N, N = cntR a0 l a2 := ⟨_, rfl⟩
  obtain ⟨E1, hE1⟩ : ∃ E, E = cntE a0 l a2 := ⟨_, rfl⟩
  obtain ⟨N2, hN2⟩ : ∃ N, N = patR a0 ms a4 := ⟨_, rfl⟩
  obtain ⟨E2, hE2⟩ : ∃ E, E = patE a0 ms a4 := ⟨_, rfl⟩
  rw [← hN1, ← hn] at hcl
  rw [← hN2, ← hm] at hpl
  rw [← hN1, ← hE1, ← hn] at HC HRC
  rw [← hN2, ← hE2, ← hm] at HP HRP
  have HNA := Lib.hid (fun a1 a2 b1 b2 c1 c2 d1 d2 W h1 h2 h3 h4 => nets_at N1 hcl.1 (by omega) a1 a2 b1 b2 c1 c2 d1 d2 W h1 h2 h3 h4)
  have HNB := Lib.hid (fun a1 a2 b1 b2 c1 c2 d1 d2 W h1 h2 h3 h4 => nets_at N2 hpl.1 (by omega) a1 a2 b1 b2 c1 c2 d1 d2 W h1 h2 h3 h4)
  obtain ⟨P1, hP1⟩ : ∃ P, P = N1.ps.length := ⟨_, rfl⟩
  obtain ⟨S1, hS1⟩ : ∃ P, P = N1.ss.length := ⟨_, rfl⟩
  obtain ⟨P2, hP2⟩ : ∃ P, P = N2.ps.length := ⟨_, rfl⟩
  obtain ⟨S2, hS2⟩ : ∃ P, P = N2.ss.length := ⟨_, rfl⟩
  have HP1 := Lib.hid hP1
  have HS1 := Lib.hid hS1
  have HP2 := Lib.hid hP2
  have HS2 := Lib.hid hS2
  rw [← hP1, ← hS1] at HNA
  rw [← hP2, ← hS2] at HNB
  have HN := Lib.hid hn
  have HM := Lib.hid hm
  have HT := Lib.hid hT
  have HMA := Lib.hid hM
  clear hwf hT hM hn hm hcl hpl hN1 hE1 hN2 hE2 hP1 hS1 hP2 hS2
  rcases hg with g1 | ⟨g1, g2⟩
  · go_enter Try.func5, Try.ntmps5
    go_wp2
    clear g1 g3 g4
    go_loopw [11, 12] (fun s11 s12 wr => ∃ (k : Nat) (va : Option Addr) (vc : Nat), k ≤ n ∧ s11 = .slice va k vc ∧ s12 = .int .i64 k ∧ wr.ownsRow w.heap.size 70 3 (.slice va k vc) k (tapCs (l.take k)) ∧ Below w.heap.size w wr) (fun _ s12 _ => n - (intOf s12).toNat)
    case atStart => exact ⟨0, none, 0, Nat.zero_le _, rfl, rfl, ⟨rfl, .inl ⟨rfl, rfl⟩⟩, Below.refl _ _⟩
    case round =>
      obtain ⟨k, va, vc, hk, rfl, rfl, hro, hb⟩ := hrel
      have HRO := Lib.hid hro
      have HB := Lib.hid hb
      have hzw := hb.size
      clear hro hb
      by_cases hlt : k < n
      · obtain ⟨x, hx⟩ : ∃ x, l[k]? = some x := ⟨_, List.getElem?_eq_getElem (by rw [← HN.out]; exact hlt)⟩
        have hi0 : (0 : Int) ≤ (k : Int) := Int.natCast_nonneg _
        have hi1 : (k : Int) < (n : Int) := by omega
        have hsn : tapCs (l.take (k + 1)) = tapCs (l.take k) ++ tapV x := by rw [List.take_add_one, hx]; exact tapCs_snoc _ _
        obtain ⟨b, off, rfl, hbl, hcl⟩ := HT.out.at hx
        have hcl := hcl.below HB.out hbl
        obtain ⟨X, Y, Z⟩ := x
        obtain ⟨u1, u2, u3⟩ := hcl
        simp only at u1 u2 u3
        have U1 := Lib.hid u1
        have U2 := Lib.hid u2
        have U3 := Lib.hid u3
        have HSN := Lib.hid hsn
        have hvo : ∀ g, (Value.slice va k vc).ownBlock = some g → w.heap.size ≤ g := fun g hg => (HRO.out.lt g hg).1
        have HVO := Lib.hid hvo
        have hone : ∀ u ∈ [Value.int .i64 X, Value.int .i64 Y, Value.int .i64 Z], u.oneCell' = true := by simp [Value.oneCell']
        have HONE := Lib.hid hone
        clear hx hsn u1 u2 u3 hvo hone
        go_upto_region 7 with (fail)
        refine wp_region_late (GaR 70 3 wr w.heap.size k 17 (tapCs (l.take k)) [.int .i64 X, .int .i64 Y, .int .i64 Z] (.slice va k vc) (taK n ca b off k X Y Z (.slice va k vc))) (by kernel_rfl) (by kernel_rfl) (by kernel_rfl) (by kernel_rfl) (GaR.init _ hzw HRO.out) ?stp ?dn
        case dn =>
          intro val W b' hI hb
          have hoa := hI.oa (by simp)
          have hea := hI.ea (by simp)
          have kn : ∀ q, q < 17 → val q = (taK n ca b off k X Y Z (.slice va k vc)) q := fun q hq => hI.known q hq (replT (by show q < 20; omega))
          obtain ⟨va', vc', hva⟩ := own_sl hoa.1
          obtain ⟨vp, hvp⟩ : ∃ v, v = val 17 := ⟨_, rfl⟩
          rw [hva] at hoa hea
          simp only [puts, hva, hea, ← hvp, kn 0 (by decide), kn 1 (by decide), kn 2 (by decide), kn 3 (by decide), kn 4 (by decide), kn 5 (by decide), kn 6 (by decide), kn 7 (by decide), kn 8 (by decide), kn 9 (by decide), kn 10 (by decide), kn 11 (by decide), kn 12 (by decide), kn 13 (by decide), kn 14 (by decide), kn 15 (by decide), kn 16 (by decide), taK] at hb
          have HOA := Lib.hid hoa
          have HBL := Lib.hid hI.bel
          have HOT := Lib.hid hI.oth
          have hzW := hI.bel.size
          clear hI hoa hea kn hva hvp
          subst hb
          simp only [Act.put, List.setIfInBounds_toArray, List.set_cons_succ, List.set_cons_zero]
          go_wp2
          go_roundw
          case rel => exact ⟨k + 1, va', vc', by omega, rfl, by go_num, by rw [HSN.out]; exact HOA.out.1, HB.out.trans HBL.out⟩
          case measure => simp [intOf]; omega
        case stp =>
          intro L val W i' o b' hs ho hlF hdd hI hh hlate
          have hi' := (List.getElem?_eq_some_iff.1 ho).1
          have hcs : i' = 0 ∨ i' = 1 ∨ i' = 2 ∨ i' = 3 ∨ i' = 4 ∨ i' = 5 ∨ i' = 6 ∨ i' = 7 ∨ i' = 8 ∨ i' = 9 ∨ i' = 10 ∨ i' = 11 ∨ i' = 12 ∨ i' = 13 ∨ i' = 14 ∨ i' = 15 ∨ i' = 16 ∨ i' = 17 ∨ i' = 18 ∨ i' = 19 := by simp at hi'; omega
          have hLs : 17 + 2 < L.size := by simp at hs; omega
          have HI := Lib.hid hI
          have HLF := Lib.hid hlF
          have HD := Lib.hid hdd
          have hbk : W.heap[b]? = wr.heap[b]? := HI.out.oth b (by omega) (fun e => by have := HVO.out b e; omega)
          have q1 := (World.cell?_of_block hbk).trans U1.out
          have q2 := (World.cell?_of_block hbk).trans U2.out
          have q3 := (World.cell?_of_block hbk).trans U3.out
          clear hbk
          clear hi' hs hI hlF hdd
          rcases hcs with rfl | rfl | rfl | rfl | rfl | rfl | rfl | rfl | rfl | rfl | rfl | rfl | rfl | rfl | rfl | rfl | rfl | rfl | rfl | rfl
          · simp only [List.getElem?_cons_zero, Option.some.injEq] at ho
            subst ho
            have k11 := hlate 11 (by kernel_rfl)
            simp at k11
            go_simp
            exact ⟨_, rfl, HI.out.skip 0 (by omega) _ rfl⟩
          · simp only [List.getElem?_cons_zero, List.getElem?_cons_succ, Option.some.injEq] at ho
            subst ho
            have k1 := hh.kept 1 (by simp)
            simp at k1
            go_simp
            exact ⟨_, rfl, HI.out.skip 1 (by omega) _ rfl⟩
          · simp only [List.getElem?_cons_zero, List.getElem?_cons_succ, Option.some.injEq] at ho
            subst ho
            have k12 := hh.kept 12 (by simp)
            simp at k12
            go_simp
            exact ⟨_, rfl, HI.out.skip 2 (by omega) _ rfl⟩
          · simp only [List.getElem?_cons_zero, List.getElem?_cons_succ, Option.some.injEq] at ho
            subst ho
            have l1 : L.getD 1 false = true := HD.out ⟨1, .data⟩ (by simp) rfl
            have g1 := hh.got 1 _ 45 rfl rfl l1 (by simp)
            rw [HI.out.known 1 (by omega) l1] at g1
            simp [taK] at g1
            have l2 : L.getD 2 false = true := HD.out ⟨2, .data⟩ (by simp) rfl
            have g2 := hh.got 2 _ 46 rfl rfl l2 (by simp)
            rw [HI.out.known 2 (by omega) l2] at g2
            simp [taK] at g2
            clear l1 l2
            go_simp
            exact ⟨_, rfl, HI.out.skip 3 (by omega) _ rfl⟩
          · simp only [List.getElem?_cons_zero, List.getElem?_cons_succ, Option.some.injEq] at ho
            subst ho
            have l3 : L.getD 3 false = true := HD.out ⟨3, .data⟩ (by simp) rfl
            have g3 := hh.got 3 _ 47 rfl rfl l3 (by simp)
            rw [HI.out.known 3 (by omega) l3] at g3
            simp [taK] at g3
            clear l3
            go_simp
            exact ⟨_, rfl, HI.out.skip 4 (by omega) _ rfl⟩
          · simp only [List.getElem?_cons_zero, List.getElem?_cons_succ, Option.some.injEq] at ho
            subst ho
            have l4 : L.getD 4 false = true := HD.out ⟨4, .data⟩ (by simp) rfl
            have g4 := hh.got 4 _ 48 rfl rfl l4 (by simp)
            rw [HI.out.known 4 (by omega) l4] at g4
            simp [taK] at g4
            clear l4
            go_simp
            exact ⟨_, rfl, HI.out.skip 5 (by omega) _ rfl⟩
          · simp only [List.getElem?_cons_zero, List.getElem?_cons_succ, Option.some.injEq] at ho
            subst ho
            have k1 := hh.kept 1 (by simp)
            simp at k1
            go_simp
            exact ⟨_, rfl, HI.out.skip 6 (by omega) _ rfl⟩
          · simp only [List.getElem?_cons_zero, List.getElem?_cons_succ, Option.some.injEq] at ho
            subst ho
            have k12 := hh.kept 12 (by simp)
            simp at k12
            go_simp
            exact ⟨_, rfl, HI.out.skip 7 (by omega) _ rfl⟩
          · simp only [List.getElem?_cons_zero, List.getElem?_cons_succ, Option.some.injEq] at ho
            subst ho
            have l6 : L.getD 6 false = true := HD.out ⟨6, .data⟩ (by simp) rfl
            have g6 := hh.got 6 _ 50 rfl rfl l6 (by simp)
            rw [HI.out.known 6 (by omega) l6] at g6
            simp [taK] at g6
            have l7 : L.getD 7 false = true := HD.out ⟨7, .data⟩ (by simp) rfl
            have g7 := hh.got 7 _ 51 rfl rfl l7 (by simp)
            rw [HI.out.known 7 (by omega) l7] at g7
            simp [taK] at g7
            clear l6 l7
            go_simp
            exact ⟨_, rfl, HI.out.skip 8 (by omega) _ rfl⟩
          · simp only [List.getElem?_cons_zero, List.getElem?_cons_succ, Option.some.injEq] at ho
            subst ho
            have l8 : L.getD 8 false = true := HD.out ⟨8, .data⟩ (by simp) rfl
            have g8 := hh.got 8 _ 52 rfl rfl l8 (by simp)
            rw [HI.out.known 8 (by omega) l8] at g8
            simp [taK] at g8
            clear l8
            go_simp
            exact ⟨_, rfl, HI.out.skip 9 (by omega) _ rfl⟩
          · simp only [List.getElem?_cons_zero, List.getElem?_cons_succ, Option.some.injEq] at ho
            subst ho
            have l9 : L.getD 9 false = true := HD.out ⟨9, .data⟩ (by simp) rfl
            have g9 := hh.got 9 _ 53 rfl rfl l9 (by simp)
            rw [HI.out.known 9 (by omega) l9] at g9
            simp [taK] at g9
            clear l9
            go_simp
            exact ⟨_, rfl, HI.out.skip 10 (by omega) _ rfl⟩
          · simp only [List.getElem?_cons_zero, List.getElem?_cons_succ, Option.some.injEq] at ho
            subst ho
            have k1 := hh.kept 1 (by simp)
            simp at k1
            go_simp
            exact ⟨_, rfl, HI.out.skip 11 (by omega) _ rfl⟩
          · simp only [List.getElem?_cons_zero, List.getElem?_cons_succ, Option.some.injEq] at ho
            subst ho
            have k12 := hh.kept 12 (by simp)
            simp at k12
            go_simp
            exact ⟨_, rfl, HI.out.skip 12 (by omega) _ rfl⟩
          · simp only [List.getElem?_cons_zero, List.getElem?_cons_succ, Option.some.injEq] at ho
            subst ho
            have l11 : L.getD 11 false = true := HD.out ⟨11, .data⟩ (by simp) rfl
            have g11 := hh.got 11 _ 55 rfl rfl l11 (by simp)
            rw [HI.out.known 11 (by omega) l11] at g11
            simp [taK] at g11
            have l12 : L.getD 12 false = true := HD.out ⟨12, .data⟩ (by simp) rfl
            have g12 := hh.got 12 _ 56 rfl rfl l12 (by simp)
            rw [HI.out.known 12 (by omega) l12] at g12
            simp [taK] at g12
            clear l11 l12
            go_simp
            exact ⟨_, rfl, HI.out.skip 13 (by omega) _ rfl⟩
          · simp only [List.getElem?_cons_zero, List.getElem?_cons_succ, Option.some.injEq] at ho
            subst ho
            have l13 : L.getD 13 false = true := HD.out ⟨13, .data⟩ (by simp) rfl
            have g13 := hh.got 13 _ 57 rfl rfl l13 (by simp)
            rw [HI.out.known 13 (by omega) l13] at g13
            simp [taK] at g13
            clear l13
            go_simp
            exact ⟨_, rfl, HI.out.skip 14 (by omega) _ rfl⟩
          · simp only [List.getElem?_cons_zero, List.getElem?_cons_succ, Option.some.injEq] at ho
            subst ho
            have l14 : L.getD 14 false = true := HD.out ⟨14, .data⟩ (by simp) rfl
            have g14 := hh.got 14 _ 58 rfl rfl l14 (by simp)
            rw [HI.out.known 14 (by omega) l14] at g14
            simp [taK] at g14
            clear l14
            go_simp
            exact ⟨_, rfl, HI.out.skip 15 (by omega) _ rfl⟩
          · simp only [List.getElem?_cons_zero, List.getElem?_cons_succ, Option.some.injEq] at ho
            subst ho
            have l5 : L.getD 5 false = true := HD.out ⟨5, .data⟩ (by simp) rfl
            have g5 := hh.got 5 _ 49 rfl rfl l5 (by simp)
            rw [HI.out.known 5 (by omega) l5] at g5
            simp [taK] at g5
            have l10 : L.getD 10 false = true := HD.out ⟨10, .data⟩ (by simp) rfl
            have g10 := hh.got 10 _ 54 rfl rfl l10 (by simp)
            rw [HI.out.known 10 (by omega) l10] at g10
            simp [taK] at g10
            have l15 : L.getD 15 false = true := HD.out ⟨15, .data⟩ (by simp) rfl
            have g15 := hh.got 15 _ 59 rfl rfl l15 (by simp)
            rw [HI.out.known 15 (by omega) l15] at g15
            simp [taK] at g15
            clear l5 l10 l15
            go_simp
            exact ⟨_, rfl, HI.out.skip 16 (by omega) _ rfl⟩
          · simp only [List.getElem?_cons_zero, List.getElem?_cons_succ, Option.some.injEq] at ho
            subst ho
            have l16 : L.getD 16 false = true := HD.out ⟨16, .data⟩ (by simp) rfl
            have g16 := hh.got 16 _ 60 rfl rfl l16 (by simp)
            rw [HI.out.known 16 (by omega) l16] at g16
            simp [taK] at g16
            clear l16
            go_simp
            exact ⟨_, rfl, HI.out.make (by omega) HLF.out⟩
          · simp only [List.getElem?_cons_zero, List.getElem?_cons_succ, Option.some.injEq] at ho
            subst ho
            have l0 : L.getD 0 false = true := HD.out ⟨0, .data⟩ (by simp) rfl
            have l17 : L.getD 17 false = true := HD.out ⟨17, .data⟩ (by simp) rfl
            have e0 : b'.eval (.tmp 44) = _ := (hh.got 0 _ 44 rfl rfl l0 (by simp)).trans (HI.out.known 0 (by omega) l0)
            have ep : b'.eval (.tmp 61) = val 17 := hh.got 17 _ 61 rfl rfl l17 (by simp)
            simp only [taK] at e0
            obtain ⟨v', w', hr, hw'⟩ := HI.out.app el_T (by decide) rfl HONE.out (by omega) HLF.out l17 (by omega) 67
            unfold Oper.wp execOp
            simp only [resolve, invoke, builtin, Sem.run_bind, Sem.run_pure, Result.andThen_ok, List.map_toArray, List.map_cons, List.map_nil, e0, ep, hr]
            exact ⟨_, rfl, hw'⟩
          · simp only [List.getElem?_cons_zero, List.getElem?_cons_succ, Option.some.injEq] at ho
            subst ho
            have l18 : L.getD 18 false = true := HD.out ⟨18, .data⟩ (by simp) rfl
            have g18 := hh.got 18 _ 62 rfl rfl l18 (by simp)
            go_simp
            exact ⟨_, rfl, HI.out.asg (by omega) l18⟩
      · obtain rfl : k = n := by omega
        have hro2 := HRO.out
        rw [List.take_of_length_le (by rw [← HN.out]; exact Nat.le_refl _)] at hro2
        have HTO := Lib.hid (show TapsAt wr (.slice va k vc) l by
          have h := hro2
          have e := HN.out
          have h3 : wr.ownsRow w.heap.size 70 3 (.slice va k vc) l.length (tapCs l) := by rw [← e]; exact h
          exact tapAt_of_owns h3)
        clear hlt hk hro2 HRO
        go_wp2_with (fail)
        go_at_call 30
        refine (HC.out _ _ _ HTO.out).mono ?_
        rintro e W2 ⟨v, rfl, ⟨a1, c1, b1, d1, rfl, hp1, hs1⟩, hb2⟩
        have HPA := Lib.hid hp1
        have HSA := Lib.hid hs1
        have HB2 := Lib.hid (HB.out.trans (hb2.mono hzw))
        have hz2 : w.heap.size ≤ W2.heap.size := HB2.out.size
        rw [← HP1.out] at HPA
        rw [← HS1.out] at HSA
        rw [← HP1.out, ← HS1.out]
        clear hp1 hs1 hb2 HTO hzw
        go_upto_region 9 with (fail)
        have hna := alloc_new_at W2 (.cells #[.slice a1 P1 c1, .int .i64 N1.inp, .slice b1 S1 d1] 32) W2.heap.size rfl
        have hb3 := HB2.out.alloc hz2 (.cells #[.slice a1 P1 c1, .int .i64 N1.inp, .slice b1 S1 d1] 32)
        have hpa := HPA.out.below ((Below.refl _ _).alloc (Nat.le_refl W2.heap.size) (.cells #[.slice a1 P1 c1, .int .i64 N1.inp, .slice b1 S1 d1] 32))
        have hsa := HSA.out.below ((Below.refl _ _).alloc (Nat.le_refl W2.heap.size) (.cells #[.slice a1 P1 c1, .int .i64 N1.inp, .slice b1 S1 d1] 32))
        obtain ⟨NA, hNA⟩ : ∃ g, g = W2.heap.size := ⟨_, rfl⟩
        rw [← hNA] at hna ⊢
        generalize W2.alloc (.cells #[.slice a1 P1 c1, .int .i64 N1.inp, .slice b1 S1 d1] 32) = W3 at *
        have HNW := Lib.hid hna
        have HB3 := Lib.hid hb3
        have HPA3 := Lib.hid hpa
        have HSA3 := Lib.hid hsa
        have hNAw : w.heap.size ≤ NA := by omega
        clear hna hb3 hpa hsa HPA HSA hNA HB2 hz2
        go_wp2_with (fail)
        go_at_call 31
        refine (HRC.out _ (HT.out.below HB3.out)).mono ?_
        rintro e W4 ⟨v, rfl, ⟨a5, c5, b5, d5, rfl, hp5, hs5⟩, hb4⟩
        have HPB := Lib.hid hp5
        have HSB := Lib.hid hs5
        rw [← HP1.out] at HPB
        rw [← HS1.out] at HSB
        rw [← HP1.out, ← HS1.out]
        have HPA4 := Lib.hid (HPA3.out.below hb4)
        have HSA4 := Lib.hid (HSA3.out.below hb4)
        have HNW4 := Lib.hid ((hb4.block NA (lt_of_block HNW.out)).trans HNW.out)
        have HB4 := Lib.hid (HB3.out.trans (hb4.mono HB3.out.size))
        have hz4 : w.heap.size ≤ W4.heap.size := HB4.out.size
        have hNl4 := lt_of_block HNW4.out
        clear hp5 hs5 hb4 HPA3 HSA3 HNW HB3
        go_upto_region 10 with (fail)
        have hnb := alloc_new_at W4 (.cells #[.slice a5 P1 c5, .int .i64 N1.inp, .slice b5 S1 d5] 32) W4.heap.size rfl
        have hal := (Below.refl W4.heap.size W4).alloc (Nat.le_refl W4.heap.size) (.cells #[.slice a5 P1 c5, .int .i64 N1.inp, .slice b5 S1 d5] 32)
        have hb5 := HB4.out.alloc hz4 (.cells #[.slice a5 P1 c5, .int .i64 N1.inp, .slice b5 S1 d5] 32)
        obtain ⟨NB, hNB⟩ : ∃ g, g = W4.heap.size := ⟨_, rfl⟩
        rw [← hNB] at hnb ⊢
        have q1 := HPA4.out.below hal
        have q2 := HSA4.out.below hal
        have q3 := HPB.out.below hal
        have q4 := HSB.out.below hal
        have q5 := (hal.block NA hNl4).trans HNW4.out
        generalize W4.alloc (.cells #[.slice a5 P1 c5, .int .i64 N1.inp, .slice b5 S1 d5] 32) = W5 at *
        have Q1 := Lib.hid q1
        have Q2 := Lib.hid q2
        have Q3 := Lib.hid q3
        have Q4 := Lib.hid q4
        have Q5 := Lib.hid q5
        have Q6 := Lib.hid hnb
        have HB5 := Lib.hid hb5
        have hNBw : w.heap.size ≤ NB := by omega
        have hAB : NA ≠ NB := by omega
        obtain ⟨y0, y1, y2⟩ := cells3 q5
        obtain ⟨x0, x1, x2⟩ := cells3 hnb
        clear q1 q2 q3 q4 q5 hnb hb5 hal hNB HPA4 HSA4 HPB HSB HNW4 HB4 hz4 hNl4
        go_wp2_with (fail)
        go_at_call 17
        refine (HNA.out _ _ _ _ _ _ _ _ _ Q1.out Q2.out Q3.out Q4.out).mono ?_
        rintro e W6 ⟨rfl, hb6⟩
        have HB6 := Lib.hid (HB5.out.trans (hb6.mono HB5.out.size))
        have HA6 := Lib.hid ((hb6.block NA (lt_of_block Q5.out)).trans Q5.out)
        have HD6 := Lib.hid ((hb6.block NB (lt_of_block Q6.out)).trans Q6.out)
        have hz6 : w.heap.size ≤ W6.heap.size := HB6.out.size
        clear hb6 Q1 Q2 Q3 Q4 Q5 Q6 HB5 y0 y1 y2 x0 x1 x2
        go_wp2
        generalize W6 = wo at *
        go_loopw [17, 18] (fun s17 s18 wr => ∃ (j : Nat) (va : Option Addr) (vc : Nat), j ≤ m ∧ s17 = .slice va j vc ∧ s18 = .int .i64 j ∧ wr.ownsRow wo.heap.size 76 2 (.slice va j vc) j (mrkCs (ms.take j)) ∧ Below wo.heap.size wo wr) (fun _ s18 _ => m - (intOf s18).toNat)
        case atStart => exact ⟨0, none, 0, Nat.zero_le _, rfl, rfl, ⟨rfl, .inl ⟨rfl, rfl⟩⟩, Below.refl _ _⟩
        case round =>
          obtain ⟨j, va, vc, hj, rfl, rfl, hro, hb⟩ := hrel
          have HRO := Lib.hid hro
          have HBJ := Lib.hid hb
          have HBW := Lib.hid (HB6.out.trans (hb.mono hz6))
          have hzw := hb.size
          clear hro hb
          by_cases hlt : j < m
          · obtain ⟨x, hx⟩ : ∃ x, ms[j]? = some x := ⟨_, List.getElem?_eq_getElem (by rw [← HM.out]; exact hlt)⟩
            have hi0 : (0 : Int) ≤ (j : Int) := Int.natCast_nonneg _
            have hi1 : (j : Int) < (m : Int) := by omega
            have hsn : mrkCs (ms.take (j + 1)) = mrkCs (ms.take j) ++ mrkV x := by rw [List.take_add_one, hx]; exact mrkCs_snoc _ _
            obtain ⟨b, off, rfl, hbl, hcl⟩ := HMA.out.at hx
            have hcl := hcl.below HBW.out hbl
            obtain ⟨X, Y⟩ := x
            obtain ⟨u1, u2⟩ := hcl
            simp only at u1 u2
            have U1 := Lib.hid u1
            have U2 := Lib.hid u2
            have HSN := Lib.hid hsn
            have hvo : ∀ g, (Value.slice va j vc).ownBlock = some g → wo.heap.size ≤ g := fun g hg => (HRO.out.lt g hg).1
            have HVO := Lib.hid hvo
            have hone : ∀ u ∈ [Value.int .i64 X, Value.int .i64 Y], u.oneCell' = true := by simp [Value.oneCell']
            have HONE := Lib.hid hone
            clear hx hsn u1 u2 hvo hone
            go_upto_region 16 with (fail)
            refine wp_region_late (GaR 76 2 wr wo.heap.size j 12 (mrkCs (ms.take j)) [.int .i64 X, .int .i64 Y] (.slice va j vc) (maK m cb b off j X Y (.slice va j vc))) (by kernel_rfl) (by kernel_rfl) (by kernel_rfl) (by kernel_rfl) (GaR.init _ hzw HRO.out) ?stp ?dn
            case dn =>
              intro val W b' hI hb
              have hoa := hI.oa (by simp)
              have hea := hI.ea (by simp)
              have kn : ∀ q, q < 12 → val q = (maK m cb b off j X Y (.slice va j vc)) q := fun q hq => hI.known q hq (replT (by show q < 15; omega))
              obtain ⟨va', vc', hva⟩ := own_sl hoa.1
              obtain ⟨vp, hvp⟩ : ∃ v, v = val 12 := ⟨_, rfl⟩
              rw [hva] at hoa hea
              simp only [puts, hva, hea, ← hvp, kn 0 (by decide), kn 1 (by decide), kn 2 (by decide), kn 3 (by decide), kn 4 (by decide), kn 5 (by decide), kn 6 (by decide), kn 7 (by decide), kn 8 (by decide), kn 9 (by decide), kn 10 (by decide), kn 11 (by decide), maK] at hb
              have HOA := Lib.hid hoa
              have HBL := Lib.hid hI.bel
              have HOT := Lib.hid hI.oth
              have hzW := hI.bel.size
              clear hI hoa hea kn hva hvp
              subst hb
              simp only [Act.put, List.setIfInBounds_toArray, List.set_cons_succ, List.set_cons_zero]
              go_wp2
              go_roundw
              case rel => exact ⟨j + 1, va', vc', by omega, rfl, by go_num, by rw [HSN.out]; exact HOA.out.1, HBJ.out.trans HBL.out⟩
              case measure => simp [intOf]; omega
            case stp =>
              intro L val W i' o b' hs ho hlF hdd hI hh hlate
              have hi' := (List.getElem?_eq_some_iff.1 ho).1
              have hcs : i' = 0 ∨ i' = 1 ∨ i' = 2 ∨ i' = 3 ∨ i' = 4 ∨ i' = 5 ∨ i' = 6 ∨ i' = 7 ∨ i' = 8 ∨ i' = 9 ∨ i' = 10 ∨ i' = 11 ∨ i' = 12 ∨ i' = 13 ∨ i' = 14 := by simp at hi'; omega
              have hLs : 12 + 2 < L.size := by simp at hs; omega
              have HI := Lib.hid hI
              have HLF := Lib.hid hlF
              have HD := Lib.hid hdd
              have hbk : W.heap[b]? = wr.heap[b]? := HI.out.oth b (by omega) (fun e => by have := HVO.out b e; omega)
              have q1 := (World.cell?_of_block hbk).trans U1.out
              have q2 := (World.cell?_of_block hbk).trans U2.out
              clear hbk
              clear hi' hs hI hlF hdd
              rcases hcs with rfl | rfl | rfl | rfl | rfl | rfl | rfl | rfl | rfl | rfl | rfl | rfl | rfl | rfl | rfl
              · simp only [List.getElem?_cons_zero, Option.some.injEq] at ho
                subst ho
                have k17 := hlate 17 (by kernel_rfl)
                simp at k17
                go_simp
                exact ⟨_, rfl, HI.out.skip 0 (by omega) _ rfl⟩
              · simp only [List.getElem?_cons_zero, List.getElem?_cons_succ, Option.some.injEq] at ho
                subst ho
                have k3 := hh.kept 3 (by simp)
                simp at k3
                go_simp
                exact ⟨_, rfl, HI.out.skip 1 (by omega) _ rfl⟩
              · simp only [List.getElem?_cons_zero, List.getElem?_cons_succ, Option.some.injEq] at ho
                subst ho
                have k18 := hh.kept 18 (by simp)
                simp at k18
                go_simp
                exact ⟨_, rfl, HI.out.skip 2 (by omega) _ rfl⟩
              · simp only [List.getElem?_cons_zero, List.getElem?_cons_succ, Option.some.injEq] at ho
                subst ho
                have l1 : L.getD 1 false = true := HD.out ⟨1, .data⟩ (by simp) rfl
                have g1 := hh.got 1 _ 93 rfl rfl l1 (by simp)
                rw [HI.out.known 1 (by omega) l1] at g1
                simp [maK] at g1
                have l2 : L.getD 2 false = true := HD.out ⟨2, .data⟩ (by simp) rfl
                have g2 := hh.got 2 _ 94 rfl rfl l2 (by simp)
                rw [HI.out.known 2 (by omega) l2] at g2
                simp [maK] at g2
                clear l1 l2
                go_simp
                exact ⟨_, rfl, HI.out.skip 3 (by omega) _ rfl⟩
              · simp only [List.getElem?_cons_zero, List.getElem?_cons_succ, Option.some.injEq] at ho
                subst ho
                have l3 : L.getD 3 false = true := HD.out ⟨3, .data⟩ (by simp) rfl
                have g3 := hh.got 3 _ 95 rfl rfl l3 (by simp)
                rw [HI.out.known 3 (by omega) l3] at g3
                simp [maK] at g3
                clear l3
                go_simp
                exact ⟨_, rfl, HI.out.skip 4 (by omega) _ rfl⟩
              · simp only [List.getElem?_cons_zero, List.getElem?_cons_succ, Option.some.injEq] at ho
                subst ho
                have l4 : L.getD 4 false = true := HD.out ⟨4, .data⟩ (by simp) rfl
                have g4 := hh.got 4 _ 96 rfl rfl l4 (by simp)
                rw [HI.out.known 4 (by omega) l4] at g4
                simp [maK] at g4
                clear l4
                go_simp
                exact ⟨_, rfl, HI.out.skip 5 (by omega) _ rfl⟩
              · simp only [List.getElem?_cons_zero, List.getElem?_cons_succ, Option.some.injEq] at ho
                subst ho
                have k3 := hh.kept 3 (by simp)
                simp at k3
                go_simp
                exact ⟨_, rfl, HI.out.skip 6 (by omega) _ rfl⟩
              · simp only [List.getElem?_cons_zero, List.getElem?_cons_succ, Option.some.injEq] at ho
                subst ho
                have k18 := hh.kept 18 (by simp)
                simp at k18
                go_simp
                exact ⟨_, rfl, HI.out.skip 7 (by omega) _ rfl⟩
              · simp only [List.getElem?_cons_zero, List.getElem?_cons_succ, Option.some.injEq] at ho
                subst ho
                have l6 : L.getD 6 false = true := HD.out ⟨6, .data⟩ (by simp) rfl
                have g6 := hh.got 6 _ 98 rfl rfl l6 (by simp)
                rw [HI.out.known 6 (by omega) l6] at g6
                simp [maK] at g6
                have l7 : L.getD 7 false = true := HD.out ⟨7, .data⟩ (by simp) rfl
                have g7 := hh.got 7 _ 99 rfl rfl l7 (by simp)
                rw [HI.out.known 7 (by omega) l7] at g7
                simp [maK] at g7
                clear l6 l7
                go_simp
                exact ⟨_, rfl, HI.out.skip 8 (by omega) _ rfl⟩
              · simp only [List.getElem?_cons_zero, List.getElem?_cons_succ, Option.some.injEq] at ho
                subst ho
                have l8 : L.getD 8 false = true := HD.out ⟨8, .data⟩ (by simp) rfl
                have g8 := hh.got 8 _ 100 rfl rfl l8 (by simp)
                rw [HI.out.known 8 (by omega) l8] at g8
                simp [maK] at g8
                clear l8
                go_simp
                exact ⟨_, rfl, HI.out.skip 9 (by omega) _ rfl⟩
              · simp only [List.getElem?_cons_zero, List.getElem?_cons_succ, Option.some.injEq] at ho
                subst ho
                have l9 : L.getD 9 false = true := HD.out ⟨9, .data⟩ (by simp) rfl
                have g9 := hh.got 9 _ 101 rfl rfl l9 (by simp)
                rw [HI.out.known 9 (by omega) l9] at g9
                simp [maK] at g9
                clear l9
                go_simp
                exact ⟨_, rfl, HI.out.skip 10 (by omega) _ rfl⟩
              · simp only [List.getElem?_cons_zero, List.getElem?_cons_succ, Option.some.injEq] at ho
                subst ho
                have l5 : L.getD 5 false = true := HD.out ⟨5, .data⟩ (by simp) rfl
                have g5 := hh.got 5 _ 97 rfl rfl l5 (by simp)
                rw [HI.out.known 5 (by omega) l5] at g5
                simp [maK] at g5
                have l10 : L.getD 10 false = true := HD.out ⟨10, .data⟩ (by simp) rfl
                have g10 := hh.got 10 _ 102 rfl rfl l10 (by simp)
                rw [HI.out.known 10 (by omega) l10] at g10
                simp [maK] at g10
                clear l5 l10
                go_simp
                exact ⟨_, rfl, HI.out.skip 11 (by omega) _ rfl⟩
              · simp only [List.getElem?_cons_zero, List.getElem?_cons_succ, Option.some.injEq] at ho
                subst ho
                have l11 : L.getD 11 false = true := HD.out ⟨11, .data⟩ (by simp) rfl
                have g11 := hh.got 11 _ 103 rfl rfl l11 (by simp)
                rw [HI.out.known 11 (by omega) l11] at g11
                simp [maK] at g11
                clear l11
                go_simp
                exact ⟨_, rfl, HI.out.make (by omega) HLF.out⟩
              · simp only [List.getElem?_cons_zero, List.getElem?_cons_succ, Option.some.injEq] at ho
                subst ho
                have l0 : L.getD 0 false = true := HD.out ⟨0, .data⟩ (by simp) rfl
                have l12 : L.getD 12 false = true := HD.out ⟨12, .data⟩ (by simp) rfl
                have e0 : b'.eval (.tmp 92) = _ := (hh.got 0 _ 92 rfl rfl l0 (by simp)).trans (HI.out.known 0 (by omega) l0)
                have ep : b'.eval (.tmp 104) = val 12 := hh.got 12 _ 104 rfl rfl l12 (by simp)
                simp only [maK] at e0
                obtain ⟨v', w', hr, hw'⟩ := HI.out.app el_K (by decide) rfl HONE.out (by omega) HLF.out l12 (by omega) 73
                unfold Oper.wp execOp
                simp only [resolve, invoke, builtin, Sem.run_bind, Sem.run_pure, Result.andThen_ok, List.map_toArray, List.map_cons, List.map_nil, e0, ep, hr]
                exact ⟨_, rfl, hw'⟩
              · simp only [List.getElem?_cons_zero, List.getElem?_cons_succ, Option.some.injEq] at ho
                subst ho
                have l13 : L.getD 13 false = true := HD.out ⟨13, .data⟩ (by simp) rfl
                have g13 := hh.got 13 _ 105 rfl rfl l13 (by simp)
                go_simp
                exact ⟨_, rfl, HI.out.asg (by omega) l13⟩
          · obtain rfl : j = m := by omega
            have hro2 := HRO.out
            rw [List.take_of_length_le (by rw [← HM.out]; exact Nat.le_refl _)] at hro2
            have HTO := Lib.hid (show MrksAt wr (.slice va j vc) ms by
              have h := hro2
              have e := HM.out
              have h3 : wr.ownsRow wo.heap.size 76 2 (.slice va j vc) ms.length (mrkCs ms) := by rw [← e]; exact h
              exact mrkAt_of_owns h3)
            have HA7 := Lib.hid ((HBJ.out.block NA (lt_of_block HA6.out)).trans HA6.out)
            have HD7 := Lib.hid ((HBJ.out.block NB (lt_of_block HD6.out)).trans HD6.out)
            have hzz : w.heap.size ≤ wr.heap.size := HBW.out.size
            clear hlt hj hro2 HRO HA6 HD6 HB6
            go_wp2_with (fail)
            go_at_call 32
            refine (HP.out _ _ _ HTO.out).mono ?_
            rintro e W8 ⟨v, rfl, ⟨a6, c6, b6, d6, rfl, hp6, hs6⟩, hb8⟩
            have HPA := Lib.hid hp6
            have HSA := Lib.hid hs6
            rw [← HP2.out] at HPA
            rw [← HS2.out] at HSA
            rw [← HP2.out, ← HS2.out]
            have HB8 := Lib.hid (HBW.out.trans (hb8.mono hzz))
            have HA8 := Lib.hid ((hb8.block NA (lt_of_block HA7.out)).trans HA7.out)
            have HD8 := Lib.hid ((hb8.block NB (lt_of_block HD7.out)).trans HD7.out)
            obtain ⟨y0, y1, y2⟩ := cells3 HA8.out
            have yf0 : W8.frozen? ⟨NA, 0, none⟩ = false := by simp [World.frozen?, HA8.out]
            have yf1 : W8.frozen? ⟨NA, 1, none⟩ = false := by simp [World.frozen?, HA8.out]
            have yf2 : W8.frozen? ⟨NA, 2, none⟩ = false := by simp [World.frozen?, HA8.out]
            clear hp6 hs6 hb8 HA7 HD7
            go_upto_region 18 with (fail)
            have hs3 := set3 HA8.out (.slice a6 P2 c6) (.int .i64 N2.inp) (.slice b6 S2 d6)
            have hb9 := hs3.2.2 _ _ hNAw HB8.out
            have hd9 := (hs3.2.1 NB (fun e => hAB e.symm)).trans HD8.out
            have hsz9 : (((W8.setCell ⟨NA, 0, none⟩ (.slice a6 P2 c6)).setCell ⟨NA, 1, none⟩ (.int .i64 N2.inp)).setCell ⟨NA, 2, none⟩ (.slice b6 S2 d6)).heap.size = W8.heap.size := by simp only [setCell_sz]
            have hna9 := hs3.1
            have hoth9 := hs3.2.1
            generalize ((W8.setCell ⟨NA, 0, none⟩ (.slice a6 P2 c6)).setCell ⟨NA, 1, none⟩ (.int .i64 N2.inp)).setCell ⟨NA, 2, none⟩ (.slice b6 S2 d6) = W9 at *
            have HPA9 := Lib.hid (psAt_set HPA.out HA8.out hoth9 hsz9)
            have HSA9 := Lib.hid (ssAt_set HSA.out HA8.out hoth9 hsz9)
            have HB9 := Lib.hid hb9
            have HA9 := Lib.hid hna9
            have HD9 := Lib.hid hd9
            have hz9 : w.heap.size ≤ W9.heap.size := hb9.size
            clear hs3 hb9 hd9 hsz9 hna9 hoth9 HPA HSA HB8 HA8 HD8 y0 y1 y2 yf0 yf1 yf2 HBW HBJ HTO hzz
            go_wp2_with (fail)
            go_at_call 33
            refine (HRP.out _ (HMA.out.below HB9.out)).mono ?_
            rintro e W10 ⟨v, rfl, ⟨a9, c9, b9, d9, rfl, hp10, hs10⟩, hb10⟩
            have HPB := Lib.hid hp10
            have HSB := Lib.hid hs10
            rw [← HP2.out] at HPB
            rw [← HS2.out] at HSB
            rw [← HP2.out, ← HS2.out]
            have HPA10 := Lib.hid (HPA9.out.below hb10)
            have HSA10 := Lib.hid (HSA9.out.below hb10)
            have HB10 := Lib.hid (HB9.out.trans (hb10.mono hz9))
            have HA10 := Lib.hid ((hb10.block NA (lt_of_block HA9.out)).trans HA9.out)
            have HD10 := Lib.hid ((hb10.block NB (lt_of_block HD9.out)).trans HD9.out)
            obtain ⟨y0, y1, y2⟩ := cells3 HD10.out
            have yf0 : W10.frozen? ⟨NB, 0, none⟩ = false := by simp [World.frozen?, HD10.out]
            have yf1 : W10.frozen? ⟨NB, 1, none⟩ = false := by simp [World.frozen?, HD10.out]
            have yf2 : W10.frozen? ⟨NB, 2, none⟩ = false := by simp [World.frozen?, HD10.out]
            clear hp10 hs10 hb10 HPA9 HSA9 HA9 HD9 HB9 hz9
            go_upto_region 19 with (fail)
            have hs3 := set3 HD10.out (.slice a9 P2 c9) (.int .i64 N2.inp) (.slice b9 S2 d9)
            have hb11 := hs3.2.2 _ _ hNBw HB10.out
            have ha11 := (hs3.2.1 NA hAB).trans HA10.out
            have hsz11 : (((W10.setCell ⟨NB, 0, none⟩ (.slice a9 P2 c9)).setCell ⟨NB, 1, none⟩ (.int .i64 N2.inp)).setCell ⟨NB, 2, none⟩ (.slice b9 S2 d9)).heap.size = W10.heap.size := by simp only [setCell_sz]
            have hnb11 := hs3.1
            have hoth11 := hs3.2.1
            generalize ((W10.setCell ⟨NB, 0, none⟩ (.slice a9 P2 c9)).setCell ⟨NB, 1, none⟩ (.int .i64 N2.inp)).setCell ⟨NB, 2, none⟩ (.slice b9 S2 d9) = W11 at *
            have Q1 := Lib.hid (psAt_set HPA10.out HD10.out hoth11 hsz11)
            have Q2 := Lib.hid (ssAt_set HSA10.out HD10.out hoth11 hsz11)
            have Q3 := Lib.hid (psAt_set HPB.out HD10.out hoth11 hsz11)
            have Q4 := Lib.hid (ssAt_set HSB.out HD10.out hoth11 hsz11)
            have HB11 := Lib.hid hb11
            obtain ⟨z0, z1, z2⟩ := cells3 ha11
            obtain ⟨x0, x1, x2⟩ := cells3 hnb11
            clear hs3 hb11 ha11 hsz11 hnb11 hoth11 HPA10 HSA10 HPB HSB HB10 HA10 HD10 y0 y1 y2 yf0 yf1 yf2
            go_wp2_with (fail)
            go_at_call 17
            refine (HNB.out _ _ _ _ _ _ _ _ _ Q1.out Q2.out Q3.out Q4.out).mono ?_
            rintro e W12 ⟨rfl, hb12⟩
            have HB12 := Lib.hid (HB11.out.trans (hb12.mono HB11.out.size))
            clear hb12 Q1 Q2 Q3 Q4 HB11 x0 x1 x2 z0 z1 z2
            go_wp2_with (fail)
            go_at_call 13
            refine (works_any _).mono ?_
            rintro e W13 ⟨rfl, hb13⟩
            have HB13 := Lib.hid (HB12.out.trans (hb13.mono HB12.out.size))
            clear hb13
            go_wp2
            go_ret
            exact ⟨rfl, HB13.out⟩
  · go_enter Try.func5, Try.ntmps5
    go_wp2
    clear g1 g2 g3 g4
    go_loopw [11, 12] (fun s11 s12 wr => ∃ (k : Nat) (va : Option Addr) (vc : Nat), k ≤ n ∧ s11 = .slice va k vc ∧ s12 = .int .i64 k ∧ wr.ownsRow w.heap.size 70 3 (.slice va k vc) k (tapCs (l.take k)) ∧ Below w.heap.size w wr) (fun _ s12 _ => n - (intOf s12).toNat)
    case atStart => exact ⟨0, none, 0, Nat.zero_le _, rfl, rfl, ⟨rfl, .inl ⟨rfl, rfl⟩⟩, Below.refl _ _⟩
    case round =>
      obtain ⟨k, va, vc, hk, rfl, rfl, hro, hb⟩ := hrel
      have HRO := Lib.hid hro
      have HB := Lib.hid hb
      have hzw := hb.size
      clear hro hb
      by_cases hlt : k < n
      · obtain ⟨x, hx⟩ : ∃ x, l[k]? = some x := ⟨_, List.getElem?_eq_getElem (by rw [← HN.out]; exact hlt)⟩
        have hi0 : (0 : Int) ≤ (k : Int) := Int.natCast_nonneg _
        have hi1 : (k : Int) < (n : Int) := by omega
        have hsn : tapCs (l.take (k + 1)) = tapCs (l.take k) ++ tapV x := by rw [List.take_add_one, hx]; exact tapCs_snoc _ _
        obtain ⟨b, off, rfl, hbl, hcl⟩ := HT.out.at hx
        have hcl := hcl.below HB.out hbl
        obtain ⟨X, Y, Z⟩ := x
        obtain ⟨u1, u2, u3⟩ := hcl
        simp only at u1 u2 u3
        have U1 := Lib.hid u1
        have U2 := Lib.hid u2
        have U3 := Lib.hid u3
        have HSN := Lib.hid hsn
        have hvo : ∀ g, (Value.slice va k vc).ownBlock = some g → w.heap.size ≤ g := fun g hg => (HRO.out.lt g hg).1
        have HVO := Lib.hid hvo
        have hone : ∀ u ∈ [Value.int .i64 X, Value.int .i64 Y, Value.int .i64 Z], u.oneCell' = true := by simp [Value.oneCell']
        have HONE := Lib.hid hone
        clear hx hsn u1 u2 u3 hvo hone
        go_upto_region 7 with (fail)
        refine wp_region_late (GaR 70 3 wr w.heap.size k 17 (tapCs (l.take k)) [.int .i64 X, .int .i64 Y, .int .i64 Z] (.slice va k vc) (taK n ca b off k X Y Z (.slice va k vc))) (by kernel_rfl) (by kernel_rfl) (by kernel_rfl) (by kernel_rfl) (GaR.init _ hzw HRO.out) ?stp ?dn
        case dn =>
          intro val W b' hI hb
          have hoa := hI.oa (by simp)
          have hea := hI.ea (by simp)
          have kn : ∀ q, q < 17 → val q = (taK n ca b off k X Y Z (.slice va k vc)) q := fun q hq => hI.known q hq (replT (by show q < 20; omega))
          obtain ⟨va', vc', hva⟩ := own_sl hoa.1
          obtain ⟨vp, hvp⟩ : ∃ v, v = val 17 := ⟨_, rfl⟩
          rw [hva] at hoa hea
          simp only [puts, hva, hea, ← hvp, kn 0 (by decide), kn 1 (by decide), kn 2 (by decide), kn 3 (by decide), kn 4 (by decide), kn 5 (by decide), kn 6 (by decide), kn 7 (by decide), kn 8 (by decide), kn 9 (by decide), kn 10 (by decide), kn 11 (by decide), kn 12 (by decide), kn 13 (by decide), kn 14 (by decide), kn 15 (by decide), kn 16 (by decide), taK] at hb
          have HOA := Lib.hid hoa
          have HBL := Lib.hid hI.bel
          have HOT := Lib.hid hI.oth
          have hzW := hI.bel.size
          clear hI hoa hea kn hva hvp
          subst hb
          simp only [Act.put, List.setIfInBounds_toArray, List.set_cons_succ, List.set_cons_zero]
          go_wp2
          go_roundw
          case rel => exact ⟨k + 1, va', vc', by omega, rfl, by go_num, by rw [HSN.out]; exact HOA.out.1, HB.out.trans HBL.out⟩
          case measure => simp [intOf]; omega
        case stp =>
          intro L val W i' o b' hs ho hlF hdd hI hh hlate
          have hi' := (List.getElem?_eq_some_iff.1 ho).1
          have hcs : i' = 0 ∨ i' = 1 ∨ i' = 2 ∨ i' = 3 ∨ i' = 4 ∨ i' = 5 ∨ i' = 6 ∨ i' = 7 ∨ i' = 8 ∨ i' = 9 ∨ i' = 10 ∨ i' = 11 ∨ i' = 12 ∨ i' = 13 ∨ i' = 14 ∨ i' = 15 ∨ i' = 16 ∨ i' = 17 ∨ i' = 18 ∨ i' = 19 := by simp at hi'; omega
          have hLs : 17 + 2 < L.size := by simp at hs; omega
          have HI := Lib.hid hI
          have HLF := Lib.hid hlF
          have HD := Lib.hid hdd
          have hbk : W.heap[b]? = wr.heap[b]? := HI.out.oth b (by omega) (fun e => by have := HVO.out b e; omega)
          have q1 := (World.cell?_of_block hbk).trans U1.out
          have q2 := (World.cell?_of_block hbk).trans U2.out
          have q3 := (World.cell?_of_block hbk).trans U3.out
          clear hbk
          clear hi' hs hI hlF hdd
          rcases hcs with rfl | rfl | rfl | rfl | rfl | rfl | rfl | rfl | rfl | rfl | rfl | rfl | rfl | rfl | rfl | rfl | rfl | rfl | rfl | rfl
          · simp only [List.getElem?_cons_zero, Option.some.injEq] at ho
            subst ho
            have k11 := hlate 11 (by kernel_rfl)
            simp at k11
            go_simp
            exact ⟨_, rfl, HI.out.skip 0 (by omega) _ rfl⟩
          · simp only [List.getElem?_cons_zero, List.getElem?_cons_succ, Option.some.injEq] at ho
            subst ho
            have k1 := hh.kept 1 (by simp)
            simp at k1
            go_simp
            exact ⟨_, rfl, HI.out.skip 1 (by omega) _ rfl⟩
          · simp only [List.getElem?_cons_zero, List.getElem?_cons_succ, Option.some.injEq] at ho
            subst ho
            have k12 := hh.kept 12 (by simp)
            simp at k12
            go_simp
            exact ⟨_, rfl, HI.out.skip 2 (by omega) _ rfl⟩
          · simp only [List.getElem?_cons_zero, List.getElem?_cons_succ, Option.some.injEq] at ho
            subst ho
            have l1 : L.getD 1 false = true := HD.out ⟨1, .data⟩ (by simp) rfl
            have g1 := hh.got 1 _ 45 rfl rfl l1 (by simp)
            rw [HI.out.known 1 (by omega) l1] at g1
            simp [taK] at g1
            have l2 : L.getD 2 false = true := HD.out ⟨2, .data⟩ (by simp) rfl
            have g2 := hh.got 2 _ 46 rfl rfl l2 (by simp)
            rw [HI.out.known 2 (by omega) l2] at g2
            simp [taK] at g2
            clear l1 l2
            go_simp
            exact ⟨_, rfl, HI.out.skip 3 (by omega) _ rfl⟩
          · simp only [List.getElem?_cons_zero, List.getElem?_cons_succ, Option.some.injEq] at ho
            subst ho
            have l3 : L.getD 3 false = true := HD.out ⟨3, .data⟩ (by simp) rfl
            have g3 := hh.got 3 _ 47 rfl rfl l3 (by simp)
            rw [HI.out.known 3 (by omega) l3] at g3
            simp [taK] at g3
            clear l3
            go_simp
            exact ⟨_, rfl, HI.out.skip 4 (by omega) _ rfl⟩
          · simp only [List.getElem?_cons_zero, List.getElem?_cons_succ, Option.some.injEq] at ho
            subst ho
            have l4 : L.getD 4 false = true := HD.out ⟨4, .data⟩ (by simp) rfl
            have g4 := hh.got 4 _ 48 rfl rfl l4 (by simp)
            rw [HI.out.known 4 (by omega) l4] at g4
            simp [taK] at g4
            clear l4
            go_simp
            exact ⟨_, rfl, HI.out.skip 5 (by omega) _ rfl⟩
          · simp only [List.getElem?_cons_zero, List.getElem?_cons_succ, Option.some.injEq] at ho
            subst ho
            have k1 := hh.kept 1 (by simp)
            simp at k1
            go_simp
            exact ⟨_, rfl, HI.out.skip 6 (by omega) _ rfl⟩
          · simp only [List.getElem?_cons_zero, List.getElem?_cons_succ, Option.some.injEq] at ho
            subst ho
            have k12 := hh.kept 12 (by simp)
            simp at k12
            go_simp
            exact ⟨_, rfl, HI.out.skip 7 (by omega) _ rfl⟩
          · simp only [List.getElem?_cons_zero, List.getElem?_cons_succ, Option.some.injEq] at ho
            subst ho
            have l6 : L.getD 6 false = true := HD.out ⟨6, .data⟩ (by simp) rfl
            have g6 := hh.got 6 _ 50 rfl rfl l6 (by simp)
            rw [HI.out.known 6 (by omega) l6] at g6
            simp [taK] at g6
            have l7 : L.getD 7 false = true := HD.out ⟨7, .data⟩ (by simp) rfl
            have g7 := hh.got 7 _ 51 rfl rfl l7 (by simp)
            rw [HI.out.known 7 (by omega) l7] at g7
            simp [taK] at g7
            clear l6 l7
            go_simp
            exact ⟨_, rfl, HI.out.skip 8 (by omega) _ rfl⟩
          · simp only [List.getElem?_cons_zero, List.getElem?_cons_succ, Option.some.injEq] at ho
            subst ho
            have l8 : L.getD 8 false = true := HD.out ⟨8, .data⟩ (by simp) rfl
            have g8 := hh.got 8 _ 52 rfl rfl l8 (by simp)
            rw [HI.out.known 8 (by omega) l8] at g8
            simp [taK] at g8
            clear l8
            go_simp
            exact ⟨_, rfl, HI.out.skip 9 (by omega) _ rfl⟩
          · simp only [List.getElem?_cons_zero, List.getElem?_cons_succ, Option.some.injEq] at ho
            subst ho
            have l9 : L.getD 9 false = true := HD.out ⟨9, .data⟩ (by simp) rfl
            have g9 := hh.got 9 _ 53 rfl rfl l9 (by simp)
            rw [HI.out.known 9 (by omega) l9] at g9
            simp [taK] at g9
            clear l9
            go_simp
            exact ⟨_, rfl, HI.out.skip 10 (by omega) _ rfl⟩
          · simp only [List.getElem?_cons_zero, List.getElem?_cons_succ, Option.some.injEq] at ho
            subst ho
            have k1 := hh.kept 1 (by simp)
            simp at k1
            go_simp
            exact ⟨_, rfl, HI.out.skip 11 (by omega) _ rfl⟩
          · simp only [List.getElem?_cons_zero, List.getElem?_cons_succ, Option.some.injEq] at ho
            subst ho
            have k12 := hh.kept 12 (by simp)
            simp at k12
            go_simp
            exact ⟨_, rfl, HI.out.skip 12 (by omega) _ rfl⟩
          · simp only [List.getElem?_cons_zero, List.getElem?_cons_succ, Option.some.injEq] at ho
            subst ho
            have l11 : L.getD 11 false = true := HD.out ⟨11, .data⟩ (by simp) rfl
            have g11 := hh.got 11 _ 55 rfl rfl l11 (by simp)
            rw [HI.out.known 11 (by omega) l11] at g11
            simp [taK] at g11
            have l12 : L.getD 12 false = true := HD.out ⟨12, .data⟩ (by simp) rfl
            have g12 := hh.got 12 _ 56 rfl rfl l12 (by simp)
            rw [HI.out.known 12 (by omega) l12] at g12
            simp [taK] at g12
            clear l11 l12
            go_simp
            exact ⟨_, rfl, HI.out.skip 13 (by omega) _ rfl⟩
          · simp only [List.getElem?_cons_zero, List.getElem?_cons_succ, Option.some.injEq] at ho
            subst ho
            have l13 : L.getD 13 false = true := HD.out ⟨13, .data⟩ (by simp) rfl
            have g13 := hh.got 13 _ 57 rfl rfl l13 (by simp)
            rw [HI.out.known 13 (by omega) l13] at g13
            simp [taK] at g13
            clear l13
            go_simp
            exact ⟨_, rfl, HI.out.skip 14 (by omega) _ rfl⟩
          · simp only [List.getElem?_cons_zero, List.getElem?_cons_succ, Option.some.injEq] at ho
            subst ho
            have l14 : L.getD 14 false = true := HD.out ⟨14, .data⟩ (by simp) rfl
            have g14 := hh.got 14 _ 58 rfl rfl l14 (by simp)
            rw [HI.out.known 14 (by omega) l14] at g14
            simp [taK] at g14
            clear l14
            go_simp
            exact ⟨_, rfl, HI.out.skip 15 (by omega) _ rfl⟩
          · simp only [List.getElem?_cons_zero, List.getElem?_cons_succ, Option.some.injEq] at ho
            subst ho
            have l5 : L.getD 5 false = true := HD.out ⟨5, .data⟩ (by simp) rfl
            have g5 := hh.got 5 _ 49 rfl rfl l5 (by simp)
            rw [HI.out.known 5 (by omega) l5] at g5
            simp [taK] at g5
            have l10 : L.getD 10 false = true := HD.out ⟨10, .data⟩ (by simp) rfl
            have g10 := hh.got 10 _ 54 rfl rfl l10 (by simp)
            rw [HI.out.known 10 (by omega) l10] at g10
            simp [taK] at g10
            have l15 : L.getD 15 false = true := HD.out ⟨15, .data⟩ (by simp) rfl
            have g15 := hh.got 15 _ 59 rfl rfl l15 (by simp)
            rw [HI.out.known 15 (by omega) l15] at g15
            simp [taK] at g15
            clear l5 l10 l15
            go_simp
            exact ⟨_, rfl, HI.out.skip 16 (by omega) _ rfl⟩
          · simp only [List.getElem?_cons_zero, List.getElem?_cons_succ, Option.some.injEq] at ho
            subst ho
            have l16 : L.getD 16 false = true := HD.out ⟨16, .data⟩ (by simp) rfl
            have g16 := hh.got 16 _ 60 rfl rfl l16 (by simp)
            rw [HI.out.known 16 (by omega) l16] at g16
            simp [taK] at g16
            clear l16
            go_simp
            exact ⟨_, rfl, HI.out.make (by omega) HLF.out⟩
          · simp only [List.getElem?_cons_zero, List.getElem?_cons_succ, Option.some.injEq] at ho
            subst ho
            have l0 : L.getD 0 false = true := HD.out ⟨0, .data⟩ (by simp) rfl
            have l17 : L.getD 17 false = true := HD.out ⟨17, .data⟩ (by simp) rfl
            have e0 : b'.eval (.tmp 44) = _ := (hh.got 0 _ 44 rfl rfl l0 (by simp)).trans (HI.out.known 0 (by omega) l0)
            have ep : b'.eval (.tmp 61) = val 17 := hh.got 17 _ 61 rfl rfl l17 (by simp)
            simp only [taK] at e0
            obtain ⟨v', w', hr, hw'⟩ := HI.out.app el_T (by decide) rfl HONE.out (by omega) HLF.out l17 (by omega) 67
            unfold Oper.wp execOp
            simp only [resolve, invoke, builtin, Sem.run_bind, Sem.run_pure, Result.andThen_ok, List.map_toArray, List.map_cons, List.map_nil, e0, ep, hr]
            exact ⟨_, rfl, hw'⟩
          · simp only [List.getElem?_cons_zero, List.getElem?_cons_succ, Option.some.injEq] at ho
            subst ho
            have l18 : L.getD 18 false = true := HD.out ⟨18, .data⟩ (by simp) rfl
            have g18 := hh.got 18 _ 62 rfl rfl l18 (by simp)
            go_simp
            exact ⟨_, rfl, HI.out.asg (by omega) l18⟩
      · obtain rfl : k = n := by omega
        have hro2 := HRO.out
        rw [List.take_of_length_le (by rw [← HN.out]; exact Nat.le_refl _)] at hro2
        have HTO := Lib.hid (show TapsAt wr (.slice va k vc) l by
          have h := hro2
          have e := HN.out
          have h3 : wr.ownsRow w.heap.size 70 3 (.slice va k vc) l.length (tapCs l) := by rw [← e]; exact h
          exact tapAt_of_owns h3)
        clear hlt hk hro2 HRO
        go_wp2_with (fail)
        go_at_call 30
        refine (HC.out _ _ _ HTO.out).mono ?_
        rintro e W2 ⟨v, rfl, ⟨a1, c1, b1, d1, rfl, hp1, hs1⟩, hb2⟩
        have HPA := Lib.hid hp1
        have HSA := Lib.hid hs1
        have HB2 := Lib.hid (HB.out.trans (hb2.mono hzw))
        have hz2 : w.heap.size ≤ W2.heap.size := HB2.out.size
        rw [← HP1.out] at HPA
        rw [← HS1.out] at HSA
        rw [← HP1.out, ← HS1.out]
        clear hp1 hs1 hb2 HTO hzw
        go_upto_region 9 with (fail)
        have hna := alloc_new_at W2 (.cells #[.slice a1 P1 c1, .int .i64 N1.inp, .slice b1 S1 d1] 32) W2.heap.size rfl
        have hb3 := HB2.out.alloc hz2 (.cells #[.slice a1 P1 c1, .int .i64 N1.inp, .slice b1 S1 d1] 32)
        have hpa := HPA.out.below ((Below.refl _ _).alloc (Nat.le_refl W2.heap.size) (.cells #[.slice a1 P1 c1, .int .i64 N1.inp, .slice b1 S1 d1] 32))
        have hsa := HSA.out.below ((Below.refl _ _).alloc (Nat.le_refl W2.heap.size) (.cells #[.slice a1 P1 c1, .int .i64 N1.inp, .slice b1 S1 d1] 32))
        obtain ⟨NA, hNA⟩ : ∃ g, g = W2.heap.size := ⟨_, rfl⟩
        rw [← hNA] at hna ⊢
        generalize W2.alloc (.cells #[.slice a1 P1 c1, .int .i64 N1.inp, .slice b1 S1 d1] 32) = W3 at *
        have HNW := Lib.hid hna
        have HB3 := Lib.hid hb3
        have HPA3 := Lib.hid hpa
        have HSA3 := Lib.hid hsa
        have hNAw : w.heap.size ≤ NA := by omega
        clear hna hb3 hpa hsa HPA HSA hNA HB2 hz2
        go_wp2_with (fail)
        go_at_call 31
        refine (HRC.out _ (HT.out.below HB3.out)).mono ?_
        rintro e W4 ⟨v, rfl, ⟨a5, c5, b5, d5, rfl, hp5, hs5⟩, hb4⟩
        have HPB := Lib.hid hp5
        have HSB := Lib.hid hs5
        rw [← HP1.out] at HPB
        rw [← HS1.out] at HSB
        rw [← HP1.out, ← HS1.out]
        have HPA4 := Lib.hid (HPA3.out.below hb4)
        have HSA4 := Lib.hid (HSA3.out.below hb4)
        have HNW4 := Lib.hid ((hb4.block NA (lt_of_block HNW.out)).trans HNW.out)
        have HB4 := Lib.hid (HB3.out.trans (hb4.mono HB3.out.size))
        have hz4 : w.heap.size ≤ W4.heap.size := HB4.out.size
        have hNl4 := lt_of_block HNW4.out
        clear hp5 hs5 hb4 HPA3 HSA3 HNW HB3
        go_upto_region 10 with (fail)
        have hnb := alloc_new_at W4 (.cells #[.slice a5 P1 c5, .int .i64 N1.inp, .slice b5 S1 d5] 32) W4.heap.size rfl
        have hal := (Below.refl W4.heap.size W4).alloc (Nat.le_refl W4.heap.size) (.cells #[.slice a5 P1 c5, .int .i64 N1.inp, .slice b5 S1 d5] 32)
        have hb5 := HB4.out.alloc hz4 (.cells #[.slice a5 P1 c5, .int .i64 N1.inp, .slice b5 S1 d5] 32)
        obtain ⟨NB, hNB⟩ : ∃ g, g = W4.heap.size := ⟨_, rfl⟩
        rw [← hNB] at hnb ⊢
        have q1 := HPA4.out.below hal
        have q2 := HSA4.out.below hal
        have q3 := HPB.out.below hal
        have q4 := HSB.out.below hal
        have q5 := (hal.block NA hNl4).trans HNW4.out
        generalize W4.alloc (.cells #[.slice a5 P1 c5, .int .i64 N1.inp, .slice b5 S1 d5] 32) = W5 at *
        have Q1 := Lib.hid q1
        have Q2 := Lib.hid q2
        have Q3 := Lib.hid q3
        have Q4 := Lib.hid q4
        have Q5 := Lib.hid q5
        have Q6 := Lib.hid hnb
        have HB5 := Lib.hid hb5
        have hNBw : w.heap.size ≤ NB := by omega
        have hAB : NA ≠ NB := by omega
        obtain ⟨y0, y1, y2⟩ := cells3 q5
        obtain ⟨x0, x1, x2⟩ := cells3 hnb
        clear q1 q2 q3 q4 q5 hnb hb5 hal hNB HPA4 HSA4 HPB HSB HNW4 HB4 hz4 hNl4
        go_wp2_with (fail)
        go_at_call 17
        refine (HNA.out _ _ _ _ _ _ _ _ _ Q1.out Q2.out Q3.out Q4.out).mono ?_
        rintro e W6 ⟨rfl, hb6⟩
        have HB6 := Lib.hid (HB5.out.trans (hb6.mono HB5.out.size))
        have HA6 := Lib.hid ((hb6.block NA (lt_of_block Q5.out)).trans Q5.out)
        have HD6 := Lib.hid ((hb6.block NB (lt_of_block Q6.out)).trans Q6.out)
        have hz6 : w.heap.size ≤ W6.heap.size := HB6.out.size
        clear hb6 Q1 Q2 Q3 Q4 Q5 Q6 HB5 y0 y1 y2 x0 x1 x2
        go_wp2
        generalize W6 = wo at *
        go_loopw [17, 18] (fun s17 s18 wr => ∃ (j : Nat) (va : Option Addr) (vc : Nat), j ≤ m ∧ s17 = .slice va j vc ∧ s18 = .int .i64 j ∧ wr.ownsRow wo.heap.size 76 2 (.slice va j vc) j (mrkCs (ms.take j)) ∧ Below wo.heap.size wo wr) (fun _ s18 _ => m - (intOf s18).toNat)
        case atStart => exact ⟨0, none, 0, Nat.zero_le _, rfl, rfl, ⟨rfl, .inl ⟨rfl, rfl⟩⟩, Below.refl _ _⟩
        case round =>
          obtain ⟨j, va, vc, hj, rfl, rfl, hro, hb⟩ := hrel
          have HRO := Lib.hid hro
          have HBJ := Lib.hid hb
          have HBW := Lib.hid (HB6.out.trans (hb.mono hz6))
          have hzw := hb.size
          clear hro hb
          by_cases hlt : j < m
          · obtain ⟨x, hx⟩ : ∃ x, ms[j]? = some x := ⟨_, List.getElem?_eq_getElem (by rw [← HM.out]; exact hlt)⟩
            have hi0 : (0 : Int) ≤ (j : Int) := Int.natCast_nonneg _
            have hi1 : (j : Int) < (m : Int) := by omega
            have hsn : mrkCs (ms.take (j + 1)) = mrkCs (ms.take j) ++ mrkV x := by rw [List.take_add_one, hx]; exact mrkCs_snoc _ _
            obtain ⟨b, off, rfl, hbl, hcl⟩ := HMA.out.at hx
            have hcl := hcl.below HBW.out hbl
            obtain ⟨X, Y⟩ := x
            obtain ⟨u1, u2⟩ := hcl
            simp only at u1 u2
            have U1 := Lib.hid u1
            have U2 := Lib.hid u2
            have HSN := Lib.hid hsn
            have hvo : ∀ g, (Value.slice va j vc).ownBlock = some g → wo.heap.size ≤ g := fun g hg => (HRO.out.lt g hg).1
            have HVO := Lib.hid hvo
            have hone : ∀ u ∈ [Value.int .i64 X, Value.int .i64 Y], u.oneCell' = true := by simp [Value.oneCell']
            have HONE := Lib.hid hone
            clear hx hsn u1 u2 hvo hone
            go_upto_region 16 with (fail)
            refine wp_region_late (GaR 76 2 wr wo.heap.size j 12 (mrkCs (ms.take j)) [.int .i64 X, .int .i64 Y] (.slice va j vc) (maK m cb b off j X Y (.slice va j vc))) (by kernel_rfl) (by kernel_rfl) (by kernel_rfl) (by kernel_rfl) (GaR.init _ hzw HRO.out) ?stp ?dn
            case dn =>
              intro val W b' hI hb
              have hoa := hI.oa (by simp)
              have hea := hI.ea (by simp)
              have kn : ∀ q, q < 12 → val q = (maK m cb b off j X Y (.slice va j vc)) q := fun q hq => hI.known q hq (replT (by show q < 15; omega))
              obtain ⟨va', vc', hva⟩ := own_sl hoa.1
              obtain ⟨vp, hvp⟩ : ∃ v, v = val 12 := ⟨_, rfl⟩
              rw [hva] at hoa hea
              simp only [puts, hva, hea, ← hvp, kn 0 (by decide), kn 1 (by decide), kn 2 (by decide), kn 3 (by decide), kn 4 (by decide), kn 5 (by decide), kn 6 (by decide), kn 7 (by decide), kn 8 (by decide), kn 9 (by decide), kn 10 (by decide), kn 11 (by decide), maK] at hb
              have HOA := Lib.hid hoa
              have HBL := Lib.hid hI.bel
              have HOT := Lib.hid hI.oth
              have hzW := hI.bel.size
              clear hI hoa hea kn hva hvp
              subst hb
              simp only [Act.put, List.setIfInBounds_toArray, List.set_cons_succ, List.set_cons_zero]
              go_wp2
              go_roundw
              case rel => exact ⟨j + 1, va', vc', by omega, rfl, by go_num, by rw [HSN.out]; exact HOA.out.1, HBJ.out.trans HBL.out⟩
              case measure => simp [intOf]; omega
            case stp =>
              intro L val W i' o b' hs ho hlF hdd hI hh hlate
              have hi' := (List.getElem?_eq_some_iff.1 ho).1
              have hcs : i' = 0 ∨ i' = 1 ∨ i' = 2 ∨ i' = 3 ∨ i' = 4 ∨ i' = 5 ∨ i' = 6 ∨ i' = 7 ∨ i' = 8 ∨ i' = 9 ∨ i' = 10 ∨ i' = 11 ∨ i' = 12 ∨ i' = 13 ∨ i' = 14 := by simp at hi'; omega
              have hLs : 12 + 2 < L.size := by simp at hs; omega
              have HI := Lib.hid hI
              have HLF := Lib.hid hlF
              have HD := Lib.hid hdd
              have hbk : W.heap[b]? = wr.heap[b]? := HI.out.oth b (by omega) (fun e => by have := HVO.out b e; omega)
              have q1 := (World.cell?_of_block hbk).trans U1.out
              have q2 := (World.cell?_of_block hbk).trans U2.out
              clear hbk
              clear hi' hs hI hlF hdd
              rcases hcs with rfl | rfl | rfl | rfl | rfl | rfl | rfl | rfl | rfl | rfl | rfl | rfl | rfl | rfl | rfl
              · simp only [List.getElem?_cons_zero, Option.some.injEq] at ho
                subst ho
                have k17 := hlate 17 (by kernel_rfl)
                simp at k17
                go_simp
                exact ⟨_, rfl, HI.out.skip 0 (by omega) _ rfl⟩
              · simp only [List.getElem?_cons_zero, List.getElem?_cons_succ, Option.some.injEq] at ho
                subst ho
                have k3 := hh.kept 3 (by simp)
                simp at k3
                go_simp
                exact ⟨_, rfl, HI.out.skip 1 (by omega) _ rfl⟩
              · simp only [List.getElem?_cons_zero, List.getElem?_cons_succ, Option.some.injEq] at ho
                subst ho
                have k18 := hh.kept 18 (by simp)
                simp at k18
                go_simp
                exact ⟨_, rfl, HI.out.skip 2 (by omega) _ rfl⟩
              · simp only [List.getElem?_cons_zero, List.getElem?_cons_succ, Option.some.injEq] at ho
                subst ho
                have l1 : L.getD 1 false = true := HD.out ⟨1, .data⟩ (by simp) rfl
                have g1 := hh.got 1 _ 93 rfl rfl l1 (by simp)
                rw [HI.out.known 1 (by omega) l1] at g1
                simp [maK] at g1
                have l2 : L.getD 2 false = true := HD.out ⟨2, .data⟩ (by simp) rfl
                have g2 := hh.got 2 _ 94 rfl rfl l2 (by simp)
                rw [HI.out.known 2 (by omega) l2] at g2
                simp [maK] at g2
                clear l1 l2
                go_simp
                exact ⟨_, rfl, HI.out.skip 3 (by omega) _ rfl⟩
              · simp only [List.getElem?_cons_zero, List.getElem?_cons_succ, Option.some.injEq] at ho
                subst ho
                have l3 : L.getD 3 false = true := HD.out ⟨3, .data⟩ (by simp) rfl
                have g3 := hh.got 3 _ 95 rfl rfl l3 (by simp)
                rw [HI.out.known 3 (by omega) l3] at g3
                simp [maK] at g3
                clear l3
                go_simp
                exact ⟨_, rfl, HI.out.skip 4 (by omega) _ rfl⟩
              · simp only [List.getElem?_cons_zero, List.getElem?_cons_succ, Option.some.injEq] at ho
                subst ho
                have l4 : L.getD 4 false = true := HD.out ⟨4, .data⟩ (by simp) rfl
                have g4 := hh.got 4 _ 96 rfl rfl l4 (by simp)
                rw [HI.out.known 4 (by omega) l4] at g4
                simp [maK] at g4
                clear l4
                go_simp
                exact ⟨_, rfl, HI.out.skip 5 (by omega) _ rfl⟩
              · simp only [List.getElem?_cons_zero, List.getElem?_cons_succ, Option.some.injEq] at ho
                subst ho
                have k3 := hh.kept 3 (by simp)
                simp at k3
                go_simp
                exact ⟨_, rfl, HI.out.skip 6 (by omega) _ rfl⟩
              · simp only [List.getElem?_cons_zero, List.getElem?_cons_succ, Option.some.injEq] at ho
                subst ho
                have k18 := hh.kept 18 (by simp)
                simp at k18
                go_simp
                exact ⟨_, rfl, HI.out.skip 7 (by omega) _ rfl⟩
              · simp only [List.getElem?_cons_zero, List.getElem?_cons_succ, Option.some.injEq] at ho
                subst ho
                have l6 : L.getD 6 false = true := HD.out ⟨6, .data⟩ (by simp) rfl
                have g6 := hh.got 6 _ 98 rfl rfl l6 (by simp)
                rw [HI.out.known 6 (by omega) l6] at g6
                simp [maK] at g6
                have l7 : L.getD 7 false = true := HD.out ⟨7, .data⟩ (by simp) rfl
                have g7 := hh.got 7 _ 99 rfl rfl l7 (by simp)
                rw [HI.out.known 7 (by omega) l7] at g7
                simp [maK] at g7
                clear l6 l7
                go_simp
                exact ⟨_, rfl, HI.out.skip 8 (by omega) _ rfl⟩
              · simp only [List.getElem?_cons_zero, List.getElem?_cons_succ, Option.some.injEq] at ho
                subst ho
                have l8 : L.getD 8 false = true := HD.out ⟨8, .data⟩ (by simp) rfl
                have g8 := hh.got 8 _ 100 rfl rfl l8 (by simp)
                rw [HI.out.known 8 (by omega) l8] at g8
                simp [maK] at g8
                clear l8
                go_simp
                exact ⟨_, rfl, HI.out.skip 9 (by omega) _ rfl⟩
              · simp only [List.getElem?_cons_zero, List.getElem?_cons_succ, Option.some.injEq] at ho
                subst ho
                have l9 : L.getD 9 false = true := HD.out ⟨9, .data⟩ (by simp) rfl
                have g9 := hh.got 9 _ 101 rfl rfl l9 (by simp)
                rw [HI.out.known 9 (by omega) l9] at g9
                simp [maK] at g9
                clear l9
                go_simp
                exact ⟨_, rfl, HI.out.skip 10 (by omega) _ rfl⟩
              · simp only [List.getElem?_cons_zero, List.getElem?_cons_succ, Option.some.injEq] at ho
                subst ho
                have l5 : L.getD 5 false = true := HD.out ⟨5, .data⟩ (by simp) rfl
                have g5 := hh.got 5 _ 97 rfl rfl l5 (by simp)
                rw [HI.out.known 5 (by omega) l5] at g5
                simp [maK] at g5
                have l10 : L.getD 10 false = true := HD.out ⟨10, .data⟩ (by simp) rfl
                have g10 := hh.got 10 _ 102 rfl rfl l10 (by simp)
                rw [HI.out.known 10 (by omega) l10] at g10
                simp [maK] at g10
                clear l5 l10
                go_simp
                exact ⟨_, rfl, HI.out.skip 11 (by omega) _ rfl⟩
              · simp only [List.getElem?_cons_zero, List.getElem?_cons_succ, Option.some.injEq] at ho
                subst ho
                have l11 : L.getD 11 false = true := HD.out ⟨11, .data⟩ (by simp) rfl
                have g11 := hh.got 11 _ 103 rfl rfl l11 (by simp)
                rw [HI.out.known 11 (by omega) l11] at g11
                simp [maK] at g11
                clear l11
                go_simp
                exact ⟨_, rfl, HI.out.make (by omega) HLF.out⟩
              · simp only [List.getElem?_cons_zero, List.getElem?_cons_succ, Option.some.injEq] at ho
                subst ho
                have l0 : L.getD 0 false = true := HD.out ⟨0, .data⟩ (by simp) rfl
                have l12 : L.getD 12 false = true := HD.out ⟨12, .data⟩ (by simp) rfl
                have e0 : b'.eval (.tmp 92) = _ := (hh.got 0 _ 92 rfl rfl l0 (by simp)).trans (HI.out.known 0 (by omega) l0)
                have ep : b'.eval (.tmp 104) = val 12 := hh.got 12 _ 104 rfl rfl l12 (by simp)
                simp only [maK] at e0
                obtain ⟨v', w', hr, hw'⟩ := HI.out.app el_K (by decide) rfl HONE.out (by omega) HLF.out l12 (by omega) 73
                unfold Oper.wp execOp
                simp only [resolve, invoke, builtin, Sem.run_bind, Sem.run_pure, Result.andThen_ok, List.map_toArray, List.map_cons, List.map_nil, e0, ep, hr]
                exact ⟨_, rfl, hw'⟩
              · simp only [List.getElem?_cons_zero, List.getElem?_cons_succ, Option.some.injEq] at ho
                subst ho
                have l13 : L.getD 13 false = true := HD.out ⟨13, .data⟩ (by simp) rfl
                have g13 := hh.got 13 _ 105 rfl rfl l13 (by simp)
                go_simp
                exact ⟨_, rfl, HI.out.asg (by omega) l13⟩
          · obtain rfl : j = m := by omega
            have hro2 := HRO.out
            rw [List.take_of_length_le (by rw [← HM.out]; exact Nat.le_refl _)] at hro2
            have HTO := Lib.hid (show MrksAt wr (.slice va j vc) ms by
              have h := hro2
              have e := HM.out
              have h3 : wr.ownsRow wo.heap.size 76 2 (.slice va j vc) ms.length (mrkCs ms) := by rw [← e]; exact h
              exact mrkAt_of_owns h3)
            have HA7 := Lib.hid ((HBJ.out.block NA (lt_of_block HA6.out)).trans HA6.out)
            have HD7 := Lib.hid ((HBJ.out.block NB (lt_of_block HD6.out)).trans HD6.out)
            have hzz : w.heap.size ≤ wr.heap.size := HBW.out.size
            clear hlt hj hro2 HRO HA6 HD6 HB6
            go_wp2_with (fail)
            go_at_call 32
            refine (HP.out _ _ _ HTO.out).mono ?_
            rintro e W8 ⟨v, rfl, ⟨a6, c6, b6, d6, rfl, hp6, hs6⟩, hb8⟩
            have HPA := Lib.hid hp6
            have HSA := Lib.hid hs6
            rw [← HP2.out] at HPA
            rw [← HS2.out] at HSA
            rw [← HP2.out, ← HS2.out]
            have HB8 := Lib.hid (HBW.out.trans (hb8.mono hzz))
            have HA8 := Lib.hid ((hb8.block NA (lt_of_block HA7.out)).trans HA7.out)
            have HD8 := Lib.hid ((hb8.block NB (lt_of_block HD7.out)).trans HD7.out)
            obtain ⟨y0, y1, y2⟩ := cells3 HA8.out
            have yf0 : W8.frozen? ⟨NA, 0, none⟩ = false := by simp [World.frozen?, HA8.out]
            have yf1 : W8.frozen? ⟨NA, 1, none⟩ = false := by simp [World.frozen?, HA8.out]
            have yf2 : W8.frozen? ⟨NA, 2, none⟩ = false := by simp [World.frozen?, HA8.out]
            clear hp6 hs6 hb8 HA7 HD7
            go_upto_region 18 with (fail)
            have hs3 := set3 HA8.out (.slice a6 P2 c6) (.int .i64 N2.inp) (.slice b6 S2 d6)
            have hb9 := hs3.2.2 _ _ hNAw HB8.out
            have hd9 := (hs3.2.1 NB (fun e => hAB e.symm)).trans HD8.out
            have hsz9 : (((W8.setCell ⟨NA, 0, none⟩ (.slice a6 P2 c6)).setCell ⟨NA, 1, none⟩ (.int .i64 N2.inp)).setCell ⟨NA, 2, none⟩ (.slice b6 S2 d6)).heap.size = W8.heap.size := by simp only [setCell_sz]
            have hna9 := hs3.1
            have hoth9 := hs3.2.1
            generalize ((W8.setCell ⟨NA, 0, none⟩ (.slice a6 P2 c6)).setCell ⟨NA, 1, none⟩ (.int .i64 N2.inp)).setCell ⟨NA, 2, none⟩ (.slice b6 S2 d6) = W9 at *
            have HPA9 := Lib.hid (psAt_set HPA.out HA8.out hoth9 hsz9)
            have HSA9 := Lib.hid (ssAt_set HSA.out HA8.out hoth9 hsz9)
            have HB9 := Lib.hid hb9
            have HA9 := Lib.hid hna9
            have HD9 := Lib.hid hd9
            have hz9 : w.heap.size ≤ W9.heap.size := hb9.size
            clear hs3 hb9 hd9 hsz9 hna9 hoth9 HPA HSA HB8 HA8 HD8 y0 y1 y2 yf0 yf1 yf2 HBW HBJ HTO hzz
            go_wp2_with (fail)
            go_at_call 33
            refine (HRP.out _ (HMA.out.below HB9.out)).mono ?_
            rintro e W10 ⟨v, rfl, ⟨a9, c9, b9, d9, rfl, hp10, hs10⟩, hb10⟩
            have HPB := Lib.hid hp10
            have HSB := Lib.hid hs10
            rw [← HP2.out] at HPB
            rw [← HS2.out] at HSB
            rw [← HP2.out, ← HS2.out]
            have HPA10 := Lib.hid (HPA9.out.below hb10)
            have HSA10 := Lib.hid (HSA9.out.below hb10)
            have HB10 := Lib.hid (HB9.out.trans (hb10.mono hz9))
            have HA10 := Lib.hid ((hb10.block NA (lt_of_block HA9.out)).trans HA9.out)
            have HD10 := Lib.hid ((hb10.block NB (lt_of_block HD9.out)).trans HD9.out)
            obtain ⟨y0, y1, y2⟩ := cells3 HD10.out
            have yf0 : W10.frozen? ⟨NB, 0, none⟩ = false := by simp [World.frozen?, HD10.out]
            have yf1 : W10.frozen? ⟨NB, 1, none⟩ = false := by simp [World.frozen?, HD10.out]
            have yf2 : W10.frozen? ⟨NB, 2, none⟩ = false := by simp [World.frozen?, HD10.out]
            clear hp10 hs10 hb10 HPA9 HSA9 HA9 HD9 HB9 hz9
            go_upto_region 19 with (fail)
            have hs3 := set3 HD10.out (.slice a9 P2 c9) (.int .i64 N2.inp) (.slice b9 S2 d9)
            have hb11 := hs3.2.2 _ _ hNBw HB10.out
            have ha11 := (hs3.2.1 NA hAB).trans HA10.out
            have hsz11 : (((W10.setCell ⟨NB, 0, none⟩ (.slice a9 P2 c9)).setCell ⟨NB, 1, none⟩ (.int .i64 N2.inp)).setCell ⟨NB, 2, none⟩ (.slice b9 S2 d9)).heap.size = W10.heap.size := by simp only [setCell_sz]
            have hnb11 := hs3.1
            have hoth11 := hs3.2.1
            generalize ((W10.setCell ⟨NB, 0, none⟩ (.slice a9 P2 c9)).setCell ⟨NB, 1, none⟩ (.int .i64 N2.inp)).setCell ⟨NB, 2, none⟩ (.slice b9 S2 d9) = W11 at *
            have Q1 := Lib.hid (psAt_set HPA10.out HD10.out hoth11 hsz11)
            have Q2 := Lib.hid (ssAt_set HSA10.out HD10.out hoth11 hsz11)
            have Q3 := Lib.hid (psAt_set HPB.out HD10.out hoth11 hsz11)
            have Q4 := Lib.hid (ssAt_set HSB.out HD10.out hoth11 hsz11)
            have HB11 := Lib.hid hb11
            obtain ⟨z0, z1, z2⟩ := cells3 ha11
            obtain ⟨x0, x1, x2⟩ := cells3 hnb11
            clear hs3 hb11 ha11 hsz11 hnb11 hoth11 HPA10 HSA10 HPB HSB HB10 HA10 HD10 y0 y1 y2 yf0 yf1 yf2
            go_wp2_with (fail)
            go_at_call 17
            refine (HNB.out _ _ _ _ _ _ _ _ _ Q1.out Q2.out Q3.out Q4.out).mono ?_
            rintro e W12 ⟨rfl, hb12⟩
            have HB12 := Lib.hid (HB11.out.trans (hb12.mono HB11.out.size))
            clear hb12 Q1 Q2 Q3 Q4 HB11 x0 x1 x2 z0 z1 z2
            go_wp2_with (fail)
            go_at_call 13
            refine (works_any _).mono ?_
            rintro e W13 ⟨rfl, hb13⟩
            have HB13 := Lib.hid (HB12.out.trans (hb13.mono HB12.out.size))
            clear hb13
            go_wp2
            go_ret
            exact ⟨rfl, HB13.out⟩

theorem walk (a0 : Int) (l : List Tap) (sa : Option Addr) (ca : Nat) (a2 : Int) (ms : List Mrk) (sb : Option Addr) (cb : Nat) (a4 : Int) (w4 : (Lit.int .i64 a4).wf = true) (hwf : ∀ s ∈ ms, (Lit.int .i64 s.ip).wf = true ∧ (Lit.int .i64 s.of).wf = true) (w : World) (hT : TapsAt w (.slice sa l.length ca) l) (hM : MrksAt w (.slice sb ms.length cb) ms) :
    Calls Try.prog 5 #[.int .i64 a0, .slice sa l.length ca, .int .i64 a2, .slice sb ms.length cb, .int .i64 a4] w fun e w' => e = .returned (.bool true) ∧ Below w.heap.size w w' := by
  have T : ∀ {p : Prop}, p → p = True := fun h => by simp [h]
  have F : ∀ {p : Prop}, ¬ p → p = False := fun h => by simp [h]
  by_cases h1 : (60 : Int) < (l.length : Int) ∧ (l.length : Int) ≤ 512
  · exact early _ _ _ _ _ _ _ _ _ w (.inl ⟨T h1.1, T h1.2⟩)
  · have hg : (((60 : Int) < (l.length : Int)) = False ∨ (((60 : Int) < (l.length : Int)) = True ∧ ((l.length : Int) ≤ 512) = False)) := by
      by_cases h2 : (60 : Int) < (l.length : Int)
      · exact .inr ⟨T h2, F fun h => h1 ⟨h2, h⟩⟩
      · exact .inl (F h2)
    by_cases h3 : (520 : Int) < (l.length : Int)
    · exact early _ _ _ _ _ _ _ _ _ w (.inr ⟨hg, .inl (T h3)⟩)
    · by_cases h4 : (70 : Int) < (ms.length : Int)
      · exact early _ _ _ _ _ _ _ _ _ w (.inr ⟨hg, .inr ⟨F h3, T h4⟩⟩)
      · exact main _ _ l ms rfl rfl (by omega) (by omega) sa sb ca cb a0 a2 a4 w4 hwf w hT hM (F h3) (F h4) hg

set_option maxRecDepth 100000 in
theorem lifted (os : Os) (started : os.Started) (H : Type) (enc : TypeId × Value → H) :
    ReturnsInHanded {} Try.checked os 5 .any (Rows.motifFiltersSpec.pre6 enc Try.prog Try.f5 Rows.motifFiltersRow.domain false) (Rows.motifFiltersSpec.post enc Try.prog Try.f5 false true false false) := by
  refine returnsInHanded_of_change (C := Try.checked) own started (by kernel_rfl) Try.func5
    (ChangeSpec.witness6 (enc := enc) (C := Try.checked) false ⟨#[], #[.int .i64 0, .slice none 0 0, .int .i64 0, .slice none 0 0, .int .i64 0], []⟩ 8 (by kernel_rfl) (by kernel_rfl) (by kernel_rfl) (by kernel_rfl)) ?_
  intro W base args ds gs before hval0 hW hcnd hsz
  have hval : ∀ (j : Nat) t v, Try.f5.params[j]? = some t → args[j]? = some v → Value.okWide Try.prog W .any base t v := hval0
  have hW' := hW
  obtain ⟨p, q, hA0, hV, rfl, hfz, hnd⟩ := hW
  have hA : DataW.TrodAll enc Try.prog W 0 (fun _ => true) true Try.f5.params.toList args.toList ds p := hA0
  rw [Try.params5] at hA hval
  have hAll := hA
  obtain ⟨v0, vs0, d0, ds0, p0, q0, hargs, rfl, rfl, h0, r0⟩ := trodAll_cons hA
  obtain ⟨v1, vs1, d1, ds1, p1, q1, rfl, rfl, rfl, h1, r1⟩ := trodAll_cons r0
  obtain ⟨v2, vs2, d2, ds2, p2, q2, rfl, rfl, rfl, h2, r2⟩ := trodAll_cons r1
  obtain ⟨v3, vs3, d3, ds3, p3, q3, rfl, rfl, rfl, h3, r3⟩ := trodAll_cons r2
  obtain ⟨v4, vs4, d4, ds4, p4, q4, rfl, rfl, rfl, h4, r4⟩ := trodAll_cons r3
  obtain ⟨rfl, rfl, rfl⟩ := trodAll_nil r4
  obtain rfl : args = #[v0, v1, v2, v3, v4] := by cases args; simp_all
  obtain ⟨rfl, rfl⟩ := trodVars_none hV
  obtain ⟨a0, rfl, rfl, rfl, w0⟩ := open_int Try.underlying3 (hval 0 3 v0 rfl rfl) h0
  obtain ⟨a2, rfl, rfl, rfl, w2⟩ := open_int Try.underlying3 (hval 2 3 v2 rfl rfl) h2
  obtain ⟨a4, rfl, rfl, rfl, w4⟩ := open_int Try.underlying3 (hval 4 3 v4 rfl rfl) h4
  obtain ⟨l1, a1', c1, rfl, hS1, _, _⟩ := open_Taps (hval 1 65 v1 rfl rfl) h1
  obtain ⟨l3, a3', c3, rfl, hS3, _, hwf3⟩ := open_Mrks (hval 3 66 v3 rfl rfl) h3
  clear hA0 hval0
  refine (walk a0 l1 a1' c1 a2 l3 a3' c3 a4 w4 hwf3 W hS1 hS3).mono fun e W' ⟨he, bel⟩ => ?_
  subst he
  have hback := trodAll_below bel [3, 65, 3, 66, 3] (by intro t ht; simp at ht; rcases ht with rfl | rfl | rfl | rfl | rfl <;> exact ⟨by kernel_rfl, of_decide_eq_true (by kernel_rfl)⟩) hAll
  exact ⟨_, rfl, _, _, _, [], _, [], hW', trodAll_mk1 (shut_bool Try.underlying4 _), hback, rfl, bel.frame _, fun h => by cases h⟩

theorem over : Rows.motifFiltersRow.holds Try.pinned (OpenSpec.ofChange Rows.motifFiltersSpec) :=
  OpenClaim.holds_of_wide 5 Try.f5 rfl rfl rfl rfl rfl rfl rfl ⟨rfl, rfl, rfl, rfl, rfl⟩ rfl rfl rfl rfl rfl (by kernel_rfl) Try.func5 (by kernel_rfl)
    (of_decide_eq_true (by kernel_rfl)) (by unfold Func.isWrapper; first | (rw [if_pos (by decide +kernel)]; kernel_rfl) | (rw [if_neg (by decide +kernel)]; exact ⟨rfl, rfl⟩))
    (fun os started H enc _ => lifted os started H enc)

theorem proved : Rows.MotifFiltersSaid := over

end Go.Proofs.Ytmgdildbngbibaa.motifFilters
