/- isFirst. Over this seat's program; the conditions are named. -/
import Derived.Test.YtnbndciididpoaaGreatVq
import Derived.Sort.QuietIn
import Derived.BigRegion
namespace Go.Proofs.YtnbndciididpoaaGreat
set_option linter.unusedVariables false
open Go.RowKit Go.Shelf
attribute [local go_sem] Oper.semAt_some

/-- What isFirst's loop holds: P: the cell of the first neuron's tick, Q: of the others'. -/
def FstI (c : Clm) (na : Option Addr) (K nc : Nat) (ow : List Evx) (w : World) (P Q : Nat) (k : Nat) (A : World) : Prop :=
  A.heap[w.heap.size]? = some (.cells #[.int .i64 c.kd, .slice na K nc, .int .i64 c.fr, .int .i64 c.to, .int .i64 c.lo, .int .i64 c.hi] 50) ∧
  A.heap[P]? = some (.cells #[.int .i64 (mnT c.to ((ow.take k).filter fun x => decide (x.id = n0 c)))] 3) ∧ A.heap[Q]? = some (.cells #[.int .i64 (mnT c.to ((ow.take k).filter fun x => !decide (x.id = n0 c)))] 3) ∧ Below w.heap.size w A
theorem FstI.stab {c : Clm} {na : Option Addr} {K nc : Nat} {ow : List Evx} {w : World} {P Q N : Nat} (hN : w.heap.size < N) (hP : P < N) (hQ : Q < N) {G : Nat → Prop} {k : Nat} {A A' : World} (h : FstI c na K nc ow w P Q k A) (hb : Bel (fun b => N ≤ b ∧ ¬ G b) A.heap.size A A') : FstI c na K nc ow w P Q k A' :=
  ⟨(hb.block _ (lt_of_block h.1) (by omega)).trans h.1, (hb.block _ (lt_of_block h.2.1) (by omega)).trans h.2.1, (hb.block _ (lt_of_block h.2.2.1) (by omega)).trans h.2.2.1, h.2.2.2.trans (hb.below (by have := lt_of_block h.1; omega) (fun b h => by omega))⟩
/-- The values of the region that asks whose spike it is. -/
def fr4 (A W : Nat) (g off K nc : Nat) (Y m : Int) (B : Bool) : Nat → Value
  | 0 => .pointer (some ⟨A, 1, none⟩)
  | 1 => .int .i64 Y
  | 2 => .pointer (some ⟨W, 1, none⟩)
  | 3 => .slice (some ⟨g, off, none⟩) K nc
  | 4 => .pointer (some ⟨g, off, none⟩)
  | 5 => .int .i64 m
  | 6 => .bool B
  | _ => undef
attribute [local go_sem high] run_min2v
set_option maxRecDepth 100000 in
set_option maxHeartbeats 4000000 in
theorem first_in (c : Clm) (h : ClmOk c) (hne : c.ns ≠ []) (na : Option Addr) (K nc : Nat) (hK : K = c.ns.length) (sp : List Evx) (n sc : Nat) (sa : Option Addr) (hn : n = sp.length) (hl : n ≤ 10000) (hv : ∀ x ∈ sp, (Lit.int .i64 x.id).wf = true) (w : World)
    (hkn : KAt .i64 w (.slice na K nc) c.ns) (hks : EvxsAt w (.slice sa n sc) sp) :
    CallsIn Fence.wide 0 Tryz.prog 117 #[.agg #[.int .i64 c.kd, .slice na K nc, .int .i64 c.fr, .int .i64 c.to, .int .i64 c.lo, .int .i64 c.hi], .slice sa n sc] w fun e w' => e = .returned (.bool (firstB c sp)) ∧ Below w.heap.size w w' := by
  refine callsIn_of_wp_marks Tryz.func117 rfl trivial ?_ rfl
  simp only [Tryz.ntmps117, List.size_toArray, List.length_cons, List.length_nil, Nat.reduceAdd, Nat.reduceSub, Array.replicate_succ, Array.replicate_zero, List.push_toArray, List.append_toArray, List.nil_append, List.cons_append]
  have HOW := Lib.hid (fun W => own_any (.int .i64 c.kd) (.int .i64 c.fr) (.int .i64 c.to) (.int .i64 c.lo) (.int .i64 c.hi) (.slice na K nc) (.slice sa n sc) W ⟨_, _, _, rfl⟩ ⟨_, _, _, rfl⟩ ⟨_, rfl⟩ ⟨_, rfl⟩ ⟨_, rfl⟩ ⟨_, rfl⟩ ⟨_, rfl⟩)
  have HH := Lib.hid h
  have HKL := Lib.hid hK
  have HN := Lib.hid hn
  have HV := Lib.hid hv
  have HKN := Lib.hid hkn
  have HKS := Lib.hid hks
  have HNE := Lib.hid hne
  clear h hK hn hv hkn hks hne
  refine wpIn_wide.2 ?_
  go_upto_region 1 with (fail)
  have hbx : (w.alloc (.cells #[.int .i64 c.kd, .slice na K nc, .int .i64 c.fr, .int .i64 c.to, .int .i64 c.lo, .int .i64 c.hi] 50)).heap[w.heap.size]? = some (.cells #[.int .i64 c.kd, .slice na K nc, .int .i64 c.fr, .int .i64 c.to, .int .i64 c.lo, .int .i64 c.hi] 50) := alloc_new_at _ _ _ rfl
  have hb1 := (Below.refl w.heap.size w).alloc (Nat.le_refl _) (.cells #[.int .i64 c.kd, .slice na K nc, .int .i64 c.fr, .int .i64 c.to, .int .i64 c.lo, .int .i64 c.hi] 50)
  generalize w.alloc (.cells #[.int .i64 c.kd, .slice na K nc, .int .i64 c.fr, .int .i64 c.to, .int .i64 c.lo, .int .i64 c.hi] 50) = W1 at *
  obtain ⟨x0, x1, x2, x3, x4, x5⟩ := cells6 hbx
  have hbl := lt_of_block hbx
  have HBX := Lib.hid hbx
  have HB1 := Lib.hid hb1
  clear hbx hb1
  go_region
  · have p2 : ((W1.alloc (.cells #[.int .i64 c.to] 3)).alloc (.cells #[.int .i64 c.to] 3)).drew.heap[W1.heap.size]? = some (.cells #[.int .i64 c.to] 3) := (Below.heap_alloc _ _ _ (by simp)).trans (alloc_new_at _ _ _ rfl)
    have q2 : ((W1.alloc (.cells #[.int .i64 c.to] 3)).alloc (.cells #[.int .i64 c.to] 3)).drew.heap[W1.heap.size + 1]? = some (.cells #[.int .i64 c.to] 3) := alloc_new_at _ _ _ (by simp)
    obtain ⟨P, hP⟩ : ∃ P, P = W1.heap.size := ⟨_, rfl⟩
    obtain ⟨Q, hQ⟩ : ∃ Q, Q = W1.heap.size + 1 := ⟨_, rfl⟩
    rw [← hP] at p2
    rw [← hQ] at q2 ⊢
    rw [← hP]
    have hpq : P ≠ Q := by omega
    have hPw : w.heap.size < P := by omega
    have hQw : w.heap.size < Q := by omega
    have hb2 : Below w.heap.size w ((W1.alloc (.cells #[.int .i64 c.to] 3)).alloc (.cells #[.int .i64 c.to] 3)).drew := ((HB1.out.alloc HB1.out.size _).alloc (by simp; have := HB1.out.size; omega) _).drew
    have hx2 : ((W1.alloc (.cells #[.int .i64 c.to] 3)).alloc (.cells #[.int .i64 c.to] 3)).drew.heap[w.heap.size]? = some (.cells #[.int .i64 c.kd, .slice na K nc, .int .i64 c.fr, .int .i64 c.to, .int .i64 c.lo, .int .i64 c.hi] 50) := by
      show ((W1.alloc (.cells #[.int .i64 c.to] 3)).alloc (.cells #[.int .i64 c.to] 3)).heap[w.heap.size]? = _
      rw [Below.heap_alloc _ _ _ (by simp; omega), Below.heap_alloc _ _ _ hbl]; exact HBX.out
    clear hP hQ x0 x1 x2 x3 x4 x5 HBX HB1
    generalize ((W1.alloc (.cells #[.int .i64 c.to] 3)).alloc (.cells #[.int .i64 c.to] 3)).drew = W2 at *
    have HP2 := Lib.hid p2
    have HQ2 := Lib.hid q2
    have HX2 := Lib.hid hx2
    have HB2 := Lib.hid hb2
    obtain ⟨x0, x1, x2, x3, x4, x5⟩ := cells6 hx2
    have hxl := lt_of_block hx2
    clear p2 q2 hx2 hb2
    go_wp2_with (fail)
    go_at_call 162
    refine (HOW.out _).mono ?_
    rintro e w1 ⟨cb, sb, rfl, g1, g2, hb1⟩
    have p1 := (hb1.block _ (lt_of_block HP2.out)).trans HP2.out
    have q1 := (hb1.block _ (lt_of_block HQ2.out)).trans HQ2.out
    have hx1 := (hb1.block _ (lt_of_block HX2.out)).trans HX2.out
    have hb0 : Below w.heap.size w w1 := HB2.out.trans (hb1.mono HB2.out.size)
    have hG := own1_gives c HH.out na K nc HKL.out sp n sc sa HN.out hl HV.out cb sb w1 g1 g2 (HKN.out.below hb0) (HKS.out.below hb0)
    have hcap : ∀ b, (b = cb ∨ b = sb ∨ dataB (.slice na K nc) b ∨ dataB (.slice sa n sc) b) → b < w1.heap.size ∧ b ≠ P ∧ b ≠ Q := by
      rintro b (rfl | rfl | hb | hb)
      · exact ⟨lt_of_block g1, fun e => by rw [e, p1] at g1; simp at g1, fun e => by rw [e, q1] at g1; simp at g1⟩
      · exact ⟨lt_of_block g2, fun e => by rw [e, p1] at g2; simp at g2, fun e => by rw [e, q1] at g2; simp at g2⟩
      · have := HKN.out.lt hb; have := hb0.size; omega
      · have := HKS.out.lt hb; have := hb0.size; omega
    have hzP : P < w1.heap.size := lt_of_block p1
    have hzQ : Q < w1.heap.size := lt_of_block q1
    have HKB := Lib.hid (HKN.out.below hb0)
    have HB0 := Lib.hid hb0
    have HCI := Lib.hid (show FstI c na K nc (ownL c sp) w P Q 0 w1 from ⟨hx1, p1, q1, hb0⟩)
    have HCAP := Lib.hid hcap
    have HG := Lib.hid hG
    clear p1 q1 hx1 hb0 hb1 g1 g2 hcap hG x0 x1 x2 x3 x4 x5
    go_wp2
    refine (wpIn_wide (n := 0)).1 ?_
    refine wp_range1 (gf := 198) rfl enters_own1 HG.out (Nat.le_refl _) (fun b hb => ⟨(HCAP.out b hb).1, rfl⟩) (fun _ => rfl) (fun b => b = P ∨ b = Q)
      (fun b hb => ⟨fun hc => by have := (HCAP.out b hc).2; omega, by omega⟩) (fun G k A => FstI c na K nc (ownL c sp) w P Q k A) (fun _ _ _ _ => False) (fun G k A A' hi hb => hi.stab (N := w1.heap.size) (by omega) hzP hzQ hb) (fun _ _ _ _ _ hi _ => hi) HCI.out ?hround ?hdone ?hstop
    case hstop =>
      intro D c G k W' _ _ _ _ hi _
      exact hi.elim
    case hdone =>
      rintro D G W' hD hnG hGb ⟨h1, h2, h3, h4⟩ hK
      obtain ⟨y0, _⟩ := cells1 h2
      obtain ⟨z0, _⟩ := cells1 h3
      have hl2 := lt_of_block h2
      have hl3 := lt_of_block h3
      rw [List.take_length] at y0 z0
      have H4 := Lib.hid h4
      have HK := Lib.hid hK
      clear h1 h2 h3 h4 hK
      go_wp2
      refine ⟨by simp, .inl ⟨_, _, rfl, run_takeDeferred HK.out, .bool (firstB c sp), ?_, ?_⟩⟩
      · simp [results, Tryz.results117, go_sem]; rfl
      · exact ⟨rfl, H4.out.trans ⟨rfl, rfl, rfl, by simp, fun b hb => World.putObj_heap_other (by omega)⟩⟩
    case hround =>
      rintro l2 G k ⟨X, Y⟩ A hl2 hGb hszA hIk hx
      have hsn : (ownL c sp).take (k + 1) = (ownL c sp).take k ++ [⟨X, Y⟩] := by rw [List.take_add_one, hx]; rfl
      have HSN := Lib.hid hsn
      clear hx hsn
      simp only [evEnc]
      gi_wp2
      refine ⟨(Bel.refl _ _ _).alloc (Nat.le_refl _) _, ?_⟩
      rintro W3 hsW ⟨h1, h2, h3, h4⟩
      have bA : W3.heap[A.heap.size]? = some (.cells #[.int .i64 X, .int .i64 Y] 76) := (hsW.cells _ ⟨_, _, _, World.alloc_heap_new _ _⟩).trans (World.alloc_heap_new _ _)
      have hs3 : A.heap.size < W3.heap.size := lt_of_block bA
      obtain ⟨a0, a1, _, _⟩ := cells2 bA
      obtain ⟨x0, x1, x2, x3, x4, x5⟩ := cells6 h1
      obtain ⟨y0, yf⟩ := cells1 h2
      obtain ⟨z0, zf⟩ := cells1 h3
      have hxl := lt_of_block h1
      have hnp : 0 < c.ns.length := List.length_pos_iff.2 HNE.out
      have hn0 : c.ns[0]? = some (n0 c) := by unfold n0; rw [List.getElem?_eq_getElem hnp]; rfl
      have hKp : (0 : Int) < (K : Int) := by have := HKL.out; omega
      have hKq : 0 < K := by omega
      obtain ⟨g, off, hge, hgl, hcell⟩ := (HKN.out.below h4).at hn0
      have hw1A : w1.heap.size ≤ A.heap.size := hszA
      obtain ⟨m0, hm0⟩ : ∃ m, m = mnT c.to (((ownL c sp).take k).filter fun x => decide (x.id = n0 c)) := ⟨_, rfl⟩
      obtain ⟨m1, hm1⟩ : ∃ m, m = mnT c.to (((ownL c sp).take k).filter fun x => !decide (x.id = n0 c)) := ⟨_, rfl⟩
      rw [← hm0] at y0 h2
      rw [← hm1] at z0 h3
      rw [Nat.add_zero] at hcell
      subst hge
      have HM0 := Lib.hid hm0
      have HM1 := Lib.hid hm1
      have HH1 := Lib.hid h1
      have HH2 := Lib.hid h2
      have HH3 := Lib.hid h3
      have HH4 := Lib.hid h4
      have HA := Lib.hid bA
      clear hm0 hm1 h1 h2 h3 h4 bA hIk hsW hn0
      by_cases hY : Y = n0 c
      · skip
        have hs0 : mnT c.to (((ownL c sp).take (k + 1)).filter fun x => decide (x.id = n0 c)) = min m0 X := by
          rw [HSN.out, List.filter_append]
          rw [show List.filter (fun x : Evx => decide (x.id = n0 c)) [⟨X, Y⟩] = [⟨X, Y⟩] from by simp [hY], mnT_snoc, ← HM0.out]
        have hs1 : mnT c.to (((ownL c sp).take (k + 1)).filter fun x => !decide (x.id = n0 c)) = m1 := by
          rw [HSN.out, List.filter_append]
          rw [show List.filter (fun x : Evx => !decide (x.id = n0 c)) [⟨X, Y⟩] = [] from by simp [hY], List.append_nil, ← HM1.out]
        have HS0 := Lib.hid hs0
        have HS1 := Lib.hid hs1
        have ge : (Y == n0 c) = true := by simp [hY]
        have ge2 : (Y = n0 c) = True := by simp [hY]
        clear hs0 hs1 hY
        gi_upto_region 4 with (fail)
        refine wpIn_region_vals' (fr4 A.heap.size w.heap.size g off K nc Y (n0 c) true) (fun _ W => W = W3.drew) (by kernel_rfl) (by kernel_rfl) (by kernel_rfl) (by kernel_rfl) rfl ?stptrue ?dntrue
        case stptrue =>
          intro L W1 i o b' hs ho hI hh
          have hi := (List.getElem?_eq_some_iff.1 ho).1
          have hc : i = 0 ∨ i = 1 ∨ i = 2 ∨ i = 3 ∨ i = 4 ∨ i = 5 ∨ i = 6 := by simp at hi; omega
          obtain rfl : W1 = W3.drew := hI
          have a1 : W3.drew.cell? ⟨A.heap.size, 1, none⟩ = some (.int .i64 Y) := a1
          have x1 : W3.drew.cell? ⟨w.heap.size, 1, none⟩ = some (.slice (some ⟨g, off, none⟩) K nc) := x1
          have hcell : W3.drew.cell? ⟨g, off, none⟩ = some (.int .i64 (n0 c)) := hcell
          clear hi hs
          have k2 := hh.kept 2 (by simp)
          simp at k2
          have k7 := hh.kept 7 (by simp)
          simp at k7
          rcases hc with rfl | rfl | rfl | rfl | rfl | rfl | rfl
          · simp only [List.getElem?_cons_zero, Option.some.injEq] at ho
            subst ho
            go_simp
            first | done | exact rfl | exact ⟨rfl, rfl⟩
          · simp only [List.getElem?_cons_zero, List.getElem?_cons_succ, Option.some.injEq] at ho
            subst ho
            have g0 := hh.got 0 _ 16 rfl rfl ⟨⟨0, .data⟩, by simp, rfl, rfl⟩ (by simp)
            simp [fr4] at g0
            go_simp
            first | done | exact rfl | exact ⟨rfl, rfl⟩
          · simp only [List.getElem?_cons_zero, List.getElem?_cons_succ, Option.some.injEq] at ho
            subst ho
            go_simp
            first | done | exact rfl | exact ⟨rfl, rfl⟩
          · simp only [List.getElem?_cons_zero, List.getElem?_cons_succ, Option.some.injEq] at ho
            subst ho
            have g2 := hh.got 2 _ 18 rfl rfl ⟨⟨2, .data⟩, by simp, rfl, rfl⟩ (by simp)
            simp [fr4] at g2
            go_simp
            first | done | exact rfl | exact ⟨rfl, rfl⟩
          · simp only [List.getElem?_cons_zero, List.getElem?_cons_succ, Option.some.injEq] at ho
            subst ho
            have g3 := hh.got 3 _ 19 rfl rfl ⟨⟨3, .data⟩, by simp, rfl, rfl⟩ (by simp)
            simp [fr4] at g3
            go_simp
            first | done | exact rfl | exact ⟨rfl, rfl⟩
          · simp only [List.getElem?_cons_zero, List.getElem?_cons_succ, Option.some.injEq] at ho
            subst ho
            have g4 := hh.got 4 _ 20 rfl rfl ⟨⟨4, .data⟩, by simp, rfl, rfl⟩ (by simp)
            simp [fr4] at g4
            go_simp
            first | done | exact rfl | exact ⟨rfl, rfl⟩
          · simp only [List.getElem?_cons_zero, List.getElem?_cons_succ, Option.some.injEq] at ho
            subst ho
            have g1 := hh.got 1 _ 17 rfl rfl ⟨⟨1, .data⟩, by simp, rfl, rfl⟩ (by simp)
            have g5 := hh.got 5 _ 21 rfl rfl ⟨⟨5, .data⟩, by simp, rfl, rfl⟩ (by simp)
            simp [fr4] at g1 g5
            go_simp
            first | done | exact rfl | exact ⟨rfl, rfl⟩
        intro W4 b' hI hh hbs
        obtain rfl : W4 = W3.drew := hI
        have hb := has_all (by kernel_rfl) hh hbs
        simp only [puts, fr4] at hb
        subst hb
        simp only [Act.put, List.setIfInBounds_toArray, List.set_cons_succ, List.set_cons_zero]
        have k1 : W3.drew.heap[w.heap.size]? = _ := HH1.out
        have k2 : W3.drew.heap[P]? = _ := HH2.out
        have k3 : W3.drew.heap[Q]? = _ := HH3.out
        have kA : W3.drew.heap[A.heap.size]? = _ := HA.out
        have kb := HH4.out.drew
        have kB : Bel (fun b => (b = P ∨ b = Q) ∨ G b) A.heap.size W3 W3.drew := (Bel.refl _ _ _).drew
        clear a0 a1 x0 x1 x2 x3 x4 x5 y0 yf z0 zf hcell hxl
        generalize W3.drew = W4 at *
        obtain ⟨a0, a1, _, _⟩ := cells2 kA
        obtain ⟨y0, yf⟩ := cells1 k2
        have hsz4 := lt_of_block kA
        have K1 := Lib.hid k1
        have K2 := Lib.hid k2
        have K3 := Lib.hid k3
        have KB := Lib.hid kb
        have KBB := Lib.hid kB
        clear k1 k2 k3 kA kb kB ge ge2
        gi_wp2
        refine ⟨G, ⟨fun _ h => h, fun _ h => Or.inl h, fun b hb => by have := (hGb b hb).2; simp [World.setCell]; omega⟩, ⟨?_, ?_, ?_, ?_⟩, ?_⟩
        · exact (Below.heap_setCell _ _ _ _ (by show w.heap.size ≠ P; omega)).trans K1.out
        · rw [HS0.out]; exact set1_0 K2.out _
        · rw [HS1.out]; exact (Below.heap_setCell _ _ _ _ (by show Q ≠ P; omega)).trans K3.out
        · exact KB.out.setCell (p := ⟨P, 0, none⟩) (by show w.heap.size ≤ P; omega) _
        · exact KBB.out.setCell (p := ⟨P, 0, none⟩) (Or.inl (Or.inl (Or.inl rfl))) _
      · skip
        have hs0 : mnT c.to (((ownL c sp).take (k + 1)).filter fun x => decide (x.id = n0 c)) = m0 := by
          rw [HSN.out, List.filter_append]
          rw [show List.filter (fun x : Evx => decide (x.id = n0 c)) [⟨X, Y⟩] = [] from by simp [hY], List.append_nil, ← HM0.out]
        have hs1 : mnT c.to (((ownL c sp).take (k + 1)).filter fun x => !decide (x.id = n0 c)) = min m1 X := by
          rw [HSN.out, List.filter_append]
          rw [show List.filter (fun x : Evx => !decide (x.id = n0 c)) [⟨X, Y⟩] = [⟨X, Y⟩] from by simp [hY], mnT_snoc, ← HM1.out]
        have HS0 := Lib.hid hs0
        have HS1 := Lib.hid hs1
        have ge : (Y == n0 c) = false := by simp [hY]
        have ge2 : (Y = n0 c) = False := by simp [hY]
        clear hs0 hs1 hY
        gi_upto_region 4 with (fail)
        refine wpIn_region_vals' (fr4 A.heap.size w.heap.size g off K nc Y (n0 c) false) (fun _ W => W = W3.drew) (by kernel_rfl) (by kernel_rfl) (by kernel_rfl) (by kernel_rfl) rfl ?stpfalse ?dnfalse
        case stpfalse =>
          intro L W1 i o b' hs ho hI hh
          have hi := (List.getElem?_eq_some_iff.1 ho).1
          have hc : i = 0 ∨ i = 1 ∨ i = 2 ∨ i = 3 ∨ i = 4 ∨ i = 5 ∨ i = 6 := by simp at hi; omega
          obtain rfl : W1 = W3.drew := hI
          have a1 : W3.drew.cell? ⟨A.heap.size, 1, none⟩ = some (.int .i64 Y) := a1
          have x1 : W3.drew.cell? ⟨w.heap.size, 1, none⟩ = some (.slice (some ⟨g, off, none⟩) K nc) := x1
          have hcell : W3.drew.cell? ⟨g, off, none⟩ = some (.int .i64 (n0 c)) := hcell
          clear hi hs
          have k2 := hh.kept 2 (by simp)
          simp at k2
          have k7 := hh.kept 7 (by simp)
          simp at k7
          rcases hc with rfl | rfl | rfl | rfl | rfl | rfl | rfl
          · simp only [List.getElem?_cons_zero, Option.some.injEq] at ho
            subst ho
            go_simp
            first | done | exact rfl | exact ⟨rfl, rfl⟩
          · simp only [List.getElem?_cons_zero, List.getElem?_cons_succ, Option.some.injEq] at ho
            subst ho
            have g0 := hh.got 0 _ 16 rfl rfl ⟨⟨0, .data⟩, by simp, rfl, rfl⟩ (by simp)
            simp [fr4] at g0
            go_simp
            first | done | exact rfl | exact ⟨rfl, rfl⟩
          · simp only [List.getElem?_cons_zero, List.getElem?_cons_succ, Option.some.injEq] at ho
            subst ho
            go_simp
            first | done | exact rfl | exact ⟨rfl, rfl⟩
          · simp only [List.getElem?_cons_zero, List.getElem?_cons_succ, Option.some.injEq] at ho
            subst ho
            have g2 := hh.got 2 _ 18 rfl rfl ⟨⟨2, .data⟩, by simp, rfl, rfl⟩ (by simp)
            simp [fr4] at g2
            go_simp
            first | done | exact rfl | exact ⟨rfl, rfl⟩
          · simp only [List.getElem?_cons_zero, List.getElem?_cons_succ, Option.some.injEq] at ho
            subst ho
            have g3 := hh.got 3 _ 19 rfl rfl ⟨⟨3, .data⟩, by simp, rfl, rfl⟩ (by simp)
            simp [fr4] at g3
            go_simp
            first | done | exact rfl | exact ⟨rfl, rfl⟩
          · simp only [List.getElem?_cons_zero, List.getElem?_cons_succ, Option.some.injEq] at ho
            subst ho
            have g4 := hh.got 4 _ 20 rfl rfl ⟨⟨4, .data⟩, by simp, rfl, rfl⟩ (by simp)
            simp [fr4] at g4
            go_simp
            first | done | exact rfl | exact ⟨rfl, rfl⟩
          · simp only [List.getElem?_cons_zero, List.getElem?_cons_succ, Option.some.injEq] at ho
            subst ho
            have g1 := hh.got 1 _ 17 rfl rfl ⟨⟨1, .data⟩, by simp, rfl, rfl⟩ (by simp)
            have g5 := hh.got 5 _ 21 rfl rfl ⟨⟨5, .data⟩, by simp, rfl, rfl⟩ (by simp)
            simp [fr4] at g1 g5
            go_simp
            first | done | exact rfl | exact ⟨rfl, rfl⟩
        intro W4 b' hI hh hbs
        obtain rfl : W4 = W3.drew := hI
        have hb := has_all (by kernel_rfl) hh hbs
        simp only [puts, fr4] at hb
        subst hb
        simp only [Act.put, List.setIfInBounds_toArray, List.set_cons_succ, List.set_cons_zero]
        have k1 : W3.drew.heap[w.heap.size]? = _ := HH1.out
        have k2 : W3.drew.heap[P]? = _ := HH2.out
        have k3 : W3.drew.heap[Q]? = _ := HH3.out
        have kA : W3.drew.heap[A.heap.size]? = _ := HA.out
        have kb := HH4.out.drew
        have kB : Bel (fun b => (b = P ∨ b = Q) ∨ G b) A.heap.size W3 W3.drew := (Bel.refl _ _ _).drew
        clear a0 a1 x0 x1 x2 x3 x4 x5 y0 yf z0 zf hcell hxl
        generalize W3.drew = W4 at *
        obtain ⟨a0, a1, _, _⟩ := cells2 kA
        obtain ⟨z0, zf⟩ := cells1 k3
        have hsz4 := lt_of_block kA
        have K1 := Lib.hid k1
        have K2 := Lib.hid k2
        have K3 := Lib.hid k3
        have KB := Lib.hid kb
        have KBB := Lib.hid kB
        clear k1 k2 k3 kA kb kB ge ge2
        gi_wp2
        refine ⟨G, ⟨fun _ h => h, fun _ h => Or.inl h, fun b hb => by have := (hGb b hb).2; simp [World.setCell]; omega⟩, ⟨?_, ?_, ?_, ?_⟩, ?_⟩
        · exact (Below.heap_setCell _ _ _ _ (by show w.heap.size ≠ Q; omega)).trans K1.out
        · rw [HS0.out]; exact (Below.heap_setCell _ _ _ _ (by show P ≠ Q; omega)).trans K2.out
        · rw [HS1.out]; exact set1_0 K3.out _
        · exact KB.out.setCell (p := ⟨Q, 0, none⟩) (by show w.heap.size ≤ Q; omega) _
        · exact KBB.out.setCell (p := ⟨Q, 0, none⟩) (Or.inl (Or.inl (Or.inr rfl))) _
  · have q2 : ((W1.alloc (.cells #[.int .i64 c.to] 3)).alloc (.cells #[.int .i64 c.to] 3)).drew.heap[W1.heap.size]? = some (.cells #[.int .i64 c.to] 3) := (Below.heap_alloc _ _ _ (by simp)).trans (alloc_new_at _ _ _ rfl)
    have p2 : ((W1.alloc (.cells #[.int .i64 c.to] 3)).alloc (.cells #[.int .i64 c.to] 3)).drew.heap[W1.heap.size + 1]? = some (.cells #[.int .i64 c.to] 3) := alloc_new_at _ _ _ (by simp)
    obtain ⟨P, hP⟩ : ∃ P, P = W1.heap.size + 1 := ⟨_, rfl⟩
    obtain ⟨Q, hQ⟩ : ∃ Q, Q = W1.heap.size := ⟨_, rfl⟩
    rw [← hQ] at q2
    rw [← hP] at p2 ⊢
    rw [← hQ]
    have hpq : P ≠ Q := by omega
    have hPw : w.heap.size < P := by omega
    have hQw : w.heap.size < Q := by omega
    have hb2 : Below w.heap.size w ((W1.alloc (.cells #[.int .i64 c.to] 3)).alloc (.cells #[.int .i64 c.to] 3)).drew := ((HB1.out.alloc HB1.out.size _).alloc (by simp; have := HB1.out.size; omega) _).drew
    have hx2 : ((W1.alloc (.cells #[.int .i64 c.to] 3)).alloc (.cells #[.int .i64 c.to] 3)).drew.heap[w.heap.size]? = some (.cells #[.int .i64 c.kd, .slice na K nc, .int .i64 c.fr, .int .i64 c.to, .int .i64 c.lo, .int .i64 c.hi] 50) := by
      show ((W1.alloc (.cells #[.int .i64 c.to] 3)).alloc (.cells #[.int .i64 c.to] 3)).heap[w.heap.size]? = _
      rw [Below.heap_alloc _ _ _ (by simp; omega), Below.heap_alloc _ _ _ hbl]; exact HBX.out
    clear hP hQ x0 x1 x2 x3 x4 x5 HBX HB1
    generalize ((W1.alloc (.cells #[.int .i64 c.to] 3)).alloc (.cells #[.int .i64 c.to] 3)).drew = W2 at *
    have HP2 := Lib.hid p2
    have HQ2 := Lib.hid q2
    have HX2 := Lib.hid hx2
    have HB2 := Lib.hid hb2
    obtain ⟨x0, x1, x2, x3, x4, x5⟩ := cells6 hx2
    have hxl := lt_of_block hx2
    clear p2 q2 hx2 hb2
    go_wp2_with (fail)
    go_at_call 162
    refine (HOW.out _).mono ?_
    rintro e w1 ⟨cb, sb, rfl, g1, g2, hb1⟩
    have p1 := (hb1.block _ (lt_of_block HP2.out)).trans HP2.out
    have q1 := (hb1.block _ (lt_of_block HQ2.out)).trans HQ2.out
    have hx1 := (hb1.block _ (lt_of_block HX2.out)).trans HX2.out
    have hb0 : Below w.heap.size w w1 := HB2.out.trans (hb1.mono HB2.out.size)
    have hG := own1_gives c HH.out na K nc HKL.out sp n sc sa HN.out hl HV.out cb sb w1 g1 g2 (HKN.out.below hb0) (HKS.out.below hb0)
    have hcap : ∀ b, (b = cb ∨ b = sb ∨ dataB (.slice na K nc) b ∨ dataB (.slice sa n sc) b) → b < w1.heap.size ∧ b ≠ P ∧ b ≠ Q := by
      rintro b (rfl | rfl | hb | hb)
      · exact ⟨lt_of_block g1, fun e => by rw [e, p1] at g1; simp at g1, fun e => by rw [e, q1] at g1; simp at g1⟩
      · exact ⟨lt_of_block g2, fun e => by rw [e, p1] at g2; simp at g2, fun e => by rw [e, q1] at g2; simp at g2⟩
      · have := HKN.out.lt hb; have := hb0.size; omega
      · have := HKS.out.lt hb; have := hb0.size; omega
    have hzP : P < w1.heap.size := lt_of_block p1
    have hzQ : Q < w1.heap.size := lt_of_block q1
    have HKB := Lib.hid (HKN.out.below hb0)
    have HB0 := Lib.hid hb0
    have HCI := Lib.hid (show FstI c na K nc (ownL c sp) w P Q 0 w1 from ⟨hx1, p1, q1, hb0⟩)
    have HCAP := Lib.hid hcap
    have HG := Lib.hid hG
    clear p1 q1 hx1 hb0 hb1 g1 g2 hcap hG x0 x1 x2 x3 x4 x5
    go_wp2
    refine (wpIn_wide (n := 0)).1 ?_
    refine wp_range1 (gf := 198) rfl enters_own1 HG.out (Nat.le_refl _) (fun b hb => ⟨(HCAP.out b hb).1, rfl⟩) (fun _ => rfl) (fun b => b = P ∨ b = Q)
      (fun b hb => ⟨fun hc => by have := (HCAP.out b hc).2; omega, by omega⟩) (fun G k A => FstI c na K nc (ownL c sp) w P Q k A) (fun _ _ _ _ => False) (fun G k A A' hi hb => hi.stab (N := w1.heap.size) (by omega) hzP hzQ hb) (fun _ _ _ _ _ hi _ => hi) HCI.out ?hround ?hdone ?hstop
    case hstop =>
      intro D c G k W' _ _ _ _ hi _
      exact hi.elim
    case hdone =>
      rintro D G W' hD hnG hGb ⟨h1, h2, h3, h4⟩ hK
      obtain ⟨y0, _⟩ := cells1 h2
      obtain ⟨z0, _⟩ := cells1 h3
      have hl2 := lt_of_block h2
      have hl3 := lt_of_block h3
      rw [List.take_length] at y0 z0
      have H4 := Lib.hid h4
      have HK := Lib.hid hK
      clear h1 h2 h3 h4 hK
      go_wp2
      refine ⟨by simp, .inl ⟨_, _, rfl, run_takeDeferred HK.out, .bool (firstB c sp), ?_, ?_⟩⟩
      · simp [results, Tryz.results117, go_sem]; rfl
      · exact ⟨rfl, H4.out.trans ⟨rfl, rfl, rfl, by simp, fun b hb => World.putObj_heap_other (by omega)⟩⟩
    case hround =>
      rintro l2 G k ⟨X, Y⟩ A hl2 hGb hszA hIk hx
      have hsn : (ownL c sp).take (k + 1) = (ownL c sp).take k ++ [⟨X, Y⟩] := by rw [List.take_add_one, hx]; rfl
      have HSN := Lib.hid hsn
      clear hx hsn
      simp only [evEnc]
      gi_wp2
      refine ⟨(Bel.refl _ _ _).alloc (Nat.le_refl _) _, ?_⟩
      rintro W3 hsW ⟨h1, h2, h3, h4⟩
      have bA : W3.heap[A.heap.size]? = some (.cells #[.int .i64 X, .int .i64 Y] 76) := (hsW.cells _ ⟨_, _, _, World.alloc_heap_new _ _⟩).trans (World.alloc_heap_new _ _)
      have hs3 : A.heap.size < W3.heap.size := lt_of_block bA
      obtain ⟨a0, a1, _, _⟩ := cells2 bA
      obtain ⟨x0, x1, x2, x3, x4, x5⟩ := cells6 h1
      obtain ⟨y0, yf⟩ := cells1 h2
      obtain ⟨z0, zf⟩ := cells1 h3
      have hxl := lt_of_block h1
      have hnp : 0 < c.ns.length := List.length_pos_iff.2 HNE.out
      have hn0 : c.ns[0]? = some (n0 c) := by unfold n0; rw [List.getElem?_eq_getElem hnp]; rfl
      have hKp : (0 : Int) < (K : Int) := by have := HKL.out; omega
      have hKq : 0 < K := by omega
      obtain ⟨g, off, hge, hgl, hcell⟩ := (HKN.out.below h4).at hn0
      have hw1A : w1.heap.size ≤ A.heap.size := hszA
      obtain ⟨m0, hm0⟩ : ∃ m, m = mnT c.to (((ownL c sp).take k).filter fun x => decide (x.id = n0 c)) := ⟨_, rfl⟩
      obtain ⟨m1, hm1⟩ : ∃ m, m = mnT c.to (((ownL c sp).take k).filter fun x => !decide (x.id = n0 c)) := ⟨_, rfl⟩
      rw [← hm0] at y0 h2
      rw [← hm1] at z0 h3
      rw [Nat.add_zero] at hcell
      subst hge
      have HM0 := Lib.hid hm0
      have HM1 := Lib.hid hm1
      have HH1 := Lib.hid h1
      have HH2 := Lib.hid h2
      have HH3 := Lib.hid h3
      have HH4 := Lib.hid h4
      have HA := Lib.hid bA
      clear hm0 hm1 h1 h2 h3 h4 bA hIk hsW hn0
      by_cases hY : Y = n0 c
      · skip
        have hs0 : mnT c.to (((ownL c sp).take (k + 1)).filter fun x => decide (x.id = n0 c)) = min m0 X := by
          rw [HSN.out, List.filter_append]
          rw [show List.filter (fun x : Evx => decide (x.id = n0 c)) [⟨X, Y⟩] = [⟨X, Y⟩] from by simp [hY], mnT_snoc, ← HM0.out]
        have hs1 : mnT c.to (((ownL c sp).take (k + 1)).filter fun x => !decide (x.id = n0 c)) = m1 := by
          rw [HSN.out, List.filter_append]
          rw [show List.filter (fun x : Evx => !decide (x.id = n0 c)) [⟨X, Y⟩] = [] from by simp [hY], List.append_nil, ← HM1.out]
        have HS0 := Lib.hid hs0
        have HS1 := Lib.hid hs1
        have ge : (Y == n0 c) = true := by simp [hY]
        have ge2 : (Y = n0 c) = True := by simp [hY]
        clear hs0 hs1 hY
        gi_upto_region 4 with (fail)
        refine wpIn_region_vals' (fr4 A.heap.size w.heap.size g off K nc Y (n0 c) true) (fun _ W => W = W3.drew) (by kernel_rfl) (by kernel_rfl) (by kernel_rfl) (by kernel_rfl) rfl ?stpu ?dnu
        case stpu =>
          intro L W1 i o b' hs ho hI hh
          have hi := (List.getElem?_eq_some_iff.1 ho).1
          have hc : i = 0 ∨ i = 1 ∨ i = 2 ∨ i = 3 ∨ i = 4 ∨ i = 5 ∨ i = 6 := by simp at hi; omega
          obtain rfl : W1 = W3.drew := hI
          have a1 : W3.drew.cell? ⟨A.heap.size, 1, none⟩ = some (.int .i64 Y) := a1
          have x1 : W3.drew.cell? ⟨w.heap.size, 1, none⟩ = some (.slice (some ⟨g, off, none⟩) K nc) := x1
          have hcell : W3.drew.cell? ⟨g, off, none⟩ = some (.int .i64 (n0 c)) := hcell
          clear hi hs
          have k2 := hh.kept 2 (by simp)
          simp at k2
          have k7 := hh.kept 7 (by simp)
          simp at k7
          rcases hc with rfl | rfl | rfl | rfl | rfl | rfl | rfl
          · simp only [List.getElem?_cons_zero, Option.some.injEq] at ho
            subst ho
            go_simp
            first | done | exact rfl | exact ⟨rfl, rfl⟩
          · simp only [List.getElem?_cons_zero, List.getElem?_cons_succ, Option.some.injEq] at ho
            subst ho
            have g0 := hh.got 0 _ 16 rfl rfl ⟨⟨0, .data⟩, by simp, rfl, rfl⟩ (by simp)
            simp [fr4] at g0
            go_simp
            first | done | exact rfl | exact ⟨rfl, rfl⟩
          · simp only [List.getElem?_cons_zero, List.getElem?_cons_succ, Option.some.injEq] at ho
            subst ho
            go_simp
            first | done | exact rfl | exact ⟨rfl, rfl⟩
          · simp only [List.getElem?_cons_zero, List.getElem?_cons_succ, Option.some.injEq] at ho
            subst ho
            have g2 := hh.got 2 _ 18 rfl rfl ⟨⟨2, .data⟩, by simp, rfl, rfl⟩ (by simp)
            simp [fr4] at g2
            go_simp
            first | done | exact rfl | exact ⟨rfl, rfl⟩
          · simp only [List.getElem?_cons_zero, List.getElem?_cons_succ, Option.some.injEq] at ho
            subst ho
            have g3 := hh.got 3 _ 19 rfl rfl ⟨⟨3, .data⟩, by simp, rfl, rfl⟩ (by simp)
            simp [fr4] at g3
            go_simp
            first | done | exact rfl | exact ⟨rfl, rfl⟩
          · simp only [List.getElem?_cons_zero, List.getElem?_cons_succ, Option.some.injEq] at ho
            subst ho
            have g4 := hh.got 4 _ 20 rfl rfl ⟨⟨4, .data⟩, by simp, rfl, rfl⟩ (by simp)
            simp [fr4] at g4
            go_simp
            first | done | exact rfl | exact ⟨rfl, rfl⟩
          · simp only [List.getElem?_cons_zero, List.getElem?_cons_succ, Option.some.injEq] at ho
            subst ho
            have g1 := hh.got 1 _ 17 rfl rfl ⟨⟨1, .data⟩, by simp, rfl, rfl⟩ (by simp)
            have g5 := hh.got 5 _ 21 rfl rfl ⟨⟨5, .data⟩, by simp, rfl, rfl⟩ (by simp)
            simp [fr4] at g1 g5
            go_simp
            first | done | exact rfl | exact ⟨rfl, rfl⟩
        intro W4 b' hI hh hbs
        obtain rfl : W4 = W3.drew := hI
        have hb := has_all (by kernel_rfl) hh hbs
        simp only [puts, fr4] at hb
        subst hb
        simp only [Act.put, List.setIfInBounds_toArray, List.set_cons_succ, List.set_cons_zero]
        have k1 : W3.drew.heap[w.heap.size]? = _ := HH1.out
        have k2 : W3.drew.heap[P]? = _ := HH2.out
        have k3 : W3.drew.heap[Q]? = _ := HH3.out
        have kA : W3.drew.heap[A.heap.size]? = _ := HA.out
        have kb := HH4.out.drew
        have kB : Bel (fun b => (b = P ∨ b = Q) ∨ G b) A.heap.size W3 W3.drew := (Bel.refl _ _ _).drew
        clear a0 a1 x0 x1 x2 x3 x4 x5 y0 yf z0 zf hcell hxl
        generalize W3.drew = W4 at *
        obtain ⟨a0, a1, _, _⟩ := cells2 kA
        obtain ⟨y0, yf⟩ := cells1 k2
        have hsz4 := lt_of_block kA
        have K1 := Lib.hid k1
        have K2 := Lib.hid k2
        have K3 := Lib.hid k3
        have KB := Lib.hid kb
        have KBB := Lib.hid kB
        clear k1 k2 k3 kA kb kB ge ge2
        gi_wp2
        refine ⟨G, ⟨fun _ h => h, fun _ h => Or.inl h, fun b hb => by have := (hGb b hb).2; simp [World.setCell]; omega⟩, ⟨?_, ?_, ?_, ?_⟩, ?_⟩
        · exact (Below.heap_setCell _ _ _ _ (by show w.heap.size ≠ P; omega)).trans K1.out
        · rw [HS0.out]; exact set1_0 K2.out _
        · rw [HS1.out]; exact (Below.heap_setCell _ _ _ _ (by show Q ≠ P; omega)).trans K3.out
        · exact KB.out.setCell (p := ⟨P, 0, none⟩) (by show w.heap.size ≤ P; omega) _
        · exact KBB.out.setCell (p := ⟨P, 0, none⟩) (Or.inl (Or.inl (Or.inl rfl))) _
      · skip
        have hs0 : mnT c.to (((ownL c sp).take (k + 1)).filter fun x => decide (x.id = n0 c)) = m0 := by
          rw [HSN.out, List.filter_append]
          rw [show List.filter (fun x : Evx => decide (x.id = n0 c)) [⟨X, Y⟩] = [] from by simp [hY], List.append_nil, ← HM0.out]
        have hs1 : mnT c.to (((ownL c sp).take (k + 1)).filter fun x => !decide (x.id = n0 c)) = min m1 X := by
          rw [HSN.out, List.filter_append]
          rw [show List.filter (fun x : Evx => !decide (x.id = n0 c)) [⟨X, Y⟩] = [⟨X, Y⟩] from by simp [hY], mnT_snoc, ← HM1.out]
        have HS0 := Lib.hid hs0
        have HS1 := Lib.hid hs1
        have ge : (Y == n0 c) = false := by simp [hY]
        have ge2 : (Y = n0 c) = False := by simp [hY]
        clear hs0 hs1 hY
        gi_upto_region 4 with (fail)
        refine wpIn_region_vals' (fr4 A.heap.size w.heap.size g off K nc Y (n0 c) false) (fun _ W => W = W3.drew) (by kernel_rfl) (by kernel_rfl) (by kernel_rfl) (by kernel_rfl) rfl ?stpv ?dnv
        case stpv =>
          intro L W1 i o b' hs ho hI hh
          have hi := (List.getElem?_eq_some_iff.1 ho).1
          have hc : i = 0 ∨ i = 1 ∨ i = 2 ∨ i = 3 ∨ i = 4 ∨ i = 5 ∨ i = 6 := by simp at hi; omega
          obtain rfl : W1 = W3.drew := hI
          have a1 : W3.drew.cell? ⟨A.heap.size, 1, none⟩ = some (.int .i64 Y) := a1
          have x1 : W3.drew.cell? ⟨w.heap.size, 1, none⟩ = some (.slice (some ⟨g, off, none⟩) K nc) := x1
          have hcell : W3.drew.cell? ⟨g, off, none⟩ = some (.int .i64 (n0 c)) := hcell
          clear hi hs
          have k2 := hh.kept 2 (by simp)
          simp at k2
          have k7 := hh.kept 7 (by simp)
          simp at k7
          rcases hc with rfl | rfl | rfl | rfl | rfl | rfl | rfl
          · simp only [List.getElem?_cons_zero, Option.some.injEq] at ho
            subst ho
            go_simp
            first | done | exact rfl | exact ⟨rfl, rfl⟩
          · simp only [List.getElem?_cons_zero, List.getElem?_cons_succ, Option.some.injEq] at ho
            subst ho
            have g0 := hh.got 0 _ 16 rfl rfl ⟨⟨0, .data⟩, by simp, rfl, rfl⟩ (by simp)
            simp [fr4] at g0
            go_simp
            first | done | exact rfl | exact ⟨rfl, rfl⟩
          · simp only [List.getElem?_cons_zero, List.getElem?_cons_succ, Option.some.injEq] at ho
            subst ho
            go_simp
            first | done | exact rfl | exact ⟨rfl, rfl⟩
          · simp only [List.getElem?_cons_zero, List.getElem?_cons_succ, Option.some.injEq] at ho
            subst ho
            have g2 := hh.got 2 _ 18 rfl rfl ⟨⟨2, .data⟩, by simp, rfl, rfl⟩ (by simp)
            simp [fr4] at g2
            go_simp
            first | done | exact rfl | exact ⟨rfl, rfl⟩
          · simp only [List.getElem?_cons_zero, List.getElem?_cons_succ, Option.some.injEq] at ho
            subst ho
            have g3 := hh.got 3 _ 19 rfl rfl ⟨⟨3, .data⟩, by simp, rfl, rfl⟩ (by simp)
            simp [fr4] at g3
            go_simp
            first | done | exact rfl | exact ⟨rfl, rfl⟩
          · simp only [List.getElem?_cons_zero, List.getElem?_cons_succ, Option.some.injEq] at ho
            subst ho
            have g4 := hh.got 4 _ 20 rfl rfl ⟨⟨4, .data⟩, by simp, rfl, rfl⟩ (by simp)
            simp [fr4] at g4
            go_simp
            first | done | exact rfl | exact ⟨rfl, rfl⟩
          · simp only [List.getElem?_cons_zero, List.getElem?_cons_succ, Option.some.injEq] at ho
            subst ho
            have g1 := hh.got 1 _ 17 rfl rfl ⟨⟨1, .data⟩, by simp, rfl, rfl⟩ (by simp)
            have g5 := hh.got 5 _ 21 rfl rfl ⟨⟨5, .data⟩, by simp, rfl, rfl⟩ (by simp)
            simp [fr4] at g1 g5
            go_simp
            first | done | exact rfl | exact ⟨rfl, rfl⟩
        intro W4 b' hI hh hbs
        obtain rfl : W4 = W3.drew := hI
        have hb := has_all (by kernel_rfl) hh hbs
        simp only [puts, fr4] at hb
        subst hb
        simp only [Act.put, List.setIfInBounds_toArray, List.set_cons_succ, List.set_cons_zero]
        have k1 : W3.drew.heap[w.heap.size]? = _ := HH1.out
        have k2 : W3.drew.heap[P]? = _ := HH2.out
        have k3 : W3.drew.heap[Q]? = _ := HH3.out
        have kA : W3.drew.heap[A.heap.size]? = _ := HA.out
        have kb := HH4.out.drew
        have kB : Bel (fun b => (b = P ∨ b = Q) ∨ G b) A.heap.size W3 W3.drew := (Bel.refl _ _ _).drew
        clear a0 a1 x0 x1 x2 x3 x4 x5 y0 yf z0 zf hcell hxl
        generalize W3.drew = W4 at *
        obtain ⟨a0, a1, _, _⟩ := cells2 kA
        obtain ⟨z0, zf⟩ := cells1 k3
        have hsz4 := lt_of_block kA
        have K1 := Lib.hid k1
        have K2 := Lib.hid k2
        have K3 := Lib.hid k3
        have KB := Lib.hid kb
        have KBB := Lib.hid kB
        clear k1 k2 k3 kA kb kB ge ge2
        gi_wp2
        refine ⟨G, ⟨fun _ h => h, fun _ h => Or.inl h, fun b hb => by have := (hGb b hb).2; simp [World.setCell]; omega⟩, ⟨?_, ?_, ?_, ?_⟩, ?_⟩
        · exact (Below.heap_setCell _ _ _ _ (by show w.heap.size ≠ Q; omega)).trans K1.out
        · rw [HS0.out]; exact (Below.heap_setCell _ _ _ _ (by show P ≠ Q; omega)).trans K2.out
        · rw [HS1.out]; exact set1_0 K3.out _
        · exact KB.out.setCell (p := ⟨Q, 0, none⟩) (by show w.heap.size ≤ Q; omega) _
        · exact KBB.out.setCell (p := ⟨Q, 0, none⟩) (Or.inl (Or.inl (Or.inr rfl))) _
end Go.Proofs.YtnbndciididpoaaGreat
