/- For all samples, weights that separate them, margins and rounds the law CodeLearns returns true: what is learned has each sample on its side of the margin, and there are not more updates than the bound allows. No condition. (mk_Learns.py wrote this.) -/
import Derived.Test.YtjdcjcanmeangaaGreatLb
import Derived.Test.YtjdcjcanmeangaaGreatWk
namespace Go.Proofs.YtjdcjcanmeangaaGreat.codeLearns
open Go.ChangeShapes Go.WideShapes Go.ChangeAt Go.RowKit Go.Proofs.YtjdcjcanmeangaaGreat.Lf
set_option linter.unusedVariables false

theorem w64 (z : Int) (h1 : 0 ≤ z) (h2 : z ≤ 1000000) : wrap64 z = z := by unfold wrap64; omega
theorem kform2 {W : World} {sv : Value} {n : Nat} {f : Nat → Int} (h : KAt .i64 W sv ((List.range n).map f)) : ∃ a c, sv = .slice a n c := by
  rcases h with ⟨rfl, h0⟩ | ⟨b, off, cap, rfl, _⟩
  · have : n = 0 := by cases n with | zero => rfl | succ n => simp at h0
    subst this; exact ⟨_, _, rfl⟩
  · exact ⟨some ⟨b, off, none⟩, cap, by simp⟩
theorem wrapS (x : Int) (h : -128 ≤ x ∧ x ≤ 127) : IntKind.i64.wrap x = x := by
  simp only [IntKind.wrap, IntKind.signed, IntKind.bits]
  simp
  omega
theorem xg_us {us : List Int} (h : ∀ x ∈ us, -128 ≤ x ∧ x ≤ 127) (i : Nat) : -128 ≤ xg us i ∧ xg us i ≤ 127 := by
  unfold xg
  cases hz : us[i]? with
  | none => simp
  | some z => exact h z (List.mem_of_getElem? hz)
theorem dot_small {f g : Nat → Int} (hf : ∀ i, -128 ≤ f i ∧ f i ≤ 127) (hg : ∀ i, -128 ≤ g i ∧ g i ≤ 127) : ∀ k : Nat, -(16384 * (k : Int)) ≤ dotF f g k ∧ dotF f g k ≤ 16384 * (k : Int)
  | 0 => by simp [dotF]
  | k + 1 => by
    have h1 := dot_small hf hg k
    have h2 := mul_bound (a := f k) (b := g k) (A := 128) (B := 128) (by have := hf k; omega) (by have := hg k; omega) (by omega) (by omega)
    simp only [dotF]
    push_cast
    omega
theorem sq_small {z : Int} (h : -128 ≤ z ∧ z ≤ 127) : 0 ≤ z * z ∧ z * z ≤ 16384 := ⟨sq_nonneg z, (mul_bound (a := z) (b := z) (A := 128) (B := 128) (by omega) (by omega) (by omega) (by omega)).2⟩
/-- A block that holds an array of bytes. -/
def ArrAt (W : World) (T : Nat) (us : List Int) : Prop := W.heap[T]? = some (.cells ⟨us.map (Value.int .i8)⟩ 107)
theorem ArrAt.cell {W : World} {T i : Nat} {us : List Int} (h : ArrAt W T us) (hl : us.length = 4) (hi : i < 4) : W.cell? ⟨T, i, none⟩ = some (.int .i8 (xg us i)) := by
  obtain ⟨z, hz⟩ : ∃ z, us[i]? = some z := ⟨_, List.getElem?_eq_getElem (by omega)⟩
  have hc := cells_new h i (.int .i8 z) (by simp [hz])
  have e : (⟨T, 0, none⟩ : Addr).add i = ⟨T, i, none⟩ := by unfold Addr.add; split <;> simp_all
  rw [e] at hc
  rw [hc]; unfold xg; rw [hz]; rfl
def LP (n : Nat) (us : List Int) (b : Int) (l : List Smp) (ls mo : Int) (j : Nat) : Prop :=
  (∀ s ∈ l, SmpOk n s ∧ Sep n (xg us) b ls mo s) ∧ 0 ≤ mo ∧ mo ≤ 65537 ∧ ((l = [] ∧ ls = -1) ∨ (l ≠ [] ∧ 1 ≤ ls ∧ ls ≤ 100000)) ∧ l.length ≤ j
theorem LP.skip {n : Nat} {us : List Int} {b : Int} {l : List Smp} {ls mo : Int} {j : Nat} (h : LP n us b l ls mo j) : LP n us b l ls mo (j + 1) := ⟨h.1, h.2.1, h.2.2.1, h.2.2.2.1, by have := h.2.2.2.2; omega⟩
theorem LP.next {n : Nat} {us : List Int} {b : Int} {l : List Smp} {ls mo : Int} {j : Nat} (h : LP n us b l ls mo j) (z : List Int) (hz : z.length = 4) (hn : n ≤ 4) (hr : ∀ x ∈ z, -128 ≤ x ∧ x ≤ 127) (hus : ∀ i, -128 ≤ xg us i ∧ xg us i ≤ 127) (hb : -128 ≤ b ∧ b ≤ 127)
    {S SZ G MO ls' : Int} (hS : S = b + dotF (xg us) (xg z) n) (hSZ : SZ = 1 + dotF (xg z) (xg z) n) (h0 : S ≠ 0) (hG : (if S < -S then -S else S) = G) (hMO : (if mo < SZ then SZ else mo) = MO)
    (hls : ls' = if ls < 0 ∨ G < ls then G else ls) : LP n us b (l ++ [⟨z.take n, decide (0 < S)⟩]) ls' MO (j + 1) := by
  obtain ⟨h1, h2, h3, h4, h5⟩ := h
  have hxz := xg_us hr
  have hx : ∀ i, i < n → xg (z.take n) i = xg z i := fun i hi => by unfold xg; rw [List.getElem?_take, if_pos hi]
  have hd : ∀ (c : Nat → Int) k, k ≤ n → dotF c (xg (z.take n)) k = dotF c (xg z) k := fun c k hk => by
    induction k with
    | zero => rfl
    | succ k ih => simp only [dotF]; rw [ih (by omega), hx k (by omega)]
  have hd2 : ∀ k, k ≤ n → dotF (xg (z.take n)) (xg (z.take n)) k = dotF (xg z) (xg z) k := fun k hk => by
    induction k with
    | zero => rfl
    | succ k ih => simp only [dotF]; rw [ih (by omega), hx k (by omega)]
  have hSr := dot_small hus hxz n
  have hSZr := dot_small hxz hxz n
  have hSZ0 := dot_nonneg (xg z) n
  have hGr : 1 ≤ G ∧ G ≤ 100000 := by rw [← hG]; split <;> omega
  have hMOr : mo ≤ MO ∧ SZ ≤ MO ∧ (MO = mo ∨ MO = SZ) := by rw [← hMO]; split <;> omega
  have hlsr : ls' ≤ G ∧ 1 ≤ ls' ∧ ls' ≤ 100000 ∧ (l ≠ [] → ls' ≤ ls) := by
    rcases h4 with ⟨e, e2⟩ | ⟨e, e2, e3⟩
    · rw [hls, if_pos (by omega)]; exact ⟨by omega, by omega, by omega, fun h => absurd e h⟩
    · rw [hls]; split <;> (refine ⟨by omega, by omega, by omega, fun _ => by omega⟩)
  refine ⟨fun s hs => ?_, by omega, by omega, .inr ⟨by simp, hlsr.2.1, hlsr.2.2.1⟩, by simp; omega⟩
  rcases List.mem_append.1 hs with hs | hs
  · obtain ⟨q1, q2⟩ := h1 s hs
    have hl0 : l ≠ [] := fun e => by rw [e] at hs; simp at hs
    exact ⟨q1, ⟨Int.le_trans (hlsr.2.2.2 hl0) q2.pos, Int.le_trans q2.sz hMOr.1⟩⟩
  · simp only [List.mem_cons, List.not_mem_nil, or_false] at hs
    subst hs
    refine ⟨⟨by simp; omega, fun x hx => by have := hr x (List.mem_of_mem_take hx); omega⟩, ⟨?_, ?_⟩⟩
    · simp only
      rw [hd _ n (Nat.le_refl _), ← hS]
      have h6 := hlsr.1
      by_cases hp : 0 < S
      · rw [decide_eq_true hp]
        rw [if_neg (by omega)] at hG
        simp only [sg, if_true]; omega
      · rw [decide_eq_false hp]
        rw [if_pos (by omega)] at hG
        simp only [sg]; simp; omega
    · simp only
      rw [hd2 n (Nat.le_refl _)]; omega
theorem cp_below {H : Nat} {vs : List Value} {l : List Smp} {v : Value} {W W' : World} (h : CpAt H vs l v W) (hb : Below W.heap.size W W') : CpAt H vs l v W' := by
  refine ⟨h.len, ownsC h.row fun g hg => hb.block g (h.row.lt g hg).2, fun i u s hu hs => ?_⟩
  obtain ⟨h1, h2⟩ := h.own i u s hu hs
  exact ⟨ownsC h1 fun g hg => hb.block g (h1.lt g hg).2, h2⟩
def puK (TS TA i : Nat) (x : Int) (v0 : Value) : Nat → Value
  | 0 => .pointer (some ⟨TS, 0, none⟩)
  | 1 => v0
  | 2 => .int .i64 (i : Int)
  | 3 => .pointer (some ⟨TA, i, none⟩)
  | 4 => .int .i8 x
  | 5 => .int .i64 x
  | 8 => .pointer (some ⟨TS, 0, none⟩)
  | _ => undef
set_option maxRecDepth 100000 in
set_option maxHeartbeats 32000000 in
theorem walk (zs : List (List Int)) (a : Option Addr) (cap N : Nat) (hN : N = zs.length) (f : Int) (wf : (Lit.int .u8 f).wf = true) (x0 x1 x2 x3 : Int) (hus : ∀ x ∈ [x0, x1, x2, x3], -128 ≤ x ∧ x ≤ 127) (b : Int) (wb : (Lit.int .i8 b).wf = true) (mg : Int) (wmg : (Lit.int .u16 mg).wf = true) (rd : Int) (wrd : (Lit.int .u8 rd).wf = true)
    (w : World) (hA : ArrsAt w (.slice a N cap) zs) :
    Calls Tryz.prog 12 #[.slice a N cap, .int .u8 f, .agg #[.int .i8 x0, .int .i8 x1, .int .i8 x2, .int .i8 x3], .int .i8 b, .int .u16 mg, .int .u8 rd] w fun e w' => e = .returned (.bool true) ∧ Below w.heap.size w w' := by
  have bf : 0 ≤ f ∧ f ≤ 255 := by simp only [Lit.wf, Bool.and_eq_true, decide_eq_true_eq] at wf; exact wf
  have bb : -128 ≤ b ∧ b ≤ 127 := i8_bounds wb
  have bm : 0 ≤ mg ∧ mg ≤ 65535 := by simp only [Lit.wf, Bool.and_eq_true, decide_eq_true_eq] at wmg; exact wmg
  have br : 0 ≤ rd ∧ rd ≤ 255 := by simp only [Lit.wf, Bool.and_eq_true, decide_eq_true_eq] at wrd; exact wrd
  clear wf wb wmg wrd
  have hb0 : Below w.heap.size w (w.alloc (.cells #[.int .i8 x0, .int .i8 x1, .int .i8 x2, .int .i8 x3] 107)) := (Below.refl _ _).alloc (Nat.le_refl _) _
  have HU0 := Lib.hid (show ArrAt (w.alloc (.cells #[.int .i8 x0, .int .i8 x1, .int .i8 x2, .int .i8 x3] 107)) w.heap.size [x0, x1, x2, x3] from alloc_new_at _ _ _ rfl)
  have H0 := Lib.hid hb0
  have HA := Lib.hid hA
  have HN := Lib.hid hN
  by_cases c0 : 16 < N
  · have z1 : ((16 : Int) < (N : Int)) = True := by simp <;> omega
    clear hb0 hA hN c0 bf bb bm br
    go_enter Tryz.func12, Tryz.ntmps12
    go_upto_region 1 with (fail)
    generalize w.alloc (.cells #[.int .i8 x0, .int .i8 x1, .int .i8 x2, .int .i8 x3] 107) = W0 at *
    go_wp2_with (go_at_call 18; refine (works_any _).mono ?_; rintro e w9 ⟨rfl, hb9⟩)
    go_ret
    exact ⟨rfl, H0.out.trans (hb9.mono H0.out.size)⟩
  have z1 : ((16 : Int) < (N : Int)) = False := by simp <;> omega
  have hN16 : N ≤ 16 := by omega
  have rf : 0 ≤ f.tmod 4 ∧ f.tmod 4 ≤ 3 := by rw [Int.tmod_eq_emod_of_nonneg bf.1]; omega
  obtain ⟨n, hn⟩ : ∃ n : Nat, 1 + f.tmod 4 = (n : Int) := ⟨(1 + f.tmod 4).toNat, by omega⟩
  have hn1 : 1 ≤ n := by omega
  have hn4 : n ≤ 4 := by omega
  have rm : 0 ≤ mg.tmod 2000 ∧ mg.tmod 2000 ≤ 1999 := by rw [Int.tmod_eq_emod_of_nonneg bm.1]; omega
  obtain ⟨m, hm⟩ : ∃ m : Int, mg.tmod 2000 = m := ⟨_, rfl⟩
  rw [hm] at rm
  have rr : 0 ≤ rd.tmod 60 ∧ rd.tmod 60 ≤ 59 := by rw [Int.tmod_eq_emod_of_nonneg br.1]; omega
  obtain ⟨R, hR⟩ : ∃ R : Nat, 1 + rd.tmod 60 = (R : Int) := ⟨(1 + rd.tmod 60).toNat, by omega⟩
  have hR1 : 1 ≤ R ∧ R ≤ 60 := by omega
  obtain ⟨us, hus'⟩ : ∃ us, us = [x0, x1, x2, x3] := ⟨_, rfl⟩
  rw [← hus'] at hus HU0
  have hul : us.length = 4 := by rw [hus']; rfl
  have HXU := Lib.hid (xg_us hus)
  obtain ⟨B2, hB2⟩ : ∃ B, b * b = B := ⟨_, rfl⟩
  have hB2r : 0 ≤ B2 ∧ B2 ≤ 16384 := hB2 ▸ sq_small bb
  have kf : wrap64 f = f := w64 _ (by omega) (by omega)
  have kb : wrap64 b = b := by unfold wrap64; omega
  have kB : wrap64 B2 = B2 := by unfold wrap64; omega
  have km : wrap64 mg = mg := w64 _ (by omega) (by omega)
  have kr : wrap64 rd = rd := w64 _ (by omega) (by omega)
  have kf2 : wrap64 (f.tmod 4) = f.tmod 4 := w64 _ (by omega) (by omega)
  have km2 : wrap64 m = m := w64 _ (by omega) (by omega)
  have kr2 : wrap64 (rd.tmod 60) = rd.tmod 60 := w64 _ (by omega) (by omega)
  have KB := Lib.hid kb
  have KR := Lib.hid kr
  have KR2 := Lib.hid kr2
  have HRR := Lib.hid hR
  have HRB := Lib.hid rr
  have HR1 := Lib.hid hR1
  have HUL := Lib.hid hul
  have HUS := Lib.hid hus
  have HBB := Lib.hid bb
  have HB2 := Lib.hid hB2
  clear hb0 hA hN c0 bf bm br hus hus' hul kr kr2 hR hR1 rr
  go_enter Tryz.func12, Tryz.ntmps12
  go_upto_region 1 with (fail)
  generalize w.alloc (.cells #[.int .i8 x0, .int .i8 x1, .int .i8 x2, .int .i8 x3] 107) = W0 at *
  go_upto_region 7 with (fail)
  clear kf kb kB km kf2 km2 hn hm hB2 rf bb
  go_wp2
  go_loopw [18, 53] (fun s18 s53 wr => ∃ i : Nat, i ≤ n ∧ s53 = .int .i64 i ∧ s18 = .int .i64 (B2 + dotF (xg us) (xg us) i) ∧ Below W0.heap.size W0 wr) (fun _ s53 _ => n - (intOf s53).toNat)
  case atStart => exact ⟨0, Nat.zero_le _, rfl, by simp [dotF], Below.refl _ _⟩
  case round =>
    obtain ⟨i, hi, rfl, rfl, hb⟩ := hrel
    have HB := Lib.hid hb
    have hd := dot_small HXU.out HXU.out i
    by_cases hlt : i < n
    · have hi0 : (0 : Int) ≤ (i : Int) := Int.natCast_nonneg _
      have hi1 : (i : Int) < (n : Int) := by omega
      have hi4 : (i : Int) < 4 := by omega
      have hc := (show ArrAt wr w.heap.size us from (hb.block w.heap.size (lt_of_block HU0.out)).trans HU0.out).cell HUL.out (show i < 4 by omega)
      have hz := HXU.out i
      obtain ⟨z, hze⟩ : ∃ z, z = xg us i := ⟨_, rfl⟩
      rw [← hze] at hc hz
      have hp := sq_small hz
      have hs : B2 + dotF (xg us) (xg us) (i + 1) = B2 + dotF (xg us) (xg us) i + z * z := by simp only [dotF, ← hze]; omega
      obtain ⟨D, hD⟩ : ∃ D, D = B2 + dotF (xg us) (xg us) i := ⟨_, rfl⟩
      have hDr : -100000 ≤ D ∧ D ≤ 100000 := by omega
      rw [← hD] at hs ⊢
      obtain ⟨p, hpe⟩ : ∃ p, z * z = p := ⟨_, rfl⟩
      rw [hpe] at hp hs
      have HS := Lib.hid hs
      have w1 : wrap64 z = z := by unfold wrap64; omega
      have w2 : wrap64 p = p := by unfold wrap64; omega
      have w3 : wrap64 (D + p) = D + p := by unfold wrap64; omega
      clear hs hD hze hb hd hi hlt
      go_wp2
      go_quiet (fail)
      go_wp2
      go_roundw
      case rel => exact ⟨i + 1, by omega, by go_num, by rw [HS.out], below_drewN HB.out _⟩
      case measure => simp [intOf]; omega
    · obtain rfl : n = i := by omega
      have HNN := Lib.hid hd
      have HW := Lib.hid (show ArrAt wr w.heap.size us from (hb.block w.heap.size (lt_of_block HU0.out)).trans HU0.out)
      have H1 := Lib.hid (H0.out.trans (hb.mono H0.out.size))
      obtain ⟨NM, hNM⟩ : ∃ NM, NM = B2 + dotF (xg us) (xg us) n := ⟨_, rfl⟩
      have hNMr : 0 ≤ NM ∧ NM ≤ 82000 := by have := dot_nonneg (xg us) n; omega
      rw [← hNM]
      have HNM := Lib.hid hNM
      clear hNM hd hi hlt hb HB
      generalize wr = W1 at *
      go_upto_region 12 with (fail)
      go_wp2
      clear HU0 H0
      go_loopw [15, 16, 17, 70] (fun s15 s16 s17 s70 wr => ∃ j : Nat, j ≤ N ∧ s70 = .int .i64 j ∧ ∃ (vs : List Value) (l : List Smp) (ls mo : Int), s16 = .int .i64 ls ∧ s17 = .int .i64 mo ∧ CpAt W1.heap.size vs l s15 wr ∧ LP n us b l ls mo j ∧ Below W1.heap.size W1 wr) (fun _ _ _ s70 _ => N - (intOf s70).toNat)
      case atStart => exact ⟨0, Nat.zero_le _, rfl, [], [], -1, 0, rfl, rfl, ⟨rfl, World.ownsRow_nil _ _ _ _, fun i u s h _ => by simp at h⟩, ⟨fun s h => by simp at h, by omega, by omega, .inl ⟨rfl, rfl⟩, Nat.le_refl _⟩, Below.refl _ _⟩
      case round =>
        obtain ⟨j, hj, rfl, vs, l, ls, mo, rfl, rfl, hcp, hlp, hb⟩ := hrel
        have HB := Lib.hid hb
        have HCP := Lib.hid hcp
        have HLP := Lib.hid hlp
        have hj0 : (0 : Int) ≤ (j : Int) := Int.natCast_nonneg _
        by_cases hlj : j < N
        · have hj1 : (j : Int) < (N : Int) := by omega
          obtain ⟨z, hzj⟩ : ∃ z, zs[j]? = some z := ⟨_, List.getElem?_eq_getElem (by rw [← HN.out]; exact hlj)⟩
          obtain ⟨bq, oq, cq, hsl, hbl, hcells⟩ : ∃ bq oq cq, Value.slice a N cap = .slice (some ⟨bq, oq, none⟩) N cq ∧ bq < w.heap.size ∧ ∀ j z, zs[j]? = some z → ∃ x0 x1 x2 x3, z = [x0, x1, x2, x3] ∧ (∀ x ∈ z, -128 ≤ x ∧ x ≤ 127) ∧ w.cell? ⟨bq, oq + j * 4, none⟩ = some (.int .i8 x0) ∧ w.cell? ⟨bq, oq + j * 4 + 1, none⟩ = some (.int .i8 x1) ∧ w.cell? ⟨bq, oq + j * 4 + 2, none⟩ = some (.int .i8 x2) ∧ w.cell? ⟨bq, oq + j * 4 + 3, none⟩ = some (.int .i8 x3) := by
            rcases HA.out with ⟨_, e⟩ | ⟨bq, oq, cq, e, h1, h2⟩
            · rw [e] at hzj; simp at hzj
            · exact ⟨bq, oq, cq, by rw [e, HN.out], h1, h2⟩
          cases hsl
          obtain ⟨y0, y1, y2, y3, hze, hzr, d0, d1, d2, d3⟩ := hcells j z hzj
          have HT := Lib.hid (H1.out.trans (hb.mono H1.out.size))
          have q0 := (HT.out.cell (p := ⟨bq, oq + j * 4, none⟩) hbl).trans d0
          have q1 := (HT.out.cell (p := ⟨bq, oq + j * 4 + 1, none⟩) hbl).trans d1
          have q2 := (HT.out.cell (p := ⟨bq, oq + j * 4 + 2, none⟩) hbl).trans d2
          have q3 := (HT.out.cell (p := ⟨bq, oq + j * 4 + 3, none⟩) hbl).trans d3
          have hzl : z.length = 4 := by rw [hze]; rfl
          have HAW := Lib.hid (show ArrAt (wr.alloc (.cells #[.int .i8 y0, .int .i8 y1, .int .i8 y2, .int .i8 y3] 107)) wr.heap.size z by rw [hze]; exact alloc_new_at _ _ _ rfl)
          have HBA := Lib.hid (show Below wr.heap.size wr (wr.alloc (.cells #[.int .i8 y0, .int .i8 y1, .int .i8 y2, .int .i8 y3] 107)) from (Below.refl _ _).alloc (Nat.le_refl _) _)
          have HWA := Lib.hid (show (wr.alloc (.cells #[.int .i8 y0, .int .i8 y1, .int .i8 y2, .int .i8 y3] 107)).heap.size = wr.heap.size + 1 by simp)
          have HUW := Lib.hid (show ArrAt wr w.heap.size us from (hb.block _ (lt_of_block HW.out)).trans HW.out)
          have HXZ := Lib.hid (xg_us hzr)
          have HZR := Lib.hid hzr
          have HZL := Lib.hid hzl
          have KB1 := KB.out
          clear hzj hcells hze hzr hzl d0 d1 d2 d3 hcp hlp hb hbl
          go_upto_region 15 with (fail)
          clear q0 q1 q2 q3
          generalize wr.alloc (.cells #[.int .i8 y0, .int .i8 y1, .int .i8 y2, .int .i8 y3] 107) = Wa at *
          go_upto_region 18 with (fail)
          have HBX := Lib.hid (show (Wa.alloc (.cells #[.slice none 0 0, .bool false] 74)).heap[Wa.heap.size]? = some (.cells #[.slice none 0 0, .bool false] 74) from alloc_new_at _ _ _ rfl)
          have HBS := Lib.hid (show Below Wa.heap.size Wa (Wa.alloc (.cells #[.slice none 0 0, .bool false] 74)) from (Below.refl _ _).alloc (Nat.le_refl _) _)
          generalize Wa.alloc (.cells #[.slice none 0 0, .bool false] 74) = W2 at *
          go_wp2
          clear KB1
          generalize wr = wo at *
          go_loopw [22, 23, 77] (fun s22 s23 s77 wr => ∃ i : Nat, i ≤ n ∧ s77 = .int .i64 i ∧ s22 = .int .i64 (b + dotF (xg us) (xg z) i) ∧ s23 = .int .i64 (1 + dotF (xg z) (xg z) i) ∧ (∃ v, wr.heap[Wa.heap.size]? = some (.cells #[v, .bool false] 74) ∧ wr.ownsRow Wa.heap.size 3 1 v i (iCs (z.take i)) ∧ v.ownBlock ≠ some Wa.heap.size) ∧ Below Wa.heap.size Wa wr) (fun _ _ s77 _ => n - (intOf s77).toNat)
          case atStart => exact ⟨0, Nat.zero_le _, rfl, by simp [dotF, KB.out], by simp [dotF], ⟨_, HBX.out, by rw [List.take_zero]; exact World.ownsRow_nil _ _ _ _, by simp [Value.ownBlock]⟩, HBS.out⟩
          case round =>
            obtain ⟨i, hi, rfl, rfl, rfl, ⟨v, hbx, hov, hvb⟩, hb⟩ := hrel
            have HB5 := Lib.hid hb
            have HBX5 := Lib.hid hbx
            have HOV := Lib.hid hov
            have HVB := Lib.hid hvb
            have hd1 := dot_small HXU.out HXZ.out i
            have hd2 := dot_small HXZ.out HXZ.out i
            have hbb := HBB.out
            have hi0 : (0 : Int) ≤ (i : Int) := Int.natCast_nonneg _
            obtain ⟨va, vc, rfl⟩ := own_slC hov
            by_cases hli : i < n
            · have hi1 : (i : Int) < (n : Int) := by omega
              have hi4 : (i : Int) < 4 := by omega
              have hwaz : wo.heap.size < Wa.heap.size := by have := HWA.out; omega
              have HAZ := Lib.hid (show ArrAt wr wo.heap.size z from (hb.block _ hwaz).trans HAW.out)
              have hut : w.heap.size < wo.heap.size := lt_of_block HUW.out
              have HUZ := Lib.hid (show ArrAt wr w.heap.size us from (hb.block _ (by omega)).trans ((HBA.out.block _ hut).trans HUW.out))
              have hx := HXZ.out i
              have hu := HXU.out i
              have hcx := HAZ.out.cell HZL.out (show i < 4 by omega)
              have hcu := HUZ.out.cell HUL.out (show i < 4 by omega)
              obtain ⟨x, hxe⟩ : ∃ x, x = xg z i := ⟨_, rfl⟩
              obtain ⟨u, hue⟩ : ∃ u, u = xg us i := ⟨_, rfl⟩
              rw [← hxe] at hcx hx
              rw [← hue] at hcu hu
              have htk : z.take (i + 1) = z.take i ++ [x] := by
                have h1 : z[i]? = some x := by rw [hxe]; unfold xg; rw [List.getElem?_eq_getElem (by have := HZL.out; omega)]; rfl
                rw [List.take_add_one, h1]; rfl
              have hs1 : b + dotF (xg us) (xg z) (i + 1) = b + dotF (xg us) (xg z) i + u * x := by simp only [dotF, ← hxe, ← hue]; omega
              have hs2 : 1 + dotF (xg z) (xg z) (i + 1) = 1 + dotF (xg z) (xg z) i + x * x := by simp only [dotF, ← hxe]; omega
              have hp1 := mul_bound (a := u) (b := x) (A := 128) (B := 128) (by omega) (by omega) (by omega) (by omega)
              have hp2 := sq_small hx
              obtain ⟨p1, hpe1⟩ : ∃ p, u * x = p := ⟨_, rfl⟩
              obtain ⟨p2, hpe2⟩ : ∃ p, x * x = p := ⟨_, rfl⟩
              rw [hpe1] at hp1 hs1
              rw [hpe2] at hp2 hs2
              obtain ⟨D1, hD1⟩ : ∃ D, D = b + dotF (xg us) (xg z) i := ⟨_, rfl⟩
              obtain ⟨D2, hD2⟩ : ∃ D, D = 1 + dotF (xg z) (xg z) i := ⟨_, rfl⟩
              have hD1r : -100000 ≤ D1 ∧ D1 ≤ 100000 := by omega
              have hD2r : -100000 ≤ D2 ∧ D2 ≤ 100000 := by omega
              rw [← hD1] at hs1 ⊢
              rw [← hD2] at hs2 ⊢
              have HS1 := Lib.hid hs1
              have HS2 := Lib.hid hs2
              have HTK := Lib.hid htk
              have HP1 := Lib.hid hpe1
              have HP2 := Lib.hid hpe2
              have HXE := Lib.hid hxe
              have HUE := Lib.hid hue
              have w1 : wrap64 x = x := by unfold wrap64; omega
              clear hs1 hs2 htk hxe hue hD1 hD2 hb hbx hov hvb hd1 hd2 hi hcx hcu hpe1 hpe2 hbb hli
              go_upto_region 21 with (fail)
              refine wp_region_late (PuR wr Wa.heap.size Wa.heap.size i (z.take i) x false (.slice va i vc) (puK Wa.heap.size wo.heap.size i x (.slice va i vc))) (by kernel_rfl) (by kernel_rfl) (by kernel_rfl) (by kernel_rfl) (PuR.init _ (Nat.le_refl _) HBX5.out HOV.out HVB.out) ?stp ?dn
              case dn =>
                intro val W b' hI hb
                have h7 := hI.m7 (by simp)
                have h9 := hI.b9 (by simp)
                have kn : ∀ q, [6, 7, 9].contains q = false → q < 10 → val q = (puK Wa.heap.size wo.heap.size i x (.slice va i vc)) q := fun q hq hq2 => hI.known q hq (replT (by show q < 10; omega))
                obtain ⟨v6, hv6⟩ : ∃ v, v = val 6 := ⟨_, rfl⟩
                obtain ⟨v7, hv7⟩ : ∃ v, v = val 7 := ⟨_, rfl⟩
                obtain ⟨v9, hv9⟩ : ∃ v, v = val 9 := ⟨_, rfl⟩
                simp only [puts, ← hv6, ← hv7, ← hv9, kn 0 (by decide) (by decide), kn 1 (by decide) (by decide), kn 2 (by decide) (by decide), kn 3 (by decide) (by decide), kn 4 (by decide) (by decide), kn 5 (by decide) (by decide), kn 8 (by decide) (by decide), puK] at hb
                rw [← hv7] at h7 h9
                have H7 := Lib.hid h7
                have H9 := Lib.hid h9
                have HBL2 := Lib.hid (HB5.out.trans hI.bel)
                clear hI h7 h9 kn hv6 hv7 hv9
                subst hb
                simp only [Act.put, List.setIfInBounds_toArray, List.set_cons_succ, List.set_cons_zero]
                have hcx := (show ArrAt W wo.heap.size z from (HBL2.out.block _ hwaz).trans HAW.out).cell HZL.out (show i < 4 by omega)
                have hcu := (show ArrAt W w.heap.size us from (HBL2.out.block _ (by omega)).trans ((HBA.out.block _ hut).trans HUW.out)).cell HUL.out (show i < 4 by omega)
                rw [← HXE.out] at hcx
                rw [← HUE.out] at hcu
                have hpe1 := HP1.out
                have w2 : wrap64 u = u := by unfold wrap64; omega
                have w3 : wrap64 p1 = p1 := by unfold wrap64; omega
                have w4 : wrap64 (D1 + p1) = D1 + p1 := by unfold wrap64; omega
                have w5 : wrap64 p2 = p2 := by unfold wrap64; omega
                have w6 : wrap64 (D2 + p2) = D2 + p2 := by unfold wrap64; omega
                have hpe2 := HP2.out
                go_wp2
                go_quiet (fail)
                go_wp2
                go_quiet (fail)
                go_wp2
                go_roundw
                case rel => exact ⟨i + 1, by omega, by go_num, by rw [HS1.out], by rw [HS2.out], ⟨v7, H9.out, by rw [HTK.out]; exact H7.out.1, H7.out.2⟩, by repeat (first | exact HBL2.out | refine below_drewN ?_ _ | refine Below.drew ?_)⟩
                case measure => simp [intOf]; omega
              case stp =>
                intro L val W i' o b' hs ho hlF hdd hI hh hlate
                have hi' := (List.getElem?_eq_some_iff.1 ho).1
                have hcs : i' = 0 ∨ i' = 1 ∨ i' = 2 ∨ i' = 3 ∨ i' = 4 ∨ i' = 5 ∨ i' = 6 ∨ i' = 7 ∨ i' = 8 ∨ i' = 9 := by simp at hi'; omega
                have hLs : 9 < L.size := by simp at hs; omega
                have HI := Lib.hid hI
                have HLF := Lib.hid hlF
                have HD := Lib.hid hdd
                have HBL2 := Lib.hid (HB5.out.trans hI.bel)
                have hcx := (show ArrAt W wo.heap.size z from (HBL2.out.block _ hwaz).trans HAW.out).cell HZL.out (show i < 4 by omega)
                rw [← HXE.out] at hcx
                clear hi' hs hI hlF hdd
                rcases hcs with rfl | rfl | rfl | rfl | rfl | rfl | rfl | rfl | rfl | rfl
                · simp only [List.getElem?_cons_zero, Option.some.injEq] at ho
                  subst ho
                  have k24 := hh.kept 24 (by simp)
                  simp at k24
                  go_simp
                  exact ⟨_, rfl, HI.out.skip 0 (by decide) _ rfl⟩
                · simp only [List.getElem?_cons_zero, List.getElem?_cons_succ, Option.some.injEq] at ho
                  subst ho
                  have l0 : L.getD 0 false = true := HD.out ⟨0, .data⟩ (by simp) rfl
                  have g0 := hh.got 0 _ 80 rfl rfl l0 (by simp)
                  rw [HI.out.known 0 (by decide) l0] at g0
                  simp [puK] at g0
                  have hl9 : L.getD 9 false = false := by
                    cases e : L.getD 9 false with
                    | false => rfl
                    | true => exact absurd (HI.out.q1 (HI.out.p9 e)) (by rw [HLF.out]; simp)
                  obtain ⟨c0', _, _, _⟩ := cells2 (HI.out.bx0 hl9)
                  clear l0
                  go_simp
                  exact ⟨_, rfl, HI.out.skip 1 (by decide) _ rfl⟩
                · simp only [List.getElem?_cons_zero, List.getElem?_cons_succ, Option.some.injEq] at ho
                  subst ho
                  have k25 := hh.kept 25 (by simp)
                  simp at k25
                  go_simp
                  exact ⟨_, rfl, HI.out.skip 2 (by decide) _ rfl⟩
                · simp only [List.getElem?_cons_zero, List.getElem?_cons_succ, Option.some.injEq] at ho
                  subst ho
                  have k21 := hh.kept 21 (by simp)
                  simp at k21
                  have l2 : L.getD 2 false = true := HD.out ⟨2, .data⟩ (by simp) rfl
                  have g2 := hh.got 2 _ 82 rfl rfl l2 (by simp)
                  rw [HI.out.known 2 (by decide) l2] at g2
                  simp [puK] at g2
                  clear l2
                  go_simp
                  exact ⟨_, rfl, HI.out.skip 3 (by decide) _ rfl⟩
                · simp only [List.getElem?_cons_zero, List.getElem?_cons_succ, Option.some.injEq] at ho
                  subst ho
                  have l3 : L.getD 3 false = true := HD.out ⟨3, .data⟩ (by simp) rfl
                  have g3 := hh.got 3 _ 83 rfl rfl l3 (by simp)
                  rw [HI.out.known 3 (by decide) l3] at g3
                  simp [puK] at g3
                  clear l3
                  go_simp
                  exact ⟨_, rfl, HI.out.skip 4 (by decide) _ rfl⟩
                · simp only [List.getElem?_cons_zero, List.getElem?_cons_succ, Option.some.injEq] at ho
                  subst ho
                  have l4 : L.getD 4 false = true := HD.out ⟨4, .data⟩ (by simp) rfl
                  have g4 := hh.got 4 _ 84 rfl rfl l4 (by simp)
                  rw [HI.out.known 4 (by decide) l4] at g4
                  simp [puK] at g4
                  clear l4
                  go_simp
                  exact ⟨_, rfl, HI.out.skip 5 (by decide) _ (congrArg (Value.int IntKind.i64) (wrapS x hx))⟩
                · simp only [List.getElem?_cons_zero, List.getElem?_cons_succ, Option.some.injEq] at ho
                  subst ho
                  have l5 : L.getD 5 false = true := HD.out ⟨5, .data⟩ (by simp) rfl
                  have g5 := hh.got 5 _ 85 rfl rfl l5 (by simp)
                  rw [HI.out.known 5 (by decide) l5] at g5
                  simp [puK] at g5
                  clear l5
                  go_simp
                  exact ⟨_, rfl, HI.out.make hLs HLF.out⟩
                · simp only [List.getElem?_cons_zero, List.getElem?_cons_succ, Option.some.injEq] at ho
                  subst ho
                  have l1 : L.getD 1 false = true := HD.out ⟨1, .data⟩ (by simp) rfl
                  have l6 : L.getD 6 false = true := HD.out ⟨6, .data⟩ (by simp) rfl
                  have e0 : b'.eval (.tmp 81) = _ := (hh.got 1 _ 81 rfl rfl l1 (by simp)).trans (HI.out.known 1 (by decide) l1)
                  have e6 : b'.eval (.tmp 86) = val 6 := hh.got 6 _ 86 rfl rfl l6 (by simp)
                  simp only [puK] at e0
                  obtain ⟨v', w', hr, hw'⟩ := HI.out.app hLs HLF.out l6 l1 (by omega) (by have := HB5.out.size; omega) 22
                  unfold Oper.wp execOp
                  simp only [resolve, invoke, builtin, Sem.run_bind, Sem.run_pure, Result.andThen_ok, List.map_toArray, List.map_cons, List.map_nil, e0, e6, hr]
                  exact ⟨_, rfl, hw'⟩
                · simp only [List.getElem?_cons_zero, List.getElem?_cons_succ, Option.some.injEq] at ho
                  subst ho
                  have k24 := hh.kept 24 (by simp)
                  simp at k24
                  go_simp
                  exact ⟨_, rfl, HI.out.skip 8 (by decide) _ rfl⟩
                · simp only [List.getElem?_cons_zero, List.getElem?_cons_succ, Option.some.injEq] at ho
                  subst ho
                  have l8 : L.getD 8 false = true := HD.out ⟨8, .data⟩ (by simp) rfl
                  have g8 := hh.got 8 _ 88 rfl rfl l8 (by simp)
                  rw [HI.out.known 8 (by decide) l8] at g8
                  simp [puK] at g8
                  have l7 : L.getD 7 false = true := HD.out ⟨7, .data⟩ (by simp) rfl
                  have g7 := hh.got 7 _ 87 rfl rfl l7 (by simp)
                  obtain ⟨a7, c7, e7⟩ := own_slC (HI.out.m7 l7).1
                  have hfl := HI.out.fill hLs HLF.out l7
                  obtain ⟨_, _, z0', _⟩ := cells2 (HI.out.bx0 HLF.out)
                  obtain ⟨c0', _, _, _⟩ := cells2 (HI.out.bx0 HLF.out)
                  rw [e7] at g7
                  simp at g7
                  simp only [e7] at hfl
                  have HFL := Lib.hid hfl
                  clear l8 l7 hfl e7
                  go_simp
                  exact ⟨_, HFL.out undef⟩
            · obtain rfl : n = i := by omega
              obtain ⟨S, hS⟩ : ∃ S, S = b + dotF (xg us) (xg z) n := ⟨_, rfl⟩
              obtain ⟨SZ, hSZ⟩ : ∃ S, S = 1 + dotF (xg z) (xg z) n := ⟨_, rfl⟩
              have hSr : -100000 ≤ S ∧ S ≤ 100000 := by omega
              have hSZr : -100000 ≤ SZ ∧ SZ ≤ 100000 := by omega
              rw [← hS, ← hSZ]
              have HSS := Lib.hid hS
              have HSZ := Lib.hid hSZ
              have HTW := Lib.hid (HBA.out.trans (hb.mono HBA.out.size))
              have hlz := HLP.out
              obtain ⟨_, lp2, lp3, lp4, lp5⟩ := hlz
              clear hS hSZ hd1 hd2 hbb hi hli hb hbx hov hvb
              by_cases hs0 : S = 0
              · have zz : (S == 0) = true := by simp [hs0]
                clear hs0 lp2 lp3 lp4 lp5
                go_wp2
                go_roundw
                case rel => exact ⟨j + 1, by omega, by go_num, vs, l, ls, mo, rfl, rfl, cp_below HCP.out HTW.out, HLP.out.skip, HB.out.trans (HTW.out.mono HB.out.size)⟩
                case measure => simp [intOf]; omega
              · have zz : (S == 0) = false := by simp [hs0]
                have HS0 := Lib.hid hs0
                obtain ⟨x0', x1', _, _⟩ := cells2 HBX5.out
                obtain ⟨Y, hY⟩ : ∃ Y, Y = decide (0 < S) := ⟨_, rfl⟩
                have HY := Lib.hid hY
                have hYw : decide (0 < S) = Y := hY.symm
                have HBX6 := Lib.hid (show (wr.setCell ⟨Wa.heap.size, 1, none⟩ (.bool Y)).heap[Wa.heap.size]? = some (.cells #[.slice va n vc, .bool Y] 74) by
                  have h1 := setCell_own (i := 1) (.bool Y) HBX5.out
                  simpa using h1)
                have HB6 := Lib.hid (Below.setCell (p := ⟨Wa.heap.size, 1, none⟩) HB5.out (Nat.le_refl _) (.bool Y))
                have HOV6 := Lib.hid (ownsC (A' := wr.setCell ⟨Wa.heap.size, 1, none⟩ (.bool Y)) HOV.out fun g hg => setCell_ne (fun e => HVB.out (by rw [hg, e])))
                clear hs0 hY
                go_upto_region 27 with (fail)
                clear x0' x1' zz hYw
                generalize wr.setCell ⟨Wa.heap.size, 1, none⟩ (.bool Y) = W6 at *
                obtain ⟨x0', x1', _, _⟩ := cells2 HBX6.out
                have HW6 := Lib.hid (HBA.out.trans (HB6.out.mono HBA.out.size))
                have HCP6 := Lib.hid (cp_below HCP.out HW6.out)
                have HAL := Lib.hid (show Below W6.heap.size W6 (W6.alloc (.cells #[.slice va n vc, .bool Y] 74)) from (Below.refl _ _).alloc (Nat.le_refl _) _)
                have HCP7 := Lib.hid (cp_below HCP6.out HAL.out)
                have HNEWS := Lib.hid (show (W6.alloc (.cells #[.slice va n vc, .bool Y] 74)).heap[W6.heap.size]? = some (.cells ⟨[.slice va n vc, .bool Y]⟩ 74) from alloc_new_at _ _ _ rfl)
                have HUT := Lib.hid (lt_of_block HUW.out)
                obtain ⟨i0, hi, hz0, hzz1, hzz2⟩ := info_parts infoS
                go_upto_region 28 with (at_builtin; go_must (refine wpList_append_where (P := Tryz.prog) _ rfl _ _ 71 rfl W1.heap.size 74 i0 (.agg #[.slice none 0 0, .bool false]) 2 32 Tryz.underlying71 hi hz0 hzz1 hzz2 rfl (by decide) _ _ _ rfl HCP7.out.row ⟨W6.heap.size, 0, none⟩ 1 1 (by decide) [.slice va n vc, .bool Y] rfl rfl (cells_new HNEWS.out) (by simp [Value.oneCell']) (by unfold maxLen; omega) (by omega) (by have h1 := HB.out.size; have h2 := HW6.out.size; simp; omega) ?_); intro v' W8 hown' hgrow hwh; have HOWN := Lib.hid hown'; have HGR := Lib.hid hgrow; have HWH := Lib.hid hwh; clear hown' hgrow hwh)
                have hw1 := HB.out.size
                have HB8 := Lib.hid (show Below W1.heap.size wo W8 from by
                  have h0 := HCP.out.row.lt
                  refine ((HW6.out.mono hw1).trans (HAL.out.mono (Nat.le_trans hw1 HW6.out.size))).trans ⟨HGR.out.os, HGR.out.tape, HGR.out.output, HGR.out.size, fun q hq => ?_⟩
                  refine HGR.out.block q (by have h2 := HW6.out.size; have h3 := HAL.out.size; omega) fun e => ?_
                  have := h0 q e.symm
                  omega)
                have HCN := Lib.hid (show CpAt W1.heap.size (vs ++ [.slice va n vc]) (l ++ [⟨z.take n, decide (0 < S)⟩]) v' W8 from by
                  have h0 := HCP.out.row.lt
                  have h2 := HW6.out.size
                  have h3 := HAL.out.size
                  have h4 := HBA.out.size
                  have hl4 : (z.take n).length = n := by rw [List.length_take, HZL.out]; omega
                  have hrow : W8.ownsRow Wa.heap.size 3 1 (.slice va n vc) n (iCs (z.take n)) := ownsC HOV6.out fun g hg => (HGR.out.block g (by have := (HOV6.out.lt g hg).2; omega) (fun e => by have h5 := h0 g e.symm; have h6 := (HOV6.out.lt g hg).1; omega)).trans (HAL.out.block g (HOV6.out.lt g hg).2)
                  refine HCP.out.next hw1 (by rw [← HY.out]; exact HOWN.out) (by simp only; rw [hl4]; exact ownsMono hrow h4) (fun q hq hne => ?_) ?_
                  · exact (HGR.out.block q (by omega) (fun e => hne e.symm)).trans ((HAL.out.block q (by omega)).trans (HW6.out.block q hq))
                  · rcases HWH.out with e | e
                    · exact .inl e
                    · exact .inr ⟨_, e, by omega, fun e2 => by have h5 := (HOV6.out.lt _ e2).2; omega⟩)
                obtain ⟨G, hG⟩ : ∃ G, (if S < -S then -S else S) = G := ⟨_, rfl⟩
                obtain ⟨MO, hMO⟩ : ∃ M, (if mo < SZ then SZ else mo) = M := ⟨_, rfl⟩
                have HG := Lib.hid hG
                have HMO := Lib.hid hMO
                have w1 : wrap64 (-S) = -S := by unfold wrap64; omega
                clear x0' x1' HNEWS HOWN HGR HWH HCP7 HCP6 i0 hi hz0 hzz1 hzz2
                by_cases a1 : ls < 0
                · have z1 : (ls < 0) = True := by simp [a1]
                  clear a1
                  go_wp2
                  go_roundw
                  case rel =>
                    refine ⟨j + 1, by omega, by go_num, vs ++ [.slice va n vc], l ++ [⟨z.take n, decide (0 < S)⟩], G, MO, rfl, rfl, HCN.out, HLP.out.next z HZL.out hn4 HZR.out HXU.out HBB.out HSS.out HSZ.out HS0.out HG.out HMO.out (by rw [if_pos (.inl (by simpa using z1))]), HB.out.trans HB8.out⟩
                  case measure => simp [intOf]; omega
                · have z1 : (ls < 0) = False := by simp [a1]
                  by_cases a2 : G < ls
                  · have z2 : (G < ls) = True := by simp [a2]
                    clear a1 a2
                    go_wp2
                    go_roundw
                    case rel =>
                      refine ⟨j + 1, by omega, by go_num, vs ++ [.slice va n vc], l ++ [⟨z.take n, decide (0 < S)⟩], G, MO, rfl, rfl, HCN.out, HLP.out.next z HZL.out hn4 HZR.out HXU.out HBB.out HSS.out HSZ.out HS0.out HG.out HMO.out (by rw [if_pos (.inr (by simpa using z2))]), HB.out.trans HB8.out⟩
                    case measure => simp [intOf]; omega
                  · have z2 : (G < ls) = False := by simp [a2]
                    clear a1 a2
                    go_wp2
                    go_roundw
                    case rel =>
                      refine ⟨j + 1, by omega, by go_num, vs ++ [.slice va n vc], l ++ [⟨z.take n, decide (0 < S)⟩], ls, MO, rfl, rfl, HCN.out, HLP.out.next z HZL.out hn4 HZR.out HXU.out HBB.out HSS.out HSZ.out HS0.out HG.out HMO.out (by rw [if_neg]; intro h; rcases h with h | h; (have := z1; simp at this; omega); (have := z2; simp at this; omega)), HB.out.trans HB8.out⟩
                    case measure => simp [intOf]; omega
        · obtain rfl : N = j := by omega
          obtain ⟨lp1, lp2, lp3, lp4, lp5⟩ := hlp
          obtain ⟨va, vc, rfl⟩ := own_slC hcp.row
          have HSM := Lib.hid hcp.smps
          have HBw := Lib.hid (H1.out.trans (hb.mono H1.out.size))
          have HLP1 := Lib.hid lp1
          rcases lp4 with ⟨rfl, rfl⟩ | ⟨hl0, hls1, hls2⟩
          · clear hcp hb HCP HLP lp1 lp5 hlj hj
            go_wp2_with (go_at_call 18; refine (works_any _).mono ?_; rintro e w9 ⟨rfl, hb9⟩)
            go_ret
            exact ⟨rfl, HBw.out.trans (hb9.mono HBw.out.size)⟩
          · have hEn := smpE_of (n := n) ⟨hn1, by omega⟩ hl0 (by omega) (fun s hs => (lp1 s hs).1)
            have hK1 : 1 ≤ l.length := by cases l with | nil => exact absurd rfl hl0 | cons a r => simp
            have htr := fun W (h : SmpsAt W (.slice va l.length vc) l) => train_ok l hEn.1 m ⟨rm.1, by omega⟩ R ⟨HR1.out.1, by have := HR1.out.2; omega⟩ va vc W h
            rw [hEn.2] at htr
            have hup := train_updates (n := n) (c := xg us) (c0 := b) (least := ls) (most := mo) (m := m) (l := l) (fun s hs => (lp1 s hs).2) (by omega) (by omega) R
            have hdn := train_done (n := n) (m := m) (l := l) R
            obtain ⟨htb, hul2⟩ := trainS_ok (n := n) (m := m) (l := l) (fun s hs => (lp1 s hs).1) R
            rw [HB2.out, ← HNM.out] at hup
            obtain ⟨st, hst⟩ : ∃ st, st = (trainS n m l R).1 := ⟨_, rfl⟩
            obtain ⟨dd, hdd⟩ : ∃ d, d = (trainS n m l R).2 := ⟨_, rfl⟩
            rw [← hst] at htr hup hdn htb hul2
            rw [← hdd] at htr hdn
            have hU : st.u ≤ 960 := Nat.le_trans hul2 (Nat.le_trans (Nat.mul_le_mul HR1.out.2 (show l.length ≤ 16 by omega)) (by omega))
            have hK16 : l.length ≤ 16 := by omega
            obtain ⟨K, hK⟩ : ∃ K, K = l.length := ⟨_, rfl⟩
            rw [← hK] at htr hK1 hK16 HSM ⊢
            have HK := Lib.hid hK
            have hz0 : ((K : Int) == 0) = false := by simp <;> omega
            have HTR := Lib.hid htr
            have HUP := Lib.hid hup
            have HDN := Lib.hid hdn
            have HTB := Lib.hid htb
            have kr := KR.out
            have kr2 := KR2.out
            have hR := HRR.out
            have rr := HRB.out
            clear hcp hb HCP HLP lp1 lp5 hlj hj hEn htr hup hdn htb hul2 hst hdd hK hl0
            go_upto_region 36 with (go_at_call 43; refine (HTR.out _ HSM.out).mono ?_; rintro e w1 ⟨sv, rfl, hk1, hb1⟩; obtain ⟨ga, ca, rfl⟩ := kform2 hk1; have HK1 := Lib.hid hk1; have HB1 := Lib.hid hb1; clear hk1 hb1)
            clear kr kr2 hR rr
            have HBX := Lib.hid (show (w1.alloc (.cells #[.slice ga n ca, .int .i64 st.b, .int .i64 (st.u : Int), .bool dd] 76)).heap[w1.heap.size]? = some (.cells #[.slice ga n ca, .int .i64 st.b, .int .i64 (st.u : Int), .bool dd] 76) from alloc_new_at _ _ _ rfl)
            have HA3 := Lib.hid (show Below w1.heap.size w1 (w1.alloc (.cells #[.slice ga n ca, .int .i64 st.b, .int .i64 (st.u : Int), .bool dd] 76)) from (Below.refl _ _).alloc (Nat.le_refl _) _)
            generalize w1.alloc (.cells #[.slice ga n ca, .int .i64 st.b, .int .i64 (st.u : Int), .bool dd] 76) = W3 at *
            have HKF := Lib.hid (HK1.out.below HA3.out)
            have HSM3 := Lib.hid ((HSM.out.below HB1.out).below HA3.out)
            have HBw1 := Lib.hid (HBw.out.trans (HB1.out.mono HBw.out.size))
            have HBw3 := Lib.hid (HBw1.out.trans (HA3.out.mono HBw1.out.size))
            obtain ⟨t0, t1, t2, t3, _, _, _, _⟩ := cells4 HBX.out
            obtain ⟨U, hUe⟩ : ∃ U : Int, U = (st.u : Int) := ⟨_, rfl⟩
            have hU0 : 0 ≤ U ∧ U ≤ 960 := by omega
            have hup := HUP.out
            rw [← hUe] at hup t2 ⊢
            have b1 := mul_bound (a := U) (b := ls) (A := 960) (B := 100000) (by omega) (by omega) (by omega) (by omega)
            obtain ⟨P1, hP1⟩ : ∃ P, U * ls = P := ⟨_, rfl⟩
            rw [hP1] at hup b1
            have b2 := mul_bound (a := P1) (b := ls) (A := 96000000) (B := 100000) (by omega) (by omega) (by omega) (by omega)
            obtain ⟨P2, hP2⟩ : ∃ P, P1 * ls = P := ⟨_, rfl⟩
            rw [hP2] at hup b2
            have b3 := mul_bound (a := mo + 2 * m) (b := NM) (A := 70000) (B := 82000) (by omega) (by omega) (by omega) (by omega)
            obtain ⟨P3, hP3⟩ : ∃ P, (mo + 2 * m) * NM = P := ⟨_, rfl⟩
            rw [hP3] at hup b3
            have g1 : (U < 0) = False := by simp <;> omega
            have g2 : ((960 : Int) < U) = False := by simp <;> omega
            have g3 : (P3 < P2) = False := by simp <;> omega
            have HUE := Lib.hid hUe
            clear hup hUe
            cases dd with
            | false =>
              go_wp2_with (go_at_call 18; refine (works_any _).mono ?_; rintro e w9 ⟨rfl, hb9⟩)
              go_ret
              exact ⟨rfl, HBw3.out.trans (hb9.mono HBw3.out.size)⟩
            | true =>
              have HDT := Lib.hid (HDN.out rfl)
              go_upto_region 40 with (fail)
              go_wp2
              clear t0 t1 t2 t3 hP1 hP2 hP3 b1 b2 b3 g1 g2 g3
              go_loopw [192] (fun s192 wr => ∃ k : Nat, k ≤ n ∧ s192 = .int .i64 k ∧ Below W3.heap.size W3 wr) (fun s192 _ => n - (intOf s192).toNat)
              case atStart => exact ⟨0, Nat.zero_le _, rfl, Below.refl _ _⟩
              case round =>
                obtain ⟨k, hk, rfl, hb⟩ := hrel
                have HB5 := Lib.hid hb
                have hk0 : (0 : Int) ≤ (k : Int) := Int.natCast_nonneg _
                by_cases hlk : k < n
                · have hk1 : (k : Int) < (n : Int) := by omega
                  obtain ⟨bb, oo, rfl, hbl, hcc⟩ := (HKF.out.below hb).at (show ((List.range n).map st.f)[k]? = some (st.f k) by simp [hlk])
                  have hfr := HTB.out.f k
                  obtain ⟨F, hF⟩ : ∃ F, F = st.f k := ⟨_, rfl⟩
                  rw [← hF] at hcc hfr
                  obtain ⟨G, hG⟩ : ∃ G, (if F < -F then -F else F) = G := ⟨_, rfl⟩
                  have hGr : G ≤ 1000000 := by rw [← hG]; split <;> omega
                  have g4 : ((1073741824 : Int) < G) = False := by simp <;> omega
                  have w1 : wrap64 (-F) = -F := by unfold wrap64; omega
                  clear hF hfr hb hk hlk
                  go_wp2
                  go_roundw
                  case rel => exact ⟨k + 1, by omega, by go_num, HB5.out⟩
                  case measure => simp [intOf]; omega
                · obtain rfl : n = k := by omega
                  have HSM4 := Lib.hid (HSM3.out.below hb)
                  have HKF4 := Lib.hid (HKF.out.below hb)
                  have HBX4 := Lib.hid ((hb.block _ (lt_of_block HBX.out)).trans HBX.out)
                  have HBw4 := Lib.hid (HBw3.out.trans (hb.mono HBw3.out.size))
                  clear hlk hk hb HB5
                  generalize wr = W4 at *
                  go_upto_region 46 with (fail)
                  go_wp2
                  go_loopw [204] (fun s204 wr => ∃ q : Nat, q ≤ K ∧ s204 = .int .i64 q ∧ Below W4.heap.size W4 wr) (fun s204 _ => K - (intOf s204).toNat)
                  case atStart => exact ⟨0, Nat.zero_le _, rfl, Below.refl _ _⟩
                  case round =>
                    obtain ⟨q, hq, rfl, hb⟩ := hrel
                    have HB5 := Lib.hid hb
                    have hq0 : (0 : Int) ≤ (q : Int) := Int.natCast_nonneg _
                    by_cases hlq : q < K
                    · have hq1 : (q : Int) < (K : Int) := by omega
                      obtain ⟨s, hs⟩ : ∃ s, l[q]? = some s := ⟨_, List.getElem?_eq_getElem (by rw [← HK.out]; exact hlq)⟩
                      have hsm := HLP1.out s (List.mem_of_getElem? hs)
                      have hmg := HDT.out s (List.mem_of_getElem? hs)
                      obtain ⟨bs, os, sx, cx, rfl, hbl, p0, p1, hkx⟩ := (HSM4.out.below hb).at hs
                      have HXR := Lib.hid (fun i => xg_rng hsm.1 i)
                      rw [hsm.1.len] at p0 hkx
                      have hXL := hsm.1.len
                      obtain ⟨X, Y⟩ := s
                      simp only at p0 p1 hkx hmg hXL
                      have HXL := Lib.hid hXL
                      have HMG := Lib.hid hmg
                      have HAL := Lib.hid (show Below wr.heap.size wr (wr.alloc (.cells #[.slice sx n cx, .bool Y] 74)) from (Below.refl _ _).alloc (Nat.le_refl _) _)
                      have HBY := Lib.hid (show (wr.alloc (.cells #[.slice sx n cx, .bool Y] 74)).heap[wr.heap.size]? = some (.cells #[.slice sx n cx, .bool Y] 74) from alloc_new_at _ _ _ rfl)
                      have HKX := Lib.hid (hkx.below HAL.out)
                      have HBX5 := Lib.hid ((HAL.out.block _ (lt_of_block ((hb.block _ (lt_of_block HBX4.out)).trans HBX4.out))).trans ((hb.block _ (lt_of_block HBX4.out)).trans HBX4.out))
                      have HB7 := Lib.hid (hb.trans (HAL.out.mono hb.size))
                      have HKF5 := Lib.hid (HKF4.out.below HB7.out)
                      have HFB := Lib.hid (show ∀ i, -256000000 ≤ st.f i ∧ st.f i ≤ 256000000 from fun i => by have := HTB.out.f i; omega)
                      clear hs hsm hmg hkx hXL hb HB5 hbl
                      go_upto_region 49 with (fail)
                      clear p0 p1
                      generalize wr.alloc (.cells #[.slice sx n cx, .bool Y] 74) = W5 at *
                      obtain ⟨d0, d1, _, _⟩ := cells2 HBY.out
                      obtain ⟨x0', x1', x2', x3', _, _, _, _⟩ := cells4 HBX5.out
                      go_upto_region 50 with (fail)
                      go_wp2
                      clear d0 d1 x0' x1' x2' x3'
                      generalize wr = wv at *
                      go_loopw [33, 213] (fun s33 s213 wr => ∃ i : Nat, i ≤ n ∧ s213 = .int .i64 i ∧ s33 = .int .i64 (st.b + dotF st.f (xg X) i) ∧ Below W5.heap.size W5 wr) (fun _ s213 _ => n - (intOf s213).toNat)
                      case atStart => exact ⟨0, Nat.zero_le _, rfl, by simp [dotF], Below.refl _ _⟩
                      case round =>
                        obtain ⟨i, hi, rfl, rfl, hb⟩ := hrel
                        have HB8 := Lib.hid hb
                        have hi0 : (0 : Int) ≤ (i : Int) := Int.natCast_nonneg _
                        have hd := dotF_bound HFB.out HXR.out i
                        have hbb := HTB.out.b
                        have hBY := (hb.block _ (lt_of_block HBY.out)).trans HBY.out
                        obtain ⟨d0, d1, _, _⟩ := cells2 hBY
                        by_cases hli : i < n
                        · have hi1 : (i : Int) < (n : Int) := by omega
                          obtain ⟨z, hz⟩ : ∃ z, X[i]? = some z := ⟨_, List.getElem?_eq_getElem (by rw [HXL.out]; exact hli)⟩
                          obtain ⟨ad, rfl, hax, hcx⟩ := (HKX.out.below hb).at hz
                          obtain ⟨bf, of', rfl, hbf, hcf⟩ := (HKF5.out.below hb).at (show ((List.range n).map st.f)[i]? = some (st.f i) by simp [hli])
                          have hxz : xg X i = z := by unfold xg; rw [hz]; rfl
                          have hzr := HXR.out i
                          have hfr := HFB.out i
                          rw [hxz] at hzr
                          have hp := mul_bound hfr hzr (by omega) (by omega)
                          have hs : st.b + dotF st.f (xg X) (i + 1) = st.b + dotF st.f (xg X) i + st.f i * z := by simp only [dotF, hxz]; omega
                          obtain ⟨D, hD⟩ : ∃ D, D = st.b + dotF st.f (xg X) i := ⟨_, rfl⟩
                          have hdr : -10000000000000 ≤ D ∧ D ≤ 10000000000000 := by omega
                          rw [← hD] at hs ⊢
                          obtain ⟨F, hF⟩ : ∃ F, F = st.f i := ⟨_, rfl⟩
                          rw [← hF] at hs hp hcf hfr
                          obtain ⟨Pp, hP⟩ : ∃ Pp, F * z = Pp := ⟨_, rfl⟩
                          rw [hP] at hp hs
                          have w1 : wrap64 Pp = Pp := by unfold wrap64; omega
                          have w2 : wrap64 (D + Pp) = D + Pp := by unfold wrap64; omega
                          have HS5 := Lib.hid hs
                          clear hz hb hi hs hxz hF hD hd hp hzr hfr hli hax hbf hbb hdr hBY
                          go_wp2
                          go_roundw
                          case rel => exact ⟨i + 1, by omega, by go_num, by rw [HS5.out, w2], HB8.out⟩
                          case measure => simp [intOf]; omega
                        · obtain rfl : n = i := by omega
                          have hmg := HMG.out
                          have HB9 := Lib.hid (HB7.out.trans (hb.mono HB7.out.size))
                          obtain ⟨D, hD⟩ : ∃ D, D = st.b + dotF st.f (xg X) n := ⟨_, rfl⟩
                          rw [← hD] at hmg ⊢
                          have w1 : wrap64 (-m) = -m := by unfold wrap64; omega
                          clear hD hd hbb hi hli hb hBY HB8
                          cases Y with
                          | true =>
                            have zz : (D ≤ m) = False := by simp [sg] at hmg; simp <;> omega
                            clear hmg
                            go_wp2
                            go_roundw
                            case rel => exact ⟨q + 1, by omega, by go_num, HB9.out⟩
                            case measure => simp [intOf]; omega
                          | false =>
                            have zz : (-m ≤ D) = False := by simp [sg] at hmg; simp <;> omega
                            clear hmg
                            go_wp2
                            go_roundw
                            case rel => exact ⟨q + 1, by omega, by go_num, HB9.out⟩
                            case measure => simp [intOf]; omega
                    · obtain rfl : K = q := by omega
                      have HBw5 := Lib.hid (HBw4.out.trans (hb.mono HBw4.out.size))
                      clear hb hlq hq HB5
                      go_wp2_with (go_at_call 18; refine (works_any _).mono ?_; rintro e w9 ⟨rfl, hb9⟩)
                      go_ret
                      exact ⟨rfl, HBw5.out.trans (hb9.mono HBw5.out.size)⟩

set_option maxRecDepth 100000 in
theorem lifted (os : Os) (started : os.Started) (H : Type) (enc : TypeId × Value → H) :
    ReturnsInHanded {} Tryz.checked os 12 .any (Rows.codeLearnsSpec.pre6 enc Tryz.prog Tryz.f12 Rows.codeLearnsRow.domain false) (Rows.codeLearnsSpec.post enc Tryz.prog Tryz.f12 false true false false) := by
  refine returnsInHanded_of_change (C := Tryz.checked) own started (by kernel_rfl) Tryz.func12
    (ChangeSpec.witness6 (enc := enc) (C := Tryz.checked) false ⟨#[], #[.slice none 0 0, .int .u8 0, .agg #[.int .i8 0, .int .i8 0, .int .i8 0, .int .i8 0], .int .i8 0, .int .u16 0, .int .u8 0], []⟩ 8 (by kernel_rfl) (by kernel_rfl) (by kernel_rfl) (by kernel_rfl)) ?_
  intro W base args ds gs before hval0 hW hcnd hsz
  have hval : ∀ (j : Nat) t v, Tryz.f12.params[j]? = some t → args[j]? = some v → Value.okWide Tryz.prog W .any base t v := hval0
  have hW' := hW
  obtain ⟨p, q, hA0, hV, rfl, hfz, hnd⟩ := hW
  have hA : DataW.TrodAll enc Tryz.prog W 0 (fun _ => true) true Tryz.f12.params.toList args.toList ds p := hA0
  rw [Tryz.params12] at hA hval
  have hAll := hA
  obtain ⟨v0, vs0, d0, ds0, p0, q0, hargs, rfl, rfl, h0, r0⟩ := trodAll_cons hA
  obtain ⟨v1, vs1, d1, ds1, p1, q1, rfl, rfl, rfl, h1, r1⟩ := trodAll_cons r0
  obtain ⟨v2, vs2, d2, ds2, p2, q2, rfl, rfl, rfl, h2, r2⟩ := trodAll_cons r1
  obtain ⟨v3, vs3, d3, ds3, p3, q3, rfl, rfl, rfl, h3, r3⟩ := trodAll_cons r2
  obtain ⟨v4, vs4, d4, ds4, p4, q4, rfl, rfl, rfl, h4, r4⟩ := trodAll_cons r3
  obtain ⟨v5, vs5, d5, ds5, p5, q5, rfl, rfl, rfl, h5, r5⟩ := trodAll_cons r4
  obtain ⟨rfl, rfl, rfl⟩ := trodAll_nil r5
  obtain rfl : args = #[v0, v1, v2, v3, v4, v5] := by cases args; simp_all
  obtain ⟨rfl, rfl⟩ := trodVars_none hV
  obtain ⟨zs0, a0, c0, rfl, hA0'⟩ := open_arrs (hval 0 105 v0 rfl rfl) h0
  obtain ⟨y0, y1, y2, y3, rfl, hys⟩ := open_arr4 (hval 2 107 v2 rfl rfl) h2
  obtain ⟨a1, rfl, rfl, rfl, w1⟩ := open_int Tryz.underlying5 (hval 1 5 v1 rfl rfl) h1
  obtain ⟨a3, rfl, rfl, rfl, w3⟩ := open_int Tryz.underlying106 (hval 3 106 v3 rfl rfl) h3
  obtain ⟨a4, rfl, rfl, rfl, w4⟩ := open_int Tryz.underlying83 (hval 4 83 v4 rfl rfl) h4
  obtain ⟨a5, rfl, rfl, rfl, w5⟩ := open_int Tryz.underlying5 (hval 5 5 v5 rfl rfl) h5
  clear hA0 hval0
  refine (walk zs0 a0 c0 _ rfl a1 w1 y0 y1 y2 y3 hys a3 w3 a4 w4 a5 w5 W hA0').mono fun e W' ⟨he, bel⟩ => ?_
  subst he
  have hback := trodAll_below bel [105, 5, 107, 106, 83, 5] (by intro t ht; simp at ht; rcases ht with rfl | rfl | rfl | rfl | rfl | rfl <;> exact ⟨by kernel_rfl, of_decide_eq_true (by kernel_rfl)⟩) hAll
  exact ⟨_, rfl, _, _, _, [], _, [], hW', trodAll_mk1 (shut_bool Tryz.underlying4 _), hback, rfl, bel.frame _, fun h => by cases h⟩

theorem over : Rows.codeLearnsRow.holds Tryz.pinned (OpenSpec.ofChange Rows.codeLearnsSpec) :=
  OpenClaim.holds_of_wide 12 Tryz.f12 rfl rfl rfl rfl rfl rfl rfl ⟨rfl, rfl, rfl, rfl, rfl⟩ rfl rfl rfl rfl rfl (by kernel_rfl) Tryz.func12 (by kernel_rfl)
    (of_decide_eq_true (by kernel_rfl)) (by unfold Func.isWrapper; first | (rw [if_pos (by decide +kernel)]; kernel_rfl) | (rw [if_neg (by decide +kernel)]; exact ⟨rfl, rfl⟩))
    (fun os started H enc _ => lifted os started H enc)

theorem proved : Rows.CodeLearnsSaid := over

end Go.Proofs.YtjdcjcanmeangaaGreat.codeLearns
