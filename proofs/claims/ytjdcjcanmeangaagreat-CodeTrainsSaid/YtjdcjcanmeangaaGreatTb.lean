/- Learning: one sample. Over this seat's program; the conditions are named in each. (mk_Tb.py wrote this.) -/
import Derived.Test.YtjdcjcanmeangaaGreatTa
namespace Go.Proofs.YtjdcjcanmeangaaGreat
set_option linter.unusedVariables false
open Go.RowKit

theorem cells2b {W : World} {b : Nat} {v0 v1 : Value} {t : TypeId} (h : W.heap[b]? = some (.cells #[v0, v1] t)) : W.cell? ⟨b, 0, none⟩ = some v0 ∧ W.cell? ⟨b, 1, none⟩ = some v1 := ⟨(cells2 h).1, (cells2 h).2.1⟩
theorem cells4 {W : World} {b : Nat} {v0 v1 v2 v3 : Value} {t : TypeId} (h : W.heap[b]? = some (.cells #[v0, v1, v2, v3] t)) :
    W.cell? ⟨b, 0, none⟩ = some v0 ∧ W.cell? ⟨b, 1, none⟩ = some v1 ∧ W.cell? ⟨b, 2, none⟩ = some v2 ∧ W.cell? ⟨b, 3, none⟩ = some v3 ∧ W.frozen? ⟨b, 0, none⟩ = false ∧ W.frozen? ⟨b, 1, none⟩ = false ∧ W.frozen? ⟨b, 2, none⟩ = false ∧ W.frozen? ⟨b, 3, none⟩ = false := by simp [World.cell?, World.frozen?, h]
theorem setCell_ne {W : World} {a : Addr} {v : Value} {b : Nat} (h : b ≠ a.block) : (W.setCell a v).heap[b]? = W.heap[b]? := by
  simp only [World.setCell, Array.getElem?_modify]
  rw [if_neg fun e => h e.symm]
theorem setCell_T1 {W : World} {b : Nat} {v0 v1 v2 v3 x : Value} {t : TypeId} (h : W.heap[b]? = some (.cells #[v0, v1, v2, v3] t)) : (W.setCell ⟨b, 1, none⟩ x).heap[b]? = some (.cells #[v0, x, v2, v3] t) := by
  simp [World.setCell, Array.getElem?_modify, h]
theorem setCell_T2 {W : World} {b : Nat} {v0 v1 v2 v3 x : Value} {t : TypeId} (h : W.heap[b]? = some (.cells #[v0, v1, v2, v3] t)) : (W.setCell ⟨b, 2, none⟩ x).heap[b]? = some (.cells #[v0, v1, x, v3] t) := by
  simp [World.setCell, Array.getElem?_modify, h]
theorem setCell_T3 {W : World} {b : Nat} {v0 v1 v2 v3 x : Value} {t : TypeId} (h : W.heap[b]? = some (.cells #[v0, v1, v2, v3] t)) : (W.setCell ⟨b, 3, none⟩ x).heap[b]? = some (.cells #[v0, v1, v2, x] t) := by
  simp [World.setCell, Array.getElem?_modify, h]
/-- What has been learned, in memory. -/
def TrAt (W : World) (T g n : Nat) (st : TS) (d : Bool) : Prop := W.heap[T]? = some (.cells #[.slice (some ⟨g, 0, none⟩) n n, .int .i64 st.b, .int .i64 (st.u : Int), .bool d] 76) ∧ RowAt W g n st.f
theorem TrAt.below {H : Nat} {W w1 : World} {T g n : Nat} {st : TS} {d : Bool} (h : TrAt W T g n st d) (hb : Below H W w1) (h1 : T < H) (h2 : g < H) : TrAt w1 T g n st d := ⟨(hb.block _ h1).trans h.1, (hb.block _ h2).trans h.2⟩
def mixF (S : Int) (X : List Int) (st : TS) (k : Nat) (i : Nat) : Int := if i < k then st.f i + S * xg X i else st.f i
def LearnGot (w0 : World) (T g n : Nat) (st : TS) (d : Bool) (e : Ending) (w' : World) : Prop := e = .returned (.tuple #[]) ∧ Below w0.heap.size w0 w' ∧ TrAt w' T g n st d
theorem wrap_u (u : Nat) (h : u ≤ 1000000) : wrap64 ((u : Int) + 1) = (u : Int) + 1 := by
  generalize hU : (u : Int) = U
  unfold wrap64; omega
set_option maxRecDepth 100000 in
set_option maxHeartbeats 4000000 in
theorem learn_any (w0 : World) (T g n : Nat) (st : TS) (d : Bool) (X : List Int) (y : Bool) (m : Int) (hT1 : w0.heap.size ≤ T) (hg1 : w0.heap.size ≤ g) (hTg : T ≠ g) (hn : n ≤ 30) (hs : SmpOk n ⟨X, y⟩) (hTB : TB st) (hu : st.u ≤ 255999) (hm : 0 ≤ m ∧ m ≤ 1000000)
    (sa : Option Addr) (c : Nat) (w : World) (hT : TrAt w T g n st d) (hk : RIn w0 (.slice sa n c) X) (hb0 : Below w0.heap.size w0 w) :
    Calls Tryz.prog 85 #[.pointer (some ⟨T, 0, none⟩), .agg #[.slice sa n c, .bool y], .int .i64 m] w (LearnGot w0 T g n (learnS n m st ⟨X, y⟩) d) := by
  have hXL := hs.len
  have hXR : ∀ i, -1000 ≤ xg X i ∧ xg X i ≤ 1000 := fun i => xg_rng hs i
  have hfb : ∀ i, -256000000 ≤ st.f i ∧ st.f i ≤ 256000000 := fun i => by have := hTB.f i; omega
  have hdb := dotF_bound hfb hXR n
  have HW := Lib.hid (fun W h1 h2 => weigh_any st.f X n g hXL hn hfb hXR sa c W h1 h2)
  have hE : (m < sg y * (st.b + dotF st.f (xg X) n) → learnS n m st ⟨X, y⟩ = st) ∧ (¬ m < sg y * (st.b + dotF st.f (xg X) n) → learnS n m st ⟨X, y⟩ = ⟨fun i => st.f i + sg y * xg X i, st.b + sg y, st.u + 1⟩) := ⟨fun h => if_pos h, fun h => if_neg h⟩
  obtain ⟨st', hst⟩ : ∃ s, s = learnS n m st ⟨X, y⟩ := ⟨_, rfl⟩
  rw [← hst] at hE ⊢
  clear hst
  have hbb := hTB.b
  obtain ⟨O, hO⟩ : ∃ O, O = dotF st.f (xg X) n := ⟨_, rfl⟩
  rw [← hO] at hE hdb HW
  obtain ⟨D, hD⟩ : ∃ D, st.b + O = D := ⟨_, rfl⟩
  rw [hD] at hE
  have hDr : -10000000000000 ≤ D ∧ D ≤ 10000000000000 := by omega
  have wD : wrap64 D = D := by unfold wrap64; omega
  have wD2 : wrap64 (-D) = -D := by unfold wrap64; omega
  have H1' : Below w.heap.size w (w.alloc (.cells #[.slice sa n c, .bool y] 74)) := (Below.refl _ _).alloc (Nat.le_refl _) _
  have HT1 := Lib.hid (hT.below H1' (lt_of_block hT.1) (lt_of_block hT.2))
  have HK1 := Lib.hid ((hk.below hb0).below H1')
  have H1 := Lib.hid (hb0.trans (H1'.mono hb0.size))
  have HK0 := Lib.hid hk
  have HXL := Lib.hid hXL
  have HXR := Lib.hid hXR
  have HTB := Lib.hid hTB
  have HTG := Lib.hid (And.intro hTg (And.intro hT1 hg1))
  have HU := Lib.hid hu
  have HBX := Lib.hid (show (w.alloc (.cells #[.slice sa n c, .bool y] 74)).heap[w.heap.size]? = some (.cells #[.slice sa n c, .bool y] 74) from alloc_new_at _ _ _ rfl)
  clear hs hT hk hb0 H1' hXL hXR hfb hdb hO hbb hTB hT1 hg1 hTg hu hDr
  cases y with
  | true =>
    have hsg : sg true = 1 := rfl
    rw [hsg] at hE
    have DX : (1 : Int) * D = D := by omega
    rw [DX] at hE
    go_enter Tryz.func85, Tryz.ntmps85
    go_upto_region 4 with (fail)
    generalize w.alloc (.cells #[.slice sa n c, .bool true] 74) = W1 at *
    obtain ⟨b0, b1⟩ := cells2b HBX.out
    obtain ⟨t0, t1, t2, t3, z0, z1, z2, z3⟩ := cells4 HT1.out.1
    go_quiet ((go_at_call 78; refine Calls.quiet_of (HW.out _ ?_ ?_); exact HT1.out.2; exact HK1.out))
    have HT5 := Lib.hid (show TrAt (W1.drewN nq) T g n st d from HT1.out)
    have HK5 := Lib.hid (show RIn (W1.drewN nq) (.slice sa n c) X from HK1.out)
    have HBX5 := Lib.hid (show (W1.drewN nq).heap[w.heap.size]? = some (.cells #[.slice sa n c, .bool true] 74) from HBX.out)
    have H5 := Lib.hid (below_drewN H1.out nq)
    clear b0 b1 t0 t1 t2 t3 z0 z1 z2 z3
    generalize W1.drewN nq = W5 at *
    obtain ⟨b0, b1⟩ := cells2b HBX5.out
    by_cases hgo : m < D
    · have zz : (m < D) = True := by simp [hgo]
      have HE := Lib.hid (hE.1 hgo)
      clear hE hgo
      go_wp2
      exact bodyPost_ret (results_none rfl _ _ _) rfl ⟨rfl, H5.out, by rw [HE.out]; exact HT5.out⟩
    · have zz : (m < D) = False := by simp [hgo]
      have HE := Lib.hid (hE.2 hgo)
      clear hE hgo
      go_upto_region 6 with (fail)
      go_wp2
      clear b0 b1
      go_loopw [33] (fun s33 wr => ∃ k : Nat, k ≤ n ∧ s33 = .int .i64 k ∧ TrAt wr T g n ⟨mixF 1 X st k, st.b, st.u⟩ d ∧ Below w0.heap.size w0 wr) (fun s33 _ => n - (intOf s33).toNat)
      case atStart => exact ⟨0, Nat.zero_le _, rfl, ⟨HT5.out.1, HT5.out.2.congr fun i _ => by simp [mixF]⟩, H5.out⟩
      case round =>
        obtain ⟨k, hk, rfl, hT, hb⟩ := hrel
        have HT := Lib.hid hT
        have HB := Lib.hid hb
        by_cases hlt : k < n
        · have hi0 : (0 : Int) ≤ (k : Int) := Int.natCast_nonneg _
          have hi1 : (k : Int) < (n : Int) := by omega
          obtain ⟨z, hz⟩ : ∃ z, X[k]? = some z := ⟨_, List.getElem?_eq_getElem (by rw [HXL.out]; exact hlt)⟩
          obtain ⟨ad, rfl, hgl, hcc⟩ := (HK0.out.below hb).at hz
          obtain ⟨hc1, hc2⟩ := (show RowAt wr g n (mixF 1 X st k) from hT.2).cell hlt
          obtain ⟨t0, t1, t2, t3, z0, z1, z2, z3⟩ := cells4 (show wr.heap[T]? = some (.cells #[.slice (some ⟨g, 0, none⟩) n n, .int .i64 st.b, .int .i64 (st.u : Int), .bool d] 76) from hT.1)
          have hzr := HXR.out k
          have hxz : xg X k = z := by unfold xg; rw [hz]; rfl
          rw [hxz] at hzr
          have hfr := HTB.out.f k
          have hmk : mixF 1 X st k k = st.f k := by simp [mixF]
          rw [hmk] at hc1
          obtain ⟨F, hF⟩ : ∃ F, F = st.f k := ⟨_, rfl⟩
          rw [← hF] at hc1 hfr
          have HF := Lib.hid hF
          have HXZ := Lib.hid hxz
          have w1 : wrap64 (F + z) = F + z := by have := HU.out; unfold wrap64; omega
          have w2 : wrap64 (z) = z := by unfold wrap64; omega
          clear hz hb hT hF hxz hmk hk
          go_wp2
          go_roundw
          case rel =>
            refine ⟨k + 1, by omega, by go_num, ⟨(setCell_ne HTG.out.1).trans HT.out.1, ?_⟩, ?_⟩
            · refine (HT.out.2.set hlt _).congr fun i hi => ?_
              simp only [mixF]
              by_cases e : i = k
              · subst e; rw [if_pos rfl, if_pos (by omega), HF.out, HXZ.out]; omega
              · rw [if_neg e]
                by_cases h : i < k
                · rw [if_pos h, if_pos (by omega)]
                · rw [if_neg h, if_neg (by omega)]
            · exact Below.setCell HB.out (by have := HTG.out; simp; omega) _
          case measure => simp [intOf]; omega
        · obtain rfl : k = n := by omega
          obtain ⟨t0, t1, t2, t3, z0, z1, z2, z3⟩ := cells4 (show wr.heap[T]? = some (.cells #[.slice (some ⟨g, 0, none⟩) k k, .int .i64 st.b, .int .i64 (st.u : Int), .bool d] 76) from hT.1)
          have htt := lt_of_block hT.1
          have hbb := HTB.out.b
          have hu := HU.out
          have w1 : wrap64 (st.b + 1) = st.b + 1 := by unfold wrap64; omega
          clear hlt hk hb hT
          go_wp2
          refine bodyPost_end (results_none rfl _ _ _) rfl ⟨rfl, ?_, ?_⟩
          · exact Below.setCell (Below.setCell HB.out (by have := HTG.out; simp; omega) _) (by have := HTG.out; simp; omega) _
          · rw [HE.out]
            refine ⟨?_, ?_⟩
            · rw [setCell_T2 (setCell_T1 HT.out.1)]
              congr 1
            · have e : ∀ W v o, RowAt W g k (mixF 1 X st k) → RowAt (World.setCell W ⟨T, o, none⟩ v) g k (mixF 1 X st k) := fun W v o h => (setCell_ne HTG.out.1.symm).trans h
              exact (e _ _ _ (e _ _ _ HT.out.2)).congr fun i hi => by simp only [mixF, if_pos hi]
  | false =>
    have hsg : sg false = (-1) := rfl
    rw [hsg] at hE
    have DX : ((-1) : Int) * D = -D := by omega
    rw [DX] at hE
    go_enter Tryz.func85, Tryz.ntmps85
    go_upto_region 4 with (fail)
    generalize w.alloc (.cells #[.slice sa n c, .bool false] 74) = W1 at *
    obtain ⟨b0, b1⟩ := cells2b HBX.out
    obtain ⟨t0, t1, t2, t3, z0, z1, z2, z3⟩ := cells4 HT1.out.1
    go_quiet ((go_at_call 78; refine Calls.quiet_of (HW.out _ ?_ ?_); exact HT1.out.2; exact HK1.out))
    have HT5 := Lib.hid (show TrAt (W1.drewN nq) T g n st d from HT1.out)
    have HK5 := Lib.hid (show RIn (W1.drewN nq) (.slice sa n c) X from HK1.out)
    have HBX5 := Lib.hid (show (W1.drewN nq).heap[w.heap.size]? = some (.cells #[.slice sa n c, .bool false] 74) from HBX.out)
    have H5 := Lib.hid (below_drewN H1.out nq)
    clear b0 b1 t0 t1 t2 t3 z0 z1 z2 z3
    generalize W1.drewN nq = W5 at *
    obtain ⟨b0, b1⟩ := cells2b HBX5.out
    by_cases hgo : m < -D
    · have zz : (m < -D) = True := by simp [hgo]
      have HE := Lib.hid (hE.1 hgo)
      clear hE hgo
      go_wp2
      exact bodyPost_ret (results_none rfl _ _ _) rfl ⟨rfl, H5.out, by rw [HE.out]; exact HT5.out⟩
    · have zz : (m < -D) = False := by simp [hgo]
      have HE := Lib.hid (hE.2 hgo)
      clear hE hgo
      go_upto_region 6 with (fail)
      go_wp2
      clear b0 b1
      go_loopw [33] (fun s33 wr => ∃ k : Nat, k ≤ n ∧ s33 = .int .i64 k ∧ TrAt wr T g n ⟨mixF (-1) X st k, st.b, st.u⟩ d ∧ Below w0.heap.size w0 wr) (fun s33 _ => n - (intOf s33).toNat)
      case atStart => exact ⟨0, Nat.zero_le _, rfl, ⟨HT5.out.1, HT5.out.2.congr fun i _ => by simp [mixF]⟩, H5.out⟩
      case round =>
        obtain ⟨k, hk, rfl, hT, hb⟩ := hrel
        have HT := Lib.hid hT
        have HB := Lib.hid hb
        by_cases hlt : k < n
        · have hi0 : (0 : Int) ≤ (k : Int) := Int.natCast_nonneg _
          have hi1 : (k : Int) < (n : Int) := by omega
          obtain ⟨z, hz⟩ : ∃ z, X[k]? = some z := ⟨_, List.getElem?_eq_getElem (by rw [HXL.out]; exact hlt)⟩
          obtain ⟨ad, rfl, hgl, hcc⟩ := (HK0.out.below hb).at hz
          obtain ⟨hc1, hc2⟩ := (show RowAt wr g n (mixF (-1) X st k) from hT.2).cell hlt
          obtain ⟨t0, t1, t2, t3, z0, z1, z2, z3⟩ := cells4 (show wr.heap[T]? = some (.cells #[.slice (some ⟨g, 0, none⟩) n n, .int .i64 st.b, .int .i64 (st.u : Int), .bool d] 76) from hT.1)
          have hzr := HXR.out k
          have hxz : xg X k = z := by unfold xg; rw [hz]; rfl
          rw [hxz] at hzr
          have hfr := HTB.out.f k
          have hmk : mixF (-1) X st k k = st.f k := by simp [mixF]
          rw [hmk] at hc1
          obtain ⟨F, hF⟩ : ∃ F, F = st.f k := ⟨_, rfl⟩
          rw [← hF] at hc1 hfr
          have HF := Lib.hid hF
          have HXZ := Lib.hid hxz
          have w1 : wrap64 (F + -z) = F + -z := by have := HU.out; unfold wrap64; omega
          have w2 : wrap64 (-z) = -z := by unfold wrap64; omega
          clear hz hb hT hF hxz hmk hk
          go_wp2
          go_roundw
          case rel =>
            refine ⟨k + 1, by omega, by go_num, ⟨(setCell_ne HTG.out.1).trans HT.out.1, ?_⟩, ?_⟩
            · refine (HT.out.2.set hlt _).congr fun i hi => ?_
              simp only [mixF]
              by_cases e : i = k
              · subst e; rw [if_pos rfl, if_pos (by omega), HF.out, HXZ.out]; omega
              · rw [if_neg e]
                by_cases h : i < k
                · rw [if_pos h, if_pos (by omega)]
                · rw [if_neg h, if_neg (by omega)]
            · exact Below.setCell HB.out (by have := HTG.out; simp; omega) _
          case measure => simp [intOf]; omega
        · obtain rfl : k = n := by omega
          obtain ⟨t0, t1, t2, t3, z0, z1, z2, z3⟩ := cells4 (show wr.heap[T]? = some (.cells #[.slice (some ⟨g, 0, none⟩) k k, .int .i64 st.b, .int .i64 (st.u : Int), .bool d] 76) from hT.1)
          have htt := lt_of_block hT.1
          have hbb := HTB.out.b
          have hu := HU.out
          have w1 : wrap64 (st.b + (-1)) = st.b + (-1) := by unfold wrap64; omega
          clear hlt hk hb hT
          go_wp2
          refine bodyPost_end (results_none rfl _ _ _) rfl ⟨rfl, ?_, ?_⟩
          · exact Below.setCell (Below.setCell HB.out (by have := HTG.out; simp; omega) _) (by have := HTG.out; simp; omega) _
          · rw [HE.out]
            refine ⟨?_, ?_⟩
            · rw [setCell_T2 (setCell_T1 HT.out.1)]
              congr 1
            · have e : ∀ W v o, RowAt W g k (mixF (-1) X st k) → RowAt (World.setCell W ⟨T, o, none⟩ v) g k (mixF (-1) X st k) := fun W v o h => (setCell_ne HTG.out.1.symm).trans h
              exact (e _ _ _ (e _ _ _ HT.out.2)).congr fun i hi => by simp only [mixF, if_pos hi]
end Go.Proofs.YtjdcjcanmeangaaGreat
