/- The builder's synapse, the specification's wire. Over this seat's program. (mk_Gf.py wrote this.) -/
import Derived.Test.YtmgdildbngbibaaGe
namespace Go.Proofs.Ytmgdildbngbibaa
set_option linter.unusedVariables false
open Go.RowKit Go.Shelf

set_option maxRecDepth 100000 in
set_option maxHeartbeats 2000000 in
theorem synapse_any (s : Syn) (B : Nat) (ps : List Prm) (inp : Int) (ss : List Syn) (vn vs : Value) (hl : ss.length ≤ 100000) (w : World) (h : BdAt w B ps inp ss vn vs) :
    Calls Try.prog 52 #[.pointer (some ⟨B, 0, none⟩), .int .i64 s.fr, .int .i64 s.to, .int .i64 s.wt, .int .i64 s.dl] w (BdGot B vn vs ps inp (ss ++ [s]) w) := by
  obtain ⟨i0, hi, hz0, hzz1, hzz2⟩ := info_parts info_Y
  obtain ⟨va, vc, rfl⟩ := own_slC h.rs
  have hBl := lt_of_block h.blk
  obtain ⟨n, hn⟩ : ∃ n, n = ss.length := ⟨_, rfl⟩
  have HN := Lib.hid hn
  have HB := Lib.hid h
  rw [← hn] at hl
  have hb0 := h.blk
  have hro := h.rs
  rw [← hn] at hb0 hro
  have HRO := Lib.hid hro
  have HB0 := Lib.hid hb0
  obtain ⟨z0, z1, z2⟩ := cells3 hb0
  have HNEW := Lib.hid (show (w.alloc (.cells #[.int .i64 s.fr, .int .i64 s.to, .int .i64 s.wt, .int .i64 s.dl] 128)).heap[w.heap.size]? = some (.cells ⟨[.int .i64 s.fr, .int .i64 s.to, .int .i64 s.wt, .int .i64 s.dl]⟩ 128) from alloc_new_at _ _ _ rfl)
  clear h hn hb0 hro
  go_enter Try.func52, Try.ntmps52
  go_wp2_with (at_builtin; go_must (refine wpList_append_where _ rfl _ _ 30 rfl (B + 1) 128 i0 _ 4 32 Try.underlying30 hi hz0 hzz1 hzz2 rfl (by decide) _ _ _ rfl (HRO.out.alloc _) ⟨w.heap.size, 0, none⟩ 1 1 (by decide) [.int .i64 s.fr, .int .i64 s.to, .int .i64 s.wt, .int .i64 s.dl] rfl rfl (cells_new HNEW.out) (by simp [Value.oneCell']) (by unfold maxLen; omega) (by omega) (by simp; omega) ?_); intro v' W8 hown' hgrow hwh; obtain ⟨va2, vc2, rfl⟩ := own_slC hown'; have hb8 := (hgrow.block B (by simp; omega) (fun e => by have := (HRO.out.lt _ e.symm).1; omega)).trans ((Below.heap_alloc _ _ _ hBl).trans HB0.out); obtain ⟨y0, y1, y2⟩ := cells3 hb8; have yf : W8.frozen? ⟨B, 2, none⟩ = false := (by simp [World.frozen?, hb8]); have HB8 := Lib.hid hb8; have HOW := Lib.hid hown'; have HGR := Lib.hid hgrow; have HWH := Lib.hid hwh; clear hown' hgrow hwh hb8 z0 z1 z2)
  have hs8 := HGR.out.size
  rw [World.size_alloc] at hs8
  have hbl : Below B w W8 := ⟨HGR.out.os, HGR.out.tape, HGR.out.output, by omega, fun k hk => by
    rw [HGR.out.block k (by rw [World.size_alloc]; omega) (fun e => by have := (HRO.out.lt _ e.symm).1; omega), Below.heap_alloc _ _ _ (by omega)]⟩
  have hfin : BdAt (W8.setCell ⟨B, 2, none⟩ (.slice va2 (n + 1) vc2)) B ps inp (ss ++ [s]) vn (.slice va2 (n + 1) vc2) := by
    refine ⟨by simpa using setCell_own (i := 2) (.slice va2 (n + 1) vc2) HB8.out, ?_, ?_, ?_⟩
    · refine ownsRow_of_block HB.out.rn fun g hg => ?_
      have h1 := HB.out.rn.lt g hg
      rw [setCell_o (by omega), HGR.out.block g (by rw [World.size_alloc]; omega) (fun e => HB.out.ne g hg (by rw [← HN.out]; exact e.symm)), Below.heap_alloc _ _ _ h1.2]
    · rw [synCs_snoc, List.length_append, ← HN.out]
      exact ownsRow_of_block HOW.out fun g hg => setCell_o (by have := (HOW.out.lt g hg).1; omega)
    · intro g hg e
      rcases HWH.out with q | q
      · rw [q] at e; exact HB.out.ne g hg (by rw [← HN.out]; exact e)
      · rw [q, World.size_alloc] at e; cases e; have := (HB.out.rn.lt _ hg).2; omega
  have hfr : BdFr B vn (.slice va ss.length vc) vn (.slice va2 (n + 1) vc2) w (W8.setCell ⟨B, 2, none⟩ (.slice va2 (n + 1) vc2)) := ⟨Below.setCell hbl (Nat.le_refl _) _, fun b h1 h2 _ h4 => by
    rw [setCell_o h2, HGR.out.block b (by rw [World.size_alloc]; omega) (fun e => h4 (by rw [← HN.out]; exact e.symm)), Below.heap_alloc _ _ _ h1], fun g hg => .inl hg, fun g hg => by
    rcases HWH.out with q | q
    · rw [q, HN.out] at hg; exact .inl hg
    · rw [q, World.size_alloc] at hg; cases hg; exact .inr (by omega)⟩
  exact bodyPost_ret (v := .tuple #[]) (by simp [results, Try.results52, go_sem]) rfl ⟨rfl, _, _, hfin, hfr⟩

/-- What wire leaves. -/
def WiGot (H : Nat) (vn : Value) (inp : Int) (ss : List Syn) (vs : Value) (w : World) (e : Ending) (w' : World) : Prop :=
  ∃ vs', e = .returned (.agg #[vn, .int .i64 inp, vs']) ∧ w'.ownsRow H 128 4 vs' ss.length (synCs ss) ∧ Below H w w' ∧ (∀ b, b < w.heap.size → vs.ownBlock ≠ some b → w'.heap[b]? = w.heap[b]?) ∧ (vs'.ownBlock = vs.ownBlock ∨ ∃ g, vs'.ownBlock = some g ∧ w.heap.size ≤ g)
set_option maxRecDepth 100000 in
set_option maxHeartbeats 2000000 in
theorem wire_any (s : Syn) (H : Nat) (an : Option Addr) (nn cn : Nat) (inp : Int) (ss : List Syn) (vs : Value) (hl : ss.length ≤ 100000) (w : World) (hH : H ≤ w.heap.size) (h : w.ownsRow H 128 4 vs ss.length (synCs ss)) :
    Calls Try.prog 56 #[.agg #[.slice an nn cn, .int .i64 inp, vs], .int .i64 s.fr, .int .i64 s.to, .int .i64 s.wt, .int .i64 s.dl] w (WiGot H (.slice an nn cn) inp (ss ++ [s]) vs w) := by
  obtain ⟨i0, hi, hz0, hzz1, hzz2⟩ := info_parts info_Y
  obtain ⟨va, vc, rfl⟩ := own_slC h
  obtain ⟨n, hn⟩ : ∃ n, n = ss.length := ⟨_, rfl⟩
  have HN := Lib.hid hn
  rw [← hn] at hl h ⊢
  have HRO := Lib.hid h
  obtain ⟨W0, hW0⟩ : ∃ W0, W0 = (w.alloc (.cells #[.slice an nn cn, .int .i64 inp, .slice va n vc] 32)).alloc (.cells #[.slice none 0 0, .int .i64 0, .slice none 0 0] 32) := ⟨_, rfl⟩
  clear h hn
  go_enter Try.func56, Try.ntmps56
  go_upto_region 1 with (fail)
  rw [← hW0]
  have hs0 : W0.heap.size = w.heap.size + 2 := by rw [hW0]; simp
  have hb0 : W0.heap[w.heap.size]? = some (.cells #[.slice an nn cn, .int .i64 inp, .slice va n vc] 32) := by rw [hW0]; exact (Below.heap_alloc _ _ _ (by simp)).trans (alloc_new_at _ _ _ rfl)
  have hb1 : W0.heap[w.heap.size + 1]? = some (.cells #[.slice none 0 0, .int .i64 0, .slice none 0 0] 32) := by rw [hW0]; exact alloc_new_at _ _ _ (by simp)
  have hbl0 : Below w.heap.size w W0 := by rw [hW0]; exact ((Below.refl _ _).alloc (Nat.le_refl _) _).alloc (by simp) _
  have HR0 := Lib.hid (ownsBelow HRO.out hbl0)
  have HB0 := Lib.hid hb0
  have HB1 := Lib.hid hb1
  have HBL0 := Lib.hid hbl0
  have HS0 := Lib.hid hs0
  obtain ⟨z0, z1, z2⟩ := cells3 hb0
  have hl0 : w.heap.size < W0.heap.size := by omega
  have hl1 : w.heap.size + 1 < W0.heap.size := by omega
  have HNEW := Lib.hid (show (W0.alloc (.cells #[.int .i64 s.fr, .int .i64 s.to, .int .i64 s.wt, .int .i64 s.dl] 128)).heap[W0.heap.size]? = some (.cells ⟨[.int .i64 s.fr, .int .i64 s.to, .int .i64 s.wt, .int .i64 s.dl]⟩ 128) from alloc_new_at _ _ _ rfl)
  clear hW0 hs0 hb0 hb1 hbl0
  go_wp2_with (at_builtin; go_must (refine wpList_append_where _ rfl _ _ 30 rfl H 128 i0 _ 4 32 Try.underlying30 hi hz0 hzz1 hzz2 rfl (by decide) _ _ _ rfl (HR0.out.alloc _) ⟨W0.heap.size, 0, none⟩ 1 1 (by decide) [.int .i64 s.fr, .int .i64 s.to, .int .i64 s.wt, .int .i64 s.dl] rfl rfl (cells_new HNEW.out) (by simp [Value.oneCell']) (by unfold maxLen; omega) (by omega) (by simp; omega) ?_); intro v' W8 hown' hgrow hwh; obtain ⟨va2, vc2, rfl⟩ := own_slC hown'; have hk : ∀ b, b < W0.heap.size → (Value.slice va n vc).ownBlock ≠ some b → W8.heap[b]? = W0.heap[b]? := (fun b hb hne => (hgrow.block b (by simp; omega) (fun e => hne e.symm)).trans (Below.heap_alloc _ _ _ hb)); have hb8 := (hk _ hl0 (fun e => by have := (HRO.out.lt _ e).2; omega)).trans HB0.out; have hb9 := (hk _ hl1 (fun e => by have := (HRO.out.lt _ e).2; omega)).trans HB1.out; obtain ⟨y0, y1, y2⟩ := cells3 hb8; obtain ⟨x0, x1, x2⟩ := cells3 hb9; have yf : W8.frozen? ⟨w.heap.size, 2, none⟩ = false := (by simp [World.frozen?, hb8]); have xf0 : W8.frozen? ⟨w.heap.size + 1, 0, none⟩ = false := (by simp [World.frozen?, hb9]); have xf1 : W8.frozen? ⟨w.heap.size + 1, 1, none⟩ = false := (by simp [World.frozen?, hb9]); have xf2 : W8.frozen? ⟨w.heap.size + 1, 2, none⟩ = false := (by simp [World.frozen?, hb9]); have HK := Lib.hid hk; have HB8 := Lib.hid hb8; have HB9 := Lib.hid hb9; have HOW := Lib.hid hown'; have HGR := Lib.hid hgrow; have HWH := Lib.hid hwh; clear hown' hgrow hwh hb8 hb9 hk z0 z1 z2)
  have hs8 := HGR.out.size
  rw [World.size_alloc] at hs8
  have hs0 := HS0.out
  have hfr : ∀ b, b ≠ w.heap.size → b ≠ w.heap.size + 1 → ((((W8.setCell ⟨w.heap.size, 2, none⟩ (.slice va2 (n + 1) vc2)).setCell ⟨w.heap.size + 1, 0, none⟩ (.slice an nn cn)).setCell ⟨w.heap.size + 1, 1, none⟩ (.int .i64 inp)).setCell ⟨w.heap.size + 1, 2, none⟩ (.slice va2 (n + 1) vc2)).heap[b]? = W8.heap[b]? := fun b h1 h2 => by
    rw [setCell_o h2, setCell_o h2, setCell_o h2, setCell_o h1]
  have hr1 := setCell_own (i := 2) (.slice va2 (n + 1) vc2) (setCell_own (i := 1) (.int .i64 inp) (setCell_own (i := 0) (.slice an nn cn) ((setCell_o (W := W8) (g := w.heap.size) (i := 2) (u := .slice va2 (n + 1) vc2) (b := w.heap.size + 1) (by omega)).trans HB9.out)))
  simp only [List.setIfInBounds_toArray, List.set_cons_succ, List.set_cons_zero] at hr1
  obtain ⟨d0, d1, d2⟩ := cells3 hr1
  have hbe : Below H w ((((W8.setCell ⟨w.heap.size, 2, none⟩ (.slice va2 (n + 1) vc2)).setCell ⟨w.heap.size + 1, 0, none⟩ (.slice an nn cn)).setCell ⟨w.heap.size + 1, 1, none⟩ (.int .i64 inp)).setCell ⟨w.heap.size + 1, 2, none⟩ (.slice va2 (n + 1) vc2)) := by
    have h8 : Below H w W8 := (HBL0.out.mono hH).trans ⟨HGR.out.os, HGR.out.tape, HGR.out.output, by omega, fun k hk => HK.out k (by omega) (fun e => by have := (HRO.out.lt _ e).1; omega)⟩
    exact Below.setCell (Below.setCell (Below.setCell (Below.setCell h8 hH _) (by simp only; omega) _) (by simp only; omega) _) (by simp only; omega) _
  have how : (((((W8.setCell ⟨w.heap.size, 2, none⟩ (.slice va2 (n + 1) vc2)).setCell ⟨w.heap.size + 1, 0, none⟩ (.slice an nn cn)).setCell ⟨w.heap.size + 1, 1, none⟩ (.int .i64 inp)).setCell ⟨w.heap.size + 1, 2, none⟩ (.slice va2 (n + 1) vc2))).ownsRow H 128 4 (.slice va2 (n + 1) vc2) (n + 1) (synCs ss ++ synV s) := by
    have hx : ∀ g, (Value.slice va2 (n + 1) vc2).ownBlock = some g → g < w.heap.size ∨ W0.heap.size ≤ g := fun g hg => by
      rcases HWH.out with q | q
      · rw [q] at hg; exact .inl (HRO.out.lt g hg).2
      · rw [q, World.size_alloc] at hg; cases hg; right; omega
    exact ownsRow_of_block HOW.out fun g hg => hfr g (by rcases hx g hg with h | h <;> omega) (by rcases hx g hg with h | h <;> omega)
  exact bodyPost_ret (v := .agg #[.slice an nn cn, .int .i64 inp, .slice va2 (n + 1) vc2]) (by simp [results, Try.results56, go_sem, d0, d1, d2]) rfl ⟨_, rfl, by rw [synCs_snoc, List.length_append, ← HN.out]; exact how, hbe, fun b hb hne => by
    rw [hfr b (by omega) (by omega), HK.out b (by omega) hne, HBL0.out.block b hb], by
    rcases HWH.out with q | q
    · exact .inl q
    · exact .inr ⟨_, q, by rw [World.size_alloc]; omega⟩⟩
end Go.Proofs.Ytmgdildbngbibaa
