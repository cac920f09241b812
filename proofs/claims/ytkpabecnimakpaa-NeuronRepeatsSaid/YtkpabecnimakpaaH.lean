/- neuron.Run and Silent. -/
import Derived.Test.YtkpabecnimakpaaF
import Derived.Deep.RegionHeld3
import Derived.Deep.RegionWith
import Derived.Deep.Cut
import Derived.BigRegion
namespace Go.Proofs.Ytkpabecnimakpaa
set_option linter.unusedVariables false
open Go.RowKit Go.Shelf

/-- neuron.collect, as a plain call. -/
theorem collect_any (p : Prm) (h : Ok p) (V R : Int) (hV : p.fl ≤ V) (hV' : V ≤ 1048576) (hR : 0 ≤ R) (hR' : R ≤ p.re)
    (ins : List Int) (hlen : ins.length ≤ 3000000) (gf : Nat) (lb : Array Value) (eg : ∀ args w, (callFunc gf args).run Try.prog w = .ok (.enter gf args) w) (w : World) (CapI : Nat → Prop)
    (hin : Gives Try.prog gf lb (fun x : Int => #[.int .i64 x]) ins CapI w) (hCapI : ∀ b, CapI b → b < w.heap.size) :
    Calls Try.prog 45 #[.agg #[.int .i64 p.lk, .int .i64 p.lv, .int .i64 p.bi, .int .i64 p.th, .int .i64 p.rk, .int .i64 p.rs, .int .i64 p.fl, .int .i64 p.re], .agg #[.int .i64 V, .int .i64 R], .func (.func gf) #[] lb] w (Collected p V R ins w) := by
  obtain ⟨lo, hi, fi, _, hk, _, hst⟩ := kinds h
  exact callsIn_wide.1 (collect_in p h lo hi fi hk hst V R hV hV' hR hR' ins hlen gf lb eg w CapI hin hCapI)

theorem alloc_old_new (W : World) (o o' : Obj) : ((W.alloc o).alloc o').heap[W.heap.size]? = some o := by rw [Below.heap_alloc _ _ _ (by simp)]; exact World.alloc_heap_new _ _

theorem IntsAt.below {w W : World} {sv : Value} {zs : List Int} (h : IntsAt w sv zs) (hb : Below w.heap.size w W) : IntsAt W sv zs := by
  rcases h with h | ⟨b, off, cap, e, hc⟩
  · exact Or.inl h
  · exact Or.inr ⟨b, off, cap, e, fun j hj => (hb.cell (p := ⟨b, off + j, none⟩) (World.block_lt_of_cell? w _ (hc j hj))).trans (hc j hj)⟩

/-- What Run returns where it returns no error: the ticks with spikes, the state, 0. -/
def RunDone (p : Prm) (V R : Int) (ins : List Int) (w : World) (e : Ending) (w' : World) : Prop :=
  ∃ v, e = .returned (.tuple #[v, .agg #[.int .i64 (after p V R ins).1, .int .i64 (after p V R ins).2], .int .i64 0]) ∧
    w'.ownsRow w.heap.size 3 1 v (spkL (runL p V R ins) ins.length).length ((spkL (runL p V R ins) ins.length).map (Value.int .i64)) ∧ Below w.heap.size w w'

theorem cell_two_far {W : World} {b o c : Nat} {x u u' : Value} (h : W.cell? ⟨b, o, none⟩ = some x) (hne : b ≠ c) : ((W.setCell ⟨c, 0, none⟩ u).setCell ⟨c, 1, none⟩ u').cell? ⟨b, o, none⟩ = some x := by
  rw [← h]; exact World.cell?_of_block (w := W) (by rw [Below.heap_setCell _ _ _ _ (by exact hne), Below.heap_setCell _ _ _ _ (by exact hne)])

/-- What a block of parameters, or of a state, reads as. -/
def PrmAt (p : Prm) (b : Nat) (W : World) : Prop := W.heap[b]? = some (.cells #[.int .i64 p.lk, .int .i64 p.lv, .int .i64 p.bi, .int .i64 p.th, .int .i64 p.rk, .int .i64 p.rs, .int .i64 p.fl, .int .i64 p.re] 23)
def StAt (V R : Int) (b : Nat) (W : World) : Prop := W.heap[b]? = some (.cells #[.int .i64 V, .int .i64 R] 25)

/-- What collect has left, for the caller whose world was w1. -/
def ColAt (p : Prm) (V R : Int) (ins : List Int) (w1 W : World) (e : Ending) (w2 : World) : Prop :=
  ∃ v, e = .returned (.tuple #[v, .agg #[.int .i64 (after p V R ins).1, .int .i64 (after p V R ins).2]]) ∧
    w2.ownsRow w1.heap.size 3 1 v (spkL (runL p V R ins) ins.length).length ((spkL (runL p V R ins) ins.length).map (Value.int .i64)) ∧ (∀ g, v.ownBlock = some g → W.heap.size ≤ g) ∧ Below W.heap.size W w2 ∧ Below w1.heap.size w1 w2

set_option maxRecDepth 100000 in
set_option maxHeartbeats 1000000 in
theorem run_ok (p : Prm) (V R : Int) (hv : validP p V R = 0) (a : Option Addr) (cap : Nat) (zs : List Int) (hlen : zs.length ≤ 10000) (w : World) (hI : IntsAt w (.slice a zs.length cap) zs) :
    Calls Try.prog 24 #[.agg #[.int .i64 p.lk, .int .i64 p.lv, .int .i64 p.bi, .int .i64 p.th, .int .i64 p.rk, .int .i64 p.rs, .int .i64 p.fl, .int .i64 p.re], .agg #[.int .i64 V, .int .i64 R], .slice a zs.length cap] w (RunDone p V R zs w) := by
  have hv' : (validP p V R != 0) = false := by simp [hv]
  obtain ⟨hok, k1, k2, k3, k4⟩ := ok_of_valid hv
  have hcol : ∀ (w1 W : World) (bS : Nat), Below w.heap.size w w1 → W.heap[bS]? = some (.cells #[.slice a zs.length cap] 35) → Below w1.heap.size w1 W →
      Calls Try.prog 45 #[.agg #[.int .i64 p.lk, .int .i64 p.lv, .int .i64 p.bi, .int .i64 p.th, .int .i64 p.rk, .int .i64 p.rs, .int .i64 p.fl, .int .i64 p.re], .agg #[.int .i64 V, .int .i64 R], .func (.func 58) #[] #[.pointer (some ⟨bS, 0, none⟩)]] W (ColAt p V R zs w1 W) := by
    intro w1 W bS h0 h1 h2
    refine (collect_any p hok V R k1 k2 k3 k4 zs (by omega) 58 _ enters58 W _ (values1_gives bS _ zs (by omega) W h1 (hI.below (h0.trans (h2.mono h0.size)))) ?_).mono ?_
    · rintro b (rfl | ⟨_, hb⟩)
      · exact lt_of_block h1
      · exact hb
    · rintro e w2 ⟨v, he, ho, hb⟩
      exact ⟨v, he, ⟨ho.1, ho.2.imp id fun ⟨g, cap, cur, x1, x2, x3⟩ => ⟨g, cap, cur, x1, Nat.le_trans h2.size x2, x3⟩⟩, fun g hg => (ho.lt g hg).1, hb, h2.trans (hb.mono h2.size)⟩
  have HC := Lib.hid hcol
  have HK := Lib.hid hok
  clear hI hv hcol hok k1 k2 k3 k4
  go_enter Try.func24, Try.ntmps24
  go_wp2_with (go_at_call 19; refine (valid_any p V R _).mono ?_; rintro e w1 ⟨rfl, hb1⟩; obtain ⟨hc1, hf1⟩ := bcell hb1; have hz1 : w.heap.size + 2 < w1.heap.size := by have := hb1.size; simp at this; omega)
  have hb2 : Below w.heap.size w w1 := (((Below.refl _ _).alloc (Nat.le_refl _) _).alloc (by simp) _ |>.alloc (by simp <;> omega) _).trans (hb1.mono (by simp <;> omega))
  have pA : PrmAt p w.heap.size w1 := by
    unfold PrmAt; rw [hb1.block _ (by simp <;> omega), Below.heap_alloc _ _ _ (by simp <;> omega), Below.heap_alloc _ _ _ (by simp <;> omega)]; exact alloc_new_at _ _ _ rfl
  have sA : StAt V R (w.heap.size + 1) w1 := by
    unfold StAt; rw [hb1.block _ (by simp <;> omega), Below.heap_alloc _ _ _ (by simp <;> omega)]; exact alloc_new_at _ _ _ (by simp)
  have tA : StAt 0 0 (w.heap.size + 1 + 1) w1 := by
    unfold StAt; rw [hb1.block _ (by simp <;> omega)]; exact alloc_new_at _ _ _ (by simp)
  obtain ⟨q0, q1, q2, q3, q4, q5, q6, q7⟩ := cells8 pA
  obtain ⟨r0, r1, _, _⟩ := cells2 sA
  have e1 : ¬ w.heap.size = w1.heap.size + 1 := by omega
  have e2 : ¬ w.heap.size = w1.heap.size := by omega
  have e3 : ¬ w.heap.size + 1 = w1.heap.size := by omega
  have e4 : ¬ w.heap.size + 1 = w1.heap.size + 1 := by omega
  have e7 : ¬ w.heap.size + 1 + 1 = w1.heap.size := by omega
  have e8 : ¬ w.heap.size + 1 + 1 = w1.heap.size + 1 := by omega
  have HB2 := Lib.hid hb2
  have PA := Lib.hid pA
  have SA := Lib.hid sA
  have TA := Lib.hid tA
  clear hb1 hb2 hc1 hf1 pA sA tA
  go_region_held3 (fun w' => w'.cell? ⟨w.heap.size, 0, none⟩ = some (.int .i64 p.lk) ∧ w'.cell? ⟨w.heap.size, 1, none⟩ = some (.int .i64 p.lv) ∧ w'.cell? ⟨w.heap.size, 2, none⟩ = some (.int .i64 p.bi) ∧ w'.cell? ⟨w.heap.size, 3, none⟩ = some (.int .i64 p.th) ∧ w'.cell? ⟨w.heap.size, 4, none⟩ = some (.int .i64 p.rk) ∧ w'.cell? ⟨w.heap.size, 5, none⟩ = some (.int .i64 p.rs) ∧ w'.cell? ⟨w.heap.size, 6, none⟩ = some (.int .i64 p.fl) ∧ w'.cell? ⟨w.heap.size, 7, none⟩ = some (.int .i64 p.re) ∧ w'.cell? ⟨w.heap.size + 1, 0, none⟩ = some (.int .i64 V) ∧ w'.cell? ⟨w.heap.size + 1, 1, none⟩ = some (.int .i64 R)) (first | go_keep | (refine ⟨?_, ?_, ?_, ?_, ?_, ?_, ?_, ?_, ?_, ?_⟩ <;> (refine cell_two_far ?_ ?_; assumption; omega)))
    (first | (go_at_call 46; refine (values_any _ _ _ _).mono ?_; rintro e w' ⟨rfl, rfl⟩) | (go_at_call 45; refine (HC.out w1 _ _ HB2.out (by first | exact alloc_new_at _ _ _ rfl | exact alloc_old_new _ _ _ | exact alloc_new_at _ _ _ (by simp)) (by first | exact (((Below.refl _ w1).alloc (Nat.le_refl _) _).drew) | exact ((((Below.refl _ w1).alloc (Nat.le_refl _) _).alloc (by simp) _).drew))).mono ?_; rintro e w2 ⟨v, rfl, ho, hg, hb3, hb4⟩; obtain ⟨hc3, hf3⟩ := bcell hb3; have hz3 : w1.heap.size < w2.heap.size := (by have := hb3.size; simp at this; omega); obtain ⟨v0, v1, v2, v3, v4, v5, v6, v7⟩ := cells8 ((hb4.block _ (by omega)).trans PA.out); obtain ⟨u0, u1, _, _⟩ := cells2 ((hb4.block _ (by omega)).trans SA.out); obtain ⟨y0, y1, yf0, yf1⟩ := cells2 ((hb4.block _ (by omega)).trans TA.out); have e9 : ¬ w.heap.size + 1 + 1 = w2.heap.size := (by omega); have e10 : w.heap.size + 1 + 1 < w2.heap.size := (by omega); have e11 : w1.heap.size < w2.heap.size := (by omega); have e5 : ¬ w.heap.size = w2.heap.size := (by omega); have e6 : ¬ w.heap.size + 1 = w2.heap.size := (by omega); have HO3 := Lib.hid ho; have HG3 := Lib.hid hg; have HB3 := Lib.hid hb3; have HB4 := Lib.hid hb4; clear ho hg hb3 hb4))
  · have hx2 : (w2.alloc (.cells #[.int .i64 (after p V R zs).1, .int .i64 (after p V R zs).2] 25)).heap[w2.heap.size]? = some (.cells #[.int .i64 (after p V R zs).1, .int .i64 (after p V R zs).2] 25) := World.alloc_heap_new _ _
    have hy : (w2.alloc (.cells #[.int .i64 (after p V R zs).1, .int .i64 (after p V R zs).2] 25)).heap[w.heap.size + 1 + 1]? = some (.cells #[.int .i64 0, .int .i64 0] 25) := by rw [Below.heap_alloc _ _ _ (by omega), HB4.out.block _ (by omega)]; exact TA.out
    have hbb : Below w1.heap.size w1 (w2.alloc (.cells #[.int .i64 (after p V R zs).1, .int .i64 (after p V R zs).2] 25)) := HB4.out.alloc (by omega) _
    have hrow : (w2.alloc (.cells #[.int .i64 (after p V R zs).1, .int .i64 (after p V R zs).2] 25)).ownsRow w1.heap.size 3 1 v (spkL (runL p V R zs) zs.length).length ((spkL (runL p V R zs) zs.length).map (Value.int .i64)) := ownsRow_of_block HO3.out fun g hg => Below.heap_alloc _ _ _ (HO3.out.lt g hg).2
    clear y0 y1 yf0 yf1 hc3 hf3
    generalize w2.alloc (.cells #[.int .i64 (after p V R zs).1, .int .i64 (after p V R zs).2] 25) = W4 at *
    obtain ⟨x0, x1, _, _⟩ := cells2 hx2
    obtain ⟨y0, y1, yf0, yf1⟩ := cells2 hy
    have hne : ¬ w2.heap.size = w.heap.size + 1 + 1 := by omega
    have HY := Lib.hid hy
    have HBB := Lib.hid hbb
    have HROW := Lib.hid hrow
    clear hx2 hy hbb hrow
    go_wp2_with fail
    go_region
    go_wp2
    have zz0 := (cells2 (set2_0 (show W4.heap[w.heap.size + 1 + 1]? = _ from HY.out) (.int .i64 (after p V R zs).1))).1
    have zz1 := (cells2 (set2_1 (set2_0 (show W4.heap[w.heap.size + 1 + 1]? = _ from HY.out) (.int .i64 (after p V R zs).1)) (.int .i64 (after p V R zs).2))).2.1
    refine bodyPost_ret (v := .tuple #[v, .agg #[.int .i64 (after p V R zs).1, .int .i64 (after p V R zs).2], .int .i64 0]) (by simp [results, Try.results24, go_sem, zz0, zz1]) rfl ⟨v, rfl, ?_, ?_⟩
    · refine ownsRow_of_block (show W4.ownsRow w.heap.size 3 1 v _ _ from ⟨HROW.out.1, HROW.out.2.imp id fun ⟨g, cap, cur, x1, x2, x3⟩ => ⟨g, cap, cur, x1, Nat.le_trans HB2.out.size x2, x3⟩⟩) fun g hg => ?_
      have := (HROW.out.lt g hg).1
      show ((W4.setCell ⟨w.heap.size + 1 + 1, 0, none⟩ (.int .i64 (after p V R zs).1)).setCell ⟨w.heap.size + 1 + 1, 1, none⟩ (.int .i64 (after p V R zs).2)).heap[g]? = _
      rw [Below.heap_setCell _ _ _ _ (by show g ≠ w.heap.size + 1 + 1; omega), Below.heap_setCell _ _ _ _ (by show g ≠ w.heap.size + 1 + 1; omega)]
    · exact (((HB2.out.trans (HBB.out.mono HB2.out.size)).setCell (p := ⟨w.heap.size + 1 + 1, 0, none⟩) (by simp <;> omega) _).setCell (p := ⟨w.heap.size + 1 + 1, 1, none⟩) (by simp <;> omega) _).drew
  · have hx2 : ((w2.setCell ⟨w1.heap.size + 1, 0, none⟩ (.int .i64 (after p V R zs).1)).setCell ⟨w1.heap.size + 1, 1, none⟩ (.int .i64 (after p V R zs).2)).heap[w1.heap.size + 1]? = some (.cells #[.int .i64 (after p V R zs).1, .int .i64 (after p V R zs).2] 25) := set2_1 (set2_0 (show w2.heap[w1.heap.size + 1]? = some (.cells #[.int .i64 0, .int .i64 0] 25) from (HB3.out.block _ (by simp <;> omega)).trans (alloc_new_at _ _ _ (by simp))) _) _
    have hy : ((w2.setCell ⟨w1.heap.size + 1, 0, none⟩ (.int .i64 (after p V R zs).1)).setCell ⟨w1.heap.size + 1, 1, none⟩ (.int .i64 (after p V R zs).2)).heap[w.heap.size + 1 + 1]? = some (.cells #[.int .i64 0, .int .i64 0] 25) := by rw [Below.heap_setCell _ _ _ _ (by simp <;> omega), Below.heap_setCell _ _ _ _ (by simp <;> omega), HB4.out.block _ (by omega)]; exact TA.out
    have hbb : Below w1.heap.size w1 ((w2.setCell ⟨w1.heap.size + 1, 0, none⟩ (.int .i64 (after p V R zs).1)).setCell ⟨w1.heap.size + 1, 1, none⟩ (.int .i64 (after p V R zs).2)) := (HB4.out.setCell (p := ⟨w1.heap.size + 1, 0, none⟩) (by simp) _).setCell (p := ⟨w1.heap.size + 1, 1, none⟩) (by simp) _
    have hrow : ((w2.setCell ⟨w1.heap.size + 1, 0, none⟩ (.int .i64 (after p V R zs).1)).setCell ⟨w1.heap.size + 1, 1, none⟩ (.int .i64 (after p V R zs).2)).ownsRow w1.heap.size 3 1 v (spkL (runL p V R zs) zs.length).length ((spkL (runL p V R zs) zs.length).map (Value.int .i64)) := ownsRow_of_block HO3.out fun g hg => by have h9 := HG3.out g hg; simp at h9; rw [Below.heap_setCell _ _ _ _ (by simp <;> omega), Below.heap_setCell _ _ _ _ (by simp <;> omega)]
    clear y0 y1 yf0 yf1 hc3 hf3
    generalize (w2.setCell ⟨w1.heap.size + 1, 0, none⟩ (.int .i64 (after p V R zs).1)).setCell ⟨w1.heap.size + 1, 1, none⟩ (.int .i64 (after p V R zs).2) = W4 at *
    obtain ⟨x0, x1, _, _⟩ := cells2 hx2
    obtain ⟨y0, y1, yf0, yf1⟩ := cells2 hy
    have hne : ¬ w1.heap.size + 1 = w.heap.size + 1 + 1 := by omega
    have HY := Lib.hid hy
    have HBB := Lib.hid hbb
    have HROW := Lib.hid hrow
    clear hx2 hy hbb hrow
    go_wp2_with fail
    go_region
    go_wp2
    have zz0 := (cells2 (set2_0 (show W4.heap[w.heap.size + 1 + 1]? = _ from HY.out) (.int .i64 (after p V R zs).1))).1
    have zz1 := (cells2 (set2_1 (set2_0 (show W4.heap[w.heap.size + 1 + 1]? = _ from HY.out) (.int .i64 (after p V R zs).1)) (.int .i64 (after p V R zs).2))).2.1
    refine bodyPost_ret (v := .tuple #[v, .agg #[.int .i64 (after p V R zs).1, .int .i64 (after p V R zs).2], .int .i64 0]) (by simp [results, Try.results24, go_sem, zz0, zz1]) rfl ⟨v, rfl, ?_, ?_⟩
    · refine ownsRow_of_block (show W4.ownsRow w.heap.size 3 1 v _ _ from ⟨HROW.out.1, HROW.out.2.imp id fun ⟨g, cap, cur, x1, x2, x3⟩ => ⟨g, cap, cur, x1, Nat.le_trans HB2.out.size x2, x3⟩⟩) fun g hg => ?_
      have := (HROW.out.lt g hg).1
      show ((W4.setCell ⟨w.heap.size + 1 + 1, 0, none⟩ (.int .i64 (after p V R zs).1)).setCell ⟨w.heap.size + 1 + 1, 1, none⟩ (.int .i64 (after p V R zs).2)).heap[g]? = _
      rw [Below.heap_setCell _ _ _ _ (by show g ≠ w.heap.size + 1 + 1; omega), Below.heap_setCell _ _ _ _ (by show g ≠ w.heap.size + 1 + 1; omega)]
    · exact (((HB2.out.trans (HBB.out.mono HB2.out.size)).setCell (p := ⟨w.heap.size + 1 + 1, 0, none⟩) (by simp <;> omega) _).setCell (p := ⟨w.heap.size + 1 + 1, 1, none⟩) (by simp <;> omega) _).drew
  · have hx2 : ((w2.setCell ⟨w1.heap.size, 0, none⟩ (.int .i64 (after p V R zs).1)).setCell ⟨w1.heap.size, 1, none⟩ (.int .i64 (after p V R zs).2)).heap[w1.heap.size]? = some (.cells #[.int .i64 (after p V R zs).1, .int .i64 (after p V R zs).2] 25) := set2_1 (set2_0 (show w2.heap[w1.heap.size]? = some (.cells #[.int .i64 0, .int .i64 0] 25) from (HB3.out.block _ (by simp <;> omega)).trans (alloc_old_new _ _ _)) _) _
    have hy : ((w2.setCell ⟨w1.heap.size, 0, none⟩ (.int .i64 (after p V R zs).1)).setCell ⟨w1.heap.size, 1, none⟩ (.int .i64 (after p V R zs).2)).heap[w.heap.size + 1 + 1]? = some (.cells #[.int .i64 0, .int .i64 0] 25) := by rw [Below.heap_setCell _ _ _ _ (by simp <;> omega), Below.heap_setCell _ _ _ _ (by simp <;> omega), HB4.out.block _ (by omega)]; exact TA.out
    have hbb : Below w1.heap.size w1 ((w2.setCell ⟨w1.heap.size, 0, none⟩ (.int .i64 (after p V R zs).1)).setCell ⟨w1.heap.size, 1, none⟩ (.int .i64 (after p V R zs).2)) := (HB4.out.setCell (p := ⟨w1.heap.size, 0, none⟩) (by simp) _).setCell (p := ⟨w1.heap.size, 1, none⟩) (by simp) _
    have hrow : ((w2.setCell ⟨w1.heap.size, 0, none⟩ (.int .i64 (after p V R zs).1)).setCell ⟨w1.heap.size, 1, none⟩ (.int .i64 (after p V R zs).2)).ownsRow w1.heap.size 3 1 v (spkL (runL p V R zs) zs.length).length ((spkL (runL p V R zs) zs.length).map (Value.int .i64)) := ownsRow_of_block HO3.out fun g hg => by have h9 := HG3.out g hg; simp at h9; rw [Below.heap_setCell _ _ _ _ (by simp <;> omega), Below.heap_setCell _ _ _ _ (by simp <;> omega)]
    clear y0 y1 yf0 yf1 hc3 hf3
    generalize (w2.setCell ⟨w1.heap.size, 0, none⟩ (.int .i64 (after p V R zs).1)).setCell ⟨w1.heap.size, 1, none⟩ (.int .i64 (after p V R zs).2) = W4 at *
    obtain ⟨x0, x1, _, _⟩ := cells2 hx2
    obtain ⟨y0, y1, yf0, yf1⟩ := cells2 hy
    have hne : ¬ w1.heap.size = w.heap.size + 1 + 1 := by omega
    have HY := Lib.hid hy
    have HBB := Lib.hid hbb
    have HROW := Lib.hid hrow
    clear hx2 hy hbb hrow
    go_wp2_with fail
    go_region
    go_wp2
    have zz0 := (cells2 (set2_0 (show W4.heap[w.heap.size + 1 + 1]? = _ from HY.out) (.int .i64 (after p V R zs).1))).1
    have zz1 := (cells2 (set2_1 (set2_0 (show W4.heap[w.heap.size + 1 + 1]? = _ from HY.out) (.int .i64 (after p V R zs).1)) (.int .i64 (after p V R zs).2))).2.1
    refine bodyPost_ret (v := .tuple #[v, .agg #[.int .i64 (after p V R zs).1, .int .i64 (after p V R zs).2], .int .i64 0]) (by simp [results, Try.results24, go_sem, zz0, zz1]) rfl ⟨v, rfl, ?_, ?_⟩
    · refine ownsRow_of_block (show W4.ownsRow w.heap.size 3 1 v _ _ from ⟨HROW.out.1, HROW.out.2.imp id fun ⟨g, cap, cur, x1, x2, x3⟩ => ⟨g, cap, cur, x1, Nat.le_trans HB2.out.size x2, x3⟩⟩) fun g hg => ?_
      have := (HROW.out.lt g hg).1
      show ((W4.setCell ⟨w.heap.size + 1 + 1, 0, none⟩ (.int .i64 (after p V R zs).1)).setCell ⟨w.heap.size + 1 + 1, 1, none⟩ (.int .i64 (after p V R zs).2)).heap[g]? = _
      rw [Below.heap_setCell _ _ _ _ (by show g ≠ w.heap.size + 1 + 1; omega), Below.heap_setCell _ _ _ _ (by show g ≠ w.heap.size + 1 + 1; omega)]
    · exact (((HB2.out.trans (HBB.out.mono HB2.out.size)).setCell (p := ⟨w.heap.size + 1 + 1, 0, none⟩) (by simp <;> omega) _).setCell (p := ⟨w.heap.size + 1 + 1, 1, none⟩) (by simp <;> omega) _).drew

end Go.Proofs.Ytkpabecnimakpaa
