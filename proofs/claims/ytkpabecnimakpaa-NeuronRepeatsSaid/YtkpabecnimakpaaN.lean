/- neuron.Run's errors; the specification's Run. -/
import Derived.Test.YtkpabecnimakpaaL
import Derived.Deep.DeepCutAuto
namespace Go.Proofs.Ytkpabecnimakpaa
set_option linter.unusedVariables false
open Go.RowKit Go.Shelf

set_option maxHeartbeats 1000000 in
theorem run_err (p : Prm) (V R : Int) (hv : validP p V R ≠ 0) (a : Option Addr) (len cap : Nat)  (w : World) :
    Calls Try.prog 24 #[.agg #[.int .i64 p.lk, .int .i64 p.lv, .int .i64 p.bi, .int .i64 p.th, .int .i64 p.rk, .int .i64 p.rs, .int .i64 p.fl, .int .i64 p.re], .agg #[.int .i64 V, .int .i64 R], .slice a len cap] w fun e w' =>
      e = .returned (.tuple #[.slice none 0 0, .agg #[.int .i64 0, .int .i64 0], .int .i64 (validP p V R)]) ∧ Below w.heap.size w w' := by
  have hv' : (validP p V R != 0) = true := by simp [hv]
  clear hv
  go_enter Try.func24, Try.ntmps24
  go_wp2_with (go_at_call 19; refine (valid_any p V R _).mono ?_; rintro e w1 ⟨rfl, hb1⟩; obtain ⟨hc1, hf1⟩ := bcell hb1; have hz1 : w.heap.size + 2 < w1.heap.size := (by have := hb1.size; simp at this; omega); have hz1a : w.heap.size < w1.heap.size := (by omega); have hz1b : w.heap.size + 1 < w1.heap.size := (by omega); have hz1c : w.heap.size + 1 + 1 < w1.heap.size := (by omega))
  refine bodyPost_ret (v := .tuple #[.slice none 0 0, .agg #[.int .i64 0, .int .i64 0], .int .i64 (validP p V R)]) (by simp [results, Try.results24, go_sem, hc1]) rfl ⟨rfl, ?_⟩
  (repeat (first | exact Below.refl _ _ | refine below_drewN ?_ _ | refine Below.drew ?_ | refine Below.alloc ?_ ?_ _ | refine Below.setCell ?_ ?_ _ | refine Below.trans ?_ (Below.mono (by assumption) ?_)))
  any_goals (first | omega | (simp; done) | (simp; omega))

set_option maxHeartbeats 1000000 in
theorem run_many (p : Prm) (V R : Int) (hv : validP p V R = 0) (a : Option Addr) (len cap : Nat) (hm : 10000 < len) (w : World) :
    Calls Try.prog 24 #[.agg #[.int .i64 p.lk, .int .i64 p.lv, .int .i64 p.bi, .int .i64 p.th, .int .i64 p.rk, .int .i64 p.rs, .int .i64 p.fl, .int .i64 p.re], .agg #[.int .i64 V, .int .i64 R], .slice a len cap] w fun e w' =>
      e = .returned (.tuple #[.slice none 0 0, .agg #[.int .i64 0, .int .i64 0], .int .i64 9]) ∧ Below w.heap.size w w' := by
  have hv' : (validP p V R != 0) = false := by simp [hv]
  have hm' : (10000 : Int) < (len : Int) := by omega
  clear hv
  go_enter Try.func24, Try.ntmps24
  go_wp2_with (go_at_call 19; refine (valid_any p V R _).mono ?_; rintro e w1 ⟨rfl, hb1⟩; obtain ⟨hc1, hf1⟩ := bcell hb1; have hz1 : w.heap.size + 2 < w1.heap.size := (by have := hb1.size; simp at this; omega); have hz1a : w.heap.size < w1.heap.size := (by omega); have hz1b : w.heap.size + 1 < w1.heap.size := (by omega); have hz1c : w.heap.size + 1 + 1 < w1.heap.size := (by omega))
  refine bodyPost_ret (v := .tuple #[.slice none 0 0, .agg #[.int .i64 0, .int .i64 0], .int .i64 9]) (by simp [results, Try.results24, go_sem, hc1]) rfl ⟨rfl, ?_⟩
  (repeat (first | exact Below.refl _ _ | refine below_drewN ?_ _ | refine Below.drew ?_ | refine Below.alloc ?_ ?_ _ | refine Below.setCell ?_ ?_ _ | refine Below.trans ?_ (Below.mono (by assumption) ?_)))
  any_goals (first | omega | (simp; done) | (simp; omega))

set_option maxHeartbeats 1000000 in
theorem rrun_err (p : Prm) (V R : Int) (hv : validP p V R ≠ 0) (a : Option Addr) (len cap : Nat)  (w : World) :
    Calls Try.prog 25 #[.agg #[.int .i64 p.lk, .int .i64 p.lv, .int .i64 p.bi, .int .i64 p.th, .int .i64 p.rk, .int .i64 p.rs, .int .i64 p.fl, .int .i64 p.re], .agg #[.int .i64 V, .int .i64 R], .slice a len cap] w fun e w' =>
      e = .returned (.tuple #[.slice none 0 0, .agg #[.int .i64 0, .int .i64 0], .int .i64 (validP p V R)]) ∧ Below w.heap.size w w' := by
  have hv' : (validP p V R != 0) = true := by simp [hv]
  clear hv
  go_enter Try.func25, Try.ntmps25
  go_wp2_with (go_at_call 20; refine (rvalid_any p V R _).mono ?_; rintro e w1 ⟨rfl, hb1⟩; obtain ⟨hc1, hf1⟩ := bcell hb1; have hz1 : w.heap.size + 2 < w1.heap.size := (by have := hb1.size; simp at this; omega); have hz1a : w.heap.size < w1.heap.size := (by omega); have hz1b : w.heap.size + 1 < w1.heap.size := (by omega); have hz1c : w.heap.size + 1 + 1 < w1.heap.size := (by omega))
  refine bodyPost_ret (v := .tuple #[.slice none 0 0, .agg #[.int .i64 0, .int .i64 0], .int .i64 (validP p V R)]) (by simp [results, Try.results25, go_sem, hc1]) rfl ⟨rfl, ?_⟩
  (repeat (first | exact Below.refl _ _ | refine below_drewN ?_ _ | refine Below.drew ?_ | refine Below.alloc ?_ ?_ _ | refine Below.setCell ?_ ?_ _ | refine Below.trans ?_ (Below.mono (by assumption) ?_)))
  any_goals (first | omega | (simp; done) | (simp; omega))

set_option maxHeartbeats 1000000 in
theorem rrun_many (p : Prm) (V R : Int) (hv : validP p V R = 0) (a : Option Addr) (len cap : Nat) (hm : 10000 < len) (w : World) :
    Calls Try.prog 25 #[.agg #[.int .i64 p.lk, .int .i64 p.lv, .int .i64 p.bi, .int .i64 p.th, .int .i64 p.rk, .int .i64 p.rs, .int .i64 p.fl, .int .i64 p.re], .agg #[.int .i64 V, .int .i64 R], .slice a len cap] w fun e w' =>
      e = .returned (.tuple #[.slice none 0 0, .agg #[.int .i64 0, .int .i64 0], .int .i64 9]) ∧ Below w.heap.size w w' := by
  have hv' : (validP p V R != 0) = false := by simp [hv]
  have hm' : (10000 : Int) < (len : Int) := by omega
  clear hv
  go_enter Try.func25, Try.ntmps25
  go_wp2_with (go_at_call 20; refine (rvalid_any p V R _).mono ?_; rintro e w1 ⟨rfl, hb1⟩; obtain ⟨hc1, hf1⟩ := bcell hb1; have hz1 : w.heap.size + 2 < w1.heap.size := (by have := hb1.size; simp at this; omega); have hz1a : w.heap.size < w1.heap.size := (by omega); have hz1b : w.heap.size + 1 < w1.heap.size := (by omega); have hz1c : w.heap.size + 1 + 1 < w1.heap.size := (by omega))
  refine bodyPost_ret (v := .tuple #[.slice none 0 0, .agg #[.int .i64 0, .int .i64 0], .int .i64 9]) (by simp [results, Try.results25, go_sem, hc1]) rfl ⟨rfl, ?_⟩
  (repeat (first | exact Below.refl _ _ | refine below_drewN ?_ _ | refine Below.drew ?_ | refine Below.alloc ?_ ?_ _ | refine Below.setCell ?_ ?_ _ | refine Below.trans ?_ (Below.mono (by assumption) ?_)))
  any_goals (first | omega | (simp; done) | (simp; omega))

/-- What the loop of the specification's Run holds. -/
def RunI (p : Prm) (V R : Int) (zs : List Int) (w : World) (v : Value) (k : Nat) (A : World) : Prop :=
  PrmAt p w.heap.size A ∧ StAt (after p V R (zs.take k)).1 (after p V R (zs.take k)).2 (w.heap.size + 1) A ∧ StAt 0 0 (w.heap.size + 2) A ∧ Below w.heap.size w A ∧
  A.ownsRow (w.heap.size + 3) 3 1 v (spkL (runL p V R zs) k).length ((spkL (runL p V R zs) k).map (Value.int .i64))

/-- What the tick in the round has left. -/
def RunW (p : Prm) (V' R' : Int) (w wr A : World) : Prop :=
  PrmAt p w.heap.size A ∧ StAt V' R' (w.heap.size + 1) A ∧ StAt 0 0 (w.heap.size + 2) A ∧ Below w.heap.size w A ∧ (∀ g, w.heap.size + 3 ≤ g → g < wr.heap.size → A.heap[g]? = wr.heap[g]?) ∧ wr.heap.size ≤ A.heap.size

theorem runW_of {p : Prm} {V0 R0 V' R' : Int} {w wr w2 A : World} (q : Below wr.heap.size wr w2) (r1 : PrmAt p w.heap.size wr) (r2 : StAt V0 R0 (w.heap.size + 1) wr) (r3 : StAt 0 0 (w.heap.size + 2) wr) (r4 : Below w.heap.size w wr)
    (h1 : A.heap = ((w2.setCell ⟨w.heap.size + 1, 0, none⟩ (.int .i64 V')).setCell ⟨w.heap.size + 1, 1, none⟩ (.int .i64 R')).heap) (h2 : A.os = w2.os) (h3 : A.tape = w2.tape) (h4 : A.output = w2.output) : RunW p V' R' w wr A := by
  have l3 := lt_of_block r3
  have hsz : A.heap.size = w2.heap.size := by rw [h1]; simp [World.setCell]
  have hq := q.size
  have ho : ∀ b, b ≠ w.heap.size + 1 → A.heap[b]? = w2.heap[b]? := fun b hb => by
    rw [h1, Below.heap_setCell _ _ _ _ (by exact hb), Below.heap_setCell _ _ _ _ (by exact hb)]
  refine ⟨(ho _ (by omega)).trans ((q.block _ (by omega)).trans r1), ?_, (ho _ (by omega)).trans ((q.block _ (by omega)).trans r3), ⟨h2.trans (q.os.trans r4.os), h3.trans (q.tape.trans r4.tape), h4.trans (q.output.trans r4.output), by have := r4.size; omega, fun b hb => (ho b (by omega)).trans ((q.block b (by omega)).trans (r4.block b hb))⟩, fun g h1 h2 => (ho g (by omega)).trans (q.block g h2), by omega⟩
  unfold StAt
  rw [h1]
  exact set2_1 (set2_0 ((q.block _ (by omega)).trans r2) _) _

set_option maxRecDepth 100000 in
set_option maxHeartbeats 2000000 in
theorem rrun_ok (p : Prm) (V R : Int) (hv : validP p V R = 0) (a : Option Addr) (cap : Nat) (zs : List Int) (hlen : zs.length ≤ 10000) (w : World) (hI : IntsAt w (.slice a zs.length cap) zs) :
    Calls Try.prog 25 #[.agg #[.int .i64 p.lk, .int .i64 p.lv, .int .i64 p.bi, .int .i64 p.th, .int .i64 p.rk, .int .i64 p.rs, .int .i64 p.fl, .int .i64 p.re], .agg #[.int .i64 V, .int .i64 R], .slice a zs.length cap] w (RunDone p V R zs w) := by
  have hv' : (validP p V R != 0) = false := by simp [hv]
  obtain ⟨hok, k1, k2, k3, k4⟩ := ok_of_valid hv
  have hav := fun k => after_valid hok k1 k2 k3 k4 (zs.take k)
  obtain ⟨i0, hi, hz0, hzz1, hzz2⟩ := info_parts Try.info3
  have HK := Lib.hid hok
  have HAV := Lib.hid hav
  obtain ⟨n, hn⟩ : ∃ n, n = zs.length := ⟨_, rfl⟩
  have HN := Lib.hid hn
  rw [← hn] at hlen hI ⊢
  have hIc := hI
  rcases hI with ⟨he, hz⟩ | ⟨b, off, cap', he, hc⟩
  · -- a nil slice
    obtain ⟨rfl, rfl, rfl⟩ : a = none ∧ n = 0 ∧ cap = 0 := by cases he; exact ⟨rfl, rfl, rfl⟩
    clear hv hok k1 k2 k3 k4 hav hn he hz hIc
    go_enter Try.func25, Try.ntmps25
    go_wp2_with (go_at_call 20; refine (rvalid_any p V R _).mono ?_; rintro e w1 ⟨rfl, hb1⟩; obtain ⟨hc1, hf1⟩ := bcell hb1; have hz1 : w.heap.size + 2 < w1.heap.size := (by have := hb1.size; simp at this; omega); have hz1a : w.heap.size < w1.heap.size := (by omega); have hz1b : w.heap.size + 1 < w1.heap.size := (by omega); have hz1c : w.heap.size + 1 + 1 < w1.heap.size := (by omega))
    have hb2 : Below w.heap.size w w1 := (((Below.refl _ _).alloc (Nat.le_refl _) _).alloc (by simp) _ |>.alloc (by simp <;> omega) _).trans (hb1.mono (by simp <;> omega))
    have hR0 : RunI p V R zs w (.slice none 0 0) 0 w1 := by
      refine ⟨?_, ?_, ?_, hb2, World.ownsRow_nil _ _ _ _⟩
      · unfold PrmAt; rw [hb1.block _ (by simp <;> omega), Below.heap_alloc _ _ _ (by simp <;> omega), Below.heap_alloc _ _ _ (by simp <;> omega)]; exact alloc_new_at _ _ _ rfl
      · unfold StAt; rw [hb1.block _ (by simp <;> omega), Below.heap_alloc _ _ _ (by simp <;> omega)]; exact alloc_new_at _ _ _ (by simp)
      · unfold StAt; rw [hb1.block _ (by simp <;> omega)]; exact alloc_new_at _ _ _ (by simp)
    have HR0 := Lib.hid hR0
    clear hb1 hc1 hf1 hb2 hR0 hv'
    go_loopw [10, 11] (fun s10 i wr => ∃ (k : Nat) (v : Value), k ≤ 0 ∧ i = .int .i64 k ∧ v = s10 ∧ RunI p V R zs w v k wr) (fun _ i _ => 0 - (intOf i).toNat)
    case atStart => exact ⟨0, _, Nat.zero_le _, rfl, rfl, HR0.out⟩
    case round =>
      obtain ⟨k, v, hk, rfl, rfl, hRk⟩ := hrel
      have HRk := Lib.hid hRk
      clear hRk
      obtain rfl : k = 0 := by omega
      obtain ⟨r1, r2, r3, r4, r5⟩ := HRk.out
      rw [show zs.take 0 = zs from by rw [HN.out]; exact List.take_length] at r2
      obtain ⟨u0, u1, _, _⟩ := cells2 r2
      obtain ⟨y0, y1, yf0, yf1⟩ := cells2 (show wr.heap[w.heap.size + 1 + 1]? = _ from r3)
      have R3 := Lib.hid r3
      have R4 := Lib.hid r4
      have R5 := Lib.hid r5
      clear r1 r2 r3 r4 r5
      go_wp2
      go_region
      go_wp2
      have zz0 := (zz (show wr.heap[w.heap.size + 1 + 1]? = _ from R3.out) (.int .i64 (after p V R zs).1) (.int .i64 (after p V R zs).2)).1
      have zz1 := (zz (show wr.heap[w.heap.size + 1 + 1]? = _ from R3.out) (.int .i64 (after p V R zs).1) (.int .i64 (after p V R zs).2)).2
      refine bodyPost_ret (v := .tuple #[v, .agg #[.int .i64 (after p V R zs).1, .int .i64 (after p V R zs).2], .int .i64 0]) (by simp [results, Try.results25, go_sem, zz0, zz1]) rfl ⟨v, rfl, ?_, ?_⟩
      · rw [← HN.out]
        refine ownsRow_of_block (show wr.ownsRow w.heap.size 3 1 v _ _ from ⟨R5.out.1, R5.out.2.imp id fun ⟨g, cap, cur, x1, x2, x3⟩ => ⟨g, cap, cur, x1, by omega, x3⟩⟩) fun g hg => ?_
        have := (R5.out.lt g hg).1
        show ((wr.setCell ⟨w.heap.size + 1 + 1, 0, none⟩ (.int .i64 (after p V R zs).1)).setCell ⟨w.heap.size + 1 + 1, 1, none⟩ (.int .i64 (after p V R zs).2)).heap[g]? = _
        rw [Below.heap_setCell _ _ _ _ (by show g ≠ w.heap.size + 1 + 1; omega), Below.heap_setCell _ _ _ _ (by show g ≠ w.heap.size + 1 + 1; omega)]
      · exact ((R4.out.setCell (p := ⟨w.heap.size + 1 + 1, 0, none⟩) (by simp <;> omega) _).setCell (p := ⟨w.heap.size + 1 + 1, 1, none⟩) (by simp <;> omega) _).drew
  obtain ⟨rfl, hcap⟩ : a = some ⟨b, off, none⟩ ∧ True := by cases he; exact ⟨rfl, trivial⟩
  have HI := Lib.hid hIc
  have HC := Lib.hid hc
  clear hv hok k1 k2 k3 k4 hav hn he hc hIc hcap
  go_enter Try.func25, Try.ntmps25
  go_wp2_with (go_at_call 20; refine (rvalid_any p V R _).mono ?_; rintro e w1 ⟨rfl, hb1⟩; obtain ⟨hc1, hf1⟩ := bcell hb1; have hz1 : w.heap.size + 2 < w1.heap.size := (by have := hb1.size; simp at this; omega); have hz1a : w.heap.size < w1.heap.size := (by omega); have hz1b : w.heap.size + 1 < w1.heap.size := (by omega); have hz1c : w.heap.size + 1 + 1 < w1.heap.size := (by omega))
  have hb2 : Below w.heap.size w w1 := (((Below.refl _ _).alloc (Nat.le_refl _) _).alloc (by simp) _ |>.alloc (by simp <;> omega) _).trans (hb1.mono (by simp <;> omega))
  have hR0 : RunI p V R zs w (.slice none 0 0) 0 w1 := by
    refine ⟨?_, ?_, ?_, hb2, World.ownsRow_nil _ _ _ _⟩
    · unfold PrmAt; rw [hb1.block _ (by simp <;> omega), Below.heap_alloc _ _ _ (by simp <;> omega), Below.heap_alloc _ _ _ (by simp <;> omega)]; exact alloc_new_at _ _ _ rfl
    · unfold StAt; rw [hb1.block _ (by simp <;> omega), Below.heap_alloc _ _ _ (by simp <;> omega)]; exact alloc_new_at _ _ _ (by simp)
    · unfold StAt; rw [hb1.block _ (by simp <;> omega)]; exact alloc_new_at _ _ _ (by simp)
  have HR0 := Lib.hid hR0
  clear hb1 hc1 hf1 hb2 hR0 hv'
  go_loopw [10, 11] (fun s10 i wr => ∃ (k : Nat) (v : Value), k ≤ n ∧ i = .int .i64 k ∧ v = s10 ∧ RunI p V R zs w v k wr) (fun _ i _ => n - (intOf i).toNat)
  case atStart => exact ⟨0, _, Nat.zero_le _, rfl, rfl, HR0.out⟩
  case round =>
    obtain ⟨k, v, hk, rfl, rfl, hRk⟩ := hrel
    have HRk := Lib.hid hRk
    clear hRk
    by_cases hlt : k < n
    · obtain ⟨x, hx⟩ : ∃ x, zs[k]? = some x := ⟨_, getD_take zs k (by rw [← HN.out]; exact hlt)⟩
      obtain ⟨r1, r2, r3, r4, r5⟩ := HRk.out
      obtain ⟨V0, hV0⟩ : ∃ V0, V0 = (after p V R (zs.take k)).1 := ⟨_, rfl⟩
      obtain ⟨R0, hR0'⟩ : ∃ R0, R0 = (after p V R (zs.take k)).2 := ⟨_, rfl⟩
      rw [← hV0, ← hR0'] at r2
      have va := HAV.out k
      rw [← hV0, ← hR0'] at va
      obtain ⟨v0, v1, v2, v3⟩ := va
      have hnext : after p V R (zs.take (k + 1)) = (tV p V0 R0 x, tR p V0 R0 x) := by rw [take_snoc_of hx, after_snoc, hV0, hR0']
      have hrun := runL_get p V R zs k x hx
      have hspk := spkL_succ hrun
      rw [← hV0, ← hR0'] at hspk
      simp only at hspk
      have hce : wr.cell? ⟨b, off + k, none⟩ = some (.int .i64 x) := by
        have := HC.out k (by rw [← HN.out]; exact hlt)
        rw [hx] at this
        exact (r4.cell (p := ⟨b, off + k, none⟩) (World.block_lt_of_cell? w _ this)).trans this
      obtain ⟨_, _, _, _, _, _, _, _⟩ := cells8 r1
      obtain ⟨_, _, _, _⟩ := cells2 r2
      have hlt1 : w.heap.size + 2 < wr.heap.size := lt_of_block r3
      have hi0 : (0 : Int) ≤ (k : Int) := Int.natCast_nonneg _
      have hi1 : (k : Int) < (n : Int) := by omega
      have HV0 := Lib.hid hV0
      have HR0' := Lib.hid hR0'
      have HX := Lib.hid hx
      have HNX := Lib.hid hnext
      have HSP := Lib.hid hspk
      have P1 := Lib.hid r1
      have P2 := Lib.hid r2
      have P3 := Lib.hid r3
      have P4 := Lib.hid r4
      have P5 := Lib.hid r5
      clear hV0 hR0' hx hnext hspk hrun r1 r2 r3 r4 r5
      go_upto_region 11 with fail
      go_cut [12] (fun s12 wx => s12 = .bool (tS p V0 R0 x) ∧ RunW p (tV p V0 R0 x) (tR p V0 R0 x) w wr wx)
      case first =>
        go_region_with
          (first | (go_at_call 44; refine (rgo_any p HK.out V0 R0 x v0 v1 v2 v3 _).mono ?_; rintro e w2 ⟨rfl, hb2⟩; have q2 : Below wr.heap.size wr w2 := ⟨hb2.os, hb2.tape, hb2.output, hb2.size, hb2.block⟩; obtain ⟨_, _, _, _, _, _, _, _⟩ := cells8 ((q2.block _ (by omega)).trans P1.out); obtain ⟨_, _, _, _⟩ := cells2 ((q2.block _ (by omega)).trans P2.out); have hce2 : w2.cell? ⟨b, off + k, none⟩ = some (.int .i64 x) := (q2.cell (p := ⟨b, off + k, none⟩) (World.block_lt_of_cell? wr _ (by assumption))).trans (by assumption); have Q2 := Lib.hid q2; clear hb2 q2))
        all_goals (go_wp2_with fail; go_meet; exact ⟨rfl, runW_of Q2.out P1.out P2.out P3.out P4.out rfl rfl rfl rfl⟩)
      case rest =>
        obtain ⟨rfl, hr1, hr2, hr3, hr4, hr5, hr6⟩ := hcut
        obtain ⟨sp, hsp⟩ : ∃ sp, sp = tS p V0 R0 x := ⟨_, rfl⟩
        rw [← hsp]
        have hsp2 := HSP.out
        rw [← hsp] at hsp2
        have HSP2 := Lib.hid hsp2
        have hrow : wc.ownsRow (w.heap.size + 3) 3 1 v (spkL (runL p V R zs) k).length ((spkL (runL p V R zs) k).map (Value.int .i64)) := ownsRow_of_block P5.out fun g hg => hr5 g (P5.out.lt g hg).1 (P5.out.lt g hg).2
        have hle := spkL_le (runL p V R zs) k
        have hszc : w.heap.size + 2 < wc.heap.size := lt_of_block hr3
        have C1 := Lib.hid hr1
        have C2 := Lib.hid hr2
        have C3 := Lib.hid hr3
        have C4 := Lib.hid hr4
        have CR := Lib.hid hrow
        obtain ⟨L0, hL0⟩ : ∃ L0, L0 = spkL (runL p V R zs) k := ⟨_, rfl⟩
        rw [← hL0] at hrow hle
        have HL0 := Lib.hid hL0
        clear hsp hsp2 hr1 hr2 hr3 hr4 hr5 hL0
        cases sp with
        | false =>
          go_wp2
          go_roundw
          case rel =>
            refine ⟨k + 1, v, by omega, by go_num, rfl, C1.out, ?_, C3.out, C4.out, ?_⟩
            · rw [HNX.out]; exact C2.out
            · rw [HSP2.out]; simp; exact CR.out
          case measure => simp [intOf]; omega
        | true =>
          go_wp2_with (at_builtin; refine wpList_append_own _ rfl _ _ 35 rfl (w.heap.size + 3) 3 i0 (.int .i64 0) 1 8 Try.underlying35 hi hz0 hzz1 hzz2 rfl (by decide) v _ _ rfl (hrow.alloc _) ⟨wc.heap.size, 0, none⟩ 1 1 [.int .i64 (k : Int)] rfl rfl (cell_one_new _ _ _) (by simp [Value.oneCell']) (by unfold maxLen; omega) (by omega) (by simp; omega) ?_; intro v' w3 hown' hgrow _; have HO := Lib.hid hown'; have HG := Lib.hid hgrow; clear hown' hgrow)
          go_roundw
          case rel =>
            have hkeep : ∀ b, b < w.heap.size + 3 → w3.heap[b]? = wc.heap[b]? := fun b hb => (HG.out.block b (by rw [World.size_alloc]; omega) (fun e => by have := (CR.out.lt b e.symm).1; omega)).trans (Below.heap_alloc _ _ _ (by omega))
            refine ⟨k + 1, v', by omega, by go_num, rfl, (hkeep _ (by omega)).trans C1.out, ?_, (hkeep _ (by omega)).trans C3.out, ?_, ?_⟩
            · rw [HNX.out]; exact (hkeep _ (by omega)).trans C2.out
            · exact C4.out.trans ⟨HG.out.os, HG.out.tape, HG.out.output, by have := HG.out.size; rw [World.size_alloc] at this; omega, fun b hb => hkeep b (by omega)⟩
            · have := HO.out
              rw [HL0.out] at this
              rw [HSP2.out]; simpa using this
          case measure => simp [intOf]; omega

    · -- the loop has ended
      obtain rfl : k = n := by omega
      obtain ⟨r1, r2, r3, r4, r5⟩ := HRk.out
      rw [show zs.take k = zs from by rw [HN.out]; exact List.take_length] at r2
      obtain ⟨u0, u1, _, _⟩ := cells2 r2
      obtain ⟨y0, y1, yf0, yf1⟩ := cells2 (show wr.heap[w.heap.size + 1 + 1]? = _ from r3)
      have R3 := Lib.hid r3
      have R4 := Lib.hid r4
      have R5 := Lib.hid r5
      clear r1 r2 r3 r4 r5
      go_wp2
      go_region
      go_wp2
      have zz0 := (zz (show wr.heap[w.heap.size + 1 + 1]? = _ from R3.out) (.int .i64 (after p V R zs).1) (.int .i64 (after p V R zs).2)).1
      have zz1 := (zz (show wr.heap[w.heap.size + 1 + 1]? = _ from R3.out) (.int .i64 (after p V R zs).1) (.int .i64 (after p V R zs).2)).2
      refine bodyPost_ret (v := .tuple #[v, .agg #[.int .i64 (after p V R zs).1, .int .i64 (after p V R zs).2], .int .i64 0]) (by simp [results, Try.results25, go_sem, zz0, zz1]) rfl ⟨v, rfl, ?_, ?_⟩
      · rw [← HN.out]
        refine ownsRow_of_block (show wr.ownsRow w.heap.size 3 1 v _ _ from ⟨R5.out.1, R5.out.2.imp id fun ⟨g, cap, cur, x1, x2, x3⟩ => ⟨g, cap, cur, x1, by omega, x3⟩⟩) fun g hg => ?_
        have := (R5.out.lt g hg).1
        show ((wr.setCell ⟨w.heap.size + 1 + 1, 0, none⟩ (.int .i64 (after p V R zs).1)).setCell ⟨w.heap.size + 1 + 1, 1, none⟩ (.int .i64 (after p V R zs).2)).heap[g]? = _
        rw [Below.heap_setCell _ _ _ _ (by show g ≠ w.heap.size + 1 + 1; omega), Below.heap_setCell _ _ _ _ (by show g ≠ w.heap.size + 1 + 1; omega)]
      · exact ((R4.out.setCell (p := ⟨w.heap.size + 1 + 1, 0, none⟩) (by simp <;> omega) _).setCell (p := ⟨w.heap.size + 1 + 1, 1, none⟩) (by simp <;> omega) _).drew

end Go.Proofs.Ytkpabecnimakpaa
