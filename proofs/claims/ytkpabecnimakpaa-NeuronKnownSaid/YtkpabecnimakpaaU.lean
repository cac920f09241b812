/- The specification's Silent. -/
import Derived.Test.YtkpabecnimakpaaT
import Derived.Laws.MakeOwn
import Derived.Laws.OwnMore
namespace Go.Proofs.Ytkpabecnimakpaa
set_option linter.unusedVariables false
open Go.RowKit Go.Shelf

theorem make_zeros (n : Nat) (hn : n ≤ 10000) (zs : List Int) (hzs : zs = List.replicate n 0) (W : World) :
    (Instr.makeSlice 35 (.int .i64 (n : Int)) (.int .i64 (n : Int))).run Try.prog W = .ok (.slice (some ⟨W.heap.size, 0, none⟩) n n) (W.alloc (.cells (zs.map (Value.int .i64)).toArray 3)) := by
  obtain ⟨i, h1, h2, h3, h4⟩ := info_parts Try.info3
  have hr := run_make (P := Try.prog) W 35 3 i (.int .i64 0) Try.underlying35 h1 h2 .i64 .i64 n n (by omega) (by omega) (by rw [h4]; omega) (by omega)
  rw [hr, h3]
  have e : madeCells (Value.int .i64 0).cells ((n : Int).toNat * 1) = (zs.map (Value.int .i64)).toArray := by
    apply Array.toList_inj.1
    rw [Int.toNat_natCast, Nat.mul_one, show (Value.int .i64 0).cells = #[.int .i64 0] from rfl, toList_madeCells_one, hzs]
    simp
  rw [e]
  simp

set_option maxRecDepth 100000 in
set_option maxHeartbeats 1000000 in
theorem rsilent_ok (p : Prm) (V R : Int) (hv : validP p V R = 0) (n : Nat) (hn : n ≤ 10000) (zs : List Int) (hzs : zs = List.replicate n 0) (w : World) :
    Calls Try.prog 28 #[.agg #[.int .i64 p.lk, .int .i64 p.lv, .int .i64 p.bi, .int .i64 p.th, .int .i64 p.rk, .int .i64 p.rs, .int .i64 p.fl, .int .i64 p.re], .agg #[.int .i64 V, .int .i64 R], .int .i64 (n : Int)] w (RunDone p V R zs w) := by
  have hv' : (validP p V R != 0) = false := by simp [hv]
  have hin : inR (n : Int) 0 10000 = true := by simp [inR]; omega
  have hlen : zs.length = n := by rw [hzs]; simp
  have hr := fun a cap W hI => rrun_ok p V R hv a cap zs (by omega) W hI
  rw [hlen] at hr
  have hmk := make_zeros n hn zs hzs
  have hblk : ∀ (W : World) (b : Nat), W.heap[b]? = some (.cells (zs.map (Value.int .i64)).toArray 3) → IntsAt W (.slice (some ⟨b, 0, none⟩) n n) zs := fun W b h => by rw [← hlen]; exact intsAt_block h
  have HR := Lib.hid hr
  have HBK := Lib.hid hblk
  have HZ := Lib.hid hzs
  have HL := Lib.hid hlen
  clear hv hr hzs hlen hblk
  have hn0 : (0 : Int) ≤ (n : Int) := Int.natCast_nonneg _
  have hn1 : (n : Int) ≤ 10000 := by omega
  go_enter Try.func28, Try.ntmps28
  go_wp2_with (first | (go_at_call 20; refine (rvalid_any p V R _).mono ?_; rintro e w1 ⟨rfl, hb1⟩; obtain ⟨hc1, hf1⟩ := bcell hb1; have hz1 : w.heap.size + 2 < w1.heap.size := (by have := hb1.size; simp at this; omega)) | (go_at_call 41; refine (rwithin_any _ _ _ _).mono ?_; rintro e w' ⟨rfl, rfl⟩))
  have hb2 : Below w.heap.size w w1 := (((Below.refl _ _).alloc (Nat.le_refl _) _).alloc (by simp) _ |>.alloc (by simp <;> omega) _).trans (hb1.mono (by simp <;> omega))
  have pA : PrmAt p w.heap.size w1 := by
    unfold PrmAt; rw [hb1.block _ (by simp <;> omega), Below.heap_alloc _ _ _ (by simp <;> omega), Below.heap_alloc _ _ _ (by simp <;> omega)]; exact alloc_new_at _ _ _ rfl
  have sA : StAt V R (w.heap.size + 1) w1 := by
    unfold StAt; rw [hb1.block _ (by simp <;> omega), Below.heap_alloc _ _ _ (by simp <;> omega)]; exact alloc_new_at _ _ _ (by simp)
  have tA : StAt 0 0 (w.heap.size + 1 + 1) w1 := by
    unfold StAt; rw [hb1.block _ (by simp <;> omega)]; exact alloc_new_at _ _ _ (by simp)
  obtain ⟨_, _, _, _, _, _, _, _⟩ := cells8 pA
  obtain ⟨_, _, _, _⟩ := cells2 sA
  obtain ⟨_, _, _, _⟩ := cells2 tA
  have hl0 : w.heap.size < w1.heap.size := by omega
  have hl1 : w.heap.size + 1 < w1.heap.size := by omega
  have HB2 := Lib.hid hb2
  have PA := Lib.hid pA
  have SA := Lib.hid sA
  have TA := Lib.hid tA
  clear hb1 hb2 hc1 hf1 pA sA tA
  go_region_held3 (fun w' => w'.cell? ⟨w.heap.size, 0, none⟩ = some (.int .i64 p.lk) ∧ w'.cell? ⟨w.heap.size, 1, none⟩ = some (.int .i64 p.lv) ∧ w'.cell? ⟨w.heap.size, 2, none⟩ = some (.int .i64 p.bi) ∧ w'.cell? ⟨w.heap.size, 3, none⟩ = some (.int .i64 p.th) ∧ w'.cell? ⟨w.heap.size, 4, none⟩ = some (.int .i64 p.rk) ∧ w'.cell? ⟨w.heap.size, 5, none⟩ = some (.int .i64 p.rs) ∧ w'.cell? ⟨w.heap.size, 6, none⟩ = some (.int .i64 p.fl) ∧ w'.cell? ⟨w.heap.size, 7, none⟩ = some (.int .i64 p.re) ∧ w'.cell? ⟨w.heap.size + 1, 0, none⟩ = some (.int .i64 V) ∧ w'.cell? ⟨w.heap.size + 1, 1, none⟩ = some (.int .i64 R)) (first | (go_keep; done) | (refine ⟨?_, ?_, ?_, ?_, ?_, ?_, ?_, ?_, ?_, ?_⟩ <;> (refine cell_two_far ?_ ?_; assumption; omega)))
    (first | (go_at_call 25; refine (HR.out _ _ _ ?_).mono ?_; (focus (exact HBK.out _ _ (alloc_new_at _ _ _ rfl))); rintro e w2 ⟨v, rfl, ho, hb3⟩; have q3 : Below w1.heap.size w1 w2 := (by (focus (first | (exact Below.refl _ _) | ((repeat (first | exact Below.refl _ _ | refine below_drewN ?_ _ | refine Below.drew ?_ | refine Below.alloc ?_ ?_ _ | refine Below.setCell ?_ ?_ _ | refine Below.trans ?_ (Below.mono (by assumption) ?_))); all_goals (first | omega | (simp; done) | (simp; omega)))))); have hz2 : w1.heap.size < w2.heap.size := (by have h9 := hb3.size; simp at h9; omega); obtain ⟨_, _, _, _, _, _, _, _⟩ := cells8 ((q3.block _ (by omega)).trans PA.out); obtain ⟨_, _, _, _⟩ := cells2 ((q3.block _ (by omega)).trans SA.out); obtain ⟨y0, y1, yf0, yf1⟩ := cells2 ((q3.block _ (by omega)).trans TA.out); have HO := Lib.hid ho; have HB3 := Lib.hid hb3; have Q3 := Lib.hid q3; clear ho hb3 q3))
  go_wp2
  have hTA : w2.heap[w.heap.size + 1 + 1]? = some (.cells #[.int .i64 0, .int .i64 0] 25) := (Q3.out.block _ (by omega)).trans TA.out
  have zz0 := (zz hTA (.int .i64 (after p V R zs).1) (.int .i64 (after p V R zs).2)).1
  have zz1 := (zz hTA (.int .i64 (after p V R zs).1) (.int .i64 (after p V R zs).2)).2
  refine bodyPost_ret (v := .tuple #[v, .agg #[.int .i64 (after p V R zs).1, .int .i64 (after p V R zs).2], .int .i64 0]) (by simp [results, Try.results28, go_sem, zz0, zz1]) rfl ⟨v, rfl, ?_, ?_⟩
  · refine ownsRow_of_block (show w2.ownsRow w.heap.size 3 1 v _ _ from ⟨HO.out.1, HO.out.2.imp id fun ⟨g, cap, cur, x1, x2, x3⟩ => ⟨g, cap, cur, x1, by have := x2; simp at this; omega, x3⟩⟩) fun g hg => ?_
    have := (HO.out.lt g hg).1
    have h9 : w1.heap.size < g := by simp at this; omega
    rw [Below.heap_setCell _ _ _ _ (by show g ≠ w.heap.size + 1 + 1; omega), Below.heap_setCell _ _ _ _ (by show g ≠ w.heap.size + 1 + 1; omega)]
  · exact ((HB2.out.trans (Q3.out.mono HB2.out.size)).setCell (p := ⟨w.heap.size + 1 + 1, 0, none⟩) (by simp <;> omega) _).setCell (p := ⟨w.heap.size + 1 + 1, 1, none⟩) (by simp <;> omega) _

/-- What Silent returns. -/
def silF (p : Prm) (V R n : Int) : List Int × Int × Int × Int :=
  if validP p V R ≠ 0 then ([], 0, 0, validP p V R) else if inR n 0 10000 = false then ([], 0, 0, 3)
  else (spkL (runL p V R (List.replicate n.toNat 0)) n.toNat, (after p V R (List.replicate n.toNat 0)).1, (after p V R (List.replicate n.toNat 0)).2, 0)

theorem sil_short {p : Prm} {V R n : Int} {L : List Int} {X Y er : Int} (h : silF p V R n = (L, X, Y, er)) : L.length ≤ 10000 := by
  unfold silF at h
  split at h
  · cases h; simp
  · split at h
    · cases h; simp
    · rename_i h1 h2
      have h3 : inR n 0 10000 = true := by simpa using h2
      rw [inR_true] at h3
      have := spkL_le (runL p V R (List.replicate n.toNat 0)) n.toNat
      cases h
      omega

theorem sil_got_of {f : Nat} (p : Prm) (V R n : Int) {L : List Int} {X Y er : Int} (hF : silF p V R n = (L, X, Y, er)) (w : World)
    (h1 : validP p V R ≠ 0 → Calls Try.prog f #[.agg #[.int .i64 p.lk, .int .i64 p.lv, .int .i64 p.bi, .int .i64 p.th, .int .i64 p.rk, .int .i64 p.rs, .int .i64 p.fl, .int .i64 p.re], .agg #[.int .i64 V, .int .i64 R], .int .i64 n] w fun e w' => e = .returned (.tuple #[.slice none 0 0, .agg #[.int .i64 0, .int .i64 0], .int .i64 (validP p V R)]) ∧ Below w.heap.size w w')
    (h2 : validP p V R = 0 → inR n 0 10000 = false → Calls Try.prog f #[.agg #[.int .i64 p.lk, .int .i64 p.lv, .int .i64 p.bi, .int .i64 p.th, .int .i64 p.rk, .int .i64 p.rs, .int .i64 p.fl, .int .i64 p.re], .agg #[.int .i64 V, .int .i64 R], .int .i64 n] w fun e w' => e = .returned (.tuple #[.slice none 0 0, .agg #[.int .i64 0, .int .i64 0], .int .i64 3]) ∧ Below w.heap.size w w')
    (h3 : validP p V R = 0 → ∀ m : Nat, n = m → m ≤ 10000 → Calls Try.prog f #[.agg #[.int .i64 p.lk, .int .i64 p.lv, .int .i64 p.bi, .int .i64 p.th, .int .i64 p.rk, .int .i64 p.rs, .int .i64 p.fl, .int .i64 p.re], .agg #[.int .i64 V, .int .i64 R], .int .i64 n] w (RunDone p V R (List.replicate m 0) w)) :
    Calls Try.prog f #[.agg #[.int .i64 p.lk, .int .i64 p.lv, .int .i64 p.bi, .int .i64 p.th, .int .i64 p.rk, .int .i64 p.rs, .int .i64 p.fl, .int .i64 p.re], .agg #[.int .i64 V, .int .i64 R], .int .i64 n] w (RunGot L X Y er w) := by
  unfold silF at hF
  by_cases hv : validP p V R ≠ 0
  · rw [if_pos hv] at hF
    cases hF
    refine (h1 hv).mono ?_
    rintro e w' ⟨rfl, hb⟩
    exact ⟨none, 0, rfl, Or.inl ⟨rfl, rfl⟩, hb⟩
  · rw [if_neg hv] at hF
    have hv' : validP p V R = 0 := by omega
    by_cases hn : inR n 0 10000 = false
    · rw [if_pos hn] at hF
      cases hF
      refine (h2 hv' hn).mono ?_
      rintro e w' ⟨rfl, hb⟩
      exact ⟨none, 0, rfl, Or.inl ⟨rfl, rfl⟩, hb⟩
    · rw [if_neg hn] at hF
      have hn' : inR n 0 10000 = true := by simpa using hn
      rw [inR_true] at hn'
      cases hF
      refine (h3 hv' n.toNat (by omega) (by omega)).mono ?_
      rintro e w' ⟨v, rfl, ho, hb⟩
      rw [List.length_replicate] at ho
      have hi := intsAt_of_owns ho
      obtain ⟨a, cap, rfl⟩ := hi.len
      exact ⟨a, cap, rfl, hi, hb⟩

theorem silent_got (p : Prm) (V R n : Int) {L : List Int} {X Y er : Int} (hF : silF p V R n = (L, X, Y, er)) (w : World) : Calls Try.prog 27 #[.agg #[.int .i64 p.lk, .int .i64 p.lv, .int .i64 p.bi, .int .i64 p.th, .int .i64 p.rk, .int .i64 p.rs, .int .i64 p.fl, .int .i64 p.re], .agg #[.int .i64 V, .int .i64 R], .int .i64 n] w (RunGot L X Y er w) :=
  sil_got_of p V R n hF w (fun h => silent_err p V R n h w) (fun h h' => silent_range p V R n h h' w) (fun h m hm hm' => by subst hm; exact silent_ok p V R h m hm' _ rfl w)
theorem rsilent_got (p : Prm) (V R n : Int) {L : List Int} {X Y er : Int} (hF : silF p V R n = (L, X, Y, er)) (w : World) : Calls Try.prog 28 #[.agg #[.int .i64 p.lk, .int .i64 p.lv, .int .i64 p.bi, .int .i64 p.th, .int .i64 p.rk, .int .i64 p.rs, .int .i64 p.fl, .int .i64 p.re], .agg #[.int .i64 V, .int .i64 R], .int .i64 n] w (RunGot L X Y er w) :=
  sil_got_of p V R n hF w (fun h => rsilent_err p V R n h w) (fun h h' => rsilent_range p V R n h h' w) (fun h m hm hm' => by subst hm; exact rsilent_ok p V R h m hm' _ rfl w)

/-- What both Nexts return. -/
theorem next_both (p : Prm) (V R : Int) : ∃ N er : Int, (∀ w, Calls Try.prog 29 #[.agg #[.int .i64 p.lk, .int .i64 p.lv, .int .i64 p.bi, .int .i64 p.th, .int .i64 p.rk, .int .i64 p.rs, .int .i64 p.fl, .int .i64 p.re], .agg #[.int .i64 V, .int .i64 R]] w fun e w' => e = .returned (.tuple #[.int .i64 N, .int .i64 er]) ∧ Below w.heap.size w w') ∧
    (∀ w, Calls Try.prog 30 #[.agg #[.int .i64 p.lk, .int .i64 p.lv, .int .i64 p.bi, .int .i64 p.th, .int .i64 p.rk, .int .i64 p.rs, .int .i64 p.fl, .int .i64 p.re], .agg #[.int .i64 V, .int .i64 R]] w fun e w' => e = .returned (.tuple #[.int .i64 N, .int .i64 er]) ∧ Below w.heap.size w w') := by
  by_cases hv : validP p V R = 0
  · obtain ⟨K, hK⟩ := stop_at p V R hv
    exact ⟨_, _, next_ok p V R hv K hK, rnext_ok p V R hv K hK⟩
  · exact ⟨_, _, next_err p V R hv, rnext_err p V R hv⟩

end Go.Proofs.Ytkpabecnimakpaa
