/- For every neuron, state and two numbers of ticks the law NeuronSilence returns true. No condition. -/
import Derived.Test.YtkpabecnimakpaaV
namespace Go.Proofs.Ytkpabecnimakpaa.neuronSilence
open Go.ChangeShapes Go.WideShapes Go.ChangeAt Go.RowKit
set_option linter.unusedVariables false


set_option maxRecDepth 100000 in
set_option maxHeartbeats 2000000 in
theorem inv (p : Prm) (V R a b : Int) (ha : 0 ≤ a) (ha' : a ≤ 65535) (hb : 0 ≤ b) (hb' : b ≤ 65535) (hv : validP p V R ≠ 0) (w : World) :
    Calls Try.prog 11 #[.agg #[.int .i64 p.lk, .int .i64 p.lv, .int .i64 p.bi, .int .i64 p.th, .int .i64 p.rk, .int .i64 p.rs, .int .i64 p.fl, .int .i64 p.re], .agg #[.int .i64 V, .int .i64 R], .int .u16 a, .int .u16 b] w fun e w' => e = .returned (.bool true) ∧ Below w.heap.size w w' := by
  have g1 : (validP p V R != 0) = true := by simp [hv]
  have K1 := Lib.hid (next_err p V R hv)
  clear hv
  go_enter Try.func11, Try.ntmps11
  go_wp2_with fail
  go_at_call 19
  refine (valid_any p V R _).mono ?_
  rintro e w1 ⟨rfl, hb1⟩
  obtain ⟨hc1, hf1⟩ := bcell hb1
  have hz1 : w.heap.size + 1 < w1.heap.size := by have := hb1.size; simp at this; omega
  have hz1a : w.heap.size < w1.heap.size := by omega
  go_wp2_with fail
  go_at_call 29
  refine (K1.out _).mono ?_
  rintro e w2 ⟨rfl, hb2⟩
  obtain ⟨hc2, hf2⟩ := bcell hb2
  have hz2 : w1.heap.size ≤ w2.heap.size := hb2.size
  have hz2a : w.heap.size < w2.heap.size := by omega
  have hz2b : w.heap.size + 1 < w2.heap.size := by omega
  go_wp2_with fail
  go_at_call 19
  refine (valid_any p V R _).mono ?_
  rintro e w3 ⟨rfl, hb3⟩
  have hz3 : w2.heap.size ≤ w3.heap.size := hb3.size
  go_wp2_with (go_at_call 21; refine (works_any _).mono ?_; rintro e w4 ⟨rfl, hb4⟩)
  go_ret
  refine ⟨rfl, ?_⟩
  (focus (first | (exact Below.refl _ _) | ((repeat (first | exact Below.refl _ _ | refine below_drewN ?_ _ | refine Below.drew ?_ | refine Below.alloc ?_ ?_ _ | refine Below.setCell ?_ ?_ _ | refine Below.trans ?_ (Below.mono (by assumption) ?_))); all_goals (first | omega | (simp; done) | (simp; omega)))))

theorem spkL_bd (xs : List ((Int × Int) × Bool)) : ∀ k, k ≤ xs.length → ∀ z ∈ spkL xs k, 0 ≤ z ∧ z < k := by
  intro k
  induction k with
  | zero => intro _ z hz; simp [spkL] at hz
  | succ k ih =>
    intro hk z hz
    obtain ⟨x, hx⟩ : ∃ x, xs[k]? = some x := ⟨_, List.getElem?_eq_getElem (by omega)⟩
    rw [spkL_succ hx] at hz
    rcases List.mem_append.1 hz with h | h
    · have := ih (by omega) z h; omega
    · split at h
      · simp at h; omega
      · simp at h

/-- What the three silences and Next are, in the law's words. -/
theorem facts (p : Prm) (V R : Int) (hv : validP p V R = 0) (n m : Nat) (hn : n ≤ 2000) (hm : m ≤ 2000) : ∃ (L1 L2 L3 : List Int) (X1 Y1 X2 Y2 N : Int),
    silF p V R n = (L1, X1, Y1, 0) ∧ silF p X1 Y1 m = (L2, X2, Y2, 0) ∧ silF p V R ((n : Int) + m) = (L3, X2, Y2, 0) ∧ L3 = L1 ++ L2.map (fun z : Int => z + (n : Int)) ∧ L1.length ≤ n ∧ L2.length ≤ m ∧ (∀ z ∈ L2, 0 ≤ z ∧ z < m) ∧
    (∀ w, Calls Try.prog 29 #[.agg #[.int .i64 p.lk, .int .i64 p.lv, .int .i64 p.bi, .int .i64 p.th, .int .i64 p.rk, .int .i64 p.rs, .int .i64 p.fl, .int .i64 p.re], .agg #[.int .i64 V, .int .i64 R]] w fun e w' => e = .returned (.tuple #[.int .i64 N, .int .i64 0]) ∧ Below w.heap.size w w') ∧
    -1 ≤ N ∧ (L3.length = 0 ∧ (N < 0 ∨ (n : Int) + m ≤ N) ∨ 0 < L3.length ∧ L3[0]? = some N) ∧
    (p.bi = 0 → V < p.th → N = -1 ∧ X2 ≤ max V (-V) ∧ -X2 ≤ max V (-V)) := by
  obtain ⟨hok, k1, k2, k3, k4⟩ := ok_of_valid hv
  obtain ⟨K, hK⟩ := stop_at p V R hv
  have hv1 : validP p (sil p V R n).1 (sil p V R n).2 = 0 := by
    have := after_valid hok k1 k2 k3 k4 (List.replicate n 0)
    have hck : checkP p = 0 := by
      unfold validP at hv; split at hv
      · assumption
      · omega
    unfold validP sil; rw [if_pos hck, if_pos]; simp [inR, this]
  have hs := sil_split p V R n m
  have hf := next_first p V R K hK (n + m)
  refine ⟨spkL (runL p V R (List.replicate n 0)) n, spkL (runL p (sil p V R n).1 (sil p V R n).2 (List.replicate m 0)) m, spkL (runL p V R (List.replicate (n + m) 0)) (n + m), (sil p V R n).1, (sil p V R n).2,
    (sil p V R (n + m)).1, (sil p V R (n + m)).2, nextR p V R K, ?_, ?_, ?_, hs.2, ?_, ?_, ?_, next_ok p V R hv K hK, hf.1, ?_, ?_⟩
  · unfold silF; rw [if_neg (by simp [hv]), if_neg (by simp [inR]; omega)]; simp [sil]
  · unfold silF; rw [if_neg (by simp [hv1]), if_neg (by simp [inR]; omega)]
    have : sil p V R (n + m) = after p (sil p V R n).1 (sil p V R n).2 (List.replicate m 0) := hs.1
    rw [this]; simp
  · unfold silF; rw [if_neg (by simp [hv]), if_neg (by simp [inR]; omega)]
    rw [show ((n : Int) + m).toNat = n + m by omega]; simp [sil]
  · have := spkL_le (runL p V R (List.replicate n 0)) n; exact this
  · have := spkL_le (runL p (sil p V R n).1 (sil p V R n).2 (List.replicate m 0)) m; exact this
  · exact spkL_bd _ m (by rw [runL_length]; simp)
  · rcases hf.2 with ⟨h1, h2⟩ | h
    · left; exact ⟨by rw [h1]; rfl, by omega⟩
    · right; exact ⟨(List.getElem?_eq_some_iff.1 h).1, h⟩
  · intro hb hV
    obtain ⟨c1, c2, c3, c4, c5⟩ := sil_calm p hok V R hb hV k1 k2 (n + m)
    refine ⟨?_, c4, c5⟩
    unfold nextR; rw [if_neg]; rw [calm_never p hok V R hb hV k1 k2 K]; simp

/-- A silence's outcome: its list's cells. -/
def Got (L : List Int) (ℓ : Nat) (X Y : Int) (w : World) (e : Ending) (w' : World) : Prop :=
  ∃ a cap, e = .returned (.tuple #[.slice a ℓ cap, .agg #[.int .i64 X, .int .i64 Y], .int .i64 0]) ∧ (∀ k, k < ℓ → ∃ b off, a = some ⟨b, off, none⟩ ∧ w'.cell? ⟨b, off + k, none⟩ = some (.int .i64 (L[k]?.getD 0))) ∧ Below w.heap.size w w'
theorem got_of {L : List Int} {X Y : Int} {w : World} {ℓ : Nat} (hl : ℓ = L.length) {e : Ending} {w' : World} (h : RunGot L X Y 0 w e w') : Got L ℓ X Y w e w' := by
  obtain ⟨a, cap, rfl, hi, hb⟩ := h
  subst hl
  exact ⟨a, cap, rfl, fun k hk => intsAt_cell hi k hk, hb⟩
theorem keep_list {L : List Int} {ℓ : Nat} {a : Option Addr} {W W' : World} (h : ∀ k, k < ℓ → ∃ b off, a = some ⟨b, off, none⟩ ∧ W.cell? ⟨b, off + k, none⟩ = some (.int .i64 (L[k]?.getD 0))) (hb : Below W.heap.size W W') :
    ∀ k, k < ℓ → ∃ b off, a = some ⟨b, off, none⟩ ∧ W'.cell? ⟨b, off + k, none⟩ = some (.int .i64 (L[k]?.getD 0)) := fun k hk => by
  obtain ⟨b, off, h1, h2⟩ := h k hk
  exact ⟨b, off, h1, (hb.cell (p := ⟨b, off + k, none⟩) (World.block_lt_of_cell? W _ h2)).trans h2⟩

set_option maxRecDepth 100000 in
set_option maxHeartbeats 4000000 in
theorem ok (p : Prm) (V R a b : Int) (ha : 0 ≤ a) (ha' : a ≤ 65535) (hb : 0 ≤ b) (hb' : b ≤ 65535) (hv : validP p V R = 0) (w : World) :
    Calls Try.prog 11 #[.agg #[.int .i64 p.lk, .int .i64 p.lv, .int .i64 p.bi, .int .i64 p.th, .int .i64 p.rk, .int .i64 p.rs, .int .i64 p.fl, .int .i64 p.re], .agg #[.int .i64 V, .int .i64 R], .int .u16 a, .int .u16 b] w fun e w' => e = .returned (.bool true) ∧ Below w.heap.size w w' := by
  have g1 : (validP p V R != 0) = false := by simp [hv]
  obtain ⟨n, hn⟩ : ∃ n : Nat, a % 2001 = n := Int.eq_ofNat_of_zero_le (by omega)
  obtain ⟨m, hm⟩ : ∃ n : Nat, b % 2001 = n := Int.eq_ofNat_of_zero_le (by omega)
  have hn1 : n ≤ 2000 := by omega
  have hm1 : m ≤ 2000 := by omega
  obtain ⟨L1, L2, L3, X1, Y1, X2, Y2, N, h1, h2, h3, h4, h5, h6, hbd, h7, h8, h9, h10⟩ := facts p V R hv n m hn1 hm1
  obtain ⟨ℓ1, e1⟩ : ∃ ℓ, ℓ = L1.length := ⟨_, rfl⟩
  obtain ⟨ℓ2, e2⟩ : ∃ ℓ, ℓ = L2.length := ⟨_, rfl⟩
  obtain ⟨ℓ3, e3⟩ : ∃ ℓ, ℓ = L3.length := ⟨_, rfl⟩
  have e4 : ℓ3 = ℓ1 + ℓ2 := by rw [e3, e1, e2, h4]; simp
  have hVb : -1048576 ≤ V ∧ V ≤ 1048576 := by
    obtain ⟨hok, k1, k2, _, _⟩ := ok_of_valid hv
    have := hok.fl0
    omega
  have S1 := Lib.hid fun w => (silent_got p V R n h1 w).mono fun e w' h => got_of e1 h
  have S2 := Lib.hid fun w => (silent_got p X1 Y1 m h2 w).mono fun e w' h => got_of e2 h
  have S3 := Lib.hid fun w => (silent_got p V R ((n : Int) + m) h3 w).mono fun e w' h => got_of e3 h
  rw [← e1] at h5
  rw [← e2] at h6
  rw [← e3] at h9
  have hL1 : ∀ t, t < ℓ1 → L3[t]?.getD 0 = L1[t]?.getD 0 := fun t ht => by rw [h4, List.getElem?_append_left (by omega)]
  have hL2 : ∀ t, ℓ1 ≤ t → t < ℓ3 → L3[t]?.getD 0 = n + L2[t - ℓ1]?.getD 0 := fun t ht ht' => by
    rw [h4, List.getElem?_append_right (by omega), List.getElem?_map, ← e1, List.getElem?_eq_getElem (by omega)]
    simp; omega
  have hbd' : ∀ t, t < ℓ2 → 0 ≤ L2[t]?.getD 0 ∧ L2[t]?.getD 0 ≤ 2000 := fun t ht => by
    rw [List.getElem?_eq_getElem (by omega)]
    have := hbd (L2[t]'(by omega)) (List.getElem_mem _)
    simp only [Option.getD_some]; omega
  have HBD := Lib.hid hbd'
  clear hbd hbd'
  have q1 : ((ℓ1 : Int) + (ℓ2 : Int) != (ℓ3 : Int)) = false := by simp; omega
  have H4 := Lib.hid h4
  have HN := Lib.hid h7
  have H9 := Lib.hid h9
  have H10 := Lib.hid h10
  have HL1 := Lib.hid hL1
  have HL2 := Lib.hid hL2
  have E4 := Lib.hid e4
  clear h1 h2 h3 h4 h7 h9 h10 hv hL1 hL2 e1 e2 e3 e4
  go_enter Try.func11, Try.ntmps11
  go_wp2_with fail
  go_at_call 19
  refine (valid_any p V R _).mono ?_
  rintro e w1 ⟨rfl, hb1⟩
  obtain ⟨hc1, hf1⟩ := bcell hb1
  have hz1 : w.heap.size + 1 < w1.heap.size := by have := hb1.size; simp at this; omega
  have hz1a : w.heap.size < w1.heap.size := by omega
  go_wp2_with fail
  go_at_call 27
  refine (S1.out _).mono ?_
  rintro e w2 ⟨a1, c1, rfl, hl1, hb2⟩
  obtain ⟨hc2, hf2⟩ := bcell hb2
  have hz2 : w1.heap.size ≤ w2.heap.size := hb2.size
  have hz2a : w.heap.size < w2.heap.size := by omega
  have hz2b : w.heap.size + 1 < w2.heap.size := by omega
  have K1 := Lib.hid hl1
  clear hl1
  go_wp2_with fail
  go_at_call 27
  refine (S2.out _).mono ?_
  rintro e w3 ⟨a2, c2, rfl, hl2, hb3⟩
  obtain ⟨hc3, hf3⟩ := bcell hb3
  have hz3 : w2.heap.size < w3.heap.size := by have := hb3.size; simp at this; omega
  have hz3a : w.heap.size < w3.heap.size := by omega
  have hz3b : w.heap.size + 1 < w3.heap.size := by omega
  have K2 := Lib.hid hl2
  clear hl2
  go_wp2_with fail
  go_at_call 27
  refine (S3.out _).mono ?_
  rintro e w4 ⟨a3, c3, rfl, hl3, hb4⟩
  obtain ⟨hc4, hf4⟩ := bcell hb4
  have hz4 : w3.heap.size < w4.heap.size := by have := hb4.size; simp at this; omega
  have hz4a : w.heap.size < w4.heap.size := by omega
  have hz4b : w.heap.size + 1 < w4.heap.size := by omega
  have K3 := Lib.hid hl3
  clear hl3
  go_wp2_with fail
  go_at_call 29
  refine (HN.out _).mono ?_
  rintro e w5 ⟨rfl, hb5⟩
  obtain ⟨hc5, hf5⟩ := bcell hb5
  have hz5 : w4.heap.size < w5.heap.size := by have := hb5.size; simp at this; omega
  have hz5a : w.heap.size < w5.heap.size := by omega
  have hz5b : w.heap.size + 1 < w5.heap.size := by omega
  have hz5c : w3.heap.size < w5.heap.size := by omega
  have B12 : Below w.heap.size w w2 := ((((Below.refl _ _).alloc (Nat.le_refl _) _).alloc (by simp) _).trans (hb1.mono (by simp <;> omega))).trans (hb2.mono (by omega))
  have B45 : Below w4.heap.size w4 w5 := ((Below.refl _ _).alloc (Nat.le_refl _) _).trans (hb5.mono (by simp))
  have B34 : Below w3.heap.size w3 w4 := ((Below.refl _ _).alloc (Nat.le_refl _) _).trans (hb4.mono (by simp))
  have B23 : Below w2.heap.size w2 w3 := ((Below.refl _ _).alloc (Nat.le_refl _) _).trans (hb3.mono (by simp))
  have B35 : Below w3.heap.size w3 w5 := B34.trans (B45.mono B34.size)
  have B25 : Below w2.heap.size w2 w5 := B23.trans (B35.mono B23.size)
  have pA : PrmAt p w.heap.size w5 := by
    unfold PrmAt; rw [B25.block _ (by omega), hb2.block _ (by omega), hb1.block _ (by simp <;> omega), Below.heap_alloc _ _ _ (by simp <;> omega)]; exact alloc_new_at _ _ _ rfl
  have sA : StAt V R (w.heap.size + 1) w5 := by
    unfold StAt; rw [B25.block _ (by omega), hb2.block _ (by omega), hb1.block _ (by simp <;> omega)]; exact alloc_new_at _ _ _ (by simp)
  have sU : StAt X2 Y2 w3.heap.size w5 := by
    unfold StAt; rw [B45.block _ (by omega), hb4.block _ (by simp)]; exact alloc_new_at _ _ _ rfl
  have sW : StAt X2 Y2 w4.heap.size w5 := by
    unfold StAt; rw [hb5.block _ (by simp)]; exact alloc_new_at _ _ _ rfl
  have B0 := Lib.hid (B12.trans (B25.mono B12.size))
  have K1 := Lib.hid (keep_list K1.out B25)
  have K2 := Lib.hid (keep_list K2.out B35)
  have K3 := Lib.hid (keep_list K3.out B45)
  clear hb1 hb2 hb3 hb4 hb5 hc1 hc2 hc3 hc4 hc5 hf1 hf2 hf3 hf4 hf5 B12 B25 B35 B45 B34 B23
  obtain ⟨_, _, _, _, _, _, _, _⟩ := cells8 pA
  obtain ⟨_, _, _, _⟩ := cells2 sA
  obtain ⟨_, _, _, _⟩ := cells2 sU
  obtain ⟨_, _, _, _⟩ := cells2 sW
  have PA := Lib.hid pA
  have SA := Lib.hid sA
  have SU := Lib.hid sU
  have SW := Lib.hid sW
  clear pA sA sU sW g1
  have hl3 : ℓ3 ≤ 4000 := by have := E4.out; omega
  go_wp2_with fail
  clear q1
  go_loopw [24] (fun s24 wr => ∃ t : Nat, t ≤ ℓ3 ∧ s24 = .int .i64 t ∧ ∃ d, wr = w5.drewN d) (fun s24 _ => ℓ3 - (intOf s24).toNat)
  case atStart => exact ⟨0, Nat.zero_le _, rfl, 0, rfl⟩
  case round =>
    obtain ⟨t, ht, rfl, d, rfl⟩ := hrel
    by_cases hlt : t < ℓ3
    · obtain ⟨b3, o3, rfl, k3⟩ := K3.out t hlt
      have y1 : (t : Int) < (ℓ3 : Int) := by omega
      have y0 : (0 : Int) ≤ (t : Int) := by omega
      by_cases hlt1 : t < ℓ1
      · obtain ⟨b1, o1, rfl, k1⟩ := K1.out t hlt1
        rw [HL1.out t hlt1] at k3
        obtain ⟨z, hz⟩ : ∃ z, z = L1[t]?.getD 0 := ⟨_, rfl⟩
        rw [← hz] at k1 k3
        have y2 : (t : Int) < (ℓ1 : Int) := by omega
        have y3 : ((ℓ1 : Int) ≤ (t : Int)) = False := by simp; omega
        have y4 : decide (t < ℓ1) = true := by simp; omega
        have y5 : decide (ℓ1 ≤ t) = false := by simp; omega
        clear hz
        go_wp2_with fail
        go_quiet (fail)
        go_wp2_with fail
        exact ⟨⟨t + 1, by omega, by go_num, _, rfl⟩, by simp [intOf]; omega⟩
      · have hx := E4.out
        obtain ⟨b2, o2, rfl, k2⟩ := K2.out (t - ℓ1) (by omega)
        rw [HL2.out t (by omega) hlt] at k3
        obtain ⟨z0, z1⟩ := HBD.out (t - ℓ1) (by omega)
        obtain ⟨z, hz⟩ : ∃ z, z = L2[t - ℓ1]?.getD 0 := ⟨_, rfl⟩
        rw [← hz] at k2 k3 z0 z1
        have y2 : ((t : Int) < (ℓ1 : Int)) = False := by simp; omega
        have y3 : (ℓ1 : Int) ≤ (t : Int) := by omega
        have y4 : decide (t < ℓ1) = false := by simp; omega
        have y5 : decide (ℓ1 ≤ t) = true := by simp; omega
        have y6 : (t : Int) - (ℓ1 : Int) < (ℓ2 : Int) := by omega
        have y7 : ((t : Int) - (ℓ1 : Int)).toNat = t - ℓ1 := by omega
        have y8 : (0 : Int) ≤ (t : Int) - (ℓ1 : Int) := by omega
        clear hz hx
        go_wp2_with fail
        go_quiet (fail)
        go_wp2_with fail
        exact ⟨⟨t + 1, by omega, by go_num, _, rfl⟩, by simp [intOf]; omega⟩
    · obtain rfl : t = ℓ3 := by omega
      have hcase : (∃ (_ : t = 0), N < 0 ∨ 0 ≤ N ∧ (n : Int) + m ≤ N) ∨ 0 < t ∧ ∃ b3 o3, a3 = some ⟨b3, o3, none⟩ ∧ w5.cell? ⟨b3, o3, none⟩ = some (.int .i64 N) := by
        rcases H9.out with ⟨h1, h2⟩ | ⟨h1, h2⟩
        · left; exact ⟨h1, by omega⟩
        · right
          obtain ⟨b3, o3, e3, k3⟩ := K3.out 0 h1
          rw [h2] at k3
          exact ⟨h1, b3, o3, e3, k3⟩
      have hcase2 : (p.bi == 0) = false ∨ (p.bi == 0) = true ∧ ((V < p.th) = False ∨ (V < p.th) = True ∧ N = -1 ∧ (-1048576 ≤ X2 ∧ X2 ≤ 1048576) ∧ ((V < -V) = True ∧ (-V < X2) = False ∧ (-V < -X2) = False ∨ (V < -V) = False ∧ (V < X2) = False ∧ (V < -X2) = False)) := by
        by_cases h1 : p.bi = 0
        · right; refine ⟨by simp [h1], ?_⟩
          by_cases h2 : V < p.th
          · right
            obtain ⟨c1, c2, c3⟩ := H10.out h1 h2
            refine ⟨by simp [h2], c1, by omega, ?_⟩
            by_cases h3 : V < -V
            · left; refine ⟨?_, ?_, ?_⟩ <;> simp only [eq_iff_iff, iff_false, iff_true] <;> omega
            · right; refine ⟨?_, ?_, ?_⟩ <;> simp only [eq_iff_iff, iff_false] <;> omega
          · left; simp only [eq_iff_iff, iff_false]; omega
        · left; simp [h1]
      have hNN : -1 ≤ N := h8
      clear hlt ht
      obtain ⟨hVb1, hVb2⟩ := hVb
      rcases hcase with ⟨rfl, hN | ⟨hN, hN'⟩⟩ | ⟨h0, b3, o3, rfl, k3⟩
      · have u1 : (N < -1) = False := by simp only [eq_iff_iff, iff_false]; omega
        have u2 : (0 ≤ N) = False := by simp only [eq_iff_iff, iff_false]; omega
        rcases hcase2 with v1 | ⟨v1, v2 | ⟨v2, rfl, ⟨v6, v7⟩, ⟨v3, v4, v5⟩ | ⟨v3, v4, v5⟩⟩⟩
        · go_wp2_with (go_at_call 21; refine (works_any _).mono ?_; rintro e w6 ⟨rfl, hb6⟩)
          go_ret
          exact ⟨rfl, (below_drewN B0.out _).trans (hb6.mono B0.out.size)⟩
        · go_wp2_with (go_at_call 21; refine (works_any _).mono ?_; rintro e w6 ⟨rfl, hb6⟩)
          go_ret
          exact ⟨rfl, (below_drewN B0.out _).trans (hb6.mono B0.out.size)⟩
        · go_wp2_with (go_at_call 21; refine (works_any _).mono ?_; rintro e w6 ⟨rfl, hb6⟩)
          go_ret
          exact ⟨rfl, (below_drewN B0.out _).trans (hb6.mono B0.out.size)⟩
        · go_wp2_with (go_at_call 21; refine (works_any _).mono ?_; rintro e w6 ⟨rfl, hb6⟩)
          go_ret
          exact ⟨rfl, (below_drewN B0.out _).trans (hb6.mono B0.out.size)⟩
      · have u1 : (N < -1) = False := by simp only [eq_iff_iff, iff_false]; omega
        have u2 : (0 ≤ N) = True := by simp only [eq_iff_iff, iff_true]; omega
        have u3 : (N < (n : Int) + (m : Int)) = False := by simp only [eq_iff_iff, iff_false]; omega
        have hcase2 : (p.bi == 0) = false ∨ (p.bi == 0) = true ∧ (V < p.th) = False := by
          rcases hcase2 with h | ⟨h, h' | ⟨_, h', _⟩⟩
          · exact Or.inl h
          · exact Or.inr ⟨h, h'⟩
          · omega
        rcases hcase2 with v1 | ⟨v1, v2⟩
        · go_wp2_with (go_at_call 21; refine (works_any _).mono ?_; rintro e w6 ⟨rfl, hb6⟩)
          go_ret
          exact ⟨rfl, (below_drewN B0.out _).trans (hb6.mono B0.out.size)⟩
        · go_wp2_with (go_at_call 21; refine (works_any _).mono ?_; rintro e w6 ⟨rfl, hb6⟩)
          go_ret
          exact ⟨rfl, (below_drewN B0.out _).trans (hb6.mono B0.out.size)⟩
      · have u1 : (N < -1) = False := by simp only [eq_iff_iff, iff_false]; omega
        have u2 : ((0 : Int) < (t : Int)) = True := by simp only [eq_iff_iff, iff_true]; omega
        have u3 : ((t : Int) == 0) = false := by simp; omega
        have u4 : (0 : Int) < (t : Int) := by omega
        rcases hcase2 with v1 | ⟨v1, v2 | ⟨v2, rfl, ⟨v6, v7⟩, ⟨v3, v4, v5⟩ | ⟨v3, v4, v5⟩⟩⟩
        · go_wp2_with (go_at_call 21; refine (works_any _).mono ?_; rintro e w6 ⟨rfl, hb6⟩)
          go_ret
          exact ⟨rfl, (below_drewN B0.out _).trans (hb6.mono B0.out.size)⟩
        · go_wp2_with (go_at_call 21; refine (works_any _).mono ?_; rintro e w6 ⟨rfl, hb6⟩)
          go_ret
          exact ⟨rfl, (below_drewN B0.out _).trans (hb6.mono B0.out.size)⟩
        · go_wp2_with (go_at_call 21; refine (works_any _).mono ?_; rintro e w6 ⟨rfl, hb6⟩)
          go_ret
          exact ⟨rfl, (below_drewN B0.out _).trans (hb6.mono B0.out.size)⟩
        · go_wp2_with (go_at_call 21; refine (works_any _).mono ?_; rintro e w6 ⟨rfl, hb6⟩)
          go_ret
          exact ⟨rfl, (below_drewN B0.out _).trans (hb6.mono B0.out.size)⟩

theorem walk (p : Prm) (V R a : Int) (ha : (Lit.int .u16 a).wf = true) (b : Int) (hb : (Lit.int .u16 b).wf = true) (w : World) :
    Calls Try.prog 11 #[.agg #[.int .i64 p.lk, .int .i64 p.lv, .int .i64 p.bi, .int .i64 p.th, .int .i64 p.rk, .int .i64 p.rs, .int .i64 p.fl, .int .i64 p.re], .agg #[.int .i64 V, .int .i64 R], .int .u16 a, .int .u16 b] w fun e w' => e = .returned (.bool true) ∧ Below w.heap.size w w' := by
  have ha' : 0 ≤ a ∧ a ≤ 65535 := by simp only [Lit.wf, Bool.and_eq_true, decide_eq_true_eq] at ha; exact ha
  have hb' : 0 ≤ b ∧ b ≤ 65535 := by simp only [Lit.wf, Bool.and_eq_true, decide_eq_true_eq] at hb; exact hb
  by_cases hv : validP p V R = 0
  · exact ok p V R a b ha'.1 ha'.2 hb'.1 hb'.2 hv w
  · exact inv p V R a b ha'.1 ha'.2 hb'.1 hb'.2 hv w

set_option maxRecDepth 100000 in
theorem lifted (os : Os) (started : os.Started) (H : Type) (enc : TypeId × Value → H) :
    ReturnsInHanded {} Try.checked os 11 .any (Rows.neuronSilenceSpec.pre6 enc Try.prog Try.f11 Rows.neuronSilenceRow.domain false) (Rows.neuronSilenceSpec.post enc Try.prog Try.f11 false true false false) := by
  refine returnsInHanded_of_change (C := Try.checked) own started (by kernel_rfl) Try.func11
    (ChangeSpec.witness6 (enc := enc) (C := Try.checked) false ⟨#[], #[.agg #[.int .i64 0, .int .i64 0, .int .i64 0, .int .i64 0, .int .i64 0, .int .i64 0, .int .i64 0, .int .i64 0], .agg #[.int .i64 0, .int .i64 0], .int .u16 0, .int .u16 0], []⟩ 8 (by kernel_rfl) (by kernel_rfl) (by kernel_rfl) (by kernel_rfl)) ?_
  intro W base args ds gs before hval0 hW hcnd hsz
  have hval : ∀ (j : Nat) t v, Try.f11.params[j]? = some t → args[j]? = some v → Value.okWide Try.prog W .any base t v := hval0
  have hW' := hW
  obtain ⟨p, q, hA0, hV, rfl, hfz, hnd⟩ := hW
  have hA : DataW.TrodAll enc Try.prog W 0 (fun _ => true) true Try.f11.params.toList args.toList ds p := hA0
  rw [Try.params11] at hA hval
  have hAll := hA
  obtain ⟨v0, vs0, d0, ds0, p0, q0, hargs, rfl, rfl, h0, r0⟩ := trodAll_cons hA
  obtain ⟨v1, vs1, d1, ds1, p1, q1, rfl, rfl, rfl, h1, r1⟩ := trodAll_cons r0
  obtain ⟨v2, vs2, d2, ds2, p2, q2, rfl, rfl, rfl, h2, r2⟩ := trodAll_cons r1
  obtain ⟨v3, vs3, d3, ds3, p3, q3, rfl, rfl, rfl, h3, r3⟩ := trodAll_cons r2
  obtain ⟨rfl, rfl, rfl⟩ := trodAll_nil r3
  obtain rfl : args = #[v0, v1, v2, v3] := by cases args; simp_all
  obtain ⟨rfl, rfl⟩ := trodVars_none hV
  obtain ⟨x0, rfl⟩ := open_prm (hval 0 23 v0 rfl rfl) h0
  obtain ⟨V1, R1, rfl⟩ := open_st (hval 1 25 v1 rfl rfl) h1
  obtain ⟨a2, rfl, rfl, rfl, w2⟩ := open_int Try.underlying50 (hval 2 50 v2 rfl rfl) h2
  obtain ⟨a3, rfl, rfl, rfl, w3⟩ := open_int Try.underlying50 (hval 3 50 v3 rfl rfl) h3
  clear hA0 hval0
  refine (walk x0 V1 R1 a2 w2 a3 w3 W ).mono fun e W' ⟨he, bel⟩ => ?_
  subst he
  have hback := trodAll_below bel [23, 25, 50, 50] (by intro t ht; simp at ht; rcases ht with rfl | rfl | rfl | rfl <;> exact ⟨by kernel_rfl, of_decide_eq_true (by kernel_rfl)⟩) hAll
  exact ⟨_, rfl, _, _, _, [], _, [], hW', trodAll_mk1 (shut_bool Try.underlying4 _), hback, rfl, bel.frame _, fun h => by cases h⟩

theorem over : Rows.neuronSilenceRow.holds Try.pinned (OpenSpec.ofChange Rows.neuronSilenceSpec) :=
  OpenClaim.holds_of_wide 11 Try.f11 rfl rfl rfl rfl rfl rfl rfl ⟨rfl, rfl, rfl, rfl, rfl⟩ rfl rfl rfl rfl rfl (by kernel_rfl) Try.func11 (by kernel_rfl)
    (of_decide_eq_true (by kernel_rfl)) (by unfold Func.isWrapper; first | (rw [if_pos (by decide +kernel)]; kernel_rfl) | (rw [if_neg (by decide +kernel)]; exact ⟨rfl, rfl⟩))
    (fun os started H enc _ => lifted os started H enc)

theorem proved : Rows.NeuronSilenceSaid := over

end Go.Proofs.Ytkpabecnimakpaa.neuronSilence
