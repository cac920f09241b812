/- Times: the mathematics; rising, curve, checkTimes. (mk_Da.py wrote this.) -/
import Derived.Test.YthfmbmjjfdhhnaaCf
import Derived.Lib.SmallJoins
namespace Go.Proofs.Ythfmbmjjfdhhnaa
set_option linter.unusedVariables false
open Go.RowKit

/-- The need of the times i to k: what burst they ask for. -/
def need (T : Nat → Int) (r : Int) (i k : Nat) : Int := 1024 * ((k : Int) - (i : Int) + 1) - r * (T k - T i + 1)
/-- The bucket's level behind the time k. -/
def lev (T : Nat → Int) (r : Int) : Nat → Int
  | 0 => 1024 - r
  | k + 1 => max (lev T r k - r * (T (k + 1) - T k)) (-r) + 1024
/-- The least burst for the first n times. -/
def bur (T : Nat → Int) (r : Int) : Nat → Int
  | 0 => 0
  | k + 1 => max (bur T r k) (lev T r k)
theorem need_succ (T : Nat → Int) (r : Int) (i k : Nat) : need T r i (k + 1) = need T r i k + 1024 - r * (T (k + 1) - T k) := by
  unfold need
  have e : r * (T (k + 1) - T i + 1) = r * (T k - T i + 1) + r * (T (k + 1) - T k) := by rw [← Int.mul_add]; congr 1; omega
  rw [e]
  push_cast
  omega
theorem need_self (T : Nat → Int) (r : Int) (k : Nat) : need T r k k = 1024 - r := by
  unfold need
  have e : r * (T k - T k + 1) = r := by rw [show T k - T k + 1 = 1 by omega, Int.mul_one]
  rw [e]; omega
theorem lev_ge (T : Nat → Int) (r : Int) : ∀ (k i : Nat), i ≤ k → need T r i k ≤ lev T r k
  | 0, i, h => by
    obtain rfl : i = 0 := by omega
    rw [need_self]; simp [lev]
  | k + 1, i, h => by
    rcases Nat.lt_or_ge i (k + 1) with h1 | h1
    · have h2 := lev_ge T r k i (by omega)
      rw [need_succ, lev]
      have := Int.le_max_left (lev T r k - r * (T (k + 1) - T k)) (-r)
      omega
    · obtain rfl : i = k + 1 := by omega
      rw [need_self, lev]
      have := Int.le_max_right (lev T r k - r * (T (k + 1) - T k)) (-r)
      omega
theorem lev_eq (T : Nat → Int) (r : Int) : ∀ k, ∃ i, i ≤ k ∧ lev T r k = need T r i k
  | 0 => ⟨0, Nat.le_refl _, by rw [need_self]; rfl⟩
  | k + 1 => by
    obtain ⟨i, hi, he⟩ := lev_eq T r k
    rcases Int.le_total (-r) (lev T r k - r * (T (k + 1) - T k)) with h | h
    · refine ⟨i, by omega, ?_⟩
      rw [need_succ, ← he, lev, Int.max_eq_left h]; omega
    · refine ⟨k + 1, Nat.le_refl _, ?_⟩
      rw [need_self, lev, Int.max_eq_right h]; omega
theorem bur_nonneg (T : Nat → Int) (r : Int) : ∀ n, 0 ≤ bur T r n
  | 0 => Int.le_refl _
  | n + 1 => Int.le_trans (bur_nonneg T r n) (Int.le_max_left _ _)
theorem bur_ge (T : Nat → Int) (r : Int) : ∀ (n i k : Nat), i ≤ k → k < n → need T r i k ≤ bur T r n
  | n + 1, i, k, h1, h2 => by
    rcases Nat.lt_or_ge k n with h3 | h3
    · exact Int.le_trans (bur_ge T r n i k h1 h3) (Int.le_max_left _ _)
    · obtain rfl : k = n := by omega
      exact Int.le_trans (lev_ge T r k i h1) (Int.le_max_right _ _)
theorem bur_eq (T : Nat → Int) (r : Int) : ∀ n, bur T r n = 0 ∨ ∃ i k, i ≤ k ∧ k < n ∧ bur T r n = need T r i k
  | 0 => Or.inl rfl
  | n + 1 => by
    rcases Int.le_total (lev T r n) (bur T r n) with h | h
    · have e : bur T r (n + 1) = bur T r n := Int.max_eq_left h
      rcases bur_eq T r n with h0 | ⟨i, k, h1, h2, h3⟩
      · exact Or.inl (e.trans h0)
      · exact Or.inr ⟨i, k, h1, by omega, e.trans h3⟩
    · have e : bur T r (n + 1) = lev T r n := Int.max_eq_right h
      obtain ⟨i, hi, he⟩ := lev_eq T r n
      exact Or.inr ⟨i, n, hi, by omega, e.trans he⟩
/-- Times that keep a curve. -/
def keepsP (T : Nat → Int) (n : Nat) (B r : Int) : Prop := ∀ i k, i ≤ k → k < n → need T r i k ≤ B
theorem keeps_bur (T : Nat → Int) (r : Int) (n : Nat) : keepsP T n (bur T r n) r := fun i k h1 h2 => bur_ge T r n i k h1 h2
theorem not_keeps (T : Nat → Int) (r : Int) (n : Nat) (h : 0 < bur T r n) : ¬ keepsP T n (bur T r n - 1) r := fun hk => by
  rcases bur_eq T r n with h0 | ⟨i, k, h1, h2, h3⟩
  · omega
  · have := hk i k h1 h2
    omega
theorem lev_bounds (T : Nat → Int) (r : Int) (hr : 0 ≤ r ∧ r ≤ 1024) (hT : ∀ k, 0 ≤ T k) (hm : ∀ k, T k ≤ T (k + 1)) : ∀ k, - r ≤ lev T r k ∧ lev T r k ≤ 1024 * ((k : Int) + 1)
  | 0 => by simp [lev]; omega
  | k + 1 => by
    obtain ⟨h1, h2⟩ := lev_bounds T r hr hT hm k
    have h3 : 0 ≤ r * (T (k + 1) - T k) := Int.mul_nonneg hr.1 (by have := hm k; omega)
    simp only [lev]
    rcases Int.le_total (-r) (lev T r k - r * (T (k + 1) - T k)) with h | h
    · rw [Int.max_eq_left h]; push_cast; omega
    · rw [Int.max_eq_right h]; push_cast; omega
theorem bur_le (T : Nat → Int) (r : Int) (hr : 0 ≤ r ∧ r ≤ 1024) (hT : ∀ k, 0 ≤ T k) (hm : ∀ k, T k ≤ T (k + 1)) : ∀ n, bur T r n ≤ 1024 * (n : Int)
  | 0 => by simp [bur]
  | n + 1 => by
    have h1 := bur_le T r hr hT hm n
    have h2 := (lev_bounds T r hr hT hm n).2
    simp only [bur]
    rcases Int.le_total (lev T r n) (bur T r n) with h | h
    · rw [Int.max_eq_left h]; push_cast; omega
    · rw [Int.max_eq_right h]; push_cast; omega

/-! ### lists of ints in memory -/
def KAt (k : IntKind) (W : World) (sv : Value) (zs : List Int) : Prop :=
  (sv = .slice none 0 0 ∧ zs = []) ∨ ∃ b off cap, sv = .slice (some ⟨b, off, none⟩) zs.length cap ∧ b < W.heap.size ∧ ∀ j z, zs[j]? = some z → W.cell? ⟨b, off + j, none⟩ = some (.int k z)
theorem KAt.below {k : IntKind} {W w1 : World} {sv : Value} {zs : List Int} (h : KAt k W sv zs) (hb : Below W.heap.size W w1) : KAt k w1 sv zs := by
  rcases h with h | ⟨b, off, cap, e, hl, h⟩
  · exact Or.inl h
  · exact Or.inr ⟨b, off, cap, e, Nat.lt_of_lt_of_le hl hb.size, fun j z hz => ((bcell hb).1 _ _ hl).trans (h j z hz)⟩
theorem KAt.at {kd : IntKind} {W : World} {a : Option Addr} {n cap : Nat} {l : List Int} (h : KAt kd W (.slice a n cap) l) {k : Nat} {z : Int} (hk : l[k]? = some z) : ∃ b off, a = some ⟨b, off, none⟩ ∧ b < W.heap.size ∧ W.cell? ⟨b, off + k, none⟩ = some (.int kd z) := by
  rcases h with ⟨_, rfl⟩ | ⟨b, off, cap', e, hl, h⟩
  · simp at hk
  · cases e; exact ⟨b, off, rfl, hl, h k z hk⟩
def iCs (l : List Int) : List Value := l.map (Value.int .i64)
theorem kat_of_owns {W : World} {base : Nat} {e : TypeId} {v : Value} {l : List Int} (h : W.ownsRow base e 1 v l.length (iCs l)) : KAt .i64 W v l := by
  rcases h.2 with ⟨rfl, h0⟩ | ⟨g, cap, cur, rfl, hb, hg, _, _, _, ht⟩
  · exact Or.inl ⟨rfl, List.eq_nil_of_length_eq_zero h0⟩
  · refine Or.inr ⟨g, 0, cap, rfl, (Array.getElem?_eq_some_iff.1 hg).1, fun j z hz => ?_⟩
    have h1 := h.cells (g := g) rfl j (.int .i64 z) (by simp [iCs, hz])
    have hadd : (⟨g, 0, none⟩ : Addr).add j = ⟨g, 0 + j, none⟩ := by unfold Addr.add; split <;> simp_all
    rwa [hadd] at h1
theorem info3 : (Try.prog.info? 3).map (fun i => (i.zero, i.size, i.bytes)) = some (some (.int .i64 0), 1, 8) := by kernel_rfl

/-- The time behind j differences. -/
def riseT (zs : List Int) (j : Nat) : Int := ((zs.take j).map (· % 7)).sum
def riseL (zs : List Int) (j : Nat) : List Int := (List.range j).map fun i => riseT zs (i + 1)
theorem riseL_length (zs : List Int) (j : Nat) : (riseL zs j).length = j := by simp [riseL]
theorem riseL_succ (zs : List Int) (j : Nat) : riseL zs (j + 1) = riseL zs j ++ [riseT zs (j + 1)] := by simp [riseL, List.range_succ]
theorem riseL_get (zs : List Int) {j i : Nat} (h : i < j) : (riseL zs j)[i]? = some (riseT zs (i + 1)) := by simp [riseL, h]
theorem riseT_succ {zs : List Int} {j : Nat} {z : Int} (h : zs[j]? = some z) : riseT zs (j + 1) = riseT zs j + z % 7 := by simp [riseT, List.take_add_one, h]
theorem riseT_mono (zs : List Int) (j : Nat) : riseT zs j ≤ riseT zs (j + 1) := by
  cases h : zs[j]? with
  | none => simp [riseT, List.take_add_one, h]
  | some z => rw [riseT_succ h]; omega
theorem riseT_le (zs : List Int) : ∀ j, riseT zs j ≤ 6 * (j : Int) ∧ 0 ≤ riseT zs j
  | 0 => by simp [riseT]
  | j + 1 => by
    have ih := riseT_le zs j
    cases h : zs[j]? with
    | none => 
      have e : riseT zs (j + 1) = riseT zs j := by simp [riseT, List.take_add_one, h]
      rw [e]; push_cast; omega
    | some z => rw [riseT_succ h]; push_cast; omega

set_option maxRecDepth 100000 in
set_option maxHeartbeats 2000000 in
theorem rising_any (zs : List Int) (a : Option Addr) (cap : Nat) (hl : zs.length ≤ 60) (hz : ∀ z ∈ zs, 0 ≤ z ∧ z ≤ 255) (w : World) (hc : KAt .u8 w (.slice a zs.length cap) zs) :
    Calls Try.prog 14 #[.slice a zs.length cap] w fun e w' => ∃ v, e = .returned v ∧ w'.ownsRow w.heap.size 3 1 v zs.length (iCs (riseL zs zs.length)) ∧ Below w.heap.size w w' := by
  obtain ⟨n, hn⟩ : ∃ n, n = zs.length := ⟨_, rfl⟩
  rw [← hn] at hl hc ⊢
  obtain ⟨i0, hi, hz0, hzz1, hzz2⟩ := info_parts info3
  have HC := Lib.hid hc
  have HN := Lib.hid hn
  have HZ := Lib.hid hz
  clear hc hn hz
  go_enter Try.func14, Try.ntmps14
  go_wp2
  go_loopw [3, 4, 9] (fun s3 s4 s9 wr => ∃ j : Nat, j ≤ n ∧ s9 = .int .i64 j ∧ s3 = .int .i64 (riseT zs j) ∧ wr.ownsRow w.heap.size 3 1 s4 j (iCs (riseL zs j)) ∧ Below w.heap.size w wr) (fun _ _ s9 _ => n - (intOf s9).toNat)
  case atStart => exact ⟨0, Nat.zero_le _, rfl, by simp [riseT], World.ownsRow_nil _ _ _ _, Below.refl _ _⟩
  case round =>
    obtain ⟨j, hj, rfl, rfl, ho, hb⟩ := hrel
    have HO := Lib.hid ho
    have HB := Lib.hid hb
    have hzr := hb.size
    clear ho hb
    by_cases hlt : j < n
    · obtain ⟨z, hzj⟩ : ∃ z, zs[j]? = some z := ⟨_, List.getElem?_eq_getElem (by rw [← HN.out]; exact hlt)⟩
      have hzr2 := HZ.out z (List.mem_of_getElem? hzj)
      obtain ⟨g, off, rfl, hgl, hcc⟩ := (HC.out.below HB.out).at hzj
      have hts := riseT_succ hzj
      have htl := riseT_le zs j
      have HTS := Lib.hid hts
      have hm1 : z.tmod 7 = z % 7 := Int.tmod_eq_emod_of_nonneg hzr2.1
      have w1 : wrap64 (riseT zs j + z % 7) = riseT zs j + z % 7 := by unfold wrap64; omega
      have w0 : wrap64 z = z := by unfold wrap64; omega
      have w2 : wrap64 (z % 7) = z % 7 := by unfold wrap64; omega
      have hi0 : (0 : Int) ≤ (j : Int) := Int.natCast_nonneg _
      have hi1 : (j : Int) < (n : Int) := by omega
      have HNEW := Lib.hid (show (wr.alloc (.cells #[.int .i64 (riseT zs j + z % 7)] 3)).heap[wr.heap.size]? = some (.cells ⟨[.int .i64 (riseT zs j + z % 7)]⟩ 3) from alloc_new_at _ _ _ rfl)
      clear hzj hts htl
      go_wp2_with (at_builtin; go_must (refine wpList_append_own _ rfl _ _ 42 rfl w.heap.size 3 i0 _ 1 8 Try.underlying42 hi hz0 hzz1 hzz2 rfl (by decide) _ _ _ rfl (HO.out.alloc _) ⟨wr.heap.size, 0, none⟩ 1 1 [.int .i64 (riseT zs j + z % 7)] rfl rfl (cells_new HNEW.out) (by simp [Value.oneCell']) (by unfold maxLen; omega) (by omega) (by simp; omega) ?_); intro v' W8 hown' hgrow _)
      go_roundw
      case rel =>
        refine ⟨j + 1, by omega, by go_num, by rw [HTS.out], ?_, ?_⟩
        · rw [riseL_succ, iCs, List.map_append, HTS.out]; exact hown'
        · have hsz := hgrow.size
          rw [World.size_alloc] at hsz
          refine HB.out.trans ⟨hgrow.os, hgrow.tape, hgrow.output, by omega, fun q hq => ?_⟩
          rw [hgrow.block q (by rw [World.size_alloc]; omega) (fun e => by have := (HO.out.lt q e.symm).1; omega), Below.heap_alloc _ _ _ (by omega)]
      case measure => simp [intOf]; omega
    · obtain rfl : n = j := by omega
      go_wp2
      go_ret
      exact ⟨_, rfl, HO.out, HB.out⟩
set_option maxRecDepth 100000 in
theorem curve_any (b r : Int) (w : World) :
    Calls Try.prog 17 #[.int .i64 b, .int .i64 r] w fun e w' => e = .returned (.agg #[.int .i64 b, .int .i64 r]) ∧ Below w.heap.size w w' := by
  go_enter Try.func17, Try.ntmps17
  go_wp2
  exact bodyPost_ret (v := .agg #[.int .i64 b, .int .i64 r]) (by simp [results, Try.results17, go_sem]) rfl ⟨rfl, (Below.refl _ _).alloc (Nat.le_refl _) _⟩
/-- Times that are valid. -/
structure TimesOk (l : List Int) : Prop where
  len : l.length ≤ 1024
  rng : ∀ (j : Nat) (z : Int), l[j]? = some z → 0 ≤ z ∧ z ≤ 10000
  asc : ∀ (j : Nat) (x y : Int), l[j]? = some x → l[j + 1]? = some y → x ≤ y
set_option maxRecDepth 100000 in
set_option maxHeartbeats 2000000 in
theorem checkTimes_ok (l : List Int) (a : Option Addr) (cap : Nat) (h : TimesOk l) (w : World) (hc : KAt .i64 w (.slice a l.length cap) l) :
    Calls Try.prog 29 #[.slice a l.length cap] w fun e w' => e = .returned (.int .i64 0) ∧ w = w' := by
  have hl := h.len
  obtain ⟨n, hn⟩ : ∃ n, n = l.length := ⟨_, rfl⟩
  rw [← hn] at hl hc ⊢
  have z : ((n : Int) > 1024) = False := by simp; omega
  have HC := Lib.hid hc
  have HN := Lib.hid hn
  have HT := Lib.hid h
  clear hc hn h
  go_enter Try.func29, Try.ntmps29
  go_wp2
  go_loopw [3, 11] (fun s3 s11 wr => ∃ j : Nat, j ≤ n ∧ s11 = .int .i64 j ∧ w = wr ∧ ∃ t : Int, s3 = .int .i64 t ∧ (j = 0 → t = 0) ∧ ∀ i, j = i + 1 → l[i]? = some t) (fun _ s11 _ => n - (intOf s11).toNat)
  case atStart => exact ⟨0, Nat.zero_le _, rfl, rfl, 0, rfl, fun _ => rfl, fun i h => by omega⟩
  case round =>
    obtain ⟨j, hj, rfl, hw, t, rfl, ht0, ht1⟩ := hrel
    subst hw
    by_cases hlt : j < n
    · obtain ⟨z, hzj⟩ : ∃ z, l[j]? = some z := ⟨_, List.getElem?_eq_getElem (by rw [← HN.out]; exact hlt)⟩
      have hzr := HT.out.rng j z hzj
      have hle : t ≤ z := by
        cases j with
        | zero => rw [ht0 rfl]; exact hzr.1
        | succ i => exact HT.out.asc i t z (ht1 i rfl) hzj
      obtain ⟨g, off, rfl, hgl, hcc⟩ := HC.out.at hzj
      have hi0 : (0 : Int) ≤ (j : Int) := Int.natCast_nonneg _
      have hi1 : (j : Int) < (n : Int) := by omega
      have z1 : (z < t) = False := by simp; omega
      have hin : inR z 0 10000 = true := by simp [inR]; omega
      have HZJ := Lib.hid hzj
      clear hzj ht0 ht1 hle hzr
      go_wp2_with (go_at_call 28; refine (camong_any _ _ _ _).mono ?_; rintro e w1 ⟨rfl, rfl⟩; rw [hin])
      go_roundw
      case rel => exact ⟨j + 1, by omega, by go_num, by trivial, z, rfl, fun h => by omega, fun i h => by obtain rfl : i = j := by omega
                                                                                                          exact HZJ.out⟩
      case measure => simp [intOf]; omega
    · obtain rfl : n = j := by omega
      go_wp2
      go_ret
      exact ⟨rfl, rfl⟩
end Go.Proofs.Ythfmbmjjfdhhnaa
