/- Times: the bucket, Burst. (mk_Db.py wrote this.) -/
import Derived.Test.YthfmbmjjfdhhnaaDa
namespace Go.Proofs.Ythfmbmjjfdhhnaa
set_option linter.unusedVariables false
open Go.RowKit

theorem cells1 {W : World} {b : Nat} {v0 : Value} {t : TypeId} (h : W.heap[b]? = some (.cells #[v0] t)) : W.cell? ⟨b, 0, none⟩ = some v0 ∧ W.frozen? ⟨b, 0, none⟩ = false := by simp [World.cell?, World.frozen?, h]
def IBox (W : World) (g : Nat) (z : Int) : Prop := W.heap[g]? = some (.cells #[.int .i64 z] 3)
theorem IBox.other {W : World} {g b : Nat} {z : Int} {u : Value} (h : IBox W g z) (hn : g ≠ b) : IBox (W.setCell ⟨b, 0, none⟩ u) g z := by
  unfold IBox at *
  simp [World.setCell, Array.getElem?_modify, h]
  intro e; exact absurd e.symm hn
theorem IBox.set {W : World} {g : Nat} {z : Int} (h : IBox W g z) (y : Int) : IBox (W.setCell ⟨g, 0, none⟩ (.int .i64 y)) g y := by
  unfold IBox at *
  simp [World.setCell, Array.getElem?_modify, h]
set_option maxRecDepth 100000 in
theorem step_any (x L r P : Int) (gL gR gP : Nat) (w : World) (hL : IBox w gL L) (hR : IBox w gR r) (hP : IBox w gP P) (d1 : gL ≠ gR) (d2 : gL ≠ gP) (d3 : gR ≠ gP)
    (hx : 0 ≤ x ∧ x ≤ 10000) (hp : 0 ≤ P ∧ P ≤ 10000) (hr : 0 ≤ r ∧ r ≤ 1024) (hl : -1024 ≤ L ∧ L ≤ 1049600) (hm : 0 ≤ r * (x - P) ∧ r * (x - P) ≤ 10240000) :
    Calls Try.prog 41 #[.int .i64 x, .pointer (some ⟨gL, 0, none⟩), .pointer (some ⟨gR, 0, none⟩), .pointer (some ⟨gP, 0, none⟩)] w fun e w' => e = .returned (.int .i64 (max (L - r * (x - P)) (-r) + 1024)) ∧ w' = (w.setCell ⟨gL, 0, none⟩ (.int .i64 (max (L - r * (x - P)) (-r) + 1024))).setCell ⟨gP, 0, none⟩ (.int .i64 x) := by
  have l1 := lt_of_block hL
  have l2 := lt_of_block hR
  have l3 := lt_of_block hP
  obtain ⟨_, _⟩ := cells1 hL
  obtain ⟨_, _⟩ := cells1 hR
  obtain ⟨_, _⟩ := cells1 hP
  have d1' := d1.symm
  have d2' := d2.symm
  have d3' := d3.symm
  have w1 : wrap64 (x - P) = x - P := by unfold wrap64; omega
  have w2 : wrap64 (r * (x - P)) = r * (x - P) := by unfold wrap64; omega
  have w3 : wrap64 (L - r * (x - P)) = L - r * (x - P) := by unfold wrap64; omega
  have w4 : wrap64 (-r) = -r := by unfold wrap64; omega
  by_cases h : L - r * (x - P) < -r
  · have z1 : (L - r * (x - P) < -r) = True := by simp [h]
    have w5 : wrap64 (-r + 1024) = -r + 1024 := by unfold wrap64; omega
    rw [Int.max_eq_right (by omega)]
    clear hL hR hP hx hp hr hl hm h
    go_enter Try.func41, Try.ntmps41
    go_wp2
    go_ret
    exact ⟨rfl, rfl⟩
  · have z1 : (L - r * (x - P) < -r) = False := by simp [h]
    have w5 : wrap64 (L - r * (x - P) + 1024) = L - r * (x - P) + 1024 := by unfold wrap64; omega
    rw [Int.max_eq_left (by omega)]
    clear hL hR hP hx hp hr hl hm h
    go_enter Try.func41, Try.ntmps41
    go_wp2
    go_ret
    exact ⟨rfl, rfl⟩
theorem max_if (a b : Int) : (if a < b then b else a) = max a b := by
  split
  · rw [Int.max_eq_right (by omega)]
  · rw [Int.max_eq_left (by omega)]
set_option maxRecDepth 100000 in
theorem bucket_any (r : Int) (hr : 0 ≤ r ∧ r ≤ 1024) (w : World) : Calls Try.prog 30 #[.int .i64 r] w fun e w' => e = .returned (.func (.func 41) #[] #[.pointer (some ⟨w.heap.size + 1, 0, none⟩), .pointer (some ⟨w.heap.size, 0, none⟩), .pointer (some ⟨w.heap.size + 2, 0, none⟩)]) ∧ IBox w' (w.heap.size + 1) (-r) ∧ IBox w' w.heap.size r ∧ IBox w' (w.heap.size + 2) 0 ∧ Below w.heap.size w w' := by
  have w4 : wrap64 (-r) = -r := by unfold wrap64; omega
  go_enter Try.func30, Try.ntmps30
  go_wp2
  go_ret
  refine ⟨rfl, ?_, ?_, ?_, ?_⟩
  · exact (Below.heap_alloc _ _ _ (by simp)).trans (blk2b _ _ _)
  · exact (Below.heap_alloc _ _ _ (by simp <;> omega)).trans (blk2a _ _ _)
  · exact alloc_new_at _ _ _ (by simp)
  · exact (below2 w _ _).alloc (by simp <;> omega) _
/-- The bucket's level and last time ahead of the time j. -/
def lvl (T : Nat → Int) (r : Int) : Nat → Int
  | 0 => -r
  | k + 1 => lev T r k
def las (T : Nat → Int) : Nat → Int
  | 0 => 0
  | k + 1 => T k
theorem lvl_succ (T : Nat → Int) (r : Int) (hr : 0 ≤ r) (h0 : 0 ≤ T 0) : ∀ j, max (lvl T r j - r * (T j - las T j)) (-r) + 1024 = lvl T r (j + 1)
  | 0 => by
    have h : 0 ≤ r * (T 0 - 0) := Int.mul_nonneg hr (by omega)
    show max (-r - r * (T 0 - 0)) (-r) + 1024 = 1024 - r
    rw [Int.max_eq_right (by omega)]; omega
  | k + 1 => rfl
/-- Times as a function: what a list of them is known by. -/
structure TimesAt (T : Nat → Int) (l : List Int) : Prop where
  len : l.length ≤ 1000
  at_ : ∀ (j : Nat) (z : Int), l[j]? = some z → z = T j
  pos : ∀ k, 0 ≤ T k
  top : ∀ k, k < l.length → T k ≤ 10000
  mono : ∀ k, T k ≤ T (k + 1)
theorem TimesAt.ok {T : Nat → Int} {l : List Int} (h : TimesAt T l) : TimesOk l := by
  refine ⟨by have := h.len; omega, fun j z hz => ?_, fun j x y hx hy => ?_⟩
  · rw [h.at_ j z hz]
    exact ⟨h.pos j, h.top j (List.getElem?_eq_some_iff.1 hz).1⟩
  · rw [h.at_ j x hx, h.at_ _ y hy]; exact h.mono j
theorem TimesAt.get {T : Nat → Int} {l : List Int} (h : TimesAt T l) {j : Nat} (hj : j < l.length) : l[j]? = some (T j) := by
  have e := List.getElem?_eq_getElem hj
  rw [e, h.at_ j _ e]
/-- All that Burst's loop knows. -/
structure BurR (T : Nat → Int) (r : Int) (j : Nat) (w wr : World) : Prop where
  L : IBox wr (w.heap.size + 1) (lvl T r j)
  R : IBox wr w.heap.size r
  P : IBox wr (w.heap.size + 2) (las T j)
  B : Below w.heap.size w wr
theorem BurR.next {T : Nat → Int} {r : Int} {j : Nat} {w wr : World} (h : BurR T r j w wr) : BurR T r (j + 1) w ((wr.setCell ⟨w.heap.size + 1, 0, none⟩ (.int .i64 (lvl T r (j + 1)))).setCell ⟨w.heap.size + 2, 0, none⟩ (.int .i64 (T j))) :=
  ⟨(h.L.set _).other (by omega), (h.R.other (by omega)).other (by omega), (h.P.other (by omega)).set _, (h.B.setCell (by simp) _).setCell (by simp) _⟩
theorem BurR.step {T : Nat → Int} {r : Int} {j : Nat} {w wr : World} (h : BurR T r j w wr) {l : List Int} (ht : TimesAt T l) (hj : j < l.length) (hr : 0 ≤ r ∧ r ≤ 1024) :
    Calls Try.prog 41 #[.int .i64 (T j), .pointer (some ⟨w.heap.size + 1, 0, none⟩), .pointer (some ⟨w.heap.size, 0, none⟩), .pointer (some ⟨w.heap.size + 2, 0, none⟩)] wr fun e w' => e = .returned (.int .i64 (lvl T r (j + 1))) ∧ BurR T r (j + 1) w w' := by
  have hp : 0 ≤ las T j ∧ las T j ≤ T j := by
    cases j with
    | zero => exact ⟨Int.le_refl _, ht.pos 0⟩
    | succ k => exact ⟨ht.pos k, ht.mono k⟩
  have hl : -1024 ≤ lvl T r j ∧ lvl T r j ≤ 1049600 := by
    cases j with
    | zero => simp [lvl]; omega
    | succ k => 
      have := lev_bounds T r hr ht.pos ht.mono k
      have hk := ht.len
      simp only [lvl]; omega
  have ht2 := ht.top j hj
  have hm0 : 0 ≤ r * (T j - las T j) := Int.mul_nonneg hr.1 (by omega)
  have hm1 : r * (T j - las T j) ≤ 10240000 := by
    have := Int.mul_le_mul hr.2 (show T j - las T j ≤ 10000 by omega) (by omega) (by omega : (0 : Int) ≤ 1024)
    omega
  have h1 := step_any (T j) (lvl T r j) r (las T j) _ _ _ wr h.L h.R h.P (by omega) (by omega) (by omega) ⟨ht.pos j, ht2⟩ ⟨hp.1, by omega⟩ hr hl ⟨hm0, hm1⟩
  rw [lvl_succ T r hr.1 (ht.pos 0) j] at h1
  refine h1.mono ?_
  rintro e w' ⟨rfl, rfl⟩
  exact ⟨rfl, h.next⟩
set_option maxRecDepth 100000 in
set_option maxHeartbeats 2000000 in
theorem burst_any (T : Nat → Int) (l : List Int) (a : Option Addr) (cap : Nat) (r : Int) (ht : TimesAt T l) (hr : 0 ≤ r ∧ r ≤ 1024) (w : World) (hc : KAt .i64 w (.slice a l.length cap) l) :
    Calls Try.prog 15 #[.slice a l.length cap, .int .i64 r] w fun e w' => e = .returned (.tuple #[.int .i64 (bur T r l.length), .int .i64 0]) ∧ Below w.heap.size w w' := by
  have hck := checkTimes_ok l a cap ht.ok
  have hl := ht.len
  obtain ⟨n, hn⟩ : ∃ n, n = l.length := ⟨_, rfl⟩
  have hstep : ∀ (wr : World) (j : Nat), j < n → BurR T r j w wr → Calls Try.prog 41 #[.int .i64 (T j), .pointer (some ⟨w.heap.size + 1, 0, none⟩), .pointer (some ⟨w.heap.size, 0, none⟩), .pointer (some ⟨w.heap.size + 2, 0, none⟩)] wr fun e w' => e = .returned (.int .i64 (lev T r j)) ∧ BurR T r (j + 1) w w' := fun wr j hj h => h.step ht (by omega) hr
  rw [← hn] at hl hc hck ⊢
  have hin : inR r 0 1024 = true := by simp [inR]; omega
  have HC := Lib.hid hc
  have HN := Lib.hid hn
  have HT := Lib.hid ht
  have HS := Lib.hid hstep
  have HCK := Lib.hid (hck w hc)
  have HBK := Lib.hid (bucket_any r hr w)
  clear hc hn ht hck hstep
  go_enter Try.func15, Try.ntmps15
  go_wp2_with (first | (go_at_call 28; refine (camong_any _ _ _ _).mono ?_; rintro e w9 ⟨rfl, rfl⟩; rw [hin]) | (go_at_call 29; refine HCK.out.mono ?_; rintro e w9 ⟨rfl, rfl⟩) | (go_at_call 30; refine HBK.out.mono ?_; rintro e w3 ⟨rfl, hL, hR, hP, hB⟩))
  have HB0 : BurR T r 0 w w3 := ⟨hL, hR, hP, hB⟩
  clear hL hR hP hB
  go_loopw [7, 23] (fun s7 s23 wr => ∃ j : Nat, j ≤ n ∧ s23 = .int .i64 j ∧ s7 = .int .i64 (bur T r j) ∧ BurR T r j w wr) (fun _ s23 _ => n - (intOf s23).toNat)
  case atStart => exact ⟨0, Nat.zero_le _, rfl, rfl, HB0⟩
  case round =>
    obtain ⟨j, hj, rfl, rfl, hb⟩ := hrel
    have HB := Lib.hid hb
    clear hb HB0
    by_cases hlt : j < n
    · have hzj : l[j]? = some (T j) := HT.out.get (by rw [← HN.out]; exact hlt)
      obtain ⟨g, off, rfl, hgl, hcc⟩ := (HC.out.below HB.out.B).at hzj
      have hi0 : (0 : Int) ≤ (j : Int) := Int.natCast_nonneg _
      have hi1 : (j : Int) < (n : Int) := by omega
      have HST := Lib.hid (HS.out wr j hlt HB.out)
      have HZ := Lib.hid (show (Value.int .i64 (max (bur T r j) (lev T r j))) = .int .i64 (bur T r (j + 1)) from rfl)
      clear hzj
      go_wp2_with (go_at_call 41; refine HST.out.mono ?_; rintro e w4 ⟨rfl, hb4⟩; have HB4 := Lib.hid hb4; clear hb4)
      go_roundw
      case rel => exact ⟨j + 1, by omega, by go_num, by rw [max_if]; rfl, HB4.out⟩
      case measure => simp [intOf]; omega
    · obtain rfl : n = j := by omega
      go_wp2
      exact bodyPost_ret (v := .tuple #[.int .i64 (bur T r n), .int .i64 0]) (by simp [results, Try.results15, go_sem]) rfl ⟨rfl, HB.out.B⟩
end Go.Proofs.Ythfmbmjjfdhhnaa
