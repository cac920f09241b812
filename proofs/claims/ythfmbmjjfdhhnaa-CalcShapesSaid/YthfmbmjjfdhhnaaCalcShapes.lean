/- For every two lists of differences and every curve the law CalcShapes returns true: Shape gives the least times that keep the curve, or there are none. No condition. (mk_Ee.py wrote this.) -/
import Derived.Test.YthfmbmjjfdhhnaaEc
import Derived.Test.YthfmbmjjfdhhnaaEd
import Derived.Test.YthfmbmjjfdhhnaaDx
import Derived.Lib.SmallJoins
import Derived.Deep.DeepCutAuto
namespace Go.Proofs.Ythfmbmjjfdhhnaa.calcShapes
open Go.ChangeShapes Go.WideShapes Go.ChangeAt Go.RowKit
set_option linter.unusedVariables false

theorem rise_n (zs : List Int) (a : Option Addr) (cap n : Nat) (hn : zs.length = n) (hl : n ≤ 60) (hz : ∀ z ∈ zs, 0 ≤ z ∧ z ≤ 255) (w : World) (hc : KAt .u8 w (.slice a n cap) zs) :
    ∃ l : List Int, l.length = n ∧ TimesAt (riseF zs) l ∧ (∀ k, k < n → riseF zs k ≤ 360) ∧ Calls Try.prog 14 #[.slice a n cap] w fun e w' => ∃ a1 c1, e = .returned (.slice a1 n c1) ∧ KAt .i64 w' (.slice a1 n c1) l ∧ Below w.heap.size w w' := by
  subst hn
  refine ⟨riseL zs zs.length, riseL_length _ _, rise_times zs hl, fun k hk => ?_, (rise_any zs a cap hl hz w hc).mono ?_⟩
  · have := (riseT_le zs (k + 1)).1
    unfold riseF
    push_cast at this
    omega
  · rintro e w' ⟨a1, c1, rfl, hk, hb⟩
    rw [riseL_length] at hk ⊢
    exact ⟨a1, c1, rfl, hk, hb⟩
/-- All that the law knows behind Shape. -/
structure Shaped (t : Nat → Int) (B r : Int) (n : Nat) (a1 : Option Addr) (c1 gs gc : Nat) (l sl : List Int) (w4 : World) : Prop where
  X : CBox w4 gc 27 B r
  kt : KAt .i64 w4 (.slice a1 n c1) l
  ks : KAt .i64 w4 (.slice (some ⟨gs, 0, none⟩) n n) sl
  lt : ∀ k, k < n → l[k]? = some (t k)
  ls : ∀ k, k < n → sl[k]? = some (shp t B r k)
  yes : ∀ W, Below w4.heap.size w4 W → Calls Try.prog 16 #[.slice (some ⟨gs, 0, none⟩) n n, .agg #[.int .i64 B, .int .i64 r]] W fun e w' => e = .returned (.bool true) ∧ Below W.heap.size W w'
  may : ∀ W, Below w4.heap.size w4 W → Calls Try.prog 16 #[.slice a1 n c1, .agg #[.int .i64 B, .int .i64 r]] W fun e w' => e = .returned (.bool (keepsB t n B r)) ∧ Below W.heap.size W w'
  same : keepsB t n B r = true → ∀ W, Below w4.heap.size w4 W → Calls Try.prog 20 #[.slice (some ⟨gs, 0, none⟩) n n, .slice a1 n c1] W fun e w' => e = .returned (.bool true) ∧ Below W.heap.size W w'
theorem keepsB_prop {T : Nat → Int} {n : Nat} {B r : Int} (h : keepsB T n B r = true) : keepsP T n B r := by simpa [keepsB] using h
theorem shaped (t : Nat → Int) (B r : Int) (n : Nat) (a1 : Option Addr) (c1 gs gc : Nat) (l sl : List Int) (w4 : World) (hn : n ≤ 30) (hB : 0 ≤ B ∧ B ≤ 65536) (hr : 0 ≤ r ∧ r ≤ 1024) (ht : TimesAt t l) (hl : l.length = n) (hsl : sl.length = n)
    (hX : CBox w4 gc 27 B r) (hkt : KAt .i64 w4 (.slice a1 n c1) l) (hks : KAt .i64 w4 (.slice (some ⟨gs, 0, none⟩) n n) sl) (hls : ∀ k, k < n → sl[k]? = some (shp t B r k)) (hBr : 0 < n → 1024 ≤ B + r) (hok : shOk t B r n) : Shaped t B r n a1 c1 gs gc l sl w4 := by
  have hlt : ∀ k, k < n → l[k]? = some (t k) := fun k hk => ht.get (by omega)
  have hkp : keepsP (shp t B r) n B r := by
    by_cases h0 : 0 < n
    · exact shp_keeps hr.1 (hBr h0) hok
    · exact fun i k h1 h2 => absurd h2 (by omega)
  have tw : TimesW (shp t B r) sl := by
    refine ⟨by omega, fun j z hz => ?_, fun k hk => shp_pos ht.pos k, fun k hk => ?_⟩
    · have hj := (List.getElem?_eq_some_iff.1 hz).1
      rw [hls j (by omega)] at hz
      exact (Option.some.inj hz).symm
    · have := shp_top (B := B) ht.pos hr hB.1 l.length (by omega) ht.top k (by omega)
      omega
  have tl : TimesW t l := ⟨by omega, ht.at_, fun k _ => ht.pos k, fun k hk => by have := ht.top k hk; omega⟩
  refine ⟨hX, hkt, hks, hlt, hls, fun W h => ?_, fun W h => ?_, fun hb W h => ?_⟩
  · have := keeps2_any (shp t B r) sl (some ⟨gs, 0, none⟩) n B r tw (by omega) hr W (by rw [hsl]; exact hks.below h)
    rwa [hsl, keepsB_true hkp] at this
  · have := keeps2_any t l a1 c1 B r tl (by omega) hr W (by rw [hl]; exact hkt.below h)
    rwa [hl] at this
  · have hp := keepsB_prop hb
    have e : sl = l := by
      apply List.ext_getElem?
      intro i
      by_cases hi : i < n
      · rw [hls i hi, hlt i hi, shp_same hr.1 ht.pos ht.mono hp i hi]
      · rw [List.getElem?_eq_none (by omega), List.getElem?_eq_none (by omega)]
    subst e
    have := numbers_any sl (some ⟨gs, 0, none⟩) a1 n c1 W (by omega) (by rw [hsl]; exact hks.below h) (by rw [hsl]; exact hkt.below h)
    rwa [hsl] at this
theorem tmod_nat (i k : Nat) : ((i : Int).tmod (k : Int)) = ((i % k : Nat) : Int) := by rw [Int.tmod_eq_emod_of_nonneg (Int.natCast_nonneg _)]; rfl
theorem own_get {W : World} {b g n c : Nat} {q : List Int} (h : W.ownsRow b 3 1 (.slice (some ⟨g, 0, none⟩) n c) n (iCs q)) {k : Nat} {z : Int} (hz : q[k]? = some z) : W.cell? ⟨g, k, none⟩ = some (.int .i64 z) := by
  have h1 := h.cells (g := g) rfl k (.int .i64 z) (by simp [iCs, hz])
  have hadd : (⟨g, 0, none⟩ : Addr).add k = ⟨g, k, none⟩ := by unfold Addr.add; split <;> simp_all
  rwa [hadd] at h1
theorem get_getD {q : List Int} {k : Nat} (h : k < q.length) : q[k]? = some (q.getD k 0) := by simp [List.getD, List.getElem?_eq_getElem h]
theorem snoc_get_eq {q : List Int} {z : Int} {i : Nat} (h : q.length = i) : (q ++ [z])[i]? = some z := by subst h; simp
theorem snoc_get_lt {q : List Int} {z : Int} {k : Nat} (h : k < q.length) : (q ++ [z])[k]? = some (q.getD k 0) := by rw [List.getElem?_append_left h]; exact get_getD h
theorem os_keeps {t : Nat → Int} {B r : Int} {n : Nat} {q : List Int} (h : OsR t n q) (hn : n ≤ 30) (ht : ∀ k, 0 ≤ t k) (hB : 0 ≤ B ∧ B ≤ 65536) (hr : 0 ≤ r ∧ r ≤ 1024) {a : Option Addr} {c : Nat} {w0 : World} (hk : KAt .i64 w0 (.slice a n c) q) :
    (∀ W, Below w0.heap.size w0 W → Calls Try.prog 16 #[.slice a n c, .agg #[.int .i64 B, .int .i64 r]] W fun e w' => e = .returned (.bool (keepsB (fun k => q.getD k 0) n B r)) ∧ Below W.heap.size W w') ∧
    (keepsB (fun k => q.getD k 0) n B r = true → ∀ k, k < n → shp t B r k ≤ q.getD k 0) := by
  have hl := h.len
  refine ⟨fun W hW => ?_, fun hb k hk' => ?_⟩
  · have tw : TimesW (fun k => q.getD k 0) q := by
      refine ⟨by omega, fun j z hz => by simp [List.getD, hz], fun k hk => ?_, fun k hk => ?_⟩
      · have := h.ge k (by omega)
        have := ht k
        show 0 ≤ q.getD k 0
        omega
      · have := h.top k (by omega)
        show q.getD k 0 ≤ _
        omega
    have := keeps2_any (fun k => q.getD k 0) q a c B r tw (by omega) hr W (by rw [hl]; exact hk.below hW)
    rwa [hl] at this
  · exact shp_least hr.1 (fun h0 => Int.le_trans (ht 0) (h.ge 0 h0)) h.ge (fun k hk => h.mono k (k + 1) (by omega) hk) (keepsB_prop hb) k hk' k (Nat.le_refl _)
/-- What the operations of the last region come to. -/
def shV (gs b1 f1 b3 f3 n c1 c3 k j : Nat) (tk sk qk sj B r : Int) (P ko : Bool) : Nat → Value
  | 0 => .slice (some ⟨gs, 0, none⟩) n n
  | 1 => .int .i64 (k : Int)
  | 2 => .pointer (some ⟨gs, k, none⟩)
  | 3 => .int .i64 sk
  | 4 => .slice (some ⟨b1, f1, none⟩) n c1
  | 5 => .int .i64 (k : Int)
  | 6 => .pointer (some ⟨b1, f1 + k, none⟩)
  | 7 => .int .i64 tk
  | 8 => .bool false
  | 9 => .bool false
  | 10 => .int .i64 (k : Int)
  | 11 => .bool P
  | 12 => .bool P
  | 13 => bif P then .slice (some ⟨gs, 0, none⟩) n n else undef
  | 14 => bif P then .int .i64 (k : Int) else undef
  | 15 => bif P then .pointer (some ⟨gs, k, none⟩) else undef
  | 16 => bif P then .int .i64 sk else undef
  | 17 => bif P then .slice (some ⟨gs, 0, none⟩) n n else undef
  | 18 => bif P then .int .i64 (k : Int) else undef
  | 19 => bif P then .int .i64 (j : Int) else undef
  | 20 => bif P then .pointer (some ⟨gs, j, none⟩) else undef
  | 21 => bif P then .int .i64 sj else undef
  | 22 => bif P then .bool false else undef
  | 23 => .bool false
  | 24 => .bool false
  | 25 => .bool false
  | 26 => .slice (some ⟨b3, f3, none⟩) n c3
  | 27 => .agg #[.int .i64 B, .int .i64 r]
  | 28 => .bool ko
  | 29 => .bool ko
  | 30 => bif ko then .slice (some ⟨b3, f3, none⟩) n c3 else undef
  | 31 => bif ko then .int .i64 (k : Int) else undef
  | 32 => bif ko then .pointer (some ⟨b3, f3 + k, none⟩) else undef
  | 33 => bif ko then .int .i64 qk else undef
  | 34 => bif ko then .slice (some ⟨gs, 0, none⟩) n n else undef
  | 35 => bif ko then .int .i64 (k : Int) else undef
  | 36 => bif ko then .pointer (some ⟨gs, k, none⟩) else undef
  | 37 => bif ko then .int .i64 sk else undef
  | 38 => bif ko then .bool false else undef
  | 39 => .bool false
  | 40 => .bool false
  | _ => undef
def shW (P ko : Bool) (i : Nat) : Bool := bif (Nat.ble 13 i && Nat.ble i 22) then P else bif (Nat.ble 30 i && Nat.ble i 38) then ko else true
def shG (P ko : Bool) (i : Nat) : Bool := bif Nat.beq i 12 then P else bif Nat.beq i 29 then ko else false

set_option maxRecDepth 100000 in
set_option maxHeartbeats 8000000 in
theorem walk (zs : List Int) (a : Option Addr) (cap : Nat) (hw : ∀ z ∈ zs, (Lit.int .u8 z).wf = true) (x : Int) (hx : (Lit.int .u16 x).wf = true) (y : Int) (hy : (Lit.int .u16 y).wf = true) (os : List Int) (a' : Option Addr) (cap' : Nat) (hw' : ∀ z ∈ os, (Lit.int .u8 z).wf = true) (w : World) (hc : KAt .u8 w (.slice a zs.length cap) zs) (hc' : KAt .u8 w (.slice a' os.length cap') os) :
    Calls Try.prog 5 #[.slice a zs.length cap, .int .u16 x, .int .u16 y, .slice a' os.length cap'] w fun e w' => e = .returned (.bool true) ∧ Below w.heap.size w w' := by
  have hz : ∀ z ∈ zs, 0 ≤ z ∧ z ≤ 255 := fun z h => by have := hw z h; simp only [Lit.wf, Bool.and_eq_true, decide_eq_true_eq] at this; exact this
  have hz' : ∀ z ∈ os, 0 ≤ z ∧ z ≤ 255 := fun z h => by have := hw' z h; simp only [Lit.wf, Bool.and_eq_true, decide_eq_true_eq] at this; exact this
  have hx' : 0 ≤ x ∧ x ≤ 65535 := by simp only [Lit.wf, Bool.and_eq_true, decide_eq_true_eq] at hx; exact hx
  have hy' : 0 ≤ y ∧ y ≤ 65535 := by simp only [Lit.wf, Bool.and_eq_true, decide_eq_true_eq] at hy; exact hy
  clear hw hw' hx hy
  obtain ⟨n, hn⟩ : ∃ n, zs.length = n := ⟨_, rfl⟩
  obtain ⟨m, hm⟩ : ∃ m, os.length = m := ⟨_, rfl⟩
  rw [hn] at hc ⊢
  rw [hm] at hc' ⊢
  by_cases hl : 30 < n
  · have z1 : ((n : Int) > 30) = True := by simp; omega
    have z1' : ((30 : Int) < (n : Int)) = True := by simp; omega
    clear hc hc' hz hz'
    go_enter Try.func5, Try.ntmps5
    go_wp2_with (go_at_call 6; refine (Lf.works_any _).mono ?_; rintro e w9 ⟨rfl, hb9⟩)
    go_ret
    exact ⟨rfl, hb9⟩
  · have z1 : ((n : Int) > 30) = False := by simp; omega
    have z1' : ((30 : Int) < (n : Int)) = False := by simp; omega
    by_cases hl' : 30 < m
    · have z2 : ((m : Int) > 30) = True := by simp; omega
      have z2' : ((30 : Int) < (m : Int)) = True := by simp; omega
      clear hc hc' hz hz'
      go_enter Try.func5, Try.ntmps5
      go_wp2_with (go_at_call 6; refine (Lf.works_any _).mono ?_; rintro e w9 ⟨rfl, hb9⟩)
      go_ret
      exact ⟨rfl, hb9⟩
    · have z2 : ((m : Int) > 30) = False := by simp; omega
      have z2' : ((30 : Int) < (m : Int)) = False := by simp; omega
      obtain ⟨l, hll, hti, htt, hri⟩ := rise_n zs a cap n hn (by omega) hz w hc
      generalize riseF zs = t at *
      obtain ⟨B, hBd⟩ : ∃ B, B = x % 8192 := ⟨_, rfl⟩
      obtain ⟨r, hrd⟩ : ∃ r, r = y % 1025 := ⟨_, rfl⟩
      have hBB : 0 ≤ B ∧ B ≤ 65536 := by omega
      have hrr : 0 ≤ r ∧ r ≤ 1024 := by omega
      have e1 : x.tmod 8192 = B := by rw [hBd]; exact Int.tmod_eq_emod_of_nonneg hx'.1
      have e2 : wrap64 x = x := by unfold wrap64; omega
      have e3 : wrap64 B = B := by unfold wrap64; omega
      have d1 : y.tmod 1025 = r := by rw [hrd]; exact Int.tmod_eq_emod_of_nonneg hy'.1
      have d2 : wrap64 y = y := by unfold wrap64; omega
      have d3 : wrap64 r = r := by unfold wrap64; omega
      have wBr : wrap64 (B + r) = B + r := by unfold wrap64; omega
      have wn : wrap64 (1024 * (n : Int)) = 1024 * (n : Int) := by unfold wrap64; omega
      have hn30 : n ≤ 30 := by omega
      have hm30 : m ≤ 30 := by omega
      have HRI := Lib.hid hri
      have HT := Lib.hid hti
      have HTT := Lib.hid htt
      have HLL := Lib.hid hll
      have HBB := Lib.hid hBB
      have HRR := Lib.hid hrr
      have HKO := Lib.hid hc'
      have HM := Lib.hid hm
      have HOZ := Lib.hid hz'
      clear hri hti htt hll hBB hrr hc hc' hz hz' hx' hy' hBd hrd hl hl' hm hn
      go_enter Try.func5, Try.ntmps5
      go_upto_region 4 with (first | (go_at_call 14; refine HRI.out.mono ?_; rintro e w1 ⟨a1, c1, rfl, hk, hb1⟩) | (go_at_call 17; refine (curve_any _ _ _).mono ?_; rintro e w2 ⟨rfl, hb2⟩))
      have hx3 : CBox (w2.alloc (.cells #[.int .i64 B, .int .i64 r] 27)) w2.heap.size 27 B r := alloc_new_at _ _ _ rfl
      have hB3 : Below w.heap.size w (w2.alloc (.cells #[.int .i64 B, .int .i64 r] 27)) := (hb1.trans (hb2.mono hb1.size)).alloc (by have := hb1.size; have := hb2.size; omega) _
      have hk3 : KAt .i64 (w2.alloc (.cells #[.int .i64 B, .int .i64 r] 27)) (.slice a1 n c1) l := (hk.below hb2).below ((Below.refl _ _).alloc (Nat.le_refl _) _)
      clear hb1 hb2 hk HRI
      generalize w2.alloc (.cells #[.int .i64 B, .int .i64 r] 27) = W3 at *
      generalize w2.heap.size = gc at *
      obtain ⟨_, _, _, _⟩ := cells2 hx3
      have hl3 := lt_of_block hx3
      have hsh := shape_any t l a1 c1 B r HT.out (by rw [HLL.out]; omega) HBB.out HRR.out W3 (by rw [HLL.out]; exact hk3)
      rw [HLL.out] at hsh
      have HSH := Lib.hid hsh
      have HX3 := Lib.hid hx3
      have HB3 := Lib.hid hB3
      have HK3 := Lib.hid hk3
      clear hsh hx3 hB3 hk3
      go_wp2_with (fail)
      go_at_call 19
      refine HSH.out.mono ?_
      intro e w4 hout
      rcases hout with ⟨rfl, hm0, hbad, hb4⟩ | ⟨gs, sl, rfl, hks, hsl, hsv, hb4, hBr, hok⟩
      · have hx4 : CBox w4 gc 27 B r := (hb4.block _ hl3).trans HX3.out
        obtain ⟨_, _, _, _⟩ := cells2 hx4
        have hl4 := lt_of_block hx4
        have HB4 := Lib.hid (HB3.out.trans (hb4.mono HB3.out.size))
        have y1 : (0 < n) = True := by simp [hm0]
        have y2 : ((0 : Int) < (n : Int)) = True := by simp [hm0]
        clear hx4 hb4 hm0
        by_cases hbr : B + r < 1024
        · have y3 : (B + r < 1024) = True := by simp [hbr]
          clear hbr hbad
          go_wp2_with (go_at_call 6; refine (Lf.works_any _).mono ?_; rintro e w9 ⟨rfl, hb9⟩)
          go_ret
          exact ⟨rfl, HB4.out.trans (hb9.mono HB4.out.size)⟩
        · have y3 : (B + r < 1024) = False := by simp [hbr]
          obtain ⟨hr0, hb0⟩ := hbad.resolve_left hbr
          have y4 : (r = 0) = True := by simp [hr0]
          have y4' : (r == 0) = true := by simp [hr0]
          have y5 : (B < 1024 * (n : Int)) = True := by simp [hb0]
          clear hbr hbad hr0 hb0
          go_wp2_with (go_at_call 6; refine (Lf.works_any _).mono ?_; rintro e w9 ⟨rfl, hb9⟩)
          go_ret
          exact ⟨rfl, HB4.out.trans (hb9.mono HB4.out.size)⟩
      · have hx4 : CBox w4 gc 27 B r := (hb4.block _ hl3).trans HX3.out
        have hS := shaped t B r n a1 c1 gs gc l sl w4 hn30 HBB.out HRR.out HT.out HLL.out hsl hx4 (HK3.out.below hb4) hks hsv hBr hok
        have HB4 := Lib.hid (HB3.out.trans (hb4.mono HB3.out.size))
        have HS := Lib.hid hS
        have hl4 := lt_of_block hx4
        obtain ⟨_, _, _, _⟩ := cells2 hx4
        clear hx4 hS hb4 hks hsl hsv hBr hok HX3 HK3 HB3 HSH hl3
        go_upto_region 7 with (fail)
        go_cut [96] from 75 (fun s96 wx => s96 = .bool false ∧ Below w4.heap.size w4 wx)
        case first =>
          have hmay := HS.out.may
          have hsame := HS.out.same
          generalize keepsB t n B r = kb at *
          have HMAY := Lib.hid hmay
          have HSAME := Lib.hid hsame
          clear hmay hsame
          cases kb
          · go_wp2_with (fail)
            go_at_call 16
            refine (HS.out.yes w4 (Below.refl _ _)).mono ?_
            rintro e w5 ⟨rfl, hb5⟩
            obtain ⟨_, _, _, _⟩ := cells2 ((hb5.block _ hl4).trans HS.out.X)
            have hl5 : gc < w5.heap.size := Nat.lt_of_lt_of_le hl4 hb5.size
            have HB5 := Lib.hid hb5
            clear hb5
            go_wp2_with (fail)
            go_at_call 16
            refine (HMAY.out w5 HB5.out).mono ?_
            rintro e w6 ⟨rfl, hb6⟩
            have HB6 := Lib.hid (HB5.out.trans (hb6.mono HB5.out.size))
            clear hb6
            go_wp2_with (fail)
            go_meet
            case rel => exact ⟨rfl, HB6.out⟩
          · go_wp2_with (fail)
            go_at_call 16
            refine (HS.out.yes w4 (Below.refl _ _)).mono ?_
            rintro e w5 ⟨rfl, hb5⟩
            obtain ⟨_, _, _, _⟩ := cells2 ((hb5.block _ hl4).trans HS.out.X)
            have hl5 : gc < w5.heap.size := Nat.lt_of_lt_of_le hl4 hb5.size
            have HB5 := Lib.hid hb5
            clear hb5
            go_wp2_with (fail)
            go_at_call 16
            refine (HMAY.out w5 HB5.out).mono ?_
            rintro e w6 ⟨rfl, hb6⟩
            have HB6 := Lib.hid (HB5.out.trans (hb6.mono HB5.out.size))
            clear hb6
            go_wp2_with (fail)
            go_at_call 20
            refine (HSAME.out (by first | rfl | trivial) w6 HB6.out).mono ?_
            rintro e w7 ⟨rfl, hb7⟩
            have HB7 := Lib.hid (HB6.out.trans (hb7.mono HB6.out.size))
            clear hb7
            go_wp2_with (fail)
            go_meet
            case rel => exact ⟨rfl, HB7.out⟩
        case rest =>
          obtain ⟨rfl, hbw⟩ := hcut
          generalize wc = V0 at *
          have HKT := Lib.hid (HS.out.kt.below hbw)
          have HKS := Lib.hid (HS.out.ks.below hbw)
          have hxV : CBox V0 gc 27 B r := (hbw.block _ hl4).trans HS.out.X
          have HXV := Lib.hid hxV
          have hgV := lt_of_block hxV
          have HBV := Lib.hid (HB4.out.trans (hbw.mono HB4.out.size))
          have HLT := Lib.hid HS.out.lt
          have HLS := Lib.hid HS.out.ls
          obtain ⟨i0, hi, hzz0, hzz1, hzz2⟩ := info_parts info3
          clear hbw hxV hl4
          go_wp2
          go_loopw [13, 99] (fun s13 s99 wr => ∃ (i : Nat) (q : List Int), i ≤ n ∧ s99 = .int .i64 i ∧ OsR t i q ∧ wr.ownsRow V0.heap.size 3 1 s13 i (iCs q) ∧ Below V0.heap.size V0 wr) (fun _ s99 _ => n - (intOf s99).toNat)
          case atStart => exact ⟨0, [], Nat.zero_le _, rfl, OsR.nil t, World.ownsRow_nil _ _ _ _, Below.refl _ _⟩
          case round =>
            obtain ⟨i, q, hi', rfl, hq, ho, hb⟩ := hrel
            have hxr : CBox wr gc 27 B r := (hb.block _ hgV).trans HXV.out
            have hlr : gc < wr.heap.size := lt_of_block hxr
            obtain ⟨_, _, _, _⟩ := cells2 hxr
            have HO := Lib.hid ho
            have HB := Lib.hid hb
            have HQ := Lib.hid hq
            clear ho hb hq hxr
            by_cases hlt : i < n
            · have hi0 : (0 : Int) ≤ (i : Int) := Int.natCast_nonneg _
              have hi1 : (i : Int) < (n : Int) := by omega
              obtain ⟨g1, o1, rfl, _, hct⟩ := (HKT.out.below HB.out).at (HLT.out i hlt)
              have ht0 := HT.out.pos i
              have ht1 := HTT.out i hlt
              have HT0 := Lib.hid ht0
              have HT1 := Lib.hid ht1
              go_upto_if 108 with (fail)
              go_cut [15] (fun s15 wx => ∃ e : Int, (0 ≤ e ∧ e ≤ 8) ∧ s15 = .int .i64 (t i + e) ∧ wx = wr)
              case first =>
                by_cases hos : 0 < m
                · have zo : (0 < m) = True := by simp [hos]
                  have zo' : ((0 : Int) < (m : Int)) = True := by simp [hos]
                  have hmod : i % m < m := Nat.mod_lt _ hos
                  obtain ⟨oz, hoz⟩ : ∃ z, os[i % m]? = some z := ⟨_, List.getElem?_eq_getElem (by rw [HM.out]; exact hmod)⟩
                  have hozr := HOZ.out oz (List.mem_of_getElem? hoz)
                  obtain ⟨g2, o2, rfl, _, hco⟩ := ((HKO.out.below HBV.out).below HB.out).at hoz
                  have zm : ((m : Int) = 0) = False := by simp; omega
                  have zm1 : (m = 0) = False := by simp; omega
                  have zm' : ((m : Int) == 0) = false := by simp; omega
                  have f1 := tmod_nat i m
                  clear hoz
                  generalize i % m = im at *
                  have f3 : (0 : Int) ≤ (im : Int) := Int.natCast_nonneg _
                  have f4 : (im : Int) < (m : Int) := by omega
                  have f2 : Value.int .i64 (wrap64 (im : Int)) = .int .i64 (im : Int) := by rw [IntWalk.wrap64_in _ (by omega)]
                  have f5 : oz.tmod 9 = oz % 9 := Int.tmod_eq_emod_of_nonneg hozr.1
                  have f6 : wrap64 oz = oz := by unfold wrap64; omega
                  have f7 : wrap64 (oz % 9) = oz % 9 := by unfold wrap64; omega
                  have f8 : wrap64 (t i + oz % 9) = t i + oz % 9 := by unfold wrap64; omega
                  have HMD := Lib.hid (show 0 ≤ oz % 9 ∧ oz % 9 ≤ 8 by omega)
                  clear hozr hos ht0 ht1
                  go_wp2_with (fail)
                  go_meet
                  case rel => exact ⟨oz % 9, HMD.out, by first | rfl | exact congrArg (Value.int .i64) f8, rfl⟩
                · have zo : (0 < m) = False := by simp [hos]
                  have zo' : ((0 : Int) < (m : Int)) = False := by simp; omega
                  go_wp2_with (fail)
                  go_meet
                  case rel => exact ⟨0, by omega, by rw [Int.add_zero], rfl⟩
              case rest =>
                obtain ⟨e, he, rfl, hwx⟩ := hcut
                subst hwx
                have HE := Lib.hid he
                clear he
                go_upto_if 121 with (fail)
                go_cut [15] (fun s15 wx => ∃ z : Int, s15 = .int .i64 z ∧ NewO t i q z ∧ wx = wc)
                case first =>
                  by_cases hip : 0 < i
                  · obtain ⟨j, rfl⟩ : ∃ j, i = j + 1 := ⟨i - 1, by omega⟩
                    have zi : ((0 : Int) < ((j + 1 : Nat) : Int)) = True := by simp <;> omega
                    have zi1 : (0 < j + 1) = True := by simp
                    have hO := HO.out
                    rcases Go.Joins.ownsRow_forms hO with ⟨rfl, h0⟩ | ⟨g, c, rfl⟩
                    · exact absurd h0 (by omega)
                    · have hcq := own_get hO (k := j) (z := q.getD j 0) (get_getD (by rw [HQ.out.len]; omega))
                      have f2 : wrap64 (((j + 1 : Nat) : Int) - 1) = (j : Int) := by push_cast; unfold wrap64; omega
                      have f3 : (0 : Int) ≤ (j : Int) := Int.natCast_nonneg _
                      have f4 : (j : Int) < ((j + 1 : Nat) : Int) := by push_cast; omega
                      have HNX := Lib.hid (NewO.next HQ.out HE.out (by have := HT1.out; omega))
                      clear hO ht0 ht1
                      generalize q.getD j 0 = qj at *
                      by_cases hmq : t (j + 1) + e < qj
                      · have zm : (t (j + 1) + e < qj) = True := by simp [hmq]
                        have HMQ := Lib.hid (Int.max_eq_right (Int.le_of_lt hmq))
                        clear hmq
                        go_wp2_with (fail)
                        go_meet
                        case rel => exact ⟨max (t (j + 1) + e) qj, by rw [HMQ.out], HNX.out, rfl⟩
                      · have zm : (t (j + 1) + e < qj) = False := by simp [hmq]
                        have HMQ := Lib.hid (Int.max_eq_left (Int.not_lt.1 hmq))
                        clear hmq
                        go_wp2_with (fail)
                        go_meet
                        case rel => exact ⟨max (t (j + 1) + e) qj, by rw [HMQ.out], HNX.out, rfl⟩
                  · obtain rfl : i = 0 := by omega
                    have HNX := Lib.hid (NewO.first (t := t) (q := q) HE.out (by have := HT1.out; omega))
                    go_wp2_with (fail)
                    go_meet
                    case rel => exact ⟨t 0 + e, rfl, HNX.out, rfl⟩
                case rest =>
                  obtain ⟨z, rfl, hz, hwx⟩ := hcut
                  subst hwx
                  have HZ := Lib.hid hz
                  have hz1 := hz.top
                  have hz2 := Int.le_trans ht0 hz.ge
                  have wz : wrap64 z = z := by unfold wrap64; omega
                  have HNEW := Lib.hid (show (wc.alloc (.cells #[.int .i64 z] 3)).heap[wc.heap.size]? = some (.cells ⟨[.int .i64 z]⟩ 3) from alloc_new_at _ _ _ rfl)
                  clear hz
                  have hVw := HB.out.size
                  go_upto_region 19 with ((at_builtin; go_must (refine wpList_append_own _ rfl _ _ 42 rfl V0.heap.size 3 i0 _ 1 8 Try.underlying42 hi hzz0 hzz1 hzz2 rfl (by decide) _ _ _ rfl (HO.out.alloc _) ⟨wc.heap.size, 0, none⟩ 1 1 [.int .i64 z] rfl rfl (cells_new HNEW.out) (by simp [Value.oneCell']) (by unfold maxLen; omega) (by omega) (by simp; omega) ?_); intro v' W8 hown' hgrow _))
                  have hsz := hgrow.size
                  rw [World.size_alloc] at hsz
                  have hb8 : Below V0.heap.size V0 W8 := HB.out.trans ⟨hgrow.os, hgrow.tape, hgrow.output, by omega, fun b hb => by
                    rw [hgrow.block b (by rw [World.size_alloc]; have := HB.out.size; omega) (fun e => by have := (HO.out.lt b e.symm).1; omega), Below.heap_alloc _ _ _ (by have := HB.out.size; omega)]⟩
                  have hown8 : W8.ownsRow V0.heap.size 3 1 v' (i + 1) (iCs (q ++ [z])) := by rw [iCs, List.map_append]; exact hown'
                  rcases Go.Joins.ownsRow_forms hown8 with ⟨rfl, h0⟩ | ⟨g, c, rfl⟩
                  · exact absurd h0 (by omega)
                  · have HO8 := Lib.hid hown8
                    have HB8 := Lib.hid hb8
                    clear hown8 hb8 hown' hgrow hsz HO HB HNEW
                    go_wp2
                    go_loopw [134] (fun s134 wr => ∃ (k : Nat) (z : Int), k ≤ i ∧ s134 = .int .i64 k ∧ NewO t i q z ∧ wr.ownsRow V0.heap.size 3 1 (.slice (some ⟨g, 0, none⟩) (i + 1) c) (i + 1) (iCs (q ++ [z])) ∧ Below V0.heap.size V0 wr) (fun s134 _ => i - (intOf s134).toNat)
                    case atStart => exact ⟨0, z, Nat.zero_le _, rfl, HZ.out, HO8.out, HB8.out⟩
                    case round =>
                      clear hlr HZ hz1 hz2 wz
                      obtain ⟨k, z, hk, rfl, hz, ho, hb⟩ := hrel
                      have hxr : CBox wr gc 27 B r := (hb.block _ hgV).trans HXV.out
                      obtain ⟨_, _, _, _⟩ := cells2 hxr
                      have hlr : gc < wr.heap.size := lt_of_block hxr
                      have HO := Lib.hid ho
                      have HB := Lib.hid hb
                      have HZ := Lib.hid hz
                      have HXR := Lib.hid hxr
                      clear ho hb hz hxr
                      by_cases hki : k < i
                      · have hoi := own_get HO.out (k := i) (z := z) (snoc_get_eq HQ.out.len)
                        have hok := own_get HO.out (k := k) (z := q.getD k 0) (snoc_get_lt (by rw [HQ.out.len]; exact hki))
                        have hfr := HO.out.frozenAt i
                        have hz1 := HZ.out.old k hki
                        have hz2 := HZ.out.top
                        have hz3 := Int.le_trans (HT.out.pos i) HZ.out.ge
                        have hz4 := Int.le_trans (HT.out.pos k) (HQ.out.ge k hki)
                        have hk0 : (0 : Int) ≤ (k : Int) := Int.natCast_nonneg _
                        have hk1 : (k : Int) < (i : Int) := by omega
                        have hk2 : (k : Int) < (i : Int) + 1 := by omega
                        have hii : (i : Int) < (i : Int) + 1 := by omega
                        obtain ⟨u, hu⟩ : ∃ u, u = q.getD k 0 := ⟨_, rfl⟩
                        rw [← hu] at hok hz1 hz4
                        have HU := Lib.hid hu
                        clear hu
                        by_cases hr0 : 0 < r
                        · have zr : (0 < r) = True := by simp [hr0]
                          have zr' : decide (0 < r) = true := by simp [hr0]
                          have hm0 : 0 ≤ r * (z - u + 1) := Int.mul_nonneg (by omega) (by omega)
                          have hm1 : r * (z - u + 1) ≤ 10240000000 := by
                            have := Int.mul_le_mul HRR.out.2 (show z - u + 1 ≤ 10000000 by omega) (by omega) (by omega : (0 : Int) ≤ 1024)
                            omega
                          have w1 : wrap64 ((i : Int) - (k : Int)) = (i : Int) - (k : Int) := by unfold wrap64; omega
                          have w2 : wrap64 ((i : Int) - (k : Int) + 1) = (i : Int) - (k : Int) + 1 := by unfold wrap64; omega
                          have w3 : wrap64 (1024 * ((i : Int) - (k : Int) + 1)) = 1024 * ((i : Int) - (k : Int) + 1) := by unfold wrap64; omega
                          have w4' : wrap64 (z - u) = z - u := by unfold wrap64; omega
                          have w5 : wrap64 (z - u + 1) = z - u + 1 := by unfold wrap64; omega
                          have w6 : wrap64 (r * (z - u + 1)) = r * (z - u + 1) := by unfold wrap64; omega
                          have w7 : wrap64 (B + r * (z - u + 1)) = B + r * (z - u + 1) := by have := HBB.out; unfold wrap64; omega
                          clear hz1 hz2 hz3 hz4 hm0 hm1
                          by_cases hcd : B + r * (z - u + 1) < 1024 * ((i : Int) - (k : Int) + 1)
                          · have zc : (B + r * (z - u + 1) < 1024 * ((i : Int) - (k : Int) + 1)) = True := by simp [hcd]
                            obtain ⟨hnew, hq0, hq1⟩ := NewO.raise HQ.out HZ.out hki (by omega) HBB.out.1 ⟨hr0, HRR.out.2⟩ (by rw [← HU.out]; exact hcd)
                            rw [← HU.out] at hnew
                            have zd : (r == 0) = false := by simp; omega
                            have zd' : (r = 0) = False := by simp; omega
                            have v1 : wrap64 (u - 1) = u - 1 := by have := HU.out; have := HQ.out.top k hki; have := Int.le_trans (HT.out.pos k) (HQ.out.ge k hki); unfold wrap64; omega
                            have v2 : wrap64 (1024 * ((i : Int) - (k : Int) + 1) - B) = 1024 * ((i : Int) - (k : Int) + 1) - B := by have := HBB.out; unfold wrap64; omega
                            have v3 : wrap64 (1024 * ((i : Int) - (k : Int) + 1) - B + r) = 1024 * ((i : Int) - (k : Int) + 1) - B + r := by have := HBB.out; have := HRR.out; unfold wrap64; omega
                            have v4 : wrap64 (1024 * ((i : Int) - (k : Int) + 1) - B + r - 1) = 1024 * ((i : Int) - (k : Int) + 1) - B + r - 1 := by have := HBB.out; have := HRR.out; unfold wrap64; omega
                            have hbd := hnew.top
                            have hbd0 := Int.le_trans (HT.out.pos i) hnew.ge
                            generalize hQv : (1024 * ((i : Int) - (k : Int) + 1) - B + r - 1).tdiv r = Qv at *
                            have v5 : wrap64 Qv = Qv := by unfold wrap64; omega
                            have v6 : wrap64 (u - 1 + Qv) = u - 1 + Qv := by unfold wrap64; omega
                            have HNW := Lib.hid hnew
                            clear hnew hq0 hq1 hbd hbd0 hcd hr0
                            go_upto_region 22 with (fail)
                            go_cut [163] (fun s163 wx => s163 = .bool true ∧ wx.heap = wr.heap ∧ Below wr.heap.size wr wx)
                            case first =>
                              go_quiet (fail)
                              go_wp2
                              go_meet
                              case rel => exact ⟨rfl, by rfl, by first | exact Below.refl _ _ | exact below_drewN (Below.refl _ _) _ | exact (Below.refl _ _).drew⟩
                            case rest =>
                              obtain ⟨rfl, hwh, hwb⟩ := hcut
                              have h23 : ∀ b o, wc.cell? ⟨b, o, none⟩ = wr.cell? ⟨b, o, none⟩ := fun b o => by unfold World.cell?; rw [hwh]
                              have h24 : ∀ b o, wc.frozen? ⟨b, o, none⟩ = wr.frozen? ⟨b, o, none⟩ := fun b o => by unfold World.frozen?; rw [hwh]
                              have c1 : wc.cell? ⟨g, i, none⟩ = some (.int .i64 z) := (h23 _ _).trans hoi
                              have c2 : wc.cell? ⟨g, k, none⟩ = some (.int .i64 u) := (h23 _ _).trans hok
                              have c3 : wc.frozen? ⟨g, i, none⟩ = false := (h24 _ _).trans hfr
                              have cX : CBox wc gc 27 B r := by unfold CBox; rw [hwh]; exact HXR.out
                              obtain ⟨_, _, _, _⟩ := cells2 cX
                              have hlc := lt_of_block cX
                              have hB7 : Below V0.heap.size V0 wc.drew := (HB.out.trans (hwb.mono HB.out.size)).drew
                              have hW7 : wc.drew.heap = wr.heap := hwh
                              have HB7 := Lib.hid hB7
                              have HW7 := Lib.hid hW7
                              clear hB7 hW7 hwh hwb h23 h24 cX hoi hok hfr
                              go_wp2
                              go_still_tail 24, (by kernel_rfl)
                              change wpList _ _ _ _ _ wc.drew
                              generalize wc.drew = W7 at *
                              have hO7 : W7.ownsRow V0.heap.size 3 1 (.slice (some ⟨g, 0, none⟩) (i + 1) c) (i + 1) (iCs (q ++ [z])) := ownsRow_of_block HO.out (fun g' _ => by rw [HW7.out])
                              have c4 := own_get hO7 (k := i) (z := z) (snoc_get_eq HQ.out.len)
                              have c5 := hO7.frozenAt i
                              have hst7 := (hO7.stored i (.int .i64 (u - 1 + Qv))).1
                              rw [ics_set HQ.out.len] at hst7
                              have hgb := (hO7.lt g rfl).1
                              have HST7 := Lib.hid hst7
                              have HGB := Lib.hid hgb
                              clear hO7 hst7 hgb
                              go_wp2
                              go_roundw
                              case rel => exact ⟨k + 1, u - 1 + Qv, by omega, by go_num, HNW.out, HST7.out, HB7.out.setCell (by show V0.heap.size ≤ g; exact HGB.out) _⟩
                              case measure => simp [intOf]; omega
                          · have zc : (B + r * (z - u + 1) < 1024 * ((i : Int) - (k : Int) + 1)) = False := by simp [hcd]
                            clear hcd hr0
                            go_wp2
                            go_quiet (fail)
                            go_wp2
                            go_roundw
                            case rel => exact ⟨k + 1, z, by omega, by go_num, HZ.out, by exact HO.out, by first | exact HB.out | exact below_drewN HB.out _ | exact HB.out.drew⟩
                            case measure => simp [intOf]; omega
                        · have zr : (0 < r) = False := by simp [hr0]
                          have zr' : decide (0 < r) = false := by simp [hr0]
                          clear hr0 hz1 hz2 hz3 hz4
                          go_wp2
                          go_quiet (fail)
                          go_wp2
                          go_roundw
                          case rel => exact ⟨k + 1, z, by omega, by go_num, HZ.out, by exact HO.out, by first | exact HB.out | exact below_drewN HB.out _ | exact HB.out.drew⟩
                          case measure => simp [intOf]; omega
                      · obtain rfl : i = k := by omega
                        go_wp2
                        go_roundw
                        case rel => exact ⟨i + 1, q ++ [z], by omega, by go_num, HQ.out.snoc HZ.out, HO.out, HB.out⟩
                        case measure => simp [intOf]; omega
            · obtain rfl : n = i := by omega
              have hf : ∃ a' c', u13 = .slice a' n c' := by
                rcases Go.Joins.ownsRow_forms HO.out with ⟨e, h0⟩ | ⟨g, c, e⟩
                · exact ⟨none, 0, by rw [e, h0]⟩
                · exact ⟨_, _, e⟩
              obtain ⟨a3, c3, rfl⟩ := hf
              have hka : KAt .i64 wr (.slice a3 n c3) q := kat_of_owns (base := V0.heap.size) (e := 3) (by rw [HQ.out.len]; exact HO.out)
              obtain ⟨hko, hkv⟩ := os_keeps HQ.out hn30 HT.out.pos HBB.out HRR.out hka
              have HKA := Lib.hid hka
              have HKV := Lib.hid hkv
              have hsk := HKS.out.below HB.out
              have htk := HKT.out.below HB.out
              have HSK := Lib.hid hsk
              have HTK := Lib.hid htk
              have HXO := Lib.hid ((HB.out.block _ hgV).trans HXV.out : CBox wr gc 27 B r)
              generalize hkb : keepsB (fun k => q.getD k 0) n B r = ko at *
              have HKB := Lib.hid hkb
              have HKOO := Lib.hid hko
              have HBW := Lib.hid (HBV.out.trans (HB.out.mono HBV.out.size))
              clear hko hkv hka hsk htk hkb HO HB HKS HKT HXV
              go_wp2
              generalize wr = wo at *
              go_loopw [192] (fun s192 wr => ∃ k : Nat, k ≤ n ∧ s192 = .int .i64 k ∧ Below wo.heap.size wo wr) (fun s192 _ => n - (intOf s192).toNat)
              case atStart => exact ⟨0, Nat.zero_le _, rfl, Below.refl _ _⟩
              case round =>
                obtain ⟨k, hk, rfl, hb⟩ := hrel
                have hxr : CBox wr gc 27 B r := (hb.block _ hlr).trans HXO.out
                have hlk : gc < wr.heap.size := lt_of_block hxr
                obtain ⟨_, _, _, _⟩ := cells2 hxr
                have HB2 := Lib.hid hb
                have HXR := Lib.hid hxr
                clear hb hxr
                by_cases hlt2 : k < n
                · have hk0 : (0 : Int) ≤ (k : Int) := Int.natCast_nonneg _
                  have hk1 : (k : Int) < (n : Int) := by omega
                  obtain ⟨b1, f1, rfl, hb1, hc1⟩ := (HTK.out.below HB2.out).at (HLT.out k hlt2)
                  obtain ⟨b2, f2, e2, hb2, hc2⟩ := (HSK.out.below HB2.out).at (HLS.out k hlt2)
                  obtain ⟨b3, f3, rfl, hb3, hc3⟩ := (HKA.out.below HB2.out).at (get_getD (k := k) (by rw [HQ.out.len]; exact hlt2))
                  cases e2
                  have x1 : (shp t B r k < t k) = False := by have := shp_ge (t := t) (B := B) (r := r) k; simp; omega
                  rw [Nat.zero_add] at hc2
                  obtain ⟨hg0, hg1, _, _⟩ := cells2 HXR.out
                  obtain ⟨tk, htk0⟩ : ∃ z, z = t k := ⟨_, rfl⟩
                  obtain ⟨sk, hsk⟩ : ∃ z, z = shp t B r k := ⟨_, rfl⟩
                  obtain ⟨qk, hqk⟩ : ∃ z, z = q.getD k 0 := ⟨_, rfl⟩
                  rw [← htk0] at hc1 x1
                  rw [← hsk] at hc2 x1
                  rw [← hqk] at hc3
                  clear htk0
                  by_cases hk00 : k = 0
                  · have g6 : ((0 : Int) < (k : Int)) = False := by simp; omega
                    have g5 : (0 < k) = False := by simp; omega
                    obtain ⟨j, sj, hjj⟩ : ∃ (j : Nat) (sj : Int), j = 0 ∧ sj = 0 := ⟨_, _, rfl, rfl⟩
                    clear hk00 hjj
                    cases ko
                    · have hk' : k + 1 ≤ n := hlt2
                      clear hlt2 hqk hsk
                      go_wp2
                      refine wp_region_reads (shV gs b1 f1 b3 f3 n c1 c3 k j tk sk qk sj B r false false) (shW false false) (shG false false) (Below wr.heap.size wr) (by kernel_rfl) (by kernel_rfl) (by kernel_rfl) (by kernel_rfl) (by simp [dstIn]) ?gv ?un (Below.refl _ _).drew ?stp ?dn
                      case gv =>
                        intro i hi
                        simp [isGd] at hi
                        have hi' : i = 9 ∨ i = 12 ∨ i = 25 ∨ i = 29 := by omega
                        rcases hi' with rfl | rfl | rfl | rfl <;> rfl
                      case un =>
                        intro i hi hw
                        have hc : i = 0 ∨ i = 1 ∨ i = 2 ∨ i = 3 ∨ i = 4 ∨ i = 5 ∨ i = 6 ∨ i = 7 ∨ i = 8 ∨ i = 9 ∨ i = 10 ∨ i = 11 ∨ i = 12 ∨ i = 13 ∨ i = 14 ∨ i = 15 ∨ i = 16 ∨ i = 17 ∨ i = 18 ∨ i = 19 ∨ i = 20 ∨ i = 21 ∨ i = 22 ∨ i = 23 ∨ i = 24 ∨ i = 25 ∨ i = 26 ∨ i = 27 ∨ i = 28 ∨ i = 29 ∨ i = 30 ∨ i = 31 ∨ i = 32 ∨ i = 33 ∨ i = 34 ∨ i = 35 ∨ i = 36 ∨ i = 37 ∨ i = 38 ∨ i = 39 ∨ i = 40 := by simp at hi; omega
                        rcases hc with rfl | rfl | rfl | rfl | rfl | rfl | rfl | rfl | rfl | rfl | rfl | rfl | rfl | rfl | rfl | rfl | rfl | rfl | rfl | rfl | rfl | rfl | rfl | rfl | rfl | rfl | rfl | rfl | rfl | rfl | rfl | rfl | rfl | rfl | rfl | rfl | rfl | rfl | rfl | rfl | rfl <;> first | rfl | (exact absurd hw (by simp [shW]))
                      case stp =>
                        as_aux_lemma =>
                        intro W i o b' ho hwt hI hh
                        have hi := (List.getElem?_eq_some_iff.1 ho).1
                        have hc : i = 0 ∨ i = 1 ∨ i = 2 ∨ i = 3 ∨ i = 4 ∨ i = 5 ∨ i = 6 ∨ i = 7 ∨ i = 8 ∨ i = 9 ∨ i = 10 ∨ i = 11 ∨ i = 12 ∨ i = 13 ∨ i = 14 ∨ i = 15 ∨ i = 16 ∨ i = 17 ∨ i = 18 ∨ i = 19 ∨ i = 20 ∨ i = 21 ∨ i = 22 ∨ i = 23 ∨ i = 24 ∨ i = 25 ∨ i = 26 ∨ i = 27 ∨ i = 28 ∨ i = 29 ∨ i = 30 ∨ i = 31 ∨ i = 32 ∨ i = 33 ∨ i = 34 ∨ i = 35 ∨ i = 36 ∨ i = 37 ∨ i = 38 ∨ i = 39 ∨ i = 40 := by simp at hi; omega
                        have d0 : W.cell? ⟨b1, f1 + k, none⟩ = some (.int .i64 tk) := ((bcell hI).1 _ _ hb1).trans hc1
                        have d1 : W.cell? ⟨gs, k, none⟩ = some (.int .i64 sk) := ((bcell hI).1 _ _ hb2).trans hc2
                        have d2 : W.cell? ⟨b3, f3 + k, none⟩ = some (.int .i64 qk) := ((bcell hI).1 _ _ hb3).trans hc3
                        have d3 : W.cell? ⟨gc, 0, none⟩ = some (.int .i64 B) := ((bcell hI).1 _ _ hlk).trans hg0
                        have d4 : W.cell? ⟨gc, 1, none⟩ = some (.int .i64 r) := ((bcell hI).1 _ _ hlk).trans hg1
                        have HI := Lib.hid hI
                        clear hi hI
                        have k9 := hh.kept 9 (by simp)
                        simp at k9
                        have k10 := hh.kept 10 (by simp)
                        simp at k10
                        have k11 := hh.kept 11 (by simp)
                        simp at k11
                        have k13 := hh.kept 13 (by simp)
                        simp at k13
                        have k17 := hh.kept 17 (by simp)
                        simp at k17
                        rcases hc with rfl | rfl | rfl | rfl | rfl | rfl | rfl | rfl | rfl | rfl | rfl | rfl | rfl | rfl | rfl | rfl | rfl | rfl | rfl | rfl | rfl | rfl | rfl | rfl | rfl | rfl | rfl | rfl | rfl | rfl | rfl | rfl | rfl | rfl | rfl | rfl | rfl | rfl | rfl | rfl | rfl
                        · simp only [List.getElem?_cons_zero, Option.some.injEq] at ho
                          subst ho
                          go_simp
                          exact ⟨rfl, HI.out⟩
                        · simp only [List.getElem?_cons_zero, List.getElem?_cons_succ, Option.some.injEq] at ho
                          subst ho
                          go_simp
                          exact ⟨rfl, HI.out⟩
                        · simp only [List.getElem?_cons_zero, List.getElem?_cons_succ, Option.some.injEq] at ho
                          subst ho
                          have g0 := hh.got 0 _ 195 rfl rfl ⟨⟨0, .data⟩, by simp, rfl, rfl⟩ (by simp)
                          have g1 := hh.got 1 _ 196 rfl rfl ⟨⟨1, .data⟩, by simp, rfl, rfl⟩ (by simp)
                          simp [shV] at g0 g1
                          go_simp
                          exact ⟨rfl, HI.out⟩
                        · simp only [List.getElem?_cons_zero, List.getElem?_cons_succ, Option.some.injEq] at ho
                          subst ho
                          have g2 := hh.got 2 _ 197 rfl rfl ⟨⟨2, .data⟩, by simp, rfl, rfl⟩ (by simp)
                          simp [shV] at g2
                          go_simp
                          exact ⟨rfl, HI.out⟩
                        · simp only [List.getElem?_cons_zero, List.getElem?_cons_succ, Option.some.injEq] at ho
                          subst ho
                          go_simp
                          exact ⟨rfl, HI.out⟩
                        · simp only [List.getElem?_cons_zero, List.getElem?_cons_succ, Option.some.injEq] at ho
                          subst ho
                          go_simp
                          exact ⟨rfl, HI.out⟩
                        · simp only [List.getElem?_cons_zero, List.getElem?_cons_succ, Option.some.injEq] at ho
                          subst ho
                          have g4 := hh.got 4 _ 199 rfl rfl ⟨⟨4, .data⟩, by simp, rfl, rfl⟩ (by simp)
                          have g5 := hh.got 5 _ 200 rfl rfl ⟨⟨5, .data⟩, by simp, rfl, rfl⟩ (by simp)
                          simp [shV] at g4 g5
                          go_simp
                          exact ⟨rfl, HI.out⟩
                        · simp only [List.getElem?_cons_zero, List.getElem?_cons_succ, Option.some.injEq] at ho
                          subst ho
                          have g6 := hh.got 6 _ 201 rfl rfl ⟨⟨6, .data⟩, by simp, rfl, rfl⟩ (by simp)
                          simp [shV] at g6
                          go_simp
                          exact ⟨rfl, HI.out⟩
                        · simp only [List.getElem?_cons_zero, List.getElem?_cons_succ, Option.some.injEq] at ho
                          subst ho
                          have g3 := hh.got 3 _ 198 rfl rfl ⟨⟨3, .data⟩, by simp, rfl, rfl⟩ (by simp)
                          have g7 := hh.got 7 _ 202 rfl rfl ⟨⟨7, .data⟩, by simp, rfl, rfl⟩ (by simp)
                          simp [shV] at g3 g7
                          go_simp
                          exact ⟨rfl, HI.out⟩
                        · simp only [List.getElem?_cons_zero, List.getElem?_cons_succ, Option.some.injEq] at ho
                          subst ho
                          have g8 := hh.got 8 _ 203 rfl rfl ⟨⟨8, .data⟩, by simp, rfl, rfl⟩ (by simp)
                          simp [shV] at g8
                          go_simp
                          exact ⟨rfl, HI.out⟩
                        · simp only [List.getElem?_cons_zero, List.getElem?_cons_succ, Option.some.injEq] at ho
                          subst ho
                          go_simp
                          exact ⟨rfl, HI.out⟩
                        · simp only [List.getElem?_cons_zero, List.getElem?_cons_succ, Option.some.injEq] at ho
                          subst ho
                          have g10 := hh.got 10 _ 205 rfl rfl ⟨⟨10, .data⟩, by simp, rfl, rfl⟩ (by simp)
                          simp [shV] at g10
                          go_simp
                          refine ⟨?_, HI.out⟩
                          simp [shV]
                        · simp only [List.getElem?_cons_zero, List.getElem?_cons_succ, Option.some.injEq] at ho
                          subst ho
                          have g11 := hh.got 11 _ 206 rfl rfl ⟨⟨11, .data⟩, by simp, rfl, rfl⟩ (by simp)
                          simp [shV] at g11
                          go_simp
                          exact ⟨rfl, HI.out⟩
                        · exact absurd hwt (by simp [shW])
                        · exact absurd hwt (by simp [shW])
                        · exact absurd hwt (by simp [shW])
                        · exact absurd hwt (by simp [shW])
                        · exact absurd hwt (by simp [shW])
                        · exact absurd hwt (by simp [shW])
                        · exact absurd hwt (by simp [shW])
                        · exact absurd hwt (by simp [shW])
                        · exact absurd hwt (by simp [shW])
                        · exact absurd hwt (by simp [shW])
                        · simp only [List.getElem?_cons_zero, List.getElem?_cons_succ, Option.some.injEq] at ho
                          subst ho
                          have g12 := hh.got 12 _ 207 rfl rfl ⟨⟨12, .data⟩, by simp, rfl, rfl⟩ (by simp)
                          have g22 := hh.got 22 _ 217 rfl rfl ⟨⟨22, .data⟩, by simp, rfl, rfl⟩ (by simp)
                          simp [shV] at g12 g22
                          go_simp
                          exact ⟨rfl, HI.out⟩
                        · simp only [List.getElem?_cons_zero, List.getElem?_cons_succ, Option.some.injEq] at ho
                          subst ho
                          have g9 := hh.got 9 _ 204 rfl rfl ⟨⟨9, .data⟩, by simp, rfl, rfl⟩ (by simp)
                          have g23 := hh.got 23 _ 218 rfl rfl ⟨⟨23, .data⟩, by simp, rfl, rfl⟩ (by simp)
                          simp [shV] at g9 g23
                          go_simp
                          exact ⟨rfl, HI.out⟩
                        · simp only [List.getElem?_cons_zero, List.getElem?_cons_succ, Option.some.injEq] at ho
                          subst ho
                          have g24 := hh.got 24 _ 219 rfl rfl ⟨⟨24, .data⟩, by simp, rfl, rfl⟩ (by simp)
                          simp [shV] at g24
                          go_simp
                          exact ⟨rfl, HI.out⟩
                        · simp only [List.getElem?_cons_zero, List.getElem?_cons_succ, Option.some.injEq] at ho
                          subst ho
                          go_simp
                          exact ⟨rfl, HI.out⟩
                        · simp only [List.getElem?_cons_zero, List.getElem?_cons_succ, Option.some.injEq] at ho
                          subst ho
                          go_simp
                          exact ⟨rfl, HI.out⟩
                        · simp only [List.getElem?_cons_zero, List.getElem?_cons_succ, Option.some.injEq] at ho
                          subst ho
                          have g26 := hh.got 26 _ 221 rfl rfl ⟨⟨26, .data⟩, by simp, rfl, rfl⟩ (by simp)
                          have g27 := hh.got 27 _ 222 rfl rfl ⟨⟨27, .data⟩, by simp, rfl, rfl⟩ (by simp)
                          simp [shV] at g26 g27
                          go_simp
                          go_at_call 16
                          refine (HKOO.out _ (HB2.out.trans (HI.out.mono HB2.out.size))).mono ?_
                          rintro e w6 ⟨rfl, hb6⟩
                          exact ⟨rfl, HI.out.trans (hb6.mono HI.out.size)⟩
                        · simp only [List.getElem?_cons_zero, List.getElem?_cons_succ, Option.some.injEq] at ho
                          subst ho
                          have g28 := hh.got 28 _ 223 rfl rfl ⟨⟨28, .data⟩, by simp, rfl, rfl⟩ (by simp)
                          simp [shV] at g28
                          go_simp
                          exact ⟨rfl, HI.out⟩
                        · exact absurd hwt (by simp [shW])
                        · exact absurd hwt (by simp [shW])
                        · exact absurd hwt (by simp [shW])
                        · exact absurd hwt (by simp [shW])
                        · exact absurd hwt (by simp [shW])
                        · exact absurd hwt (by simp [shW])
                        · exact absurd hwt (by simp [shW])
                        · exact absurd hwt (by simp [shW])
                        · exact absurd hwt (by simp [shW])
                        · simp only [List.getElem?_cons_zero, List.getElem?_cons_succ, Option.some.injEq] at ho
                          subst ho
                          have g29 := hh.got 29 _ 224 rfl rfl ⟨⟨29, .data⟩, by simp, rfl, rfl⟩ (by simp)
                          have g38 := hh.got 38 _ 233 rfl rfl ⟨⟨38, .data⟩, by simp, rfl, rfl⟩ (by simp)
                          simp [shV] at g29 g38
                          go_simp
                          exact ⟨rfl, HI.out⟩
                        · simp only [List.getElem?_cons_zero, List.getElem?_cons_succ, Option.some.injEq] at ho
                          subst ho
                          have g25 := hh.got 25 _ 220 rfl rfl ⟨⟨25, .data⟩, by simp, rfl, rfl⟩ (by simp)
                          have g39 := hh.got 39 _ 234 rfl rfl ⟨⟨39, .data⟩, by simp, rfl, rfl⟩ (by simp)
                          simp [shV] at g25 g39
                          go_simp
                          exact ⟨rfl, HI.out⟩
                      case dn =>
                        intro W b' hI hb
                        simp only [puts, shV] at hb
                        subst hb
                        simp only [Act.put, List.setIfInBounds_toArray, List.set_cons_succ, List.set_cons_zero]
                        have HI := Lib.hid hI
                        clear hI
                        go_wp2
                        go_roundw
                        case rel => exact ⟨k + 1, hk', by go_num, by first | exact HB2.out.trans (HI.out.mono HB2.out.size) | exact below_drewN (HB2.out.trans (HI.out.mono HB2.out.size)) _ | exact (HB2.out.trans (HI.out.mono HB2.out.size)).drew⟩
                        case measure => simp [intOf]; omega
                    · have hk' : k + 1 ≤ n := hlt2
                      have x3 : (qk < sk) = False := eq_false (Int.not_lt.2 (by rw [hqk, hsk]; exact HKV.out rfl k hlt2))
                      clear hlt2 hqk hsk
                      go_wp2
                      refine wp_region_reads (shV gs b1 f1 b3 f3 n c1 c3 k j tk sk qk sj B r false true) (shW false true) (shG false true) (Below wr.heap.size wr) (by kernel_rfl) (by kernel_rfl) (by kernel_rfl) (by kernel_rfl) (by simp [dstIn]) ?gv ?un (Below.refl _ _).drew ?stp ?dn
                      case gv =>
                        intro i hi
                        simp [isGd] at hi
                        have hi' : i = 9 ∨ i = 12 ∨ i = 25 ∨ i = 29 := by omega
                        rcases hi' with rfl | rfl | rfl | rfl <;> rfl
                      case un =>
                        intro i hi hw
                        have hc : i = 0 ∨ i = 1 ∨ i = 2 ∨ i = 3 ∨ i = 4 ∨ i = 5 ∨ i = 6 ∨ i = 7 ∨ i = 8 ∨ i = 9 ∨ i = 10 ∨ i = 11 ∨ i = 12 ∨ i = 13 ∨ i = 14 ∨ i = 15 ∨ i = 16 ∨ i = 17 ∨ i = 18 ∨ i = 19 ∨ i = 20 ∨ i = 21 ∨ i = 22 ∨ i = 23 ∨ i = 24 ∨ i = 25 ∨ i = 26 ∨ i = 27 ∨ i = 28 ∨ i = 29 ∨ i = 30 ∨ i = 31 ∨ i = 32 ∨ i = 33 ∨ i = 34 ∨ i = 35 ∨ i = 36 ∨ i = 37 ∨ i = 38 ∨ i = 39 ∨ i = 40 := by simp at hi; omega
                        rcases hc with rfl | rfl | rfl | rfl | rfl | rfl | rfl | rfl | rfl | rfl | rfl | rfl | rfl | rfl | rfl | rfl | rfl | rfl | rfl | rfl | rfl | rfl | rfl | rfl | rfl | rfl | rfl | rfl | rfl | rfl | rfl | rfl | rfl | rfl | rfl | rfl | rfl | rfl | rfl | rfl | rfl <;> first | rfl | (exact absurd hw (by simp [shW]))
                      case stp =>
                        as_aux_lemma =>
                        intro W i o b' ho hwt hI hh
                        have hi := (List.getElem?_eq_some_iff.1 ho).1
                        have hc : i = 0 ∨ i = 1 ∨ i = 2 ∨ i = 3 ∨ i = 4 ∨ i = 5 ∨ i = 6 ∨ i = 7 ∨ i = 8 ∨ i = 9 ∨ i = 10 ∨ i = 11 ∨ i = 12 ∨ i = 13 ∨ i = 14 ∨ i = 15 ∨ i = 16 ∨ i = 17 ∨ i = 18 ∨ i = 19 ∨ i = 20 ∨ i = 21 ∨ i = 22 ∨ i = 23 ∨ i = 24 ∨ i = 25 ∨ i = 26 ∨ i = 27 ∨ i = 28 ∨ i = 29 ∨ i = 30 ∨ i = 31 ∨ i = 32 ∨ i = 33 ∨ i = 34 ∨ i = 35 ∨ i = 36 ∨ i = 37 ∨ i = 38 ∨ i = 39 ∨ i = 40 := by simp at hi; omega
                        have d0 : W.cell? ⟨b1, f1 + k, none⟩ = some (.int .i64 tk) := ((bcell hI).1 _ _ hb1).trans hc1
                        have d1 : W.cell? ⟨gs, k, none⟩ = some (.int .i64 sk) := ((bcell hI).1 _ _ hb2).trans hc2
                        have d2 : W.cell? ⟨b3, f3 + k, none⟩ = some (.int .i64 qk) := ((bcell hI).1 _ _ hb3).trans hc3
                        have d3 : W.cell? ⟨gc, 0, none⟩ = some (.int .i64 B) := ((bcell hI).1 _ _ hlk).trans hg0
                        have d4 : W.cell? ⟨gc, 1, none⟩ = some (.int .i64 r) := ((bcell hI).1 _ _ hlk).trans hg1
                        have HI := Lib.hid hI
                        clear hi hI
                        have k9 := hh.kept 9 (by simp)
                        simp at k9
                        have k10 := hh.kept 10 (by simp)
                        simp at k10
                        have k11 := hh.kept 11 (by simp)
                        simp at k11
                        have k13 := hh.kept 13 (by simp)
                        simp at k13
                        have k17 := hh.kept 17 (by simp)
                        simp at k17
                        rcases hc with rfl | rfl | rfl | rfl | rfl | rfl | rfl | rfl | rfl | rfl | rfl | rfl | rfl | rfl | rfl | rfl | rfl | rfl | rfl | rfl | rfl | rfl | rfl | rfl | rfl | rfl | rfl | rfl | rfl | rfl | rfl | rfl | rfl | rfl | rfl | rfl | rfl | rfl | rfl | rfl | rfl
                        · simp only [List.getElem?_cons_zero, Option.some.injEq] at ho
                          subst ho
                          go_simp
                          exact ⟨rfl, HI.out⟩
                        · simp only [List.getElem?_cons_zero, List.getElem?_cons_succ, Option.some.injEq] at ho
                          subst ho
                          go_simp
                          exact ⟨rfl, HI.out⟩
                        · simp only [List.getElem?_cons_zero, List.getElem?_cons_succ, Option.some.injEq] at ho
                          subst ho
                          have g0 := hh.got 0 _ 195 rfl rfl ⟨⟨0, .data⟩, by simp, rfl, rfl⟩ (by simp)
                          have g1 := hh.got 1 _ 196 rfl rfl ⟨⟨1, .data⟩, by simp, rfl, rfl⟩ (by simp)
                          simp [shV] at g0 g1
                          go_simp
                          exact ⟨rfl, HI.out⟩
                        · simp only [List.getElem?_cons_zero, List.getElem?_cons_succ, Option.some.injEq] at ho
                          subst ho
                          have g2 := hh.got 2 _ 197 rfl rfl ⟨⟨2, .data⟩, by simp, rfl, rfl⟩ (by simp)
                          simp [shV] at g2
                          go_simp
                          exact ⟨rfl, HI.out⟩
                        · simp only [List.getElem?_cons_zero, List.getElem?_cons_succ, Option.some.injEq] at ho
                          subst ho
                          go_simp
                          exact ⟨rfl, HI.out⟩
                        · simp only [List.getElem?_cons_zero, List.getElem?_cons_succ, Option.some.injEq] at ho
                          subst ho
                          go_simp
                          exact ⟨rfl, HI.out⟩
                        · simp only [List.getElem?_cons_zero, List.getElem?_cons_succ, Option.some.injEq] at ho
                          subst ho
                          have g4 := hh.got 4 _ 199 rfl rfl ⟨⟨4, .data⟩, by simp, rfl, rfl⟩ (by simp)
                          have g5 := hh.got 5 _ 200 rfl rfl ⟨⟨5, .data⟩, by simp, rfl, rfl⟩ (by simp)
                          simp [shV] at g4 g5
                          go_simp
                          exact ⟨rfl, HI.out⟩
                        · simp only [List.getElem?_cons_zero, List.getElem?_cons_succ, Option.some.injEq] at ho
                          subst ho
                          have g6 := hh.got 6 _ 201 rfl rfl ⟨⟨6, .data⟩, by simp, rfl, rfl⟩ (by simp)
                          simp [shV] at g6
                          go_simp
                          exact ⟨rfl, HI.out⟩
                        · simp only [List.getElem?_cons_zero, List.getElem?_cons_succ, Option.some.injEq] at ho
                          subst ho
                          have g3 := hh.got 3 _ 198 rfl rfl ⟨⟨3, .data⟩, by simp, rfl, rfl⟩ (by simp)
                          have g7 := hh.got 7 _ 202 rfl rfl ⟨⟨7, .data⟩, by simp, rfl, rfl⟩ (by simp)
                          simp [shV] at g3 g7
                          go_simp
                          exact ⟨rfl, HI.out⟩
                        · simp only [List.getElem?_cons_zero, List.getElem?_cons_succ, Option.some.injEq] at ho
                          subst ho
                          have g8 := hh.got 8 _ 203 rfl rfl ⟨⟨8, .data⟩, by simp, rfl, rfl⟩ (by simp)
                          simp [shV] at g8
                          go_simp
                          exact ⟨rfl, HI.out⟩
                        · simp only [List.getElem?_cons_zero, List.getElem?_cons_succ, Option.some.injEq] at ho
                          subst ho
                          go_simp
                          exact ⟨rfl, HI.out⟩
                        · simp only [List.getElem?_cons_zero, List.getElem?_cons_succ, Option.some.injEq] at ho
                          subst ho
                          have g10 := hh.got 10 _ 205 rfl rfl ⟨⟨10, .data⟩, by simp, rfl, rfl⟩ (by simp)
                          simp [shV] at g10
                          go_simp
                          refine ⟨?_, HI.out⟩
                          simp [shV]
                        · simp only [List.getElem?_cons_zero, List.getElem?_cons_succ, Option.some.injEq] at ho
                          subst ho
                          have g11 := hh.got 11 _ 206 rfl rfl ⟨⟨11, .data⟩, by simp, rfl, rfl⟩ (by simp)
                          simp [shV] at g11
                          go_simp
                          exact ⟨rfl, HI.out⟩
                        · exact absurd hwt (by simp [shW])
                        · exact absurd hwt (by simp [shW])
                        · exact absurd hwt (by simp [shW])
                        · exact absurd hwt (by simp [shW])
                        · exact absurd hwt (by simp [shW])
                        · exact absurd hwt (by simp [shW])
                        · exact absurd hwt (by simp [shW])
                        · exact absurd hwt (by simp [shW])
                        · exact absurd hwt (by simp [shW])
                        · exact absurd hwt (by simp [shW])
                        · simp only [List.getElem?_cons_zero, List.getElem?_cons_succ, Option.some.injEq] at ho
                          subst ho
                          have g12 := hh.got 12 _ 207 rfl rfl ⟨⟨12, .data⟩, by simp, rfl, rfl⟩ (by simp)
                          have g22 := hh.got 22 _ 217 rfl rfl ⟨⟨22, .data⟩, by simp, rfl, rfl⟩ (by simp)
                          simp [shV] at g12 g22
                          go_simp
                          exact ⟨rfl, HI.out⟩
                        · simp only [List.getElem?_cons_zero, List.getElem?_cons_succ, Option.some.injEq] at ho
                          subst ho
                          have g9 := hh.got 9 _ 204 rfl rfl ⟨⟨9, .data⟩, by simp, rfl, rfl⟩ (by simp)
                          have g23 := hh.got 23 _ 218 rfl rfl ⟨⟨23, .data⟩, by simp, rfl, rfl⟩ (by simp)
                          simp [shV] at g9 g23
                          go_simp
                          exact ⟨rfl, HI.out⟩
                        · simp only [List.getElem?_cons_zero, List.getElem?_cons_succ, Option.some.injEq] at ho
                          subst ho
                          have g24 := hh.got 24 _ 219 rfl rfl ⟨⟨24, .data⟩, by simp, rfl, rfl⟩ (by simp)
                          simp [shV] at g24
                          go_simp
                          exact ⟨rfl, HI.out⟩
                        · simp only [List.getElem?_cons_zero, List.getElem?_cons_succ, Option.some.injEq] at ho
                          subst ho
                          go_simp
                          exact ⟨rfl, HI.out⟩
                        · simp only [List.getElem?_cons_zero, List.getElem?_cons_succ, Option.some.injEq] at ho
                          subst ho
                          go_simp
                          exact ⟨rfl, HI.out⟩
                        · simp only [List.getElem?_cons_zero, List.getElem?_cons_succ, Option.some.injEq] at ho
                          subst ho
                          have g26 := hh.got 26 _ 221 rfl rfl ⟨⟨26, .data⟩, by simp, rfl, rfl⟩ (by simp)
                          have g27 := hh.got 27 _ 222 rfl rfl ⟨⟨27, .data⟩, by simp, rfl, rfl⟩ (by simp)
                          simp [shV] at g26 g27
                          go_simp
                          go_at_call 16
                          refine (HKOO.out _ (HB2.out.trans (HI.out.mono HB2.out.size))).mono ?_
                          rintro e w6 ⟨rfl, hb6⟩
                          exact ⟨rfl, HI.out.trans (hb6.mono HI.out.size)⟩
                        · simp only [List.getElem?_cons_zero, List.getElem?_cons_succ, Option.some.injEq] at ho
                          subst ho
                          have g28 := hh.got 28 _ 223 rfl rfl ⟨⟨28, .data⟩, by simp, rfl, rfl⟩ (by simp)
                          simp [shV] at g28
                          go_simp
                          exact ⟨rfl, HI.out⟩
                        · simp only [List.getElem?_cons_zero, List.getElem?_cons_succ, Option.some.injEq] at ho
                          subst ho
                          go_simp
                          exact ⟨rfl, HI.out⟩
                        · simp only [List.getElem?_cons_zero, List.getElem?_cons_succ, Option.some.injEq] at ho
                          subst ho
                          go_simp
                          exact ⟨rfl, HI.out⟩
                        · simp only [List.getElem?_cons_zero, List.getElem?_cons_succ, Option.some.injEq] at ho
                          subst ho
                          have g30 := hh.got 30 _ 225 rfl rfl ⟨⟨30, .data⟩, by simp, rfl, rfl⟩ (by simp)
                          have g31 := hh.got 31 _ 226 rfl rfl ⟨⟨31, .data⟩, by simp, rfl, rfl⟩ (by simp)
                          simp [shV] at g30 g31
                          go_simp
                          exact ⟨rfl, HI.out⟩
                        · simp only [List.getElem?_cons_zero, List.getElem?_cons_succ, Option.some.injEq] at ho
                          subst ho
                          have g32 := hh.got 32 _ 227 rfl rfl ⟨⟨32, .data⟩, by simp, rfl, rfl⟩ (by simp)
                          simp [shV] at g32
                          go_simp
                          exact ⟨rfl, HI.out⟩
                        · simp only [List.getElem?_cons_zero, List.getElem?_cons_succ, Option.some.injEq] at ho
                          subst ho
                          go_simp
                          exact ⟨rfl, HI.out⟩
                        · simp only [List.getElem?_cons_zero, List.getElem?_cons_succ, Option.some.injEq] at ho
                          subst ho
                          go_simp
                          exact ⟨rfl, HI.out⟩
                        · simp only [List.getElem?_cons_zero, List.getElem?_cons_succ, Option.some.injEq] at ho
                          subst ho
                          have g34 := hh.got 34 _ 229 rfl rfl ⟨⟨34, .data⟩, by simp, rfl, rfl⟩ (by simp)
                          have g35 := hh.got 35 _ 230 rfl rfl ⟨⟨35, .data⟩, by simp, rfl, rfl⟩ (by simp)
                          simp [shV] at g34 g35
                          go_simp
                          exact ⟨rfl, HI.out⟩
                        · simp only [List.getElem?_cons_zero, List.getElem?_cons_succ, Option.some.injEq] at ho
                          subst ho
                          have g36 := hh.got 36 _ 231 rfl rfl ⟨⟨36, .data⟩, by simp, rfl, rfl⟩ (by simp)
                          simp [shV] at g36
                          go_simp
                          exact ⟨rfl, HI.out⟩
                        · simp only [List.getElem?_cons_zero, List.getElem?_cons_succ, Option.some.injEq] at ho
                          subst ho
                          have g33 := hh.got 33 _ 228 rfl rfl ⟨⟨33, .data⟩, by simp, rfl, rfl⟩ (by simp)
                          have g37 := hh.got 37 _ 232 rfl rfl ⟨⟨37, .data⟩, by simp, rfl, rfl⟩ (by simp)
                          simp [shV] at g33 g37
                          go_simp
                          exact ⟨rfl, HI.out⟩
                        · simp only [List.getElem?_cons_zero, List.getElem?_cons_succ, Option.some.injEq] at ho
                          subst ho
                          have g29 := hh.got 29 _ 224 rfl rfl ⟨⟨29, .data⟩, by simp, rfl, rfl⟩ (by simp)
                          have g38 := hh.got 38 _ 233 rfl rfl ⟨⟨38, .data⟩, by simp, rfl, rfl⟩ (by simp)
                          simp [shV] at g29 g38
                          go_simp
                          exact ⟨rfl, HI.out⟩
                        · simp only [List.getElem?_cons_zero, List.getElem?_cons_succ, Option.some.injEq] at ho
                          subst ho
                          have g25 := hh.got 25 _ 220 rfl rfl ⟨⟨25, .data⟩, by simp, rfl, rfl⟩ (by simp)
                          have g39 := hh.got 39 _ 234 rfl rfl ⟨⟨39, .data⟩, by simp, rfl, rfl⟩ (by simp)
                          simp [shV] at g25 g39
                          go_simp
                          exact ⟨rfl, HI.out⟩
                      case dn =>
                        intro W b' hI hb
                        simp only [puts, shV] at hb
                        subst hb
                        simp only [Act.put, List.setIfInBounds_toArray, List.set_cons_succ, List.set_cons_zero]
                        have HI := Lib.hid hI
                        clear hI
                        go_wp2
                        go_roundw
                        case rel => exact ⟨k + 1, hk', by go_num, by first | exact HB2.out.trans (HI.out.mono HB2.out.size) | exact below_drewN (HB2.out.trans (HI.out.mono HB2.out.size)) _ | exact (HB2.out.trans (HI.out.mono HB2.out.size)).drew⟩
                        case measure => simp [intOf]; omega
                  · obtain ⟨j, hjk⟩ : ∃ j, k = j + 1 := ⟨k - 1, by omega⟩
                    obtain ⟨b4, f4, e4', hb4, hc4⟩ := (HSK.out.below HB2.out).at (HLS.out j (by omega))
                    cases e4'
                    rw [Nat.zero_add] at hc4
                    obtain ⟨sj, hsj⟩ : ∃ sj, sj = shp t B r j := ⟨_, rfl⟩
                    have x2 : (sk < sj) = False := eq_false (Int.not_lt.2 (by rw [hsj, hsk, hjk]; exact shp_mono j))
                    rw [← hsj] at hc4
                    have g3 : (0 : Int) ≤ (j : Int) := Int.natCast_nonneg _
                    have g4 : (j : Int) < (n : Int) := by omega
                    have g6 : ((0 : Int) < (k : Int)) = True := by simp; omega
                    have g5 : (0 < k) = True := by simp; omega
                    have g2' : wrap64 ((k : Int) - 1) = (j : Int) := by rw [IntWalk.wrap64_in _ (by omega)]; omega
                    have g2'' : IntKind.i64.wrap ((k : Int) - 1) = (j : Int) := by rw [IntWalk.i64_left]; exact g2'
                    have G2 := Lib.hid g2'
                    have G3 := Lib.hid g2''
                    clear hjk hk00 hsj g2' g2''
                    cases ko
                    · have hk' : k + 1 ≤ n := hlt2
                      clear hlt2 hqk hsk
                      go_wp2
                      refine wp_region_reads (shV gs b1 f1 b3 f3 n c1 c3 k j tk sk qk sj B r true false) (shW true false) (shG true false) (Below wr.heap.size wr) (by kernel_rfl) (by kernel_rfl) (by kernel_rfl) (by kernel_rfl) (by simp [dstIn]) ?gv ?un (Below.refl _ _).drew ?stp ?dn
                      case gv =>
                        intro i hi
                        simp [isGd] at hi
                        have hi' : i = 9 ∨ i = 12 ∨ i = 25 ∨ i = 29 := by omega
                        rcases hi' with rfl | rfl | rfl | rfl <;> rfl
                      case un =>
                        intro i hi hw
                        have hc : i = 0 ∨ i = 1 ∨ i = 2 ∨ i = 3 ∨ i = 4 ∨ i = 5 ∨ i = 6 ∨ i = 7 ∨ i = 8 ∨ i = 9 ∨ i = 10 ∨ i = 11 ∨ i = 12 ∨ i = 13 ∨ i = 14 ∨ i = 15 ∨ i = 16 ∨ i = 17 ∨ i = 18 ∨ i = 19 ∨ i = 20 ∨ i = 21 ∨ i = 22 ∨ i = 23 ∨ i = 24 ∨ i = 25 ∨ i = 26 ∨ i = 27 ∨ i = 28 ∨ i = 29 ∨ i = 30 ∨ i = 31 ∨ i = 32 ∨ i = 33 ∨ i = 34 ∨ i = 35 ∨ i = 36 ∨ i = 37 ∨ i = 38 ∨ i = 39 ∨ i = 40 := by simp at hi; omega
                        rcases hc with rfl | rfl | rfl | rfl | rfl | rfl | rfl | rfl | rfl | rfl | rfl | rfl | rfl | rfl | rfl | rfl | rfl | rfl | rfl | rfl | rfl | rfl | rfl | rfl | rfl | rfl | rfl | rfl | rfl | rfl | rfl | rfl | rfl | rfl | rfl | rfl | rfl | rfl | rfl | rfl | rfl <;> first | rfl | (exact absurd hw (by simp [shW]))
                      case stp =>
                        as_aux_lemma =>
                        intro W i o b' ho hwt hI hh
                        have hi := (List.getElem?_eq_some_iff.1 ho).1
                        have hc : i = 0 ∨ i = 1 ∨ i = 2 ∨ i = 3 ∨ i = 4 ∨ i = 5 ∨ i = 6 ∨ i = 7 ∨ i = 8 ∨ i = 9 ∨ i = 10 ∨ i = 11 ∨ i = 12 ∨ i = 13 ∨ i = 14 ∨ i = 15 ∨ i = 16 ∨ i = 17 ∨ i = 18 ∨ i = 19 ∨ i = 20 ∨ i = 21 ∨ i = 22 ∨ i = 23 ∨ i = 24 ∨ i = 25 ∨ i = 26 ∨ i = 27 ∨ i = 28 ∨ i = 29 ∨ i = 30 ∨ i = 31 ∨ i = 32 ∨ i = 33 ∨ i = 34 ∨ i = 35 ∨ i = 36 ∨ i = 37 ∨ i = 38 ∨ i = 39 ∨ i = 40 := by simp at hi; omega
                        have d0 : W.cell? ⟨b1, f1 + k, none⟩ = some (.int .i64 tk) := ((bcell hI).1 _ _ hb1).trans hc1
                        have d1 : W.cell? ⟨gs, k, none⟩ = some (.int .i64 sk) := ((bcell hI).1 _ _ hb2).trans hc2
                        have d2 : W.cell? ⟨b3, f3 + k, none⟩ = some (.int .i64 qk) := ((bcell hI).1 _ _ hb3).trans hc3
                        have d3 : W.cell? ⟨gc, 0, none⟩ = some (.int .i64 B) := ((bcell hI).1 _ _ hlk).trans hg0
                        have d4 : W.cell? ⟨gc, 1, none⟩ = some (.int .i64 r) := ((bcell hI).1 _ _ hlk).trans hg1
                        have d5 : W.cell? ⟨gs, j, none⟩ = some (.int .i64 sj) := ((bcell hI).1 _ _ hb4).trans hc4
                        have HI := Lib.hid hI
                        clear hi hI
                        have k9 := hh.kept 9 (by simp)
                        simp at k9
                        have k10 := hh.kept 10 (by simp)
                        simp at k10
                        have k11 := hh.kept 11 (by simp)
                        simp at k11
                        have k13 := hh.kept 13 (by simp)
                        simp at k13
                        have k17 := hh.kept 17 (by simp)
                        simp at k17
                        rcases hc with rfl | rfl | rfl | rfl | rfl | rfl | rfl | rfl | rfl | rfl | rfl | rfl | rfl | rfl | rfl | rfl | rfl | rfl | rfl | rfl | rfl | rfl | rfl | rfl | rfl | rfl | rfl | rfl | rfl | rfl | rfl | rfl | rfl | rfl | rfl | rfl | rfl | rfl | rfl | rfl | rfl
                        · simp only [List.getElem?_cons_zero, Option.some.injEq] at ho
                          subst ho
                          go_simp
                          exact ⟨rfl, HI.out⟩
                        · simp only [List.getElem?_cons_zero, List.getElem?_cons_succ, Option.some.injEq] at ho
                          subst ho
                          go_simp
                          exact ⟨rfl, HI.out⟩
                        · simp only [List.getElem?_cons_zero, List.getElem?_cons_succ, Option.some.injEq] at ho
                          subst ho
                          have g0 := hh.got 0 _ 195 rfl rfl ⟨⟨0, .data⟩, by simp, rfl, rfl⟩ (by simp)
                          have g1 := hh.got 1 _ 196 rfl rfl ⟨⟨1, .data⟩, by simp, rfl, rfl⟩ (by simp)
                          simp [shV] at g0 g1
                          go_simp
                          exact ⟨rfl, HI.out⟩
                        · simp only [List.getElem?_cons_zero, List.getElem?_cons_succ, Option.some.injEq] at ho
                          subst ho
                          have g2 := hh.got 2 _ 197 rfl rfl ⟨⟨2, .data⟩, by simp, rfl, rfl⟩ (by simp)
                          simp [shV] at g2
                          go_simp
                          exact ⟨rfl, HI.out⟩
                        · simp only [List.getElem?_cons_zero, List.getElem?_cons_succ, Option.some.injEq] at ho
                          subst ho
                          go_simp
                          exact ⟨rfl, HI.out⟩
                        · simp only [List.getElem?_cons_zero, List.getElem?_cons_succ, Option.some.injEq] at ho
                          subst ho
                          go_simp
                          exact ⟨rfl, HI.out⟩
                        · simp only [List.getElem?_cons_zero, List.getElem?_cons_succ, Option.some.injEq] at ho
                          subst ho
                          have g4 := hh.got 4 _ 199 rfl rfl ⟨⟨4, .data⟩, by simp, rfl, rfl⟩ (by simp)
                          have g5 := hh.got 5 _ 200 rfl rfl ⟨⟨5, .data⟩, by simp, rfl, rfl⟩ (by simp)
                          simp [shV] at g4 g5
                          go_simp
                          exact ⟨rfl, HI.out⟩
                        · simp only [List.getElem?_cons_zero, List.getElem?_cons_succ, Option.some.injEq] at ho
                          subst ho
                          have g6 := hh.got 6 _ 201 rfl rfl ⟨⟨6, .data⟩, by simp, rfl, rfl⟩ (by simp)
                          simp [shV] at g6
                          go_simp
                          exact ⟨rfl, HI.out⟩
                        · simp only [List.getElem?_cons_zero, List.getElem?_cons_succ, Option.some.injEq] at ho
                          subst ho
                          have g3 := hh.got 3 _ 198 rfl rfl ⟨⟨3, .data⟩, by simp, rfl, rfl⟩ (by simp)
                          have g7 := hh.got 7 _ 202 rfl rfl ⟨⟨7, .data⟩, by simp, rfl, rfl⟩ (by simp)
                          simp [shV] at g3 g7
                          go_simp
                          exact ⟨rfl, HI.out⟩
                        · simp only [List.getElem?_cons_zero, List.getElem?_cons_succ, Option.some.injEq] at ho
                          subst ho
                          have g8 := hh.got 8 _ 203 rfl rfl ⟨⟨8, .data⟩, by simp, rfl, rfl⟩ (by simp)
                          simp [shV] at g8
                          go_simp
                          exact ⟨rfl, HI.out⟩
                        · simp only [List.getElem?_cons_zero, List.getElem?_cons_succ, Option.some.injEq] at ho
                          subst ho
                          go_simp
                          exact ⟨rfl, HI.out⟩
                        · simp only [List.getElem?_cons_zero, List.getElem?_cons_succ, Option.some.injEq] at ho
                          subst ho
                          have g10 := hh.got 10 _ 205 rfl rfl ⟨⟨10, .data⟩, by simp, rfl, rfl⟩ (by simp)
                          simp [shV] at g10
                          go_simp
                          refine ⟨?_, HI.out⟩
                          simp [shV]
                        · simp only [List.getElem?_cons_zero, List.getElem?_cons_succ, Option.some.injEq] at ho
                          subst ho
                          have g11 := hh.got 11 _ 206 rfl rfl ⟨⟨11, .data⟩, by simp, rfl, rfl⟩ (by simp)
                          simp [shV] at g11
                          go_simp
                          exact ⟨rfl, HI.out⟩
                        · simp only [List.getElem?_cons_zero, List.getElem?_cons_succ, Option.some.injEq] at ho
                          subst ho
                          go_simp
                          exact ⟨rfl, HI.out⟩
                        · simp only [List.getElem?_cons_zero, List.getElem?_cons_succ, Option.some.injEq] at ho
                          subst ho
                          go_simp
                          exact ⟨rfl, HI.out⟩
                        · simp only [List.getElem?_cons_zero, List.getElem?_cons_succ, Option.some.injEq] at ho
                          subst ho
                          have g13 := hh.got 13 _ 208 rfl rfl ⟨⟨13, .data⟩, by simp, rfl, rfl⟩ (by simp)
                          have g14 := hh.got 14 _ 209 rfl rfl ⟨⟨14, .data⟩, by simp, rfl, rfl⟩ (by simp)
                          simp [shV] at g13 g14
                          go_simp
                          exact ⟨rfl, HI.out⟩
                        · simp only [List.getElem?_cons_zero, List.getElem?_cons_succ, Option.some.injEq] at ho
                          subst ho
                          have g15 := hh.got 15 _ 210 rfl rfl ⟨⟨15, .data⟩, by simp, rfl, rfl⟩ (by simp)
                          simp [shV] at g15
                          go_simp
                          exact ⟨rfl, HI.out⟩
                        · simp only [List.getElem?_cons_zero, List.getElem?_cons_succ, Option.some.injEq] at ho
                          subst ho
                          go_simp
                          exact ⟨rfl, HI.out⟩
                        · simp only [List.getElem?_cons_zero, List.getElem?_cons_succ, Option.some.injEq] at ho
                          subst ho
                          go_simp
                          exact ⟨rfl, HI.out⟩
                        · simp only [List.getElem?_cons_zero, List.getElem?_cons_succ, Option.some.injEq] at ho
                          subst ho
                          have g18 := hh.got 18 _ 213 rfl rfl ⟨⟨18, .data⟩, by simp, rfl, rfl⟩ (by simp)
                          simp [shV] at g18
                          have g2' := G2.out
                          have g2'' := G3.out
                          go_simp
                          exact ⟨rfl, HI.out⟩
                        · simp only [List.getElem?_cons_zero, List.getElem?_cons_succ, Option.some.injEq] at ho
                          subst ho
                          have g17 := hh.got 17 _ 212 rfl rfl ⟨⟨17, .data⟩, by simp, rfl, rfl⟩ (by simp)
                          have g19 := hh.got 19 _ 214 rfl rfl ⟨⟨19, .data⟩, by simp, rfl, rfl⟩ (by simp)
                          simp [shV] at g17 g19
                          go_simp
                          exact ⟨rfl, HI.out⟩
                        · simp only [List.getElem?_cons_zero, List.getElem?_cons_succ, Option.some.injEq] at ho
                          subst ho
                          have g20 := hh.got 20 _ 215 rfl rfl ⟨⟨20, .data⟩, by simp, rfl, rfl⟩ (by simp)
                          simp [shV] at g20
                          go_simp
                          exact ⟨rfl, HI.out⟩
                        · simp only [List.getElem?_cons_zero, List.getElem?_cons_succ, Option.some.injEq] at ho
                          subst ho
                          have g16 := hh.got 16 _ 211 rfl rfl ⟨⟨16, .data⟩, by simp, rfl, rfl⟩ (by simp)
                          have g21 := hh.got 21 _ 216 rfl rfl ⟨⟨21, .data⟩, by simp, rfl, rfl⟩ (by simp)
                          simp [shV] at g16 g21
                          go_simp
                          exact ⟨rfl, HI.out⟩
                        · simp only [List.getElem?_cons_zero, List.getElem?_cons_succ, Option.some.injEq] at ho
                          subst ho
                          have g12 := hh.got 12 _ 207 rfl rfl ⟨⟨12, .data⟩, by simp, rfl, rfl⟩ (by simp)
                          have g22 := hh.got 22 _ 217 rfl rfl ⟨⟨22, .data⟩, by simp, rfl, rfl⟩ (by simp)
                          simp [shV] at g12 g22
                          go_simp
                          exact ⟨rfl, HI.out⟩
                        · simp only [List.getElem?_cons_zero, List.getElem?_cons_succ, Option.some.injEq] at ho
                          subst ho
                          have g9 := hh.got 9 _ 204 rfl rfl ⟨⟨9, .data⟩, by simp, rfl, rfl⟩ (by simp)
                          have g23 := hh.got 23 _ 218 rfl rfl ⟨⟨23, .data⟩, by simp, rfl, rfl⟩ (by simp)
                          simp [shV] at g9 g23
                          go_simp
                          exact ⟨rfl, HI.out⟩
                        · simp only [List.getElem?_cons_zero, List.getElem?_cons_succ, Option.some.injEq] at ho
                          subst ho
                          have g24 := hh.got 24 _ 219 rfl rfl ⟨⟨24, .data⟩, by simp, rfl, rfl⟩ (by simp)
                          simp [shV] at g24
                          go_simp
                          exact ⟨rfl, HI.out⟩
                        · simp only [List.getElem?_cons_zero, List.getElem?_cons_succ, Option.some.injEq] at ho
                          subst ho
                          go_simp
                          exact ⟨rfl, HI.out⟩
                        · simp only [List.getElem?_cons_zero, List.getElem?_cons_succ, Option.some.injEq] at ho
                          subst ho
                          go_simp
                          exact ⟨rfl, HI.out⟩
                        · simp only [List.getElem?_cons_zero, List.getElem?_cons_succ, Option.some.injEq] at ho
                          subst ho
                          have g26 := hh.got 26 _ 221 rfl rfl ⟨⟨26, .data⟩, by simp, rfl, rfl⟩ (by simp)
                          have g27 := hh.got 27 _ 222 rfl rfl ⟨⟨27, .data⟩, by simp, rfl, rfl⟩ (by simp)
                          simp [shV] at g26 g27
                          go_simp
                          go_at_call 16
                          refine (HKOO.out _ (HB2.out.trans (HI.out.mono HB2.out.size))).mono ?_
                          rintro e w6 ⟨rfl, hb6⟩
                          exact ⟨rfl, HI.out.trans (hb6.mono HI.out.size)⟩
                        · simp only [List.getElem?_cons_zero, List.getElem?_cons_succ, Option.some.injEq] at ho
                          subst ho
                          have g28 := hh.got 28 _ 223 rfl rfl ⟨⟨28, .data⟩, by simp, rfl, rfl⟩ (by simp)
                          simp [shV] at g28
                          go_simp
                          exact ⟨rfl, HI.out⟩
                        · exact absurd hwt (by simp [shW])
                        · exact absurd hwt (by simp [shW])
                        · exact absurd hwt (by simp [shW])
                        · exact absurd hwt (by simp [shW])
                        · exact absurd hwt (by simp [shW])
                        · exact absurd hwt (by simp [shW])
                        · exact absurd hwt (by simp [shW])
                        · exact absurd hwt (by simp [shW])
                        · exact absurd hwt (by simp [shW])
                        · simp only [List.getElem?_cons_zero, List.getElem?_cons_succ, Option.some.injEq] at ho
                          subst ho
                          have g29 := hh.got 29 _ 224 rfl rfl ⟨⟨29, .data⟩, by simp, rfl, rfl⟩ (by simp)
                          have g38 := hh.got 38 _ 233 rfl rfl ⟨⟨38, .data⟩, by simp, rfl, rfl⟩ (by simp)
                          simp [shV] at g29 g38
                          go_simp
                          exact ⟨rfl, HI.out⟩
                        · simp only [List.getElem?_cons_zero, List.getElem?_cons_succ, Option.some.injEq] at ho
                          subst ho
                          have g25 := hh.got 25 _ 220 rfl rfl ⟨⟨25, .data⟩, by simp, rfl, rfl⟩ (by simp)
                          have g39 := hh.got 39 _ 234 rfl rfl ⟨⟨39, .data⟩, by simp, rfl, rfl⟩ (by simp)
                          simp [shV] at g25 g39
                          go_simp
                          exact ⟨rfl, HI.out⟩
                      case dn =>
                        intro W b' hI hb
                        simp only [puts, shV] at hb
                        subst hb
                        simp only [Act.put, List.setIfInBounds_toArray, List.set_cons_succ, List.set_cons_zero]
                        have HI := Lib.hid hI
                        clear hI
                        go_wp2
                        go_roundw
                        case rel => exact ⟨k + 1, hk', by go_num, by first | exact HB2.out.trans (HI.out.mono HB2.out.size) | exact below_drewN (HB2.out.trans (HI.out.mono HB2.out.size)) _ | exact (HB2.out.trans (HI.out.mono HB2.out.size)).drew⟩
                        case measure => simp [intOf]; omega
                    · have hk' : k + 1 ≤ n := hlt2
                      have x3 : (qk < sk) = False := eq_false (Int.not_lt.2 (by rw [hqk, hsk]; exact HKV.out rfl k hlt2))
                      clear hlt2 hqk hsk
                      go_wp2
                      refine wp_region_reads (shV gs b1 f1 b3 f3 n c1 c3 k j tk sk qk sj B r true true) (shW true true) (shG true true) (Below wr.heap.size wr) (by kernel_rfl) (by kernel_rfl) (by kernel_rfl) (by kernel_rfl) (by simp [dstIn]) ?gv ?un (Below.refl _ _).drew ?stp ?dn
                      case gv =>
                        intro i hi
                        simp [isGd] at hi
                        have hi' : i = 9 ∨ i = 12 ∨ i = 25 ∨ i = 29 := by omega
                        rcases hi' with rfl | rfl | rfl | rfl <;> rfl
                      case un =>
                        intro i hi hw
                        have hc : i = 0 ∨ i = 1 ∨ i = 2 ∨ i = 3 ∨ i = 4 ∨ i = 5 ∨ i = 6 ∨ i = 7 ∨ i = 8 ∨ i = 9 ∨ i = 10 ∨ i = 11 ∨ i = 12 ∨ i = 13 ∨ i = 14 ∨ i = 15 ∨ i = 16 ∨ i = 17 ∨ i = 18 ∨ i = 19 ∨ i = 20 ∨ i = 21 ∨ i = 22 ∨ i = 23 ∨ i = 24 ∨ i = 25 ∨ i = 26 ∨ i = 27 ∨ i = 28 ∨ i = 29 ∨ i = 30 ∨ i = 31 ∨ i = 32 ∨ i = 33 ∨ i = 34 ∨ i = 35 ∨ i = 36 ∨ i = 37 ∨ i = 38 ∨ i = 39 ∨ i = 40 := by simp at hi; omega
                        rcases hc with rfl | rfl | rfl | rfl | rfl | rfl | rfl | rfl | rfl | rfl | rfl | rfl | rfl | rfl | rfl | rfl | rfl | rfl | rfl | rfl | rfl | rfl | rfl | rfl | rfl | rfl | rfl | rfl | rfl | rfl | rfl | rfl | rfl | rfl | rfl | rfl | rfl | rfl | rfl | rfl | rfl <;> first | rfl | (exact absurd hw (by simp [shW]))
                      case stp =>
                        as_aux_lemma =>
                        intro W i o b' ho hwt hI hh
                        have hi := (List.getElem?_eq_some_iff.1 ho).1
                        have hc : i = 0 ∨ i = 1 ∨ i = 2 ∨ i = 3 ∨ i = 4 ∨ i = 5 ∨ i = 6 ∨ i = 7 ∨ i = 8 ∨ i = 9 ∨ i = 10 ∨ i = 11 ∨ i = 12 ∨ i = 13 ∨ i = 14 ∨ i = 15 ∨ i = 16 ∨ i = 17 ∨ i = 18 ∨ i = 19 ∨ i = 20 ∨ i = 21 ∨ i = 22 ∨ i = 23 ∨ i = 24 ∨ i = 25 ∨ i = 26 ∨ i = 27 ∨ i = 28 ∨ i = 29 ∨ i = 30 ∨ i = 31 ∨ i = 32 ∨ i = 33 ∨ i = 34 ∨ i = 35 ∨ i = 36 ∨ i = 37 ∨ i = 38 ∨ i = 39 ∨ i = 40 := by simp at hi; omega
                        have d0 : W.cell? ⟨b1, f1 + k, none⟩ = some (.int .i64 tk) := ((bcell hI).1 _ _ hb1).trans hc1
                        have d1 : W.cell? ⟨gs, k, none⟩ = some (.int .i64 sk) := ((bcell hI).1 _ _ hb2).trans hc2
                        have d2 : W.cell? ⟨b3, f3 + k, none⟩ = some (.int .i64 qk) := ((bcell hI).1 _ _ hb3).trans hc3
                        have d3 : W.cell? ⟨gc, 0, none⟩ = some (.int .i64 B) := ((bcell hI).1 _ _ hlk).trans hg0
                        have d4 : W.cell? ⟨gc, 1, none⟩ = some (.int .i64 r) := ((bcell hI).1 _ _ hlk).trans hg1
                        have d5 : W.cell? ⟨gs, j, none⟩ = some (.int .i64 sj) := ((bcell hI).1 _ _ hb4).trans hc4
                        have HI := Lib.hid hI
                        clear hi hI
                        have k9 := hh.kept 9 (by simp)
                        simp at k9
                        have k10 := hh.kept 10 (by simp)
                        simp at k10
                        have k11 := hh.kept 11 (by simp)
                        simp at k11
                        have k13 := hh.kept 13 (by simp)
                        simp at k13
                        have k17 := hh.kept 17 (by simp)
                        simp at k17
                        rcases hc with rfl | rfl | rfl | rfl | rfl | rfl | rfl | rfl | rfl | rfl | rfl | rfl | rfl | rfl | rfl | rfl | rfl | rfl | rfl | rfl | rfl | rfl | rfl | rfl | rfl | rfl | rfl | rfl | rfl | rfl | rfl | rfl | rfl | rfl | rfl | rfl | rfl | rfl | rfl | rfl | rfl
                        · simp only [List.getElem?_cons_zero, Option.some.injEq] at ho
                          subst ho
                          go_simp
                          exact ⟨rfl, HI.out⟩
                        · simp only [List.getElem?_cons_zero, List.getElem?_cons_succ, Option.some.injEq] at ho
                          subst ho
                          go_simp
                          exact ⟨rfl, HI.out⟩
                        · simp only [List.getElem?_cons_zero, List.getElem?_cons_succ, Option.some.injEq] at ho
                          subst ho
                          have g0 := hh.got 0 _ 195 rfl rfl ⟨⟨0, .data⟩, by simp, rfl, rfl⟩ (by simp)
                          have g1 := hh.got 1 _ 196 rfl rfl ⟨⟨1, .data⟩, by simp, rfl, rfl⟩ (by simp)
                          simp [shV] at g0 g1
                          go_simp
                          exact ⟨rfl, HI.out⟩
                        · simp only [List.getElem?_cons_zero, List.getElem?_cons_succ, Option.some.injEq] at ho
                          subst ho
                          have g2 := hh.got 2 _ 197 rfl rfl ⟨⟨2, .data⟩, by simp, rfl, rfl⟩ (by simp)
                          simp [shV] at g2
                          go_simp
                          exact ⟨rfl, HI.out⟩
                        · simp only [List.getElem?_cons_zero, List.getElem?_cons_succ, Option.some.injEq] at ho
                          subst ho
                          go_simp
                          exact ⟨rfl, HI.out⟩
                        · simp only [List.getElem?_cons_zero, List.getElem?_cons_succ, Option.some.injEq] at ho
                          subst ho
                          go_simp
                          exact ⟨rfl, HI.out⟩
                        · simp only [List.getElem?_cons_zero, List.getElem?_cons_succ, Option.some.injEq] at ho
                          subst ho
                          have g4 := hh.got 4 _ 199 rfl rfl ⟨⟨4, .data⟩, by simp, rfl, rfl⟩ (by simp)
                          have g5 := hh.got 5 _ 200 rfl rfl ⟨⟨5, .data⟩, by simp, rfl, rfl⟩ (by simp)
                          simp [shV] at g4 g5
                          go_simp
                          exact ⟨rfl, HI.out⟩
                        · simp only [List.getElem?_cons_zero, List.getElem?_cons_succ, Option.some.injEq] at ho
                          subst ho
                          have g6 := hh.got 6 _ 201 rfl rfl ⟨⟨6, .data⟩, by simp, rfl, rfl⟩ (by simp)
                          simp [shV] at g6
                          go_simp
                          exact ⟨rfl, HI.out⟩
                        · simp only [List.getElem?_cons_zero, List.getElem?_cons_succ, Option.some.injEq] at ho
                          subst ho
                          have g3 := hh.got 3 _ 198 rfl rfl ⟨⟨3, .data⟩, by simp, rfl, rfl⟩ (by simp)
                          have g7 := hh.got 7 _ 202 rfl rfl ⟨⟨7, .data⟩, by simp, rfl, rfl⟩ (by simp)
                          simp [shV] at g3 g7
                          go_simp
                          exact ⟨rfl, HI.out⟩
                        · simp only [List.getElem?_cons_zero, List.getElem?_cons_succ, Option.some.injEq] at ho
                          subst ho
                          have g8 := hh.got 8 _ 203 rfl rfl ⟨⟨8, .data⟩, by simp, rfl, rfl⟩ (by simp)
                          simp [shV] at g8
                          go_simp
                          exact ⟨rfl, HI.out⟩
                        · simp only [List.getElem?_cons_zero, List.getElem?_cons_succ, Option.some.injEq] at ho
                          subst ho
                          go_simp
                          exact ⟨rfl, HI.out⟩
                        · simp only [List.getElem?_cons_zero, List.getElem?_cons_succ, Option.some.injEq] at ho
                          subst ho
                          have g10 := hh.got 10 _ 205 rfl rfl ⟨⟨10, .data⟩, by simp, rfl, rfl⟩ (by simp)
                          simp [shV] at g10
                          go_simp
                          refine ⟨?_, HI.out⟩
                          simp [shV]
                        · simp only [List.getElem?_cons_zero, List.getElem?_cons_succ, Option.some.injEq] at ho
                          subst ho
                          have g11 := hh.got 11 _ 206 rfl rfl ⟨⟨11, .data⟩, by simp, rfl, rfl⟩ (by simp)
                          simp [shV] at g11
                          go_simp
                          exact ⟨rfl, HI.out⟩
                        · simp only [List.getElem?_cons_zero, List.getElem?_cons_succ, Option.some.injEq] at ho
                          subst ho
                          go_simp
                          exact ⟨rfl, HI.out⟩
                        · simp only [List.getElem?_cons_zero, List.getElem?_cons_succ, Option.some.injEq] at ho
                          subst ho
                          go_simp
                          exact ⟨rfl, HI.out⟩
                        · simp only [List.getElem?_cons_zero, List.getElem?_cons_succ, Option.some.injEq] at ho
                          subst ho
                          have g13 := hh.got 13 _ 208 rfl rfl ⟨⟨13, .data⟩, by simp, rfl, rfl⟩ (by simp)
                          have g14 := hh.got 14 _ 209 rfl rfl ⟨⟨14, .data⟩, by simp, rfl, rfl⟩ (by simp)
                          simp [shV] at g13 g14
                          go_simp
                          exact ⟨rfl, HI.out⟩
                        · simp only [List.getElem?_cons_zero, List.getElem?_cons_succ, Option.some.injEq] at ho
                          subst ho
                          have g15 := hh.got 15 _ 210 rfl rfl ⟨⟨15, .data⟩, by simp, rfl, rfl⟩ (by simp)
                          simp [shV] at g15
                          go_simp
                          exact ⟨rfl, HI.out⟩
                        · simp only [List.getElem?_cons_zero, List.getElem?_cons_succ, Option.some.injEq] at ho
                          subst ho
                          go_simp
                          exact ⟨rfl, HI.out⟩
                        · simp only [List.getElem?_cons_zero, List.getElem?_cons_succ, Option.some.injEq] at ho
                          subst ho
                          go_simp
                          exact ⟨rfl, HI.out⟩
                        · simp only [List.getElem?_cons_zero, List.getElem?_cons_succ, Option.some.injEq] at ho
                          subst ho
                          have g18 := hh.got 18 _ 213 rfl rfl ⟨⟨18, .data⟩, by simp, rfl, rfl⟩ (by simp)
                          simp [shV] at g18
                          have g2' := G2.out
                          have g2'' := G3.out
                          go_simp
                          exact ⟨rfl, HI.out⟩
                        · simp only [List.getElem?_cons_zero, List.getElem?_cons_succ, Option.some.injEq] at ho
                          subst ho
                          have g17 := hh.got 17 _ 212 rfl rfl ⟨⟨17, .data⟩, by simp, rfl, rfl⟩ (by simp)
                          have g19 := hh.got 19 _ 214 rfl rfl ⟨⟨19, .data⟩, by simp, rfl, rfl⟩ (by simp)
                          simp [shV] at g17 g19
                          go_simp
                          exact ⟨rfl, HI.out⟩
                        · simp only [List.getElem?_cons_zero, List.getElem?_cons_succ, Option.some.injEq] at ho
                          subst ho
                          have g20 := hh.got 20 _ 215 rfl rfl ⟨⟨20, .data⟩, by simp, rfl, rfl⟩ (by simp)
                          simp [shV] at g20
                          go_simp
                          exact ⟨rfl, HI.out⟩
                        · simp only [List.getElem?_cons_zero, List.getElem?_cons_succ, Option.some.injEq] at ho
                          subst ho
                          have g16 := hh.got 16 _ 211 rfl rfl ⟨⟨16, .data⟩, by simp, rfl, rfl⟩ (by simp)
                          have g21 := hh.got 21 _ 216 rfl rfl ⟨⟨21, .data⟩, by simp, rfl, rfl⟩ (by simp)
                          simp [shV] at g16 g21
                          go_simp
                          exact ⟨rfl, HI.out⟩
                        · simp only [List.getElem?_cons_zero, List.getElem?_cons_succ, Option.some.injEq] at ho
                          subst ho
                          have g12 := hh.got 12 _ 207 rfl rfl ⟨⟨12, .data⟩, by simp, rfl, rfl⟩ (by simp)
                          have g22 := hh.got 22 _ 217 rfl rfl ⟨⟨22, .data⟩, by simp, rfl, rfl⟩ (by simp)
                          simp [shV] at g12 g22
                          go_simp
                          exact ⟨rfl, HI.out⟩
                        · simp only [List.getElem?_cons_zero, List.getElem?_cons_succ, Option.some.injEq] at ho
                          subst ho
                          have g9 := hh.got 9 _ 204 rfl rfl ⟨⟨9, .data⟩, by simp, rfl, rfl⟩ (by simp)
                          have g23 := hh.got 23 _ 218 rfl rfl ⟨⟨23, .data⟩, by simp, rfl, rfl⟩ (by simp)
                          simp [shV] at g9 g23
                          go_simp
                          exact ⟨rfl, HI.out⟩
                        · simp only [List.getElem?_cons_zero, List.getElem?_cons_succ, Option.some.injEq] at ho
                          subst ho
                          have g24 := hh.got 24 _ 219 rfl rfl ⟨⟨24, .data⟩, by simp, rfl, rfl⟩ (by simp)
                          simp [shV] at g24
                          go_simp
                          exact ⟨rfl, HI.out⟩
                        · simp only [List.getElem?_cons_zero, List.getElem?_cons_succ, Option.some.injEq] at ho
                          subst ho
                          go_simp
                          exact ⟨rfl, HI.out⟩
                        · simp only [List.getElem?_cons_zero, List.getElem?_cons_succ, Option.some.injEq] at ho
                          subst ho
                          go_simp
                          exact ⟨rfl, HI.out⟩
                        · simp only [List.getElem?_cons_zero, List.getElem?_cons_succ, Option.some.injEq] at ho
                          subst ho
                          have g26 := hh.got 26 _ 221 rfl rfl ⟨⟨26, .data⟩, by simp, rfl, rfl⟩ (by simp)
                          have g27 := hh.got 27 _ 222 rfl rfl ⟨⟨27, .data⟩, by simp, rfl, rfl⟩ (by simp)
                          simp [shV] at g26 g27
                          go_simp
                          go_at_call 16
                          refine (HKOO.out _ (HB2.out.trans (HI.out.mono HB2.out.size))).mono ?_
                          rintro e w6 ⟨rfl, hb6⟩
                          exact ⟨rfl, HI.out.trans (hb6.mono HI.out.size)⟩
                        · simp only [List.getElem?_cons_zero, List.getElem?_cons_succ, Option.some.injEq] at ho
                          subst ho
                          have g28 := hh.got 28 _ 223 rfl rfl ⟨⟨28, .data⟩, by simp, rfl, rfl⟩ (by simp)
                          simp [shV] at g28
                          go_simp
                          exact ⟨rfl, HI.out⟩
                        · simp only [List.getElem?_cons_zero, List.getElem?_cons_succ, Option.some.injEq] at ho
                          subst ho
                          go_simp
                          exact ⟨rfl, HI.out⟩
                        · simp only [List.getElem?_cons_zero, List.getElem?_cons_succ, Option.some.injEq] at ho
                          subst ho
                          go_simp
                          exact ⟨rfl, HI.out⟩
                        · simp only [List.getElem?_cons_zero, List.getElem?_cons_succ, Option.some.injEq] at ho
                          subst ho
                          have g30 := hh.got 30 _ 225 rfl rfl ⟨⟨30, .data⟩, by simp, rfl, rfl⟩ (by simp)
                          have g31 := hh.got 31 _ 226 rfl rfl ⟨⟨31, .data⟩, by simp, rfl, rfl⟩ (by simp)
                          simp [shV] at g30 g31
                          go_simp
                          exact ⟨rfl, HI.out⟩
                        · simp only [List.getElem?_cons_zero, List.getElem?_cons_succ, Option.some.injEq] at ho
                          subst ho
                          have g32 := hh.got 32 _ 227 rfl rfl ⟨⟨32, .data⟩, by simp, rfl, rfl⟩ (by simp)
                          simp [shV] at g32
                          go_simp
                          exact ⟨rfl, HI.out⟩
                        · simp only [List.getElem?_cons_zero, List.getElem?_cons_succ, Option.some.injEq] at ho
                          subst ho
                          go_simp
                          exact ⟨rfl, HI.out⟩
                        · simp only [List.getElem?_cons_zero, List.getElem?_cons_succ, Option.some.injEq] at ho
                          subst ho
                          go_simp
                          exact ⟨rfl, HI.out⟩
                        · simp only [List.getElem?_cons_zero, List.getElem?_cons_succ, Option.some.injEq] at ho
                          subst ho
                          have g34 := hh.got 34 _ 229 rfl rfl ⟨⟨34, .data⟩, by simp, rfl, rfl⟩ (by simp)
                          have g35 := hh.got 35 _ 230 rfl rfl ⟨⟨35, .data⟩, by simp, rfl, rfl⟩ (by simp)
                          simp [shV] at g34 g35
                          go_simp
                          exact ⟨rfl, HI.out⟩
                        · simp only [List.getElem?_cons_zero, List.getElem?_cons_succ, Option.some.injEq] at ho
                          subst ho
                          have g36 := hh.got 36 _ 231 rfl rfl ⟨⟨36, .data⟩, by simp, rfl, rfl⟩ (by simp)
                          simp [shV] at g36
                          go_simp
                          exact ⟨rfl, HI.out⟩
                        · simp only [List.getElem?_cons_zero, List.getElem?_cons_succ, Option.some.injEq] at ho
                          subst ho
                          have g33 := hh.got 33 _ 228 rfl rfl ⟨⟨33, .data⟩, by simp, rfl, rfl⟩ (by simp)
                          have g37 := hh.got 37 _ 232 rfl rfl ⟨⟨37, .data⟩, by simp, rfl, rfl⟩ (by simp)
                          simp [shV] at g33 g37
                          go_simp
                          exact ⟨rfl, HI.out⟩
                        · simp only [List.getElem?_cons_zero, List.getElem?_cons_succ, Option.some.injEq] at ho
                          subst ho
                          have g29 := hh.got 29 _ 224 rfl rfl ⟨⟨29, .data⟩, by simp, rfl, rfl⟩ (by simp)
                          have g38 := hh.got 38 _ 233 rfl rfl ⟨⟨38, .data⟩, by simp, rfl, rfl⟩ (by simp)
                          simp [shV] at g29 g38
                          go_simp
                          exact ⟨rfl, HI.out⟩
                        · simp only [List.getElem?_cons_zero, List.getElem?_cons_succ, Option.some.injEq] at ho
                          subst ho
                          have g25 := hh.got 25 _ 220 rfl rfl ⟨⟨25, .data⟩, by simp, rfl, rfl⟩ (by simp)
                          have g39 := hh.got 39 _ 234 rfl rfl ⟨⟨39, .data⟩, by simp, rfl, rfl⟩ (by simp)
                          simp [shV] at g25 g39
                          go_simp
                          exact ⟨rfl, HI.out⟩
                      case dn =>
                        intro W b' hI hb
                        simp only [puts, shV] at hb
                        subst hb
                        simp only [Act.put, List.setIfInBounds_toArray, List.set_cons_succ, List.set_cons_zero]
                        have HI := Lib.hid hI
                        clear hI
                        go_wp2
                        go_roundw
                        case rel => exact ⟨k + 1, hk', by go_num, by first | exact HB2.out.trans (HI.out.mono HB2.out.size) | exact below_drewN (HB2.out.trans (HI.out.mono HB2.out.size)) _ | exact (HB2.out.trans (HI.out.mono HB2.out.size)).drew⟩
                        case measure => simp [intOf]; omega
                · obtain rfl : n = k := by omega
                  go_wp2_with (go_at_call 6; refine (Lf.works_any _).mono ?_; rintro e w9 ⟨rfl, hb9⟩)
                  go_ret
                  exact ⟨rfl, (HBW.out.trans (HB2.out.mono HBW.out.size)).trans (hb9.mono (HBW.out.trans (HB2.out.mono HBW.out.size)).size)⟩

set_option maxRecDepth 100000 in
theorem lifted (os : Os) (started : os.Started) (H : Type) (enc : TypeId × Value → H) :
    ReturnsInHanded {} Try.checked os 5 .any (Rows.calcShapesSpec.pre6 enc Try.prog Try.f5 Rows.calcShapesRow.domain false) (Rows.calcShapesSpec.post enc Try.prog Try.f5 false true false false) := by
  refine returnsInHanded_of_change (C := Try.checked) Lf.own started (by kernel_rfl) Try.func5
    (ChangeSpec.witness6 (enc := enc) (C := Try.checked) false ⟨#[], #[.slice none 0 0, .int .u16 0, .int .u16 0, .slice none 0 0], []⟩ 8 (by kernel_rfl) (by kernel_rfl) (by kernel_rfl) (by kernel_rfl)) ?_
  intro W base args ds gs before hval0 hW hcnd hsz
  have hval : ∀ (j : Nat) t v, Try.f5.params[j]? = some t → args[j]? = some v → Value.okWide Try.prog W .any base t v := hval0
  have hW' := hW
  obtain ⟨p, q, hA0, hV, rfl, hfz, hnd⟩ := hW
  have hA : DataW.TrodAll enc Try.prog W 0 (fun _ => true) true Try.f5.params.toList args.toList ds p := hA0
  rw [Try.params5] at hA hval
  have hAll := hA
  obtain ⟨v0, vs0, d0, ds0, p0, q0, hargs, rfl, rfl, h0, r0⟩ := trodAll_cons hA
  obtain ⟨v1, vs1, d1, ds1, p1, q1, rfl, rfl, rfl, h1, r1⟩ := trodAll_cons r0
  obtain ⟨v2, vs2, d2, ds2, p2, q2, rfl, rfl, rfl, h2, r2⟩ := trodAll_cons r1
  obtain ⟨v3, vs3, d3, ds3, p3, q3, rfl, rfl, rfl, h3, r3⟩ := trodAll_cons r2
  obtain ⟨rfl, rfl, rfl⟩ := trodAll_nil r3
  obtain rfl : args = #[v0, v1, v2, v3] := by cases args; simp_all
  obtain ⟨rfl, rfl⟩ := trodVars_none hV
  obtain ⟨sa0, sc0, zs0, rfl, hi0, hw0⟩ := open_slice_k Try.underlying40 Try.underlying5 (by kernel_rfl) (hval 0 40 v0 rfl rfl) h0
  obtain ⟨a1, rfl, rfl, rfl, w1⟩ := open_int Try.underlying41 (hval 1 41 v1 rfl rfl) h1
  obtain ⟨a2, rfl, rfl, rfl, w2⟩ := open_int Try.underlying41 (hval 2 41 v2 rfl rfl) h2
  obtain ⟨sa3, sc3, zs3, rfl, hi3, hw3⟩ := open_slice_k Try.underlying40 Try.underlying5 (by kernel_rfl) (hval 3 40 v3 rfl rfl) h3
  clear hA0 hval0
  refine (walk zs0 sa0 sc0 hw0 a1 w1 a2 w2 zs3 sa3 sc3 hw3 W hi0 hi3).mono fun e W' ⟨he, bel⟩ => ?_
  subst he
  have hback := Lf.trodAll_below bel [40, 41, 41, 40] (by intro t ht; simp at ht; rcases ht with rfl | rfl | rfl | rfl <;> exact ⟨by kernel_rfl, of_decide_eq_true (by kernel_rfl)⟩) hAll
  exact ⟨_, rfl, _, _, _, [], _, [], hW', trodAll_mk1 (shut_bool Try.underlying4 _), hback, rfl, bel.frame _, fun h => by cases h⟩

theorem over : Rows.calcShapesRow.holds Try.pinned (OpenSpec.ofChange Rows.calcShapesSpec) :=
  OpenClaim.holds_of_wide 5 Try.f5 rfl rfl rfl rfl rfl rfl rfl ⟨rfl, rfl, rfl, rfl, rfl⟩ rfl rfl rfl rfl rfl (by kernel_rfl) Try.func5 (by kernel_rfl)
    (of_decide_eq_true (by kernel_rfl)) (by unfold Func.isWrapper; first | (rw [if_pos (by decide +kernel)]; kernel_rfl) | (rw [if_neg (by decide +kernel)]; exact ⟨rfl, rfl⟩))
    (fun os started H enc _ => lifted os started H enc)

theorem proved : Rows.CalcShapesSaid := over

end Go.Proofs.Ythfmbmjjfdhhnaa.calcShapes
