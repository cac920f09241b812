/- Curves: sums. -/
import Derived.Test.YthfmbmjjfdhhnaaCa
namespace Go.Proofs.Ythfmbmjjfdhhnaa
set_option linter.unusedVariables false
open Go.RowKit

structure Cv where
  b : Int
  r : Int
structure CvCells (W : World) (g o : Nat) (c : Cv) : Prop where
  c0 : W.cell? ⟨g, o, none⟩ = some (.int .i64 c.b)
  c1 : W.cell? ⟨g, o + 1, none⟩ = some (.int .i64 c.r)
/-- A slice value reads as a list of curves. -/
def CsAt (W : World) (sv : Value) (l : List Cv) : Prop :=
  (sv = .slice none 0 0 ∧ l = []) ∨ ∃ g off cap, sv = .slice (some ⟨g, off, none⟩) l.length cap ∧ g < W.heap.size ∧ ∀ k c, l[k]? = some c → CvCells W g (off + k * 2) c
theorem CvCells.below {W w1 : World} {b o : Nat} {s : Cv} (h : CvCells W b o s) (hb : Below W.heap.size W w1) (hl : b < W.heap.size) : CvCells w1 b o s := by
  obtain ⟨hc, _⟩ := bcell hb
  obtain ⟨h0, h1⟩ := h
  exact ⟨(hc _ _ hl).trans h0, (hc _ _ hl).trans h1⟩
theorem CsAt.below {W w1 : World} {sv : Value} {l : List Cv} (h : CsAt W sv l) (hb : Below W.heap.size W w1) : CsAt w1 sv l := by
  rcases h with h | ⟨b, off, cap, e, hl, h⟩
  · exact Or.inl h
  · exact Or.inr ⟨b, off, cap, e, Nat.lt_of_lt_of_le hl hb.size, fun k p hk => (h k p hk).below hb hl⟩
theorem CsAt.at {W : World} {a : Option Addr} {n cap : Nat} {l : List Cv} (h : CsAt W (.slice a n cap) l) {k : Nat} {s : Cv} (hk : l[k]? = some s) : ∃ b off, a = some ⟨b, off, none⟩ ∧ b < W.heap.size ∧ CvCells W b (off + k * 2) s := by
  rcases h with ⟨_, rfl⟩ | ⟨b, off, cap', e, hl, h⟩
  · simp at hk
  · cases e; exact ⟨b, off, rfl, hl, h k s hk⟩
def ckB (b r : Int) : Int := if cE b r = 0 then b else 0
def ckR (b r : Int) : Int := if cE b r = 0 then r else 0
theorem cbox_set {W : World} {g t : Nat} {a0 b0 a b : Int} (h : CBox W g t a0 b0) : CBox ((W.setCell ⟨g, 0, none⟩ (.int .i64 a)).setCell ⟨g, 1, none⟩ (.int .i64 b)) g t a b := by
  unfold CBox at *
  simp [World.setCell, Array.getElem?_modify, h]
theorem cbox_set0 {W : World} {g t : Nat} {a0 b a : Int} (h : CBox W g t a0 b) : CBox (W.setCell ⟨g, 0, none⟩ (.int .i64 a)) g t a b := by
  unfold CBox at *
  simp [World.setCell, Array.getElem?_modify, h]
theorem cbox_set1 {W : World} {g t : Nat} {a b0 b : Int} (h : CBox W g t a b0) : CBox (W.setCell ⟨g, 1, none⟩ (.int .i64 b)) g t a b := by
  unfold CBox at *
  simp [World.setCell, Array.getElem?_modify, h]
theorem below2 (w : World) (o1 o2 : Obj) : Below w.heap.size w ((w.alloc o1).alloc o2) := ((Below.refl _ _).alloc (Nat.le_refl _) _).alloc (by simp) _
theorem blk2b (w : World) (o1 o2 : Obj) : ((w.alloc o1).alloc o2).heap[w.heap.size + 1]? = some o2 := alloc_new_at _ _ _ (by simp)
theorem blk2a (w : World) (o1 o2 : Obj) : ((w.alloc o1).alloc o2).heap[w.heap.size]? = some o1 := (Below.heap_alloc _ _ _ (by simp)).trans (alloc_new_at _ _ _ rfl)
set_option maxRecDepth 100000 in
set_option maxHeartbeats 1000000 in
theorem checked_any (b r : Int) (w : World) :
    Calls Try.prog 25 #[.agg #[.int .i64 b, .int .i64 r]] w fun e w' => e = .returned (.tuple #[.agg #[.int .i64 (ckB b r), .int .i64 (ckR b r)], .int .i64 (cE b r)]) ∧ Below w.heap.size w w' := by
  have hck : ∀ W, Calls Try.prog 24 #[.agg #[.int .i64 b, .int .i64 r]] W fun e w' => e = .returned (.int .i64 (cE b r)) ∧ Below W.heap.size W w' := fun W => check_any b r W
  unfold ckB ckR
  rcases cE_or b r with h | h
  · rw [h] at hck ⊢
    have HCK := Lib.hid hck
    clear hck h
    simp only [if_true]
    go_enter Try.func25, Try.ntmps25
    go_wp2_with (go_at_call 24; refine (HCK.out _).mono ?_; rintro e w1 ⟨rfl, hb1⟩; have hx1 : CBox w1 (w.heap.size + 1) 27 0 0 := (hb1.block _ (by simp)).trans (blk2b _ _ _); have hx0 : CBox w1 w.heap.size 27 b r := (hb1.block _ (by simp <;> omega)).trans (blk2a _ _ _); obtain ⟨_, _, _, _⟩ := cells2 hx1; obtain ⟨_, _, _, _⟩ := cells2 hx0; have hz1 : w.heap.size + 1 < w1.heap.size := lt_of_block hx1)
    have hS := cbox_set (a := b) (b := r) hx1
    have hB := ((((below2 w _ _).trans (hb1.mono (by simp; omega))).setCell (p := ⟨w.heap.size + 1, 0, none⟩) (by simp) (.int .i64 b)).setCell (p := ⟨w.heap.size + 1, 1, none⟩) (by simp) (.int .i64 r))
    generalize (w1.setCell ⟨w.heap.size + 1, 0, none⟩ (.int .i64 b)).setCell ⟨w.heap.size + 1, 1, none⟩ (.int .i64 r) = S at *
    obtain ⟨d0, d1, _, _⟩ := cells2 hS
    exact bodyPost_ret (v := .tuple #[.agg #[.int .i64 b, .int .i64 r], .int .i64 0]) (by simp [results, Try.results25, go_sem, d0, d1]) rfl ⟨rfl, hB⟩
  · rw [h] at hck ⊢
    have HCK := Lib.hid hck
    clear hck h
    simp only [show ((3 : Int) = 0) = False by simp, if_false]
    go_enter Try.func25, Try.ntmps25
    go_wp2_with (go_at_call 24; refine (HCK.out _).mono ?_; rintro e w1 ⟨rfl, hb1⟩; have hx1 : CBox w1 (w.heap.size + 1) 27 0 0 := (hb1.block _ (by simp)).trans (blk2b _ _ _); obtain ⟨_, _, _, _⟩ := cells2 hx1; have hz1 : w.heap.size + 1 < w1.heap.size := lt_of_block hx1)
    have hS := cbox_set (a := 0) (b := 0) hx1
    have hB := ((((below2 w _ _).trans (hb1.mono (by simp; omega))).setCell (p := ⟨w.heap.size + 1, 0, none⟩) (by simp) (.int .i64 0)).setCell (p := ⟨w.heap.size + 1, 1, none⟩) (by simp) (.int .i64 0))
    generalize (w1.setCell ⟨w.heap.size + 1, 0, none⟩ (.int .i64 0)).setCell ⟨w.heap.size + 1, 1, none⟩ (.int .i64 0) = S at *
    obtain ⟨d0, d1, _, _⟩ := cells2 hS
    exact bodyPost_ret (v := .tuple #[.agg #[.int .i64 0, .int .i64 0], .int .i64 3]) (by simp [results, Try.results25, go_sem, d0, d1]) rfl ⟨rfl, hB⟩

def sumB (l : List Cv) : Int := (l.map Cv.b).sum
def sumR (l : List Cv) : Int := (l.map Cv.r).sum
def Small (l : List Cv) : Prop := ∀ c ∈ l, 0 ≤ c.b ∧ c.b ≤ 2147483648 ∧ 0 ≤ c.r ∧ c.r ≤ 2147483648
theorem sum_snoc (l : List Cv) (c : Cv) : sumB (l ++ [c]) = sumB l + c.b ∧ sumR (l ++ [c]) = sumR l + c.r := by simp [sumB, sumR]
theorem small_sum {l : List Cv} (h : Small l) : 0 ≤ sumB l ∧ sumB l ≤ 2147483648 * (l.length : Int) ∧ 0 ≤ sumR l ∧ sumR l ≤ 2147483648 * (l.length : Int) := by
  induction l with
  | nil => simp [sumB, sumR]
  | cons c l ih =>
    have h1 := h c (by simp)
    have h2 := ih fun c hc => h c (by simp [hc])
    simp [sumB, sumR] at *
    omega
theorem take_snoc {l : List Cv} {j : Nat} {c : Cv} (h : l[j]? = some c) : l.take (j + 1) = l.take j ++ [c] := by rw [List.take_add_one, h]; simp
theorem small_take {l : List Cv} (h : Small l) (j : Nat) : Small (l.take j) := fun c hc => h c (List.mem_of_mem_take hc)
set_option maxRecDepth 100000 in
set_option maxHeartbeats 2000000 in
theorem add_any (l : List Cv) (a : Option Addr) (cap : Nat) (hl : l.length ≤ 1000) (hs : Small l) (w : World) (hc : CsAt w (.slice a l.length cap) l) :
    Calls Try.prog 26 #[.slice a l.length cap] w fun e w' => e = .returned (.agg #[.int .i64 (sumB l), .int .i64 (sumR l)]) ∧ Below w.heap.size w w' := by
  obtain ⟨n, hn⟩ : ∃ n, n = l.length := ⟨_, rfl⟩
  rw [← hn] at hl hc ⊢
  have HC := Lib.hid hc
  have HN := Lib.hid hn
  have HS := Lib.hid hs
  clear hc hn hs
  go_enter Try.func26, Try.ntmps26
  go_wp2
  go_loopw [8] (fun i wr => ∃ j : Nat, j ≤ n ∧ i = .int .i64 j ∧ Below w.heap.size w wr ∧ CBox wr w.heap.size 27 0 0 ∧ CBox wr (w.heap.size + 1) 27 (sumB (l.take j)) (sumR (l.take j))) (fun i _ => n - (intOf i).toNat)
  case atStart => exact ⟨0, Nat.zero_le _, rfl, below2 w _ _, blk2a _ _ _, blk2b _ _ _⟩
  case round =>
    obtain ⟨j, hj, rfl, hb, hx0, hx1⟩ := hrel
    have HB := Lib.hid hb
    have HX0 := Lib.hid hx0
    have HX1 := Lib.hid hx1
    have hz1 : w.heap.size + 1 < wr.heap.size := lt_of_block hx1
    obtain ⟨_, _, _, _⟩ := cells2 hx1
    obtain ⟨_, _, _, _⟩ := cells2 hx0
    clear hb hx0 hx1
    by_cases hlt : j < n
    · obtain ⟨c, hcj⟩ : ∃ c, l[j]? = some c := ⟨_, List.getElem?_eq_getElem (by rw [← HN.out]; exact hlt)⟩
      obtain ⟨g, off, rfl, hgl, hcc⟩ := (HC.out.below HB.out).at hcj
      obtain ⟨_, _⟩ := hcc
      have hsn := sum_snoc (l.take j) c
      have hq := small_sum (small_take HS.out (j + 1))
      have hq0 := small_sum (small_take HS.out j)
      rw [take_snoc hcj, hsn.1, hsn.2] at hq
      have hln : (l.take j ++ [c]).length ≤ 1001 := by simp; omega
      have w1 : wrap64 (sumB (l.take j) + c.b) = sumB (l.take j) + c.b := by unfold wrap64; omega
      have w2 : wrap64 (sumR (l.take j) + c.r) = sumR (l.take j) + c.r := by unfold wrap64; omega
      have ht1 : sumB (l.take (j + 1)) = sumB (l.take j) + c.b := by rw [take_snoc hcj, hsn.1]
      have ht2 : sumR (l.take (j + 1)) = sumR (l.take j) + c.r := by rw [take_snoc hcj, hsn.2]
      have HT1 := Lib.hid ht1
      have HT2 := Lib.hid ht2
      have hi0 : (0 : Int) ≤ (j : Int) := Int.natCast_nonneg _
      have hi1 : (j : Int) < (n : Int) := by omega
      have hpb : CBox (wr.alloc (.cells #[.int .i64 c.b, .int .i64 c.r] 27)) wr.heap.size 27 c.b c.r := alloc_new_at _ _ _ rfl
      have hbx : CBox (wr.alloc (.cells #[.int .i64 c.b, .int .i64 c.r] 27)) (w.heap.size + 1) 27 (sumB (l.take j)) (sumR (l.take j)) := (Below.heap_alloc _ _ _ hz1).trans HX1.out
      have hbx0 : CBox (wr.alloc (.cells #[.int .i64 c.b, .int .i64 c.r] 27)) w.heap.size 27 0 0 := (Below.heap_alloc _ _ _ (by omega)).trans HX0.out
      have hbb : Below w.heap.size w (wr.alloc (.cells #[.int .i64 c.b, .int .i64 c.r] 27)) := HB.out.alloc (by omega) _
      have hne : w.heap.size + 1 ≠ wr.heap.size := by omega
      have hne' : wr.heap.size ≠ w.heap.size + 1 := by omega
      have hz9 : wr.heap.size < (wr.alloc (.cells #[.int .i64 c.b, .int .i64 c.r] 27)).heap.size := by simp
      clear hcj hsn hq hq0 hln ht1 ht2
      go_upto_region 5 with (fail)
      generalize wr.alloc (.cells #[.int .i64 c.b, .int .i64 c.r] 27) = X at *
      generalize wr.heap.size = g5 at *
      obtain ⟨_, _, _, _⟩ := cells2 hpb
      obtain ⟨_, _, _, _⟩ := cells2 hbx
      go_wp2
      go_roundw
      case rel =>
        have hS := cbox_set (a := sumB (l.take j) + c.b) (b := sumR (l.take j) + c.r) hbx
        refine ⟨j + 1, by omega, by go_num, (hbb.setCell (p := ⟨w.heap.size + 1, 0, none⟩) (by simp) _).setCell (p := ⟨w.heap.size + 1, 1, none⟩) (by simp) _, ?_, ?_⟩
        · unfold CBox at *
          simp [World.setCell, Array.getElem?_modify, hbx0]
        · rw [HT1.out, HT2.out]; exact hS
      case measure => simp [intOf]; omega
    · obtain rfl : n = j := by omega
      have hlt' : l.take n = l := by rw [HN.out]; simp
      go_wp2
      have hS := cbox_set (a := sumB l) (b := sumR l) HX0.out
      have hB := (HB.out.setCell (p := ⟨w.heap.size, 0, none⟩) (Nat.le_refl _) (.int .i64 (sumB l))).setCell (p := ⟨w.heap.size, 1, none⟩) (Nat.le_refl _) (.int .i64 (sumR l))
      generalize (wr.setCell ⟨w.heap.size, 0, none⟩ (.int .i64 (sumB l))).setCell ⟨w.heap.size, 1, none⟩ (.int .i64 (sumR l)) = S at *
      obtain ⟨d0, d1, _, _⟩ := cells2 hS
      exact bodyPost_ret (v := .agg #[.int .i64 (sumB l), .int .i64 (sumR l)]) (by simp [results, Try.results26, go_sem, d0, d1]) rfl ⟨rfl, hB⟩
end Go.Proofs.Ythfmbmjjfdhhnaa
