/- For every mesh, and every list of ticks in which cores are ready, the law MeshTogether returns true: no core goes on before all are ready, none waits longer than it may, and all later means all go on later. The condition: the package-level tables hold what their initialisers lay (the card ties it to the program's text). -/
import Derived.Test.YtlkcpnhepadenaaDoorBi
import Derived.Test.YtlkcpnhepadenaaDoorCards
import Derived.Test.YtlkcpnhepadenaaDoorTie
import Derived.SevenTiedAt
namespace Go.Proofs.YtlkcpnhepadenaaDoor.meshTogether
set_option linter.unusedVariables false
open Go.ChangeShapes Go.WideShapes Go.ChangeAt Go.RowKit Go.Proofs.YtlkcpnhepadenaaDoor.Lf

def ListAt (W : World) (a : Option Addr) (n cap : Nat) (L : List Int) : Prop := L.length = n ∧ IntsAt W (.slice a n cap) L
theorem ListAt.below {w W : World} {a : Option Addr} {n cap : Nat} {L : List Int} (h : ListAt w a n cap L) (hb : Below w.heap.size w W) : ListAt W a n cap L := ⟨h.1, h.2.below hb⟩
theorem ListAt.cellAt {W : World} {a : Option Addr} {n cap : Nat} {L : List Int} (h : ListAt W a n cap L) (_ : 0 < n) (k : Nat) (hk : k < n) : ∃ b off, a = some ⟨b, off, none⟩ ∧ W.cell? ⟨b, off + k, none⟩ = some (.int .i64 (L[k]?.getD 0)) :=
  intsAt_cell h.2 k (by rw [h.1]; exact hk)
/-- Behind k rounds of the first loop. -/
def Fill (W H n : Nat) (f : Nat → Int) (l : Int) (w : World) (gA gB k : Nat) (wr : World) : Prop :=
  TimesAt wr gA n (fun j => if j < k then f j else 0) ∧ TimesAt wr gB n (fun j => if j < k then f j + l else 0) ∧ SpecAt wr w.heap.size W H 1 ∧ Below w.heap.size w wr

/-- A list of n numbers, without an error. -/
def Got1 (n : Nat) (L : List Int) (w : World) (e : Ending) (w' : World) : Prop :=
  ∃ a cap, e = .returned (.tuple #[.slice a n cap, .int .i64 0]) ∧ ListAt w' a n cap L ∧ Below w.heap.size w w'
theorem got1_of {n : Nat} {L : List Int} {w w' : World} {e : Ending} (hn : L.length = n) (h : BarGot L 0 w e w') : Got1 n L w e w' := by
  obtain ⟨a, cap, he, hi, hb⟩ := h
  rw [hn] at he hi
  exact ⟨a, cap, he, ⟨hn, hi⟩, hb⟩

set_option maxRecDepth 100000 in
set_option maxHeartbeats 2000000 in
theorem walk_at (x y l : Int) (x0 : 0 ≤ x) (x1 : x ≤ 255) (y0 : 0 ≤ y) (y1 : y ≤ 255) (l0 : 0 ≤ l) (l1 : l ≤ 255) (W H : Nat) (hW : (W : Int) = 1 + x % 8) (hH : (H : Int) = 1 + y % 8) (a : Option Addr) (cap : Nat) (zs : List Int) (hm : zs.length ≤ 9223372036854775807) (hz : ∀ z ∈ zs, 0 ≤ z ∧ z ≤ 255) (w : World) (hg : Ev.GlobIn tables w) (hI : KAt .u8 w (.slice a zs.length cap) zs) :
    Calls Tryd.prog 12 #[.int .u8 x, .int .u8 y, .slice a zs.length cap, .int .u8 l] w fun e w' => e = .returned (.bool true) ∧ Below w.heap.size w w' := by
  have w1 : 1 ≤ W := by omega
  have w2 : W ≤ 8 := by omega
  have h1 : 1 ≤ H := by omega
  have h2 : H ≤ 8 := by omega
  obtain ⟨n, hn⟩ : ∃ n, n = W * H := ⟨_, rfl⟩
  have n1 : 1 ≤ n := by rw [hn]; exact Nat.mul_pos w1 h1
  have n2 : n ≤ 64 := by rw [hn]; exact Nat.mul_le_mul w2 h2
  have hX : (W : Int) * (H : Int) = (n : Int) := by rw [hn]; simp
  have hck : chkM W H 1 = 0 := by
    unfold chkM
    rw [if_pos]
    simp only [Bool.and_eq_true, inR_true]
    omega
  have hsx := side_any x W hW x0 x1
  have hsy := side_any y H hH y0 y1
  obtain ⟨m, hmz⟩ : ∃ m, m = zs.length := ⟨_, rfl⟩
  have hfb := readyF_bd hz
  obtain ⟨f, hf⟩ : ∃ f, f = readyF zs := ⟨_, rfl⟩
  rw [← hf] at hfb
  have hcell : ∀ k, 0 < m → ∃ b off, a = some ⟨b, off, none⟩ ∧ b < w.heap.size ∧ w.cell? ⟨b, off + k % m, none⟩ = some (.int .u8 (f k)) := fun k h0 => by
    rcases hI with ⟨_, e⟩ | ⟨b, off, c, e, hc⟩
    · rw [e] at hmz; simp at hmz; omega
    · cases e
      have hlt : k % zs.length < zs.length := Nat.mod_lt _ (by omega)
      have := hc (k % zs.length) hlt
      exact ⟨b, off, rfl, World.block_lt_of_cell? w _ this, by rw [hmz, hf]; exact this⟩
  have hzero : m = 0 → ∀ k, f k = 0 := fun h0 k => by
    have : zs = [] := List.eq_nil_of_length_eq_zero (by omega)
    rw [hf, this]; rfl
  rw [← hmz] at hm ⊢
  have hmk := make_zeros n (by omega)
  have HN := Lib.hid hn
  have HCK := Lib.hid hck
  have HF := Lib.hid hfb
  have HC := Lib.hid hcell
  have HZ := Lib.hid hzero
  have HG := Lib.hid hg
  clear hn hck hfb hcell hzero hg hI hW hH hf hmz hz
  go_enter Tryd.func12, Tryd.ntmps12
  go_wp2_with (first | (go_at_call 41; refine (hsx _).mono ?_; rintro e w' ⟨rfl, rfl⟩) | (go_at_call 41; refine (hsy _).mono ?_; rintro e w' ⟨rfl, rfl⟩))
  go_region
  · have hf0 : Fill W H n f l w (w.heap.size + 1) (w.heap.size + 1 + 1) 0 (((w.alloc (.cells #[.int .i64 W, .int .i64 H, .int .i64 1] 26)).alloc (.cells (Array.replicate n (.int .i64 0)) 3)).alloc (.cells (Array.replicate n (.int .i64 0)) 3)).drew := by
      have e1 : (((w.alloc (.cells #[.int .i64 W, .int .i64 H, .int .i64 1] 26)).alloc (.cells (Array.replicate n (.int .i64 0)) 3)).alloc (.cells (Array.replicate n (.int .i64 0)) 3)).drew.heap[w.heap.size + 1]? = some (.cells (Array.replicate n (.int .i64 0)) 3) :=
        (Below.heap_alloc _ _ _ (by simp)).trans (alloc_new_at _ _ _ (by simp))
      have e2 : (((w.alloc (.cells #[.int .i64 W, .int .i64 H, .int .i64 1] 26)).alloc (.cells (Array.replicate n (.int .i64 0)) 3)).alloc (.cells (Array.replicate n (.int .i64 0)) 3)).drew.heap[w.heap.size + 1 + 1]? = some (.cells (Array.replicate n (.int .i64 0)) 3) :=
        alloc_new_at _ _ _ (by simp)
      refine ⟨⟨_, e1, fun j hj => by simp [hj]⟩, ⟨_, e2, fun j hj => by simp [hj]⟩, ?_, ?_⟩
      · exact (Below.heap_alloc _ _ _ (by simp; omega)).trans ((Below.heap_alloc _ _ _ (by simp)).trans (alloc_new_at _ _ _ rfl))
      · exact ((((Below.refl w.heap.size w).alloc (Nat.le_refl _) _).alloc (by simp) _).alloc (by simp; omega) _).drew
    generalize (((w.alloc (.cells #[.int .i64 W, .int .i64 H, .int .i64 1] 26)).alloc (.cells (Array.replicate n (.int .i64 0)) 3)).alloc (.cells (Array.replicate n (.int .i64 0)) 3)).drew = W0 at *
    have HF0 := Lib.hid hf0
    clear hf0
    go_wp2_with fail
    go_loopw [13, 35] (fun s13 s35 wr => ∃ k : Nat, k ≤ n ∧ s35 = .int .i64 k ∧ s13 = .int .i64 (mostF f k) ∧ Fill W H n f l w (w.heap.size + 1) (w.heap.size + 1 + 1) k wr) (fun _ s35 _ => n - (intOf s35).toNat)
    case atStart => exact ⟨0, Nat.zero_le _, by go_num, by simp [mostF], HF0.out⟩
    case round =>
      obtain ⟨k, hk, rfl, rfl, hta, htb, hs, hb⟩ := hrel
      have hz0 : w.heap.size + 1 < wr.heap.size := by have := hta.lt; have := htb.lt; omega
      have hz1 : w.heap.size + 1 + 1 < wr.heap.size := by have := hta.lt; have := htb.lt; omega
      obtain ⟨M, hM⟩ : ∃ M, M = mostF f k := ⟨_, rfl⟩
      have M0 : 0 ≤ M := by rw [hM]; exact mostF_nonneg f k
      have M1 : M ≤ 255 := by rw [hM]; exact mostF_le f 255 (by omega) k fun j _ => (HF.out j).2
      rw [← hM]
      have HM := Lib.hid hM
      have HTA := Lib.hid hta
      have HTB := Lib.hid htb
      have HS := Lib.hid hs
      have HB := Lib.hid hb
      clear hM hta htb hs hb
      by_cases hlt : k < n
      · obtain ⟨ca, fa⟩ := HTA.out.cell hlt
        obtain ⟨cb, fb⟩ := HTB.out.cell hlt
        rw [if_neg (Nat.lt_irrefl k)] at ca cb
        have F0 := (HF.out k).1
        have F1 := (HF.out k).2
        obtain ⟨x', hx'⟩ : ∃ x', x' = f k := ⟨_, rfl⟩
        rw [← hx'] at F0 F1
        have hk0 : (0 : Int) ≤ (k : Int) := Int.natCast_nonneg _
        have hk1 : (k : Int) < (n : Int) := by omega
        have hne1 : ¬ (w.heap.size + 1 = w.heap.size + 1 + 1) := by omega
        have hne2 : ¬ (w.heap.size + 1 + 1 = w.heap.size + 1) := by omega
        have HX := Lib.hid hx'
        by_cases hm0 : m = 0
        · have x'0 : x' = 0 := by rw [hx']; exact HZ.out hm0 k
          have gm : (0 < m) = False := by simp; omega
          have HM0 := Lib.hid hm0
          clear hm0 hx'
          subst x'0
          go_wp2
          go_roundw
          case rel =>
            have e := HX.out
            refine ⟨k + 1, by omega, by go_num, by simp only [mostF]; rw [← HM.out, ← e]; congr 1; omega, ?_, ?_, ?_, ?_⟩
            · refine (HTA.out.of_block (Below.heap_setCell _ _ _ _ (by show (w.heap.size + 1) ≠ (w.heap.size + 1 + 1); omega))).congr fun j hj => ?_
              by_cases hjk : j = k
              · subst hjk; rw [if_neg (Nat.lt_irrefl _), if_pos (by omega)]; exact e
              · by_cases h9 : j < k
                · rw [if_pos h9, if_pos (by omega)]
                · rw [if_neg h9, if_neg (by omega)]
            · refine TimesAt.set HTB.out hlt fun j => ?_
              by_cases hjk : j = k
              · subst hjk; rw [if_pos rfl, if_pos (by omega), ← e]; omega
              · rw [if_neg hjk]
                by_cases h9 : j < k
                · rw [if_pos h9, if_pos (by omega)]
                · rw [if_neg h9, if_neg (by omega)]
            · exact (Below.heap_setCell _ _ _ _ (by show w.heap.size ≠ (w.heap.size + 1 + 1); omega)).trans HS.out
            · exact HB.out.setCell (p := ⟨(w.heap.size + 1 + 1), k, none⟩) (by show w.heap.size ≤ (w.heap.size + 1 + 1); omega) _
          case measure => simp [intOf]; omega
        · obtain ⟨b, off, rfl, hbl, hcc⟩ := HC.out k (by omega)
          obtain ⟨r, hr⟩ : ∃ r, r = k % m := ⟨_, rfl⟩
          have hrm : r < m := by rw [hr]; exact Nat.mod_lt _ (by omega)
          have hr1 : Int.tmod (k : Int) (m : Int) = (r : Int) := by rw [rem_nat, ← hr]
          have hr2 : (k : Int) % (m : Int) = (r : Int) := by rw [hr]; simp
          rw [← hr, ← hx'] at hcc
          have hc2 : wr.cell? ⟨b, off + r, none⟩ = some (.int .u8 x') := (HB.out.cell (p := ⟨b, off + r, none⟩) hbl).trans hcc
          have hm00 : ((m : Int) == 0) = false := by simp [hm0]
          have gm : (0 < m) = True := by simp; omega
          have hr3 : (0 : Int) ≤ (r : Int) := Int.natCast_nonneg _
          have hr4 : (r : Int) < (m : Int) := by omega
          clear hr hx' hcc hm0
          go_wp2
          go_roundw
          case rel =>
            have e := HX.out
            refine ⟨k + 1, by omega, by go_num, by simp only [mostF]; rw [← HM.out, ← e]; congr 1; first | rfl | (split <;> omega) | omega, ?_, ?_, ?_, ?_⟩
            · refine (TimesAt.set (t' := fun j => if j < k + 1 then f j else 0) HTA.out hlt fun j => ?_).of_block (Below.heap_setCell _ _ _ _ (by show (w.heap.size + 1) ≠ (w.heap.size + 1 + 1); omega))
              by_cases hjk : j = k
              · subst hjk; rw [if_pos rfl, if_pos (by omega)]; exact e.symm
              · rw [if_neg hjk]
                by_cases h9 : j < k
                · rw [if_pos h9, if_pos (by omega)]
                · rw [if_neg h9, if_neg (by omega)]
            · refine TimesAt.set (HTB.out.of_block (Below.heap_setCell _ _ _ _ (by show (w.heap.size + 1 + 1) ≠ (w.heap.size + 1); omega))) hlt fun j => ?_
              by_cases hjk : j = k
              · subst hjk; rw [if_pos rfl, if_pos (by omega), ← e]
              · rw [if_neg hjk]
                by_cases h9 : j < k
                · rw [if_pos h9, if_pos (by omega)]
                · rw [if_neg h9, if_neg (by omega)]
            · exact (Below.heap_setCell _ _ _ _ (by show w.heap.size ≠ (w.heap.size + 1 + 1); omega)).trans ((Below.heap_setCell _ _ _ _ (by show w.heap.size ≠ (w.heap.size + 1); omega)).trans HS.out)
            · exact (HB.out.setCell (p := ⟨(w.heap.size + 1), k, none⟩) (by show w.heap.size ≤ (w.heap.size + 1); omega) _).setCell (p := ⟨(w.heap.size + 1 + 1), k, none⟩) (by show w.heap.size ≤ (w.heap.size + 1 + 1); omega) _
          case measure => simp [intOf]; omega
      · have hkn : n = k := by omega
        clear hlt hk
        subst hkn
        have hia : IntsAt wr (.slice (some ⟨(w.heap.size + 1), 0, none⟩) n n) (listOf f n) := (HTA.out.congr fun j hj => if_pos hj).list
        have hib : IntsAt wr (.slice (some ⟨(w.heap.size + 1 + 1), 0, none⟩) n n) (listOf (fun j => f j + l) n) := (HTB.out.congr fun j hj => if_pos hj).list
        have hba : ∀ w1, Below wr.heap.size wr w1 → Calls Tryd.prog 39 #[.agg #[.int .i64 W, .int .i64 H, .int .i64 1], .slice (some ⟨(w.heap.size + 1), 0, none⟩) n n] w1 (BarGot (barL W (listOf f n)) 0 w1) := fun w1 hb =>
          (barrier_ok W H 1 HCK.out _ n n (listOf f n) (listOf_len _ _).symm HN.out w1 (hia.below hb)).mono fun e w' h => h.1 (allIn_list fun j _ => by have := HF.out j; omega)
        have hbb : ∀ w1, Below wr.heap.size wr w1 → Calls Tryd.prog 39 #[.agg #[.int .i64 W, .int .i64 H, .int .i64 1], .slice (some ⟨(w.heap.size + 1 + 1), 0, none⟩) n n] w1 (BarGot (barL W (listOf (fun j => f j + l) n)) 0 w1) := fun w1 hb =>
          (barrier_ok W H 1 HCK.out _ n n (listOf (fun j => f j + l) n) (listOf_len _ _).symm HN.out w1 (hib.below hb)).mono fun e w' h => h.1 (allIn_list fun j _ => by have := HF.out j; omega)
        have HBA := Lib.hid hba
        have HBB := Lib.hid hbb
        clear hia hib hba hbb
        have hLa : (barL W (listOf f n)).length = n := by rw [barL_len, listOf_len]
        have hLb : (barL W (listOf (fun j => f j + l) n)).length = n := by rw [barL_len, listOf_len]
        obtain ⟨LA, hLA⟩ : ∃ LA, LA = barL W (listOf f n) := ⟨_, rfl⟩
        obtain ⟨LB, hLB⟩ : ∃ LB, LB = barL W (listOf (fun j => f j + l) n) := ⟨_, rfl⟩
        have hA : ∀ w1, Below wr.heap.size wr w1 → Calls Tryd.prog 39 #[.agg #[.int .i64 W, .int .i64 H, .int .i64 1], .slice (some ⟨(w.heap.size + 1), 0, none⟩) n n] w1 (Got1 n LA w1) := fun w1 hb => (HBA.out w1 hb).mono fun e w' h => by rw [← hLA] at h; exact got1_of (by rw [hLA]; exact hLa) h
        have hB : ∀ w1, Below wr.heap.size wr w1 → Calls Tryd.prog 39 #[.agg #[.int .i64 W, .int .i64 H, .int .i64 1], .slice (some ⟨(w.heap.size + 1 + 1), 0, none⟩) n n] w1 (Got1 n LB w1) := fun w1 hb => (HBB.out w1 hb).mono fun e w' h => by rw [← hLB] at h; exact got1_of (by rw [hLB]; exact hLb) h
        have hla : ∀ j, j < n → LA[j]?.getD 0 = last W f n + (dep W j : Nat) := fun j hj => by rw [hLA]; exact barL_list hj
        have hlb : ∀ j, j < n → LB[j]?.getD 0 = last W f n + l + (dep W j : Nat) := fun j hj => by rw [hLB, barL_list hj, last_add]
        have hmf : M ≤ last W f n := by
          rw [HM.out]
          refine mostF_le f _ ?_ n fun j hj => ?_
          · have h9 := last_ge (W := W) (t := f) (n := n) (j := 0) (by omega); have := (HF.out 0).1; omega
          · have h9 := last_ge (W := W) (t := f) hj; omega
        have hlm : last W f n ≤ M + ((W + H - 2 : Nat) : Int) := by
          refine last_le (W := W) (H := H) (by omega) HN.out (by omega) fun j hj => ?_
          rw [HM.out]; exact mostF_ge f n j hj
        obtain ⟨G, hG⟩ : ∃ G, G = last W f n := ⟨_, rfl⟩
        rw [← hG] at hla hlb hmf hlm
        have HA := Lib.hid hA
        have HB' := Lib.hid hB
        have HLA := Lib.hid hla
        have HLB := Lib.hid hlb
        have HLM := Lib.hid hlm
        have HSS := Lib.hid HS.out
        clear HBA HBB hLa hLb hLA hLB hA hB hla hlb hlm hG
        obtain ⟨s0, s1, s2⟩ := HS.out.cells
        have hzr : w.heap.size < wr.heap.size := HS.out.lt
        go_wp2_with fail
        go_at_call 39
        refine (HA.out _ (Below.refl _ _)).mono ?_
        rintro e w5 ⟨a5, c5, rfl, hi5, hb5⟩
        have hz5 : wr.heap.size ≤ w5.heap.size := hb5.size
        have hs5 : SpecAt w5 w.heap.size W H 1 := (hb5.block _ hzr).trans HSS.out
        obtain ⟨_, _, _⟩ := hs5.cells
        have HS5 := Lib.hid hs5
        have HI5 := Lib.hid hi5
        have HB5 := Lib.hid hb5
        clear hi5 hb5 hs5
        go_wp2_with fail
        go_at_call 39
        refine (HB'.out _ HB5.out).mono ?_
        rintro e w6 ⟨a6, c6, rfl, hi6, hb6⟩
        have hs6 : SpecAt w6 w.heap.size W H 1 := (hb6.block _ (by omega)).trans HS5.out
        have hz6 : w5.heap.size ≤ w6.heap.size := hb6.size
        have hj5 := HI5.out.below hb6
        have HS6 := Lib.hid hs6
        have HI6 := Lib.hid hi6
        have HJ5 := Lib.hid hj5
        have HB6 := Lib.hid hb6
        clear hi6 hb6 hj5 hs6
        go_wp2_with fail
        have hq6 : Below w.heap.size w w6 := (HB.out.trans (HB5.out.mono (Nat.le_of_lt hzr))).trans (HB6.out.mono (by omega))
        have HQ6 := Lib.hid hq6
        clear hq6
        go_loopw [100] (fun s wr => ∃ k : Nat, k ≤ n ∧ s = .int .i64 k ∧ ∃ d, wr = w6.drewN d) (fun s _ => n - (intOf s).toNat)
        case atStart => exact ⟨0, Nat.zero_le _, by go_num, 0, rfl⟩
        case round =>
          obtain ⟨k, hk, rfl, d, rfl⟩ := hrel
          have hbd : Below w.heap.size w (w6.drewN d) := below_drewN HQ6.out d
          have HBD := Lib.hid hbd
          clear hbd
          by_cases hlt : k < n
          · obtain ⟨b5, o5, rfl, c1⟩ := HJ5.out.cellAt (by omega) k hlt
            obtain ⟨b6, o6, rfl, c2⟩ := HI6.out.cellAt (by omega) k hlt
            rw [HLA.out k hlt] at c1
            rw [HLB.out k hlt] at c2
            have hdk := dep_le (W := W) (H := H) (k := k) (by omega) (by have := HN.out; omega)
            obtain ⟨D, hD⟩ : ∃ D : Int, D = ((dep W k : Nat) : Int) := ⟨_, rfl⟩
            rw [← hD] at c1 c2
            obtain ⟨X, hX9⟩ : ∃ X : Int, X = G + D := ⟨_, rfl⟩
            have hlm := HLM.out
            have e2 : G + l + D = X + l := by omega
            rw [← hX9] at c1
            rw [e2] at c2
            have X0 : M ≤ X := by omega
            have X1 : X ≤ M + 2 * ((W : Int) + (H : Int) - 2) := by omega
            have X2 : X ≤ 400 := by omega
            obtain ⟨_, _, _⟩ := HS6.out.cells
            have q1 : (X < M) = False := by simp; omega
            have q2 : (M + 2 * ((W : Int) + (H : Int) - 2) < X) = False := by simp; omega
            have q3 : ((X + l) != (X + l)) = false := by simp
            have hk0 : (0 : Int) ≤ (k : Int) := Int.natCast_nonneg _
            have hk1 : (k : Int) < (n : Int) := by omega
            clear hD hX9 hlm e2 hdk
            go_wp2_with fail
            go_quiet (fail)
            go_wp2
            go_roundw
            case rel => exact ⟨k + 1, by omega, by go_num, _, rfl⟩
            case measure => simp [intOf]; omega
          · have hkn : n = k := by omega
            clear hlt hk
            subst hkn
            go_wp2_with (go_at_call 13; refine (works_any _ (HG.out.below HBD.out)).mono ?_; rintro e w9 ⟨rfl, hb9⟩)
            go_ret
            exact ⟨rfl, HBD.out.trans (hb9.mono HBD.out.size)⟩
  · have hf0 : Fill W H n f l w (w.heap.size + 1 + 1) (w.heap.size + 1) 0 (((w.alloc (.cells #[.int .i64 W, .int .i64 H, .int .i64 1] 26)).alloc (.cells (Array.replicate n (.int .i64 0)) 3)).alloc (.cells (Array.replicate n (.int .i64 0)) 3)).drew := by
      have e1 : (((w.alloc (.cells #[.int .i64 W, .int .i64 H, .int .i64 1] 26)).alloc (.cells (Array.replicate n (.int .i64 0)) 3)).alloc (.cells (Array.replicate n (.int .i64 0)) 3)).drew.heap[w.heap.size + 1]? = some (.cells (Array.replicate n (.int .i64 0)) 3) :=
        (Below.heap_alloc _ _ _ (by simp)).trans (alloc_new_at _ _ _ (by simp))
      have e2 : (((w.alloc (.cells #[.int .i64 W, .int .i64 H, .int .i64 1] 26)).alloc (.cells (Array.replicate n (.int .i64 0)) 3)).alloc (.cells (Array.replicate n (.int .i64 0)) 3)).drew.heap[w.heap.size + 1 + 1]? = some (.cells (Array.replicate n (.int .i64 0)) 3) :=
        alloc_new_at _ _ _ (by simp)
      refine ⟨⟨_, e2, fun j hj => by simp [hj]⟩, ⟨_, e1, fun j hj => by simp [hj]⟩, ?_, ?_⟩
      · exact (Below.heap_alloc _ _ _ (by simp; omega)).trans ((Below.heap_alloc _ _ _ (by simp)).trans (alloc_new_at _ _ _ rfl))
      · exact ((((Below.refl w.heap.size w).alloc (Nat.le_refl _) _).alloc (by simp) _).alloc (by simp; omega) _).drew
    generalize (((w.alloc (.cells #[.int .i64 W, .int .i64 H, .int .i64 1] 26)).alloc (.cells (Array.replicate n (.int .i64 0)) 3)).alloc (.cells (Array.replicate n (.int .i64 0)) 3)).drew = W0 at *
    have HF0 := Lib.hid hf0
    clear hf0
    go_wp2_with fail
    go_loopw [13, 35] (fun s13 s35 wr => ∃ k : Nat, k ≤ n ∧ s35 = .int .i64 k ∧ s13 = .int .i64 (mostF f k) ∧ Fill W H n f l w (w.heap.size + 1 + 1) (w.heap.size + 1) k wr) (fun _ s35 _ => n - (intOf s35).toNat)
    case atStart => exact ⟨0, Nat.zero_le _, by go_num, by simp [mostF], HF0.out⟩
    case round =>
      obtain ⟨k, hk, rfl, rfl, hta, htb, hs, hb⟩ := hrel
      have hz0 : w.heap.size + 1 < wr.heap.size := by have := hta.lt; have := htb.lt; omega
      have hz1 : w.heap.size + 1 + 1 < wr.heap.size := by have := hta.lt; have := htb.lt; omega
      obtain ⟨M, hM⟩ : ∃ M, M = mostF f k := ⟨_, rfl⟩
      have M0 : 0 ≤ M := by rw [hM]; exact mostF_nonneg f k
      have M1 : M ≤ 255 := by rw [hM]; exact mostF_le f 255 (by omega) k fun j _ => (HF.out j).2
      rw [← hM]
      have HM := Lib.hid hM
      have HTA := Lib.hid hta
      have HTB := Lib.hid htb
      have HS := Lib.hid hs
      have HB := Lib.hid hb
      clear hM hta htb hs hb
      by_cases hlt : k < n
      · obtain ⟨ca, fa⟩ := HTA.out.cell hlt
        obtain ⟨cb, fb⟩ := HTB.out.cell hlt
        rw [if_neg (Nat.lt_irrefl k)] at ca cb
        have F0 := (HF.out k).1
        have F1 := (HF.out k).2
        obtain ⟨x', hx'⟩ : ∃ x', x' = f k := ⟨_, rfl⟩
        rw [← hx'] at F0 F1
        have hk0 : (0 : Int) ≤ (k : Int) := Int.natCast_nonneg _
        have hk1 : (k : Int) < (n : Int) := by omega
        have hne1 : ¬ (w.heap.size + 1 = w.heap.size + 1 + 1) := by omega
        have hne2 : ¬ (w.heap.size + 1 + 1 = w.heap.size + 1) := by omega
        have HX := Lib.hid hx'
        by_cases hm0 : m = 0
        · have x'0 : x' = 0 := by rw [hx']; exact HZ.out hm0 k
          have gm : (0 < m) = False := by simp; omega
          have HM0 := Lib.hid hm0
          clear hm0 hx'
          subst x'0
          go_wp2
          go_roundw
          case rel =>
            have e := HX.out
            refine ⟨k + 1, by omega, by go_num, by simp only [mostF]; rw [← HM.out, ← e]; congr 1; omega, ?_, ?_, ?_, ?_⟩
            · refine (HTA.out.of_block (Below.heap_setCell _ _ _ _ (by show (w.heap.size + 1 + 1) ≠ (w.heap.size + 1); omega))).congr fun j hj => ?_
              by_cases hjk : j = k
              · subst hjk; rw [if_neg (Nat.lt_irrefl _), if_pos (by omega)]; exact e
              · by_cases h9 : j < k
                · rw [if_pos h9, if_pos (by omega)]
                · rw [if_neg h9, if_neg (by omega)]
            · refine TimesAt.set HTB.out hlt fun j => ?_
              by_cases hjk : j = k
              · subst hjk; rw [if_pos rfl, if_pos (by omega), ← e]; omega
              · rw [if_neg hjk]
                by_cases h9 : j < k
                · rw [if_pos h9, if_pos (by omega)]
                · rw [if_neg h9, if_neg (by omega)]
            · exact (Below.heap_setCell _ _ _ _ (by show w.heap.size ≠ (w.heap.size + 1); omega)).trans HS.out
            · exact HB.out.setCell (p := ⟨(w.heap.size + 1), k, none⟩) (by show w.heap.size ≤ (w.heap.size + 1); omega) _
          case measure => simp [intOf]; omega
        · obtain ⟨b, off, rfl, hbl, hcc⟩ := HC.out k (by omega)
          obtain ⟨r, hr⟩ : ∃ r, r = k % m := ⟨_, rfl⟩
          have hrm : r < m := by rw [hr]; exact Nat.mod_lt _ (by omega)
          have hr1 : Int.tmod (k : Int) (m : Int) = (r : Int) := by rw [rem_nat, ← hr]
          have hr2 : (k : Int) % (m : Int) = (r : Int) := by rw [hr]; simp
          rw [← hr, ← hx'] at hcc
          have hc2 : wr.cell? ⟨b, off + r, none⟩ = some (.int .u8 x') := (HB.out.cell (p := ⟨b, off + r, none⟩) hbl).trans hcc
          have hm00 : ((m : Int) == 0) = false := by simp [hm0]
          have gm : (0 < m) = True := by simp; omega
          have hr3 : (0 : Int) ≤ (r : Int) := Int.natCast_nonneg _
          have hr4 : (r : Int) < (m : Int) := by omega
          clear hr hx' hcc hm0
          go_wp2
          go_roundw
          case rel =>
            have e := HX.out
            refine ⟨k + 1, by omega, by go_num, by simp only [mostF]; rw [← HM.out, ← e]; congr 1; first | rfl | (split <;> omega) | omega, ?_, ?_, ?_, ?_⟩
            · refine (TimesAt.set (t' := fun j => if j < k + 1 then f j else 0) HTA.out hlt fun j => ?_).of_block (Below.heap_setCell _ _ _ _ (by show (w.heap.size + 1 + 1) ≠ (w.heap.size + 1); omega))
              by_cases hjk : j = k
              · subst hjk; rw [if_pos rfl, if_pos (by omega)]; exact e.symm
              · rw [if_neg hjk]
                by_cases h9 : j < k
                · rw [if_pos h9, if_pos (by omega)]
                · rw [if_neg h9, if_neg (by omega)]
            · refine TimesAt.set (HTB.out.of_block (Below.heap_setCell _ _ _ _ (by show (w.heap.size + 1) ≠ (w.heap.size + 1 + 1); omega))) hlt fun j => ?_
              by_cases hjk : j = k
              · subst hjk; rw [if_pos rfl, if_pos (by omega), ← e]
              · rw [if_neg hjk]
                by_cases h9 : j < k
                · rw [if_pos h9, if_pos (by omega)]
                · rw [if_neg h9, if_neg (by omega)]
            · exact (Below.heap_setCell _ _ _ _ (by show w.heap.size ≠ (w.heap.size + 1); omega)).trans ((Below.heap_setCell _ _ _ _ (by show w.heap.size ≠ (w.heap.size + 1 + 1); omega)).trans HS.out)
            · exact (HB.out.setCell (p := ⟨(w.heap.size + 1 + 1), k, none⟩) (by show w.heap.size ≤ (w.heap.size + 1 + 1); omega) _).setCell (p := ⟨(w.heap.size + 1), k, none⟩) (by show w.heap.size ≤ (w.heap.size + 1); omega) _
          case measure => simp [intOf]; omega
      · have hkn : n = k := by omega
        clear hlt hk
        subst hkn
        have hia : IntsAt wr (.slice (some ⟨(w.heap.size + 1 + 1), 0, none⟩) n n) (listOf f n) := (HTA.out.congr fun j hj => if_pos hj).list
        have hib : IntsAt wr (.slice (some ⟨(w.heap.size + 1), 0, none⟩) n n) (listOf (fun j => f j + l) n) := (HTB.out.congr fun j hj => if_pos hj).list
        have hba : ∀ w1, Below wr.heap.size wr w1 → Calls Tryd.prog 39 #[.agg #[.int .i64 W, .int .i64 H, .int .i64 1], .slice (some ⟨(w.heap.size + 1 + 1), 0, none⟩) n n] w1 (BarGot (barL W (listOf f n)) 0 w1) := fun w1 hb =>
          (barrier_ok W H 1 HCK.out _ n n (listOf f n) (listOf_len _ _).symm HN.out w1 (hia.below hb)).mono fun e w' h => h.1 (allIn_list fun j _ => by have := HF.out j; omega)
        have hbb : ∀ w1, Below wr.heap.size wr w1 → Calls Tryd.prog 39 #[.agg #[.int .i64 W, .int .i64 H, .int .i64 1], .slice (some ⟨(w.heap.size + 1), 0, none⟩) n n] w1 (BarGot (barL W (listOf (fun j => f j + l) n)) 0 w1) := fun w1 hb =>
          (barrier_ok W H 1 HCK.out _ n n (listOf (fun j => f j + l) n) (listOf_len _ _).symm HN.out w1 (hib.below hb)).mono fun e w' h => h.1 (allIn_list fun j _ => by have := HF.out j; omega)
        have HBA := Lib.hid hba
        have HBB := Lib.hid hbb
        clear hia hib hba hbb
        have hLa : (barL W (listOf f n)).length = n := by rw [barL_len, listOf_len]
        have hLb : (barL W (listOf (fun j => f j + l) n)).length = n := by rw [barL_len, listOf_len]
        obtain ⟨LA, hLA⟩ : ∃ LA, LA = barL W (listOf f n) := ⟨_, rfl⟩
        obtain ⟨LB, hLB⟩ : ∃ LB, LB = barL W (listOf (fun j => f j + l) n) := ⟨_, rfl⟩
        have hA : ∀ w1, Below wr.heap.size wr w1 → Calls Tryd.prog 39 #[.agg #[.int .i64 W, .int .i64 H, .int .i64 1], .slice (some ⟨(w.heap.size + 1 + 1), 0, none⟩) n n] w1 (Got1 n LA w1) := fun w1 hb => (HBA.out w1 hb).mono fun e w' h => by rw [← hLA] at h; exact got1_of (by rw [hLA]; exact hLa) h
        have hB : ∀ w1, Below wr.heap.size wr w1 → Calls Tryd.prog 39 #[.agg #[.int .i64 W, .int .i64 H, .int .i64 1], .slice (some ⟨(w.heap.size + 1), 0, none⟩) n n] w1 (Got1 n LB w1) := fun w1 hb => (HBB.out w1 hb).mono fun e w' h => by rw [← hLB] at h; exact got1_of (by rw [hLB]; exact hLb) h
        have hla : ∀ j, j < n → LA[j]?.getD 0 = last W f n + (dep W j : Nat) := fun j hj => by rw [hLA]; exact barL_list hj
        have hlb : ∀ j, j < n → LB[j]?.getD 0 = last W f n + l + (dep W j : Nat) := fun j hj => by rw [hLB, barL_list hj, last_add]
        have hmf : M ≤ last W f n := by
          rw [HM.out]
          refine mostF_le f _ ?_ n fun j hj => ?_
          · have h9 := last_ge (W := W) (t := f) (n := n) (j := 0) (by omega); have := (HF.out 0).1; omega
          · have h9 := last_ge (W := W) (t := f) hj; omega
        have hlm : last W f n ≤ M + ((W + H - 2 : Nat) : Int) := by
          refine last_le (W := W) (H := H) (by omega) HN.out (by omega) fun j hj => ?_
          rw [HM.out]; exact mostF_ge f n j hj
        obtain ⟨G, hG⟩ : ∃ G, G = last W f n := ⟨_, rfl⟩
        rw [← hG] at hla hlb hmf hlm
        have HA := Lib.hid hA
        have HB' := Lib.hid hB
        have HLA := Lib.hid hla
        have HLB := Lib.hid hlb
        have HLM := Lib.hid hlm
        have HSS := Lib.hid HS.out
        clear HBA HBB hLa hLb hLA hLB hA hB hla hlb hlm hG
        obtain ⟨s0, s1, s2⟩ := HS.out.cells
        have hzr : w.heap.size < wr.heap.size := HS.out.lt
        go_wp2_with fail
        go_at_call 39
        refine (HA.out _ (Below.refl _ _)).mono ?_
        rintro e w5 ⟨a5, c5, rfl, hi5, hb5⟩
        have hz5 : wr.heap.size ≤ w5.heap.size := hb5.size
        have hs5 : SpecAt w5 w.heap.size W H 1 := (hb5.block _ hzr).trans HSS.out
        obtain ⟨_, _, _⟩ := hs5.cells
        have HS5 := Lib.hid hs5
        have HI5 := Lib.hid hi5
        have HB5 := Lib.hid hb5
        clear hi5 hb5 hs5
        go_wp2_with fail
        go_at_call 39
        refine (HB'.out _ HB5.out).mono ?_
        rintro e w6 ⟨a6, c6, rfl, hi6, hb6⟩
        have hs6 : SpecAt w6 w.heap.size W H 1 := (hb6.block _ (by omega)).trans HS5.out
        have hz6 : w5.heap.size ≤ w6.heap.size := hb6.size
        have hj5 := HI5.out.below hb6
        have HS6 := Lib.hid hs6
        have HI6 := Lib.hid hi6
        have HJ5 := Lib.hid hj5
        have HB6 := Lib.hid hb6
        clear hi6 hb6 hj5 hs6
        go_wp2_with fail
        have hq6 : Below w.heap.size w w6 := (HB.out.trans (HB5.out.mono (Nat.le_of_lt hzr))).trans (HB6.out.mono (by omega))
        have HQ6 := Lib.hid hq6
        clear hq6
        go_loopw [100] (fun s wr => ∃ k : Nat, k ≤ n ∧ s = .int .i64 k ∧ ∃ d, wr = w6.drewN d) (fun s _ => n - (intOf s).toNat)
        case atStart => exact ⟨0, Nat.zero_le _, by go_num, 0, rfl⟩
        case round =>
          obtain ⟨k, hk, rfl, d, rfl⟩ := hrel
          have hbd : Below w.heap.size w (w6.drewN d) := below_drewN HQ6.out d
          have HBD := Lib.hid hbd
          clear hbd
          by_cases hlt : k < n
          · obtain ⟨b5, o5, rfl, c1⟩ := HJ5.out.cellAt (by omega) k hlt
            obtain ⟨b6, o6, rfl, c2⟩ := HI6.out.cellAt (by omega) k hlt
            rw [HLA.out k hlt] at c1
            rw [HLB.out k hlt] at c2
            have hdk := dep_le (W := W) (H := H) (k := k) (by omega) (by have := HN.out; omega)
            obtain ⟨D, hD⟩ : ∃ D : Int, D = ((dep W k : Nat) : Int) := ⟨_, rfl⟩
            rw [← hD] at c1 c2
            obtain ⟨X, hX9⟩ : ∃ X : Int, X = G + D := ⟨_, rfl⟩
            have hlm := HLM.out
            have e2 : G + l + D = X + l := by omega
            rw [← hX9] at c1
            rw [e2] at c2
            have X0 : M ≤ X := by omega
            have X1 : X ≤ M + 2 * ((W : Int) + (H : Int) - 2) := by omega
            have X2 : X ≤ 400 := by omega
            obtain ⟨_, _, _⟩ := HS6.out.cells
            have q1 : (X < M) = False := by simp; omega
            have q2 : (M + 2 * ((W : Int) + (H : Int) - 2) < X) = False := by simp; omega
            have q3 : ((X + l) != (X + l)) = false := by simp
            have hk0 : (0 : Int) ≤ (k : Int) := Int.natCast_nonneg _
            have hk1 : (k : Int) < (n : Int) := by omega
            clear hD hX9 hlm e2 hdk
            go_wp2_with fail
            go_quiet (fail)
            go_wp2
            go_roundw
            case rel => exact ⟨k + 1, by omega, by go_num, _, rfl⟩
            case measure => simp [intOf]; omega
          · have hkn : n = k := by omega
            clear hlt hk
            subst hkn
            go_wp2_with (go_at_call 13; refine (works_any _ (HG.out.below HBD.out)).mono ?_; rintro e w9 ⟨rfl, hb9⟩)
            go_ret
            exact ⟨rfl, HBD.out.trans (hb9.mono HBD.out.size)⟩

theorem wf8 {x : Int} (h : (Lit.int .u8 x).wf = true) : 0 ≤ x ∧ x ≤ 255 := by
  simpa [Lit.wf, IntKind.min, IntKind.max, IntKind.signed, IntKind.bits] using h
theorem walk (x : Int) (wx : (Lit.int .u8 x).wf = true) (y : Int) (wy : (Lit.int .u8 y).wf = true) (a : Option Addr) (cap : Nat) (zs : List Int) (hm : zs.length ≤ 9223372036854775807) (hw : ∀ z ∈ zs, (Lit.int .u8 z).wf = true) (l : Int) (wl : (Lit.int .u8 l).wf = true) (w : World) (hg : Ev.GlobIn tables w) (hI : KAt .u8 w (.slice a zs.length cap) zs) :
    Calls Tryd.prog 12 #[.int .u8 x, .int .u8 y, .slice a zs.length cap, .int .u8 l] w fun e w' => e = .returned (.bool true) ∧ Below w.heap.size w w' := by
  obtain ⟨x0, x1⟩ := wf8 wx
  obtain ⟨y0, y1⟩ := wf8 wy
  obtain ⟨l0, l1⟩ := wf8 wl
  exact walk_at x y l x0 x1 y0 y1 l0 l1 (1 + x % 8).toNat (1 + y % 8).toNat (by omega) (by omega) a cap zs hm (fun z hz => wf8 (hw z hz)) w hg hI

set_option maxRecDepth 100000 in
theorem lifted (os : Os) (started : os.Started) (H : Type) (enc : TypeId × Value → H) :
    ReturnsInHanded {} Tryd.checked os 12 .any (fun w args => (Rows.meshTogetherSpec.pre enc Tryd.prog Tryd.f12 [] false w args ∧ laidMetH Tryd.prog laid2 w) ∧ sizedMet enc Tryd.prog Tryd.f12 (OpenSpec.ofChange Rows.meshTogetherSpec) false w args)
      (Rows.meshTogetherSpec.post enc Tryd.prog Tryd.f12 false true false false) := by
  refine returnsInHanded_of_change_and (C := Tryd.checked) (X := fun w _ => laidMetH Tryd.prog laid2 w) (fun _ _ _ hh h => h.of_heap hh) own started (by kernel_rfl) Tryd.func12
    (ChangeSpec.witness_shaped (enc := enc) (C := Tryd.checked) (os := os) (X := fun w _ => laidMetH Tryd.prog laid2 w) false (World.doorLaid Tryd.prog 19 os) #[.int .u8 0, .int .u8 0, .slice none 0 0, .int .u8 0] 8 rfl (World.shaped_of_RefB (by kernel_rfl) (by kernel_rfl)) (by kernel_rfl) (by kernel_rfl) (by kernel_rfl) (door_met os _)) ?_
  intro W base args ds gs before hval0 hW _ _ hL _
  have hval : ∀ (j : Nat) t v, Tryd.f12.params[j]? = some t → args[j]? = some v → Value.okWide Tryd.prog W .any base t v := hval0
  have hW' := hW
  obtain ⟨p, q, hA0, hV, rfl, hfz, hnd⟩ := hW
  have hA : DataW.TrodAll enc Tryd.prog W 0 (fun _ => true) true Tryd.f12.params.toList args.toList ds p := hA0
  rw [Tryd.params12] at hA hval
  have hAll := hA
  obtain ⟨v0, vs0, d0, ds0, p0, q0, hargs, rfl, rfl, h0, r0⟩ := trodAll_cons hA
  obtain ⟨v1, vs1, d1, ds1, p1, q1, rfl, rfl, rfl, h1, r1⟩ := trodAll_cons r0
  obtain ⟨v2, vs2, d2, ds2, p2, q2, rfl, rfl, rfl, h2, r2⟩ := trodAll_cons r1
  obtain ⟨v3, vs3, d3, ds3, p3, q3, rfl, rfl, rfl, h3, r3⟩ := trodAll_cons r2
  obtain ⟨rfl, rfl, rfl⟩ := trodAll_nil r3
  obtain rfl : args = #[v0, v1, v2, v3] := by cases args; simp_all
  obtain ⟨rfl, rfl⟩ := trodVars_none hV
  obtain ⟨a0, rfl, rfl, rfl, w0⟩ := open_int Tryd.underlying5 (hval 0 5 v0 rfl rfl) h0
  obtain ⟨a1, rfl, rfl, rfl, w1⟩ := open_int Tryd.underlying5 (hval 1 5 v1 rfl rfl) h1
  obtain ⟨sa2, sn2, sc2, zs2, rfl, hl2, hi2, hm2, hw2⟩ := open_slice_k Tryd.underlying91 Tryd.underlying5 (by kernel_rfl) (hval 2 91 v2 rfl rfl) h2
  subst hl2
  obtain ⟨a3, rfl, rfl, rfl, w3⟩ := open_int Tryd.underlying5 (hval 3 5 v3 rfl rfl) h3
  have hG := tables_of_laid hL
  clear hA0 hval0 hL
  refine (walk a0 w0 a1 w1 sa2 sc2 zs2 hm2 hw2 a3 w3 W hG hi2).mono fun e W' ⟨he, bel⟩ => ?_
  subst he
  have hback := trodAll_below bel [5, 5, 91, 5] (by intro t ht; simp at ht; rcases ht with rfl | rfl | rfl | rfl <;> exact ⟨by kernel_rfl, of_decide_eq_true (by kernel_rfl)⟩) hAll
  exact ⟨_, rfl, _, _, _, [], _, [], hW', trodAll_mk1 (shut_bool Tryd.underlying4 _), hback, rfl, bel.frame _, fun h => by cases h⟩

theorem over : Rows.meshTogetherRow.holds Tryd.pinned (OpenSpec.ofChange Rows.meshTogetherSpec) :=
  OpenClaim.holds_of_wide 12 Tryd.f12 rfl rfl rfl rfl rfl rfl rfl ⟨rfl, rfl, rfl, rfl, rfl⟩ rfl rfl rfl rfl rfl (by kernel_rfl) Tryd.func12 (by kernel_rfl)
    (of_decide_eq_true (by kernel_rfl)) (by unfold Func.isWrapper; first | (rw [if_pos (by decide +kernel)]; kernel_rfl) | (rw [if_neg (by decide +kernel)]; exact ⟨rfl, rfl⟩))
    (fun os started H enc _ => lifted os started H enc)

theorem proved : Rows.MeshTogetherCardSaid :=
  Claim7.holds_tied_plain_at .later [] [.data, .data] true (true, "b59ee36b3a81e410288fb087d07f6e24e760e63666c234228ef18b30e2139d21") false
    over (fun _ h => by cases h) (by kernel_rfl) (fun _ h => by cases h) meshTogether_row_tie rfl ⟨rfl, rfl⟩ (by kernel_rfl) rfl
    (fun f fn hf hfn => by
      obtain rfl : f = 12 := Option.some.inj ((show Tryd.prog.funcNamed "ganglion/ganglionlaw04.MeshTogether" = some 12 by kernel_rfl).symm.trans hf) |>.symm
      obtain rfl : fn = Tryd.f12 := (Option.some.inj (Tryd.func12.symm.trans hfn)).symm
      exact ⟨by kernel_rfl, fun j t ht => by
        rw [Tryd.params12] at ht
        have hm : t ∈ [5, 5, 91, 5] := by simpa using Array.mem_of_getElem? ht
        have hall : ([5, 5, 91, 5].all fun u => !Tryd.prog.wantsStandIn u) = true := by kernel_rfl
        exact (show Tryd.prog.wantsStandIn t = false by simpa using List.all_eq_true.1 hall t hm)⟩)
    (by kernel_rfl)

end Go.Proofs.YtlkcpnhepadenaaDoor.meshTogether
