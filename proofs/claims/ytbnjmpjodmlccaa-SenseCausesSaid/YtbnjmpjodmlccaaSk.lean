/- sense.Hear. Over this seat's program; the condition is named. (mk_Sk.py wrote this.) -/
import Derived.Test.YtbnjmpjodmlccaaSj
namespace Go.Proofs.Ytbnjmpjodmlccaa
set_option linter.unusedVariables false
open Go.RowKit Go.Shelf

/-- The error of Hear, and its events. -/
def heE (T B : Int) (l : List Int) : Int := if (inR T 1 16 && inR B 1 32767) = false then 3 else if 4096 < l.length then 9 else if (l.all fun x => inR x (-32767) 32767) = false then 3 else 0
def heL (T B : Int) (l : List Int) : List Evx := if heE T B l = 0 then erL B T.toNat l else []
theorem erL_short {C : Nat} {S : Int} (h : ErOk C S) {l : List Int} (hl : l.length ≤ 4096) : (erL S C l).length ≤ 65536 := by
  have h1 := erL_le S C l
  have h2 : l.length * C ≤ 4096 * 16 := Nat.mul_le_mul hl h.c1
  omega
theorem heL_le (T B : Int) (l : List Int) : (heL T B l).length ≤ 65536 := by
  unfold heL
  split
  · rename_i h
    unfold heE at h
    split at h
    · cases h
    · rename_i h1
      split at h
      · cases h
      · have k : inR T 1 16 = true ∧ inR B 1 32767 = true := by simpa using h1
        have k1 := inR_true.1 k.1
        have k2 := inR_true.1 k.2
        exact erL_short ⟨by omega, by omega, k2.1, k2.2⟩ (by omega)
  · simp

set_option maxRecDepth 100000 in
set_option maxHeartbeats 2000000 in
theorem hear_any (T B : Int) (l : List Int) (hl : l.length ≤ 10000) (a : Option Addr) (cap : Nat) (w : World) (hk : KAt .i64 w (.slice a l.length cap) l) :
    Calls Try.prog 23 #[.agg #[.int .i64 T, .int .i64 B], .slice a l.length cap] w (EvGot (heL T B l) (heE T B l) w) := by
  obtain ⟨n, hn⟩ : ∃ n, n = l.length := ⟨_, rfl⟩
  have HK := Lib.hid hk
  have HN := Lib.hid hn
  rw [← hn] at hl HK ⊢
  obtain ⟨E, hE⟩ : ∃ E, E = heE T B l := ⟨_, rfl⟩
  obtain ⟨L, hL⟩ : ∃ L, L = heL T B l := ⟨_, rfl⟩
  have hLL : L = if E = 0 then erL B T.toNat l else [] := by rw [hL, hE]; rfl
  rw [← hE, ← hL]
  unfold heE at hE
  rw [← hn] at hE
  have HL := Lib.hid hLL
  have HE := Lib.hid hE
  clear hk hn hL hLL hE
  have b0 : Below w.heap.size w (w.alloc (.cells #[.int .i64 T, .int .i64 B] 47)) := (Below.refl _ _).alloc (Nat.le_refl _) _
  have x0 : (w.alloc (.cells #[.int .i64 T, .int .i64 B] 47)).heap[w.heap.size]? = some (.cells #[.int .i64 T, .int .i64 B] 47) := alloc_new_at _ _ _ rfl
  have HB0 := Lib.hid b0
  have HX0 := Lib.hid x0
  clear b0 x0
  cases h1 : inR T 1 16 with
  | false =>
    have hE := HE.out
    simp [h1] at hE
    clear HE
    subst hE
    have hL := HL.out
    simp at hL
    subst hL
    go_enter Try.func23, Try.ntmps23
    go_wp2_with (go_at_call 51; refine (within_at _ _ _ _ _ (alloc_new_at _ _ _ (by simp))).mono ?_; rintro e w1 ⟨rfl, rfl⟩; rw [h1])
    exact bodyPost_ret (v := .tuple #[.slice none 0 0, .int .i64 3]) (by simp [results, Try.results23, go_sem]) rfl (evGot_err (HB0.out.alloc (by simp) _))
  | true =>
  cases h2 : inR B 1 32767 with
  | false =>
    have hE := HE.out
    simp [h1, h2] at hE
    clear HE
    subst hE
    have hL := HL.out
    simp at hL
    subst hL
    go_enter Try.func23, Try.ntmps23
    go_wp2_with (fail)
    go_at_call 51
    refine (within_at _ _ _ _ _ (alloc_new_at _ _ _ (by simp))).mono ?_
    rintro e w' ⟨rfl, rfl⟩
    rw [h1]
    have x1 := (Below.heap_alloc (w.alloc (.cells #[.int .i64 T, .int .i64 B] 47)) (.cells #[.int .i64 T] 3) _ (lt_of_block HX0.out)).trans HX0.out
    have hb1 := HB0.out.alloc HB0.out.size (.cells #[.int .i64 T] 3)
    generalize (w.alloc (.cells #[.int .i64 T, .int .i64 B] 47)).alloc (.cells #[.int .i64 T] 3) = w1 at *
    obtain ⟨c0, c1, _, _⟩ := cells2 x1
    have HB1 := Lib.hid hb1
    have hlt := lt_of_block x1
    clear hb1 x1
    go_wp2_with (go_at_call 51; refine (within_at _ _ _ _ _ (alloc_new_at _ _ _ rfl)).mono ?_; rintro e w2 ⟨rfl, rfl⟩; rw [h2])
    exact bodyPost_ret (v := .tuple #[.slice none 0 0, .int .i64 3]) (by simp [results, Try.results23, go_sem]) rfl (evGot_err (HB1.out.alloc HB1.out.size _))
  | true =>
  go_enter Try.func23, Try.ntmps23
  go_wp2_with (fail)
  go_at_call 51
  refine (within_at _ _ _ _ _ (alloc_new_at _ _ _ (by simp))).mono ?_
  rintro e w' ⟨rfl, rfl⟩
  rw [h1]
  have x1 := (Below.heap_alloc (w.alloc (.cells #[.int .i64 T, .int .i64 B] 47)) (.cells #[.int .i64 T] 3) _ (lt_of_block HX0.out)).trans HX0.out
  have hb1 := HB0.out.alloc HB0.out.size (.cells #[.int .i64 T] 3)
  generalize (w.alloc (.cells #[.int .i64 T, .int .i64 B] 47)).alloc (.cells #[.int .i64 T] 3) = w1 at *
  obtain ⟨c0, c1, _, _⟩ := cells2 x1
  have HB1 := Lib.hid hb1
  have hlt := lt_of_block x1
  have HX1 := Lib.hid x1
  clear hb1 x1
  go_wp2_with (fail)
  go_at_call 51
  refine (within_at _ _ _ _ _ (alloc_new_at _ _ _ rfl)).mono ?_
  rintro e w' ⟨rfl, rfl⟩
  rw [h2]
  have x2 := (Below.heap_alloc w1 (.cells #[.int .i64 B] 3) _ (lt_of_block HX1.out)).trans HX1.out
  have hb2 := HB1.out.alloc HB1.out.size (.cells #[.int .i64 B] 3)
  generalize w1.alloc (.cells #[.int .i64 B] 3) = w2 at *
  obtain ⟨d0, d1, _, _⟩ := cells2 x2
  have HB2 := Lib.hid hb2
  have hlt2 := lt_of_block x2
  clear hb2 c0 c1
  have HX2 := Lib.hid x2
  clear x2
  by_cases hbig : 4096 < n
  · have hE := HE.out
    simp [h1, h2, hbig] at hE
    clear HE
    subst hE
    have hL := HL.out
    simp at hL
    subst hL
    have g1 : ((4096 : Int) < (n : Int)) = True := by simp only [eq_iff_iff, iff_true]; omega
    clear h1 h2
    go_wp2
    exact bodyPost_ret (v := .tuple #[.slice none 0 0, .int .i64 9]) (by simp [results, Try.results23, go_sem]) rfl (evGot_err HB2.out)
  have g1 : ((4096 : Int) < (n : Int)) = False := by simp only [eq_iff_iff, iff_false]; omega
  have hW := fun (W : World) (hb : Below w.heap.size w W) => within_any (-32767) 32767 l a n cap HN.out (by omega) W (HK.out.below hb)
  have HW := Lib.hid hW
  clear hW
  cases h3 : (l.all fun x => inR x (-32767) 32767) with
  | false =>
    have hE := HE.out
    simp [h1, h2, hbig, h3] at hE
    clear HE
    subst hE
    have hL := HL.out
    simp at hL
    subst hL
    clear h1 h2
    go_wp2_with (go_at_call 51; refine (HW.out _ HB2.out).mono ?_; rintro e w3 ⟨rfl, rfl⟩; rw [h3])
    exact bodyPost_ret (v := .tuple #[.slice none 0 0, .int .i64 3]) (by simp [results, Try.results23, go_sem]) rfl (evGot_err HB2.out)
  | true =>
    have hE := HE.out
    simp [h1, h2, hbig, h3] at hE
    clear HE
    subst hE
    have hL := HL.out
    simp at hL
    subst hL
    have hok : ErOk T.toNat B := by
      have k1 := inR_true.1 h1
      have k2 := inR_true.1 h2
      exact ⟨by omega, by omega, k2.1, k2.2⟩
    have hv : ∀ x ∈ l, -32767 ≤ x ∧ x ≤ 32767 := fun x hx => inR_true.1 (List.all_eq_true.1 h3 x hx)
    have HTN := Lib.hid (show ((T.toNat : Nat) : Int) = T from by have k1 := inR_true.1 h1; omega)
    have HV := Lib.hid hv
    have HOK := Lib.hid hok
    clear h1 h2 hv hok
    go_wp2_with (fail)
    go_at_call 51
    refine (HW.out _ HB2.out).mono ?_
    rintro e w3 ⟨rfl, rfl⟩
    rw [h3]
    clear h3
    go_wp2_with (fail)
    go_at_call 60
    refine (heard_any T B _ _ ⟨_, _, _, rfl⟩).mono ?_
    rintro e w4 ⟨be, bl, rfl, hbe, hbl, hb4⟩
    have HB4 := Lib.hid (HB2.out.trans (hb4.mono HB2.out.size))
    have hG := heard1_gives T.toNat B HOK.out l n cap a HN.out (by omega) HV.out be bl w4 (by rw [HTN.out]; exact hbe) hbl (HK.out.below HB4.out)
    have hcap : ∀ b, (b = be ∨ b = bl ∨ dataB (.slice a n cap) b) → b < w4.heap.size := by
      rintro b (rfl | rfl | hb)
      · exact lt_of_block hbe
      · exact lt_of_block hbl
      · exact (HK.out.below HB4.out).lt hb
    have HGA := Lib.hid (gather_any (erL B T.toNat l) (erL_short HOK.out (by have := HN.out; omega)) _ _ enters_heard1 w4 _ hG hcap)
    clear hb4 hbl hbe hG hcap d0 d1
    go_wp2_with (fail)
    go_at_call 47
    refine HGA.out.mono ?_
    rintro e w5 ⟨v, rfl, ho, hb5⟩
    have HO := Lib.hid ho
    have HB5 := Lib.hid hb5
    clear ho hb5
    obtain ⟨va, vc, rfl⟩ := own_slC HO.out
    go_wp2
    exact bodyPost_ret (v := .tuple #[.slice va (erL B T.toNat l).length vc, .int .i64 0]) (by simp [results, Try.results23, go_sem]) rfl ⟨_, rfl, evxAt_of_owns HO.out, HB4.out.trans (HB5.out.mono HB4.out.size)⟩
end Go.Proofs.Ytbnjmpjodmlccaa
