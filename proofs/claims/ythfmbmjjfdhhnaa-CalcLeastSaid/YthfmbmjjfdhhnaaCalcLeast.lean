/- For every list of differences and every rate the law CalcLeast returns true: Burst is the least burst that the times keep, and Keeps says so. No condition. (mk_Dd.py wrote this.) -/
import Derived.Test.YthfmbmjjfdhhnaaDd
import Derived.Test.YthfmbmjjfdhhnaaDv
import Derived.Lib.SmallJoins
namespace Go.Proofs.Ythfmbmjjfdhhnaa.calcLeast
open Go.ChangeShapes Go.WideShapes Go.ChangeAt Go.RowKit
set_option linter.unusedVariables false

set_option maxRecDepth 100000 in
set_option maxHeartbeats 4000000 in
theorem walk (zs : List Int) (a : Option Addr) (cap : Nat) (hw : ∀ z ∈ zs, (Lit.int .u8 z).wf = true) (x : Int) (hx : (Lit.int .u16 x).wf = true) (w : World) (hc : KAt .u8 w (.slice a zs.length cap) zs) :
    Calls Try.prog 4 #[.slice a zs.length cap, .int .u16 x] w fun e w' => e = .returned (.bool true) ∧ Below w.heap.size w w' := by
  have hz : ∀ z ∈ zs, 0 ≤ z ∧ z ≤ 255 := fun z h => by have := hw z h; simp only [Lit.wf, Bool.and_eq_true, decide_eq_true_eq] at this; exact this
  have hx' : 0 ≤ x ∧ x ≤ 65535 := by simp only [Lit.wf, Bool.and_eq_true, decide_eq_true_eq] at hx; exact hx
  by_cases hl : 60 < zs.length
  · have z : ((zs.length : Int) > 60) = True := by simp; omega
    clear hc hw hz hx
    generalize zs.length = n at *
    go_enter Try.func4, Try.ntmps4
    go_wp2_with (go_at_call 6; refine (Lf.works_any _).mono ?_; rintro e w1 ⟨rfl, hb1⟩)
    go_ret
    exact ⟨rfl, hb1⟩
  · have z : ((zs.length : Int) > 60) = False := by simp; omega
    have hri := rise_any zs a cap (by omega) hz w hc
    have hti := rise_times zs (by omega)
    have hrl := riseL_length zs zs.length
    generalize riseL zs zs.length = l at *
    obtain ⟨r, hr⟩ : ∃ r, r = x % 1025 := ⟨_, rfl⟩
    have hrr : 0 ≤ r ∧ r ≤ 1024 := by omega
    have e1 : x.tmod 1025 = r := by rw [hr]; exact Int.tmod_eq_emod_of_nonneg hx'.1
    have e2 : wrap64 x = x := by unfold wrap64; omega
    have e3 : wrap64 r = r := by unfold wrap64; omega
    have e4 : wrap64 (x.tmod 1025) = r := by rw [e1, e3]
    have HRI := Lib.hid hri
    have HTI := Lib.hid hti
    have HRL := Lib.hid hrl
    have HL := Lib.hid hl
    have HRR := Lib.hid hrr
    clear hri hti hrl hl hw hz hx hx' hc hr hrr
    generalize zs.length = n at *
    go_enter Try.func4, Try.ntmps4
    go_wp2_with (fail)
    go_at_call 14
    refine HRI.out.mono ?_
    rintro e w1 ⟨a', c', rfl, hk, hb1⟩
    have hlc := least_calls (riseF zs) l a' c' r HTI.out (by have := HRL.out; have := HL.out; omega) HRR.out w1 hk
    have hm : l.length ≤ 60 := by have := HRL.out; have := HL.out; omega
    generalize bur (riseF zs) r l.length = U at *
    generalize l.length = m at *
    have hU0 := hlc.lo
    have hU1 := hlc.hi
    have LC := Lib.hid hlc
    have HB1 := Lib.hid hb1
    have Q1 := Lib.hid (Below.refl w1.heap.size w1)
    have z2 : (U < 0) = False := by simp; omega
    have z3 : (U ≤ 65536) = True := by simp; omega
    have z4 : (U - 1 ≤ 65536) = True := by simp; omega
    have z5 : (U ≤ 65537) = True := by simp; omega
    have w5 : wrap64 (U - 1) = U - 1 := by unfold wrap64; omega
    clear hlc hb1 hk
    by_cases hu0 : 0 < U
    · have z6 : (0 < U) = True := by simp [hu0]
      have hu := Lib.hid hu0
      clear hu0 hU0 hU1 hm
      go_wp2_with (fail)
      go_at_call 15
      refine (LC.out.burst w1 Q1.out).mono ?_
      rintro e w2 ⟨rfl, hb2⟩
      have Q2 := Lib.hid (Q1.out.trans (hb2.mono Q1.out.size))
      clear hb2
      go_wp2_with (fail)
      go_at_call 17
      refine (curve_any _ _ w2).mono ?_
      rintro e w3 ⟨rfl, hb3⟩
      have Q3 := Lib.hid (Q2.out.trans (hb3.mono Q2.out.size))
      clear hb3
      go_wp2_with (fail)
      go_at_call 16
      refine (LC.out.yes w3 Q3.out).mono ?_
      rintro e w4 ⟨rfl, hb4⟩
      have Q4 := Lib.hid (Q3.out.trans (hb4.mono Q3.out.size))
      clear hb4
      go_wp2_with (fail)
      go_at_call 17
      refine (curve_any _ _ w4).mono ?_
      rintro e w5 ⟨rfl, hb5⟩
      have Q5 := Lib.hid (Q4.out.trans (hb5.mono Q4.out.size))
      clear hb5
      go_wp2_with (fail)
      go_at_call 16
      refine (LC.out.no hu.out w5 Q5.out).mono ?_
      rintro e w6 ⟨rfl, hb6⟩
      have Q6 := Lib.hid (Q5.out.trans (hb6.mono Q5.out.size))
      clear hb6
      go_wp2_with (fail)
      go_at_call 17
      refine (curve_any _ _ w6).mono ?_
      rintro e w7 ⟨rfl, hb7⟩
      have Q7 := Lib.hid (Q6.out.trans (hb7.mono Q6.out.size))
      clear hb7
      go_wp2_with (fail)
      go_at_call 18
      refine (LC.out.cyes w7 Q7.out).mono ?_
      rintro e w8 ⟨rfl, hb8⟩
      have Q8 := Lib.hid (Q7.out.trans (hb8.mono Q7.out.size))
      clear hb8
      go_wp2_with (fail)
      go_at_call 17
      refine (curve_any _ _ w8).mono ?_
      rintro e w9 ⟨rfl, hb9⟩
      have Q9 := Lib.hid (Q8.out.trans (hb9.mono Q8.out.size))
      clear hb9
      go_wp2_with (fail)
      go_at_call 18
      refine (LC.out.cno hu.out w9 Q9.out).mono ?_
      rintro e w10 ⟨rfl, hb10⟩
      have Q10 := Lib.hid (Q9.out.trans (hb10.mono Q9.out.size))
      clear hb10
      go_wp2_with (fail)
      go_at_call 6
      refine (Lf.works_any w10).mono ?_
      rintro e w11 ⟨rfl, hb11⟩
      have Q11 := Lib.hid (Q10.out.trans (hb11.mono Q10.out.size))
      clear hb11
      go_wp2
      go_ret
      exact ⟨rfl, HB1.out.trans (Q11.out.mono HB1.out.size)⟩
    · have z6 : (0 < U) = False := by simp [hu0]
      clear hu0 hU0 hU1 hm
      go_wp2_with (fail)
      go_at_call 15
      refine (LC.out.burst w1 Q1.out).mono ?_
      rintro e w2 ⟨rfl, hb2⟩
      have Q2 := Lib.hid (Q1.out.trans (hb2.mono Q1.out.size))
      clear hb2
      go_wp2_with (fail)
      go_at_call 17
      refine (curve_any _ _ w2).mono ?_
      rintro e w3 ⟨rfl, hb3⟩
      have Q3 := Lib.hid (Q2.out.trans (hb3.mono Q2.out.size))
      clear hb3
      go_wp2_with (fail)
      go_at_call 16
      refine (LC.out.yes w3 Q3.out).mono ?_
      rintro e w4 ⟨rfl, hb4⟩
      have Q4 := Lib.hid (Q3.out.trans (hb4.mono Q3.out.size))
      clear hb4
      go_wp2_with (fail)
      go_at_call 17
      refine (curve_any _ _ w4).mono ?_
      rintro e w5 ⟨rfl, hb5⟩
      have Q5 := Lib.hid (Q4.out.trans (hb5.mono Q4.out.size))
      clear hb5
      go_wp2_with (fail)
      go_at_call 18
      refine (LC.out.cyes w5 Q5.out).mono ?_
      rintro e w6 ⟨rfl, hb6⟩
      have Q6 := Lib.hid (Q5.out.trans (hb6.mono Q5.out.size))
      clear hb6
      go_wp2_with (fail)
      go_at_call 6
      refine (Lf.works_any w6).mono ?_
      rintro e w7 ⟨rfl, hb7⟩
      have Q7 := Lib.hid (Q6.out.trans (hb7.mono Q6.out.size))
      clear hb7
      go_wp2
      go_ret
      exact ⟨rfl, HB1.out.trans (Q7.out.mono HB1.out.size)⟩

set_option maxRecDepth 100000 in
theorem lifted (os : Os) (started : os.Started) (H : Type) (enc : TypeId × Value → H) :
    ReturnsInHanded {} Try.checked os 4 .any (Rows.calcLeastSpec.pre6 enc Try.prog Try.f4 Rows.calcLeastRow.domain false) (Rows.calcLeastSpec.post enc Try.prog Try.f4 false true false false) := by
  refine returnsInHanded_of_change (C := Try.checked) Lf.own started (by kernel_rfl) Try.func4
    (ChangeSpec.witness6 (enc := enc) (C := Try.checked) false ⟨#[], #[.slice none 0 0, .int .u16 0], []⟩ 8 (by kernel_rfl) (by kernel_rfl) (by kernel_rfl) (by kernel_rfl)) ?_
  intro W base args ds gs before hval0 hW hcnd hsz
  have hval : ∀ (j : Nat) t v, Try.f4.params[j]? = some t → args[j]? = some v → Value.okWide Try.prog W .any base t v := hval0
  have hW' := hW
  obtain ⟨p, q, hA0, hV, rfl, hfz, hnd⟩ := hW
  have hA : DataW.TrodAll enc Try.prog W 0 (fun _ => true) true Try.f4.params.toList args.toList ds p := hA0
  rw [Try.params4] at hA hval
  have hAll := hA
  obtain ⟨v0, vs0, d0, ds0, p0, q0, hargs, rfl, rfl, h0, r0⟩ := trodAll_cons hA
  obtain ⟨v1, vs1, d1, ds1, p1, q1, rfl, rfl, rfl, h1, r1⟩ := trodAll_cons r0
  obtain ⟨rfl, rfl, rfl⟩ := trodAll_nil r1
  obtain rfl : args = #[v0, v1] := by cases args; simp_all
  obtain ⟨rfl, rfl⟩ := trodVars_none hV
  obtain ⟨sa0, sc0, zs0, rfl, hi0, hw0⟩ := open_slice_k Try.underlying40 Try.underlying5 (by kernel_rfl) (hval 0 40 v0 rfl rfl) h0
  obtain ⟨a1, rfl, rfl, rfl, w1⟩ := open_int Try.underlying41 (hval 1 41 v1 rfl rfl) h1
  clear hA0 hval0
  refine (walk zs0 sa0 sc0 hw0 a1 w1 W hi0).mono fun e W' ⟨he, bel⟩ => ?_
  subst he
  have hback := Lf.trodAll_below bel [40, 41] (by intro t ht; simp at ht; rcases ht with rfl | rfl <;> exact ⟨by kernel_rfl, of_decide_eq_true (by kernel_rfl)⟩) hAll
  exact ⟨_, rfl, _, _, _, [], _, [], hW', trodAll_mk1 (shut_bool Try.underlying4 _), hback, rfl, bel.frame _, fun h => by cases h⟩

theorem over : Rows.calcLeastRow.holds Try.pinned (OpenSpec.ofChange Rows.calcLeastSpec) :=
  OpenClaim.holds_of_wide 4 Try.f4 rfl rfl rfl rfl rfl rfl rfl ⟨rfl, rfl, rfl, rfl, rfl⟩ rfl rfl rfl rfl rfl (by kernel_rfl) Try.func4 (by kernel_rfl)
    (of_decide_eq_true (by kernel_rfl)) (by unfold Func.isWrapper; first | (rw [if_pos (by decide +kernel)]; kernel_rfl) | (rw [if_neg (by decide +kernel)]; exact ⟨rfl, rfl⟩))
    (fun os started H enc _ => lifted os started H enc)

theorem proved : Rows.CalcLeastSaid := over

end Go.Proofs.Ythfmbmjjfdhhnaa.calcLeast
