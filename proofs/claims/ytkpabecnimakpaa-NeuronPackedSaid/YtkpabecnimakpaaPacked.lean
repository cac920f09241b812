/- For every neuron and every list of bytes the law NeuronPacked returns true. No condition. -/
import Derived.Test.YtkpabecnimakpaaZm
import Derived.Laws.BytesArg
namespace Go.Proofs.Ytkpabecnimakpaa.neuronPacked
open Go.ChangeShapes Go.WideShapes Go.ChangeAt Go.RowKit
set_option linter.unusedVariables false


/-- Pack's outcome, for every neuron. -/
def PackL (p : Prm) : List Int := if checkP p = 0 then bytesP p else []
def PackGot (p : Prm) (L : List Int) (n : Nat) (er : Int) (w : World) (e : Ending) (w' : World) : Prop := ∃ a cap, e = .returned (.tuple #[.slice a n cap, .int .i64 er]) ∧ KAt .u8 w' (.slice a L.length cap) L ∧ Below w.heap.size w w'
theorem pack_got (p : Prm) {L : List Int} {n : Nat} {er : Int} (hL : PackL p = L) (hn : n = L.length) (her : checkP p = er) (w : World) : Calls Try.prog 33 #[.agg #[.int .i64 p.lk, .int .i64 p.lv, .int .i64 p.bi, .int .i64 p.th, .int .i64 p.rk, .int .i64 p.rs, .int .i64 p.fl, .int .i64 p.re]] w (PackGot p L n er w) := by
  subst hL; subst hn; subst her
  by_cases hc : checkP p = 0
  · refine (pack_ok p hc w).mono ?_
    rintro e w' ⟨v, rfl, ho, hb⟩
    have hl : PackL p = bytesP p := by unfold PackL; rw [if_pos hc]
    rw [hl, hc]
    have ho' : w'.ownsRow w.heap.size 5 1 v (bytesP p).length (U8s (bytesP p)) := by rw [bytesP_len]; exact ho
    obtain ⟨a, cap, rfl, hk⟩ := kat_of_owns ho' (by rw [bytesP_len]; omega)
    exact ⟨a, cap, rfl, hk, hb⟩
  · refine (pack_err p hc w).mono ?_
    rintro e w' ⟨rfl, hb⟩
    have hl : PackL p = [] := by unfold PackL; rw [if_neg hc]
    rw [hl]
    exact ⟨none, 0, rfl, Or.inl ⟨rfl, rfl⟩, hb⟩
theorem packL_byte (p : Prm) : ∀ z ∈ PackL p, 0 ≤ z ∧ z ≤ 255 := by
  unfold PackL; split
  · exact bytesP_byte p ‹_›
  · intro z hz; cases hz
def UnpGot (q : Prm) (er : Int) (w : World) (e : Ending) (w' : World) : Prop := e = .returned (.tuple #[.agg #[.int .i64 q.lk, .int .i64 q.lv, .int .i64 q.bi, .int .i64 q.th, .int .i64 q.rk, .int .i64 q.rs, .int .i64 q.fl, .int .i64 q.re], .int .i64 er]) ∧ Below w.heap.size w w'
theorem unpack_got (a : Option Addr) (n cap : Nat) (L : List Int) (hn : n = L.length) {q : Prm} {er : Int} (hF : unF L = (q, er)) (hb : ∀ z ∈ L, 0 ≤ z ∧ z ≤ 255) (w : World) (h : KAt .u8 w (.slice a L.length cap) L) :
    Calls Try.prog 35 #[.slice a n cap] w (UnpGot q er w) := by
  subst hn
  refine (unpack_any a cap L hb w h).mono ?_
  rintro e w' ⟨rfl, hb⟩
  rw [hF]; exact ⟨rfl, hb⟩

theorem conv_kat {W : World} {a : Option Addr} {n cap : Nat} {L : List Int} (h : KAt .u8 W (.slice a L.length cap) L) (hn : n = L.length) (h0 : 0 < n) : (convert 44 9 (.slice a n cap)).run Try.prog W = .ok (.string (strOfNums L)) W := by
  subst hn
  rcases h with ⟨_, rfl⟩ | ⟨b, off, cap', e, hc⟩
  · simp at h0
  · cases e
    refine run_convert_bytes_arg W 44 5 Try.underlying44 Try.underlying5 b off L.length cap L rfl (fun i hi => ?_) 9 Try.underlying9
    rw [hc i hi, List.getD_eq_getElem?_getD]

set_option maxRecDepth 100000 in
set_option maxHeartbeats 4000000 in
theorem walk0 (p : Prm) (a : Option Addr) (n cap : Nat) (L : List Int) (hn : n = L.length) (hm : n ≤ 9223372036854775807) (hby : ∀ z ∈ L, 0 ≤ z ∧ z ≤ 255) (w : World) (hk : KAt .u8 w (.slice a L.length cap) L) :
    Calls Try.prog 13 #[.agg #[.int .i64 p.lk, .int .i64 p.lv, .int .i64 p.bi, .int .i64 p.th, .int .i64 p.rk, .int .i64 p.rs, .int .i64 p.fl, .int .i64 p.re], .slice a n cap] w fun e w' => e = .returned (.bool true) ∧ Below w.heap.size w w' := by
  obtain ⟨ec, hec⟩ : ∃ ec, checkP p = ec := ⟨_, rfl⟩
  obtain ⟨np, hnp⟩ : ∃ np, np = (PackL p).length := ⟨_, rfl⟩
  obtain ⟨q, f, hF⟩ : ∃ q f, unF (PackL p) = (q, f) := ⟨_, _, rfl⟩
  obtain ⟨r, g, hG⟩ : ∃ r g, unF L = (r, g) := ⟨_, _, rfl⟩
  have P1 := Lib.hid (pack_got p rfl hnp hec)
  have U1 := Lib.hid (fun a cap w (h : KAt .u8 w (.slice a (PackL p).length cap) (PackL p)) => unpack_got a np cap (PackL p) hnp hF (packL_byte p) w h)
  have U2 := Lib.hid (fun w (h : KAt .u8 w (.slice a L.length cap) L) => unpack_got a n cap L hn hG hby w h)
  have HEC := Lib.hid hec
  have HNP := Lib.hid hnp
  have HF := Lib.hid hF
  have HG := Lib.hid hG
  have HN := Lib.hid hn
  have HK := Lib.hid hk
  have HBY := Lib.hid hby
  have C1 := Lib.hid (fun w => by have := check_any p w; rw [hec] at this; exact this)
  clear hec hnp hF hG hn hk hby
  go_enter Try.func13, Try.ntmps13
  go_wp2_with fail
  go_at_call 33
  refine (P1.out _).mono ?_
  rintro e w1 ⟨a1, c1, rfl, hk1, hb1⟩
  obtain ⟨hc1, hf1⟩ := bcell hb1
  have hz1 : w.heap.size < w1.heap.size := by have := hb1.size; simp at this; omega
  have HK1 := Lib.hid hk1
  clear hk1
  go_wp2_with fail
  go_at_call 35
  refine (U1.out _ _ _ HK1.out).mono ?_
  rintro e w2 ⟨rfl, hb2⟩
  obtain ⟨hc2, hf2⟩ := bcell hb2
  have hz2 : w1.heap.size ≤ w2.heap.size := hb2.size
  have hz2a : w.heap.size < w2.heap.size := by omega
  go_wp2_with fail
  go_at_call 17
  refine (C1.out _).mono ?_
  rintro e w3 ⟨rfl, hb3⟩
  have hz3 : w2.heap.size < w3.heap.size := by have := hb3.size; simp at this; omega
  have hz3a : w.heap.size < w3.heap.size := by omega
  have b12 : Below w.heap.size w w2 := (((Below.refl _ _).alloc (Nat.le_refl _) _).trans (hb1.mono (by simp))).trans (hb2.mono (by omega))
  have b23 : Below w2.heap.size w2 w3 := ((Below.refl _ _).alloc (Nat.le_refl _) _).trans (hb3.mono (by simp))
  have q3 : w3.heap[w2.heap.size]? = some (.cells #[.int .i64 q.lk, .int .i64 q.lv, .int .i64 q.bi, .int .i64 q.th, .int .i64 q.rk, .int .i64 q.rs, .int .i64 q.fl, .int .i64 q.re] 23) := (hb3.block _ (by simp)).trans (alloc_new_at _ _ _ rfl)
  have p3 : PrmAt p w.heap.size w3 := (b23.block _ hz2a).trans ((hb2.block _ (by omega)).trans ((hb1.block _ (by simp)).trans (alloc_new_at _ _ _ rfl)))
  have B3 := Lib.hid (b12.trans (b23.mono b12.size))
  have HK3 := Lib.hid (HK.out.below B3.out)
  obtain ⟨_, _, _, _, _, _, _, _⟩ := cells8 q3
  obtain ⟨_, _, _, _, _, _, _, _⟩ := cells8 p3
  have HQ3 := Lib.hid q3
  clear hb1 hb2 hb3 hc1 hc2 hf1 hf2 b12 b23 q3 p3
  have hcase : (((n : Int) == 17) = true ∧ ((n : Int) < 17) = False ∧ ((17 : Int) < (n : Int)) = False ∧ g = 7) ∨ (((n : Int) == 17) = false ∧ ((n : Int) < 17) = True ∧ ((17 : Int) < (n : Int)) = False ∧ g = 19) ∨ (((n : Int) == 17) = false ∧ ((n : Int) < 17) = False ∧ ((17 : Int) < (n : Int)) = True ∧ g = 8) ∨ (g = 0 ∧ PackL r = L ∧ n = 17 ∧ checkP r = 0) := by
    have h := HG.out
    have hn := HN.out
    unfold unF at h
    by_cases h1 : L.length < 17
    · rw [if_pos h1] at h; cases h
      right; left
      refine ⟨?_, ?_, ?_, rfl⟩ <;> first | (simp only [beq_eq_false_iff_ne, ne_eq]; omega) | (simp only [eq_iff_iff, iff_true, iff_false]; omega)
    · rw [if_neg h1] at h
      by_cases h2 : 17 < L.length
      · rw [if_pos h2] at h; cases h
        right; right; left
        refine ⟨?_, ?_, ?_, rfl⟩ <;> first | (simp only [beq_eq_false_iff_ne, ne_eq]; omega) | (simp only [eq_iff_iff, iff_true, iff_false]; omega)
      · rw [if_neg h2] at h
        by_cases h3 : checkP (unP L) = 0
        · rw [if_pos h3] at h; cases h
          right; right; right
          refine ⟨rfl, ?_, by omega, h3⟩
          unfold PackL; rw [if_pos h3]; exact bytesP_unP L (by omega) HBY.out
        · rw [if_neg h3] at h; cases h
          left
          refine ⟨?_, ?_, ?_, rfl⟩ <;> first | (simp only [beq_iff_eq]; omega) | (simp only [eq_iff_iff, iff_false]; omega)
  by_cases hz : ec = 0
  · have hc0 : checkP p = 0 := by rw [HEC.out]; exact hz
    have hp : PackL p = bytesP p := by unfold PackL; rw [if_pos hc0]
    have hff := HF.out
    rw [hp, unF_bytesP p hc0] at hff
    have hnn := HNP.out
    rw [hp, bytesP_len] at hnn
    cases hff
    subst hnn hz
    clear hc0 hp HEC
    go_wp2_with fail
    go_at_call 35
    refine (U2.out _ HK3.out).mono ?_
    rintro e w4 ⟨rfl, hb4⟩
    have hz4 : w3.heap.size ≤ w4.heap.size := hb4.size
    have k4 : w4.heap[w2.heap.size]? = some (.cells #[.int .i64 p.lk, .int .i64 p.lv, .int .i64 p.bi, .int .i64 p.th, .int .i64 p.rk, .int .i64 p.rs, .int .i64 p.fl, .int .i64 p.re] 23) := (hb4.block _ (by omega)).trans HQ3.out
    obtain ⟨_, _, _, _, _, _, _, _⟩ := cells8 k4
    obtain ⟨_, _, _, _, _, _, _, _⟩ := frozen8 k4
    obtain ⟨S8, B8⟩ := set8 k4 (B3.out.trans (hb4.mono B3.out.size)) (show w.heap.size ≤ w2.heap.size by omega) (.int .i64 r.lk) (.int .i64 r.lv) (.int .i64 r.bi) (.int .i64 r.th) (.int .i64 r.rk) (.int .i64 r.rs) (.int .i64 r.fl) (.int .i64 r.re)
    have S8 := Lib.hid S8
    have B8 := Lib.hid B8
    have HK4 := Lib.hid (HK3.out.below hb4)
    clear k4 hb4
    rcases hcase with ⟨n1, n2, n3, rfl⟩ | ⟨n1, n2, n3, rfl⟩ | ⟨n1, n2, n3, rfl⟩ | ⟨rfl, hr1, hr2, hlen⟩
    · go_wp2_with (go_at_call 21; refine (works_any _).mono ?_; rintro e w6 ⟨rfl, hb6⟩)
      go_ret
      exact ⟨rfl, B8.out.trans (hb6.mono B8.out.size)⟩
    · go_wp2_with (go_at_call 21; refine (works_any _).mono ?_; rintro e w6 ⟨rfl, hb6⟩)
      go_ret
      exact ⟨rfl, B8.out.trans (hb6.mono B8.out.size)⟩
    · go_wp2_with (go_at_call 21; refine (works_any _).mono ?_; rintro e w6 ⟨rfl, hb6⟩)
      go_ret
      exact ⟨rfl, B8.out.trans (hb6.mono B8.out.size)⟩
    · have HLEN := Lib.hid hlen
      have HR := Lib.hid (And.intro hr1 hr2)
      clear hr1 hr2 hlen
      go_wp2_with fail
      go_at_call 33
      refine (pack_got r HR.out.1 (show 17 = L.length by rw [← HN.out]; exact HR.out.2.symm) HLEN.out _).mono ?_
      rintro e w5 ⟨a5, c5, rfl, hk5, hb5⟩
      have b5 := B8.out.trans (hb5.mono B8.out.size)
      have hx5 := conv_kat hk5 (show 17 = L.length by rw [← HN.out]; exact HR.out.2.symm) (by omega)
      have hx6 := conv_kat (HK.out.below b5) HN.out (by rw [HR.out.2]; omega)
      have B5 := Lib.hid b5
      clear b5 hk5 hb5
      go_wp2_with (go_at_call 21; refine (works_any _).mono ?_; rintro e w6 ⟨rfl, hb6⟩)
      go_ret
      exact ⟨rfl, B5.out.trans (hb6.mono B5.out.size)⟩
  · have g1 : (ec == 0) = false := by simp [hz]
    clear hz
    go_wp2_with fail
    go_at_call 35
    refine (U2.out _ HK3.out).mono ?_
    rintro e w4 ⟨rfl, hb4⟩
    have hz4 : w3.heap.size ≤ w4.heap.size := hb4.size
    have k4 : w4.heap[w2.heap.size]? = some (.cells #[.int .i64 q.lk, .int .i64 q.lv, .int .i64 q.bi, .int .i64 q.th, .int .i64 q.rk, .int .i64 q.rs, .int .i64 q.fl, .int .i64 q.re] 23) := (hb4.block _ (by omega)).trans HQ3.out
    obtain ⟨_, _, _, _, _, _, _, _⟩ := cells8 k4
    obtain ⟨_, _, _, _, _, _, _, _⟩ := frozen8 k4
    obtain ⟨S8, B8⟩ := set8 k4 (B3.out.trans (hb4.mono B3.out.size)) (show w.heap.size ≤ w2.heap.size by omega) (.int .i64 r.lk) (.int .i64 r.lv) (.int .i64 r.bi) (.int .i64 r.th) (.int .i64 r.rk) (.int .i64 r.rs) (.int .i64 r.fl) (.int .i64 r.re)
    have S8 := Lib.hid S8
    have B8 := Lib.hid B8
    have HK4 := Lib.hid (HK3.out.below hb4)
    clear k4 hb4
    rcases hcase with ⟨n1, n2, n3, rfl⟩ | ⟨n1, n2, n3, rfl⟩ | ⟨n1, n2, n3, rfl⟩ | ⟨rfl, hr1, hr2, hlen⟩
    · go_wp2_with (go_at_call 21; refine (works_any _).mono ?_; rintro e w6 ⟨rfl, hb6⟩)
      go_ret
      exact ⟨rfl, B8.out.trans (hb6.mono B8.out.size)⟩
    · go_wp2_with (go_at_call 21; refine (works_any _).mono ?_; rintro e w6 ⟨rfl, hb6⟩)
      go_ret
      exact ⟨rfl, B8.out.trans (hb6.mono B8.out.size)⟩
    · go_wp2_with (go_at_call 21; refine (works_any _).mono ?_; rintro e w6 ⟨rfl, hb6⟩)
      go_ret
      exact ⟨rfl, B8.out.trans (hb6.mono B8.out.size)⟩
    · have HLEN := Lib.hid hlen
      have HR := Lib.hid (And.intro hr1 hr2)
      clear hr1 hr2 hlen
      go_wp2_with fail
      go_at_call 33
      refine (pack_got r HR.out.1 (show 17 = L.length by rw [← HN.out]; exact HR.out.2.symm) HLEN.out _).mono ?_
      rintro e w5 ⟨a5, c5, rfl, hk5, hb5⟩
      have b5 := B8.out.trans (hb5.mono B8.out.size)
      have hx5 := conv_kat hk5 (show 17 = L.length by rw [← HN.out]; exact HR.out.2.symm) (by omega)
      have hx6 := conv_kat (HK.out.below b5) HN.out (by rw [HR.out.2]; omega)
      have B5 := Lib.hid b5
      clear b5 hk5 hb5
      go_wp2_with (go_at_call 21; refine (works_any _).mono ?_; rintro e w6 ⟨rfl, hb6⟩)
      go_ret
      exact ⟨rfl, B5.out.trans (hb6.mono B5.out.size)⟩

theorem walk (p : Prm) (a : Option Addr) (cap : Nat) (L : List Int) (hm : L.length ≤ 9223372036854775807) (hw : ∀ z ∈ L, (Lit.int .u8 z).wf = true) (w : World) (hk : KAt .u8 w (.slice a L.length cap) L) :
    Calls Try.prog 13 #[.agg #[.int .i64 p.lk, .int .i64 p.lv, .int .i64 p.bi, .int .i64 p.th, .int .i64 p.rk, .int .i64 p.rs, .int .i64 p.fl, .int .i64 p.re], .slice a L.length cap] w fun e w' => e = .returned (.bool true) ∧ Below w.heap.size w w' :=
  walk0 p a _ cap L rfl hm (fun z hz => by have := hw z hz; simp only [Lit.wf, Bool.and_eq_true, decide_eq_true_eq] at this; exact this) w hk

set_option maxRecDepth 100000 in
theorem lifted (os : Os) (started : os.Started) (H : Type) (enc : TypeId × Value → H) :
    ReturnsInHanded {} Try.checked os 13 .any (Rows.neuronPackedSpec.pre6 enc Try.prog Try.f13 Rows.neuronPackedRow.domain false) (Rows.neuronPackedSpec.post enc Try.prog Try.f13 false true false false) := by
  refine returnsInHanded_of_change (C := Try.checked) own started (by kernel_rfl) Try.func13
    (ChangeSpec.witness6 (enc := enc) (C := Try.checked) false ⟨#[], #[.agg #[.int .i64 0, .int .i64 0, .int .i64 0, .int .i64 0, .int .i64 0, .int .i64 0, .int .i64 0, .int .i64 0], .slice none 0 0], []⟩ 8 (by kernel_rfl) (by kernel_rfl) (by kernel_rfl) (by kernel_rfl)) ?_
  intro W base args ds gs before hval0 hW hcnd hsz
  have hval : ∀ (j : Nat) t v, Try.f13.params[j]? = some t → args[j]? = some v → Value.okWide Try.prog W .any base t v := hval0
  have hW' := hW
  obtain ⟨p, q, hA0, hV, rfl, hfz, hnd⟩ := hW
  have hA : DataW.TrodAll enc Try.prog W 0 (fun _ => true) true Try.f13.params.toList args.toList ds p := hA0
  rw [Try.params13] at hA hval
  have hAll := hA
  obtain ⟨v0, vs0, d0, ds0, p0, q0, hargs, rfl, rfl, h0, r0⟩ := trodAll_cons hA
  obtain ⟨v1, vs1, d1, ds1, p1, q1, rfl, rfl, rfl, h1, r1⟩ := trodAll_cons r0
  obtain ⟨rfl, rfl, rfl⟩ := trodAll_nil r1
  obtain rfl : args = #[v0, v1] := by cases args; simp_all
  obtain ⟨rfl, rfl⟩ := trodVars_none hV
  obtain ⟨x0, rfl⟩ := open_prm (hval 0 23 v0 rfl rfl) h0
  obtain ⟨sa1, sn1, sc1, zs1, rfl, hl1, hi1, hm1, hw1⟩ := open_slice_k Try.underlying44 Try.underlying5 (by kernel_rfl) (hval 1 44 v1 rfl rfl) h1
  subst hl1
  clear hA0 hval0
  refine (walk x0 sa1 sc1 zs1 hm1 hw1 W hi1).mono fun e W' ⟨he, bel⟩ => ?_
  subst he
  have hback := trodAll_below bel [23, 44] (by intro t ht; simp at ht; rcases ht with rfl | rfl <;> exact ⟨by kernel_rfl, of_decide_eq_true (by kernel_rfl)⟩) hAll
  exact ⟨_, rfl, _, _, _, [], _, [], hW', trodAll_mk1 (shut_bool Try.underlying4 _), hback, rfl, bel.frame _, fun h => by cases h⟩

theorem over : Rows.neuronPackedRow.holds Try.pinned (OpenSpec.ofChange Rows.neuronPackedSpec) :=
  OpenClaim.holds_of_wide 13 Try.f13 rfl rfl rfl rfl rfl rfl rfl ⟨rfl, rfl, rfl, rfl, rfl⟩ rfl rfl rfl rfl rfl (by kernel_rfl) Try.func13 (by kernel_rfl)
    (of_decide_eq_true (by kernel_rfl)) (by unfold Func.isWrapper; first | (rw [if_pos (by decide +kernel)]; kernel_rfl) | (rw [if_neg (by decide +kernel)]; exact ⟨rfl, rfl⟩))
    (fun os started H enc _ => lifted os started H enc)

theorem proved : Rows.NeuronPackedSaid := over

end Go.Proofs.Ytkpabecnimakpaa.neuronPacked
