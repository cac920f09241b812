/- For every neuron and every list of bytes the law NeuronBytes returns true: Pack and Unpack return what the specification says. No condition. -/
import Derived.Test.YtkpabecnimakpaaZb
import Derived.Laws.BytesArg
namespace Go.Proofs.Ytkpabecnimakpaa.neuronBytes
open Go.ChangeShapes Go.WideShapes Go.ChangeAt Go.RowKit
set_option linter.unusedVariables false


/-- Both Packs' outcome, for every neuron. -/
def PackL (p : Prm) : List Int := if checkP p = 0 then bytesP p else []
def PackGot (p : Prm) (L : List Int) (n : Nat) (er : Int) (w : World) (e : Ending) (w' : World) : Prop := ∃ a cap, e = .returned (.tuple #[.slice a n cap, .int .i64 er]) ∧ KAt .u8 w' (.slice a L.length cap) L ∧ Below w.heap.size w w'
theorem pack_got (p : Prm) {L : List Int} {n : Nat} {er : Int} (hL : PackL p = L) (hn : n = L.length) (her : checkP p = er) (w : World) : Calls Try.prog 33 #[.agg #[.int .i64 p.lk, .int .i64 p.lv, .int .i64 p.bi, .int .i64 p.th, .int .i64 p.rk, .int .i64 p.rs, .int .i64 p.fl, .int .i64 p.re]] w (PackGot p L n er w) ∧ Calls Try.prog 34 #[.agg #[.int .i64 p.lk, .int .i64 p.lv, .int .i64 p.bi, .int .i64 p.th, .int .i64 p.rk, .int .i64 p.rs, .int .i64 p.fl, .int .i64 p.re]] w (PackGot p L n er w) := by
  subst hL; subst hn; subst her
  by_cases hc : checkP p = 0
  · have hl : PackL p = bytesP p := by unfold PackL; rw [if_pos hc]
    have key : ∀ e w', (∃ v, e = .returned (.tuple #[v, .int .i64 0]) ∧ w'.ownsRow w.heap.size 5 1 v 17 (U8s (bytesP p)) ∧ Below w.heap.size w w') → PackGot p (PackL p) (PackL p).length (checkP p) w e w' := by
      rintro e w' ⟨v, rfl, ho, hb⟩
      rw [hl, hc]
      have ho' : w'.ownsRow w.heap.size 5 1 v (bytesP p).length (U8s (bytesP p)) := by rw [bytesP_len]; exact ho
      obtain ⟨a, cap, rfl, hk⟩ := kat_of_owns ho' (by rw [bytesP_len]; omega)
      exact ⟨a, cap, rfl, hk, hb⟩
    exact ⟨(pack_ok p hc w).mono key, (rpack_ok p hc w).mono key⟩
  · have hl : PackL p = [] := by unfold PackL; rw [if_neg hc]
    have key : ∀ e w', (e = .returned (.tuple #[.slice none 0 0, .int .i64 (checkP p)]) ∧ Below w.heap.size w w') → PackGot p (PackL p) (PackL p).length (checkP p) w e w' := by
      rintro e w' ⟨rfl, hb⟩
      rw [hl]
      exact ⟨none, 0, rfl, Or.inl ⟨rfl, rfl⟩, hb⟩
    exact ⟨(pack_err p hc w).mono key, (rpack_err p hc w).mono key⟩
def UnpGot (q : Prm) (er : Int) (w : World) (e : Ending) (w' : World) : Prop := e = .returned (.tuple #[.agg #[.int .i64 q.lk, .int .i64 q.lv, .int .i64 q.bi, .int .i64 q.th, .int .i64 q.rk, .int .i64 q.rs, .int .i64 q.fl, .int .i64 q.re], .int .i64 er]) ∧ Below w.heap.size w w'
theorem unpack_got (a : Option Addr) (n cap : Nat) (L : List Int) (hn : n = L.length) {q : Prm} {er : Int} (hF : unF L = (q, er)) (hb : ∀ z ∈ L, 0 ≤ z ∧ z ≤ 255) (hcap : n ≤ cap) (w : World) (h : KAt .u8 w (.slice a L.length cap) L) :
    Calls Try.prog 35 #[.slice a n cap] w (UnpGot q er w) ∧ Calls Try.prog 36 #[.slice a n cap] w (UnpGot q er w) := by
  subst hn
  refine ⟨(unpack_any a cap L hb w h).mono ?_, (runpack_any a cap L hb hcap w h).mono ?_⟩ <;> (rintro e w' ⟨rfl, hb⟩; rw [hF]; exact ⟨rfl, hb⟩)
theorem conv_kat {W : World} {a : Option Addr} {n cap : Nat} {L : List Int} (h : KAt .u8 W (.slice a L.length cap) L) (hn : n = L.length) : (convert 44 9 (.slice a n cap)).run Try.prog W = .ok (.string (strOfNums L)) W := by
  subst hn
  rcases h with ⟨e, rfl⟩ | ⟨b, off, cap', e, hc⟩
  · cases e
    exact run_convert_bytes_nil W 44 5 Try.underlying44 Try.underlying5 0 0 9 Try.underlying9
  · cases e
    refine run_convert_bytes_arg W 44 5 Try.underlying44 Try.underlying5 b off L.length cap L rfl (fun i hi => ?_) 9 Try.underlying9
    rw [hc i hi, List.getD_eq_getElem?_getD]

set_option maxRecDepth 100000 in
set_option maxHeartbeats 4000000 in
theorem walk0 (p : Prm) (a : Option Addr) (n cap : Nat) (L : List Int) (hn : n = L.length) (hcap : n ≤ cap) (hby : ∀ z ∈ L, 0 ≤ z ∧ z ≤ 255) (w : World) (hk : KAt .u8 w (.slice a L.length cap) L) :
    Calls Try.prog 8 #[.agg #[.int .i64 p.lk, .int .i64 p.lv, .int .i64 p.bi, .int .i64 p.th, .int .i64 p.rk, .int .i64 p.rs, .int .i64 p.fl, .int .i64 p.re], .slice a n cap] w fun e w' => e = .returned (.bool true) ∧ Below w.heap.size w w' := by
  by_cases h100 : 100 < n
  · have g1 : ((100 : Int) < (n : Int)) = True := by simp; omega
    clear hn hk
    go_enter Try.func8, Try.ntmps8
    go_wp2_with (go_at_call 21; refine (works_any _).mono ?_; rintro e w6 ⟨rfl, hb6⟩)
    go_ret
    exact ⟨rfl, ((Below.refl _ _).alloc (Nat.le_refl _) _).trans (hb6.mono (by simp))⟩
  have g1 : ((100 : Int) < (n : Int)) = False := by simp; omega
  obtain ⟨ec, hec⟩ : ∃ ec, checkP p = ec := ⟨_, rfl⟩
  obtain ⟨np, hnp⟩ : ∃ np, np = (PackL p).length := ⟨_, rfl⟩
  obtain ⟨q, g, hG⟩ : ∃ r g, unF L = (r, g) := ⟨_, _, rfl⟩
  have P1 := Lib.hid (fun w => (pack_got p rfl hnp hec w).1)
  have P2 := Lib.hid (fun w => (pack_got p rfl hnp hec w).2)
  have U1 := Lib.hid (fun w (h : KAt .u8 w (.slice a L.length cap) L) => (unpack_got a n cap L hn hG hby hcap w h).1)
  have U2 := Lib.hid (fun w (h : KAt .u8 w (.slice a L.length cap) L) => (unpack_got a n cap L hn hG hby hcap w h).2)
  have HNP := Lib.hid hnp
  have HK := Lib.hid hk
  clear hec hnp hG hn hk hby hcap h100
  go_enter Try.func8, Try.ntmps8
  go_wp2_with fail
  go_at_call 33
  refine (P1.out _).mono ?_
  rintro e w1 ⟨a1, c1, rfl, hk1, hb1⟩
  obtain ⟨hc1, hf1⟩ := bcell hb1
  have hz1 : w.heap.size < w1.heap.size := by have := hb1.size; simp at this; omega
  have b01 : Below w.heap.size w w1 := ((Below.refl _ _).alloc (Nat.le_refl _) _).trans (hb1.mono (by simp))
  have HK1 := Lib.hid hk1
  have B01 := Lib.hid b01
  clear hk1 b01
  go_wp2_with fail
  go_at_call 34
  refine (P2.out _).mono ?_
  rintro e w2 ⟨a2, c2, rfl, hk2, hb2⟩
  have hz2 : w1.heap.size ≤ w2.heap.size := hb2.size
  have HK2 := Lib.hid hk2
  have HB2 := Lib.hid hb2
  clear hk2 hb2 hc1 hf1 hb1
  go_wp2_with fail
  go_at_call 35
  refine (U1.out _ (HK.out.below (B01.out.trans (HB2.out.mono B01.out.size)))).mono ?_
  rintro e w3 ⟨rfl, hb3⟩
  have hz3 : w2.heap.size ≤ w3.heap.size := hb3.size
  have HB3 := Lib.hid hb3
  clear hb3
  have b33 : Below w3.heap.size w3 (w3.alloc (.cells #[.int .i64 q.lk, .int .i64 q.lv, .int .i64 q.bi, .int .i64 q.th, .int .i64 q.rk, .int .i64 q.rs, .int .i64 q.fl, .int .i64 q.re] 23)) := (Below.refl _ _).alloc (Nat.le_refl _) _
  have b03 : Below w.heap.size w (w3.alloc (.cells #[.int .i64 q.lk, .int .i64 q.lv, .int .i64 q.bi, .int .i64 q.th, .int .i64 q.rk, .int .i64 q.rs, .int .i64 q.fl, .int .i64 q.re] 23)) := (B01.out.trans (HB2.out.mono B01.out.size)).trans ((HB3.out.mono (by omega)).trans (b33.mono (by omega)))
  have B03 := Lib.hid b03
  have B33 := Lib.hid b33
  clear b03 b33
  go_wp2_with fail
  go_at_call 36
  refine (U2.out _ (HK.out.below B03.out)).mono ?_
  rintro e w4 ⟨rfl, hb4⟩
  have hz4 : w3.heap.size < w4.heap.size := by have := hb4.size; simp at this; omega
  have q3 : w4.heap[w3.heap.size]? = some (.cells #[.int .i64 q.lk, .int .i64 q.lv, .int .i64 q.bi, .int .i64 q.th, .int .i64 q.rk, .int .i64 q.rs, .int .i64 q.fl, .int .i64 q.re] 23) := (hb4.block _ (by simp)).trans (alloc_new_at _ _ _ rfl)
  have b34 : Below w3.heap.size w3 (w4.alloc (.cells #[.int .i64 q.lk, .int .i64 q.lv, .int .i64 q.bi, .int .i64 q.th, .int .i64 q.rk, .int .i64 q.rs, .int .i64 q.fl, .int .i64 q.re] 23)) := (B33.out.trans (hb4.mono (by simp))).alloc (by omega) _
  have b24 : Below w2.heap.size w2 (w4.alloc (.cells #[.int .i64 q.lk, .int .i64 q.lv, .int .i64 q.bi, .int .i64 q.th, .int .i64 q.rk, .int .i64 q.rs, .int .i64 q.fl, .int .i64 q.re] 23)) := HB3.out.trans (b34.mono HB3.out.size)
  have b14 : Below w1.heap.size w1 (w4.alloc (.cells #[.int .i64 q.lk, .int .i64 q.lv, .int .i64 q.bi, .int .i64 q.th, .int .i64 q.rk, .int .i64 q.rs, .int .i64 q.fl, .int .i64 q.re] 23)) := HB2.out.trans (b24.mono HB2.out.size)
  have hx1 := conv_kat (HK1.out.below b14) HNP.out
  have hx2 := conv_kat (HK2.out.below b24) HNP.out
  have B4 := Lib.hid (B01.out.trans (b14.mono B01.out.size))
  obtain ⟨_, _, _, _, _, _, _, _⟩ := cells8 q3
  clear b34 b24 b14 hb4 q3
  go_wp2_with (go_at_call 21; refine (works_any _).mono ?_; rintro e w6 ⟨rfl, hb6⟩)
  go_ret
  exact ⟨rfl, B4.out.trans (hb6.mono B4.out.size)⟩

section
variable {H : Type} {enc : TypeId × Value → H} {P : Program} {w : World} {base : Nat} {held : Bool}
/-- A slice argument's length is at most its capacity. -/
theorem slice_cap {t e : Nat} {k : IntKind} {sa : Option Addr} {sn sc : Nat} {d : DataW H} {p : List MemPlace} (ht : P.underlying t = some (.slice e)) (he : P.underlying e = some (.int k)) (hc : P.cellsOf e = 1)
    (h : DataW.Trod enc P w base (fun _ => true) held t (.slice sa sn sc) d p) : sn ≤ sc := by
  obtain ⟨fuel, hf⟩ := h
  rcases open_ints ht he hc hf with ⟨h0, _⟩ | ⟨a', len, cap', zs, h1, _, hl, _⟩
  · simp [Value.cells] at h0; omega
  · simp [Value.cells] at h1
    obtain ⟨rfl, rfl, rfl⟩ := h1
    exact hl
end

theorem walk (p : Prm) (a : Option Addr) (cap : Nat) (L : List Int) (hcap : L.length ≤ cap) (hm : L.length ≤ 9223372036854775807) (hw : ∀ z ∈ L, (Lit.int .u8 z).wf = true) (w : World) (hk : KAt .u8 w (.slice a L.length cap) L) :
    Calls Try.prog 8 #[.agg #[.int .i64 p.lk, .int .i64 p.lv, .int .i64 p.bi, .int .i64 p.th, .int .i64 p.rk, .int .i64 p.rs, .int .i64 p.fl, .int .i64 p.re], .slice a L.length cap] w fun e w' => e = .returned (.bool true) ∧ Below w.heap.size w w' :=
  walk0 p a _ cap L rfl hcap (fun z hz => by have := hw z hz; simp only [Lit.wf, Bool.and_eq_true, decide_eq_true_eq] at this; exact this) w hk

set_option maxRecDepth 100000 in
theorem lifted (os : Os) (started : os.Started) (H : Type) (enc : TypeId × Value → H) :
    ReturnsInHanded {} Try.checked os 8 .any (Rows.neuronBytesSpec.pre6 enc Try.prog Try.f8 Rows.neuronBytesRow.domain false) (Rows.neuronBytesSpec.post enc Try.prog Try.f8 false true false false) := by
  refine returnsInHanded_of_change (C := Try.checked) own started (by kernel_rfl) Try.func8
    (ChangeSpec.witness6 (enc := enc) (C := Try.checked) false ⟨#[], #[.agg #[.int .i64 0, .int .i64 0, .int .i64 0, .int .i64 0, .int .i64 0, .int .i64 0, .int .i64 0, .int .i64 0], .slice none 0 0], []⟩ 8 (by kernel_rfl) (by kernel_rfl) (by kernel_rfl) (by kernel_rfl)) ?_
  intro W base args ds gs before hval0 hW hcnd hsz
  have hval : ∀ (j : Nat) t v, Try.f8.params[j]? = some t → args[j]? = some v → Value.okWide Try.prog W .any base t v := hval0
  have hW' := hW
  obtain ⟨p, q, hA0, hV, rfl, hfz, hnd⟩ := hW
  have hA : DataW.TrodAll enc Try.prog W 0 (fun _ => true) true Try.f8.params.toList args.toList ds p := hA0
  rw [Try.params8] at hA hval
  have hAll := hA
  obtain ⟨v0, vs0, d0, ds0, p0, q0, hargs, rfl, rfl, h0, r0⟩ := trodAll_cons hA
  obtain ⟨v1, vs1, d1, ds1, p1, q1, rfl, rfl, rfl, h1, r1⟩ := trodAll_cons r0
  obtain ⟨rfl, rfl, rfl⟩ := trodAll_nil r1
  obtain rfl : args = #[v0, v1] := by cases args; simp_all
  obtain ⟨rfl, rfl⟩ := trodVars_none hV
  obtain ⟨x0, rfl⟩ := open_prm (hval 0 23 v0 rfl rfl) h0
  obtain ⟨sa1, sn1, sc1, zs1, rfl, hl1, hi1, hm1, hw1⟩ := open_slice_k Try.underlying44 Try.underlying5 (by kernel_rfl) (hval 1 44 v1 rfl rfl) h1
  have hcp1 := slice_cap Try.underlying44 Try.underlying5 (by kernel_rfl) h1
  subst hl1
  clear hA0 hval0
  refine (walk x0 sa1 sc1 zs1 hcp1 hm1 hw1 W hi1).mono fun e W' ⟨he, bel⟩ => ?_
  subst he
  have hback := trodAll_below bel [23, 44] (by intro t ht; simp at ht; rcases ht with rfl | rfl <;> exact ⟨by kernel_rfl, of_decide_eq_true (by kernel_rfl)⟩) hAll
  exact ⟨_, rfl, _, _, _, [], _, [], hW', trodAll_mk1 (shut_bool Try.underlying4 _), hback, rfl, bel.frame _, fun h => by cases h⟩

theorem over : Rows.neuronBytesRow.holds Try.pinned (OpenSpec.ofChange Rows.neuronBytesSpec) :=
  OpenClaim.holds_of_wide 8 Try.f8 rfl rfl rfl rfl rfl rfl rfl ⟨rfl, rfl, rfl, rfl, rfl⟩ rfl rfl rfl rfl rfl (by kernel_rfl) Try.func8 (by kernel_rfl)
    (of_decide_eq_true (by kernel_rfl)) (by unfold Func.isWrapper; first | (rw [if_pos (by decide +kernel)]; kernel_rfl) | (rw [if_neg (by decide +kernel)]; exact ⟨rfl, rfl⟩))
    (fun os started H enc _ => lifted os started H enc)

theorem proved : Rows.NeuronBytesSaid := over

end Go.Proofs.Ytkpabecnimakpaa.neuronBytes
