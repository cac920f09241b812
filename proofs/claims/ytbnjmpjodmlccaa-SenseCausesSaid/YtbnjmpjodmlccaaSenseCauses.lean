/- For all ears, whiskers, samples and cuts the law SenseCauses returns true: what comes later does not change earlier events; what is not loud is not heard, and what does not bend a whisker is not felt; a whisker is bent and free in turns. No condition. (mk_causes.py wrote this.) -/
import Derived.Test.YtbnjmpjodmlccaaCc
import Derived.Test.YtbnjmpjodmlccaaSc
import Derived.Test.YtbnjmpjodmlccaaDq
import Derived.Test.YtbnjmpjodmlccaaWk
namespace Go.Proofs.Ytbnjmpjodmlccaa.senseCauses
open Go.ChangeShapes Go.WideShapes Go.ChangeAt Go.RowKit Go.Proofs.Ytbnjmpjodmlccaa.Lf
set_option linter.unusedVariables false

theorem bt {a b c : World} (h1 : Below a.heap.size a b) (h2 : Below b.heap.size b c) : Below a.heap.size a c := h1.trans (h2.mono h1.size)
theorem evsFormC {W : World} {v : Value} {L : List Evx} (h : EvxsAt W v L) : ∃ a c, v = .slice a L.length c := by
  rcases h with ⟨rfl, rfl⟩ | ⟨b, off, cap, rfl, _⟩ <;> exact ⟨_, _, rfl⟩
/-- The values of a region that calls a sensor on the first K of k numbers. -/
def cs16 (X Y : Int) (sa : Option Addr) (k K sc : Nat) (v : Value) : Nat → Value
  | 0 => .agg #[.int .i64 X, .int .i64 Y]
  | 1 => .slice sa k sc
  | 2 => .int .i64 (K : Int)
  | 3 => .slice sa K sc
  | 4 => .tuple #[v, .int .i64 0]
  | 5 => .tuple #[v, .int .i64 0]
  | 6 => v
  | 7 => .int .i64 0
  | 8 => v
  | 9 => .int .i64 0
  | _ => undef
attribute [local go_sem high] run_max2v
theorem wf_u8 {a : Int} (h : (Lit.int .u8 a).wf = true) : 0 ≤ a ∧ a ≤ 255 := by
  have h' : IntKind.u8.min ≤ a ∧ a ≤ IntKind.u8.max := by simpa [Lit.wf] using h
  exact h'
theorem wf_u16 {a : Int} (h : (Lit.int .u16 a).wf = true) : 0 ≤ a ∧ a ≤ 65535 := by
  have h' : IntKind.u16.min ≤ a ∧ a ≤ IntKind.u16.max := by simpa [Lit.wf] using h
  exact h'
theorem wf_i16 {a : Int} (h : (Lit.int .i16 a).wf = true) : -32768 ≤ a ∧ a ≤ 32767 := by
  have h' : IntKind.i16.min ≤ a ∧ a ≤ IntKind.i16.max := by simpa [Lit.wf] using h
  exact h'
theorem u16_in (x : Int) : 0 ≤ IntKind.u16.wrap x ∧ IntKind.u16.wrap x ≤ 65535 := by
  have h := IntKind.wrap_u16 x
  omega
set_option maxRecDepth 100000 in
set_option maxHeartbeats 16000000 in
theorem walk (ch : Int) (hch : (Lit.int .u8 ch).wf = true) (st : Int) (hst : (Lit.int .u16 st).wf = true) (l : List Int) (a : Option Addr) (c : Nat) (hm : l.length ≤ 9223372036854775807) (hlw : ∀ z ∈ l, (Lit.int .i16 z).wf = true) (tc : Int) (htc : (Lit.int .u16 tc).wf = true) (bk : Int) (hbk : (Lit.int .u16 bk).wf = true) (cu : Int) (hcu : (Lit.int .u8 cu).wf = true) (w : World) (hk : KAt .i16 w (.slice a l.length c) l) :
    Calls Try.prog 10 #[.int .u8 ch, .int .u16 st, .slice a l.length c, .int .u16 tc, .int .u16 bk, .int .u8 cu] w fun e w' => e = .returned (.bool true) ∧ Below w.heap.size w w' := by
  obtain ⟨ch0, ch1⟩ := wf_u8 hch
  obtain ⟨st0, st1⟩ := wf_u16 hst
  obtain ⟨tc0, tc1⟩ := wf_u16 htc
  obtain ⟨bk0, bk1⟩ := wf_u16 hbk
  obtain ⟨cu0, cu1⟩ := wf_u8 hcu
  have HV := Lib.hid (fun x (hx : x ∈ l) => wf_i16 (hlw x hx))
  have HK := Lib.hid hk
  obtain ⟨n, hn⟩ : ∃ n, n = l.length := ⟨_, rfl⟩
  rw [← hn] at hm HK ⊢
  have HN := Lib.hid hn
  clear hch hst htc hbk hcu hlw hk hn
  by_cases hbig : 100 < n
  · have g1 : ((100 : Int) < (n : Int)) = True := by simp only [eq_iff_iff, iff_true]; omega
    go_enter Try.func10, Try.ntmps10
    go_wp2_with (go_at_call 13; refine (works_any _).mono ?_; rintro e w9 ⟨rfl, hb9⟩)
    go_ret
    exact ⟨rfl, hb9⟩
  have g1 : ((100 : Int) < (n : Int)) = False := by simp only [eq_iff_iff, iff_false]; omega
  obtain ⟨C, hC⟩ : ∃ C : Nat, 1 + ch % 16 = (C : Int) := ⟨(1 + ch % 16).toNat, by omega⟩
  obtain ⟨S, hS⟩ : ∃ S, 1 + st % 32767 = S := ⟨_, rfl⟩
  obtain ⟨T, hT⟩ : ∃ T, 1 + tc % 1000 = T := ⟨_, rfl⟩
  have hT0 : 1 ≤ T ∧ T ≤ 1000 := by omega
  obtain ⟨B, hB⟩ : ∃ B, bk % (T + 1) = B := ⟨_, rfl⟩
  have hB0 : 0 ≤ B ∧ B ≤ T := by
    have h1 := Int.emod_nonneg bk (show T + 1 ≠ 0 by omega)
    have h2 := Int.emod_lt_of_pos bk (show 0 < T + 1 by omega)
    omega
  have HER := Lib.hid (show ErOk C S from ⟨by omega, by omega, by omega, by omega⟩)
  have HWH := Lib.hid (show WhOk T B from ⟨hT0.1, hT0.2, hB0.1, hB0.2⟩)
  have hc16 : 0 ≤ ch % 16 ∧ ch % 16 ≤ 15 := by omega
  have hs16 : 0 ≤ st % 32767 ∧ st % 32767 ≤ 32766 := by omega
  have ht16 : 0 ≤ tc % 1000 ∧ tc % 1000 ≤ 999 := by omega
  obtain ⟨hT1, hT2⟩ := hT0
  obtain ⟨hc2, hc3⟩ := hc16
  obtain ⟨hs2, hs3⟩ := hs16
  obtain ⟨ht2, ht3⟩ := ht16
  have hTz : (T + 1 == 0) = false := by simp; omega
  have hn100 : n ≤ 100 := by omega
  clear hbig
  go_enter Try.func10, Try.ntmps10
  go_upto_region 6 with (fail)
  have hx0 : ((w.alloc (.cells #[.int .i64 (C : Int), .int .i64 S] 47)).alloc (.cells #[.int .i64 T, .int .i64 B] 50)).heap[w.heap.size]? = some (.cells #[.int .i64 (C : Int), .int .i64 S] 47) := by rw [Below.heap_alloc _ _ _ (by simp)]; exact alloc_new_at _ _ _ rfl
  have hy0 : ((w.alloc (.cells #[.int .i64 (C : Int), .int .i64 S] 47)).alloc (.cells #[.int .i64 T, .int .i64 B] 50)).heap[w.heap.size + 1]? = some (.cells #[.int .i64 T, .int .i64 B] 50) := alloc_new_at _ _ _ (by simp)
  have hb2 : Below w.heap.size w ((w.alloc (.cells #[.int .i64 (C : Int), .int .i64 S] 47)).alloc (.cells #[.int .i64 T, .int .i64 B] 50)) := ((Below.refl _ _).alloc (Nat.le_refl _) _).alloc (by simp) _
  have hz2 : ((w.alloc (.cells #[.int .i64 (C : Int), .int .i64 S] 47)).alloc (.cells #[.int .i64 T, .int .i64 B] 50)).heap.size = w.heap.size + 2 := by simp
  generalize (w.alloc (.cells #[.int .i64 (C : Int), .int .i64 S] 47)).alloc (.cells #[.int .i64 T, .int .i64 B] 50) = W2 at *
  have HX0 := Lib.hid hx0
  have HY0 := Lib.hid hy0
  have HB2 := Lib.hid hb2
  have HZ2 := Lib.hid hz2
  have HS1 := Lib.hid (show 1 ≤ S by omega)
  have hSz : (S == 0) = false := by simp; omega
  have hS1 := HS1.out
  have hS2 : S ≤ 32767 := by omega
  clear hx0 hy0 hb2 hz2 hC hS hT hB hTz g1 ch0 ch1 st0 st1 tc0 tc1 bk0 bk1 hc2 hc3 hs2 hs3 ht2 ht3 hB0
  go_wp2
  go_loopw [15, 16, 17, 62] (fun s15 s16 s17 s62 wr => ∃ (k : Nat) (ss aa qq : List Int), k ≤ n ∧ s62 = .int .i64 k ∧ ss.length = k ∧ aa.length = k ∧ qq.length = k ∧ Rows3 (w.heap.size + 2) wr (vs3 s15 s16 s17) (vs3 ss aa qq) ∧
      Hid ((∀ x ∈ ss, -32767 ≤ x ∧ x ≤ 32767) ∧ (∀ x ∈ aa, -1000 ≤ x ∧ x ≤ 1000) ∧ (∀ x ∈ qq, 0 ≤ x ∧ x < S)) ∧ Below W2.heap.size W2 wr) (fun _ _ _ s62 _ => n - (intOf s62).toNat)
  case atStart => exact ⟨0, [], [], [], Nat.zero_le _, rfl, rfl, rfl, rfl, ⟨fun i hi => by
      match i, hi with
      | 0, _ | 1, _ | 2, _ => exact World.ownsRow_nil _ _ _ _, fun i j g hi hj hij hg => by
      match i, hi with
      | 0, _ | 1, _ | 2, _ => cases hg⟩, Lib.hid (by simp), Below.refl _ _⟩
  case round =>
    obtain ⟨k, ss, aa, qq, hk, rfl, hls, hla, hlq, hr3, HR, hb⟩ := hrel
    have HB := Lib.hid hb
    have HR3 := Lib.hid hr3
    have hk0 : (0 : Int) ≤ (k : Int) := Int.natCast_nonneg _
    have HLS := Lib.hid hls
    have HLA := Lib.hid hla
    have HLQ := Lib.hid hlq
    have hx1 := (hb.block _ (lt_of_block HX0.out)).trans HX0.out
    obtain ⟨ex0, ex1, _, _⟩ := cells2 hx1
    have hx1l := lt_of_block hx1
    have hwr2 : w.heap.size + 2 ≤ wr.heap.size := by have h1 := hb.size; have h2 := HZ2.out; omega
    clear hr3 hb hls hla hlq hx1
    by_cases hlt : k < n
    · have hi1 : (k : Int) < (n : Int) := by omega
      obtain ⟨x, hx⟩ : ∃ x, l[k]? = some x := ⟨_, List.getElem?_eq_getElem (by rw [← HN.out]; exact hlt)⟩
      obtain ⟨xb0, xb1⟩ := HV.out x (List.mem_of_getElem? hx)
      obtain ⟨g, off, rfl, hgl, hcc⟩ := (HK.out.below (HB2.out.trans (HB.out.mono HB2.out.size))).at hx
      obtain ⟨s, hs⟩ : ∃ s, max x (-32767) = s := ⟨_, rfl⟩
      have hs0 : -32767 ≤ s := by omega
      have hs1 : s ≤ 32767 := by omega
      obtain ⟨A, hA⟩ : ∃ A, s.tmod 1001 = A := ⟨_, rfl⟩
      have hA0 : -1000 ≤ A := by have := Int.lt_tmod_of_pos s (show (0 : Int) < 1001 by decide); omega
      have hA1 : A ≤ 1000 := by have := Int.tmod_lt_of_pos s (show (0 : Int) < 1001 by decide); omega
      obtain ⟨u0, u1⟩ := u16_in x
      obtain ⟨U, hU⟩ : ∃ U, IntKind.u16.wrap x = U := ⟨_, rfl⟩
      rw [hU] at u0 u1
      obtain ⟨Q, hQ⟩ : ∃ Q, U % S = Q := ⟨_, rfl⟩
      have hQ0 : 0 ≤ Q := by rw [← hQ]; exact Int.emod_nonneg _ (by omega)
      have hQ1 : Q < S := by rw [← hQ]; exact Int.emod_lt_of_pos _ (by omega)
      have HRR := Lib.hid (show (∀ y ∈ ss ++ [s], -32767 ≤ y ∧ y ≤ 32767) ∧ (∀ y ∈ aa ++ [A], -1000 ≤ y ∧ y ≤ 1000) ∧ (∀ y ∈ qq ++ [Q], 0 ≤ y ∧ y < S) from by
        obtain ⟨h1, h2, h3⟩ := HR.out
        refine ⟨fun y hy => ?_, fun y hy => ?_, fun y hy => ?_⟩
        · rcases List.mem_append.1 hy with h | h
          · exact h1 y h
          · simp at h; subst h; exact ⟨hs0, hs1⟩
        · rcases List.mem_append.1 hy with h | h
          · exact h2 y h
          · simp at h; subst h; exact ⟨hA0, hA1⟩
        · rcases List.mem_append.1 hy with h | h
          · exact h3 y h
          · simp at h; subst h; exact ⟨hQ0, hQ1⟩)
      have hss : ss.length ≤ 1000000 := by have := HLS.out; omega
      have haa : aa.length ≤ 1000000 := by have := HLA.out; omega
      have hqq : qq.length ≤ 1000000 := by have := HLQ.out; omega
      clear hx HR
      go_upto_region 11 with (fail)
      clear hcc hs
      go_upto_region 12 with (first | (at_builtin; (refine wpList_app_i _ rfl _ _ rfl (w.heap.size + 2) _ _ (HR3.out.below ((Below.refl _ _).alloc (Nat.le_refl _) _)) 0 (by decide) rfl wr.heap.size s rfl (alloc_new_at _ _ _ rfl) hss (by simp; omega) ?_); intro nv w5 hr5 hb5; rw [upd3_0, upd3_0] at hr5; have HR5 := Lib.hid hr5; have HB5 := Lib.hid (((Below.refl (w.heap.size + 2) wr).alloc hwr2 _).trans hb5); have hw5 : w.heap.size + 2 ≤ w5.heap.size := (by have := HB5.out.size; omega); clear hr5 hb5) | (at_builtin; (refine wpList_app_i _ rfl _ _ rfl (w.heap.size + 2) _ _ (HR5.out.below ((Below.refl _ _).alloc (Nat.le_refl _) _)) 1 (by decide) rfl w5.heap.size A rfl (alloc_new_at _ _ _ rfl) haa (by simp; omega) ?_); intro nv2 w6 hr6 hb6; rw [upd3_1, upd3_1] at hr6; have HR6 := Lib.hid hr6; have HB6 := Lib.hid (HB5.out.trans (((Below.refl (w.heap.size + 2) w5).alloc hw5 _).trans hb6)); have hw6 : w.heap.size + 2 ≤ w6.heap.size := (by have := HB6.out.size; omega); clear hr6 hb6))
      obtain ⟨fx0, fx1, _, _⟩ := cells2 ((HB6.out.block w.heap.size (by omega)).trans (show wr.heap[w.heap.size]? = _ from (HB.out.block _ (lt_of_block HX0.out)).trans HX0.out))
      clear ex0 ex1 hx1l
      have hx6 : w.heap.size < w6.heap.size := by omega
      have hQt : U.tmod S = Q := by rw [Int.tmod_eq_emod_of_nonneg u0]; exact hQ
      go_upto_region 13 with (at_builtin; (refine wpList_app_i _ rfl _ _ rfl (w.heap.size + 2) _ _ (HR6.out.below ((Below.refl _ _).alloc (Nat.le_refl _) _)) 2 (by decide) rfl w6.heap.size Q rfl (alloc_new_at _ _ _ rfl) hqq (by simp; omega) ?_); intro nv3 w7 hr7 hb7; have HR7 := Lib.hid hr7.c2; have HB7 := Lib.hid (HB6.out.trans (((Below.refl (w.heap.size + 2) w6).alloc hw6 _).trans hb7)); clear hr7 hb7)
      clear hQt hQ hU hA
      go_wp2
      go_roundw
      case rel => exact ⟨k + 1, ss ++ [s], aa ++ [A], qq ++ [Q], by omega, by go_num, by rw [List.length_append, HLS.out]; rfl, by rw [List.length_append, HLA.out]; rfl, by rw [List.length_append, HLQ.out]; rfl, HR7.out, HRR, HB.out.trans (HB7.out.mono (by have := HZ2.out; omega))⟩
      case measure => simp [intOf]; omega
    · have hkn : k = n := by omega
      obtain ⟨sa1, sc1, h15⟩ := own_slC (HR3.out.own 0 (by decide))
      obtain ⟨sa2, sc2, h16⟩ := own_slC (HR3.out.own 1 (by decide))
      obtain ⟨sa3, sc3, h17⟩ := own_slC (HR3.out.own 2 (by decide))
      change u15 = .slice sa1 ss.length sc1 at h15
      change u16 = .slice sa2 aa.length sc2 at h16
      change u17 = .slice sa3 qq.length sc3 at h17
      rw [HLS.out] at h15
      rw [HLA.out] at h16
      rw [HLQ.out] at h17
      subst h15 h16 h17 hkn
      obtain ⟨K, hK⟩ : ∃ K : Nat, cu % ((k : Int) + 1) = (K : Int) := ⟨(cu % ((k : Int) + 1)).toNat, by
        have := Int.emod_nonneg cu (show (k : Int) + 1 ≠ 0 by omega); omega⟩
      have hK1 : K ≤ k := by have := Int.emod_lt_of_pos cu (show 0 < (k : Int) + 1 by omega); omega
      have HO1 := Lib.hid (show wr.ownsRow (w.heap.size + 2) 3 1 (.slice sa1 k sc1) k (iCs ss) from by have := HR3.out.own 0 (by decide); change wr.ownsRow _ 3 1 (.slice sa1 k sc1) ss.length (iCs ss) at this; rwa [HLS.out] at this)
      have HO2 := Lib.hid (show wr.ownsRow (w.heap.size + 2) 3 1 (.slice sa2 k sc2) k (iCs aa) from by have := HR3.out.own 1 (by decide); change wr.ownsRow _ 3 1 (.slice sa2 k sc2) aa.length (iCs aa) at this; rwa [HLA.out] at this)
      have HO3 := Lib.hid (show wr.ownsRow (w.heap.size + 2) 3 1 (.slice sa3 k sc3) k (iCs qq) from by have := HR3.out.own 2 (by decide); change wr.ownsRow _ 3 1 (.slice sa3 k sc3) qq.length (iCs qq) at this; rwa [HLQ.out] at this)
      have HFS := Lib.hid (own_room HO1.out)
      have HFA := Lib.hid (own_room HO2.out)
      have HKS := Lib.hid (fun (W : World) (hb : Below wr.heap.size wr W) => (own_kat HLS.out.symm HO1.out).below hb)
      have HKA := Lib.hid (fun (W : World) (hb : Below wr.heap.size wr W) => (own_kat HLA.out.symm HO2.out).below hb)
      have HKQ := Lib.hid (fun (W : World) (hb : Below wr.heap.size wr W) => (own_kat HLQ.out.symm HO3.out).below hb)
      have HXW := Lib.hid (show wr.heap[w.heap.size]? = _ from (HB.out.block _ (lt_of_block HX0.out)).trans HX0.out)
      have HYW := Lib.hid (show wr.heap[w.heap.size + 1]? = _ from (HB.out.block _ (lt_of_block HY0.out)).trans HY0.out)
      have HBW := Lib.hid (HB2.out.trans (HB.out.mono HB2.out.size))
      have hKz : ((k : Int) + 1 == 0) = false := by simp; omega
      have hkk : (0 : Int) ≤ (K : Int) := Int.natCast_nonneg _
      have hkk2 : (K : Int) ≤ (k : Int) := by omega
      have HH1 := Lib.hid (fun (W : World) (hb : Below wr.heap.size wr W) => hear_ok HER.out (l := ss) (by have := HLS.out; omega) HR.out.1 sa1 k sc1 HLS.out.symm W (HKS.out W hb))
      have HH2 := Lib.hid (fun (W : World) (hb : Below wr.heap.size wr W) => hear_ok HER.out (l := ss.take K) (by have := HLS.out; simp; omega) (fun x hx => HR.out.1 x (List.mem_of_mem_take hx)) sa1 K sc1 (by have := HLS.out; simp; omega) W (kat_take (HKS.out W hb) K (by have := HLS.out; omega)))
      have HF1 := Lib.hid (fun (W : World) (hb : Below wr.heap.size wr W) => feel_ok HWH.out (l := aa) (by have := HLA.out; omega) HR.out.2.1 sa2 k sc2 HLA.out.symm W (HKA.out W hb))
      have HF2 := Lib.hid (fun (W : World) (hb : Below wr.heap.size wr W) => feel_ok HWH.out (l := aa.take K) (by have := HLA.out; simp; omega) (fun x hx => HR.out.2.1 x (List.mem_of_mem_take hx)) sa2 K sc2 (by have := HLA.out; simp; omega) W (kat_take (HKA.out W hb) K (by have := HLA.out; omega)))
      have HH3 := Lib.hid (fun (W : World) (hb : Below wr.heap.size wr W) => by
        have h := hear_ok HER.out (l := qq) (by have := HLQ.out; omega) (fun x hx => by have := HR.out.2.2 x hx; omega) sa3 k sc3 HLQ.out.symm W (HKQ.out W hb)
        rw [erL_quiet S C HS1.out qq HR.out.2.2] at h
        exact h)
      have HE1 := Lib.hid (erL_before S C ss K (by have := HLS.out; omega))
      have HE2 := Lib.hid (whL_before T B aa K (by have := HLA.out; omega))
      have HN1 := Lib.hid (show (erL S C ss).length ≤ 65536 from erL_short HER.out (by have := HLS.out; omega))
      have HN2 := Lib.hid (show (whL T B aa).length ≤ 4096 from by have h1 := whL_le T B aa; have := HLA.out; omega)
      have HM1L := Lib.hid (show (erL S C (ss.take K)).length ≤ 65536 from erL_short HER.out (by have := HLS.out; simp; omega))
      have HM2L := Lib.hid (show (whL T B (aa.take K)).length ≤ 4096 from by have h1 := whL_le T B (aa.take K); have h2 : (aa.take K).length ≤ K := List.length_take_le _ _; omega)
      have HT2 := Lib.hid (fun (n : Nat) (e : Evx) (h : (whL T B aa)[n]? = some e) => whL_turns T B aa n e h)
      have HR2 := Lib.hid HR.out.2.1
      clear ex0 ex1 hx1l hlt hm HR HKS HKA HKQ hwr2
      obtain ⟨L1, hL1⟩ : ∃ L1, L1 = erL S C ss := ⟨_, rfl⟩
      obtain ⟨M1, hM1⟩ : ∃ M1, M1 = erL S C (ss.take K) := ⟨_, rfl⟩
      obtain ⟨L2, hL2⟩ : ∃ L2, L2 = whL T B aa := ⟨_, rfl⟩
      obtain ⟨M2, hM2⟩ : ∃ M2, M2 = whL T B (aa.take K) := ⟨_, rfl⟩
      rw [← hL1] at HH1 HE1 HN1
      rw [← hM1] at HH2 HE1 HM1L
      rw [← hL2] at HF1 HE2 HN2 HT2
      rw [← hM2] at HF2 HE2 HM2L
      clear hL1 hM1 hL2 hM2
      obtain ⟨x40, x41, _, _⟩ := cells2 HXW.out
      have hxl4 := lt_of_block HXW.out
      generalize hW0 : wr = W0 at *
      clear hW0
      go_wp2_with (fail)
      rw [hK]
      go_at_call 23
      refine (HH1.out _ (Below.refl _ _)).mono ?_
      rintro e w4 ⟨v1, rfl, hev1, hb4⟩
      obtain ⟨va1, vc1, rfl⟩ := evsFormC hev1
      have HEV1 := Lib.hid (fun (W : World) (hb : Below w4.heap.size w4 W) => hev1.below hb)
      have HB4 := Lib.hid hb4
      clear hev1 hb4 x40 x41 hxl4 hK hKz
      obtain ⟨x40, x41, _, _⟩ := cells2 ((HB4.out.block _ (lt_of_block HXW.out)).trans HXW.out)
      have hxl4 := lt_of_block ((HB4.out.block _ (lt_of_block HXW.out)).trans HXW.out)
      go_upto_region 16 with (fail)
      refine wp_region_one 4 (fun v => cs16 (C : Int) S sa1 k K sc1 v) (fun W => Below w4.heap.size w4 W) (fun v W => EvxsAt W v M1 ∧ Below w4.heap.size w4 W) (by kernel_rfl) (by kernel_rfl) (by kernel_rfl) (by kernel_rfl) (by kernel_rfl) (by decide) (fun v v' i hi => by
        have hc : i = 0 ∨ i = 1 ∨ i = 2 ∨ i = 3 := by omega
        rcases hc with rfl | rfl | rfl | rfl <;> rfl) (Below.refl _ _).drew ?cal ?stp ?dn
      case cal =>
        intro v W1 o b' ho hI hh
        simp only [List.getElem?_cons_zero, List.getElem?_cons_succ, Option.some.injEq] at ho
        subst ho
        have g0 := hh.got 0 _ 101 rfl rfl ⟨⟨0, .data⟩, by simp, rfl, rfl⟩ (by simp)
        have g3 := hh.got 3 _ 104 rfl rfl ⟨⟨3, .data⟩, by simp, rfl, rfl⟩ (by simp)
        simp [cs16] at g0 g3
        have HI := Lib.hid hI
        clear hI hh
        go_simp
        go_at_call 23
        refine (HH2.out _ (HB4.out.trans (HI.out.mono HB4.out.size))).mono ?_
        rintro e w6 ⟨v6, rfl, hev6, hb6⟩
        exact ⟨v6, rfl, hev6, HI.out.trans (hb6.mono HI.out.size)⟩
      case stp =>
        intro L v W1 i o b' ho hne hci hI0 hI1 hh hlate
        have hi := (List.getElem?_eq_some_iff.1 ho).1
        have hc : i = 0 ∨ i = 1 ∨ i = 2 ∨ i = 3 ∨ i = 4 ∨ i = 5 ∨ i = 6 ∨ i = 7 ∨ i = 8 ∨ i = 9 := by simp at hi; omega
        have hI : Below w4.heap.size w4 W1 := by
          cases hL : L.getD 4 false with
          | false => exact hI0 hL
          | true => exact (hI1 hL).2
        obtain ⟨ce0, ce1, _, _⟩ := cells2 (((HB4.out.trans (hI.mono HB4.out.size)).block _ (lt_of_block HXW.out)).trans HXW.out)
        clear hi hI0 hI1 hI hci hlate
        have k13 := hh.kept 13 (by simp)
        simp at k13
        have k15 := hh.kept 15 (by simp)
        simp at k15
        have k21 := hh.kept 21 (by simp)
        simp at k21
        rcases hc with rfl | rfl | rfl | rfl | rfl | rfl | rfl | rfl | rfl | rfl
        · simp only [List.getElem?_cons_zero, Option.some.injEq] at ho
          subst ho
          go_simp
          first | exact rfl | exact ⟨rfl, rfl⟩
        · simp only [List.getElem?_cons_zero, List.getElem?_cons_succ, Option.some.injEq] at ho
          subst ho
          go_simp
          first | exact rfl | exact ⟨rfl, rfl⟩
        · simp only [List.getElem?_cons_zero, List.getElem?_cons_succ, Option.some.injEq] at ho
          subst ho
          go_simp
          first | exact rfl | exact ⟨rfl, rfl⟩
        · simp only [List.getElem?_cons_zero, List.getElem?_cons_succ, Option.some.injEq] at ho
          subst ho
          have g1 := hh.got 1 _ 102 rfl rfl ⟨⟨1, .data⟩, by simp, rfl, rfl⟩ (by simp)
          have g2 := hh.got 2 _ 103 rfl rfl ⟨⟨2, .data⟩, by simp, rfl, rfl⟩ (by simp)
          simp [cs16] at g1 g2
          rcases HFS.out with ⟨q1, q2, q3⟩ | ⟨gq, q1, q2⟩
          · obtain rfl : K = 0 := by omega
            rw [q1, q2, q3] at g1
            rw [q1, q3]
            simp only [cs16]
            go_simp
            first | done | exact rfl | exact ⟨rfl, rfl⟩
          · rw [q1] at g1 ⊢
            have q3 : (K : Int) ≤ (sc1 : Int) := by omega
            have q4 : K ≤ sc1 := by omega
            go_simp
            first | done | exact rfl | exact ⟨rfl, rfl⟩
        · simp only [List.getElem?_cons_zero, List.getElem?_cons_succ, Option.some.injEq] at ho
          subst ho
          have g0 := hh.got 0 _ 101 rfl rfl ⟨⟨0, .data⟩, by simp, rfl, rfl⟩ (by simp)
          have g3 := hh.got 3 _ 104 rfl rfl ⟨⟨3, .data⟩, by simp, rfl, rfl⟩ (by simp)
          simp [cs16] at g0 g3
          exact absurd rfl hne
        · simp only [List.getElem?_cons_zero, List.getElem?_cons_succ, Option.some.injEq] at ho
          subst ho
          have g4 := hh.got 4 _ 105 rfl rfl ⟨⟨4, .data⟩, by simp, rfl, rfl⟩ (by simp)
          simp [cs16] at g4
          go_simp
          first | exact rfl | exact ⟨rfl, rfl⟩
        · simp only [List.getElem?_cons_zero, List.getElem?_cons_succ, Option.some.injEq] at ho
          subst ho
          have g5 := hh.got 5 _ 100 rfl rfl ⟨⟨5, .data⟩, by simp, rfl, rfl⟩ (by simp)
          simp [cs16] at g5
          go_simp
          first | exact rfl | exact ⟨rfl, rfl⟩
        · simp only [List.getElem?_cons_zero, List.getElem?_cons_succ, Option.some.injEq] at ho
          subst ho
          have g5 := hh.got 5 _ 100 rfl rfl ⟨⟨5, .data⟩, by simp, rfl, rfl⟩ (by simp)
          simp [cs16] at g5
          go_simp
          first | exact rfl | exact ⟨rfl, rfl⟩
        · simp only [List.getElem?_cons_zero, List.getElem?_cons_succ, Option.some.injEq] at ho
          subst ho
          have g6 := hh.got 6 _ 106 rfl rfl ⟨⟨6, .data⟩, by simp, rfl, rfl⟩ (by simp)
          simp [cs16] at g6
          go_simp
          first | exact rfl | exact ⟨rfl, rfl⟩
        · simp only [List.getElem?_cons_zero, List.getElem?_cons_succ, Option.some.injEq] at ho
          subst ho
          have g7 := hh.got 7 _ 107 rfl rfl ⟨⟨7, .data⟩, by simp, rfl, rfl⟩ (by simp)
          simp [cs16] at g7
          go_simp
          first | exact rfl | exact ⟨rfl, rfl⟩
      case dn =>
        intro vv w5 b' hI hb
        obtain ⟨hev, hbw⟩ := hI
        obtain ⟨va2, vc2, rfl⟩ := evsFormC hev
        have HEV2 := Lib.hid (fun (W : World) (hb : Below w5.heap.size w5 W) => hev.below hb)
        have HB45 := Lib.hid hbw
        have HB5 := Lib.hid (HB4.out.trans (hbw.mono HB4.out.size))
        clear hev hbw
        simp only [puts, cs16] at hb
        subst hb
        simp only [Act.put, List.setIfInBounds_toArray, List.set_cons_succ, List.set_cons_zero]
        clear x40 x41 hxl4
        obtain ⟨y50, y51, _, _⟩ := cells2 ((HB5.out.block _ (lt_of_block HYW.out)).trans HYW.out)
        have hyl5 := lt_of_block ((HB5.out.block _ (lt_of_block HYW.out)).trans HYW.out)
        go_wp2_with (fail)
        go_at_call 25
        refine (HF1.out _ HB5.out).mono ?_
        rintro e w6 ⟨v3, rfl, hev3, hb6⟩
        obtain ⟨va3, vc3, rfl⟩ := evsFormC hev3
        have HEV3 := Lib.hid (fun (W : World) (hb : Below w6.heap.size w6 W) => hev3.below hb)
        have HB56 := Lib.hid hb6
        have HB6 := Lib.hid (HB5.out.trans (hb6.mono HB5.out.size))
        clear hev3 hb6 y50 y51 hyl5
        obtain ⟨y60, y61, _, _⟩ := cells2 ((HB6.out.block _ (lt_of_block HYW.out)).trans HYW.out)
        have hyl6 := lt_of_block ((HB6.out.block _ (lt_of_block HYW.out)).trans HYW.out)
        go_upto_region 18 with (fail)
        refine wp_region_one 4 (fun v => cs16 T B sa2 k K sc2 v) (fun W => Below w6.heap.size w6 W) (fun v W => EvxsAt W v M2 ∧ Below w6.heap.size w6 W) (by kernel_rfl) (by kernel_rfl) (by kernel_rfl) (by kernel_rfl) (by kernel_rfl) (by decide) (fun v v' i hi => by
          have hc : i = 0 ∨ i = 1 ∨ i = 2 ∨ i = 3 := by omega
          rcases hc with rfl | rfl | rfl | rfl <;> rfl) (Below.refl _ _).drew ?cal ?stp ?dn
        case cal =>
          intro v W1 o b' ho hI hh
          simp only [List.getElem?_cons_zero, List.getElem?_cons_succ, Option.some.injEq] at ho
          subst ho
          have g0 := hh.got 0 _ 115 rfl rfl ⟨⟨0, .data⟩, by simp, rfl, rfl⟩ (by simp)
          have g3 := hh.got 3 _ 118 rfl rfl ⟨⟨3, .data⟩, by simp, rfl, rfl⟩ (by simp)
          simp [cs16] at g0 g3
          have HI := Lib.hid hI
          clear hI hh
          go_simp
          go_at_call 25
          refine (HF2.out _ (HB6.out.trans (HI.out.mono HB6.out.size))).mono ?_
          rintro e w6 ⟨v6, rfl, hev6, hb6⟩
          exact ⟨v6, rfl, hev6, HI.out.trans (hb6.mono HI.out.size)⟩
        case stp =>
          intro L v W1 i o b' ho hne hci hI0 hI1 hh hlate
          have hi := (List.getElem?_eq_some_iff.1 ho).1
          have hc : i = 0 ∨ i = 1 ∨ i = 2 ∨ i = 3 ∨ i = 4 ∨ i = 5 ∨ i = 6 ∨ i = 7 ∨ i = 8 ∨ i = 9 := by simp at hi; omega
          have hI : Below w6.heap.size w6 W1 := by
            cases hL : L.getD 4 false with
            | false => exact hI0 hL
            | true => exact (hI1 hL).2
          obtain ⟨ce0, ce1, _, _⟩ := cells2 (((HB6.out.trans (hI.mono HB6.out.size)).block _ (lt_of_block HYW.out)).trans HYW.out)
          clear hi hI0 hI1 hI hci hlate
          have k14 := hh.kept 14 (by simp)
          simp at k14
          have k16 := hh.kept 16 (by simp)
          simp at k16
          have k21 := hh.kept 21 (by simp)
          simp at k21
          rcases hc with rfl | rfl | rfl | rfl | rfl | rfl | rfl | rfl | rfl | rfl
          · simp only [List.getElem?_cons_zero, Option.some.injEq] at ho
            subst ho
            go_simp
            first | exact rfl | exact ⟨rfl, rfl⟩
          · simp only [List.getElem?_cons_zero, List.getElem?_cons_succ, Option.some.injEq] at ho
            subst ho
            go_simp
            first | exact rfl | exact ⟨rfl, rfl⟩
          · simp only [List.getElem?_cons_zero, List.getElem?_cons_succ, Option.some.injEq] at ho
            subst ho
            go_simp
            first | exact rfl | exact ⟨rfl, rfl⟩
          · simp only [List.getElem?_cons_zero, List.getElem?_cons_succ, Option.some.injEq] at ho
            subst ho
            have g1 := hh.got 1 _ 116 rfl rfl ⟨⟨1, .data⟩, by simp, rfl, rfl⟩ (by simp)
            have g2 := hh.got 2 _ 117 rfl rfl ⟨⟨2, .data⟩, by simp, rfl, rfl⟩ (by simp)
            simp [cs16] at g1 g2
            rcases HFA.out with ⟨q1, q2, q3⟩ | ⟨gq, q1, q2⟩
            · obtain rfl : K = 0 := by omega
              rw [q1, q2, q3] at g1
              rw [q1, q3]
              simp only [cs16]
              go_simp
              first | done | exact rfl | exact ⟨rfl, rfl⟩
            · rw [q1] at g1 ⊢
              have q3 : (K : Int) ≤ (sc2 : Int) := by omega
              have q4 : K ≤ sc2 := by omega
              go_simp
              first | done | exact rfl | exact ⟨rfl, rfl⟩
          · simp only [List.getElem?_cons_zero, List.getElem?_cons_succ, Option.some.injEq] at ho
            subst ho
            have g0 := hh.got 0 _ 115 rfl rfl ⟨⟨0, .data⟩, by simp, rfl, rfl⟩ (by simp)
            have g3 := hh.got 3 _ 118 rfl rfl ⟨⟨3, .data⟩, by simp, rfl, rfl⟩ (by simp)
            simp [cs16] at g0 g3
            exact absurd rfl hne
          · simp only [List.getElem?_cons_zero, List.getElem?_cons_succ, Option.some.injEq] at ho
            subst ho
            have g4 := hh.got 4 _ 119 rfl rfl ⟨⟨4, .data⟩, by simp, rfl, rfl⟩ (by simp)
            simp [cs16] at g4
            go_simp
            first | exact rfl | exact ⟨rfl, rfl⟩
          · simp only [List.getElem?_cons_zero, List.getElem?_cons_succ, Option.some.injEq] at ho
            subst ho
            have g5 := hh.got 5 _ 114 rfl rfl ⟨⟨5, .data⟩, by simp, rfl, rfl⟩ (by simp)
            simp [cs16] at g5
            go_simp
            first | exact rfl | exact ⟨rfl, rfl⟩
          · simp only [List.getElem?_cons_zero, List.getElem?_cons_succ, Option.some.injEq] at ho
            subst ho
            have g5 := hh.got 5 _ 114 rfl rfl ⟨⟨5, .data⟩, by simp, rfl, rfl⟩ (by simp)
            simp [cs16] at g5
            go_simp
            first | exact rfl | exact ⟨rfl, rfl⟩
          · simp only [List.getElem?_cons_zero, List.getElem?_cons_succ, Option.some.injEq] at ho
            subst ho
            have g6 := hh.got 6 _ 120 rfl rfl ⟨⟨6, .data⟩, by simp, rfl, rfl⟩ (by simp)
            simp [cs16] at g6
            go_simp
            first | exact rfl | exact ⟨rfl, rfl⟩
          · simp only [List.getElem?_cons_zero, List.getElem?_cons_succ, Option.some.injEq] at ho
            subst ho
            have g7 := hh.got 7 _ 121 rfl rfl ⟨⟨7, .data⟩, by simp, rfl, rfl⟩ (by simp)
            simp [cs16] at g7
            go_simp
            first | exact rfl | exact ⟨rfl, rfl⟩
        case dn =>
          intro vv w7 b' hI hb
          obtain ⟨hev, hbw⟩ := hI
          obtain ⟨va4, vc4, rfl⟩ := evsFormC hev
          have HEV4 := Lib.hid (fun (W : World) (hb : Below w7.heap.size w7 W) => hev.below hb)
          have HB67 := Lib.hid hbw
          have HB7 := Lib.hid (HB6.out.trans (hbw.mono HB6.out.size))
          clear hev hbw
          simp only [puts, cs16] at hb
          subst hb
          simp only [Act.put, List.setIfInBounds_toArray, List.set_cons_succ, List.set_cons_zero]
          clear y60 y61 hyl6
          obtain ⟨x70, x71, _, _⟩ := cells2 ((HB7.out.block _ (lt_of_block HXW.out)).trans HXW.out)
          have hxl7 := lt_of_block ((HB7.out.block _ (lt_of_block HXW.out)).trans HXW.out)
          go_wp2_with (fail)
          go_at_call 23
          refine (HH3.out _ HB7.out).mono ?_
          rintro e w8 ⟨v5, rfl, hev5, hb8⟩
          obtain ⟨va5, vc5, rfl⟩ := evsFormC hev5
          have HB8 := Lib.hid (HB7.out.trans (hb8.mono HB7.out.size))
          have HB58 := Lib.hid (HB56.out.trans ((HB67.out.trans (hb8.mono HB67.out.size)).mono HB56.out.size))
          have HB78 := Lib.hid hb8
          have hlen0 : ([] : List Evx).length = 0 := rfl
          rw [hlen0]
          clear hev5 hb8 x70 x71 hxl7 hlen0
          have hN1 := HN1.out
          have hN2 := HN2.out
          have hM1l := HM1L.out
          have hM2l := HM2L.out
          go_wp2_with (fail)
          go_at_call 42
          refine (before_any K L1 (by omega) _ _ _ rfl (by omega) _ (HEV1.out _ (bt (bt (bt HB45.out HB56.out) HB67.out) HB78.out))).mono ?_
          rintro e w9 ⟨v9, rfl, hev9, hb9⟩
          rw [HE1.out] at hev9
          obtain ⟨va9, vc9, rfl⟩ := evsFormC hev9
          have HS9 := Lib.hid hb9
          have HV9 := Lib.hid hev9
          clear hev9 hb9
          go_wp2_with (fail)
          go_at_call 17
          refine (events_same M1 _ _ (by omega) _ HV9.out (HEV2.out _ (bt (bt (bt HB56.out HB67.out) HB78.out) HS9.out))).mono ?_
          rintro e w10 ⟨rfl, hb9⟩
          have HT9 := Lib.hid hb9
          clear hb9
          go_wp2_with (fail)
          go_at_call 42
          refine (before_any K L2 (by omega) _ _ _ rfl (by omega) _ (HEV3.out _ (bt (bt (bt HB67.out HB78.out) HS9.out) HT9.out))).mono ?_
          rintro e w11 ⟨v10, rfl, hev10, hb10⟩
          rw [HE2.out] at hev10
          obtain ⟨va10, vc10, rfl⟩ := evsFormC hev10
          have HS10 := Lib.hid hb10
          have HV10 := Lib.hid hev10
          clear hev10 hb10
          go_wp2_with (fail)
          go_at_call 17
          refine (events_same M2 _ _ (by omega) _ HV10.out (HEV4.out _ (bt (bt (bt HB78.out HS9.out) HT9.out) HS10.out))).mono ?_
          rintro e w12 ⟨rfl, hb10⟩
          have HT10 := Lib.hid hb10
          clear hb10
          have HEV3B := Lib.hid (fun (W : World) (hb : Below w12.heap.size w12 W) => HEV3.out W (bt (bt (bt (bt (bt (bt HB67.out HB78.out) HS9.out) HT9.out) HS10.out) HT10.out) hb))
          have HB12 := Lib.hid (HB8.out.trans ((bt (bt (bt HS9.out HT9.out) HS10.out) HT10.out).mono HB8.out.size))
          clear HEV1 HEV2 HEV3 HEV4 HV9 HV10 HS9 HT9 HS10 HT10 HB4 HB5 HB6 HB7 HB45 HB56 HB67 HB78 HB58 HB8 hN1 hM1l hM2l HM1L HM2L HE1 HE2
          obtain ⟨m2, hm2⟩ : ∃ m2, m2 = L2.length := ⟨_, rfl⟩
          rw [← hm2] at hN2 HEV3B ⊢
          have HM2 := Lib.hid hm2
          clear hm2
          go_wp2
          go_loopw [169] (fun s wr => ∃ j : Nat, j ≤ m2 ∧ s = .int .i64 j ∧ Below w12.heap.size w12 wr) (fun s _ => m2 - (intOf s).toNat)
          case atStart => exact ⟨0, Nat.zero_le _, rfl, Below.refl _ _⟩
          case round =>
            obtain ⟨j, hj, rfl, hb⟩ := hrel
            have HBJ := Lib.hid hb
            clear hb
            have hj0 : (0 : Int) ≤ (j : Int) := Int.natCast_nonneg _
            by_cases hlt : j < m2
            · have hj1 : (j : Int) < (m2 : Int) := by omega
              obtain ⟨ev, hev⟩ : ∃ ev, L2[j]? = some ev := ⟨_, List.getElem?_eq_getElem (by rw [← HM2.out]; exact hlt)⟩
              have htn := HT2.out j ev hev
              obtain ⟨be, oe, hbe, hbl, hcl⟩ := (HEV3B.out _ HBJ.out).at hev
              subst hbe
              obtain ⟨X, Y⟩ := ev
              obtain ⟨u1, u2⟩ := hcl
              obtain ⟨⟨t0, t1⟩, te, to⟩ := htn
              simp only at u1 u2 t0 t1 te to
              rw [HLA.out] at t1
              obtain ⟨N, rfl⟩ := Int.eq_ofNat_of_zero_le t0
              rw [Int.toNat_natCast] at te
              clear hev
              go_upto_region 25 with (fail)
              have hbn := HBJ.out.alloc HBJ.out.size (.cells #[.int .i64 (N : Int), .int .i64 Y] 63)
              have htb : (wr.alloc (.cells #[.int .i64 (N : Int), .int .i64 Y] 63)).heap[wr.heap.size]? = some (.cells #[.int .i64 (N : Int), .int .i64 Y] 63) := alloc_new_at _ _ _ rfl
              generalize wr.alloc (.cells #[.int .i64 (N : Int), .int .i64 Y] 63) = W5 at *
              have HBN := Lib.hid hbn
              have HBX := Lib.hid (HB12.out.trans (hbn.mono HB12.out.size))
              have hwl := lt_of_block htb
              obtain ⟨q0, q1, _, _⟩ := cells2 htb
              obtain ⟨y0, y1, _, _⟩ := cells2 ((HBX.out.block _ (lt_of_block HYW.out)).trans HYW.out)
              have hyl := lt_of_block ((HBX.out.block _ (lt_of_block HYW.out)).trans HYW.out)
              have gx0 : ((N : Int) < 0) = False := by simp only [eq_iff_iff, iff_false]; omega
              have gx1 : ((k : Int) ≤ (N : Int)) = False := by simp only [eq_iff_iff, iff_false]; omega
              clear hbn htb u1 u2
              rcases (show j % 2 = 0 ∨ j % 2 = 1 by omega) with hp | hp
              · have hm1 : (j : Int) % 2 = 0 := by omega
                have hm2 : (j : Int).tmod 2 = 0 := by rw [Int.tmod_eq_emod_of_nonneg hj0]; exact hm1
                rcases te hp with ⟨hY, x, hx, hTx⟩ | ⟨hY, x, hx, hTx⟩
                · subst hY
                  obtain ⟨xr0, xr1⟩ := HR2.out x (List.mem_of_getElem? hx)
                  obtain ⟨gq, oq, hqe, hql, hqc⟩ := ((own_kat HLA.out.symm HO2.out).below HBX.out).at hx
                  subst hqe
                  have gT : (x < T) = False := by simp only [eq_iff_iff, iff_false]; omega
                  clear te to hx hTx hp
                  go_upto_region 27 with (fail)
                  go_quiet (fail)
                  have HBQ := Lib.hid (below_drewN HBN.out nq)
                  clear q0 q1 y0 y1 hqc
                  go_wp2
                  go_roundw
                  case rel => exact ⟨j + 1, by omega, by go_num, HBQ.out⟩
                  case measure => simp [intOf]; omega
                · subst hY
                  obtain ⟨xr0, xr1⟩ := HR2.out x (List.mem_of_getElem? hx)
                  obtain ⟨gq, oq, hqe, hql, hqc⟩ := ((own_kat HLA.out.symm HO2.out).below HBX.out).at hx
                  subst hqe
                  have gB : (-T < x) = False := by simp only [eq_iff_iff, iff_false]; omega
                  have hwT : IntKind.i64.wrap (-T) = -T := by rw [IntKind.wrap_i64]; omega
                  clear te to hx hTx hp
                  go_upto_region 27 with (fail)
                  go_quiet (fail)
                  have HBQ := Lib.hid (below_drewN HBN.out nq)
                  clear q0 q1 y0 y1 hqc hwT
                  go_wp2
                  go_roundw
                  case rel => exact ⟨j + 1, by omega, by go_num, HBQ.out⟩
                  case measure => simp [intOf]; omega
              · have hm1 : (j : Int) % 2 = 1 := by omega
                have hm2 : (j : Int).tmod 2 = 1 := by rw [Int.tmod_eq_emod_of_nonneg hj0]; exact hm1
                have hY := to hp
                subst hY
                clear te to hp
                go_upto_region 27 with (fail)
                go_quiet (fail)
                have HBQ := Lib.hid (below_drewN HBN.out nq)
                clear q0 q1 y0 y1
                go_wp2
                go_roundw
                case rel => exact ⟨j + 1, by omega, by go_num, HBQ.out⟩
                case measure => simp [intOf]; omega
            · have hjm : j = m2 := by omega
              subst hjm
              have HBR := Lib.hid (HB12.out.trans (HBJ.out.mono HB12.out.size))
              have HOA := Lib.hid (ownsRow_of_block HO2.out fun g hg => HBR.out.block g (HO2.out.lt g hg).2)
              have HYR := Lib.hid ((HBR.out.block _ (lt_of_block HYW.out)).trans HYW.out)
              have HBZ := Lib.hid (HBW.out.trans (HBR.out.mono HBW.out.size))
              clear HEV3B HBJ HB12 HBR hlt
              generalize wr = wo at *
              go_wp2
              go_loopw [246] (fun s wr => ∃ (q : Nat) (a' : List Int), q ≤ k ∧ s = .int .i64 q ∧ a'.length = k ∧ wr.ownsRow (w.heap.size + 2) 3 1 (.slice sa2 k sc2) k (iCs a') ∧ Hid (∀ (i : Nat) (x : Int), a'[i]? = some x → -1000 ≤ x ∧ x ≤ 1000 ∧ (i < q → -T < x ∧ x < T)) ∧
                  wr.heap[w.heap.size + 1]? = some (.cells #[.int .i64 T, .int .i64 B] 50) ∧ Below w.heap.size w wr) (fun s _ => k - (intOf s).toNat)
              case atStart => exact ⟨0, aa, Nat.zero_le _, rfl, HLA.out, HOA.out, Lib.hid (fun i x hx => ⟨(HR2.out x (List.mem_of_getElem? hx)).1, (HR2.out x (List.mem_of_getElem? hx)).2, fun h => by omega⟩), HYR.out, HBZ.out⟩
              case round =>
                obtain ⟨q, a', hq, rfl, hla, ho, HRA, hyb, hbw⟩ := hrel
                have HO := Lib.hid ho
                have HYB := Lib.hid hyb
                have HBB := Lib.hid hbw
                have HLA2 := Lib.hid hla
                obtain ⟨y0, y1, _, _⟩ := cells2 hyb
                have hyl := lt_of_block hyb
                have hq0 : (0 : Int) ≤ (q : Int) := Int.natCast_nonneg _
                clear hyb hbw hla
                by_cases hlt : q < k
                · have hq1 : (q : Int) < (k : Int) := by omega
                  obtain ⟨x, hx⟩ : ∃ x, a'[q]? = some x := ⟨_, List.getElem?_eq_getElem (by rw [HLA2.out]; exact hlt)⟩
                  obtain ⟨xr0, xr1, _⟩ := HRA.out q x hx
                  rcases own_room HO.out with ⟨_, h0, _⟩ | ⟨g, hge, hgc⟩
                  · omega
                  subst hge
                  obtain ⟨gq, oq, hqe, hql, hqc⟩ := (own_kat HLA2.out.symm HO.out).at hx
                  obtain ⟨rfl, rfl⟩ : g = gq ∧ 0 = oq := by injection hqe with e; injection e with e1 e2; exact ⟨e1, e2⟩
                  rw [Nat.zero_add] at hqc
                  obtain ⟨D, hD⟩ : ∃ D, x.tmod T = D := ⟨_, rfl⟩
                  have hD0 : -T < D := by have := Int.lt_tmod_of_pos x (show (0 : Int) < T by omega); omega
                  have hD1 : D < T := by have := Int.tmod_lt_of_pos x (show (0 : Int) < T by omega); omega
                  obtain ⟨hos, hfz, hgH⟩ := own_set HO.out hlt D
                  have HRB := Lib.hid (show ∀ (i : Nat) (y : Int), (a'.set q D)[i]? = some y → -1000 ≤ y ∧ y ≤ 1000 ∧ (i < q + 1 → -T < y ∧ y < T) from fun i y hy => by
                    by_cases e : i = q
                    · subst e
                      rw [List.getElem?_set_self (by rw [HLA2.out]; exact hlt)] at hy
                      cases hy
                      exact ⟨by omega, by omega, fun _ => ⟨hD0, hD1⟩⟩
                    · rw [List.getElem?_set_ne (fun e2 => e e2.symm)] at hy
                      obtain ⟨r1, r2, r3⟩ := HRA.out i y hy
                      exact ⟨r1, r2, fun h => r3 (by omega)⟩)
                  have hTz : (T == 0) = false := by simp; omega
                  have HOS := Lib.hid hos
                  have hne : g ≠ w.heap.size + 1 := by omega
                  clear hx hqe hos HRA ho
                  go_upto_region 33 with (fail)
                  have hTz2 : (T = 0) = False := by simp only [eq_iff_iff, iff_false]; omega
                  have hwD : IntKind.i64.wrap D = D := by rw [IntKind.wrap_i64]; omega
                  go_still_tail 10, (by kernel_rfl)
                  change wpList _ _ _ _ _ wr.drew
                  have HO9 := Lib.hid (show (wr.drew.setCell ⟨g, q, none⟩ (.int .i64 D)).ownsRow (w.heap.size + 2) 3 1 (.slice (some ⟨g, 0, none⟩) k sc2) k (iCs (a'.set q D)) from HOS.out)
                  have HY9 := Lib.hid (show (wr.drew.setCell ⟨g, q, none⟩ (.int .i64 D)).heap[w.heap.size + 1]? = _ from (Below.heap_setCell _ _ _ _ (by show w.heap.size + 1 ≠ g; omega)).trans HYB.out)
                  have HB9 := Lib.hid (show Below w.heap.size w (wr.drew.setCell ⟨g, q, none⟩ (.int .i64 D)) from (HBB.out.drew).setCell (p := ⟨g, q, none⟩) (by show w.heap.size ≤ g; omega) _)
                  have y2 : wr.drew.cell? ⟨g, q, none⟩ = some (.int .i64 x) := hqc
                  have f2 : wr.drew.frozen? ⟨g, q, none⟩ = false := hfz
                  clear hqc hfz y0 y1 hD HOS hTz hTz2 hwD
                  generalize wr.drew = W7 at *
                  go_wp2
                  go_roundw
                  case rel => exact ⟨q + 1, a'.set q D, by omega, by go_num, by rw [List.length_set]; exact HLA2.out, HO9.out, HRB, HY9.out, HB9.out⟩
                  case measure => simp [intOf]; omega
                · have hqk : q = k := by omega
                  have HKF := Lib.hid (own_kat HLA2.out.symm HO.out)
                  have HWQ := Lib.hid (show whL T B a' = [] from whL_quiet T B a' (fun x hx => by
                    obtain ⟨i, hi, rfl⟩ := List.getElem_of_mem hx
                    exact (HRA.out i _ (List.getElem?_eq_getElem hi)).2.2 (by have := HLA2.out; omega)))
                  have HF9 := Lib.hid (show Calls Try.prog 25 #[.agg #[.int .i64 T, .int .i64 B], .slice sa2 k sc2] wr (EvOk [] wr) from by
                    have h := feel_ok HWH.out (l := a') (by have := HLA2.out; omega) (fun x hx => by
                      obtain ⟨i, hi, rfl⟩ := List.getElem_of_mem hx
                      have := HRA.out i _ (List.getElem?_eq_getElem hi)
                      exact ⟨this.1, this.2.1⟩) sa2 k sc2 HLA2.out.symm wr HKF.out
                    rw [HWQ.out] at h
                    exact h)
                  subst hqk
                  clear hlt ho
                  go_wp2_with (fail)
                  go_at_call 25
                  refine HF9.out.mono ?_
                  rintro e w20 ⟨v20, rfl, hev, hb⟩
                  obtain ⟨va20, vc20, rfl⟩ := evsFormC hev
                  have HB20 := Lib.hid (HBB.out.trans (hb.mono HBB.out.size))
                  have hlen0 : ([] : List Evx).length = 0 := rfl
                  rw [hlen0]
                  clear hev hb hlen0 y0 y1
                  go_wp2_with (go_at_call 13; refine (works_any _).mono ?_; rintro e w30 ⟨rfl, hb30⟩)
                  go_ret
                  exact ⟨rfl, HB20.out.trans (hb30.mono HB20.out.size)⟩

set_option maxRecDepth 100000 in
theorem lifted (os : Os) (started : os.Started) (H : Type) (enc : TypeId × Value → H) :
    ReturnsInHanded {} Try.checked os 10 .any (Rows.senseCausesSpec.pre6 enc Try.prog Try.f10 Rows.senseCausesRow.domain false) (Rows.senseCausesSpec.post enc Try.prog Try.f10 false true false false) := by
  refine returnsInHanded_of_change (C := Try.checked) own started (by kernel_rfl) Try.func10
    (ChangeSpec.witness6 (enc := enc) (C := Try.checked) false ⟨#[], #[.int .u8 0, .int .u16 0, .slice none 0 0, .int .u16 0, .int .u16 0, .int .u8 0], []⟩ 8 (by kernel_rfl) (by kernel_rfl) (by kernel_rfl) (by kernel_rfl)) ?_
  intro W base args ds gs before hval0 hW hcnd hsz
  have hval : ∀ (j : Nat) t v, Try.f10.params[j]? = some t → args[j]? = some v → Value.okWide Try.prog W .any base t v := hval0
  have hW' := hW
  obtain ⟨p, q, hA0, hV, rfl, hfz, hnd⟩ := hW
  have hA : DataW.TrodAll enc Try.prog W 0 (fun _ => true) true Try.f10.params.toList args.toList ds p := hA0
  rw [Try.params10] at hA hval
  have hAll := hA
  obtain ⟨v0, vs0, d0, ds0, p0, q0, hargs, rfl, rfl, h0, r0⟩ := trodAll_cons hA
  obtain ⟨v1, vs1, d1, ds1, p1, q1, rfl, rfl, rfl, h1, r1⟩ := trodAll_cons r0
  obtain ⟨v2, vs2, d2, ds2, p2, q2, rfl, rfl, rfl, h2, r2⟩ := trodAll_cons r1
  obtain ⟨v3, vs3, d3, ds3, p3, q3, rfl, rfl, rfl, h3, r3⟩ := trodAll_cons r2
  obtain ⟨v4, vs4, d4, ds4, p4, q4, rfl, rfl, rfl, h4, r4⟩ := trodAll_cons r3
  obtain ⟨v5, vs5, d5, ds5, p5, q5, rfl, rfl, rfl, h5, r5⟩ := trodAll_cons r4
  obtain ⟨rfl, rfl, rfl⟩ := trodAll_nil r5
  obtain rfl : args = #[v0, v1, v2, v3, v4, v5] := by cases args; simp_all
  obtain ⟨rfl, rfl⟩ := trodVars_none hV
  obtain ⟨a0, rfl, rfl, rfl, w0⟩ := open_int Try.underlying5 (hval 0 5 v0 rfl rfl) h0
  obtain ⟨a1, rfl, rfl, rfl, w1⟩ := open_int Try.underlying78 (hval 1 78 v1 rfl rfl) h1
  obtain ⟨sa2, sc2, l2, rfl, hS2, hm2, hw2⟩ := open_slice_k Try.underlying79 Try.underlying80 (by kernel_rfl) (hval 2 79 v2 rfl rfl) h2
  obtain ⟨a3, rfl, rfl, rfl, w3⟩ := open_int Try.underlying78 (hval 3 78 v3 rfl rfl) h3
  obtain ⟨a4, rfl, rfl, rfl, w4⟩ := open_int Try.underlying78 (hval 4 78 v4 rfl rfl) h4
  obtain ⟨a5, rfl, rfl, rfl, w5⟩ := open_int Try.underlying5 (hval 5 5 v5 rfl rfl) h5
  clear hA0 hval0
  refine (walk a0 w0 a1 w1 l2 sa2 sc2 hm2 hw2 a3 w3 a4 w4 a5 w5 W hS2).mono fun e W' ⟨he, bel⟩ => ?_
  subst he
  have hback := trodAll_below bel [5, 78, 79, 78, 78, 5] (by intro t ht; simp at ht; rcases ht with rfl | rfl | rfl | rfl | rfl | rfl <;> exact ⟨by kernel_rfl, of_decide_eq_true (by kernel_rfl)⟩) hAll
  exact ⟨_, rfl, _, _, _, [], _, [], hW', trodAll_mk1 (shut_bool Try.underlying4 _), hback, rfl, bel.frame _, fun h => by cases h⟩

theorem over : Rows.senseCausesRow.holds Try.pinned (OpenSpec.ofChange Rows.senseCausesSpec) :=
  OpenClaim.holds_of_wide 10 Try.f10 rfl rfl rfl rfl rfl rfl rfl ⟨rfl, rfl, rfl, rfl, rfl⟩ rfl rfl rfl rfl rfl (by kernel_rfl) Try.func10 (by kernel_rfl)
    (of_decide_eq_true (by kernel_rfl)) (by unfold Func.isWrapper; first | (rw [if_pos (by decide +kernel)]; kernel_rfl) | (rw [if_neg (by decide +kernel)]; exact ⟨rfl, rfl⟩))
    (fun os started H enc _ => lifted os started H enc)

theorem proved : Rows.SenseCausesSaid := over

end Go.Proofs.Ytbnjmpjodmlccaa.senseCauses
