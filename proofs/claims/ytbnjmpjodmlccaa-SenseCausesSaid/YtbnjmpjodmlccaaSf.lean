/- Whiskers: next, what the iterator hands out, felt. Over this seat's program; the conditions are named. -/
import Derived.Test.YtbnjmpjodmlccaaSe
import Derived.Test.YtbnjmpjodmlccaaMa
import Derived.TacticsInMore
namespace Go.Proofs.Ytbnjmpjodmlccaa
set_option linter.unusedVariables false
open Go.RowKit Go.Shelf
attribute [local go_sem] Oper.semAt_some

/-- The block in which a slice's elements lie. -/
def dataB (sv : Value) (b : Nat) : Prop := ∃ off n c, sv = .slice (some ⟨b, off, none⟩) n c
theorem KAt.same {k : IntKind} {W W' : World} {sv : Value} {zs : List Int} (h : KAt k W sv zs) (hs : ∀ b, dataB sv b → W'.heap[b]? = W.heap[b]?) : KAt k W' sv zs := by
  rcases h with h | ⟨b, off, cap, e, hl, h⟩
  · exact Or.inl h
  · have hb := hs b ⟨off, _, cap, e⟩
    have hl' : b < W'.heap.size := by
      have h1 : W.heap[b]? = some W.heap[b] := Array.getElem?_eq_getElem hl
      exact (Array.getElem?_eq_some_iff.1 (hb.trans h1)).1
    exact Or.inr ⟨b, off, cap, e, hl', fun j z hz => (World.cell?_of_block (w := W) hb).trans (h j z hz)⟩
theorem KAt.lt {k : IntKind} {W : World} {sv : Value} {zs : List Int} (h : KAt k W sv zs) {b : Nat} (hb : dataB sv b) : b < W.heap.size := by
  obtain ⟨off, n, c, rfl⟩ := hb
  rcases h with ⟨h, _⟩ | ⟨b', off', cap, e, hl, _⟩
  · cases h
  · cases e; exact hl
/-- A whisker as stated. -/
structure WhOk (T B : Int) : Prop where
  t0 : 1 ≤ T
  t1 : T ≤ 1000
  b0 : 0 ≤ B
  b1 : B ≤ T

set_option maxRecDepth 100000 in
set_option maxHeartbeats 1000000 in
theorem next_any (T B s a : Int) (h : WhOk T B) (hs : s = 0 ∨ s = 1 ∨ s = 2) (ha : -1000 ≤ a ∧ a ≤ 1000) (w : World) :
    Calls Try.prog 85 #[.agg #[.int .i64 T, .int .i64 B], .int .i64 s, .int .i64 a] w fun e w' => e = .returned (.int .i64 (whN T B s a)) ∧ Below w.heap.size w w' := by
  obtain ⟨t0, t1, b0, b1⟩ := h
  obtain ⟨a0, a1⟩ := ha
  obtain ⟨R, hR⟩ : ∃ R, whN T B s a = R := ⟨_, rfl⟩
  rw [hR]
  unfold whN at hR
  rcases hs with rfl | rfl | rfl
  · by_cases c : -a ≤ T - B - 1
    · simp [c] at hR
      subst hR
      have g1 : (-a ≤ T - B - 1) = True := by simp [c]
      go_enter Try.func85, Try.ntmps85
      go_wp2
      go_ret
      exact ⟨rfl, (Below.refl _ _).alloc (Nat.le_refl _) _⟩
    · simp [c] at hR
      subst hR
      have g1 : (-a ≤ T - B - 1) = False := by simp; omega
      go_enter Try.func85, Try.ntmps85
      go_wp2
      go_ret
      exact ⟨rfl, (Below.refl _ _).alloc (Nat.le_refl _) _⟩
  · by_cases c : a ≤ T - B - 1
    · simp [c] at hR
      subst hR
      have g1 : (a ≤ T - B - 1) = True := by simp [c]
      go_enter Try.func85, Try.ntmps85
      go_wp2
      go_ret
      exact ⟨rfl, (Below.refl _ _).alloc (Nat.le_refl _) _⟩
    · simp [c] at hR
      subst hR
      have g1 : (a ≤ T - B - 1) = False := by simp; omega
      go_enter Try.func85, Try.ntmps85
      go_wp2
      go_ret
      exact ⟨rfl, (Below.refl _ _).alloc (Nat.le_refl _) _⟩
  · by_cases c : T ≤ a
    · simp [c] at hR
      subst hR
      have g1 : (T ≤ a) = True := by simp [c]
      go_enter Try.func85, Try.ntmps85
      go_wp2
      go_ret
      exact ⟨rfl, (Below.refl _ _).alloc (Nat.le_refl _) _⟩
    · have g1 : (T ≤ a) = False := by simp; omega
      by_cases c2 : a ≤ -T
      · simp [c, c2] at hR
        subst hR
        have g2 : (a ≤ -T) = True := by simp [c2]
        go_enter Try.func85, Try.ntmps85
        go_wp2
        go_ret
        exact ⟨rfl, (Below.refl _ _).alloc (Nat.le_refl _) _⟩
      · simp [c, c2] at hR
        subst hR
        have g2 : (a ≤ -T) = False := by simp; omega
        go_enter Try.func85, Try.ntmps85
        go_wp2
        go_ret
        exact ⟨rfl, (Below.refl _ _).alloc (Nat.le_refl _) _⟩

set_option maxRecDepth 100000 in
set_option maxHeartbeats 2000000 in
theorem felt1_gives (T B : Int) (h : WhOk T B) (l : List Int) (n cap : Nat) (sa : Option Addr) (hn : n = l.length) (hl : n ≤ 4096) (hv : ∀ x ∈ l, -1000 ≤ x ∧ x ≤ 1000) (bl bw : Nat) (w0 : World)
    (hbl : w0.heap[bl]? = some (.cells #[.slice sa n cap] 25)) (hbw : w0.heap[bw]? = some (.cells #[.int .i64 T, .int .i64 B] 50)) (hk : KAt .i64 w0 (.slice sa n cap) l) :
    Gives Try.prog 84 #[.pointer (some ⟨bl, 0, none⟩), .pointer (some ⟨bw, 0, none⟩)] evEnc (whL T B l) (fun b => b = bl ∨ b = bw ∨ dataB (.slice sa n cap) b) w0 := by
  intro L J Jx W hsz hsame hJ hJx h0 hY
  have hWl := (hsame bl (.inl rfl)).trans hbl
  have hltl := lt_of_block hWl
  obtain ⟨cl, _⟩ := cells1 hWl
  have HSM := Lib.hid hsame
  have HBW := Lib.hid hbw
  have HBL := Lib.hid hbl
  have HK := Lib.hid hk
  have HV := Lib.hid hv
  have HN := Lib.hid hn
  clear hbl hbw hk hWl hsame hv hn
  refine callsIn_of_wp Try.func84 rfl trivial ?_ rfl
  simp only [Try.ntmps84, List.size_toArray, List.length_cons, List.length_nil, Nat.reduceAdd, Nat.reduceSub, Array.replicate_succ, Array.replicate_zero, List.push_toArray, List.append_toArray, List.nil_append, List.cons_append]
  gi_wp2
  clear cl hltl
  gi_loopw [4, 10] (fun s i wr => ∃ k : Nat, k ≤ n ∧ s = .int .i64 (whS T B (l.take k)) ∧ i = .int .i64 k ∧ ∃ G : Nat → Prop, (∀ b, G b → W.heap.size ≤ b ∧ b < wr.heap.size) ∧ W.heap.size ≤ wr.heap.size ∧ J G (pieces (whE T B l) k).length wr ∧ ∀ b, (b = bl ∨ b = bw ∨ dataB (.slice sa n cap) b) → wr.heap[b]? = w0.heap[b]?)
    (fun _ i _ => n - (intOf i).toNat)
  case atStart => exact ⟨0, Nat.zero_le _, rfl, rfl, fun _ => False, fun _ h => h.elim, Nat.le_refl _, h0, HSM.out⟩
  case round =>
    obtain ⟨k, hk, rfl, rfl, G, hG, hsz1, hJs, hsm⟩ := hrel
    have hi0 : (0 : Int) ≤ (k : Int) := Int.natCast_nonneg _
    by_cases hlt : k < n
    · have hi1 : (k : Int) < (n : Int) := by omega
      obtain ⟨a, ha⟩ : ∃ a, l[k]? = some a := ⟨_, List.getElem?_eq_getElem (by rw [← HN.out]; exact hlt)⟩
      have hav := HV.out a (List.mem_of_getElem? ha)
      have hst := whS_in T B (l.take k)
      have hse := whS_at T B ha
      have hee := whE_at T B ha
      have hpp := pieces_succ (whE T B l) k
      have hpx : pieces (whE T B l) (k + 1) <+: whL T B l := pieces_prefix _ _ _ (by have := HN.out; omega)
      rw [hee] at hpp
      obtain ⟨s, hs⟩ : ∃ s, s = whS T B (l.take k) := ⟨_, rfl⟩
      rw [← hs] at hst hse hpp ⊢
      obtain ⟨g, off, hge, hgl, hcc⟩ := (HK.out.same (fun b hb => hsm b (.inr (.inr hb)))).at ha
      subst hge
      have hbwb := (hsm bw (.inr (.inl rfl))).trans HBW.out
      obtain ⟨w0c, w1c, _, _⟩ := cells2 hbwb
      have hbwl := lt_of_block hbwb
      have hbll := lt_of_block ((hsm bl (.inl rfl)).trans HBL.out)
      obtain ⟨N, hN⟩ : ∃ N, N = whN T B s a := ⟨_, rfl⟩
      have hNx := next_any T B s a h hst hav
      rw [← hN] at hNx hse hpp
      have HNX := Lib.hid hNx
      have HSE := Lib.hid hse
      have HPP := Lib.hid hpp
      have HPX := Lib.hid hpx
      have HG := Lib.hid hG
      have HJS := Lib.hid hJs
      have HSM2 := Lib.hid hsm
      clear hst hse hee hpp hpx hs hav ha hbwb hN hNx hG hJs hsm
      by_cases hne : N = s
      · have e0 := HPP.out
        rw [if_pos hne, List.append_nil] at e0
        have E0 := Lib.hid e0
        clear e0
        subst hne
        gi_wp2_with (refine ⟨trivial, rfl, ?_⟩; gi_at_call 85; refine (callsIn_wide.2 (HNX.out _)).mono ?_; rintro e w1 ⟨rfl, hb1⟩)
        have HB1 := Lib.hid hb1
        clear hb1 w0c w1c hcc
        gi_wp2
        refine ⟨(by intro f hf; cases hf), ?_⟩
        gi_wp2
        go_roundw
        case rel => exact ⟨k + 1, by omega, by rw [HSE.out], by go_num, G, fun b hb => ⟨(HG.out b hb).1, by have := (HG.out b hb).2; have := HB1.out.size; omega⟩, Nat.le_trans hsz1 HB1.out.size, by rw [E0.out]; exact hJ _ _ _ _ HJS.out (Bel.ofBelow HB1.out (Nat.le_refl _)), fun b hb => by
            have h1 := HSM2.out b hb
            rw [← h1]
            refine HB1.out.block b ?_
            rcases hb with rfl | rfl | ⟨_, _, _, e⟩
            · exact hbll
            · exact hbwl
            · cases e; exact hgl⟩
        case measure => simp [intOf]; omega
      · have hnb : (N == s) = false := by simpa using hne
        have e0 := HPP.out
        rw [if_neg hne] at e0
        have hx : (whL T B l)[(pieces (whE T B l) k).length]? = some (⟨(k : Int), N⟩ : Evx) := at_prefix (by rw [← e0]; exact HPX.out)
        have e1 : (pieces (whE T B l) (k + 1)).length = (pieces (whE T B l) k).length + 1 := by rw [e0]; simp
        have E1 := Lib.hid e1
        have HX := Lib.hid hx
        have hnb3 : (N != s) = true := by simpa using hne
        clear e0 e1 hx hne
        gi_wp2_with (fail)
        refine ⟨trivial, rfl, ?_⟩
        refine (callsIn_wide.2 (HNX.out _)).mono ?_
        rintro e w1 ⟨rfl, hb1⟩
        have hsz2 : W.heap.size ≤ w1.heap.size := Nat.le_trans hsz1 hb1.size
        have hzz : wr.heap.size ≤ w1.heap.size := hb1.size
        have hJ1 := hJ _ _ _ _ HJS.out (Bel.ofBelow hb1 (Nat.le_refl _))
        have hsm1 : ∀ b, (b = bl ∨ b = bw ∨ dataB (.slice (some ⟨g, off, none⟩) n cap) b) → w1.heap[b]? = w0.heap[b]? := fun b hb => by
          have h1 := HSM2.out b hb
          rw [← h1]
          refine hb1.block b ?_
          rcases hb with rfl | rfl | ⟨_, _, _, e⟩
          · exact hbll
          · exact hbwl
          · cases e; exact hgl
        obtain ⟨fn, tmps, assign, body, hy, hR⟩ := hY G _ (⟨(k : Int), N⟩ : Evx) w1 (fun b hb => ⟨(HG.out b hb).1, by have := (HG.out b hb).2; omega⟩) hsz2 hJ1 HX.out
        have HJ1 := Lib.hid hJ1
        have HSM1 := Lib.hid hsm1
        have HB1 := Lib.hid hb1
        have HRR := Lib.hid hR
        simp only [evEnc] at hy
        clear hb1 w0c w1c hcc hJ1 hsm1 hR
        gi_wp2
        refine ⟨rfl, HRR.out.mono ?_⟩
        rintro e W3 (⟨rfl, G', hg, hJ3, hb3⟩ | ⟨rfl, G', hg, hJ3, hb3⟩)
        · have hsz3 : W.heap.size ≤ W3.heap.size := Nat.le_trans hsz2 hb3.size
          have hsm3 : ∀ b, (b = bl ∨ b = bw ∨ dataB (.slice (some ⟨g, off, none⟩) n cap) b) → W3.heap[b]? = w0.heap[b]? := fun b hb => by
            rw [← HSM1.out b hb]
            refine hb3.block b ?_ (fun h => h.1 hb)
            rcases hb with rfl | rfl | ⟨_, _, _, e⟩
            · omega
            · omega
            · cases e; omega
          have HJ3 := Lib.hid hJ3
          have HG3 := Lib.hid hg
          have HSM3 := Lib.hid hsm3
          clear hJ3 hg hb3 hsm3 hy
          gi_wp2
          go_roundw
          case rel => exact ⟨k + 1, by omega, by rw [HSE.out], by go_num, G', fun b hb => ⟨by rcases HG3.out.new b hb with h | h; exact (HG.out b h).1; omega, HG3.out.lt b hb⟩, hsz3, by rw [E1.out]; exact HJ3.out, HSM3.out⟩
          case measure => simp [intOf]; omega
        · have hsz3 : W.heap.size ≤ W3.heap.size := Nat.le_trans hsz2 hb3.size
          have hml : (pieces (whE T B l) k).length + 1 ≤ (whL T B l).length := by
            have h1 := HPX.out.length_le
            rw [E1.out] at h1
            exact h1
          have HJ3 := Lib.hid hJ3
          have HG3 := Lib.hid hg
          have HML := Lib.hid hml
          clear hJ3 hg hb3 hy hml
          gi_wp2
          refine bodyPost_ret (results_none rfl _ _ _) rfl ?_
          exact ⟨⟨_, rfl⟩, G', fun b hb => ⟨by rcases HG3.out.new b hb with h | h; exact (HG.out b h).1; omega, HG3.out.lt b hb⟩, hsz3, .inr ⟨_, HML.out, HJ3.out⟩⟩
    · have hkn : k = n := by omega
      have HJ2 := Lib.hid (show J G (whL T B l).length wr by unfold whL; rw [← HN.out, ← hkn]; exact hJs)
      have HG2 := Lib.hid hG
      clear hJs hG hsm
      subst hkn
      gi_wp2
      go_end0
      exact ⟨⟨_, rfl⟩, G, HG2.out, hsz1, .inl HJ2.out⟩

theorem enters_felt1 : ∀ args w, (callFunc 84 args).run Try.prog w = .ok (.enter 84 args) w := enters_of Try.func84 (by kernel_rfl) rfl
set_option maxRecDepth 100000 in
theorem felt_any (T B : Int) (v : Value) (w : World) (hv : ∃ a n c, v = .slice a n c) :
    Calls Try.prog 62 #[.agg #[.int .i64 T, .int .i64 B], v] w fun e w' => ∃ bl bw : Nat, e = .returned (.func (.func 84) #[] #[.pointer (some ⟨bl, 0, none⟩), .pointer (some ⟨bw, 0, none⟩)]) ∧
      w'.heap[bl]? = some (.cells #[v] 25) ∧ w'.heap[bw]? = some (.cells #[.int .i64 T, .int .i64 B] 50) ∧ Below w.heap.size w w' := by
  obtain ⟨a, n, c, rfl⟩ := hv
  go_enter Try.func62, Try.ntmps62
  go_wp2
  go_ret
  exact ⟨_, _, rfl, alloc_new_at _ _ _ (by simp), by rw [Below.heap_alloc _ _ _ (by simp)]; exact alloc_new_at _ _ _ rfl, ((Below.refl _ _).alloc (Nat.le_refl _) _).alloc (by simp) _⟩
end Go.Proofs.Ytbnjmpjodmlccaa
