/- The spikes that a claim is about, handed out. Over this seat's program; the conditions are named. -/
import Derived.Test.YtnbndciididpoaaGreatVo
import Derived.Test.YtnbndciididpoaaGreatR
import Derived.Test.YtnbndciididpoaaGreatVl
import Derived.RangeFuncOwn
import Derived.TacticsInMore
import Derived.LoopNIn
import Derived.LoopIn
import Derived.OwnWalkIn
import Derived.Sort.CutIn
namespace Go.Proofs.YtnbndciididpoaaGreat
set_option linter.unusedVariables false
open Go.RowKit Go.Shelf
attribute [local go_sem] Oper.semAt_some

/-- The block in which a slice's elements lie. -/
def dataB (sv : Value) (b : Nat) : Prop := ∃ off n c, sv = .slice (some ⟨b, off, none⟩) n c
theorem KAt.same {k : IntKind} {W W' : World} {sv : Value} {zs : List Int} (h : KAt k W sv zs) (hs : ∀ b, dataB sv b → W'.heap[b]? = W.heap[b]?) : KAt k W' sv zs := by
  rcases h with h | ⟨b, off, cap, e, hl, h⟩
  · exact Or.inl h
  · have hb := hs b ⟨off, _, cap, e⟩
    have hl' : b < W'.heap.size := by
      have h1 : W.heap[b]? = some W.heap[b] := Array.getElem?_eq_getElem hl
      exact (Array.getElem?_eq_some_iff.1 (hb.trans h1)).1
    exact Or.inr ⟨b, off, cap, e, hl', fun j z hz => (World.cell?_of_block (w := W) hb).trans (h j z hz)⟩
theorem KAt.lt {k : IntKind} {W : World} {sv : Value} {zs : List Int} (h : KAt k W sv zs) {b : Nat} (hb : dataB sv b) : b < W.heap.size := by
  obtain ⟨off, n, c, rfl⟩ := hb
  rcases h with ⟨h, _⟩ | ⟨b', off', cap, e, hl, _⟩
  · cases h
  · cases e; exact hl
theorem EvxsAt.same {W W' : World} {sv : Value} {l : List Evx} (h : EvxsAt W sv l) (hs : ∀ b, dataB sv b → W'.heap[b]? = W.heap[b]?) : EvxsAt W' sv l := by
  rcases h with h | ⟨b, off, cap, e, hl, h⟩
  · exact Or.inl h
  · have hb := hs b ⟨off, _, cap, e⟩
    have hl' : b < W'.heap.size := by
      have h1 : W.heap[b]? = some W.heap[b] := Array.getElem?_eq_getElem hl
      exact (Array.getElem?_eq_some_iff.1 (hb.trans h1)).1
    exact Or.inr ⟨b, off, cap, e, hl', fun j z hz => ⟨(World.cell?_of_block (w := W) hb).trans (h j z hz).c0, (World.cell?_of_block (w := W) hb).trans (h j z hz).c1⟩⟩
theorem EvxsAt.lt {W : World} {sv : Value} {l : List Evx} (h : EvxsAt W sv l) {b : Nat} (hb : dataB sv b) : b < W.heap.size := by
  obtain ⟨off, n, c, rfl⟩ := hb
  rcases h with ⟨h, _⟩ | ⟨b', off', cap, e, hl, _⟩
  · cases h
  · cases e; exact hl
theorem at_prefix {α : Type} {p xs : List α} {x : α} (h : p ++ [x] <+: xs) : xs[p.length]? = some x := by
  obtain ⟨r, rfl⟩ := h
  simp
def evEnc (x : Evx) : Array Value := #[.agg #[.int .i64 x.tk, .int .i64 x.id]]
/-- The set of a claim's neurons, as a map. -/
def setF (l : List Int) : Int → Option Value := fun y => if l.contains y then some (.bool true) else none
theorem setF_snoc (l : List Int) (i : Int) : upd (setF l) i (.bool true) = setF (l ++ [i]) := by
  funext y
  unfold upd setF
  by_cases e : y = i
  · subst e; simp
  · simp [e]
/-- A claim that has passed its check, and the spikes. -/
structure ClmOk (c : Clm) : Prop where
  n20 : c.ns.length ≤ 100
  wf : ∀ i ∈ c.ns, (Lit.int .i64 i).wf = true
  f0 : 0 ≤ c.fr
  f1 : c.fr ≤ c.to
  t1 : c.to ≤ 10000
/-- What own's iterator holds: N: the heap's size when it began. -/
structure OwI (N K : Nat) (f : Int → Option Value) (w0 : World) (Cap : Nat → Prop) (J : (Nat → Prop) → Nat → World → Prop) (G : Nat → Prop) (m : Nat) (A : World) : Prop where
  gs : ∀ b, G b → N + 1 ≤ b ∧ b < A.heap.size
  sz : N + 1 ≤ A.heap.size
  j : J G m A
  cap : ∀ b, Cap b → A.heap[b]? = w0.heap[b]?
  map : MapIs A N K f
theorem OwI.below {N K : Nat} {f : Int → Option Value} {w0 : World} {Cap : Nat → Prop} {J : (Nat → Prop) → Nat → World → Prop} {G : Nat → Prop} {m : Nat} {A A' : World} (h : OwI N K f w0 Cap J G m A)
    (hJ : ∀ G k A A', J G k A → Bel (fun b => N ≤ b ∧ ¬ G b) A.heap.size A A' → J G k A') (hc : ∀ b, Cap b → b < N) (hb : Below A.heap.size A A') : OwI N K f w0 Cap J G m A' :=
  ⟨fun b hg => ⟨(h.gs b hg).1, Nat.lt_of_lt_of_le (h.gs b hg).2 hb.size⟩, Nat.le_trans h.sz hb.size, hJ _ _ _ _ h.j (Bel.ofBelow hb (Nat.le_refl _)),
    fun b hcb => (hb.block b (by have := hc b hcb; have := h.sz; omega)).trans (h.cap b hcb), h.map.of_block (hb.block N (by have := h.sz; omega))⟩
set_option maxRecDepth 100000 in
set_option maxHeartbeats 4000000 in
theorem own1_gives (c : Clm) (h : ClmOk c) (na : Option Addr) (K nc : Nat) (hK : K = c.ns.length) (sp : List Evx) (n sc : Nat) (sa : Option Addr) (hn : n = sp.length) (hl : n ≤ 10000) (hv : ∀ x ∈ sp, (Lit.int .i64 x.id).wf = true) (cb sb : Nat) (w0 : World)
    (hcb : w0.heap[cb]? = some (.cells #[.int .i64 c.kd, .slice na K nc, .int .i64 c.fr, .int .i64 c.to, .int .i64 c.lo, .int .i64 c.hi] 50)) (hsb : w0.heap[sb]? = some (.cells #[.slice sa n sc] 27)) (hkn : KAt .i64 w0 (.slice na K nc) c.ns) (hks : EvxsAt w0 (.slice sa n sc) sp) :
    Gives Tryz.prog 198 #[.pointer (some ⟨cb, 0, none⟩), .pointer (some ⟨sb, 0, none⟩)] evEnc (ownL c sp) (fun b => b = cb ∨ b = sb ∨ dataB (.slice na K nc) b ∨ dataB (.slice sa n sc) b) w0 := by
  intro L J Jx W hsz hsame hJ hJx h0 hY
  have hcap : ∀ b, (b = cb ∨ b = sb ∨ dataB (.slice na K nc) b ∨ dataB (.slice sa n sc) b) → b < W.heap.size := by
    rintro b (rfl | rfl | hb | hb)
    · exact Nat.lt_of_lt_of_le (lt_of_block hcb) hsz
    · exact Nat.lt_of_lt_of_le (lt_of_block hsb) hsz
    · exact Nat.lt_of_lt_of_le (hkn.lt hb) hsz
    · exact Nat.lt_of_lt_of_le (hks.lt hb) hsz
  obtain ⟨h20, hwf, f0, f1, t1⟩ := h
  have HCAP := Lib.hid hcap
  have HSM := Lib.hid hsame
  have HCB := Lib.hid hcb
  have HSB := Lib.hid hsb
  have HKN := Lib.hid hkn
  have HKS := Lib.hid hks
  have HV := Lib.hid hv
  have HN := Lib.hid hn
  have HKL := Lib.hid hK
  have HWF := Lib.hid hwf
  have HJ := Lib.hid hJ
  have HY := Lib.hid hY
  have HJ0 := Lib.hid h0
  have hK20 : K ≤ 100 := by omega
  clear hcb hsb hkn hks hsame hv hn hcap hJ hJx hY h0 hwf hK h20
  refine callsIn_wide.2 ?_
  simp only [List.append_toArray, List.nil_append, List.cons_append]
  have hmm := @run_makeMap Tryz.prog
  go_enter Tryz.func198, Tryz.ntmps198
  go_upto_region 1 with (fail)
  have hm0 : MapIs (W.alloc (.map #[] 0)) W.heap.size 0 (setF []) := by
    have e : setF [] = fun _ => none := by funext y; simp [setF]
    rw [e]; exact MapIs.made W
  have hb0 : Below W.heap.size W (W.alloc (.map #[] 0)) := (Below.refl _ _).alloc (Nat.le_refl _) _
  have hs0 : W.heap.size + 1 ≤ (W.alloc (.map #[] 0)).heap.size := by simp
  generalize W.alloc (.map #[] 0) = W1 at *
  have HI0 := Lib.hid (show OwI W.heap.size 0 (setF []) w0 (fun b => b = cb ∨ b = sb ∨ dataB (.slice na K nc) b ∨ dataB (.slice sa n sc) b) J (fun _ => False) 0 W1 from
    ⟨fun b h => h.elim, hs0, HJ.out _ _ _ _ HJ0.out (Bel.ofBelow hb0 (Nat.le_refl _)), fun b hb => (hb0.block b (HCAP.out b hb)).trans (HSM.out b hb), hm0⟩)
  obtain ⟨cx0, cx1, cx2, cx3, cx4, cx5⟩ := cells6 (v0 := .int .i64 c.kd) (v1 := .slice na K nc) (v2 := .int .i64 c.fr) (v3 := .int .i64 c.to) (v4 := .int .i64 c.lo) (v5 := .int .i64 c.hi) ((HI0.out.cap cb (.inl rfl)).trans HCB.out)
  have hcbl := lt_of_block ((HI0.out.cap cb (.inl rfl)).trans HCB.out)
  clear hm0 hb0 hs0 hmm
  go_wp2
  clear cx0 cx1 cx2 cx3 cx4 cx5 hcbl
  go_loopw [13] (fun s wr => ∃ k : Nat, k ≤ K ∧ s = .int .i64 k ∧ OwI W.heap.size k (setF (c.ns.take k)) w0 (fun b => b = cb ∨ b = sb ∨ dataB (.slice na K nc) b ∨ dataB (.slice sa n sc) b) J (fun _ => False) 0 wr) (fun s _ => K - (intOf s).toNat)
  case atStart => exact ⟨0, Nat.zero_le _, rfl, by rw [List.take_zero]; exact HI0.out⟩
  case round =>
    obtain ⟨k, hk, rfl, hi0⟩ := hrel
    have HI := Lib.hid hi0
    have hk0 : (0 : Int) ≤ (k : Int) := Int.natCast_nonneg _
    clear hi0
    by_cases hlt : k < K
    · have hk1 : (k : Int) < (K : Int) := by omega
      obtain ⟨i, hi⟩ : ∃ i, c.ns[k]? = some i := ⟨_, List.getElem?_eq_getElem (by rw [← HKL.out]; exact hlt)⟩
      obtain ⟨g, off, hge, hgl, hcc⟩ := (HKN.out.same (fun b hb => HI.out.cap b (.inr (.inr (.inl hb))))).at hi
      subst hge
      obtain ⟨W', hrun, hm, hg⟩ := HI.out.map.update (by unfold maxLen; omega) Tryz.underlying188 i (HWF.out i (List.mem_of_getElem? hi)) (.bool true)
      rw [setF_snoc] at hm
      have hgb : ∀ b, b < wr.heap.size → b ≠ W.heap.size → W'.heap[b]? = wr.heap[b]? := fun b q1 q2 => hg.block b q1 (fun e => q2 (by injection e))
      have hsw := HI.out.sz
      have HI2 := Lib.hid (show OwI W.heap.size (k + 1) (setF (c.ns.take (k + 1))) w0 (fun b => b = cb ∨ b = sb ∨ dataB (.slice (some ⟨g, off, none⟩) K nc) b ∨ dataB (.slice sa n sc) b) J (fun _ => False) 0 W' from by
        refine ⟨fun b h => h.elim, Nat.le_trans hsw hg.size, HJ.out _ _ _ _ HI.out.j ⟨hg.os, hg.tape, hg.output, hg.size, fun b q1 q2 => hgb b q1 (fun e => q2 ⟨by omega, id⟩)⟩, fun b hb => ?_, ?_⟩
        · have := HCAP.out b hb
          exact (hgb b (by omega) (by omega)).trans (HI.out.cap b hb)
        · have e : c.ns.take (k + 1) = c.ns.take k ++ [i] := by rw [List.take_add_one, hi]; rfl
          rw [e]; exact hm)
      clear hi hm hg hgb
      go_wp2
      go_roundw
      case rel => exact ⟨k + 1, by omega, by go_num, HI2.out⟩
      case measure => simp [intOf]; omega
    · have hkK : k = K := by omega
      subst hkK
      have HI3 := Lib.hid (show OwI W.heap.size k (setF c.ns) w0 (fun b => b = cb ∨ b = sb ∨ dataB (.slice na k nc) b ∨ dataB (.slice sa n sc) b) J (fun _ => False) 0 wr from by
        have := HI.out
        rwa [show c.ns.take k = c.ns from by rw [HKL.out, List.take_length]] at this)
      obtain ⟨sx0, _⟩ := cells1 ((HI.out.cap sb (.inr (.inl rfl))).trans HSB.out)
      have hsbl := lt_of_block ((HI.out.cap sb (.inr (.inl rfl))).trans HSB.out)
      clear HI hlt
      generalize wr = wo at *
      go_wp2
      clear sx0 hsbl
      have hob : ∀ X Y : Int, ownB c ⟨X, Y⟩ = (c.ns.contains Y && inR X c.fr (c.to - 1)) := fun X Y => rfl
      have HOB := Lib.hid hob
      clear hob
      go_loopw [22] (fun s wr => ∃ (j : Nat) (G : Nat → Prop), j ≤ n ∧ s = .int .i64 j ∧ OwI W.heap.size k (setF c.ns) w0 (fun b => b = cb ∨ b = sb ∨ dataB (.slice na k nc) b ∨ dataB (.slice sa n sc) b) J G (ownL c (sp.take j)).length wr) (fun s _ => n - (intOf s).toNat)
      case atStart => exact ⟨0, _, Nat.zero_le _, rfl, HI3.out⟩
      case round =>
        obtain ⟨j, G, hj, rfl, hij⟩ := hrel
        have hj0 : (0 : Int) ≤ (j : Int) := Int.natCast_nonneg _
        by_cases hlt : j < n
        · have hj1 : (j : Int) < (n : Int) := by omega
          obtain ⟨x, hx⟩ : ∃ x, sp[j]? = some x := ⟨_, List.getElem?_eq_getElem (by rw [← HN.out]; exact hlt)⟩
          obtain ⟨g, off, hge, hgl, hcl⟩ := (HKS.out.same (fun b hb => hij.cap b (.inr (.inr (.inr hb))))).at hx
          subst hge
          have hwid := HV.out x (List.mem_of_getElem? hx)
          have hsn : ownL c (sp.take (j + 1)) = ownL c (sp.take j) ++ ownL c [x] := by rw [List.take_add_one, hx]; exact ownL_append _ _ _
          have hpx : ownL c (sp.take (j + 1)) <+: ownL c sp := by
            have := ownL_append c (sp.take (j + 1)) (sp.drop (j + 1))
            rw [List.take_append_drop] at this
            rw [this]; exact List.prefix_append _ _
          obtain ⟨X, Y⟩ := x
          obtain ⟨u1, u2⟩ := hcl
          simp only at u1 u2 hwid
          have HSN := Lib.hid hsn
          have HPX := Lib.hid hpx
          clear hx hsn hpx
          go_upto_region 9 with (fail)
          have hbn := (Below.refl wr.heap.size wr).alloc (Nat.le_refl _) (.cells #[.int .i64 X, .int .i64 Y] 76)
          have htb : (wr.alloc (.cells #[.int .i64 X, .int .i64 Y] 76)).heap[wr.heap.size]? = some (.cells #[.int .i64 X, .int .i64 Y] 76) := alloc_new_at _ _ _ rfl
          generalize wr.alloc (.cells #[.int .i64 X, .int .i64 Y] 76) = W5 at *
          have HI5 := Lib.hid (hij.below HJ.out HCAP.out hbn)
          have hwl := lt_of_block htb
          obtain ⟨q0, q1, _, _⟩ := cells2 htb
          obtain ⟨cx0, cx1, cx2, cx3, cx4, cx5⟩ := cells6 (v0 := .int .i64 c.kd) (v1 := .slice na k nc) (v2 := .int .i64 c.fr) (v3 := .int .i64 c.to) (v4 := .int .i64 c.lo) (v5 := .int .i64 c.hi) ((HI5.out.cap cb (.inl rfl)).trans HCB.out)
          have hcbl := lt_of_block ((HI5.out.cap cb (.inl rfl)).trans HCB.out)
          have hlk := HI5.out.map.look1 (W := W5) Tryz.underlying188 (z := .bool false) (by kernel_rfl) Y hwid
          have hlv : (setF c.ns Y).getD (.bool false) = .bool (c.ns.contains Y) := by
            unfold setF
            cases c.ns.contains Y <;> rfl
          rw [hlv] at hlk
          clear hbn htb u1 u2 hij hlv hwid hgl
          cases hB : c.ns.contains Y with
          | false =>
            have hob : ownL c [⟨X, Y⟩] = [] := by
              have := HOB.out X Y
              rw [hB] at this
              unfold ownL; rw [List.filter_cons, this]; rfl
            have hsn := HSN.out
            rw [hob, List.append_nil] at hsn
            have HSN2 := Lib.hid hsn
            rw [hB] at hlk
            clear hob hsn hB HSN HPX
            go_wp2
            go_roundw
            case rel => exact ⟨j + 1, G, by omega, by go_num, by rw [HSN2.out]; exact HI5.out⟩
            case measure => simp [intOf]; omega
          | true =>
          rw [hB] at hlk
          cases hR : inR X c.fr (c.to - 1) with
          | false =>
            have hob : ownL c [⟨X, Y⟩] = [] := by
              have := HOB.out X Y
              rw [hB, hR] at this
              unfold ownL; rw [List.filter_cons, this]; rfl
            have hsn := HSN.out
            rw [hob, List.append_nil] at hsn
            have HSN2 := Lib.hid hsn
            clear hob hsn hB HSN HPX
            go_wp2_with (go_at_call 72; refine (vamong_any _ _ _ _).mono ?_; rintro e w' ⟨rfl, rfl⟩; rw [hR])
            go_roundw
            case rel => exact ⟨j + 1, G, by omega, by go_num, by rw [HSN2.out]; exact HI5.out⟩
            case measure => simp [intOf]; omega
          | true =>
            have hob : ownL c [⟨X, Y⟩] = [⟨X, Y⟩] := by
              have := HOB.out X Y
              rw [hB, hR] at this
              unfold ownL; rw [List.filter_cons, this]; rfl
            have hsn := HSN.out
            rw [hob] at hsn
            have hx : (ownL c sp)[(ownL c (sp.take j)).length]? = some (⟨X, Y⟩ : Evx) := at_prefix (by rw [← hsn]; exact HPX.out)
            have hlm : (ownL c (sp.take (j + 1))).length = (ownL c (sp.take j)).length + 1 := by rw [hsn]; simp
            have hle : (ownL c (sp.take j)).length + 1 ≤ (ownL c sp).length := by have := HPX.out.length_le; rw [hlm] at this; exact this
            have HLM := Lib.hid hlm
            have HLE := Lib.hid hle
            obtain ⟨fn, tmps, assign, body, hy, hRR⟩ := HY.out G _ (⟨X, Y⟩ : Evx) W5 (fun b hb => ⟨by have := (HI5.out.gs b hb).1; omega, (HI5.out.gs b hb).2⟩) (by have := HI5.out.sz; omega) HI5.out.j hx
            have HRR := Lib.hid hRR
            simp only [evEnc] at hy
            clear hob hsn hx hlm hle hRR hB HSN HPX
            refine (wpIn_wide (n := 0)).1 ?_
            gi_wp2_with (refine ⟨trivial, rfl, ?_⟩; gi_at_call 72; refine (callsIn_wide.2 (vamong_any _ _ _ _)).mono ?_; rintro e w' ⟨rfl, rfl⟩; rw [hR])
            refine ⟨rfl, HRR.out.mono ?_⟩
            rintro e W3 (⟨rfl, G', hg, hJ3, hb3⟩ | ⟨rfl, G', hg, hJ3, hb3⟩)
            · have hsw := HI5.out.sz
              have HI9 := Lib.hid (show OwI W.heap.size k (setF c.ns) w0 (fun b => b = cb ∨ b = sb ∨ dataB (.slice na k nc) b ∨ dataB (.slice (some ⟨g, off, none⟩) n sc) b) J G' (ownL c (sp.take (j + 1))).length W3 from by
                rw [HLM.out]
                exact ⟨fun b hb => ⟨by rcases hg.new b hb with h | h; exact (HI5.out.gs b h).1; omega, hg.lt b hb⟩, Nat.le_trans hsw hb3.size, hJ3, fun b hb => (hb3.block b (by have := HCAP.out b hb; omega) (fun h => h.1 hb)).trans (HI5.out.cap b hb),
                  HI5.out.map.of_block (hb3.block _ (by omega) (fun h => by rcases h.2 with q | q; omega; have := (HI5.out.gs _ q).1; omega))⟩)
              clear hb3 hg hJ3 hy hsw hlk q0 q1 cx0 cx1 cx2 cx3 cx4 cx5
              gi_wp2
              go_wp2
              go_roundw
              case rel => exact ⟨j + 1, G', by omega, by go_num, HI9.out⟩
              case measure => simp [intOf]; omega
            · have hsw := HI5.out.sz
              have HJ3 := Lib.hid hJ3
              have HG3 := Lib.hid hg
              have hs3 := hb3.size
              clear hJ3 hg hb3 hy hlk q0 q1 cx0 cx1 cx2 cx3 cx4 cx5
              gi_wp2
              go_wp2
              refine bodyPost_ret (results_none rfl _ _ _) rfl ?_
              exact ⟨⟨_, rfl⟩, G', fun b hb => ⟨by rcases HG3.out.new b hb with h | h; have := (HI5.out.gs b h).1; omega; omega, HG3.out.lt b hb⟩, by omega, .inr ⟨_, HLE.out, HJ3.out⟩⟩
        · have e8 : (ownL c (sp.take j)).length = (ownL c sp).length := by rw [show j = sp.length from by have := HN.out; omega, List.take_length]
          rw [e8] at hij
          have HI8 := Lib.hid hij
          have hjn : j = n := by omega
          clear hij hlt e8
          subst hjn
          go_wp2
          go_end0
          exact ⟨⟨_, rfl⟩, G, fun b hb => ⟨by have := (HI8.out.gs b hb).1; omega, (HI8.out.gs b hb).2⟩, by have := HI8.out.sz; omega, .inl HI8.out.j⟩

theorem enters_own1 : ∀ args w, (callFunc 198 args).run Tryz.prog w = .ok (.enter 198 args) w := enters_of Tryz.func198 (by kernel_rfl) rfl
set_option maxRecDepth 100000 in
theorem own_any (x0 x2 x3 x4 x5 : Value) (v1 v : Value) (w : World) (h1 : ∃ a n c, v1 = .slice a n c) (hv : ∃ a n c, v = .slice a n c) (h0 : ∃ a, x0 = .int .i64 a) (h2 : ∃ a, x2 = .int .i64 a) (h3 : ∃ a, x3 = .int .i64 a) (h4 : ∃ a, x4 = .int .i64 a) (h5 : ∃ a, x5 = .int .i64 a) :
    Calls Tryz.prog 162 #[.agg #[x0, v1, x2, x3, x4, x5], v] w fun e w' => ∃ cb sb : Nat, e = .returned (.func (.func 198) #[] #[.pointer (some ⟨cb, 0, none⟩), .pointer (some ⟨sb, 0, none⟩)]) ∧
      w'.heap[cb]? = some (.cells #[x0, v1, x2, x3, x4, x5] 50) ∧ w'.heap[sb]? = some (.cells #[v] 27) ∧ Below w.heap.size w w' := by
  obtain ⟨a1, n1, c1, rfl⟩ := h1
  obtain ⟨a, n, c, rfl⟩ := hv
  obtain ⟨y0, rfl⟩ := h0
  obtain ⟨y2, rfl⟩ := h2
  obtain ⟨y3, rfl⟩ := h3
  obtain ⟨y4, rfl⟩ := h4
  obtain ⟨y5, rfl⟩ := h5
  go_enter Tryz.func162, Tryz.ntmps162
  go_wp2
  go_ret
  exact ⟨_, _, rfl, by rw [Below.heap_alloc _ _ _ (by simp)]; exact alloc_new_at _ _ _ rfl, alloc_new_at _ _ _ (by simp), ((Below.refl _ _).alloc (Nat.le_refl _) _).alloc (by simp) _⟩
end Go.Proofs.YtnbndciididpoaaGreat
