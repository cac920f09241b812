/- counts. Over this seat's program; the conditions are named. -/
import Derived.Test.YtnbndciididpoaaGreatVp
import Derived.Test.YtnbndciididpoaaGreatVb
namespace Go.Proofs.YtnbndciididpoaaGreat
set_option linter.unusedVariables false
open Go.RowKit Go.Shelf
attribute [local go_sem] Oper.semAt_some

/-- What counts's loop holds. -/
def CntI (c : Clm) (na : Option Addr) (K nc : Nat) (w : World) (k : Nat) (A : World) : Prop :=
  A.heap[w.heap.size]? = some (.cells #[.int .i64 c.kd, .slice na K nc, .int .i64 c.fr, .int .i64 c.to, .int .i64 c.lo, .int .i64 c.hi] 50) ∧ A.heap[w.heap.size + 1]? = some (.cells #[.int .i64 (k : Int)] 3) ∧ Below w.heap.size w A
theorem CntI.stab {c : Clm} {na : Option Addr} {K nc : Nat} {w : World} {N : Nat} (hN : w.heap.size + 2 ≤ N) {G : Nat → Prop} {k : Nat} {A A' : World} (h : CntI c na K nc w k A) (hb : Bel (fun b => N ≤ b ∧ ¬ G b) A.heap.size A A') : CntI c na K nc w k A' :=
  ⟨(hb.block _ (lt_of_block h.1) (by omega)).trans h.1, (hb.block _ (lt_of_block h.2.1) (by omega)).trans h.2.1, h.2.2.trans (hb.below (by have := lt_of_block h.1; omega) (fun b h => by omega))⟩
theorem ownL_le (c : Clm) (l : List Evx) : (ownL c l).length ≤ l.length := List.length_filter_le _ _
set_option maxRecDepth 100000 in
set_option maxHeartbeats 4000000 in
theorem counts_in (c : Clm) (h : ClmOk c) (na : Option Addr) (K nc : Nat) (hK : K = c.ns.length) (sp : List Evx) (n sc : Nat) (sa : Option Addr) (hn : n = sp.length) (hl : n ≤ 10000) (hv : ∀ x ∈ sp, (Lit.int .i64 x.id).wf = true) (w : World)
    (hkn : KAt .i64 w (.slice na K nc) c.ns) (hks : EvxsAt w (.slice sa n sc) sp) :
    CallsIn Fence.wide 0 Tryz.prog 119 #[.agg #[.int .i64 c.kd, .slice na K nc, .int .i64 c.fr, .int .i64 c.to, .int .i64 c.lo, .int .i64 c.hi], .slice sa n sc] w fun e w' => e = .returned (.bool (inR ((ownL c sp).length : Int) c.lo c.hi)) ∧ Below w.heap.size w w' := by
  refine callsIn_of_wp_marks Tryz.func119 rfl trivial ?_ rfl
  simp only [Tryz.ntmps119, List.size_toArray, List.length_cons, List.length_nil, Nat.reduceAdd, Nat.reduceSub, Array.replicate_succ, Array.replicate_zero, List.push_toArray, List.append_toArray, List.nil_append, List.cons_append]
  have HOW := Lib.hid (fun W => own_any (.int .i64 c.kd) (.int .i64 c.fr) (.int .i64 c.to) (.int .i64 c.lo) (.int .i64 c.hi) (.slice na K nc) (.slice sa n sc) W ⟨_, _, _, rfl⟩ ⟨_, _, _, rfl⟩ ⟨_, rfl⟩ ⟨_, rfl⟩ ⟨_, rfl⟩ ⟨_, rfl⟩ ⟨_, rfl⟩)
  have HH := Lib.hid h
  have HKL := Lib.hid hK
  have HN := Lib.hid hn
  have HV := Lib.hid hv
  have HKN := Lib.hid hkn
  have HKS := Lib.hid hks
  clear h hK hn hv hkn hks
  gi_wp2_with (refine ⟨trivial, rfl, ?_⟩; gi_at_call 162; refine (callsIn_wide.2 (HOW.out _)).mono ?_; rintro e w1 ⟨cb, sb, rfl, g1, g2, hb1⟩)
  have a1 : w1.heap[w.heap.size]? = some (.cells #[.int .i64 c.kd, .slice na K nc, .int .i64 c.fr, .int .i64 c.to, .int .i64 c.lo, .int .i64 c.hi] 50) := by
    rw [hb1.block _ (by simp <;> omega), Below.heap_alloc _ _ _ (by simp <;> omega)]; exact alloc_new_at _ _ _ rfl
  have a2 : w1.heap[w.heap.size + 1]? = some (.cells #[.int .i64 0] 3) := by
    rw [hb1.block _ (by simp <;> omega)]; exact alloc_new_at _ _ _ (by simp)
  have hb0 : Below w.heap.size w w1 := (((Below.refl _ _).alloc (Nat.le_refl _) _).alloc (by simp) _).trans (hb1.mono (by simp <;> omega))
  have hG := own1_gives c HH.out na K nc HKL.out sp n sc sa HN.out hl HV.out cb sb w1 g1 g2 (HKN.out.below hb0) (HKS.out.below hb0)
  have hcap : ∀ b, (b = cb ∨ b = sb ∨ dataB (.slice na K nc) b ∨ dataB (.slice sa n sc) b) → b < w1.heap.size ∧ b ≠ w.heap.size + 1 := by
    rintro b (rfl | rfl | hb | hb)
    · exact ⟨lt_of_block g1, fun e => by rw [e, a2] at g1; simp at g1⟩
    · exact ⟨lt_of_block g2, fun e => by rw [e, a2] at g2; simp at g2⟩
    · have := HKN.out.lt hb; have := hb0.size; omega
    · have := HKS.out.lt hb; have := hb0.size; omega
  have hz1 : w.heap.size + 2 ≤ w1.heap.size := lt_of_block a2
  have hol : (ownL c sp).length ≤ 10000 := by have := ownL_le c sp; have := HN.out; omega
  have HCI := Lib.hid (show CntI c na K nc w 0 w1 from ⟨a1, a2, hb0⟩)
  have HCAP := Lib.hid hcap
  have HG := Lib.hid hG
  clear a1 a2 hb0 hb1 g1 g2 hcap hG
  refine wp_range1 (gf := 198) rfl enters_own1 HG.out (Nat.le_refl _) (fun b hb => ⟨(HCAP.out b hb).1, rfl⟩) (fun _ => rfl) (fun b => b = w.heap.size + 1)
    (fun b hb => ⟨fun hc => by have := (HCAP.out b hc).2; omega, by omega⟩) (fun G k A => CntI c na K nc w k A) (fun _ _ _ _ => False) (fun G k A A' hi hb => hi.stab hz1 hb) (fun _ _ _ _ _ hi _ => hi) HCI.out ?hround ?hdone ?hstop
  case hstop =>
    intro D c G k W' _ _ _ _ hi _
    exact hi.elim
  case hdone =>
    rintro D G W' hD hnG hGb ⟨h1, h2, h3⟩ hK
    obtain ⟨x0, x1, x2, x3, x4, x5⟩ := cells6 h1
    obtain ⟨y0, _⟩ := cells1 h2
    have hl1 := lt_of_block h1
    have H3 := Lib.hid h3
    have HK := Lib.hid hK
    clear h1 h2 h3 hK
    gi_wp2_with (refine ⟨trivial, rfl, ?_⟩; gi_at_call 72; refine (callsIn_wide.2 (vamong_any _ _ _ _)).mono ?_; rintro e w' ⟨rfl, rfl⟩)
    refine ⟨by simp, .inl ⟨_, _, rfl, run_takeDeferred HK.out, .bool (inR ((ownL c sp).length : Int) c.lo c.hi), ?_, ?_⟩⟩
    · simp [results, Tryz.results119, go_sem]
    · exact ⟨rfl, H3.out.trans ⟨rfl, rfl, rfl, by simp, fun b hb => World.putObj_heap_other (by omega)⟩⟩
  case hround =>
    rintro l2 G k ⟨X, Y⟩ A hl2 hGb hszA hIk hx
    have hkl : k < (ownL c sp).length := (List.getElem?_eq_some_iff.1 hx).1
    have hk0 : (0 : Int) ≤ (k : Int) := Int.natCast_nonneg _
    have hk1 : (k : Int) ≤ 10000 := by omega
    clear hx
    simp only [evEnc]
    gi_wp2
    refine ⟨Bel.refl _ _ _, ?_⟩
    rintro W2 hsW ⟨h1, h2, h3⟩
    obtain ⟨y0, f0⟩ := cells1 h2
    have H1 := Lib.hid h1
    have H2 := Lib.hid h2
    have H3 := Lib.hid h3
    have hs2 := hsW.size
    clear h1 h2 h3 hIk
    gi_wp2
    refine ⟨G, ⟨fun _ h => h, fun _ h => Or.inl h, fun b hb => by have := (hGb b hb).2; simp [World.setCell]; omega⟩, ⟨?_, ?_, ?_⟩, ?_⟩
    · exact (Below.heap_setCell _ _ _ _ (by show w.heap.size ≠ w.heap.size + 1; omega)).trans H1.out
    · exact set1_0 H2.out _
    · exact H3.out.setCell (p := ⟨w.heap.size + 1, 0, none⟩) (by simp) _
    · exact (Bel.refl _ _ _).setCell (p := ⟨w.heap.size + 1, 0, none⟩) (Or.inl (Or.inl rfl)) _
end Go.Proofs.YtnbndciididpoaaGreat
