/- slices.Clone of a list of ints. Over this seat's program. -/
import Derived.Test.YtgbcdebnanejpaaV2
import Derived.Test.YtgbcdebnanejpaaNo
import Derived.Test.YtgbcdebnanejpaaN2
namespace Go.Proofs.Ytgbcdebnanejpaa
set_option linter.unusedVariables false
open Go.RowKit Go.Shelf

/-- A list of one's own, with the same ints. -/
def CloneOut (zs : List Int) (w : World) (e : Ending) (w' : World) : Prop :=
  ∃ v', e = .returned v' ∧ w'.ownsRow w.heap.size 3 1 v' zs.length (zs.map (Value.int .i64)) ∧ Below w.heap.size w w'

set_option maxHeartbeats 1000000 in
set_option maxRecDepth 100000 in
theorem clone_any (zs : List Int) (sa : Option Addr) (m cap : Nat) (hm : m = zs.length) (h2 : m ≤ 1000) (w : World) (hI : IntsAt w (.slice sa m cap) zs) :
    Calls Try.prog 76 #[.slice sa m cap] w (CloneOut zs w) := by
  have q44 : ∀ (w : World) (a : Option Addr) (n c n' c' : Nat), (binOp .eql 44 (.slice a n c) (.slice none n' c')).run Try.prog w = .ok (.bool a.isNone) w := fun w a n c n' c' => Lib.run_eql_slice_nil w _ _ a n c n' c' Try.underlying44
  rcases hI with ⟨h1, rfl⟩ | ⟨b, off, cap', h1, hc⟩
  · cases h1
    clear hm h2
    unfold CloneOut
    go_enter Try.func76, Try.ntmps76
    go_wp2
    go_ret
    exact ⟨_, rfl, World.ownsRow_nil _ _ _ _, Below.refl _ _⟩
  · cases h1
    obtain ⟨i0, hi, hz0, hz1, hz2⟩ := info_parts Try.info3
    have A := Lib.hid hc
    have HM := Lib.hid hm
    obtain ⟨n, hn⟩ : ∃ n, n = zs.length := ⟨_, rfl⟩
    rw [← hn] at h2 ⊢
    have HN := Lib.hid hn
    unfold CloneOut
    rw [← hn]
    clear hc hm hn
    go_enter Try.func76, Try.ntmps76
    go_wp2_with (at_builtin; refine wpList_append_own _ rfl _ _ 44 rfl w.heap.size 3 i0 (.int .i64 0) 1 8 Try.underlying44 hi hz0 hz1 hz2 rfl (by decide) _ _ _ rfl (World.ownsRow_made w #[] 0 (Nat.le_refl _) (Nat.zero_le _) rfl) ⟨b, off, none⟩ n cap (zs.map (Value.int .i64)) rfl ?qc1 ?qc2 ?qc3 ?qc4 ?qc5 ?qc6 ?_)
    case qc1 => simp [HN.out]
    case qc2 =>
      intro j u hj
      have hjn : j < zs.length := (List.getElem?_eq_some_iff.1 hj).1
      refine Lib.cell?_alloc_some _ ?_
      rw [A.out j hjn, hj]; rfl
    case qc3 => intro u hu; rfl
    case qc4 => unfold maxLen; omega
    case qc5 => omega
    intro v' w1 hown hgrow hnil
    go_wp2
    go_ret
    exact ⟨v', rfl, by simpa using hown, ((Below.refl _ w).alloc (Nat.le_refl _) _).grown hgrow (by simp) (by intro k hk; simp [Value.ownBlock] at hk; omega)⟩
end Go.Proofs.Ytgbcdebnanejpaa
namespace Go.Proofs.Ytgbcdebnanejpaa
set_option linter.unusedVariables false
open Go.RowKit Go.Shelf

def vbR : Value → Nat
  | .slice (some a) _ _ => a.block
  | .pointer (some a) => a.block
  | _ => 0
/-- The blocks of the wires. -/
def WOwn (mb : Nat) (sl : Int → Value) (b : Nat) : Prop := b = mb ∨ ∃ x, (sl x).ownBlock = some b
theorem WiresAt.own {A : World} {mb base n : Nat} {ss : List Syn} {sl : Int → Value} (h : WiresAt A mb base n ss sl) {b : Nat} (hb : WOwn mb sl b) : mb ≤ b ∧ b < A.heap.size := by
  have := h.lt
  rcases hb with rfl | ⟨x, hx⟩
  · exact ⟨Nat.le_refl _, h.map.lt⟩
  · have := (h.row x).lt b hx; omega
theorem WiresAt.keep {A A' : World} {mb base n : Nat} {ss : List Syn} {sl : Int → Value} (h : WiresAt A mb base n ss sl) (hk : ∀ b, WOwn mb sl b → A'.heap[b]? = A.heap[b]?) : WiresAt A' mb base n ss sl :=
  ⟨h.map.of_block (hk mb (.inl rfl)), fun x => ownsRow_of_block (h.row x) fun g hg => hk g (.inr ⟨x, hg⟩), h.nil, h.apart, h.lt⟩
theorem gdR {L : Array Bool} {i j : Nat} (h : j ≠ i) : (L.setIfInBounds i true).getD j false = L.getD j false := by
  simp only [Array.getD_eq_getD_getElem?]; rw [Array.getElem?_setIfInBounds_ne (Ne.symm h)]
theorem gdE {L : Array Bool} {i : Nat} (h : i < L.size) : (L.setIfInBounds i true).getD i false = true := by simp [h]
/-- The wires, the marks and the marks' box, as far as they are made. -/
structure BgR (W0 : World) (ss : List Syn) (k : Nat) (KB : Nat → Value) (L : Array Bool) (val : Nat → Value) (W : World) : Prop where
  bel : Below W0.heap.size W0 W
  known : ∀ j, j = 0 ∨ j = 2 ∨ j = 3 ∨ j = 4 → L.getD j false = true → val j = KB j
  o1 : L.getD 1 false = true → ∃ mb sl n, val 1 = .map (some mb) ∧ WiresAt W mb (mb + 1) n ss sl ∧ W0.heap.size ≤ mb ∧ (L.getD 5 false = true → ¬ WOwn mb sl (vbR (val 5))) ∧ (L.getD 6 false = true → ¬ WOwn mb sl (vbR (val 6)))
  o5 : L.getD 5 false = true → val 5 = .slice (some ⟨vbR (val 5), 0, none⟩) k k ∧ BoolsAt W (vbR (val 5)) k (fun _ => false) ∧ W0.heap.size ≤ vbR (val 5) ∧ (L.getD 6 false = true → vbR (val 6) ≠ vbR (val 5))
  o6 : L.getD 6 false = true → val 6 = .pointer (some ⟨vbR (val 6), 0, none⟩) ∧ W0.heap.size ≤ vbR (val 6) ∧ ∃ u, W.heap[vbR (val 6)]? = some (.cells #[u] 47) ∧ (L.getD 8 false = true → u = val 5)
  o7 : L.getD 7 false = true → L.getD 1 false = true ∧ val 7 = val 1
  d8 : L.getD 8 false = true → L.getD 5 false = true ∧ L.getD 6 false = true
section
variable {W0 W W' : World} {ss : List Syn} {k : Nat} {KB : Nat → Value} {L : Array Bool} {val : Nat → Value}
theorem BgR.lt6 (h : BgR W0 ss k KB L val W) (l6 : L.getD 6 false = true) : vbR (val 6) < W.heap.size := by
  obtain ⟨_, _, u, hu, _⟩ := h.o6 l6
  exact (Array.getElem?_eq_some_iff.1 hu).1
theorem BgR.lt5 (h : BgR W0 ss k KB L val W) (l5 : L.getD 5 false = true) : vbR (val 5) < W.heap.size := (h.o5 l5).2.1.lt
theorem BgR.init : BgR W0 ss k KB (Array.replicate 9 false) (fun _ => undef) { W0 with drawn := W0.drawn + 1 } := by
  have z : ∀ j, (Array.replicate 9 false).getD j false = true → False := fun j h => by
    simp [Array.getD_eq_getD_getElem?, Array.getElem?_replicate] at h
    split at h <;> simp_all
  exact ⟨⟨rfl, rfl, rfl, Nat.le_refl _, fun _ _ => rfl⟩, fun j _ h => (z _ h).elim, fun h => (z _ h).elim, fun h => (z _ h).elim, fun h => (z _ h).elim, fun h => (z _ h).elim, fun h => (z _ h).elim⟩
theorem BgR.world (h : BgR W0 ss k KB L val W) (hb : Below W.heap.size W W') : BgR W0 ss k KB L val W' := by
  refine ⟨h.bel.trans (hb.mono h.bel.size), h.known, fun l1 => ?_, fun l5 => ?_, fun l6 => ?_, h.o7, h.d8⟩
  · obtain ⟨mb, sl, n, e1, e2, e3⟩ := h.o1 l1
    exact ⟨mb, sl, n, e1, e2.keep fun b hw => hb.block b (e2.own hw).2, e3⟩
  · obtain ⟨e1, e2, e3⟩ := h.o5 l5
    exact ⟨e1, e2.of_block (hb.block _ e2.lt), e3⟩
  · have hl := h.lt6 l6
    obtain ⟨e1, e2, u, hu, e3⟩ := h.o6 l6
    exact ⟨e1, e2, u, (hb.block _ hl).trans hu, e3⟩
theorem BgR.no8 (h : BgR W0 ss k KB L val W) {i : Nat} (hi : i = 5 ∨ i = 6) (hf : L.getD i false = false) : L.getD 8 false = false := by
  cases e : L.getD 8 false with
  | false => rfl
  | true => obtain ⟨a, b⟩ := h.d8 e; rcases hi with rfl | rfl <;> simp_all
theorem BgR.no7 (h : BgR W0 ss k KB L val W) (hf : L.getD 1 false = false) : L.getD 7 false = false := by
  cases e : L.getD 7 false with
  | false => rfl
  | true => obtain ⟨a, b⟩ := h.o7 e; simp_all
/-- An operation that makes nothing. -/
theorem BgR.skip (h : BgR W0 ss k KB L val W) (i : Nat) (hi : i = 0 ∨ i = 2 ∨ i = 3 ∨ i = 4) (u : Value) (hu : u = KB i) : BgR W0 ss k KB (L.setIfInBounds i true) (setV val i u) W := by
  have g : ∀ j, j ≠ 0 → j ≠ 2 → j ≠ 3 → j ≠ 4 → (L.setIfInBounds i true).getD j false = L.getD j false ∧ setV val i u j = val j := fun j a b c d => ⟨gdR (by omega), setV_ne (by omega)⟩
  have g1 := g 1 (by decide) (by decide) (by decide) (by decide)
  have g5 := g 5 (by decide) (by decide) (by decide) (by decide)
  have g6 := g 6 (by decide) (by decide) (by decide) (by decide)
  have g7 := g 7 (by decide) (by decide) (by decide) (by decide)
  have g8 := g 8 (by decide) (by decide) (by decide) (by decide)
  refine ⟨h.bel, fun j hj hl => ?_, ?_, ?_, ?_, ?_, ?_⟩
  · by_cases e : j = i
    · subst e; rw [setV_eq]; exact hu
    · rw [setV_ne e]; rw [gdR e] at hl; exact h.known j hj hl
  · rw [g1.1, g1.2, g5.1, g5.2, g6.1, g6.2]; exact h.o1
  · rw [g5.1, g5.2, g6.1, g6.2]; exact h.o5
  · rw [g5.2, g6.1, g6.2, g8.1]; exact h.o6
  · rw [g1.1, g1.2, g7.1, g7.2]; exact h.o7
  · rw [g5.1, g6.1, g8.1]; exact h.d8
theorem BgR.call (h : BgR W0 ss k KB L val W) (hs : L.size = 9) (hf : L.getD 1 false = false) {e : Ending} (ho : WireOut ss W e W') :
    ∃ u, e = .returned u ∧ BgR W0 ss k KB (L.setIfInBounds 1 true) (setV val 1 u) W' := by
  obtain ⟨mb, sl, n, rfl, e2, e3, e4⟩ := ho
  have hw := h.world e4
  have f7 := h.no7 hf
  have hz := h.bel.size
  have g : ∀ j, j ≠ 1 → (L.setIfInBounds 1 true).getD j false = L.getD j false := fun j a => gdR a
  have v : ∀ j, j ≠ 1 → setV val 1 (.map (some mb)) j = val j := fun j a => setV_ne a
  refine ⟨_, rfl, hw.bel, fun j hj hl => ?_, fun _ => ⟨mb, sl, n, setV_eq, e2, by omega, ?_, ?_⟩, ?_, ?_, ?_, ?_⟩
  · rw [v j (by omega)]; rw [g j (by omega)] at hl; exact h.known j hj hl
  · rw [g 5 (by decide), v 5 (by decide)]; intro l5 hc; have := (e2.own hc).1; have := h.lt5 l5; omega
  · rw [g 6 (by decide), v 6 (by decide)]; intro l6 hc; have := (e2.own hc).1; have := h.lt6 l6; omega
  · rw [g 5 (by decide), v 5 (by decide), g 6 (by decide), v 6 (by decide)]; exact hw.o5
  · rw [v 5 (by decide), g 6 (by decide), v 6 (by decide), g 8 (by decide)]; exact hw.o6
  · rw [g 7 (by decide), f7]; intro hh; cases hh
  · rw [g 5 (by decide), g 6 (by decide), g 8 (by decide)]; exact hw.d8
theorem BgR.make (h : BgR W0 ss k KB L val W) (hs : L.size = 9) (hf : L.getD 5 false = false) :
    BgR W0 ss k KB (L.setIfInBounds 5 true) (setV val 5 (.slice (some ⟨W.heap.size, 0, none⟩) k k)) (W.alloc (.cells (List.replicate k (Value.bool false)).toArray 4)) := by
  have hw := h.world ((Below.refl W.heap.size W).alloc (Nat.le_refl _) (.cells (List.replicate k (Value.bool false)).toArray 4))
  have f8 := h.no8 (.inl rfl) hf
  have hz := h.bel.size
  have g : ∀ j, j ≠ 5 → (L.setIfInBounds 5 true).getD j false = L.getD j false := fun j a => gdR a
  have v : ∀ j, j ≠ 5 → setV val 5 (.slice (some ⟨W.heap.size, 0, none⟩) k k) j = val j := fun j a => setV_ne a
  refine ⟨hw.bel, fun j hj hl => ?_, ?_, fun _ => ?_, ?_, ?_, ?_⟩
  · rw [v j (by omega)]; rw [g j (by omega)] at hl; exact h.known j hj hl
  · rw [g 1 (by decide), v 1 (by decide), g 6 (by decide), v 6 (by decide)]
    intro l1
    obtain ⟨mb, sl, n, e1, e2, e3, _, e5⟩ := h.o1 l1
    refine ⟨mb, sl, n, e1, e2.keep fun b hb => Below.heap_alloc _ _ _ (e2.own hb).2, e3, fun _ hc => ?_, e5⟩
    rw [setV_eq] at hc
    have := (e2.own hc).2
    simp [vbR] at this
  · rw [setV_eq, g 6 (by decide), v 6 (by decide)]
    refine ⟨rfl, ⟨_, alloc_new_at _ _ _ rfl, fun j hj => by simp [hj]⟩, hz, fun l6 => ?_⟩
    have := h.lt6 l6
    show vbR (val 6) ≠ W.heap.size
    omega
  · rw [g 6 (by decide), v 6 (by decide), g 8 (by decide), f8]
    intro l6
    obtain ⟨q1, q2, u, q3, _⟩ := hw.o6 l6
    exact ⟨q1, q2, u, q3, fun hh => by cases hh⟩
  · rw [g 7 (by decide), v 7 (by decide), g 1 (by decide), v 1 (by decide)]; exact h.o7
  · rw [g 8 (by decide), f8]; intro hh; cases hh
theorem BgR.al (h : BgR W0 ss k KB L val W) (hs : L.size = 9) (hf : L.getD 6 false = false) :
    BgR W0 ss k KB (L.setIfInBounds 6 true) (setV val 6 (.pointer (some ⟨W.heap.size, 0, none⟩))) (W.alloc (.cells #[.slice none 0 0] 47)) := by
  have hw := h.world ((Below.refl W.heap.size W).alloc (Nat.le_refl _) (.cells #[.slice none 0 0] 47))
  have f8 := h.no8 (.inr rfl) hf
  have hz := h.bel.size
  have g : ∀ j, j ≠ 6 → (L.setIfInBounds 6 true).getD j false = L.getD j false := fun j a => gdR a
  have v : ∀ j, j ≠ 6 → setV val 6 (.pointer (some ⟨W.heap.size, 0, none⟩)) j = val j := fun j a => setV_ne a
  refine ⟨hw.bel, fun j hj hl => ?_, ?_, ?_, fun _ => ?_, ?_, ?_⟩
  · rw [v j (by omega)]; rw [g j (by omega)] at hl; exact h.known j hj hl
  · rw [g 1 (by decide), v 1 (by decide), g 5 (by decide), v 5 (by decide)]
    intro l1
    obtain ⟨mb, sl, n, e1, e2, e3, e4, _⟩ := h.o1 l1
    refine ⟨mb, sl, n, e1, e2.keep fun b hb => Below.heap_alloc _ _ _ (e2.own hb).2, e3, e4, fun _ hc => ?_⟩
    rw [setV_eq] at hc
    have := (e2.own hc).2
    simp [vbR] at this
  · rw [g 5 (by decide), v 5 (by decide), setV_eq]
    intro l5
    obtain ⟨q1, q2, q3, _⟩ := hw.o5 l5
    refine ⟨q1, q2, q3, fun _ => ?_⟩
    have := h.lt5 l5
    show W.heap.size ≠ vbR (val 5)
    omega
  · rw [setV_eq, g 8 (by decide), f8]
    exact ⟨rfl, hz, _, alloc_new_at _ _ _ rfl, fun hh => by cases hh⟩
  · rw [g 7 (by decide), v 7 (by decide), g 1 (by decide), v 1 (by decide)]; exact h.o7
  · rw [g 8 (by decide), f8]; intro hh; cases hh
theorem BgR.asg (h : BgR W0 ss k KB L val W) (hs : L.size = 9) (l1 : L.getD 1 false = true) : BgR W0 ss k KB (L.setIfInBounds 7 true) (setV val 7 (val 1)) W := by
  have g : ∀ j, j ≠ 7 → (L.setIfInBounds 7 true).getD j false = L.getD j false := fun j a => gdR a
  have v : ∀ j, j ≠ 7 → setV val 7 (val 1) j = val j := fun j a => setV_ne a
  refine ⟨h.bel, fun j hj hl => ?_, ?_, ?_, ?_, fun _ => ?_, ?_⟩
  · rw [v j (by omega)]; rw [g j (by omega)] at hl; exact h.known j hj hl
  · rw [g 1 (by decide), v 1 (by decide), g 5 (by decide), v 5 (by decide), g 6 (by decide), v 6 (by decide)]; exact h.o1
  · rw [g 5 (by decide), v 5 (by decide), g 6 (by decide), v 6 (by decide)]; exact h.o5
  · rw [v 5 (by decide), g 6 (by decide), v 6 (by decide), g 8 (by decide)]; exact h.o6
  · rw [g 1 (by decide), v 1 (by decide), setV_eq]; exact ⟨l1, rfl⟩
  · rw [g 5 (by decide), g 6 (by decide), g 8 (by decide)]; exact h.d8
theorem BgR.st (h : BgR W0 ss k KB L val W) (hs : L.size = 9) (l5 : L.getD 5 false = true) (l6 : L.getD 6 false = true) (u : Value) :
    BgR W0 ss k KB (L.setIfInBounds 8 true) (setV val 8 u) (W.setCell ⟨vbR (val 6), 0, none⟩ (val 5)) := by
  have g : ∀ j, j ≠ 8 → (L.setIfInBounds 8 true).getD j false = L.getD j false := fun j a => gdR a
  have v : ∀ j, j ≠ 8 → setV val 8 u j = val j := fun j a => setV_ne a
  obtain ⟨a1, a2, x, a3, _⟩ := h.o6 l6
  obtain ⟨b1, b2, b3, b4⟩ := h.o5 l5
  have b5 := b4 l6
  refine ⟨h.bel.setCell (p := ⟨vbR (val 6), 0, none⟩) a2 _, fun j hj hl => ?_, ?_, ?_, ?_, ?_, fun _ => ?_⟩
  · rw [v j (by omega)]; rw [g j (by omega)] at hl; exact h.known j hj hl
  · rw [g 1 (by decide), v 1 (by decide), g 5 (by decide), v 5 (by decide), g 6 (by decide), v 6 (by decide)]
    intro l1
    obtain ⟨mb, sl, n, e1, e2, e3, e4, e5⟩ := h.o1 l1
    refine ⟨mb, sl, n, e1, e2.keep fun b hb => Below.heap_setCell _ _ _ _ fun e => ?_, e3, e4, e5⟩
    have e' : b = vbR (val 6) := e
    rw [e'] at hb
    exact e5 l6 hb
  · rw [g 5 (by decide), v 5 (by decide), g 6 (by decide), v 6 (by decide)]
    exact fun _ => ⟨b1, b2.of_block (Below.heap_setCell _ _ _ _ fun e => b5 (Eq.symm e)), b3, b4⟩
  · rw [v 5 (by decide), g 6 (by decide), v 6 (by decide)]
    exact fun _ => ⟨a1, a2, val 5, by simp [World.setCell, Array.getElem?_modify, a3], fun _ => rfl⟩
  · rw [g 7 (by decide), v 7 (by decide), g 1 (by decide), v 1 (by decide)]; exact h.o7
  · rw [g 5 (by decide), g 6 (by decide)]; exact ⟨l5, l6⟩
end
end Go.Proofs.Ytgbcdebnanejpaa
namespace Go.Proofs.Ytgbcdebnanejpaa
set_option linter.unusedVariables false
open Go.RowKit Go.Shelf
theorem cons_of1 {α : Type} {l : List α} {k : Nat} (h : l.length = k + 1) : ∃ x r, l = x :: r ∧ r.length = k := by
  cases l with
  | nil => simp at h
  | cons x r => exact ⟨x, r, rfl, by simpa using h⟩
theorem arr91 {L : Array Value} (h : L.size = 91) : ∃ t0 t1 t2 t3 t4 t5 t6 t7 t8 t9 t10 t11 t12 t13 t14 t15 t16 t17 t18 t19 t20 t21 t22 t23 t24 t25 t26 t27 t28 t29 t30 t31 t32 t33 t34 t35 t36 t37 t38 t39 t40 t41 t42 t43 t44 t45 t46 t47 t48 t49 t50 t51 t52 t53 t54 t55 t56 t57 t58 t59 t60 t61 t62 t63 t64 t65 t66 t67 t68 t69 t70 t71 t72 t73 t74 t75 t76 t77 t78 t79 t80 t81 t82 t83 t84 t85 t86 t87 t88 t89 t90 : Value, L = #[t0, t1, t2, t3, t4, t5, t6, t7, t8, t9, t10, t11, t12, t13, t14, t15, t16, t17, t18, t19, t20, t21, t22, t23, t24, t25, t26, t27, t28, t29, t30, t31, t32, t33, t34, t35, t36, t37, t38, t39, t40, t41, t42, t43, t44, t45, t46, t47, t48, t49, t50, t51, t52, t53, t54, t55, t56, t57, t58, t59, t60, t61, t62, t63, t64, t65, t66, t67, t68, t69, t70, t71, t72, t73, t74, t75, t76, t77, t78, t79, t80, t81, t82, t83, t84, t85, t86, t87, t88, t89, t90] := by
  obtain ⟨l⟩ := L
  have g : l.length = 91 := h
  clear h
  obtain ⟨t0, l0, rfl, g0⟩ := cons_of1 g
  obtain ⟨t1, l1, rfl, g1⟩ := cons_of1 g0
  obtain ⟨t2, l2, rfl, g2⟩ := cons_of1 g1
  obtain ⟨t3, l3, rfl, g3⟩ := cons_of1 g2
  obtain ⟨t4, l4, rfl, g4⟩ := cons_of1 g3
  obtain ⟨t5, l5, rfl, g5⟩ := cons_of1 g4
  obtain ⟨t6, l6, rfl, g6⟩ := cons_of1 g5
  obtain ⟨t7, l7, rfl, g7⟩ := cons_of1 g6
  obtain ⟨t8, l8, rfl, g8⟩ := cons_of1 g7
  obtain ⟨t9, l9, rfl, g9⟩ := cons_of1 g8
  obtain ⟨t10, l10, rfl, g10⟩ := cons_of1 g9
  obtain ⟨t11, l11, rfl, g11⟩ := cons_of1 g10
  obtain ⟨t12, l12, rfl, g12⟩ := cons_of1 g11
  obtain ⟨t13, l13, rfl, g13⟩ := cons_of1 g12
  obtain ⟨t14, l14, rfl, g14⟩ := cons_of1 g13
  obtain ⟨t15, l15, rfl, g15⟩ := cons_of1 g14
  obtain ⟨t16, l16, rfl, g16⟩ := cons_of1 g15
  obtain ⟨t17, l17, rfl, g17⟩ := cons_of1 g16
  obtain ⟨t18, l18, rfl, g18⟩ := cons_of1 g17
  obtain ⟨t19, l19, rfl, g19⟩ := cons_of1 g18
  obtain ⟨t20, l20, rfl, g20⟩ := cons_of1 g19
  obtain ⟨t21, l21, rfl, g21⟩ := cons_of1 g20
  obtain ⟨t22, l22, rfl, g22⟩ := cons_of1 g21
  obtain ⟨t23, l23, rfl, g23⟩ := cons_of1 g22
  obtain ⟨t24, l24, rfl, g24⟩ := cons_of1 g23
  obtain ⟨t25, l25, rfl, g25⟩ := cons_of1 g24
  obtain ⟨t26, l26, rfl, g26⟩ := cons_of1 g25
  obtain ⟨t27, l27, rfl, g27⟩ := cons_of1 g26
  obtain ⟨t28, l28, rfl, g28⟩ := cons_of1 g27
  obtain ⟨t29, l29, rfl, g29⟩ := cons_of1 g28
  obtain ⟨t30, l30, rfl, g30⟩ := cons_of1 g29
  obtain ⟨t31, l31, rfl, g31⟩ := cons_of1 g30
  obtain ⟨t32, l32, rfl, g32⟩ := cons_of1 g31
  obtain ⟨t33, l33, rfl, g33⟩ := cons_of1 g32
  obtain ⟨t34, l34, rfl, g34⟩ := cons_of1 g33
  obtain ⟨t35, l35, rfl, g35⟩ := cons_of1 g34
  obtain ⟨t36, l36, rfl, g36⟩ := cons_of1 g35
  obtain ⟨t37, l37, rfl, g37⟩ := cons_of1 g36
  obtain ⟨t38, l38, rfl, g38⟩ := cons_of1 g37
  obtain ⟨t39, l39, rfl, g39⟩ := cons_of1 g38
  obtain ⟨t40, l40, rfl, g40⟩ := cons_of1 g39
  obtain ⟨t41, l41, rfl, g41⟩ := cons_of1 g40
  obtain ⟨t42, l42, rfl, g42⟩ := cons_of1 g41
  obtain ⟨t43, l43, rfl, g43⟩ := cons_of1 g42
  obtain ⟨t44, l44, rfl, g44⟩ := cons_of1 g43
  obtain ⟨t45, l45, rfl, g45⟩ := cons_of1 g44
  obtain ⟨t46, l46, rfl, g46⟩ := cons_of1 g45
  obtain ⟨t47, l47, rfl, g47⟩ := cons_of1 g46
  obtain ⟨t48, l48, rfl, g48⟩ := cons_of1 g47
  obtain ⟨t49, l49, rfl, g49⟩ := cons_of1 g48
  obtain ⟨t50, l50, rfl, g50⟩ := cons_of1 g49
  obtain ⟨t51, l51, rfl, g51⟩ := cons_of1 g50
  obtain ⟨t52, l52, rfl, g52⟩ := cons_of1 g51
  obtain ⟨t53, l53, rfl, g53⟩ := cons_of1 g52
  obtain ⟨t54, l54, rfl, g54⟩ := cons_of1 g53
  obtain ⟨t55, l55, rfl, g55⟩ := cons_of1 g54
  obtain ⟨t56, l56, rfl, g56⟩ := cons_of1 g55
  obtain ⟨t57, l57, rfl, g57⟩ := cons_of1 g56
  obtain ⟨t58, l58, rfl, g58⟩ := cons_of1 g57
  obtain ⟨t59, l59, rfl, g59⟩ := cons_of1 g58
  obtain ⟨t60, l60, rfl, g60⟩ := cons_of1 g59
  obtain ⟨t61, l61, rfl, g61⟩ := cons_of1 g60
  obtain ⟨t62, l62, rfl, g62⟩ := cons_of1 g61
  obtain ⟨t63, l63, rfl, g63⟩ := cons_of1 g62
  obtain ⟨t64, l64, rfl, g64⟩ := cons_of1 g63
  obtain ⟨t65, l65, rfl, g65⟩ := cons_of1 g64
  obtain ⟨t66, l66, rfl, g66⟩ := cons_of1 g65
  obtain ⟨t67, l67, rfl, g67⟩ := cons_of1 g66
  obtain ⟨t68, l68, rfl, g68⟩ := cons_of1 g67
  obtain ⟨t69, l69, rfl, g69⟩ := cons_of1 g68
  obtain ⟨t70, l70, rfl, g70⟩ := cons_of1 g69
  obtain ⟨t71, l71, rfl, g71⟩ := cons_of1 g70
  obtain ⟨t72, l72, rfl, g72⟩ := cons_of1 g71
  obtain ⟨t73, l73, rfl, g73⟩ := cons_of1 g72
  obtain ⟨t74, l74, rfl, g74⟩ := cons_of1 g73
  obtain ⟨t75, l75, rfl, g75⟩ := cons_of1 g74
  obtain ⟨t76, l76, rfl, g76⟩ := cons_of1 g75
  obtain ⟨t77, l77, rfl, g77⟩ := cons_of1 g76
  obtain ⟨t78, l78, rfl, g78⟩ := cons_of1 g77
  obtain ⟨t79, l79, rfl, g79⟩ := cons_of1 g78
  obtain ⟨t80, l80, rfl, g80⟩ := cons_of1 g79
  obtain ⟨t81, l81, rfl, g81⟩ := cons_of1 g80
  obtain ⟨t82, l82, rfl, g82⟩ := cons_of1 g81
  obtain ⟨t83, l83, rfl, g83⟩ := cons_of1 g82
  obtain ⟨t84, l84, rfl, g84⟩ := cons_of1 g83
  obtain ⟨t85, l85, rfl, g85⟩ := cons_of1 g84
  obtain ⟨t86, l86, rfl, g86⟩ := cons_of1 g85
  obtain ⟨t87, l87, rfl, g87⟩ := cons_of1 g86
  obtain ⟨t88, l88, rfl, g88⟩ := cons_of1 g87
  obtain ⟨t89, l89, rfl, g89⟩ := cons_of1 g88
  obtain ⟨t90, l90, rfl, g90⟩ := cons_of1 g89
  obtain rfl := List.eq_nil_of_length_eq_zero g90
  exact ⟨_, _, _, _, _, _, _, _, _, _, _, _, _, _, _, _, _, _, _, _, _, _, _, _, _, _, _, _, _, _, _, _, _, _, _, _, _, _, _, _, _, _, _, _, _, _, _, _, _, _, _, _, _, _, _, _, _, _, _, _, _, _, _, _, _, _, _, _, _, _, _, _, _, _, _, _, _, _, _, _, _, _, _, _, _, _, _, _, _, _, _, rfl⟩

theorem arr91T {L : Array Value} {a b c : Value} (h : L.size = 91) (e9 : L.getD 9 undef = a) (e10 : L.getD 10 undef = b) (e11 : L.getD 11 undef = c) : ∃ T : Nat → Value, L = #[T 0, T 1, T 2, T 3, T 4, T 5, T 6, T 7, T 8, a, b, c, T 12, T 13, T 14, T 15, T 16, T 17, T 18, T 19, T 20, T 21, T 22, T 23, T 24, T 25, T 26, T 27, T 28, T 29, T 30, T 31, T 32, T 33, T 34, T 35, T 36, T 37, T 38, T 39, T 40, T 41, T 42, T 43, T 44, T 45, T 46, T 47, T 48, T 49, T 50, T 51, T 52, T 53, T 54, T 55, T 56, T 57, T 58, T 59, T 60, T 61, T 62, T 63, T 64, T 65, T 66, T 67, T 68, T 69, T 70, T 71, T 72, T 73, T 74, T 75, T 76, T 77, T 78, T 79, T 80, T 81, T 82, T 83, T 84, T 85, T 86, T 87, T 88, T 89, T 90] := by
  obtain ⟨t0, t1, t2, t3, t4, t5, t6, t7, t8, t9, t10, t11, t12, t13, t14, t15, t16, t17, t18, t19, t20, t21, t22, t23, t24, t25, t26, t27, t28, t29, t30, t31, t32, t33, t34, t35, t36, t37, t38, t39, t40, t41, t42, t43, t44, t45, t46, t47, t48, t49, t50, t51, t52, t53, t54, t55, t56, t57, t58, t59, t60, t61, t62, t63, t64, t65, t66, t67, t68, t69, t70, t71, t72, t73, t74, t75, t76, t77, t78, t79, t80, t81, t82, t83, t84, t85, t86, t87, t88, t89, t90, rfl⟩ := arr91 h
  subst e9 e10 e11
  exact ⟨fun i => #[t0, t1, t2, t3, t4, t5, t6, t7, t8, t9, t10, t11, t12, t13, t14, t15, t16, t17, t18, t19, t20, t21, t22, t23, t24, t25, t26, t27, t28, t29, t30, t31, t32, t33, t34, t35, t36, t37, t38, t39, t40, t41, t42, t43, t44, t45, t46, t47, t48, t49, t50, t51, t52, t53, t54, t55, t56, t57, t58, t59, t60, t61, t62, t63, t64, t65, t66, t67, t68, t69, t70, t71, t72, t73, t74, t75, t76, t77, t78, t79, t80, t81, t82, t83, t84, t85, t86, t87, t88, t89, t90].getD i undef, rfl⟩
end Go.Proofs.Ytgbcdebnanejpaa
namespace Go.Proofs.Ytgbcdebnanejpaa
set_option linter.unusedVariables false
open Go.RowKit Go.Shelf

/-- The mark that a range over a function leaves. -/
def mark (D : Nat) : Deferred := { target := .collected D, args := #[] }
theorem leaves_marks {F : Fence} {n : Nat} {P : Program} {fn : Func} {tmps : Array Value} {R : Ending → World → Prop} : ∀ (Ds : List Nat) (w : World), (∀ D ∈ Ds, w.heap[D]? = some (.deferred (some []))) → Ds.Nodup →
    (∀ w', w'.os = w.os → w'.tape = w.tape → w'.output = w.output → w'.heap.size = w.heap.size → (∀ b, b ∉ Ds → w'.heap[b]? = w.heap[b]?) → LeavesIn F n P fn tmps R [] .returning w') → LeavesInM F n P fn tmps R (Ds.map mark) .returning w
  | [], w, _, _, h => h w rfl rfl rfl rfl fun _ _ => rfl
  | D :: Ds, w, hD, hn, h => by
    refine ⟨by simp, .inl ⟨D, _, rfl, run_takeDeferred (hD D (by simp)), ?_⟩⟩
    have hn' := List.nodup_cons.1 hn
    refine leaves_marks Ds _ (fun D' h' => ?_) hn'.2 (fun w' e1 e2 e3 e4 e5 => ?_)
    · rw [World.putObj_heap_other (fun e => hn'.1 (by rw [← e]; exact h'))]
      exact hD D' (by simp [h'])
    · refine h w' e1 e2 e3 (by rw [e4]; simp) fun b hb => ?_
      rw [e5 b fun h' => hb (by simp [h']), World.putObj_heap_other (fun e => hb (by simp [e]))]
theorem ownsRow_sl {W : World} {base : Nat} {e : TypeId} {sz : Nat} {v : Value} {n : Nat} {xs : List Value} (h : W.ownsRow base e sz v n xs) : ∃ a c, v = .slice a n c := by
  rcases h.2 with ⟨h1, h2⟩ | ⟨g, cap, cur, h1, _⟩
  · exact ⟨none, 0, by rw [h1, h2]⟩
  · exact ⟨_, _, h1⟩
theorem own_form2 {w : World} {base : Nat} {e : TypeId} {size : Nat} {v : Value} {n : Nat} {xs : List Value} (h : w.ownsRow base e size v n xs) (hn : 0 < n) : ∃ g cap, v = .slice (some ⟨g, 0, none⟩) n cap ∧ n ≤ cap := by
  rcases h.2 with ⟨_, h0⟩ | ⟨g, cap, cur, hv, _, _, hc, _⟩
  · omega
  · exact ⟨g, cap, hv, hc⟩
/-- Where the blocks lie. -/
structure MdS (k mb g p q base B : Nat) (sl : Int → Value) : Prop where
  gB : B ≤ g
  pB : B ≤ p
  mB : B ≤ mb
  gb : g < base
  pb : p < base
  wb : ∀ b, WOwn mb sl b → b < base
  qb : base ≤ q
  gp : g ≠ p
  gw : ¬ WOwn mb sl g
structure MdR (k mb nn g p q base : Nat) (ss : List Syn) (sl : Int → Value) (f : Nat → Bool) (v : Value) (work : List Int) (Ds : List Nat) (w A : World) : Prop where
  wires : WiresAt A mb (mb + 1) nn ss sl
  bools : BoolsAt A g k f
  pbox : A.heap[p]? = some (.cells #[.slice (some ⟨g, 0, none⟩) k k] 47)
  qbox : A.heap[q]? = some (.cells #[v] 44)
  row : A.ownsRow base 3 1 v work.length (work.map (Value.int .i64))
  rq : v.ownBlock ≠ some q
  marks : ∀ D ∈ Ds, A.heap[D]? = some (.deferred (some []))
  bel : Below w.heap.size w A
/-- The blocks that count. -/
def MdM (mb g p q : Nat) (sl : Int → Value) (v : Value) (Ds : List Nat) (b : Nat) : Prop := b = g ∨ b = p ∨ b = q ∨ WOwn mb sl b ∨ v.ownBlock = some b ∨ b ∈ Ds
section
variable {k mb nn g p q base : Nat} {ss : List Syn} {sl : Int → Value} {f : Nat → Bool} {v v' : Value} {work work' : List Int} {Ds : List Nat} {w A A' : World}
theorem MdR.lt (h : MdR k mb nn g p q base ss sl f v work Ds w A) {b : Nat} (hb : MdM mb g p q sl v Ds b) : b < A.heap.size := by
  rcases hb with rfl | rfl | rfl | hb | hb | hb
  · exact h.bools.lt
  · exact lt_of_block h.pbox
  · exact lt_of_block h.qbox
  · exact (h.wires.own hb).2
  · exact (h.row.lt b hb).2
  · exact lt_of_block (h.marks b hb)
theorem MdR.keep (h : MdR k mb nn g p q base ss sl f v work Ds w A) (hb : ∀ b, MdM mb g p q sl v Ds b → A'.heap[b]? = A.heap[b]?) (hB : Below w.heap.size w A') : MdR k mb nn g p q base ss sl f v work Ds w A' :=
  ⟨h.wires.keep fun b h' => hb b (.inr (.inr (.inr (.inl h')))), h.bools.of_block (hb _ (.inl rfl)), (hb _ (.inr (.inl rfl))).trans h.pbox, (hb _ (.inr (.inr (.inl rfl)))).trans h.qbox, ownsRow_of_block h.row fun b h' => hb b (.inr (.inr (.inr (.inr (.inl h'))))), h.rq, fun D hD => (hb D (.inr (.inr (.inr (.inr (.inr hD)))))).trans (h.marks D hD), hB⟩
theorem MdR.world (h : MdR k mb nn g p q base ss sl f v work Ds w A) (hb : Below A.heap.size A A') : MdR k mb nn g p q base ss sl f v work Ds w A' :=
  h.keep (fun b h' => hb.block b (h.lt h')) (h.bel.trans (hb.mono h.bel.size))
theorem MdR.mark (h : MdR k mb nn g p q base ss sl f v work Ds w A) (hs : MdS k mb g p q base w.heap.size sl) {t : Nat} (ht : t < k) : MdR k mb nn g p q base ss sl (markF f t) v work Ds w (A.setCell ⟨g, t, none⟩ (.bool true)) := by
  have e : ∀ b, b ≠ g → (A.setCell ⟨g, t, none⟩ (.bool true)).heap[b]? = A.heap[b]? := fun b hb => Below.heap_setCell _ _ _ _ (by exact hb)
  have hg := hs.gb
  have hq := hs.qb
  refine ⟨h.wires.keep fun b h' => e b fun e' => hs.gw (e' ▸ h'), h.bools.set ht fun i => rfl, (e _ (Ne.symm hs.gp)).trans h.pbox, (e _ (by omega)).trans h.qbox, ownsRow_of_block h.row fun b h' => e b (by have := (h.row.lt b h').1; omega), h.rq, fun D hD => (e D fun e' => ?_).trans (h.marks D hD), h.bel.setCell (p := ⟨g, t, none⟩) hs.gB _⟩
  have h1 := h.marks D hD
  obtain ⟨cur, h2, _⟩ := h.bools
  rw [e', h2] at h1
  cases h1
theorem MdR.qset (h : MdR k mb nn g p q base ss sl f v work Ds w A) (hs : MdS k mb g p q base w.heap.size sl) (hB : w.heap.size ≤ q) (hr : A.ownsRow base 3 1 v' work'.length (work'.map (Value.int .i64))) (hq' : v'.ownBlock ≠ some q) : MdR k mb nn g p q base ss sl f v' work' Ds w (A.setCell ⟨q, 0, none⟩ v') := by
  have e : ∀ b, b ≠ q → (A.setCell ⟨q, 0, none⟩ v').heap[b]? = A.heap[b]? := fun b hb => Below.heap_setCell _ _ _ _ (by exact hb)
  have hg := hs.gb
  have hp := hs.pb
  have hq := hs.qb
  refine ⟨h.wires.keep fun b h' => e b (by have := hs.wb b h'; omega), h.bools.of_block (e _ (by omega)), (e _ (by omega)).trans h.pbox, ?_, ownsRow_of_block hr fun b h' => e b fun e' => hq' (by rw [h', e']), hq', fun D hD => (e D fun e' => ?_).trans (h.marks D hD), h.bel.setCell (p := ⟨q, 0, none⟩) hB _⟩
  · simp [World.setCell, Array.getElem?_modify, h.qbox]
  · have h1 := h.marks D hD
    rw [e', h.qbox] at h1
    cases h1
end
/-- The marks of the sources that begin. -/
def fzs (zs : List Int) (j : Nat) (r : Nat) : Bool := decide ((r : Int) ∈ zs.take j)
theorem take_snoc1 {zs : List Int} {j : Nat} {z : Int} (h : zs[j]? = some z) : zs.take (j + 1) = zs.take j ++ [z] := by rw [List.take_add_one, h]; rfl
theorem fzs_pos {zs : List Int} {j : Nat} {z : Int} (h : zs[j]? = some z) (h0 : 0 ≤ z) : markF (fzs zs j) z.toNat = fzs zs (j + 1) := by
  funext r
  unfold markF fzs
  rw [take_snoc1 h]
  by_cases e : r = z.toNat
  · have : (r : Int) = z := by omega
    rw [if_pos e]; simp [this]
  · have : ¬ (r : Int) = z := by omega
    rw [if_neg e]; simp [this]
theorem fzs_neg {zs : List Int} {j : Nat} {z : Int} (h : zs[j]? = some z) (h0 : ¬ 0 ≤ z) : fzs zs j = fzs zs (j + 1) := by
  funext r
  unfold fzs
  rw [take_snoc1 h]
  have : ¬ (r : Int) = z := by omega
  simp [this]
/-- Truth values and lengths, as a world has them. -/
def bW (W : World) (g r : Nat) : Bool := match W.cell? ⟨g, r, none⟩ with
  | some (.bool b) => b
  | _ => false
def lenW (W : World) (q : Nat) : Nat := match W.cell? ⟨q, 0, none⟩ with
  | some (.slice _ n _) => n
  | _ => 0
theorem bW_eq {W : World} {g k : Nat} {f : Nat → Bool} (h : BoolsAt W g k f) {r : Nat} (hr : r < k) : bW W g r = f r := by unfold bW; rw [(h.cell hr).1]
theorem lenW_eq {W : World} {q n c : Nat} {a : Option Addr} {t : TypeId} (h : W.heap[q]? = some (.cells #[.slice a n c] t)) : lenW W q = n := by unfold lenW; simp [World.cell?, h]
theorem rch_range {ss : List Syn} {zs : List Int} {k : Nat} (hz : ∀ z ∈ zs, -256 ≤ z ∧ z ≤ 1023) (hs : ∀ s ∈ ss, (-256 ≤ s.fr ∧ s.fr ≤ 1023) ∧ 0 ≤ s.to ∧ s.to.toNat < k) (hk : k ≤ 1024) {x : Int} (h : Rch ss zs x) : -256 ≤ x ∧ x ≤ 1023 := by
  cases h with
  | base h => exact hz _ h
  | step h1 h2 h3 => have := (hs _ h1).2; omega
theorem doneR_all {ss : List Syn} {f : Nat → Bool} {x : Int} (h : ∀ s ∈ ofSrc ss x, s.wt ≠ 0 → f s.to.toNat = true) : DoneR ss f x := fun s hs hf hw => h s (List.mem_filter.2 ⟨hs, by simpa using hf⟩) hw

section
variable {k mb nn g p q base : Nat} {ss : List Syn} {sl : Int → Value} {f : Nat → Bool} {v v' : Value} {work work' : List Int} {Ds : List Nat} {w A A' : World}
theorem MdR.grow (h : MdR k mb nn g p q base ss sl f v work Ds w A) (hs : MdS k mb g p q base w.heap.size sl) (hB : w.heap.size ≤ base) (hg : A.grownBy A' v.ownBlock) (hr : A'.ownsRow base 3 1 v' work'.length (work'.map (Value.int .i64))) (hq' : v'.ownBlock ≠ some q) : MdR k mb nn g p q base ss sl f v' work' Ds w (A'.setCell ⟨q, 0, none⟩ v') := by
  have hgb := hs.gb
  have hpb := hs.pb
  have hqb := hs.qb
  have e1 : ∀ b, b < A.heap.size → v.ownBlock ≠ some b → A'.heap[b]? = A.heap[b]? := fun b h1 h2 => hg.block b h1 fun e => h2 e.symm
  have e : ∀ b, b < A.heap.size → v.ownBlock ≠ some b → b ≠ q → (A'.setCell ⟨q, 0, none⟩ v').heap[b]? = A.heap[b]? := fun b h1 h2 h3 => (Below.heap_setCell _ _ _ _ (by exact h3)).trans (e1 b h1 h2)
  have hlo : ∀ b, b < base → v.ownBlock ≠ some b := fun b h1 h2 => by have := (h.row.lt b h2).1; omega
  have hqq := (e1 q (lt_of_block h.qbox) h.rq).trans h.qbox
  refine ⟨h.wires.keep fun b h' => e b (h.wires.own h').2 (hlo b (hs.wb b h')) (by have := hs.wb b h'; omega), h.bools.of_block (e _ h.bools.lt (hlo _ hgb) (by omega)), (e _ (lt_of_block h.pbox) (hlo _ hpb) (by omega)).trans h.pbox, ?_, ownsRow_of_block hr fun b h' => Below.heap_setCell _ _ _ _ (by show b ≠ q; exact fun e' => hq' (by rw [h', e'])), hq', fun D hD => ?_, ?_⟩
  · simp [World.setCell, Array.getElem?_modify, hqq]
  · have h1 := h.marks D hD
    refine (e D (lt_of_block h1) (fun e' => ?_) (fun e' => ?_)).trans h1
    · rcases h.row.2 with ⟨h2, _⟩ | ⟨g', cap, cur, h2, _, h3, _⟩
      · rw [h2] at e'; cases e'
      · rw [h2] at e'
        simp [Value.ownBlock] at e'
        rw [← e', h3] at h1; cases h1
    · rw [e', h.qbox] at h1; cases h1
  · exact (h.bel.grown hg h.bel.size (fun b hb => by have := (h.row.lt b hb).1; omega)).setCell (p := ⟨q, 0, none⟩) (by show w.heap.size ≤ q; omega) _
end
theorem MdR.measure {k mb nn g p q base : Nat} {ss : List Syn} {sl : Int → Value} {f : Nat → Bool} {v : Value} {work : List Int} {Ds : List Nat} {w A : World} (h : MdR k mb nn g p q base ss sl f v work Ds w A) : 2 * offN (bW A g) k + lenW A q = 2 * offN f k + work.length := by
  obtain ⟨a, c, rfl⟩ := ownsRow_sl h.row
  rw [offN_congr k fun r hr => bW_eq h.bools hr, lenW_eq h.qbox]
/-- What a source's loop finds. -/
structure RgI (k mb nn g p q base gr N M : Nat) (ss : List Syn) (sl : Int → Value) (zs : List Int) (x : Int) (Ds : List Nat) (w : World) (G : Nat → Prop) (j : Nat) (A : World) : Prop where
  ex : ∃ (f : Nat → Bool) (v : Value) (work : List Int), MdR k mb nn g p q base ss sl f v work Ds w A ∧ WkI ss zs k f work (some x) ∧ (∀ s ∈ (ofSrc ss x).take j, s.wt ≠ 0 → f s.to.toNat = true) ∧ 2 * offN f k + work.length ≤ M ∧ (∀ b, v.ownBlock = some b → b = gr ∨ G b)
theorem RgI.stab {k mb nn g p q base gr N M : Nat} {ss : List Syn} {sl : Int → Value} {zs : List Int} {x : Int} {Ds : List Nat} {w A A' : World} {G : Nat → Prop} {j : Nat} (h : RgI k mb nn g p q base gr N M ss sl zs x Ds w G j A) (hl : ∀ b, (b = g ∨ b = p ∨ b = q ∨ WOwn mb sl b ∨ b = gr ∨ b ∈ Ds) → b < N) (hN : w.heap.size ≤ N) (hb : Bel (fun b => N ≤ b ∧ ¬ G b) A.heap.size A A') : RgI k mb nn g p q base gr N M ss sl zs x Ds w G j A' := by
  obtain ⟨f, v, work, hM, h2, h3, h4, h5⟩ := h.ex
  refine ⟨f, v, work, hM.keep (fun b hb' => hb.block b (hM.lt hb') fun hc => ?_) ?_, h2, h3, h4, h5⟩
  · rcases hb' with h | h | h | h | h | h
    · have := hl b (.inl h); omega
    · have := hl b (.inr (.inl h)); omega
    · have := hl b (.inr (.inr (.inl h))); omega
    · have := hl b (.inr (.inr (.inr (.inl h)))); omega
    · rcases h5 b h with h | h
      · have := hl b (.inr (.inr (.inr (.inr (.inl h))))); omega
      · exact hc.2 h
    · have := hl b (.inr (.inr (.inr (.inr (.inr h))))); omega
  · exact hM.bel.trans (hb.below (by have := hM.bel.size; omega) fun b h1 h2 => by omega)
theorem fzs_start {ss : List Syn} {zs : List Int} {k m : Nat} (h : zs.length = m) : WkI ss zs k (fzs zs m) zs none := by
  have e : zs.take m = zs := by rw [← h]; exact List.take_length
  refine WkI.start (fun r hr h => ?_) (fun x hx h0 => ?_)
  · unfold fzs at h; rw [e] at h; simpa using h
  · unfold fzs; rw [e, Int.toNat_of_nonneg h0]; simpa using hx
end Go.Proofs.Ytgbcdebnanejpaa
