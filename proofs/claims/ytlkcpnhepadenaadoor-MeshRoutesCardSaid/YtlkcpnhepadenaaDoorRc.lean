/- Routes: the iterator over a route. Over this seat's program. -/
import Derived.Test.YtlkcpnhepadenaaDoorRb
import Derived.Test.YtlkcpnhepadenaaDoorDv
namespace Go.Proofs.YtlkcpnhepadenaaDoor
set_option linter.unusedVariables false
open Go.RowKit Go.Shelf
attribute [local go_sem] Oper.semAt_some

/-- What the iterator hands out: each router with its output. -/
def rtL (W a b : Nat) : List (Nat × Nat) := (List.range (ds W a b + 1)).map fun k => (itr W b a k, tw W (itr W b a k) b)
def encR (x : Nat × Nat) : Array Value := #[.int .i64 (x.1 : Int), .int .i64 (x.2 : Int)]
theorem rtL_length (W a b : Nat) : (rtL W a b).length = ds W a b + 1 := by simp [rtL]
theorem rtL_get {W a b k : Nat} (h : k ≤ ds W a b) : (rtL W a b)[k]? = some (itr W b a k, tw W (itr W b a k) b) := by
  simp [rtL, List.getElem?_map, List.getElem?_range (show k < ds W a b + 1 by omega)]

def MSpecAt (W : World) (b : Nat) (A H R : Int) : Prop := W.heap[b]? = some (.cells #[.int .i64 A, .int .i64 H, .int .i64 R] 26)
def IntAt (W : World) (b : Nat) (x : Int) : Prop := W.heap[b]? = some (.cells #[.int .i64 x] 3)
theorem IntAt.lt {W : World} {b : Nat} {x : Int} (h : IntAt W b x) : b < W.heap.size := lt_of_block h
theorem MSpecAt.lt {W : World} {b : Nat} {A H R : Int} (h : MSpecAt W b A H R) : b < W.heap.size := lt_of_block h

/-- What route returns. -/
def RouteMade (W H R : Int) (a b : Int) (w : World) (e : Ending) (w' : World) : Prop :=
  ∃ bf bs bt, e = .returned (.func (.func 80) #[] #[.pointer (some ⟨bf, 0, none⟩), .pointer (some ⟨bs, 0, none⟩), .pointer (some ⟨bt, 0, none⟩)]) ∧
    w.heap.size ≤ bf ∧ w.heap.size ≤ bs ∧ w.heap.size ≤ bt ∧ IntAt w' bf a ∧ MSpecAt w' bs W H R ∧ IntAt w' bt b ∧ Below w.heap.size w w'

set_option maxHeartbeats 1000000 in
theorem route_any (W H R a b : Int) (w : World) :
    Calls Tryd.prog 51 #[.agg #[.int .i64 W, .int .i64 H, .int .i64 R], .int .i64 a, .int .i64 b] w (RouteMade W H R a b w) := by
  go_enter Tryd.func51, Tryd.ntmps51
  go_wp2
  go_ret
  refine ⟨w.heap.size + 1, w.heap.size, w.heap.size + 1 + 1, rfl, by omega, by omega, by omega, ?_, ?_, ?_, ?_⟩
  · unfold IntAt; rw [Below.heap_alloc _ _ _ (by simp <;> omega)]; exact alloc_new_at _ _ _ (by simp)
  · unfold MSpecAt; rw [Below.heap_alloc _ _ _ (by simp <;> omega), Below.heap_alloc _ _ _ (by simp <;> omega)]; exact alloc_new_at _ _ _ rfl
  · exact alloc_new_at _ _ _ (by simp)
  · exact (((Below.refl _ _).alloc (Nat.le_refl _) _).alloc (by simp) _).alloc (by simp <;> omega) _

/-- What the operations of the first region come to. -/
def r1V (W H R a b t : Int) : Nat → Value
  | 0 => .int .i64 a
  | 1 => .agg #[.int .i64 W, .int .i64 H, .int .i64 R]
  | 2 => .int .i64 a
  | 3 => .int .i64 b
  | 4 => .int .i64 t
  | 5 => .int .i64 a
  | _ => .int .i64 t

set_option maxRecDepth 100000 in
set_option maxHeartbeats 2000000 in
theorem route1_gives (W a b : Nat) (Hn : Nat) (R : Int) (h1 : 1 ≤ W) (h2 : W ≤ 8) (hH : 1 ≤ Hn) (hH2 : Hn ≤ 8) (ha : a < W * Hn) (hb : b < W * Hn) (bf bs bt : Nat) (w0 : World)
    (hbf : IntAt w0 bf a) (hbs : MSpecAt w0 bs W Hn R) (hbt : IntAt w0 bt b) :
    Gives Tryd.prog 80 #[.pointer (some ⟨bf, 0, none⟩), .pointer (some ⟨bs, 0, none⟩), .pointer (some ⟨bt, 0, none⟩)] encR (rtL W a b) (fun x => x = bf ∨ x = bs ∨ x = bt) w0 := by
  intro l J Jx W0 hsz hsame hJ hJx h0 hY
  have h64 : W * Hn ≤ 64 := Nat.mul_le_mul h2 hH2
  have f1 : IntAt W0 bf a := (hsame bf (Or.inl rfl)).trans hbf
  have f2 : MSpecAt W0 bs W Hn R := (hsame bs (Or.inr (Or.inl rfl))).trans hbs
  have f3 : IntAt W0 bt b := (hsame bt (Or.inr (Or.inr rfl))).trans hbt
  have l1 := f1.lt
  have l2 := f2.lt
  have l3 := f3.lt
  obtain ⟨p0, _⟩ := cells1 f1
  obtain ⟨s0, s1, s2⟩ := cells3 f2
  obtain ⟨t0, _⟩ := cells1 f3
  have hin := itr_in (W := W) (H := Hn) (a := a) (b := b) h1 ha hb
  have htw : ∀ x w, x < W * Hn → Calls Tryd.prog 81 #[.agg #[.int .i64 (W : Int), .int .i64 (Hn : Int), .int .i64 R], .int .i64 (x : Int), .int .i64 (b : Int)] w fun e w' => e = .returned (.int .i64 ((tw W x b : Nat) : Int)) ∧ Below w.heap.size w w' := fun x w hx => toward_any W x b Hn R h1 h2 (by omega) (by omega) w
  have hbe : ∀ x w, x < W * Hn → x ≠ b → Calls Tryd.prog 82 #[.agg #[.int .i64 (W : Int), .int .i64 (Hn : Int), .int .i64 R], .int .i64 (x : Int), .int .i64 ((tw W x b : Nat) : Int)] w fun e w' => (∃ z, e = .returned (.tuple #[.int .i64 ((nx W x b : Nat) : Int), .bool z])) ∧ Below w.heap.size w w' := fun x w hx hne => behind_any W x b Hn R h1 h2 (by omega) (by omega) hne w
  have HTW := Lib.hid htw
  have HBE := Lib.hid hbe
  have HIN := Lib.hid hin
  have F1 := Lib.hid f1
  have F2 := Lib.hid f2
  have F3 := Lib.hid f3
  have HW1 := Lib.hid h1
  have HA := Lib.hid ha
  clear hbf hbs hbt hsame f1 f2 f3 htw hbe hin h1 h2 hH hH2 ha hb h64
  refine callsIn_of_wp Tryd.func80 rfl trivial ?_ rfl
  simp only [Tryd.ntmps80, List.size_toArray, List.length_cons, List.length_nil, Nat.reduceAdd, Nat.reduceSub, Array.replicate_succ, Array.replicate_zero, List.push_toArray, List.append_toArray, List.nil_append, List.cons_append]
  gi_wp2
  refine wpIn_region_vals' (r1V W Hn R a b ((tw W a b : Nat) : Int)) (fun _ w => Below W0.heap.size W0 w) (by kernel_rfl) (by kernel_rfl) (by kernel_rfl) (by kernel_rfl) (Below.refl _ _).drew ?stp ?dn
  case stp =>
    intro L W1 i o b' hs ho hI hh
    have hi := (List.getElem?_eq_some_iff.1 ho).1
    have hc : i = 0 ∨ i = 1 ∨ i = 2 ∨ i = 3 ∨ i = 4 ∨ i = 5 ∨ i = 6 := by simp at hi; omega
    obtain ⟨_, _⟩ := cells1 ((hI.block _ l1).trans F1.out)
    obtain ⟨_, _, _⟩ := cells3 ((hI.block _ l2).trans F2.out)
    obtain ⟨_, _⟩ := cells1 ((hI.block _ l3).trans F3.out)
    have HI := Lib.hid hI
    clear hi hs hI
    rcases hc with rfl | rfl | rfl | rfl | rfl | rfl | rfl
    · simp only [List.getElem?_cons_zero, Option.some.injEq] at ho
      subst ho
      have k1 := hh.kept 1 (by simp)
      simp at k1
      go_simp
      exact ⟨rfl, HI.out⟩
    · simp only [List.getElem?_cons_zero, List.getElem?_cons_succ, Option.some.injEq] at ho
      subst ho
      have k2 := hh.kept 2 (by simp)
      simp at k2
      go_simp
      exact ⟨rfl, HI.out⟩
    · simp only [List.getElem?_cons_zero, List.getElem?_cons_succ, Option.some.injEq] at ho
      subst ho
      have k1 := hh.kept 1 (by simp)
      simp at k1
      go_simp
      exact ⟨rfl, HI.out⟩
    · simp only [List.getElem?_cons_zero, List.getElem?_cons_succ, Option.some.injEq] at ho
      subst ho
      have k3 := hh.kept 3 (by simp)
      simp at k3
      go_simp
      exact ⟨rfl, HI.out⟩
    · simp only [List.getElem?_cons_zero, List.getElem?_cons_succ, Option.some.injEq] at ho
      subst ho
      have g1 := hh.got 1 _ 8 rfl rfl ⟨⟨1, .data⟩, by simp, rfl, rfl⟩ (by simp)
      have g2 := hh.got 2 _ 9 rfl rfl ⟨⟨2, .data⟩, by simp, rfl, rfl⟩ (by simp)
      have g3 := hh.got 3 _ 10 rfl rfl ⟨⟨3, .data⟩, by simp, rfl, rfl⟩ (by simp)
      simp [r1V] at g1 g2 g3
      go_simp
      refine ⟨trivial, rfl, ?_⟩
      gi_at_call 81
      refine (callsIn_wide.2 (HTW.out a _ HA.out)).mono ?_
      rintro e w1 ⟨rfl, hb1⟩
      go_simp
      exact ⟨rfl, HI.out.trans (hb1.mono HI.out.size)⟩
    · simp only [List.getElem?_cons_zero, List.getElem?_cons_succ, Option.some.injEq] at ho
      subst ho
      have g0 := hh.got 0 _ 7 rfl rfl ⟨⟨0, .data⟩, by simp, rfl, rfl⟩ (by simp)
      simp [r1V] at g0
      go_simp
      exact ⟨rfl, HI.out⟩
    · simp only [List.getElem?_cons_zero, List.getElem?_cons_succ, Option.some.injEq] at ho
      subst ho
      have g4 := hh.got 4 _ 11 rfl rfl ⟨⟨4, .data⟩, by simp, rfl, rfl⟩ (by simp)
      simp [r1V] at g4
      go_simp
      exact ⟨rfl, HI.out⟩
  case dn =>
    intro W1 b' hI hh hbs
    have hb := has_all (by kernel_rfl) hh hbs
    simp only [puts, r1V] at hb
    subst hb
    simp only [Act.put, List.setIfInBounds_toArray, List.set_cons_succ, List.set_cons_zero]
    have HI := Lib.hid hI
    clear hh hbs hI
    gi_wp2
    obtain ⟨D, hD⟩ : ∃ D, D = ds W a b := ⟨_, rfl⟩
    have HD := Lib.hid hD
    clear hD
    gi_loopw [5, 6] (fun s5 s6 wr => ∃ k : Nat, k ≤ D ∧ s5 = .int .i64 ((itr W b a k : Nat) : Int) ∧ s6 = .int .i64 ((tw W (itr W b a k) b : Nat) : Int) ∧ MSpecAt wr bs W Hn R ∧ IntAt wr bt b ∧ ∃ G : Nat → Prop, (∀ b, G b → W0.heap.size ≤ b ∧ b < wr.heap.size) ∧ W0.heap.size ≤ wr.heap.size ∧ J G k wr)
      (fun s5 _ _ => ds W (intOf s5).toNat b)
    case atStart => exact ⟨0, Nat.zero_le _, rfl, rfl, (HI.out.block _ l2).trans F2.out, (HI.out.block _ l3).trans F3.out, fun _ => False, fun _ h => h.elim, HI.out.size, hJ _ 0 W0 W1 h0 (Bel.ofBelow HI.out (Nat.le_refl _))⟩
    case round =>
      obtain ⟨k, hk, rfl, rfl, hs2, hs3, G, hG, hsz1, hJs⟩ := hrel
      obtain ⟨fn, tmps, assign, body, hy, hR⟩ := hY G k _ wr hG hsz1 hJs (rtL_get (by rw [← HD.out]; exact hk))
      unfold encR at hy
      simp only at hy
      have hxin := HIN.out k
      obtain ⟨x, hx⟩ : ∃ x, x = itr W b a k := ⟨_, rfl⟩
      rw [← hx] at hxin hy ⊢
      obtain ⟨t, ht⟩ : ∃ t, t = tw W x b := ⟨_, rfl⟩
      rw [← ht] at hy ⊢
      have ltb := hs3.lt
      have lts := hs2.lt
      have HS2 := Lib.hid hs2
      have HS3 := Lib.hid hs3
      have HX := Lib.hid hx
      have HT := Lib.hid ht
      clear hs2 hs3 hx
      by_cases hlt : k < D
      · have hne : x ≠ b := by rw [HX.out]; exact itr_ne HW1.out (by rw [← HD.out]; exact hlt)
        have g1 : ((t : Int) == 16) = false := by
          have : t ≠ 16 := fun e => hne (tw_end.1 (by rw [← ht]; exact e))
          simp; omega
        have HNE := Lib.hid hne
        clear ht hne
        gi_wp2
        refine ⟨rfl, hR.mono ?_⟩
        rintro e W3 (⟨rfl, G', hg, hJ3, hb3⟩ | ⟨rfl, G', hg, hJ3, hb3⟩)
        · have k2 : MSpecAt W3 bs W Hn R := (hb3.block _ lts (by simp)).trans HS2.out
          have k3 : IntAt W3 bt b := (hb3.block _ ltb (by simp)).trans HS3.out
          obtain ⟨_, _, _⟩ := cells3 k2
          obtain ⟨_, _⟩ := cells1 k3
          have hz3 := hb3.size
          have m2 := k2.lt
          have m3 := k3.lt
          have K2 := Lib.hid k2
          have K3 := Lib.hid k3
          clear k2 k3
          have hbe := fun w => HBE.out x w hxin HNE.out
          rw [← HT.out] at hbe
          have HBX := Lib.hid hbe
          clear hbe
          gi_wp2_with (first
            | (refine ⟨trivial, rfl, ?_⟩; gi_at_call 82; refine (callsIn_wide.2 (HBX.out _)).mono ?_; rintro e w4 ⟨⟨z, rfl⟩, hb4⟩; obtain ⟨_, _, _⟩ := cells3 ((hb4.block _ m2).trans K2.out); obtain ⟨_, _⟩ := cells1 ((hb4.block _ m3).trans K3.out); have HB4 := Lib.hid hb4; clear hb4)
            | (refine ⟨trivial, rfl, ?_⟩; gi_at_call 81; refine (callsIn_wide.2 (HTW.out (nx W x b) _ (by have := HIN.out (k + 1); rw [HX.out]; exact this))).mono ?_; rintro e w5 ⟨rfl, hb5⟩; have HB5 := Lib.hid hb5; clear hb5))
          go_roundw
          case rel =>
            have hb : Below W3.heap.size W3 w5 := HB4.out.trans (HB5.out.mono HB4.out.size)
            have e1 : nx W x b = itr W b a (k + 1) := by rw [HX.out]; rfl
            refine ⟨k + 1, hlt, by rw [e1], by rw [e1], (hb.block _ m2).trans K2.out, (hb.block _ m3).trans K3.out, G', fun b hb' => ⟨by rcases hg.new b hb' with h | h; exact (hG b h).1; omega, by have := hg.lt b hb'; have := hb.size; omega⟩, by have := hb.size; omega, hJ _ _ _ _ hJ3 (Bel.ofBelow hb (Nat.le_refl _))⟩
          case measure =>
            have h1 := (nx_facts (W := W) HW1.out HNE.out).1
            simp [intOf]; omega
        · gi_wp2
          go_end0
          exact ⟨⟨_, rfl⟩, G', fun b hb => ⟨by rcases hg.new b hb with h | h; exact (hG b h).1; omega, hg.lt b hb⟩, Nat.le_trans hsz1 hb3.size, .inr ⟨k + 1, by rw [rtL_length, ← HD.out]; omega, hJ3⟩⟩
      · obtain rfl : k = D := by omega
        have hxe : x = b := by rw [HX.out, HD.out]; exact itr_end HW1.out
        have g1 : ((t : Int) == 16) = true := by have : t = 16 := by rw [ht]; exact tw_end.2 hxe
                                                 simp [this]
        clear ht hxe
        gi_wp2
        refine ⟨rfl, hR.mono ?_⟩
        rintro e W3 (⟨rfl, G', hg, hJ3, hb3⟩ | ⟨rfl, G', hg, hJ3, hb3⟩)
        · gi_wp2
          go_end0
          refine ⟨⟨_, rfl⟩, G', fun b hb => ⟨by rcases hg.new b hb with h | h; exact (hG b h).1; omega, hg.lt b hb⟩, Nat.le_trans hsz1 hb3.size, .inl ?_⟩
          rw [rtL_length, ← HD.out]; exact hJ3
        · gi_wp2
          go_end0
          exact ⟨⟨_, rfl⟩, G', fun b hb => ⟨by rcases hg.new b hb with h | h; exact (hG b h).1; omega, hg.lt b hb⟩, Nat.le_trans hsz1 hb3.size, .inr ⟨k + 1, by rw [rtL_length, ← HD.out]; omega, hJ3⟩⟩
end Go.Proofs.YtlkcpnhepadenaaDoor
