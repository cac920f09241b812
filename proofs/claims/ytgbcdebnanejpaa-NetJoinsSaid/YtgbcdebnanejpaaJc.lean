/- slices.Concat of two lists, of neurons and of synapses. (mk_Jc.py wrote this.) -/
import Derived.Test.YtgbcdebnanejpaaJb
namespace Go.Proofs.Ytgbcdebnanejpaa.Rn
set_option linter.unusedVariables false
open Go.RowKit Go.Shelf

theorem cells2g {W : World} {b : Nat} {v0 v1 : Value} {t : TypeId} (h : W.heap[b]? = some (.cells #[v0, v1] t)) : W.cell? ⟨b, 0, none⟩ = some v0 ∧ W.cell? ⟨b, 1, none⟩ = some v1 := by simp [World.cell?, h]

def catP (l1 l2 : List Prm) : Nat → List Prm | 0 => [] | 1 => l1 | _ => l1 ++ l2
theorem newsP {W : World} {a : Option Addr} {m c : Nat} {l : List Prm} (h : PsAt W (.slice a m c) l) : (a = none ∧ m = 0 ∧ c = 0 ∧ l = []) ∨ ∃ ad, a = some ad ∧ ∀ j u, (prmCs l)[j]? = some u → W.cell? (ad.add j) = some u := by
  rcases h with ⟨h1, rfl⟩ | ⟨b, off, c', h1, hbl, hc⟩
  · cases h1; exact Or.inl ⟨rfl, rfl, rfl, rfl⟩
  · cases h1
    refine Or.inr ⟨_, rfl, fun j u hu => ?_⟩
    rw [show (⟨b, off, none⟩ : Addr).add j = ⟨b, off + j, none⟩ by unfold Addr.add; split <;> simp_all]
    exact prmCs_cell hc j u hu
/-- An append of a whole list to a row of one's own. -/
theorem appP {ops : Array Oper} {rest : List Oper} {o : Oper} {a : Act} {Q : Exit → Act → World → Prop} {W w : World} (hg : o.guard = none) (s x : Operand)
    (hop : o.op = Op.call { callee := Callee.builtin Builtin.append, args := #[s, x], argTypes := #[22, 22] }) (v : Value) (k : Nat) (l n : List Prm) (hs : a.eval s = v) (hown : W.ownsRow w.heap.size 39 8 v k (prmCs l)) (hk : k ≤ 1000000)
    (hb : Below w.heap.size w W) (ad : Option Addr) (m c : Nat) (hx : a.eval x = .slice ad m c) (hm : m = n.length) (hn : PsAt w (.slice ad m c) n) (h2 : m ≤ 1000000)
    (hK : ∀ v' W', W'.ownsRow w.heap.size 39 8 v' (k + m) (prmCs (l ++ n)) → Below w.heap.size w W' → W.grownBy W' v.ownBlock → wpList Try.prog ops Q rest (a.put o.dst v') W') : wpList Try.prog ops Q (o :: rest) a W := by
  obtain ⟨i0, hi, hz0, hzz1, hzz2⟩ := info_parts info39
  have hz := hb.size
  rcases newsP (hn.below hb) with ⟨rfl, rfl, rfl, rfl⟩ | ⟨ad, rfl, hc⟩
  · refine wpList_append_own_none hg s x 22 hop w.heap.size 39 i0 8 Try.underlying22 hi v k (prmCs l) hs hown hx (hK v W ?_ hb (World.grownBy.refl _ _))
    simpa using hown
  · refine wpList_append_own _ hg s x 22 hop w.heap.size 39 i0 (.agg #[.int .i64 0, .int .i64 0, .int .i64 0, .int .i64 0, .int .i64 0, .int .i64 0, .int .i64 0, .int .i64 0]) 8 64 Try.underlying22 hi hz0 hzz1 hzz2 rfl (by decide) v k (prmCs l) hs hown ad m c (prmCs n) hx (by rw [prmCs_length, hm]) hc (fun u hu => prmV_one hu) (by unfold maxLen; omega) (by omega) hz ?_
    intro v' W' hown' hgr _
    refine hK v' W' (by rw [prmCs_append]; exact hown') (hb.trans ⟨hgr.os, hgr.tape, hgr.output, hgr.size, fun j hj => hgr.block j (by omega) fun e => ?_⟩) hgr
    have := hown.lt j e.symm
    omega
set_option maxHeartbeats 2000000 in
set_option maxRecDepth 100000 in
theorem concatP_any (l1 l2 : List Prm) (a1 a2 : Option Addr) (c1 c2 g : Nat) (h1 : l1.length ≤ 100000) (h2 : l2.length ≤ 100000) (w : World)
    (hg : w.heap[g]? = some (.cells #[.slice a1 l1.length c1, .slice a2 l2.length c2] 22)) (hp1 : PsAt w (.slice a1 l1.length c1) l1) (hp2 : PsAt w (.slice a2 l2.length c2) l2) :
    Calls Try.prog 70 #[.slice (some ⟨g, 0, none⟩) 2 2] w (PsOut (l1 ++ l2) w) := by
  obtain ⟨m1, hm1⟩ : ∃ m, m = l1.length := ⟨_, rfl⟩
  obtain ⟨m2, hm2⟩ : ∃ m, m = l2.length := ⟨_, rfl⟩
  rw [← hm1] at h1 hg hp1
  rw [← hm2] at h2 hg hp2
  have hgr : ∀ W, Calls Try.prog 106 #[.slice none 0 0, .int .i64 ((m1 : Int) + (m2 : Int))] W (PsOut [] W) := fun W => by
    have := growP_any (m1 + m2) (by omega) W
    rwa [Int.natCast_add] at this
  have HG := Lib.hid hg
  have H1 := Lib.hid hp1
  have H2 := Lib.hid hp2
  have HM1 := Lib.hid hm1
  have HM2 := Lib.hid hm2
  have HGR := Lib.hid hgr
  clear hg hp1 hp2 hm1 hm2 hgr
  have hlg : g < w.heap.size := lt_of_block HG.out
  obtain ⟨_, _⟩ := cells2g HG.out
  go_enter Try.func70, Try.ntmps70
  go_wp2
  go_loopw [3, 11] (fun s3 s11 wr => w = wr ∧ ((s11 = .int .i64 0 ∧ s3 = .int .i64 0) ∨ (s11 = .int .i64 1 ∧ s3 = .int .i64 (m1 : Int)) ∨ (s11 = .int .i64 2 ∧ s3 = .int .i64 ((m1 : Int) + (m2 : Int))))) (fun _ s11 _ => 2 - (intOf s11).toNat)
  case atStart => exact ⟨rfl, Or.inl ⟨rfl, rfl⟩⟩
  case round =>
    obtain ⟨rfl, hd⟩ := hrel
    rcases hd with ⟨rfl, rfl⟩ | ⟨rfl, rfl⟩ | ⟨rfl, rfl⟩
    · have e1 : wrap64 (0 + (m1 : Int)) = (m1 : Int) := by unfold wrap64; omega
      have e2 : ((m1 : Int) < 0) = False := by simp
      go_wp2
      go_roundw
      case rel => exact ⟨by trivial, Or.inr (Or.inl ⟨rfl, rfl⟩)⟩
      case measure => simp [intOf]
    · have e1 : wrap64 ((m1 : Int) + (m2 : Int)) = (m1 : Int) + (m2 : Int) := by unfold wrap64; omega
      have e2 : ((m1 : Int) + (m2 : Int) < 0) = False := by simp; omega
      go_wp2
      go_roundw
      case rel => exact ⟨by trivial, Or.inr (Or.inr ⟨rfl, rfl⟩)⟩
      case measure => simp [intOf]
    · go_wp2_with (go_at_call 106; refine (HGR.out _).mono ?_; rintro e w1 ⟨v, rfl, ho, hb⟩)
      go_loopw [6, 27] (fun s6 s27 wr => ∃ k : Nat, k ≤ 2 ∧ s27 = .int .i64 k ∧ wr.ownsRow w.heap.size 39 8 s6 (catP l1 l2 k).length (prmCs (catP l1 l2 k)) ∧ Below w.heap.size w wr) (fun _ s27 _ => 2 - (intOf s27).toNat)
      case atStart => exact ⟨0, by omega, rfl, ho, hb⟩
      case round =>
        obtain ⟨k, hk, rfl, ho', hb'⟩ := hrel
        clear ho hb
        have HO := Lib.hid ho'
        have HB := Lib.hid hb'
        obtain ⟨_, _⟩ := cells2g ((HB.out.block _ hlg).trans HG.out)
        clear ho' hb'
        have hk3 : k = 0 ∨ k = 1 ∨ k = 2 := by omega
        rcases hk3 with rfl | rfl | rfl
        · go_wp2_with (at_builtin; go_must (refine appP (w := w) rfl _ _ rfl _ _ _ l1 rfl HO.out (by simp [catP]) HB.out _ _ _ rfl HM1.out H1.out (by omega) ?_); intro v' w3 hn' hb3 _)
          go_roundw
          case rel => exact ⟨1, by omega, rfl, by simpa [catP, HM1.out] using hn', hb3⟩
          case measure => simp [intOf]
        · go_wp2_with (at_builtin; go_must (refine appP (w := w) rfl _ _ rfl _ _ _ l2 rfl HO.out (by simp [catP]; rw [← HM1.out]; omega) HB.out _ _ _ rfl HM2.out H2.out (by omega) ?_); intro v' w3 hn' hb3 _)
          go_roundw
          case rel => exact ⟨2, by omega, rfl, by simpa [catP, HM2.out] using hn', hb3⟩
          case measure => simp [intOf]
        · go_wp2
          go_ret
          exact ⟨_, rfl, HO.out, HB.out⟩

def catS (l1 l2 : List Syn) : Nat → List Syn | 0 => [] | 1 => l1 | _ => l1 ++ l2
theorem newsS {W : World} {a : Option Addr} {m c : Nat} {l : List Syn} (h : SsAt W (.slice a m c) l) : (a = none ∧ m = 0 ∧ c = 0 ∧ l = []) ∨ ∃ ad, a = some ad ∧ ∀ j u, (synCs l)[j]? = some u → W.cell? (ad.add j) = some u := by
  rcases h with ⟨h1, rfl⟩ | ⟨b, off, c', h1, hbl, hc⟩
  · cases h1; exact Or.inl ⟨rfl, rfl, rfl, rfl⟩
  · cases h1
    refine Or.inr ⟨_, rfl, fun j u hu => ?_⟩
    rw [show (⟨b, off, none⟩ : Addr).add j = ⟨b, off + j, none⟩ by unfold Addr.add; split <;> simp_all]
    exact synCs_cell (m := 0) hc j u hu
/-- An append of a whole list to a row of one's own. -/
theorem appS {ops : Array Oper} {rest : List Oper} {o : Oper} {a : Act} {Q : Exit → Act → World → Prop} {W w : World} (hg : o.guard = none) (s x : Operand)
    (hop : o.op = Op.call { callee := Callee.builtin Builtin.append, args := #[s, x], argTypes := #[23, 23] }) (v : Value) (k : Nat) (l n : List Syn) (hs : a.eval s = v) (hown : W.ownsRow w.heap.size 96 4 v k (synCs l)) (hk : k ≤ 1000000)
    (hb : Below w.heap.size w W) (ad : Option Addr) (m c : Nat) (hx : a.eval x = .slice ad m c) (hm : m = n.length) (hn : SsAt w (.slice ad m c) n) (h2 : m ≤ 1000000)
    (hK : ∀ v' W', W'.ownsRow w.heap.size 96 4 v' (k + m) (synCs (l ++ n)) → Below w.heap.size w W' → W.grownBy W' v.ownBlock → wpList Try.prog ops Q rest (a.put o.dst v') W') : wpList Try.prog ops Q (o :: rest) a W := by
  obtain ⟨i0, hi, hz0, hzz1, hzz2⟩ := info_parts info96
  have hz := hb.size
  rcases newsS (hn.below hb) with ⟨rfl, rfl, rfl, rfl⟩ | ⟨ad, rfl, hc⟩
  · refine wpList_append_own_none hg s x 23 hop w.heap.size 96 i0 4 Try.underlying23 hi v k (synCs l) hs hown hx (hK v W ?_ hb (World.grownBy.refl _ _))
    simpa using hown
  · refine wpList_append_own _ hg s x 23 hop w.heap.size 96 i0 (.agg #[.int .i64 0, .int .i64 0, .int .i64 0, .int .i64 0]) 4 32 Try.underlying23 hi hz0 hzz1 hzz2 rfl (by decide) v k (synCs l) hs hown ad m c (synCs n) hx (by rw [synCs_length, hm]) hc (fun u hu => synV_one hu) (by unfold maxLen; omega) (by omega) hz ?_
    intro v' W' hown' hgr _
    refine hK v' W' (by rw [synCs_append]; exact hown') (hb.trans ⟨hgr.os, hgr.tape, hgr.output, hgr.size, fun j hj => hgr.block j (by omega) fun e => ?_⟩) hgr
    have := hown.lt j e.symm
    omega
set_option maxHeartbeats 2000000 in
set_option maxRecDepth 100000 in
theorem concatS_any (l1 l2 : List Syn) (a1 a2 : Option Addr) (c1 c2 g : Nat) (h1 : l1.length ≤ 100000) (h2 : l2.length ≤ 100000) (w : World)
    (hg : w.heap[g]? = some (.cells #[.slice a1 l1.length c1, .slice a2 l2.length c2] 23)) (hp1 : SsAt w (.slice a1 l1.length c1) l1) (hp2 : SsAt w (.slice a2 l2.length c2) l2) :
    Calls Try.prog 71 #[.slice (some ⟨g, 0, none⟩) 2 2] w (SsOut (l1 ++ l2) w) := by
  obtain ⟨m1, hm1⟩ : ∃ m, m = l1.length := ⟨_, rfl⟩
  obtain ⟨m2, hm2⟩ : ∃ m, m = l2.length := ⟨_, rfl⟩
  rw [← hm1] at h1 hg hp1
  rw [← hm2] at h2 hg hp2
  have hgr : ∀ W, Calls Try.prog 107 #[.slice none 0 0, .int .i64 ((m1 : Int) + (m2 : Int))] W (SsOut [] W) := fun W => by
    have := growS_any (m1 + m2) (by omega) W
    rwa [Int.natCast_add] at this
  have HG := Lib.hid hg
  have H1 := Lib.hid hp1
  have H2 := Lib.hid hp2
  have HM1 := Lib.hid hm1
  have HM2 := Lib.hid hm2
  have HGR := Lib.hid hgr
  clear hg hp1 hp2 hm1 hm2 hgr
  have hlg : g < w.heap.size := lt_of_block HG.out
  obtain ⟨_, _⟩ := cells2g HG.out
  go_enter Try.func71, Try.ntmps71
  go_wp2
  go_loopw [3, 11] (fun s3 s11 wr => w = wr ∧ ((s11 = .int .i64 0 ∧ s3 = .int .i64 0) ∨ (s11 = .int .i64 1 ∧ s3 = .int .i64 (m1 : Int)) ∨ (s11 = .int .i64 2 ∧ s3 = .int .i64 ((m1 : Int) + (m2 : Int))))) (fun _ s11 _ => 2 - (intOf s11).toNat)
  case atStart => exact ⟨rfl, Or.inl ⟨rfl, rfl⟩⟩
  case round =>
    obtain ⟨rfl, hd⟩ := hrel
    rcases hd with ⟨rfl, rfl⟩ | ⟨rfl, rfl⟩ | ⟨rfl, rfl⟩
    · have e1 : wrap64 (0 + (m1 : Int)) = (m1 : Int) := by unfold wrap64; omega
      have e2 : ((m1 : Int) < 0) = False := by simp
      go_wp2
      go_roundw
      case rel => exact ⟨by trivial, Or.inr (Or.inl ⟨rfl, rfl⟩)⟩
      case measure => simp [intOf]
    · have e1 : wrap64 ((m1 : Int) + (m2 : Int)) = (m1 : Int) + (m2 : Int) := by unfold wrap64; omega
      have e2 : ((m1 : Int) + (m2 : Int) < 0) = False := by simp; omega
      go_wp2
      go_roundw
      case rel => exact ⟨by trivial, Or.inr (Or.inr ⟨rfl, rfl⟩)⟩
      case measure => simp [intOf]
    · go_wp2_with (go_at_call 107; refine (HGR.out _).mono ?_; rintro e w1 ⟨v, rfl, ho, hb⟩)
      go_loopw [6, 27] (fun s6 s27 wr => ∃ k : Nat, k ≤ 2 ∧ s27 = .int .i64 k ∧ wr.ownsRow w.heap.size 96 4 s6 (catS l1 l2 k).length (synCs (catS l1 l2 k)) ∧ Below w.heap.size w wr) (fun _ s27 _ => 2 - (intOf s27).toNat)
      case atStart => exact ⟨0, by omega, rfl, ho, hb⟩
      case round =>
        obtain ⟨k, hk, rfl, ho', hb'⟩ := hrel
        clear ho hb
        have HO := Lib.hid ho'
        have HB := Lib.hid hb'
        obtain ⟨_, _⟩ := cells2g ((HB.out.block _ hlg).trans HG.out)
        clear ho' hb'
        have hk3 : k = 0 ∨ k = 1 ∨ k = 2 := by omega
        rcases hk3 with rfl | rfl | rfl
        · go_wp2_with (at_builtin; go_must (refine appS (w := w) rfl _ _ rfl _ _ _ l1 rfl HO.out (by simp [catS]) HB.out _ _ _ rfl HM1.out H1.out (by omega) ?_); intro v' w3 hn' hb3 _)
          go_roundw
          case rel => exact ⟨1, by omega, rfl, by simpa [catS, HM1.out] using hn', hb3⟩
          case measure => simp [intOf]
        · go_wp2_with (at_builtin; go_must (refine appS (w := w) rfl _ _ rfl _ _ _ l2 rfl HO.out (by simp [catS]; rw [← HM1.out]; omega) HB.out _ _ _ rfl HM2.out H2.out (by omega) ?_); intro v' w3 hn' hb3 _)
          go_roundw
          case rel => exact ⟨2, by omega, rfl, by simpa [catS, HM2.out] using hn', hb3⟩
          case measure => simp [intOf]
        · go_wp2
          go_ret
          exact ⟨_, rfl, HO.out, HB.out⟩
end Go.Proofs.Ytgbcdebnanejpaa.Rn
