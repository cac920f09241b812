/- Lists of ints by content; maps whose keys are ints, as functions; kinds, has. Over this seat's program. (mk_Vi.py wrote this.) -/
import Derived.Test.YtnbndciididpoaaGreatVd
import Derived.Test.YtnbndciididpoaaGreatLf
import Derived.Maps.OwnSet
namespace Go.Proofs.YtnbndciididpoaaGreat
set_option linter.unusedVariables false
open Go.RowKit Go.Shelf

def KAt (k : IntKind) (W : World) (sv : Value) (zs : List Int) : Prop :=
  (sv = .slice none 0 0 ∧ zs = []) ∨ ∃ b off cap, sv = .slice (some ⟨b, off, none⟩) zs.length cap ∧ b < W.heap.size ∧ ∀ j z, zs[j]? = some z → W.cell? ⟨b, off + j, none⟩ = some (.int k z)
theorem KAt.below {k : IntKind} {W w1 : World} {sv : Value} {zs : List Int} (h : KAt k W sv zs) (hb : Below W.heap.size W w1) : KAt k w1 sv zs := by
  rcases h with h | ⟨b, off, cap, e, hl, h⟩
  · exact Or.inl h
  · exact Or.inr ⟨b, off, cap, e, Nat.lt_of_lt_of_le hl hb.size, fun j z hz => ((bcell hb).1 _ _ hl).trans (h j z hz)⟩
theorem KAt.at {kd : IntKind} {W : World} {a : Option Addr} {n cap : Nat} {l : List Int} (h : KAt kd W (.slice a n cap) l) {k : Nat} {z : Int} (hk : l[k]? = some z) : ∃ b off, a = some ⟨b, off, none⟩ ∧ b < W.heap.size ∧ W.cell? ⟨b, off + k, none⟩ = some (.int kd z) := by
  rcases h with ⟨_, rfl⟩ | ⟨b, off, cap', e, hl, h⟩
  · simp at hk
  · cases e; exact ⟨b, off, rfl, hl, h k z hk⟩
theorem kat_of_owns {W : World} {base : Nat} {e : TypeId} {v : Value} {l : List Int} (h : W.ownsRow base e 1 v l.length (iCs l)) : KAt .i64 W v l := by
  rcases h.2 with ⟨rfl, h0⟩ | ⟨g, cap, cur, rfl, hb, hg, _, _, _, ht⟩
  · exact Or.inl ⟨rfl, List.eq_nil_of_length_eq_zero h0⟩
  · refine Or.inr ⟨g, 0, cap, rfl, (Array.getElem?_eq_some_iff.1 hg).1, fun j z hz => ?_⟩
    have h1 := h.cells (g := g) rfl j (.int .i64 z) (by simp [iCs, hz])
    have hadd : (⟨g, 0, none⟩ : Addr).add j = ⟨g, 0 + j, none⟩ := by unfold Addr.add; split <;> simp_all
    rwa [hadd] at h1

theorem intK : Maps.Keyed Tryz.prog 3 := Maps.int_keyed Tryz.underlying3
theorem keyI (V : Int) (hV : (Lit.int .i64 V).wf = true) : ∃ kl, keyOf Tryz.prog 3 (.int .i64 V) = some kl := ⟨_, Maps.keyOf_int_mk Tryz.underlying3 hV⟩
def Rv (v : Value) : Option (DataW Value × List MemPlace) := some (.held v, [])
def encO : Option Value → DataW Value
  | none => .nil
  | some v => .held v
/-- Block b is a map of at most n entries, which holds what f says. -/
def MapIs (W : World) (b n : Nat) (f : Int → Option Value) : Prop :=
  ∃ D, W.ownsMap Tryz.prog 3 Rv b n D ∧ ∀ V kl, keyOf Tryz.prog 3 (.int .i64 V) = some kl → D.atKey kl .nil = encO (f V)
def upd (f : Int → Option Value) (V : Int) (v : Value) : Int → Option Value := fun V' => if V' = V then some v else f V'

theorem MapIs.made (W : World) : MapIs (W.alloc (.map #[] 0)) W.heap.size 0 (fun _ => none) :=
  ⟨.map [], World.ownsMap_made _ _ _ _, fun V kl _ => rfl⟩
theorem MapIs.lt {W : World} {b n : Nat} {f : Int → Option Value} (h : MapIs W b n f) : b < W.heap.size := by
  obtain ⟨D, h, _⟩ := h; exact h.lt
theorem MapIs.of_block {W W' : World} {b n : Nat} {f : Int → Option Value} (h : MapIs W b n f) (hb : W'.heap[b]? = W.heap[b]?) : MapIs W' b n f := by
  obtain ⟨D, ⟨es, clock, h1, h2, h3, h4⟩, h5⟩ := h
  exact ⟨D, ⟨es, clock, hb.trans h1, h2, h3, h4⟩, h5⟩
theorem encO_inj {a b : Option Value} (h : encO a = encO b) : a = b := by
  cases a <;> cases b <;> simp [encO] at h <;> simp [h]
theorem MapIs.look {W : World} {b n : Nat} {f : Int → Option Value} (h : MapIs W b n f) {t e : TypeId} (ht : Tryz.prog.underlying t = some (.map 3 e)) {z : Value} (hz : (zeroValue e).run Tryz.prog W = .ok z W) (V : Int) (hV : (Lit.int .i64 V).wf = true) :
    (Instr.lookup t (.map (some b)) (.int .i64 V) true).run Tryz.prog W = .ok (.tuple #[(f V).getD z, .bool (f V).isSome]) W := by
  obtain ⟨kl, hkl⟩ := keyI V hV
  obtain ⟨D, ⟨es, clock, hb, F, hs, rfl⟩, hf⟩ := h
  have hat := hf V kl hkl
  rcases Maps.fit_look true intK ht hz hb F hkl with ⟨hrun, _, h1⟩ | ⟨e0, y, _, _, hrun, hy, h1, _⟩
  · rw [h1] at hat
    have : f V = none := encO_inj (b := none) (by rw [← hat]; rfl)
    rw [hrun, this]; rfl
  · rw [h1] at hat
    have hy' : y.1 = encO (some e0.val) := by simp only [Rv, Option.some.injEq] at hy; rw [← hy]; rfl
    have : f V = some e0.val := encO_inj (by rw [← hat, hy'])
    rw [hrun, this]; rfl
theorem MapIs.look1 {W : World} {b n : Nat} {f : Int → Option Value} (h : MapIs W b n f) {t e : TypeId} (ht : Tryz.prog.underlying t = some (.map 3 e)) {z : Value} (hz : (zeroValue e).run Tryz.prog W = .ok z W) (V : Int) (hV : (Lit.int .i64 V).wf = true) :
    (Instr.lookup t (.map (some b)) (.int .i64 V) false).run Tryz.prog W = .ok ((f V).getD z) W := by
  obtain ⟨kl, hkl⟩ := keyI V hV
  obtain ⟨D, ⟨es, clock, hb, F, hs, rfl⟩, hf⟩ := h
  have hat := hf V kl hkl
  rcases Maps.fit_look false intK ht hz hb F hkl with ⟨hrun, _, h1⟩ | ⟨e0, y, _, _, hrun, hy, h1, _⟩
  · rw [h1] at hat
    have : f V = none := encO_inj (b := none) (by rw [← hat]; rfl)
    rw [hrun, this]; rfl
  · rw [h1] at hat
    have hy' : y.1 = encO (some e0.val) := by simp only [Rv, Option.some.injEq] at hy; rw [← hy]; rfl
    have : f V = some e0.val := encO_inj (by rw [← hat, hy'])
    rw [hrun, this]; rfl
theorem MapIs.update {W : World} {b n : Nat} {f : Int → Option Value} (h : MapIs W b n f) (hn : n < maxLen) {t e : TypeId} (ht : Tryz.prog.underlying t = some (.map 3 e)) (V : Int) (hV : (Lit.int .i64 V).wf = true) (v : Value) :
    ∃ W', (Instr.mapUpdate t (.map (some b)) (.int .i64 V) v).run Tryz.prog W = .ok () W' ∧ MapIs W' b (n + 1) (upd f V v) ∧ W.grownBy W' (some b) := by
  obtain ⟨kl, hkl⟩ := keyI V hV
  obtain ⟨D, hown, hf⟩ := h
  obtain ⟨W', hrun, ho, hg⟩ := hown.update intK ht hn hkl (show Rv v = some (.held v, []) from rfl)
  refine ⟨W', hrun, ⟨_, ho, fun V' kl' hkl' => ?_⟩, hg⟩
  by_cases e : kl' = kl
  · subst e
    have := intK.inj hkl hkl'
    simp only [Value.int.injEq, true_and] at this
    rw [Maps.atKey_put_same hown.isMap (intK.key hkl)]
    unfold upd; rw [if_pos this.symm]; rfl
  · rw [Maps.atKey_put_other e, hf V' kl' hkl']
    unfold upd; rw [if_neg]
    rintro rfl
    rw [hkl] at hkl'; exact e (Option.some.inj hkl').symm



set_option maxRecDepth 100000 in
set_option maxHeartbeats 4000000 in
/-- Whether a list has a number. -/
theorem rhas_any (zs : List Int) (x : Int) (a : Option Addr) (n cap : Nat) (hn : n = zs.length) (hl : n ≤ 100000) (w : World) (hK : KAt .i64 w (.slice a n cap) zs) :
    Calls Tryz.prog 105 #[.slice a n cap, .int .i64 x] w fun e w' => e = .returned (.bool (zs.contains x)) ∧ w = w' := by
  have HK := Lib.hid hK
  have HN := Lib.hid hn
  obtain ⟨r, hr⟩ : ∃ r, r = zs.contains x := ⟨_, rfl⟩
  rw [← hr]
  have HR := Lib.hid hr
  clear hK hn hr
  go_enter Tryz.func105, Tryz.ntmps105
  go_upto_region 2 with (fail)
  go_loopw [5] (fun st wr => ∃ k : Nat, k ≤ n ∧ st = .int .i64 k ∧ Hid ((zs.take k).contains x = false) ∧ wr = w) (fun st _ => n - (intOf st).toNat)
  case atStart => exact ⟨0, Nat.zero_le _, rfl, Lib.hid (by simp), rfl⟩
  case round =>
    obtain ⟨k, hk, rfl, HA, rfl⟩ := hrel
    have hi0 : (0 : Int) ≤ (k : Int) := Int.natCast_nonneg _
    by_cases hlt : k < n
    · obtain ⟨z, hz⟩ : ∃ z, zs[k]? = some z := ⟨_, List.getElem?_eq_getElem (by rw [← HN.out]; exact hlt)⟩
      have hi1 : (k : Int) < (n : Int) := by omega
      obtain ⟨b, off, rfl, hbl, u1⟩ := HK.out.at hz
      have HSN := Lib.hid (show (zs.take (k + 1)).contains x = ((zs.take k).contains x || decide (x = z)) from by
        rw [List.take_add_one, hz]; simp)
      have HMEM := Lib.hid (List.mem_of_getElem? hz)
      clear hz
      by_cases he : z = x
      · subst he
        have HT := Lib.hid (show r = true from by rw [HR.out]; simpa using HMEM.out)
        go_wp2
        go_ret
        exact ⟨by rw [HT.out]; rfl, rfl⟩
      · have e1 : (z = x) = False := by simp only [eq_iff_iff, iff_false]; exact he
        go_wp2
        go_roundw
        case rel => exact ⟨k + 1, by omega, by go_num, Lib.hid (by rw [HSN.out, HA.out]; simp; exact fun h => he h.symm), trivial⟩
        case measure => simp [intOf]; omega
    · have HT := Lib.hid (show r = false from by
        rw [HR.out]
        have h1 := HA.out
        rw [show k = zs.length from by have := HN.out; omega, List.take_length] at h1
        exact h1)
      go_wp2
      go_ret
      exact ⟨by rw [HT.out]; rfl, rfl⟩
end Go.Proofs.YtnbndciididpoaaGreat
