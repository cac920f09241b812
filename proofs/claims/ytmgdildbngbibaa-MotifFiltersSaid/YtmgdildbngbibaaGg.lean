/- Drawn regions with one call whose answer hangs on the run, and a store of it; the builder's neurons of one kind. (mk_Gg.py wrote this.) -/
import Derived.Test.YtmgdildbngbibaaGf
namespace Go.Proofs.Ytmgdildbngbibaa
set_option linter.unusedVariables false
open Go.RowKit Go.Shelf

/-- What holds in a drawn region whose operations below n are known; n is a call, n + 1 stores its answer. -/
structure CsR (n : Nat) (D : List Nat) (Pre : World → Prop) (M Z : Value → World → Prop) (Kv : Nat → Value) (L : Array Bool) (val : Nat → Value) (W : World) : Prop where
  known : ∀ j, j < n → L.getD j false = true → val j = Kv j
  pre : L.getD n false = false → Pre W
  mid : L.getD n false = true → L.getD (n + 1) false = false → M (val n) W
  fin : L.getD (n + 1) false = true → Z (val n) W
  dn : L.getD (n + 1) false = true → L.getD n false = true
  dl : L.getD n false = true → ∀ i ∈ D, L.getD i false = true
section
variable {n : Nat} {D : List Nat} {Pre : World → Prop} {M Z : Value → World → Prop} {Kv : Nat → Value} {L : Array Bool} {val : Nat → Value} {W W' : World}
theorem CsR.init (N : Nat) (h : Pre W) : CsR n D Pre M Z Kv (Array.replicate N false) (fun _ => undef) W := by
  have z : ∀ j, (Array.replicate N false).getD j false = true → False := fun j h => by
    simp [Array.getD_eq_getD_getElem?, Array.getElem?_replicate] at h
    split at h <;> simp_all
  exact ⟨fun j _ h => (z _ h).elim, fun _ => h, fun h => (z _ h).elim, fun h => (z _ h).elim, fun h => (z _ h).elim, fun h => (z _ h).elim⟩
theorem CsR.skip (h : CsR n D Pre M Z Kv L val W) (i : Nat) (hi : i < n) (u : Value) (hu : u = Kv i) : CsR n D Pre M Z Kv (L.setIfInBounds i true) (setV val i u) W := by
  refine ⟨fun j hj hl => ?_, ?_, ?_, ?_, ?_, ?_⟩
  · by_cases e : j = i
    · subst e; rw [setV_eq]; exact hu
    · rw [setV_ne e]; exact h.known j hj (by rwa [gdD e] at hl)
  · rw [gdD (by omega)]; exact h.pre
  · rw [gdD (by omega), gdD (by omega), setV_ne (by omega)]; exact h.mid
  · rw [gdD (by omega), setV_ne (by omega)]; exact h.fin
  · rw [gdD (by omega), gdD (by omega)]; exact h.dn
  · rw [gdD (by omega)]; intro hh j hj
    have h1 := h.dl hh j hj
    by_cases e : j = i
    · subst e; rw [getD_set_eq3 (size_of h1)]
    · rw [gdD e]; exact h1
theorem CsR.call (h : CsR n D Pre M Z Kv L val W) (hs : n < L.size) (fn : L.getD n false = false) (hD : ∀ i ∈ D, i ≠ n ∧ L.getD i false = true) (u : Value) (hm : M u W') : CsR n D Pre M Z Kv (L.setIfInBounds n true) (setV val n u) W' := by
  have fs := not_of h.dn fn
  refine ⟨fun j hj hl => ?_, ?_, fun _ _ => ?_, ?_, ?_, fun _ j hj => ?_⟩
  · rw [setV_ne (by omega)]; exact h.known j hj (by rwa [gdD (by omega)] at hl)
  · rw [getD_set_eq3 hs]; intro hh; cases hh
  · rw [setV_eq]; exact hm
  · rw [gdD (by omega), fs]; intro hh; cases hh
  · rw [gdD (by omega), fs]; intro hh; cases hh
  · rw [gdD (hD j hj).1]; exact (hD j hj).2
theorem CsR.store (h : CsR n D Pre M Z Kv L val W) (hs : n + 1 < L.size) (ln : L.getD n false = true) (u : Value) (hz : Z (val n) W') : CsR n D Pre M Z Kv (L.setIfInBounds (n + 1) true) (setV val (n + 1) u) W' := by
  refine ⟨fun j hj hl => ?_, ?_, ?_, fun _ => ?_, fun _ => ?_, fun _ j hj => ?_⟩
  · rw [setV_ne (by omega)]; exact h.known j hj (by rwa [gdD (by omega)] at hl)
  · rw [gdD (by omega), ln]; intro hh; cases hh
  · rw [getD_set_eq3 hs]; intro _ hh; cases hh
  · rw [setV_ne (by omega)]; exact hz
  · rw [gdD (by omega)]; exact ln
  · have h1 := h.dl ln j hj
    by_cases e : j = n + 1
    · subst e; rw [getD_set_eq3 hs]
    · rw [gdD e]; exact h1
theorem CsR.all (h : CsR n D Pre M Z Kv L val W) {Q : World → Prop} (hp : ∀ W, Pre W → Q W) (hm : ∀ v W, M v W → Q W) (hz : ∀ v W, Z v W → Q W) : Q W := by
  cases e : L.getD n false with
  | false => exact hp _ (h.pre e)
  | true =>
    cases e2 : L.getD (n + 1) false with
    | false => exact hm _ _ (h.mid e e2)
    | true => exact hz _ _ (h.fin e2)
theorem CsR.early (h : CsR n D Pre M Z Kv L val W) {i : Nat} (hi : i ∈ D) (f : L.getD i false = false) : Pre W := by
  cases e : L.getD n false with
  | false => exact h.pre e
  | true => have := h.dl e i hi; rw [f] at this; cases this
end
theorem set3 {W : World} {R : Nat} {v0 v1 v2 : Value} {T : TypeId} (h : W.heap[R]? = some (.cells #[v0, v1, v2] T)) (u0 u1 u2 : Value) :
    (((W.setCell ⟨R, 0, none⟩ u0).setCell ⟨R, 1, none⟩ u1).setCell ⟨R, 2, none⟩ u2).heap[R]? = some (.cells #[u0, u1, u2] T) ∧ (∀ b, b ≠ R → (((W.setCell ⟨R, 0, none⟩ u0).setCell ⟨R, 1, none⟩ u1).setCell ⟨R, 2, none⟩ u2).heap[b]? = W.heap[b]?) ∧
      ∀ H w, H ≤ R → Below H w W → Below H w (((W.setCell ⟨R, 0, none⟩ u0).setCell ⟨R, 1, none⟩ u1).setCell ⟨R, 2, none⟩ u2) := by
  refine ⟨?_, fun b hb => by rw [setCell_o hb, setCell_o hb, setCell_o hb], fun H w hH hb => Below.setCell (Below.setCell (Below.setCell hb hH _) hH _) hH _⟩
  have h1 := setCell_own (i := 2) u2 (setCell_own (i := 1) u1 (setCell_own (i := 0) u0 h))
  simpa using h1
theorem res_net {f : Func} (hf : f.results = #[.cell 6 32, .tmp 7]) {W : World} {R : Nat} {v0 v1 v2 : Value} {t : TypeId} (x : Int) (h : W.heap[R]? = some (.cells #[v0, v1, v2] t)) (tm : Array Value) (h6 : tm[6]?.getD undef = .pointer (some ⟨R, 0, none⟩)) (h7 : tm[7]?.getD undef = .int .i64 x) :
    (results f tm).run Try.prog W = .ok (.tuple #[.agg #[v0, v1, v2], .int .i64 x]) W := by
  obtain ⟨d0, d1, d2⟩ := cells3 h
  simp [results, hf, go_sem, h6, h7, d0, d1, d2]

set_option maxRecDepth 100000 in
set_option maxHeartbeats 2000000 in
/-- The builder's neurons of one kind. -/
theorem neurons_any (n : Nat) (p : Prm) (th : Int) (B kp : Nat) (ps : List Prm) (inp : Int) (ss : List Syn) (vn vs : Value) (hn : ps.length + n ≤ 100000) (w : World) (h : BdAt w B ps inp ss vn vs) (hp : PAt w kp p)
    (hk : kp ≠ B ∧ vn.ownBlock ≠ some kp ∧ vs.ownBlock ≠ some kp) :
    Calls Try.prog 49 #[.int .i64 (n : Int), .func (.func 104) #[] #[.pointer (some ⟨kp, 0, none⟩)], .int .i64 th, .func (.func 51) #[.pointer (some ⟨B, 0, none⟩)] #[]] w
      (BdGot B vn vs (ps ++ List.replicate n { p with th := th }) inp ss w) := by
  have HB := Lib.hid h
  have HP := Lib.hid hp
  have HK := Lib.hid hk
  obtain ⟨q, hq⟩ : ∃ q : Prm, q = { p with th := th } := ⟨_, rfl⟩
  have HL1 := Lib.hid (fun W (hW : PAt W kp p) => hq ▸ like1_any p kp th W hW)
  rw [← hq]
  clear h hp hk hq
  go_enter Try.func49, Try.ntmps49
  go_wp2
  go_loopw [9] (fun s wr => ∃ k : Nat, k ≤ n ∧ s = .int .i64 k ∧ ∃ v1 v2, BdAt wr B (ps ++ List.replicate k q) inp ss v1 v2 ∧ BdFr B vn vs v1 v2 w wr) (fun s _ => n - (intOf s).toNat)
  case atStart => exact ⟨0, Nat.zero_le _, rfl, vn, vs, by simpa using HB.out, BdFr.refl _ _ _ _⟩
  case round =>
    obtain ⟨k, hk, rfl, v1, v2, hbd, hfr⟩ := hrel
    have HBD := Lib.hid hbd
    have HFR := Lib.hid hfr
    clear hbd hfr
    by_cases hlt : k < n
    · have hi1 : (k : Int) < (n : Int) := by omega
      have hpk : PAt wr kp p := (HFR.out.oth kp (lt_of_block HP.out) HK.out.1 HK.out.2.1 HK.out.2.2).trans HP.out
      have HPK := Lib.hid hpk
      have hB1 := lt_of_block HBD.out.blk
      clear hpk
      go_wp2_with (fail)
      go_at_call 104
      refine (HL1.out _ HPK.out).mono ?_
      rintro e w1 ⟨rfl, hb1⟩
      have HB1 := Lib.hid hb1
      clear hb1
      go_wp2_with (fail)
      go_at_call 51
      refine (neuron_any q B _ inp ss v1 v2 (by simp; omega) _ (HBD.out.below HB1.out)).mono ?_
      rintro e w2 ⟨rfl, v3, v4, hbd2, hfr2⟩
      have HBD2 := Lib.hid hbd2
      have HFR2 := Lib.hid hfr2
      clear hbd2 hfr2
      go_wp2
      go_roundw
      case rel => exact ⟨k + 1, by omega, by go_num, v3, v4, by
        have e := HBD2.out
        rwa [List.append_assoc, ← List.replicate_succ'] at e, HFR.out.trans ((BdFr.below HB1.out (by omega)).trans HFR2.out (fun g hg => (HBD.out.rn.lt g hg).2) (fun g hg => (HBD.out.rs.lt g hg).2)) (fun g hg => (HB.out.rn.lt g hg).2) (fun g hg => (HB.out.rs.lt g hg).2)⟩
      case measure => simp [intOf]; omega
    · obtain rfl : k = n := by omega
      clear hlt
      go_wp2
      exact bodyPost_ret (v := .tuple #[]) (by simp [results, Try.results49, go_sem]) rfl ⟨rfl, v1, v2, HBD.out, HFR.out⟩
theorem neurons_one (p : Prm) (th : Int) (B kp : Nat) (ps : List Prm) (inp : Int) (ss : List Syn) (vn vs : Value) (hn : ps.length + 1 ≤ 100000) (w : World) (h : BdAt w B ps inp ss vn vs) (hp : PAt w kp p)
    (hk : kp ≠ B ∧ vn.ownBlock ≠ some kp ∧ vs.ownBlock ≠ some kp) :
    Calls Try.prog 49 #[.int .i64 1, .func (.func 104) #[] #[.pointer (some ⟨kp, 0, none⟩)], .int .i64 th, .func (.func 51) #[.pointer (some ⟨B, 0, none⟩)] #[]] w
      (BdGot B vn vs (ps ++ [{ p with th := th }]) inp ss w) := neurons_any 1 p th B kp ps inp ss vn vs hn w h hp hk

end Go.Proofs.Ytmgdildbngbibaa
