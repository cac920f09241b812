/- Learning: samples as arguments; both Trains. Over this seat's program. (mk_Th.py wrote this.) -/
import Derived.Test.YtjdcjcanmeangaaGreatTg
import Derived.OpenShut
import Derived.ProofKit
import Derived.ChangeSlices
import Derived.WideShapes
namespace Go.Proofs.YtjdcjcanmeangaaGreat
set_option linter.unusedVariables false
open Go.RowKit Go.ChangeShapes Go.WideShapes Go.ChangeAt

theorem list_of {α : Type} {P : Nat → α → Prop} : ∀ (n : Nat), (∀ i, i < n → ∃ s, P i s) → ∃ l : List α, l.length = n ∧ ∀ i s, l[i]? = some s → P i s
  | 0, _ => ⟨[], rfl, fun i s h => by simp at h⟩
  | n + 1, h => by
    obtain ⟨l, h1, h2⟩ := list_of n fun i hi => h i (by omega)
    obtain ⟨s, hs⟩ := h n (by omega)
    refine ⟨l ++ [s], by simp [h1], fun i t ht => ?_⟩
    rcases Nat.lt_or_ge i n with hi | hi
    · rw [List.getElem?_append_left (by omega)] at ht; exact h2 i t ht
    · have hin : i = n := by have := (List.getElem?_eq_some_iff.1 ht).1; simp at this; omega
      subst hin
      rw [List.getElem?_append_right (by omega), h1] at ht
      simp at ht; subst ht; exact hs
section
variable {H : Type} {enc : TypeId × Value → H} {w : World} {base : Nat} {held : Bool}
section
variable {P : Program} {spare : Nat → Bool}
theorem has_lt {r : Reach} {b0 e n : Nat} {a : Addr} (h : w.has P r b0 a e n) : a.spot = none ∧ a.block < w.heap.size := by
  obtain ⟨_, hs, row, cells, hsh, _⟩ := h
  refine ⟨hs, ?_⟩
  unfold World.shape? at hsh
  cases hb : w.heap[a.block]? with
  | none => simp [hb] at hsh
  | some o => exact (Array.getElem?_eq_some_iff.mp hb).1
theorem cellOkWide_slice {r : Reach} {b0 t e : Nat} {v : Value} (ht : P.underlying t = some (.slice e)) (hv : Cell.okWide P w r b0 t v) : v = .slice none 0 0 ∨ ∃ b off n cap, v = .slice (some ⟨b, off, none⟩) n cap ∧ b < w.heap.size := by
  simp only [Cell.okWide, ht] at hv
  cases v <;> simp [Cell.ok, ht] at hv
  rename_i a n cap
  cases a with
  | none =>
    left
    cases n <;> cases cap <;> simp_all
  | some a =>
    right
    obtain ⟨_, _, hh⟩ := hv
    obtain ⟨hs, hl⟩ := has_lt hh
    obtain ⟨b, off, sp⟩ := a
    obtain rfl : sp = none := hs
    exact ⟨b, off, n, cap, rfl, hl⟩
theorem open_slice_cells {t e m : Nat} {fs : Array Field} {fuel b off n cap : Nat} {x : DataW H × List MemPlace} (ht : P.underlying t = some (.slice e)) (hs : P.underlying e = some (.struct fs))
    (hf : ∀ (i : Nat) (f : Field), fs[i]? = some f → f.offset = i ∧ P.cellsOf f.type = 1) (hm : fs.size = m) (hC : P.cellsOf e = m)
    (h : DataW.trod enc P w base spare held fuel t [.slice (some ⟨b, off, none⟩) n cap] = some x) :
    n ≤ maxLen ∧ ∀ (i j : Nat) (f : Field), i < n → fs[j]? = some f → ∃ c g y, w.cell? ⟨b, off + i * m + j, none⟩ = some c ∧ DataW.trod enc P w base spare held g f.type [c] = some y := by
  rcases DataW.trod_slice ht h with ⟨h0, _⟩ | ⟨a, len, cap', elems, rest, g, _, h1, _, _, hl, hmx, hlen, hel, _, _⟩
  · simp at h0
  · simp at h1
    obtain ⟨rfl, rfl, rfl⟩ := h1
    refine ⟨Nat.le_trans hl hmx, fun i j f hin hfj => ?_⟩
    have hj : j < m := by have := (Array.getElem?_eq_some_iff.1 hfj).1; omega
    have h2 := hel i hin
    rw [List.getElem?_eq_getElem (by omega), Option.bind_eq_some_iff] at h2
    obtain ⟨cs, h3, h4⟩ := h2
    obtain ⟨xs, g', _, _, hcl, hxl, hg⟩ := DataW.trod_struct hs h4
    obtain ⟨ho, hk⟩ := hf j f hfj
    have h5 := hg j f hfj
    rw [ho, hk, List.getElem?_eq_getElem (by omega)] at h5
    have hjl : j < cs.length := by omega
    have e5 : List.take 1 (List.drop j cs) = [cs[j]] := by rw [List.drop_eq_getElem_cons hjl]; rfl
    rw [e5] at h5
    refine ⟨cs[j], g', _, ?_, h5⟩
    unfold World.cells? at h3
    split at h3
    · have h8 := mapM_some_get h3 j j (by simp [hC, hj])
      rw [List.getElem?_eq_getElem hjl] at h8
      rw [hC] at h8
      rw [← h8]
      congr 1
      unfold Addr.add
      split <;> split <;> simp_all <;> omega
    · simp at h3
end
theorem cells73 : Tryz.prog.cellsOf 73 = 2 := by kernel_rfl
set_option maxRecDepth 100000 in
/-- Samples as an argument. -/
theorem open_samples {r : Reach} {b0 : Nat} {v : Value} {d : DataW H} {p : List MemPlace} (hv : Value.okWide Tryz.prog w r b0 70 v) (h : DataW.Trod enc Tryz.prog w base (fun _ => true) held 70 v d p) :
    ∃ l a c, v = .slice a l.length c ∧ SmpsAt w (.slice a l.length c) l ∧ l.length ≤ maxLen ∧ ∀ s ∈ l, s.x.length ≤ maxLen := by
  have hv' : Cell.okWide Tryz.prog w r b0 70 v := by simpa only [Value.okWide, Tryz.underlying70] using hv
  obtain ⟨fuel, hfu⟩ := h
  rcases cellOkWide_slice Tryz.underlying70 hv' with rfl | ⟨b, off, n, cap, rfl, hl⟩
  · exact ⟨[], none, 0, rfl, Or.inl ⟨rfl, rfl⟩, by simp, by simp⟩
  · obtain ⟨hm, hc⟩ := open_slice_cells (m := 2) Tryz.underlying70 Tryz.underlying73 (by
      intro i f hf
      match i, hf with
      | 0, hf | 1, hf => cases hf; exact ⟨rfl, by kernel_rfl⟩
      | n + 2, hf => simp at hf) (by rfl) cells73 hfu
    have hrow : ∀ i, i < n → ∃ s : Smp, (∃ sa c, w.cell? ⟨b, off + i * 2, none⟩ = some (.slice sa s.x.length c) ∧ w.cell? ⟨b, off + i * 2 + 1, none⟩ = some (.bool s.y) ∧ RIn w (.slice sa s.x.length c) s.x) ∧ s.x.length ≤ maxLen := fun i hi => by
      obtain ⟨c0, g0, y0, h0, k0⟩ := hc i 0 _ hi rfl
      obtain ⟨c1, g1, y1, h1, k1⟩ := hc i 1 _ hi rfl
      obtain ⟨z, q3, _⟩ := DataW.trod_bool Tryz.underlying4 k1
      obtain rfl : c1 = .bool z := by simpa using q3
      rcases open_ints Tryz.underlying22 Tryz.underlying3 (by kernel_rfl) k0 with ⟨e0, _⟩ | ⟨a', len, cap', zs, e1, _, hlz, hmz, hz, _, hcell, hwf⟩
      · obtain rfl : c0 = .slice none 0 0 := by simpa using e0
        exact ⟨⟨[], z⟩, ⟨none, 0, by simpa using h0, h1, .inl ⟨rfl, rfl⟩⟩, by simp⟩
      · obtain rfl : c0 = .slice (some a') len cap' := by simpa using e1
        simp at hz
        have hlen : (zs.take len).length = len := by simp; omega
        refine ⟨⟨zs.take len, z⟩, ⟨some a', cap', by simp only [hlen]; simpa using h0, h1, .inr ⟨a', cap', by simp only [hlen], fun j x hj => ?_⟩⟩, by simp only [hlen]; exact Nat.le_trans hlz hmz⟩
        have hj : (zs.take len)[j]? = some x := hj
        have hjn : j < len := by have := (List.getElem?_eq_some_iff.1 hj).1; omega
        rw [hcell j (by omega)]
        have h3 : zs[j]? = some x := by rw [List.getElem?_take, if_pos hjn] at hj; exact hj
        simp [h3]
    obtain ⟨l, hll, hls⟩ := list_of n hrow
    refine ⟨l, some ⟨b, off, none⟩, cap, by rw [hll], .inr ⟨b, off, cap, rfl, hl, fun j s hs => (hls j s hs).1⟩, by rw [hll]; exact hm, fun s hs => ?_⟩
    obtain ⟨j, hj⟩ := List.getElem?_of_mem hs
    exact (hls j s hj).2
end
/-- code.Train, whatever it is given. -/
theorem train_any (l : List Smp) (m R : Int) (PN : Nat) (PS : TS) (PD : Bool) (PE : Int) (hp1 : trE l m R ≠ 0 → PN = 0 ∧ PS = initS ∧ PD = false ∧ PE = trE l m R) (hp2 : trE l m R = 0 → PN = n0 l ∧ PS = (trainS (n0 l) m l R.toNat).1 ∧ PD = (trainS (n0 l) m l R.toNat).2 ∧ PE = 0)
    (a : Option Addr) (cap : Nat) (hl : l.length ≤ 100000) (hx : ∀ s ∈ l, s.x.length ≤ 100000) (w : World) (hS : SmpsAt w (.slice a l.length cap) l) :
    Calls Tryz.prog 43 #[.slice a l.length cap, .int .i64 m, .int .i64 R] w (TrGot PN PS PD PE w) := by
  by_cases h : trE l m R = 0
  · obtain ⟨rfl, rfl, rfl, rfl⟩ := hp2 h
    have hs : smpE l = 0 := by
      unfold trE at h
      split at h
      · exact absurd h (by assumption)
      · rename_i q; exact Decidable.not_not.1 q
    have hr : (inR m 0 1000000 && inR R 1 1000) = true := by
      unfold trE at h
      rw [if_neg (by simp [hs])] at h
      by_cases q : (inR m 0 1000000 && inR R 1 1000) = true
      · exact q
      · rw [if_neg q] at h; cases h
    simp only [Bool.and_eq_true, inR_true] at hr
    obtain ⟨Q, rfl⟩ := Int.eq_ofNat_of_zero_le (a := R) (by omega)
    exact train_ok l hs m (by omega) Q (by omega) a cap w hS
  · obtain ⟨rfl, rfl, rfl, rfl⟩ := hp1 h
    exact train_err l m R _ rfl h a cap hl hx w hS
/-- Both Trains return the same. -/
theorem trains_any (l : List Smp) (m R : Int) (hl : l.length ≤ 100000) (hx : ∀ s ∈ l, s.x.length ≤ 100000) : ∃ PN PS PD PE, PN ≤ 100000 ∧
    (∀ a cap w, SmpsAt w (.slice a l.length cap) l → Calls Tryz.prog 43 #[.slice a l.length cap, .int .i64 m, .int .i64 R] w (TrGot PN PS PD PE w)) ∧
    ∀ a cap w, SmpsAt w (.slice a l.length cap) l → Calls Tryz.prog 44 #[.slice a l.length cap, .int .i64 m, .int .i64 R] w (TrGot PN PS PD PE w) := by
  by_cases h : trE l m R = 0
  · refine ⟨n0 l, (trainS (n0 l) m l R.toNat).1, (trainS (n0 l) m l R.toNat).2, 0, ?_, fun a cap w hS => train_any l m R _ _ _ _ (fun q => absurd h q) (fun _ => ⟨rfl, rfl, rfl, rfl⟩) a cap hl hx w hS, fun a cap w hS => rtrain_any l m R _ _ _ _ (fun q => absurd h q) (fun _ => ⟨rfl, rfl, rfl, rfl⟩) a cap hl hx w hS⟩
    cases l with
    | nil => simp [n0]
    | cons s r => exact hx s (List.mem_cons_self ..)
  · exact ⟨0, initS, false, trE l m R, by omega, fun a cap w hS => train_any l m R _ _ _ _ (fun _ => ⟨rfl, rfl, rfl, rfl⟩) (fun q => absurd q h) a cap hl hx w hS, fun a cap w hS => rtrain_any l m R _ _ _ _ (fun _ => ⟨rfl, rfl, rfl, rfl⟩) (fun q => absurd q h) a cap hl hx w hS⟩

/-! ### the law's copies -/
def smpCs (vs : List Value) (l : List Smp) : List Value := (vs.zip l).flatMap fun q => [q.1, .bool q.2.y]
theorem smpCs_snoc {vs : List Value} {l : List Smp} (h : vs.length = l.length) (u : Value) (s : Smp) : smpCs (vs ++ [u]) (l ++ [s]) = smpCs vs l ++ [u, .bool s.y] := by
  unfold smpCs
  rw [List.zip_append h, List.flatMap_append]; rfl
theorem smpCs_length : ∀ (vs : List Value) (l : List Smp), vs.length = l.length → (smpCs vs l).length = l.length * 2
  | [], [], _ => rfl
  | u :: vs, s :: l, h => by
    have := smpCs_length vs l (by simpa using h)
    simp only [smpCs, List.zip_cons_cons, List.flatMap_cons, List.length_append, List.length_cons, List.length_nil] at this ⊢
    rw [this]; omega
theorem smpCs_at : ∀ (vs : List Value) (l : List Smp) (j : Nat) (u : Value) (s : Smp), vs[j]? = some u → l[j]? = some s → (smpCs vs l)[j * 2]? = some u ∧ (smpCs vs l)[j * 2 + 1]? = some (.bool s.y)
  | [], _, j, u, s, h, _ => by simp at h
  | _ :: _, [], j, u, s, _, h => by simp at h
  | a :: vs, b :: l, 0, u, s, h1, h2 => by
    simp at h1 h2; subst h1 h2
    exact ⟨rfl, rfl⟩
  | a :: vs, b :: l, j + 1, u, s, h1, h2 => by
    have ih := smpCs_at vs l j u s (by simpa using h1) (by simpa using h2)
    have e : smpCs (a :: vs) (b :: l) = a :: .bool b.y :: smpCs vs l := rfl
    rw [e, show (j + 1) * 2 = j * 2 + 1 + 1 by omega]
    simpa using ih
/-- The copies of samples so far. -/
structure CpAt (H : Nat) (vs : List Value) (l : List Smp) (v : Value) (W : World) : Prop where
  len : vs.length = l.length
  row : W.ownsRow H 74 2 v l.length (smpCs vs l)
  own : ∀ (i : Nat) (u : Value) (s : Smp), vs[i]? = some u → l[i]? = some s → W.ownsRow H 3 1 u s.x.length (iCs s.x) ∧ ∀ g, u.ownBlock = some g → v.ownBlock ≠ some g
theorem CpAt.smps {H : Nat} {vs : List Value} {l : List Smp} {v : Value} {W : World} (h : CpAt H vs l v W) : SmpsAt W v l := by
  rcases h.row.2 with ⟨e, h0⟩ | ⟨g, cap, cur, rfl, hb, hg, _, _, _, ht⟩
  · exact .inl ⟨e, List.eq_nil_of_length_eq_zero h0⟩
  · refine .inr ⟨g, 0, cap, rfl, lt_of_block hg, fun j s hs => ?_⟩
    have hj := (List.getElem?_eq_some_iff.1 hs).1
    obtain ⟨u, hu⟩ : ∃ u, vs[j]? = some u := ⟨_, List.getElem?_eq_getElem (by rw [h.len]; exact hj)⟩
    obtain ⟨c0, c1⟩ := smpCs_at vs l j u s hu hs
    have q0 := h.row.cells (g := g) rfl (j * 2) u c0
    have q1 := h.row.cells (g := g) rfl (j * 2 + 1) (.bool s.y) c1
    have ea : ∀ k, (⟨g, 0, none⟩ : Addr).add k = ⟨g, 0 + k, none⟩ := fun k => by unfold Addr.add; split <;> simp_all
    rw [ea] at q0 q1
    have hr := (h.own j u s hu hs).1
    have hk := (kat_of_owns hr).rin
    obtain ⟨a, c, rfl⟩ := own_slC hr
    exact ⟨a, c, q0, by rw [Nat.add_assoc]; exact q1, hk⟩
theorem ownsMono {W : World} {B H t m k : Nat} {v : Value} {cs : List Value} (h : W.ownsRow B t m v k cs) (hB : H ≤ B) : W.ownsRow H t m v k cs := by
  refine ⟨h.1, ?_⟩
  rcases h.2 with q | ⟨g, cap, cur, e, h1, h2⟩
  · exact .inl q
  · exact .inr ⟨g, cap, cur, e, by omega, h2⟩
theorem CpAt.next {H : Nat} {vs : List Value} {l : List Smp} {v v' u : Value} {W W' : World} {s : Smp} (h : CpAt H vs l v W) (hH : H ≤ W.heap.size)
    (hr : W'.ownsRow H 74 2 v' (l.length + 1) (smpCs vs l ++ [u, .bool s.y])) (hu : W'.ownsRow W.heap.size 3 1 u s.x.length (iCs s.x))
    (ho : ∀ b, b < W.heap.size → v.ownBlock ≠ some b → W'.heap[b]? = W.heap[b]?)
    (hw : v'.ownBlock = v.ownBlock ∨ ∃ g, v'.ownBlock = some g ∧ W.heap.size ≤ g ∧ u.ownBlock ≠ some g) : CpAt H (vs ++ [u]) (l ++ [s]) v' W' := by
  refine ⟨by simp [h.len], ?_, fun i q t hq ht => ?_⟩
  · rw [smpCs_snoc h.len]; simpa using hr
  · rcases Nat.lt_or_ge i l.length with hi | hi
    · rw [List.getElem?_append_left (by rw [h.len]; exact hi)] at hq
      rw [List.getElem?_append_left hi] at ht
      obtain ⟨h1, h2⟩ := h.own i q t hq ht
      refine ⟨ownsC h1 fun g hg => ho g (h1.lt g hg).2 (h2 g hg), fun g hg => ?_⟩
      rcases hw with e | ⟨g', e, hg', _⟩
      · rw [e]; exact h2 g hg
      · rw [e]; intro e2; cases e2; have := (h1.lt _ hg).2; omega
    · have hin : i = l.length := by have := (List.getElem?_eq_some_iff.1 ht).1; simp at this; omega
      subst hin
      rw [List.getElem?_append_right (by rw [h.len]; exact Nat.le_refl _), h.len] at hq
      rw [List.getElem?_append_right (Nat.le_refl _)] at ht
      simp at hq ht
      subst hq ht
      refine ⟨ownsMono hu hH, fun g hg => ?_⟩
      rcases hw with e | ⟨g', e, _, hne⟩
      · rw [e]; intro e2
        have h1 := (h.row.lt g e2).2
        have h2 := (hu.lt g hg).1
        omega
      · rw [e]; intro e2; cases e2; exact hne hg
end Go.Proofs.YtjdcjcanmeangaaGreat
