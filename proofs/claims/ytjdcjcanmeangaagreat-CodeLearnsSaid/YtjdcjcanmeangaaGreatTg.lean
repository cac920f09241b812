/- Learning: the law's copies of samples: what holds in the drawn region that makes one. Over this seat's program. -/
import Derived.Test.YtjdcjcanmeangaaGreatTf
import Derived.Test.YtjdcjcanmeangaaGreatDq
namespace Go.Proofs.YtjdcjcanmeangaaGreat
set_option linter.unusedVariables false
open Go.RowKit

theorem getD_set_ne3 {L : Array Bool} {i j : Nat} (h : i ≠ j) : (L.setIfInBounds i true).getD j false = L.getD j false := by
  simp [Array.getD_eq_getD_getElem?, Array.getElem?_setIfInBounds_ne h]
theorem getD_set_eq3 {L : Array Bool} {i : Nat} (h : i < L.size) : (L.setIfInBounds i true).getD i false = true := by simp [h]
theorem gdD {L : Array Bool} {i j : Nat} (h : j ≠ i) : (L.setIfInBounds i true).getD j false = L.getD j false := getD_set_ne3 (fun e => h e.symm)
theorem setV_eq {val : Nat → Value} {i : Nat} {v : Value} : setV val i v i = v := by simp [setV]
theorem setV_ne {val : Nat → Value} {i j : Nat} {v : Value} (h : j ≠ i) : setV val i v j = val j := by simp [setV, h]
theorem replT {N j : Nat} (h : j < N) : (Array.replicate N true).getD j false = true := by
  simp [Array.getD_eq_getD_getElem?, h]
theorem own_slC {W : World} {base t m k : Nat} {v : Value} {cs : List Value} (h : W.ownsRow base t m v k cs) : ∃ a c, v = .slice a k c := by
  rcases h.2 with ⟨rfl, rfl⟩ | ⟨g, cap, cur, rfl, _⟩ <;> exact ⟨_, _, rfl⟩
theorem ownsC {A A' : World} {base t m k : Nat} {v : Value} {cs : List Value} (h : A.ownsRow base t m v k cs) (hb : ∀ g, v.ownBlock = some g → A'.heap[g]? = A.heap[g]?) : A'.ownsRow base t m v k cs := by
  refine ⟨h.1, ?_⟩
  rcases h.2 with q | ⟨g, cap, cur, rfl, h1, h2, h3⟩
  · exact .inl q
  · exact .inr ⟨g, cap, cur, rfl, h1, (hb g rfl).trans h2, h3⟩
theorem infoS : (Tryz.prog.info? 74).map (fun i => (i.zero, i.size, i.bytes)) = some (some (.agg #[.slice none 0 0, .bool false]), 2, 32) := by kernel_rfl
theorem append_where {P : Program} (w : World) (base : Nat) (t ty e : TypeId) (i : TypeInfo) (z : Value) (size bytes : Nat) (ht : P.underlying t = some (.slice e)) (hi : P.info? e = some i) (hz : i.zero = some z)
    (hsize : i.size = size) (hby : i.bytes = bytes)
    (v : Value) (n : Nat) (xs : List Value) (hown : w.ownsRow base e size v n xs)
    (a : Addr) (m c : Nat) (hm : 0 < m) (news : List Value) (hl : news.length = m * size) (hnews : ∀ j u, news[j]? = some u → w.cell? (a.add j) = some u) (h1 : ∀ u ∈ news, u.oneCell' = true)
    (h63 : n + m ≤ maxLen) (hbytes : (n + m) * bytes ≤ 140737488355328) (v' : Value) (w' : World)
    (hrun : (Builtin.append_ #[t, t] ty #[v, .slice (some a) m c]).run P w = .ok v' w') : v'.ownBlock = v.ownBlock ∨ v'.ownBlock = some w.heap.size := by
  subst hsize
  subst hby
  have hsmall : n + m ≤ 9223372036854775807 := by simp only [maxLen] at h63; omega
  rcases hown.2 with ⟨rfl, rfl⟩ | ⟨g, cap, cur, rfl, hbg, hg, hnc, hcm, hcs, htake⟩
  · have hr := run_append_nil (P := P) w t ty e i z ht hi hz a m c news hl hnews (by omega) (by omega) (by have hb := hbytes; simp only [Nat.zero_add] at hb; omega)
    rw [hr] at hrun
    cases hrun
    exact Or.inr rfl
  · by_cases hroom : n + m ≤ cap
    · have hfit : n * i.size + news.length ≤ cur.size := by rw [hl, hcs, ← Nat.add_mul]; exact Nat.mul_le_mul_right _ hroom
      have hr := run_append_room (P := P) w t ty e i ht hi g n cap cur hg a m c news hl hnews h1 hroom hfit
      rw [hr] at hrun
      cases hrun
      exact Or.inl rfl
    · have holds : ∀ j u, xs[j]? = some u → w.cell? ((⟨g, 0, none⟩ : Addr).add j) = some u := hown.cells (g := g) rfl
      have hr := run_append_grow (P := P) w t ty e i z ht hi hz ⟨g, 0, none⟩ n cap xs hown.1 holds a m c news hl hnews (by omega) (by omega) (growslice_fits (by omega) hbytes)
      rw [hr] at hrun
      cases hrun
      exact Or.inr rfl

/-- What holds in the region that copies a sample. -/
structure CpR (W0 : World) (H k : Nat) (cs : List Value) (X : List Int) (y : Bool) (v0 : Value) (Kv : Nat → Value) (L : Array Bool) (val : Nat → Value) (W : World) : Prop where
  hH : H ≤ W0.heap.size
  vb : ∀ g, v0.ownBlock = some g → g < W0.heap.size
  known : ∀ j, [1, 7, 13, 14, 15, 16].contains j = false → L.getD j false = true → val j = Kv j
  bel : Below H W0 W
  oth : ∀ b, b < W0.heap.size → v0.ownBlock ≠ some b → W.heap[b]? = W0.heap[b]?
  o0 : L.getD 15 false = false → W.ownsRow H 74 2 v0 k cs
  m1 : L.getD 1 false = true → L.getD 7 false = false → ∃ g, val 1 = .slice (some ⟨g, 0, none⟩) 0 0 ∧ W0.heap.size ≤ g ∧ W.heap[g]? = some (.cells #[] 3)
  m7 : L.getD 7 false = true → W.ownsRow W0.heap.size 3 1 (val 7) X.length (iCs X)
  d13 : L.getD 13 false = true → val 13 = .agg #[val 7, .bool y]
  m14 : L.getD 14 false = true → L.getD 15 false = false → ∃ g, val 14 = .slice (some ⟨g, 0, none⟩) 1 1 ∧ W.heap[g]? = some (.cells #[val 7, .bool y] 74)
  m15 : L.getD 15 false = true → W.ownsRow H 74 2 (val 15) (k + 1) (cs ++ [val 7, .bool y]) ∧ ((val 15).ownBlock = v0.ownBlock ∨ ∃ g, (val 15).ownBlock = some g ∧ W0.heap.size ≤ g ∧ (val 7).ownBlock ≠ some g)
  e16 : L.getD 16 false = true → val 16 = val 15
  p7 : L.getD 7 false = true → L.getD 1 false = true
  p13 : L.getD 13 false = true → L.getD 7 false = true
  p14 : L.getD 14 false = true → L.getD 13 false = true
  p15 : L.getD 15 false = true → L.getD 14 false = true
  p16 : L.getD 16 false = true → L.getD 15 false = true
section
variable {W0 W : World} {H k : Nat} {cs : List Value} {X : List Int} {y : Bool} {v0 : Value} {Kv : Nat → Value} {L : Array Bool} {val : Nat → Value}
theorem CpR.init (N : Nat) (hH : H ≤ W0.heap.size) (h0 : W0.ownsRow H 74 2 v0 k cs) :
    CpR W0 H k cs X y v0 Kv (Array.replicate N false) (fun _ => undef) { W0 with drawn := W0.drawn + 1 } := by
  have z : ∀ j, (Array.replicate N false).getD j false = true → False := fun j h => by
    simp [Array.getD_eq_getD_getElem?, Array.getElem?_replicate] at h
    split at h <;> simp_all
  exact ⟨hH, fun g hg => (h0.lt g hg).2, fun j _ h => (z _ h).elim, ⟨rfl, rfl, rfl, Nat.le_refl _, fun _ _ => rfl⟩, fun _ _ _ => rfl, fun _ => h0, fun h => (z _ h).elim, fun h => (z _ h).elim, fun h => (z _ h).elim, fun h => (z _ h).elim, fun h => (z _ h).elim, fun h => (z _ h).elim, fun h => (z _ h).elim, fun h => (z _ h).elim, fun h => (z _ h).elim, fun h => (z _ h).elim, fun h => (z _ h).elim⟩
theorem not_of {a b : Bool} (h : b = true → a = true) (ha : a = false) : b = false := by cases b <;> simp_all
theorem CpR.skip (h : CpR W0 H k cs X y v0 Kv L val W) (i : Nat) (hi : [1, 7, 13, 14, 15, 16].contains i = false) (u : Value) (hu : u = Kv i) :
    CpR W0 H k cs X y v0 Kv (L.setIfInBounds i true) (setV val i u) W := by
  obtain ⟨n1, n7, n13, n14, n15, n16⟩ : 1 ≠ i ∧ 7 ≠ i ∧ 13 ≠ i ∧ 14 ≠ i ∧ 15 ≠ i ∧ 16 ≠ i := by
    refine ⟨?_, ?_, ?_, ?_, ?_, ?_⟩ <;> (rintro rfl; simp at hi)
  refine ⟨h.hH, h.vb, fun j hj hl => ?_, h.bel, h.oth, ?_, ?_, ?_, ?_, ?_, ?_, ?_, ?_, ?_, ?_, ?_, ?_⟩
  · by_cases e : j = i
    · subst e; rw [setV_eq]; exact hu
    · rw [setV_ne e]; exact h.known j hj (by rwa [gdD e] at hl)
  · rw [gdD n15]; exact h.o0
  · rw [gdD n1, gdD n7, setV_ne n1]; exact h.m1
  · rw [gdD n7, setV_ne n7]; exact h.m7
  · rw [gdD n13, setV_ne n13, setV_ne n7]; exact h.d13
  · rw [gdD n14, gdD n15, setV_ne n14, setV_ne n7]; exact h.m14
  · rw [gdD n15, setV_ne n15, setV_ne n7]; exact h.m15
  · rw [gdD n16, setV_ne n16, setV_ne n15]; exact h.e16
  · rw [gdD n7, gdD n1]; exact h.p7
  · rw [gdD n13, gdD n7]; exact h.p13
  · rw [gdD n14, gdD n13]; exact h.p14
  · rw [gdD n15, gdD n14]; exact h.p15
  · rw [gdD n16, gdD n15]; exact h.p16
theorem CpR.one (h : CpR W0 H k cs X y v0 Kv L val W) (hs : 16 < L.size) (f1 : L.getD 1 false = false) :
    CpR W0 H k cs X y v0 Kv (L.setIfInBounds 1 true) (setV val 1 (.slice (some ⟨W.heap.size, 0, none⟩) 0 0)) (W.alloc (.cells #[] 3)) := by
  have f7 := not_of h.p7 f1
  have f13 := not_of h.p13 f7
  have f14 := not_of h.p14 f13
  have f15 := not_of h.p15 f14
  have f16 := not_of h.p16 f15
  have hz := h.bel.size
  have old : ∀ b, b < W.heap.size → (W.alloc (.cells #[] 3)).heap[b]? = W.heap[b]? := fun b hb => Below.heap_alloc _ _ _ hb
  refine ⟨h.hH, h.vb, fun j hj hl => ?_, h.bel.alloc (Nat.le_trans h.hH hz) _, fun b hb hn => (old b (by omega)).trans (h.oth b hb hn), fun _ => ?_, fun _ _ => ?_, ?_, ?_, ?_, ?_, ?_, ?_, ?_, ?_, ?_, ?_⟩
  · have e : j ≠ 1 := by rintro rfl; simp at hj
    rw [setV_ne e]; exact h.known j hj (by rwa [gdD e] at hl)
  · exact ownsC (h.o0 f15) fun g hg => old g ((h.o0 f15).lt g hg).2
  · rw [setV_eq]; exact ⟨_, rfl, hz, alloc_new_at _ _ _ rfl⟩
  · rw [gdD (by decide), f7]; intro hh; cases hh
  · rw [gdD (by decide), f13]; intro hh; cases hh
  · rw [gdD (by decide), f14]; intro hh; cases hh
  · rw [gdD (by decide), f15]; intro hh; cases hh
  · rw [gdD (by decide), f16]; intro hh; cases hh
  · rw [gdD (by decide), f7]; intro hh; cases hh
  · rw [gdD (by decide), f13]; intro hh; cases hh
  · rw [gdD (by decide), f14]; intro hh; cases hh
  · rw [gdD (by decide), f15]; intro hh; cases hh
  · rw [gdD (by decide), f16]; intro hh; cases hh
theorem CpR.seven (h : CpR W0 H k cs X y v0 Kv L val W) (hs : 16 < L.size) (f7 : L.getD 7 false = false) (l1 : L.getD 1 false = true) (sa : Option Addr) (n c : Nat) (hn : n = X.length) (hnl : n ≤ 100000) (hk : RIn W (.slice sa n c) X) (ty : TypeId) :
    ∃ v' W', (Builtin.append_ #[22, 22] ty #[val 1, .slice sa n c]).run Tryz.prog W = .ok v' W' ∧ CpR W0 H k cs X y v0 Kv (L.setIfInBounds 7 true) (setV val 7 v') W' := by
  have f13 := not_of h.p13 f7
  have f14 := not_of h.p14 f13
  have f15 := not_of h.p15 f14
  have f16 := not_of h.p16 f15
  have hz := h.bel.size
  have hH := h.hH
  obtain ⟨g, eg, hg1, hg2⟩ := h.m1 l1 f7
  have hown : W.ownsRow W0.heap.size 3 1 (.slice (some ⟨g, 0, none⟩) 0 0) 0 [] := ⟨rfl, .inr ⟨g, 0, #[], rfl, hg1, hg2, Nat.le_refl _, by unfold maxLen; omega, rfl, rfl⟩⟩
  obtain ⟨i0, hi, hz0, hzz1, hzz2⟩ := info_parts info3
  have key : ∃ v' W', (Builtin.append_ #[22, 22] ty #[.slice (some ⟨g, 0, none⟩) 0 0, .slice sa n c]).run Tryz.prog W = .ok v' W' ∧ W'.ownsRow W0.heap.size 3 1 v' X.length (iCs X) ∧ W.grownBy W' (some g) := by
    rcases hk with ⟨e, rfl⟩ | ⟨ad, cap, e, hc⟩
    · cases e
      exact ⟨_, _, run_append_owned_none (P := Tryz.prog) W W0.heap.size 22 ty 3 i0 1 Tryz.underlying22 hi _ 0 [] hown, hown, ⟨rfl, rfl, rfl, Nat.le_refl _, fun _ _ _ => rfl⟩⟩
    · cases e
      obtain ⟨v', W', r1, r2, r3, _⟩ := run_append_own (P := Tryz.prog) W W0.heap.size 22 ty 3 i0 (.int .i64 0) 1 8 Tryz.underlying22 hi hz0 hzz1 hzz2 rfl (by decide) (.slice (some ⟨g, 0, none⟩) 0 0) 0 [] hown ad X.length c (iCs X) (by simp [iCs]) (fun j u hu => by
        simp only [iCs, List.getElem?_map, Option.map_eq_some_iff] at hu
        obtain ⟨z, hz1, rfl⟩ := hu
        exact hc j z hz1) (fun u hu => by simp only [iCs, List.mem_map] at hu; obtain ⟨z, _, rfl⟩ := hu; simp [Value.oneCell']) (by unfold maxLen; omega) (by omega) hz
      refine ⟨v', W', r1, ?_, r3⟩
      simpa using r2
  obtain ⟨v', W', hr, ho', hgr⟩ := key
  rw [eg]
  have hb : Below W0.heap.size W W' := ⟨hgr.os, hgr.tape, hgr.output, hgr.size, fun b hb => hgr.block b (by omega) fun e => by cases e; omega⟩
  have hbb : Below H W W' := hb.mono hH
  refine ⟨v', W', hr, h.hH, h.vb, fun j hj hl => ?_, h.bel.trans hbb, fun b hb1 hn1 => (hb.block b hb1).trans (h.oth b hb1 hn1), fun _ => ?_, ?_, fun _ => ?_, ?_, ?_, ?_, ?_, fun _ => ?_, ?_, ?_, ?_, ?_⟩
  · have e : j ≠ 7 := by rintro rfl; simp at hj
    rw [setV_ne e]; exact h.known j hj (by rwa [gdD e] at hl)
  · exact ownsC (h.o0 f15) fun q hq => hb.block q (h.vb q hq)
  · intro _; rw [getD_set_eq3 (by omega)]; intro hh; cases hh
  · rw [setV_eq]; exact ho'
  · rw [gdD (by decide), f13]; intro hh; cases hh
  · rw [gdD (by decide), f14]; intro hh; cases hh
  · rw [gdD (by decide), f15]; intro hh; cases hh
  · rw [gdD (by decide), f16]; intro hh; cases hh
  · rw [gdD (by decide)]; exact l1
  · rw [gdD (by decide), f13]; intro hh; cases hh
  · rw [gdD (by decide), f14]; intro hh; cases hh
  · rw [gdD (by decide), f15]; intro hh; cases hh
  · rw [gdD (by decide), f16]; intro hh; cases hh
theorem CpR.build (h : CpR W0 H k cs X y v0 Kv L val W) (hs : 16 < L.size) (f13 : L.getD 13 false = false) (l7 : L.getD 7 false = true) :
    CpR W0 H k cs X y v0 Kv (L.setIfInBounds 13 true) (setV val 13 (.agg #[val 7, .bool y])) W := by
  have f14 := not_of h.p14 f13
  have f15 := not_of h.p15 f14
  have f16 := not_of h.p16 f15
  refine ⟨h.hH, h.vb, fun j hj hl => ?_, h.bel, h.oth, ?_, ?_, ?_, fun _ => ?_, ?_, ?_, ?_, ?_, fun _ => ?_, ?_, ?_, ?_⟩
  · have e : j ≠ 13 := by rintro rfl; simp at hj
    rw [setV_ne e]; exact h.known j hj (by rwa [gdD e] at hl)
  · rw [gdD (by decide)]; exact h.o0
  · rw [gdD (by decide), gdD (by decide), setV_ne (by decide)]; exact h.m1
  · rw [gdD (by decide), setV_ne (by decide)]; exact h.m7
  · rw [setV_eq, setV_ne (by decide)]
  · rw [gdD (by decide), f14]; intro hh; cases hh
  · rw [gdD (by decide), f15]; intro hh; cases hh
  · rw [gdD (by decide), f16]; intro hh; cases hh
  · rw [gdD (by decide), gdD (by decide)]; exact h.p7
  · rw [gdD (by decide)]; exact l7
  · rw [gdD (by decide), f14]; intro hh; cases hh
  · rw [gdD (by decide), f15]; intro hh; cases hh
  · rw [gdD (by decide), f16]; intro hh; cases hh
theorem CpR.box (h : CpR W0 H k cs X y v0 Kv L val W) (hs : 16 < L.size) (f14 : L.getD 14 false = false) (l13 : L.getD 13 false = true) :
    CpR W0 H k cs X y v0 Kv (L.setIfInBounds 14 true) (setV val 14 (.slice (some ⟨W.heap.size, 0, none⟩) 1 1)) (W.alloc (.cells #[val 7, .bool y] 74)) := by
  have f15 := not_of h.p15 f14
  have f16 := not_of h.p16 f15
  have l7 := h.p13 l13
  have hz := h.bel.size
  have old : ∀ b, b < W.heap.size → (W.alloc (.cells #[val 7, .bool y] 74)).heap[b]? = W.heap[b]? := fun b hb => Below.heap_alloc _ _ _ hb
  refine ⟨h.hH, h.vb, fun j hj hl => ?_, h.bel.alloc (Nat.le_trans h.hH hz) _, fun b hb hn => (old b (by omega)).trans (h.oth b hb hn), fun _ => ?_, ?_, ?_, ?_, fun _ _ => ?_, ?_, ?_, ?_, ?_, fun _ => ?_, ?_, ?_⟩
  · have e : j ≠ 14 := by rintro rfl; simp at hj
    rw [setV_ne e]; exact h.known j hj (by rwa [gdD e] at hl)
  · exact ownsC (h.o0 f15) fun g hg => old g ((h.o0 f15).lt g hg).2
  · rw [gdD (by decide), gdD (by decide), l7]; intro _ hh; cases hh
  · rw [gdD (by decide), setV_ne (by decide)]; intro _; exact ownsC (h.m7 l7) fun g hg => old g ((h.m7 l7).lt g hg).2
  · rw [gdD (by decide), setV_ne (by decide), setV_ne (by decide)]; exact h.d13
  · rw [setV_eq, setV_ne (by decide)]; exact ⟨_, rfl, alloc_new_at _ _ _ rfl⟩
  · rw [gdD (by decide), f15]; intro hh; cases hh
  · rw [gdD (by decide), f16]; intro hh; cases hh
  · rw [gdD (by decide), gdD (by decide)]; exact h.p7
  · rw [gdD (by decide), gdD (by decide)]; exact h.p13
  · rw [gdD (by decide)]; exact l13
  · rw [gdD (by decide), f15]; intro hh; cases hh
  · rw [gdD (by decide), f16]; intro hh; cases hh
theorem CpR.app (h : CpR W0 H k cs X y v0 Kv L val W) (hs : 16 < L.size) (f15 : L.getD 15 false = false) (l14 : L.getD 14 false = true) (hkn : k ≤ 1000000) (ty : TypeId) :
    ∃ v' W', (Builtin.append_ #[71, 71] ty #[v0, val 14]).run Tryz.prog W = .ok v' W' ∧ CpR W0 H k cs X y v0 Kv (L.setIfInBounds 15 true) (setV val 15 v') W' := by
  have f16 := not_of h.p16 f15
  have l13 := h.p14 l14
  have l7 := h.p13 l13
  have hz := h.bel.size
  have hH := h.hH
  obtain ⟨g14, e14, c14⟩ := h.m14 l14 f15
  have ho := h.o0 f15
  have h7 := h.m7 l7
  obtain ⟨a7, c7, e7⟩ := own_slC h7
  have hc : ∀ (j : Nat) u, [val 7, Value.bool y][j]? = some u → W.cell? ((⟨g14, 0, none⟩ : Addr).add j) = some u := fun j u hu => by
    rw [show (⟨g14, 0, none⟩ : Addr).add j = ⟨g14, j, none⟩ by unfold Addr.add; split <;> simp_all]
    have hj : j < 2 := by have := (List.getElem?_eq_some_iff.1 hu).1; simpa using this
    obtain ⟨q1, q2⟩ := cells2b c14
    rcases (by omega : j = 0 ∨ j = 1) with rfl | rfl
    · simp at hu; subst hu; exact q1
    · simp at hu; subst hu; exact q2
  have h1c : ∀ u ∈ [val 7, Value.bool y], u.oneCell' = true := fun u hu => by
    simp only [List.mem_cons, List.not_mem_nil, or_false] at hu
    rcases hu with rfl | rfl
    · rw [e7]; simp [Value.oneCell']
    · simp [Value.oneCell']
  rw [e14]
  obtain ⟨i0, hi, hz0, hzz1, hzz2⟩ := info_parts infoS
  obtain ⟨v', W', r1, r2, hg, _⟩ := run_append_own (P := Tryz.prog) W H 71 ty 74 i0 (.agg #[.slice none 0 0, .bool false]) 2 32 Tryz.underlying71 hi hz0 hzz1 hzz2 rfl (by decide) v0 k cs ho ⟨g14, 0, none⟩ 1 1 [val 7, .bool y] rfl hc h1c (by unfold maxLen; omega) (by omega) (by omega)
  have hw := append_where (P := Tryz.prog) W H 71 ty 74 i0 (.agg #[.slice none 0 0, .bool false]) 2 32 Tryz.underlying71 hi hz0 hzz1 hzz2 v0 k cs ho ⟨g14, 0, none⟩ 1 1 (by decide) [val 7, .bool y] rfl hc h1c (by unfold maxLen; omega) (by omega) v' W' r1
  have hb : Below H W W' := ⟨hg.os, hg.tape, hg.output, hg.size, fun b hb => hg.block b (by omega) fun e => by have := (ho.lt b e.symm).1; omega⟩
  have h7' : W'.ownsRow W0.heap.size 3 1 (val 7) X.length (iCs X) := ownsC h7 fun g hgv => hg.block g (h7.lt g hgv).2 (fun e => by have h1 := h.vb g e.symm; have h2 := (h7.lt g hgv).1; omega)
  refine ⟨v', W', r1, h.hH, h.vb, fun j hj hl => ?_, h.bel.trans hb, fun b hb1 hn1 => (hg.block b (by omega) (fun e => hn1 e.symm)).trans (h.oth b hb1 hn1), ?_, ?_, ?_, ?_, ?_, fun _ => ?_, ?_, ?_, ?_, ?_, fun _ => ?_, ?_⟩
  · have e : j ≠ 15 := by rintro rfl; simp at hj
    rw [setV_ne e]; exact h.known j hj (by rwa [gdD e] at hl)
  · rw [getD_set_eq3 (by omega)]; intro hh; cases hh
  · rw [gdD (by decide), gdD (by decide), l7]; intro _ hh; cases hh
  · rw [setV_ne (by decide)]; intro _; exact h7'
  · rw [gdD (by decide), setV_ne (by decide), setV_ne (by decide)]; exact h.d13
  · intro _; rw [getD_set_eq3 (by omega)]; intro hh; cases hh
  · rw [setV_eq, setV_ne (by decide)]
    refine ⟨r2, ?_⟩
    rcases hw with hw | hw
    · exact .inl hw
    · exact .inr ⟨_, hw, hz, fun e => by have := (h7.lt _ e).2; omega⟩
  · rw [gdD (by decide), f16]; intro hh; cases hh
  · rw [gdD (by decide), gdD (by decide)]; exact h.p7
  · rw [gdD (by decide), gdD (by decide)]; exact h.p13
  · rw [gdD (by decide), gdD (by decide)]; exact h.p14
  · rw [gdD (by decide)]; exact l14
  · rw [gdD (by decide), f16]; intro hh; cases hh
theorem CpR.asg (h : CpR W0 H k cs X y v0 Kv L val W) (hs : 16 < L.size) (l15 : L.getD 15 false = true) :
    CpR W0 H k cs X y v0 Kv (L.setIfInBounds 16 true) (setV val 16 (val 15)) W := by
  refine ⟨h.hH, h.vb, fun j hj hl => ?_, h.bel, h.oth, ?_, ?_, ?_, ?_, ?_, ?_, fun _ => ?_, ?_, ?_, ?_, ?_, fun _ => ?_⟩
  · have e : j ≠ 16 := by rintro rfl; simp at hj
    rw [setV_ne e]; exact h.known j hj (by rwa [gdD e] at hl)
  · rw [gdD (by decide)]; exact h.o0
  · rw [gdD (by decide), gdD (by decide), setV_ne (by decide)]; exact h.m1
  · rw [gdD (by decide), setV_ne (by decide)]; exact h.m7
  · rw [gdD (by decide), setV_ne (by decide), setV_ne (by decide)]; exact h.d13
  · rw [gdD (by decide), gdD (by decide), setV_ne (by decide), setV_ne (by decide)]; exact h.m14
  · rw [gdD (by decide), setV_ne (by decide), setV_ne (by decide)]; exact h.m15
  · rw [setV_eq, setV_ne (by decide)]
  · rw [gdD (by decide), gdD (by decide)]; exact h.p7
  · rw [gdD (by decide), gdD (by decide)]; exact h.p13
  · rw [gdD (by decide), gdD (by decide)]; exact h.p14
  · rw [gdD (by decide), gdD (by decide)]; exact h.p15
  · rw [gdD (by decide)]; exact l15
end
end Go.Proofs.YtjdcjcanmeangaaGreat
