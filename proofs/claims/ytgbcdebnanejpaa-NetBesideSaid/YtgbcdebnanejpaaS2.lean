/- The law's sorted: it returns the events in order, in a slice of its own. Over this seat's program. -/
import Derived.Test.YtgbcdebnanejpaaS1
import Derived.Test.YtgbcdebnanejpaaDq
import Derived.BigQuiet
import Derived.Deep.CutBlock
import Derived.Laws.AppendOwnNone
namespace Go.Proofs.Ytgbcdebnanejpaa
set_option linter.unusedVariables false
open Go.RowKit Go.Shelf

theorem insE_len (out : List Evt) (x : Evt) : (insE out x).length = out.length + 1 := by rw [(insE_perm out x).length_eq]; rfl
theorem sortE_len (l : List Evt) : (sortE l).length = l.length := (sortE_perm l).length_eq
theorem sortE_snoc {l : List Evt} {i : Nat} {x : Evt} (h : l[i]? = some x) : sortE (l.take (i + 1)) = insE (sortE (l.take i)) x := by
  unfold sortE
  rw [List.take_add_one, h, List.foldl_append]; rfl
theorem evLe_not {e x : Evt} : (¬ evLe e x = true) ↔ (x.tk < e.tk ∨ (e.tk = x.tk ∧ x.id < e.id)) := by simp [evLe]; omega
theorem evCs_append (l m : List Evt) : evCs (l ++ m) = evCs l ++ evCs m := by simp [evCs]
theorem evCs_one {l : List Evt} {u : Value} (h : u ∈ evCs l) : u.oneCell' = true := by
  simp only [evCs, List.mem_flatMap] at h
  obtain ⟨s, _, h⟩ := h
  simp [evV] at h
  rcases h with rfl | rfl <;> rfl
theorem evCs_drop (l : List Evt) (k : Nat) : evCs (l.drop k) = (evCs l).drop (k * 2) := by
  induction k generalizing l with
  | zero => simp
  | succ k ih =>
    cases l with
    | nil => simp [evCs]
    | cons x l => rw [List.drop_succ_cons, ih, show (k + 1) * 2 = k * 2 + 1 + 1 by omega]; simp [evCs, evV]
theorem evCs_take (l : List Evt) (k : Nat) : evCs (l.take k) = (evCs l).take (k * 2) := by
  induction k generalizing l with
  | zero => simp [evCs]
  | succ k ih =>
    cases l with
    | nil => simp [evCs]
    | cons x l => rw [List.take_succ_cons, show (k + 1) * 2 = k * 2 + 1 + 1 by omega]; simp [evCs, evV]; exact ih l
theorem own_base {W : World} {B B' : Nat} {e : TypeId} {sz n : Nat} {v : Value} {xs : List Value} (h : W.ownsRow B e sz v n xs) (hb : B' ≤ B) : W.ownsRow B' e sz v n xs := by
  refine ⟨h.1, ?_⟩
  rcases h.2 with hn | ⟨g, cap, cur, hv, hbg, rest⟩
  · exact .inl hn
  · exact .inr ⟨g, cap, cur, hv, by omega, rest⟩
theorem replT {N j : Nat} (h : j < N) : (Array.replicate N true).getD j false = true := by
  simp [Array.getD_eq_getD_getElem?, h]
/-- append of events to a row of one's own. -/
theorem run_appE {W : World} {base : Nat} (v : Value) (k : Nat) (l n : List Evt) (hown : W.ownsRow base 85 2 v k (evCs l)) (hk : k ≤ 10000000) (hz : base ≤ W.heap.size) (ad : Addr) (m c : Nat) (hm : m = n.length) (hm2 : m ≤ 10000000)
    (hn : ∀ (j : Nat) u, (evCs n)[j]? = some u → W.cell? (ad.add j) = some u) (ty : TypeId) :
    ∃ v' W', (Builtin.append_ #[30, 30] ty #[v, .slice (some ad) m c]).run Try.prog W = .ok v' W' ∧ W'.ownsRow base 85 2 v' (k + m) (evCs (l ++ n)) ∧ W.grownBy W' v.ownBlock ∧ (0 < m → v'.ownBlock = v.ownBlock ∨ v'.ownBlock = some W.heap.size) := by
  obtain ⟨i0, hi, hz0, hzz1, hzz2⟩ := info_parts infoE
  obtain ⟨v', W', h1, h2, h3, _⟩ := run_append_own (P := Try.prog) W base 30 ty 85 i0 (.agg #[.int .i64 0, .int .i64 0]) 2 16 Try.underlying30 hi hz0 hzz1 hzz2 rfl (by decide) v k (evCs l) hown ad m c (evCs n) (by rw [evCs_length, hm]) hn (fun u hu => evCs_one hu) (by unfold maxLen; omega) (by omega) hz
  exact ⟨v', W', h1, by rw [evCs_append]; exact h2, h3, fun h0 => run_append_where (P := Try.prog) W base 30 ty 85 i0 (.agg #[.int .i64 0, .int .i64 0]) 2 16 Try.underlying30 hi hz0 hzz1 hzz2 v k (evCs l) hown ad m c h0 (evCs n) (by rw [evCs_length, hm]) hn (fun u hu => evCs_one hu) (by unfold maxLen; omega) (by omega) v' W' h1⟩
/-- The first k events of a row. -/
theorem ownsE_take {W : World} {base g cap n k : Nat} {l : List Evt} (h : W.ownsRow base 85 2 (.slice (some ⟨g, 0, none⟩) n cap) n (evCs l)) (hk : k ≤ n) : W.ownsRow base 85 2 (.slice (some ⟨g, 0, none⟩) k cap) k (evCs (l.take k)) := by
  have hl := h.1
  rcases h.2 with ⟨h1, _⟩ | ⟨g', cap', cur, h1, h2, h3, h4, h5, h6, h7⟩
  · simp at h1
  · simp at h1
    obtain ⟨rfl, rfl⟩ := h1
    refine ⟨?_, .inr ⟨g, cap, cur, rfl, h2, h3, by omega, h5, h6, ?_⟩⟩
    · rw [evCs_take, List.length_take, hl]; omega
    · rw [evCs_take, ← h7, List.take_take, Nat.min_eq_left (by omega)]

/-- What holds in the region that puts an event in its place. -/
structure St9 (W0 : World) (H : Nat) (out : List Evt) (x : Evt) (k m : Nat) (v2 rv : Value) (Kv : Nat → Value) (L : Array Bool) (val : Nat → Value) (W : World) : Prop where
  hH : H ≤ W0.heap.size
  known : ∀ j, j < 10 → j ≠ 7 → j ≠ 8 → L.getD j false = true → val j = Kv j
  bel : Below H W0 W
  o2 : L.getD 8 false = false → W.ownsRow H 85 2 v2 k (evCs (out.take k))
  rst : L.getD 10 false = false → W.ownsRow H 85 2 rv m (evCs (out.drop k))
  ap : ∀ g, rv.ownBlock = some g → v2.ownBlock ≠ some g
  o7 : L.getD 7 false = true → L.getD 8 false = false → ∃ g, val 7 = .slice (some ⟨g, 0, none⟩) 1 1 ∧ W.heap[g]? = some (.cells #[.int .i64 x.tk, .int .i64 x.id] 85)
  o8 : L.getD 8 false = true → L.getD 10 false = false → W.ownsRow H 85 2 (val 8) (k + 1) (evCs (out.take k ++ [x]))
  a8 : L.getD 8 false = true → L.getD 10 false = false → ∀ g, rv.ownBlock = some g → (val 8).ownBlock ≠ some g
  o10 : L.getD 10 false = true → W.ownsRow H 85 2 (val 10) (k + 1 + m) (evCs ((out.take k ++ [x]) ++ out.drop k))
  e11 : L.getD 11 false = true → val 11 = val 10
  d8 : L.getD 8 false = true → L.getD 7 false = true
  d10 : L.getD 10 false = true → L.getD 8 false = true
  d11 : L.getD 11 false = true → L.getD 10 false = true
section
variable {W0 W : World} {H k m : Nat} {out : List Evt} {x : Evt} {v2 rv : Value} {Kv : Nat → Value} {L : Array Bool} {val : Nat → Value}
theorem St9.init (hH : H ≤ W0.heap.size) (h2 : W0.ownsRow H 85 2 v2 k (evCs (out.take k))) (hr : W0.ownsRow H 85 2 rv m (evCs (out.drop k))) (ap : ∀ g, rv.ownBlock = some g → v2.ownBlock ≠ some g) :
    St9 W0 H out x k m v2 rv Kv (Array.replicate 12 false) (fun _ => undef) { W0 with drawn := W0.drawn + 1 } := by
  have z : ∀ j, (Array.replicate 12 false).getD j false = true → False := fun j h => by
    simp [Array.getD_eq_getD_getElem?, Array.getElem?_replicate] at h
    split at h <;> simp_all
  exact ⟨hH, fun j _ _ _ h => (z _ h).elim, ⟨rfl, rfl, rfl, Nat.le_refl _, fun _ _ => rfl⟩, fun _ => h2, fun _ => hr, ap, fun h => (z _ h).elim, fun h => (z _ h).elim, fun h => (z _ h).elim, fun h => (z _ h).elim, fun h => (z _ h).elim, fun h => (z _ h).elim, fun h => (z _ h).elim, fun h => (z _ h).elim⟩
theorem St9.skip (h : St9 W0 H out x k m v2 rv Kv L val W) (i : Nat) (hi : i < 10) (h7 : i ≠ 7) (h8 : i ≠ 8) (hs : 11 < L.size) (u : Value) (hu : u = Kv i) :
    St9 W0 H out x k m v2 rv Kv (L.setIfInBounds i true) (setV val i u) W := by
  refine ⟨h.hH, fun j hj a b hl => ?_, h.bel, ?_, ?_, h.ap, ?_, ?_, ?_, ?_, ?_, ?_, ?_, ?_⟩
  · by_cases e : j = i
    · subst e; rw [setV_eq]; exact hu
    · rw [setV_ne e]; exact h.known j hj a b (by rwa [gdD e] at hl)
  · rw [gdD (by omega)]; exact h.o2
  · rw [gdD (by omega)]; exact h.rst
  · rw [gdD (by omega), gdD (by omega), setV_ne (by omega)]; exact h.o7
  · rw [gdD (by omega), gdD (by omega), setV_ne (by omega)]; exact h.o8
  · rw [gdD (by omega), gdD (by omega), setV_ne (by omega)]; exact h.a8
  · rw [gdD (by omega), setV_ne (by omega)]; exact h.o10
  · rw [gdD (by omega), setV_ne (by omega), setV_ne (by omega)]; exact h.e11
  · rw [gdD (by omega), gdD (by omega)]; exact h.d8
  · rw [gdD (by omega), gdD (by omega)]; exact h.d10
  · rw [gdD (by omega), gdD (by omega)]; exact h.d11
theorem St9.no8 (h : St9 W0 H out x k m v2 rv Kv L val W) (h7 : L.getD 7 false = false) : L.getD 8 false = false := by
  cases e : L.getD 8 false with
  | false => rfl
  | true => rw [h.d8 e] at h7; cases h7
theorem St9.no10 (h : St9 W0 H out x k m v2 rv Kv L val W) (h8 : L.getD 8 false = false) : L.getD 10 false = false := by
  cases e : L.getD 10 false with
  | false => rfl
  | true => rw [h.d10 e] at h8; cases h8
theorem St9.no11 (h : St9 W0 H out x k m v2 rv Kv L val W) (h8 : L.getD 10 false = false) : L.getD 11 false = false := by
  cases e : L.getD 11 false with
  | false => rfl
  | true => rw [h.d11 e] at h8; cases h8
theorem St9.mk7 (h : St9 W0 H out x k m v2 rv Kv L val W) (hs : 11 < L.size) (hf : L.getD 7 false = false) :
    St9 W0 H out x k m v2 rv Kv (L.setIfInBounds 7 true) (setV val 7 (.slice (some ⟨W.heap.size, 0, none⟩) 1 1)) (W.alloc (.cells #[.int .i64 x.tk, .int .i64 x.id] 85)) := by
  have f8 := h.no8 hf
  have f10 := h.no10 f8
  have f11 := h.no11 f10
  have hz := h.bel.size
  have hH := h.hH
  have old : ∀ b, b < W.heap.size → (W.alloc (.cells #[.int .i64 x.tk, .int .i64 x.id] 85)).heap[b]? = W.heap[b]? := fun b hb => Below.heap_alloc _ _ _ hb
  refine ⟨h.hH, fun j hj a b hl => ?_, h.bel.alloc (by omega) _, fun g => ?_, fun g => ?_, h.ap, fun _ _ => ?_, ?_, ?_, ?_, ?_, ?_, ?_, ?_⟩
  · rw [setV_ne a]; exact h.known j hj a b (by rwa [gdD a] at hl)
  · exact ownsRow_of_block (h.o2 f8) fun g hg => old g ((h.o2 f8).lt g hg).2
  · exact ownsRow_of_block (h.rst f10) fun g hg => old g ((h.rst f10).lt g hg).2
  · rw [setV_eq]; exact ⟨_, rfl, alloc_new_at _ _ _ rfl⟩
  · rw [gdD (by omega), f8]; intro hh; cases hh
  · rw [gdD (by omega), f8]; intro hh; cases hh
  · rw [gdD (by omega), f10]; intro hh; cases hh
  · rw [gdD (by omega), f11]; intro hh; cases hh
  · intro _; exact getD_set_eq3 (by omega)
  · rw [gdD (by omega), f10]; intro hh; cases hh
  · rw [gdD (by omega), f11]; intro hh; cases hh
theorem St9.app8 (h : St9 W0 H out x k m v2 rv Kv L val W) (hs : 11 < L.size) (hf : L.getD 8 false = false) (l7 : L.getD 7 false = true) (hk : k ≤ 1000000) (ty : TypeId) :
    ∃ v' W', (Builtin.append_ #[30, 30] ty #[v2, val 7]).run Try.prog W = .ok v' W' ∧ St9 W0 H out x k m v2 rv Kv (L.setIfInBounds 8 true) (setV val 8 v') W' := by
  have f10 := h.no10 hf
  have f11 := h.no11 f10
  have hz := h.bel.size
  have hH := h.hH
  obtain ⟨g7, e7, c7⟩ := h.o7 l7 hf
  have ho := h.o2 hf
  have hc : ∀ (j : Nat) u, (evCs [x])[j]? = some u → W.cell? ((⟨g7, 0, none⟩ : Addr).add j) = some u := fun j u hu => by
    have hj : j < 2 := by have := (List.getElem?_eq_some_iff.1 hu).1; simpa [evCs_length] using this
    obtain ⟨q1, q2⟩ := cells2 c7
    rcases (by omega : j = 0 ∨ j = 1) with rfl | rfl
    · simp [evCs, evV] at hu; subst hu; exact q1
    · simp [evCs, evV] at hu; subst hu; exact q2.1
  rw [e7]
  obtain ⟨v', W', hr, ho', hg, hw⟩ := run_appE v2 k (out.take k) [x] ho (by omega) (by omega) ⟨g7, 0, none⟩ 1 1 rfl (by omega) hc ty
  have hw := hw (by omega)
  have hb : Below H W W' := ⟨hg.os, hg.tape, hg.output, hg.size, fun b hb => hg.block b (by omega) fun e => by have := (ho.lt b e.symm).1; omega⟩
  have hrs := h.rst f10
  refine ⟨v', W', hr, h.hH, fun j hj a b hl => ?_, h.bel.trans hb, ?_, fun _ => ?_, h.ap, ?_, fun _ _ => ?_, fun _ _ g hgr e => ?_, ?_, ?_, fun _ => ?_, fun _ => ?_, ?_⟩
  · rw [setV_ne b]; exact h.known j hj a b (by rwa [gdD b] at hl)
  · rw [getD_set_eq3 (by omega)]; intro hh; cases hh
  · exact ownsRow_of_block hrs fun g hgr => hg.block g (hrs.lt g hgr).2 fun e => h.ap g hgr e.symm
  · intro _; rw [getD_set_eq3 (by omega)]; intro hh; cases hh
  · rw [setV_eq]; exact ho'
  · rw [setV_eq] at e
    rcases hw with hw | hw
    · exact h.ap g hgr (hw.symm.trans e)
    · have := (hrs.lt g hgr).2
      rw [e] at hw
      have := Option.some.inj hw
      omega
  · rw [gdD (by omega), f10]; intro hh; cases hh
  · rw [gdD (by omega), f11]; intro hh; cases hh
  · rw [gdD (by omega)]; exact l7
  · exact getD_set_eq3 (by omega)
  · rw [gdD (by omega), f11]; intro hh; cases hh
theorem St9.app10 (h : St9 W0 H out x k m v2 rv Kv L val W) (hs : 11 < L.size) (hf : L.getD 10 false = false) (l8 : L.getD 8 false = true) (hk : k ≤ 1000000) (hm : m = (out.drop k).length) (hm2 : m ≤ 1000000) {gr c : Nat} (hrv : rv = .slice (some ⟨gr, 0, none⟩) m c) (ty : TypeId) :
    ∃ v' W', (Builtin.append_ #[30, 30] ty #[val 8, rv]).run Try.prog W = .ok v' W' ∧ St9 W0 H out x k m v2 rv Kv (L.setIfInBounds 10 true) (setV val 10 v') W' := by
  have f11 := h.no11 hf
  have hz := h.bel.size
  have hH := h.hH
  have ho := h.o8 l8 hf
  have hrs := h.rst hf
  obtain ⟨v', W', hr, ho', hg, _⟩ := run_appE (val 8) (k + 1) (out.take k ++ [x]) (out.drop k) ho (by omega) (by omega) ⟨gr, 0, none⟩ m c hm (by omega) (hrs.cells (by rw [hrv]; rfl)) ty
  have hb : Below H W W' := ⟨hg.os, hg.tape, hg.output, hg.size, fun b hb => hg.block b (by omega) fun e => by have := (ho.lt b e.symm).1; omega⟩
  subst hrv
  refine ⟨v', W', hr, h.hH, fun j hj a b hl => ?_, h.bel.trans hb, ?_, ?_, h.ap, ?_, ?_, ?_, fun _ => ?_, ?_, ?_, fun _ => ?_, ?_⟩
  · rw [setV_ne (by omega)]; exact h.known j hj a b (by rwa [gdD (by omega)] at hl)
  · rw [gdD (by omega), l8]; intro hh; cases hh
  · rw [getD_set_eq3 (by omega)]; intro hh; cases hh
  · intro _; rw [gdD (by omega), l8]; intro hh; cases hh
  · intro _; rw [getD_set_eq3 (by omega)]; intro hh; cases hh
  · intro _; rw [getD_set_eq3 (by omega)]; intro hh; cases hh
  · rw [setV_eq]; exact ho'
  · rw [gdD (by omega), f11]; intro hh; cases hh
  · rw [gdD (by omega), gdD (by omega)]; exact h.d8
  · rw [gdD (by omega)]; exact l8
  · rw [gdD (by omega), f11]; intro hh; cases hh
theorem St9.asg (h : St9 W0 H out x k m v2 rv Kv L val W) (hs : 11 < L.size) (l10 : L.getD 10 false = true) :
    St9 W0 H out x k m v2 rv Kv (L.setIfInBounds 11 true) (setV val 11 (val 10)) W := by
  have l8 := h.d10 l10
  refine ⟨h.hH, fun j hj a b hl => ?_, h.bel, ?_, ?_, h.ap, ?_, ?_, ?_, ?_, fun _ => ?_, ?_, ?_, fun _ => ?_⟩
  · rw [setV_ne (by omega)]; exact h.known j hj a b (by rwa [gdD (by omega)] at hl)
  · rw [gdD (by omega)]; exact h.o2
  · rw [gdD (by omega)]; exact h.rst
  · rw [gdD (by omega), gdD (by omega), setV_ne (by omega)]; exact h.o7
  · rw [gdD (by omega), gdD (by omega), setV_ne (by omega)]; exact h.o8
  · rw [gdD (by omega), gdD (by omega), setV_ne (by omega)]; exact h.a8
  · rw [gdD (by omega), setV_ne (by omega)]; exact h.o10
  · rw [setV_eq, setV_ne (by omega)]
  · rw [gdD (by omega), gdD (by omega)]; exact h.d8
  · rw [gdD (by omega), gdD (by omega)]; exact h.d10
  · rw [gdD (by omega)]; exact l10
end
/-- The events from the k-th on. -/
theorem own_part {W : World} {base g c n k : Nat} {l : List Evt} (h : W.ownsRow base 85 2 (.slice (some ⟨g, 0, none⟩) n c) n (evCs l)) : ∀ (j : Nat) u, (evCs (l.drop k))[j]? = some u → W.cell? ((⟨g, k * 2, none⟩ : Addr).add j) = some u := fun j u hu => by
  rw [evCs_drop, List.getElem?_drop] at hu
  have h1 := h.cells (g := g) rfl (k * 2 + j) u hu
  have e : (⟨g, 0, none⟩ : Addr).add (k * 2 + j) = (⟨g, k * 2, none⟩ : Addr).add j := by
    unfold Addr.add
    by_cases q : j = 0
    · subst q
      by_cases q2 : k = 0
      · subst q2; rfl
      · rw [if_neg (by omega), if_pos rfl]; simp
    · rw [if_neg (by omega), if_neg q]; simp
  rw [← e]; exact h1
def srtK (v3 v2 xsv rv : Value) (k0 i b off : Nat) (X1 X2 : Int) : Nat → Value
  | 0 => v3
  | 1 => .int .i64 k0
  | 2 => v2
  | 3 => xsv
  | 4 => .int .i64 i
  | 5 => .pointer (some ⟨b, off + i * 2, none⟩)
  | 6 => .agg #[.int .i64 X1, .int .i64 X2]
  | 9 => rv
  | _ => undef
set_option maxRecDepth 100000 in
set_option maxHeartbeats 4000000 in
theorem sorted_any (xs : List Evt) (a0 : Option Addr) (c0 : Nat) (hl : xs.length ≤ 1000000) (w : World) (he : EvsAt w (.slice a0 xs.length c0) xs) :
    Calls Try.prog 48 #[.slice a0 xs.length c0] w (EvOwn (sortE xs) w) := by
  obtain ⟨i0, hi, hz0, hzz1, hzz2⟩ := info_parts infoE
  obtain ⟨m, hm⟩ : ∃ m, m = xs.length := ⟨_, rfl⟩
  rw [← hm] at hl he ⊢
  have HE := Lib.hid he
  have HM := Lib.hid hm
  have hm0 : (0 : Int) ≤ (m : Int) := Int.natCast_nonneg _
  clear he hm
  go_enter Try.func48, Try.ntmps48
  go_wp2
  go_loopw [3, 4] (fun s3 s4 wr => ∃ i : Nat, i ≤ m ∧ s4 = .int .i64 i ∧ wr.ownsRow w.heap.size 85 2 s3 (sortE (xs.take i)).length (evCs (sortE (xs.take i))) ∧ Below w.heap.size w wr) (fun _ s4 _ => m - (intOf s4).toNat)
  case atStart => exact ⟨0, Nat.zero_le _, rfl, World.ownsRow_nil _ _ _ _, Below.refl _ _⟩
  case round =>
    obtain ⟨i, hi', rfl, hrow, hb⟩ := hrel
    have hi0 : (0 : Int) ≤ (i : Int) := Int.natCast_nonneg _
    by_cases hlt : i < m
    · have hi1 : ((i : Int) < (m : Int)) = True := by simp; omega
      obtain ⟨x, hx⟩ : ∃ x, xs[i]? = some x := ⟨_, List.getElem?_eq_getElem (by rw [← HM.out]; exact hlt)⟩
      have HSN := Lib.hid (sortE_snoc hx)
      obtain ⟨b, off, rfl, hbl, hcc⟩ := HE.out.at hx
      obtain ⟨X1, X2⟩ := x
      obtain ⟨out, hout⟩ : ∃ out, out = sortE (xs.take i) := ⟨_, rfl⟩
      have hol : out.length = i := by rw [hout, sortE_len]; simp; have := HM.out; omega
      rw [← hout] at hrow
      rw [hol] at hrow
      obtain ⟨va, vc, rfl⟩ := own_sl hrow
      have hr0 : wr.ownsRow w.heap.size 85 2 (.slice va i vc) i (evCs out) ∧ Below w.heap.size w wr := ⟨hrow, hb⟩
      have HR0 := Lib.hid hr0
      have HOUT := Lib.hid hout
      have HOL := Lib.hid hol
      have HCC := Lib.hid hcc
      clear hrow hb hcc hx hr0 hout hol
      go_upto_block 2 with fail
      go_cut [5] from 15 to 60 (fun s5 wx => s5 = .int .i64 (stayN out ⟨X1, X2⟩ i : Nat) ∧ wx.ownsRow w.heap.size 85 2 (.slice va i vc) i (evCs out) ∧ Below w.heap.size w wx)
      case first =>
        go_wp2_with fail
        go_loopw [5] (fun s5 wr2 => ∃ k : Nat, k ≤ i ∧ s5 = .int .i64 k ∧ stayN out ⟨X1, X2⟩ i = stayN out ⟨X1, X2⟩ k ∧ wr2.ownsRow w.heap.size 85 2 (.slice va i vc) i (evCs out) ∧ Below w.heap.size w wr2) (fun s5 _ => (intOf s5).toNat)
        case atStart => exact ⟨i, Nat.le_refl _, rfl, rfl, HR0.out.1, HR0.out.2⟩
        case round =>
          obtain ⟨k, hk, rfl, hst, hrow, hb⟩ := hrel
          have hk0 : (0 : Int) ≤ (k : Int) := Int.natCast_nonneg _
          have hzb := hb.size
          obtain ⟨y1, y2⟩ := HCC.out.below hb hbl
          simp only at y1 y2
          have hbr : b < wr.heap.size := by omega
          have HROW := Lib.hid hrow
          have HB := Lib.hid hb
          have HST := Lib.hid hst
          by_cases hkz : k = 0
          · subst hkz
            clear hrow hb hst
            go_wp2
            go_quiet (fail)
            go_wp2
            go_meet
            case rel => exact ⟨by rw [HST.out]; rfl, ownsRow_of_block HROW.out fun _ _ => rfl, by first | exact HB.out | exact below_drewN HB.out _⟩
          · obtain ⟨k', rfl⟩ : ∃ k', k = k' + 1 := ⟨k - 1, by omega⟩
            obtain ⟨g, cap, hv⟩ := own_form hrow (by omega)
            cases hv
            obtain ⟨e, he'⟩ : ∃ e, out[k']? = some e := ⟨_, List.getElem?_eq_getElem (by rw [HOL.out]; omega)⟩
            have hc1 : wr.cell? ⟨g, k' * 2, none⟩ = some (.int .i64 e.tk) := by rw [hrow.cellAt (k' * 2) (by omega)]; have := evCs_get out k' 0 e (by omega) he'; rw [Nat.add_zero] at this; rw [this]; rfl
            have hc2 : wr.cell? ⟨g, k' * 2 + 1, none⟩ = some (.int .i64 e.id) := by rw [hrow.cellAt (k' * 2 + 1) (by omega)]; rw [evCs_get out k' 1 e (by omega) he']; rfl
            have hgl := (hrow.lt g rfl).2
            obtain ⟨e1, e2⟩ := e
            simp only at hc1 hc2
            have hun : stayN out ⟨X1, X2⟩ (k' + 1) = if evLe ⟨e1, e2⟩ ⟨X1, X2⟩ = true then k' + 1 else stayN out ⟨X1, X2⟩ k' := by
              show (if evLe (out[k']?.getD ⟨0, 0⟩) ⟨X1, X2⟩ = true then _ else _) = _
              rw [he', Option.getD_some]
            have HUN := Lib.hid hun
            have hk1 : (0 : Int) ≤ (k' : Int) := Int.natCast_nonneg _
            have hk2 : (k' : Int) < (i : Int) := by omega
            clear hrow hb hst he' hun
            by_cases q : X1 < e1
            · have q1 : (X1 < e1) = True := eq_true q
              have q2 : decide (X1 < e1) = true := decide_eq_true q
              have hle : ¬ evLe ⟨e1, e2⟩ ⟨X1, X2⟩ = true := evLe_not.2 (.inl q)
              have HLE := Lib.hid hle
              clear hle q
              go_wp2
              go_quiet (fail)
              go_wp2
              go_roundw
              case rel => exact ⟨k', by omega, by go_num, by rw [HST.out, HUN.out, if_neg HLE.out], ownsRow_of_block HROW.out fun _ _ => rfl, by first | exact HB.out | exact below_drewN HB.out _⟩
              case measure => simp [intOf]
            · have q1 : (X1 < e1) = False := eq_false q
              have q2 : decide (X1 < e1) = false := decide_eq_false q
              by_cases r : e1 = X1
              · have r1 : (e1 == X1) = true := by simp [r]
                have r3 : (e1 = X1) = True := eq_true r
                by_cases u : X2 < e2
                · have u1 : (X2 < e2) = True := eq_true u
                  have u2 : decide (X2 < e2) = true := decide_eq_true u
                  have hle : ¬ evLe ⟨e1, e2⟩ ⟨X1, X2⟩ = true := evLe_not.2 (.inr ⟨r, u⟩)
                  have HLE := Lib.hid hle
                  clear hle q r u
                  go_wp2
                  go_quiet (fail)
                  go_wp2
                  go_roundw
                  case rel => exact ⟨k', by omega, by go_num, by rw [HST.out, HUN.out, if_neg HLE.out], ownsRow_of_block HROW.out fun _ _ => rfl, by first | exact HB.out | exact below_drewN HB.out _⟩
                  case measure => simp [intOf]
                · have u1 : (X2 < e2) = False := eq_false u
                  have u2 : decide (X2 < e2) = false := decide_eq_false u
                  have hle : evLe ⟨e1, e2⟩ ⟨X1, X2⟩ = true := by simp [evLe] <;> omega
                  have HLE := Lib.hid hle
                  clear hle q r u
                  go_wp2
                  go_quiet (fail)
                  go_wp2
                  go_meet
                  case rel => exact ⟨by rw [HST.out, HUN.out, if_pos HLE.out], ownsRow_of_block HROW.out fun _ _ => rfl, by first | exact HB.out | exact below_drewN HB.out _⟩
              · have r1 : (e1 == X1) = false := by simp [r]
                have r3 : (e1 = X1) = False := eq_false r
                have hle : evLe ⟨e1, e2⟩ ⟨X1, X2⟩ = true := by simp [evLe] <;> omega
                have HLE := Lib.hid hle
                clear hle q r
                go_wp2
                go_quiet (fail)
                go_wp2
                go_meet
                case rel => exact ⟨by rw [HST.out, HUN.out, if_pos HLE.out], ownsRow_of_block HROW.out fun _ _ => rfl, by first | exact HB.out | exact below_drewN HB.out _⟩
      case rest =>
        obtain ⟨rfl, hrow, hb⟩ := hcut
        have hkle := stayN_le out ⟨X1, X2⟩ i
        generalize hk0 : stayN out ⟨X1, X2⟩ i = k0 at *
        have HK0 := Lib.hid hk0
        have HB := Lib.hid hb
        have hzc := hb.size
        have hfr : (wc.alloc (.cells #[] 85)).ownsRow wc.heap.size 85 2 (.slice (some ⟨wc.heap.size, 0, none⟩) 0 0) 0 (evCs []) :=
          ⟨rfl, .inr ⟨wc.heap.size, 0, #[], rfl, Nat.le_refl _, alloc_new_at _ _ _ rfl, Nat.le_refl _, by unfold maxLen; omega, rfl, rfl⟩⟩
        have HFR := Lib.hid hfr
        clear hb hk0 hfr
        rcases hrow.2 with ⟨hv, hi0z⟩ | ⟨g, cap, cur, hv, hgl, hgh, hnc, hcm, hcs, hct⟩
        · cases hv
          obtain rfl : k0 = 0 := by omega
          have hnl : out = [] := List.eq_nil_of_length_eq_zero HOL.out
          have H2 := Lib.hid (World.ownsRow_nil (wc.alloc (.cells #[] 85)) w.heap.size 85 2)
          have HR6 : Hid ((wc.alloc (.cells #[] 85)).ownsRow w.heap.size 85 2 (.slice (some ⟨wc.heap.size, 0, none⟩) 0 0) 0 (evCs (out.drop 0))) := Lib.hid (by rw [hnl]; exact own_base HFR.out hzc)
          have B6 : Hid (Below w.heap.size wc (wc.alloc (.cells #[] 85))) := Lib.hid ((Below.refl _ _).alloc hzc _)
          clear hrow hnl
          go_upto_region 9 with (at_builtin; refine wpList_append_own_none rfl _ _ 30 rfl w.heap.size 85 i0 2 Try.underlying30 hi (.slice (some ⟨wc.heap.size, 0, none⟩) 0 0) 0 (evCs []) rfl (own_base HFR.out hzc) rfl ?_)
          have hne : wc.heap.size < (wc.alloc (.cells #[] 85)).heap.size := by simp
          have AP : Hid (∀ g', (Value.slice (some ⟨wc.heap.size, 0, none⟩) 0 0).ownBlock = some g' → (Value.slice none 0 0).ownBlock ≠ some g') := Lib.hid fun g' h1 h2 => by simp [Value.ownBlock] at h2
          generalize wc.alloc (.cells #[] 85) = w6 at *
          generalize wc.heap.size = gr at *
          have M6 := Lib.hid (show (0 : Nat) = 0 - 0 from rfl)
          have hp0 : (0 : Int) < (m : Int) := by omega
          have hm6 : 0 = (out.drop 0).length := by rw [List.length_drop, HOL.out, M6.out]
          have HM6 := Lib.hid hm6
          have hB6 : Below w.heap.size w w6 := HB.out.trans B6.out
          obtain ⟨z1, z2⟩ := HCC.out.below hB6 hbl
          simp only at z1 z2
          have Y1 := Lib.hid z1
          have Y2 := Lib.hid z2
          have hbr6 : b < w6.heap.size := by have := hB6.size; omega
          have hm6b : 0 ≤ 1000000 := by have := M6.out; omega
          have HB6 := Lib.hid hB6
          have hk1 : (0 : Int) ≤ (0 : Int) := Int.natCast_nonneg _
          have hsz6 : w.heap.size ≤ w6.heap.size := hB6.size
          clear z1 z2 hB6 hm6
          refine wp_region_late (St9 w6 w.heap.size out ⟨X1, X2⟩ 0 0 (.slice none 0 0) (.slice (some ⟨gr, 0, none⟩) 0 0) (srtK (.slice none 0 0) (.slice none 0 0) (.slice (some ⟨b, off, none⟩) m c0) (.slice (some ⟨gr, 0, none⟩) 0 0) 0 0 b off X1 X2)) (by kernel_rfl) (by kernel_rfl) (by kernel_rfl) (by kernel_rfl) (St9.init hsz6 H2.out HR6.out AP.out) ?stp ?dn
          case dn =>
            intro val W b' hI hb
            have h10 := hI.o10 (by simp)
            have h11 := hI.e11 (by simp)
            have kn : ∀ j, j < 10 → j ≠ 7 → j ≠ 8 → val j = srtK (.slice none 0 0) (.slice none 0 0) (.slice (some ⟨b, off, none⟩) m c0) (.slice (some ⟨gr, 0, none⟩) 0 0) 0 0 b off X1 X2 j := fun j hj h7 h8 => hI.known j hj h7 h8 (replT (by show j < 12; omega))
            obtain ⟨va', vc', hva⟩ := own_sl h10
            obtain ⟨v7, hv7⟩ : ∃ v, v = val 7 := ⟨_, rfl⟩
            obtain ⟨v8, hv8⟩ : ∃ v, v = val 8 := ⟨_, rfl⟩
            rw [hva] at h10 h11
            simp only [puts, hva, h11, ← hv7, ← hv8, kn 0 (by decide) (by decide) (by decide), kn 1 (by decide) (by decide) (by decide), kn 2 (by decide) (by decide) (by decide), kn 3 (by decide) (by decide) (by decide), kn 4 (by decide) (by decide) (by decide), kn 5 (by decide) (by decide) (by decide), kn 6 (by decide) (by decide) (by decide), kn 9 (by decide) (by decide) (by decide), srtK] at hb
            have H10 := Lib.hid h10
            have HBW := Lib.hid (HB6.out.trans hI.bel)
            clear hI h10 h11 kn hva hv7 hv8
            subst hb
            simp only [Act.put, List.setIfInBounds_toArray, List.set_cons_succ, List.set_cons_zero]
            go_wp2
            go_roundw
            case rel =>
              refine ⟨0 + 1, hlt, by go_num, ?_, HBW.out⟩
              rw [HSN.out, ← HOUT.out, insE_len, HOL.out]
              have e : 0 + 1 + 0 = 0 + 1 := by have := M6.out; omega
              have h := H10.out
              rw [← e]
              unfold insE
              rw [HOL.out, HK0.out]
              simpa using h
            case measure => simp [intOf]; omega
          case stp =>
            intro L val W i' o b' hs ho hlF hdd hI hh hlate
            have hi' := (List.getElem?_eq_some_iff.1 ho).1
            have hcs : i' = 0 ∨ i' = 1 ∨ i' = 2 ∨ i' = 3 ∨ i' = 4 ∨ i' = 5 ∨ i' = 6 ∨ i' = 7 ∨ i' = 8 ∨ i' = 9 ∨ i' = 10 ∨ i' = 11 := by simp at hi'; omega
            have hLs : 11 < L.size := by simp at hs; omega
            have e1 : W.cell? ⟨b, off, none⟩ = some (.int .i64 X1) := by have h := (World.cell?_of_block (hI.bel.block b hbl)).trans Y1.out; simpa using h
            have e2 : W.cell? ⟨b, off + 1, none⟩ = some (.int .i64 X2) := by have h := (World.cell?_of_block (hI.bel.block b hbl)).trans Y2.out; simpa using h
            have hbW : b < W.heap.size := Nat.lt_of_lt_of_le hbr6 hI.bel.size
            have HI := Lib.hid hI
            have HLF := Lib.hid hlF
            have HD := Lib.hid hdd
            clear hi' hs hI hlF hdd
            rcases hcs with rfl | rfl | rfl | rfl | rfl | rfl | rfl | rfl | rfl | rfl | rfl | rfl
            · simp only [List.getElem?_cons_zero, Option.some.injEq] at ho
              subst ho
              have k3 := hlate 3 (by kernel_rfl)
              simp at k3
              go_simp
              exact ⟨_, rfl, HI.out.skip 0 (by omega) (by omega) (by omega) (by omega) _ rfl⟩
            · simp only [List.getElem?_cons_zero, List.getElem?_cons_succ, Option.some.injEq] at ho
              subst ho
              have k5 := hh.kept 5 (by simp)
              simp at k5
              go_simp
              exact ⟨_, rfl, HI.out.skip 1 (by omega) (by omega) (by omega) (by omega) _ rfl⟩
            · simp only [List.getElem?_cons_zero, List.getElem?_cons_succ, Option.some.injEq] at ho
              subst ho
              have l0 : L.getD 0 false = true := HD.out ⟨0, .data⟩ (by simp) rfl
              have g0 := hh.got 0 _ 66 rfl rfl l0 (by simp)
              rw [HI.out.known 0 (by omega) (by omega) (by omega) l0] at g0
              simp [srtK] at g0
              have l1 : L.getD 1 false = true := HD.out ⟨1, .data⟩ (by simp) rfl
              have g1 := hh.got 1 _ 67 rfl rfl l1 (by simp)
              rw [HI.out.known 1 (by omega) (by omega) (by omega) l1] at g1
              simp [srtK] at g1
              clear l0 l1
              go_simp
              exact ⟨_, rfl, HI.out.skip 2 (by omega) (by omega) (by omega) (by omega) _ rfl⟩
            · simp only [List.getElem?_cons_zero, List.getElem?_cons_succ, Option.some.injEq] at ho
              subst ho
              have k0 := hh.kept 0 (by simp)
              simp at k0
              go_simp
              exact ⟨_, rfl, HI.out.skip 3 (by omega) (by omega) (by omega) (by omega) _ rfl⟩
            · simp only [List.getElem?_cons_zero, List.getElem?_cons_succ, Option.some.injEq] at ho
              subst ho
              have k4 := hh.kept 4 (by simp)
              simp at k4
              go_simp
              exact ⟨_, rfl, HI.out.skip 4 (by omega) (by omega) (by omega) (by omega) _ rfl⟩
            · simp only [List.getElem?_cons_zero, List.getElem?_cons_succ, Option.some.injEq] at ho
              subst ho
              have l3 : L.getD 3 false = true := HD.out ⟨3, .data⟩ (by simp) rfl
              have g3 := hh.got 3 _ 69 rfl rfl l3 (by simp)
              rw [HI.out.known 3 (by omega) (by omega) (by omega) l3] at g3
              simp [srtK] at g3
              have l4 : L.getD 4 false = true := HD.out ⟨4, .data⟩ (by simp) rfl
              have g4 := hh.got 4 _ 70 rfl rfl l4 (by simp)
              rw [HI.out.known 4 (by omega) (by omega) (by omega) l4] at g4
              simp [srtK] at g4
              clear l3 l4
              go_simp
              exact ⟨_, rfl, HI.out.skip 5 (by omega) (by omega) (by omega) (by omega) _ rfl⟩
            · simp only [List.getElem?_cons_zero, List.getElem?_cons_succ, Option.some.injEq] at ho
              subst ho
              have l5 : L.getD 5 false = true := HD.out ⟨5, .data⟩ (by simp) rfl
              have g5 := hh.got 5 _ 71 rfl rfl l5 (by simp)
              rw [HI.out.known 5 (by omega) (by omega) (by omega) l5] at g5
              simp [srtK] at g5
              clear l5
              go_simp
              exact ⟨_, rfl, HI.out.skip 6 (by omega) (by omega) (by omega) (by omega) _ rfl⟩
            · simp only [List.getElem?_cons_zero, List.getElem?_cons_succ, Option.some.injEq] at ho
              subst ho
              have l6 : L.getD 6 false = true := HD.out ⟨6, .data⟩ (by simp) rfl
              have g6 := hh.got 6 _ 72 rfl rfl l6 (by simp)
              rw [HI.out.known 6 (by omega) (by omega) (by omega) l6] at g6
              simp [srtK] at g6
              clear l6
              go_simp
              exact ⟨_, rfl, HI.out.mk7 (by omega) HLF.out⟩
            · simp only [List.getElem?_cons_zero, List.getElem?_cons_succ, Option.some.injEq] at ho
              subst ho
              have l2 : L.getD 2 false = true := HD.out ⟨2, .data⟩ (by simp) rfl
              have l7 : L.getD 7 false = true := HD.out ⟨7, .data⟩ (by simp) rfl
              have e0 : b'.eval (.tmp 68) = .slice none 0 0 := (hh.got 2 _ 68 rfl rfl l2 (by simp)).trans (HI.out.known 2 (by omega) (by omega) (by omega) l2)
              have ep : b'.eval (.tmp 73) = val 7 := hh.got 7 _ 73 rfl rfl l7 (by simp)
              obtain ⟨v', w', hr, hw'⟩ := HI.out.app8 (by omega) HLF.out l7 (by omega) 30
              unfold Oper.wp execOp
              simp only [resolve, invoke, builtin, Sem.run_bind, Sem.run_pure, Result.andThen_ok, List.map_toArray, List.map_cons, List.map_nil, e0, ep, hr]
              exact ⟨_, rfl, hw'⟩
            · simp only [List.getElem?_cons_zero, List.getElem?_cons_succ, Option.some.injEq] at ho
              subst ho
              have k6 := hh.kept 6 (by simp)
              simp at k6
              go_simp
              exact ⟨_, rfl, HI.out.skip 9 (by omega) (by omega) (by omega) (by omega) _ rfl⟩
            · simp only [List.getElem?_cons_zero, List.getElem?_cons_succ, Option.some.injEq] at ho
              subst ho
              have l8 : L.getD 8 false = true := HD.out ⟨8, .data⟩ (by simp) rfl
              have l9 : L.getD 9 false = true := HD.out ⟨9, .data⟩ (by simp) rfl
              have e0 : b'.eval (.tmp 74) = val 8 := hh.got 8 _ 74 rfl rfl l8 (by simp)
              have ep : b'.eval (.tmp 75) = .slice (some ⟨gr, 0, none⟩) 0 0 := (hh.got 9 _ 75 rfl rfl l9 (by simp)).trans (HI.out.known 9 (by omega) (by omega) (by omega) l9)
              obtain ⟨v', w', hr, hw'⟩ := HI.out.app10 (by omega) HLF.out l8 (by omega) HM6.out (by omega) rfl 30
              unfold Oper.wp execOp
              simp only [resolve, invoke, builtin, Sem.run_bind, Sem.run_pure, Result.andThen_ok, List.map_toArray, List.map_cons, List.map_nil, e0, ep, hr]
              exact ⟨_, rfl, hw'⟩
            · simp only [List.getElem?_cons_zero, List.getElem?_cons_succ, Option.some.injEq] at ho
              subst ho
              have l10 : L.getD 10 false = true := HD.out ⟨10, .data⟩ (by simp) rfl
              have g10 := hh.got 10 _ 76 rfl rfl l10 (by simp)
              go_simp
              exact ⟨_, rfl, HI.out.asg (by omega) l10⟩

        · cases hv
          have hkc : (k0 : Int) ≤ (vc : Int) := by omega
          have hg2 := (hrow.lt g rfl).2
          have hpart : ∀ (j : Nat) u, (evCs (out.drop k0))[j]? = some u → (wc.alloc (.cells #[] 85)).cell? ((⟨g, k0 * 2, none⟩ : Addr).add j) = some u := own_part (ownsRow_of_block hrow fun g' hg' => by cases hg'; exact Below.heap_alloc _ _ _ hg2)
          have htk := ownsE_take hrow hkle
          have HPT := Lib.hid hpart
          have HTK := Lib.hid htk
          have hdl : (evCs (out.drop k0)).length = (i - k0) * 2 := by rw [evCs_length, List.length_drop, HOL.out]
          have HDL := Lib.hid hdl
          clear hrow hpart htk hdl hgh hcs hct cur
          by_cases hck : vc = k0
          · subst hck
            obtain rfl : i = vc := by omega
            go_upto_region 9 with (at_builtin; refine wpList_append_own _ rfl _ _ 30 rfl wc.heap.size 85 i0 (.agg #[.int .i64 0, .int .i64 0]) 2 16 Try.underlying30 hi hz0 hzz1 hzz2 rfl (by decide) (.slice (some ⟨wc.heap.size, 0, none⟩) 0 0) 0 (evCs []) rfl HFR.out ⟨g, 0, none⟩ _ _ [] rfl (by simp) (by simp) (fun u hu => (by simp at hu)) (by unfold maxLen; omega) (by omega) (by simp) ?_; intro v' w6 hown' hgrow hnil; have HO := Lib.hid hown'; have HG := Lib.hid hgrow; have HN := Lib.hid hnil; clear hown' hgrow hnil)
            obtain ⟨gr, cr, hrv⟩ : ∃ gr cr, v' = .slice (some ⟨gr, 0, none⟩) 0 cr := by
              have ho := HO.out
              rcases ho.2 with ⟨h1, _⟩ | ⟨g', c', _, h1, _⟩
              · exact absurd (HN.out.1 h1).1 (by simp)
              · exact ⟨g', c', h1⟩
            subst hrv
            have hgs := HG.out.size
            rw [World.size_alloc] at hgs
            have hr6 : w6.ownsRow wc.heap.size 85 2 (.slice (some ⟨gr, 0, none⟩) 0 cr) 0 (evCs (out.drop i)) := by
              have ho := HO.out
              have hd : out.drop i = [] := List.drop_eq_nil_iff.2 (by rw [HOL.out]; exact Nat.le_refl _)
              rw [hd]
              simpa [evCs] using ho
            have hold : ∀ k, k < wc.heap.size → w6.heap[k]? = wc.heap[k]? := fun k hk => (HG.out.block k (by rw [World.size_alloc]; omega) (by simp [Value.ownBlock]; omega)).trans (Below.heap_alloc _ _ _ hk)
            have hgr := (hr6.lt gr rfl).1
            have H2 : Hid (w6.ownsRow w.heap.size 85 2 (.slice (some ⟨g, 0, none⟩) i i) i (evCs (out.take i))) := Lib.hid (ownsRow_of_block HTK.out fun g' hg' => by cases hg'; exact hold g hg2)
            have HR6 := Lib.hid (own_base hr6 hzc)
            have AP : Hid (∀ g', (Value.slice (some ⟨gr, 0, none⟩) 0 cr).ownBlock = some g' → (Value.slice (some ⟨g, 0, none⟩) i i).ownBlock ≠ some g') := Lib.hid fun g' h1 h2 => by
              simp [Value.ownBlock] at h1 h2; omega
            have B6 : Hid (Below w.heap.size wc w6) := Lib.hid ⟨HG.out.os, HG.out.tape, HG.out.output, by omega, fun k hk => hold k (by omega)⟩
            have M6 := Lib.hid (show 0 = i - i by omega)
            clear hr6 hold HO HG HN
            have hm6 : 0 = (out.drop i).length := by rw [List.length_drop, HOL.out, M6.out]
            have HM6 := Lib.hid hm6
            have hB6 : Below w.heap.size w w6 := HB.out.trans B6.out
            obtain ⟨z1, z2⟩ := HCC.out.below hB6 hbl
            simp only at z1 z2
            have Y1 := Lib.hid z1
            have Y2 := Lib.hid z2
            have hbr6 : b < w6.heap.size := by have := hB6.size; omega
            have hm6b : 0 ≤ 1000000 := by have := M6.out; omega
            have HB6 := Lib.hid hB6
            have hk1 : (0 : Int) ≤ (i : Int) := Int.natCast_nonneg _
            have hsz6 : w.heap.size ≤ w6.heap.size := hB6.size
            clear z1 z2 hB6 hm6
            refine wp_region_late (St9 w6 w.heap.size out ⟨X1, X2⟩ i 0 (.slice (some ⟨g, 0, none⟩) i i) (.slice (some ⟨gr, 0, none⟩) 0 cr) (srtK (.slice (some ⟨g, 0, none⟩) i i) (.slice (some ⟨g, 0, none⟩) i i) (.slice (some ⟨b, off, none⟩) m c0) (.slice (some ⟨gr, 0, none⟩) 0 cr) i i b off X1 X2)) (by kernel_rfl) (by kernel_rfl) (by kernel_rfl) (by kernel_rfl) (St9.init hsz6 H2.out HR6.out AP.out) ?stp ?dn
            case dn =>
              intro val W b' hI hb
              have h10 := hI.o10 (by simp)
              have h11 := hI.e11 (by simp)
              have kn : ∀ j, j < 10 → j ≠ 7 → j ≠ 8 → val j = srtK (.slice (some ⟨g, 0, none⟩) i i) (.slice (some ⟨g, 0, none⟩) i i) (.slice (some ⟨b, off, none⟩) m c0) (.slice (some ⟨gr, 0, none⟩) 0 cr) i i b off X1 X2 j := fun j hj h7 h8 => hI.known j hj h7 h8 (replT (by show j < 12; omega))
              obtain ⟨va', vc', hva⟩ := own_sl h10
              obtain ⟨v7, hv7⟩ : ∃ v, v = val 7 := ⟨_, rfl⟩
              obtain ⟨v8, hv8⟩ : ∃ v, v = val 8 := ⟨_, rfl⟩
              rw [hva] at h10 h11
              simp only [puts, hva, h11, ← hv7, ← hv8, kn 0 (by decide) (by decide) (by decide), kn 1 (by decide) (by decide) (by decide), kn 2 (by decide) (by decide) (by decide), kn 3 (by decide) (by decide) (by decide), kn 4 (by decide) (by decide) (by decide), kn 5 (by decide) (by decide) (by decide), kn 6 (by decide) (by decide) (by decide), kn 9 (by decide) (by decide) (by decide), srtK] at hb
              have H10 := Lib.hid h10
              have HBW := Lib.hid (HB6.out.trans hI.bel)
              clear hI h10 h11 kn hva hv7 hv8
              subst hb
              simp only [Act.put, List.setIfInBounds_toArray, List.set_cons_succ, List.set_cons_zero]
              go_wp2
              go_roundw
              case rel =>
                refine ⟨i + 1, hlt, by go_num, ?_, HBW.out⟩
                rw [HSN.out, ← HOUT.out, insE_len, HOL.out]
                have e : i + 1 + 0 = i + 1 := by have := M6.out; omega
                have h := H10.out
                rw [← e]
                unfold insE
                rw [HOL.out, HK0.out]
                simpa using h
              case measure => simp [intOf]; omega
            case stp =>
              intro L val W i' o b' hs ho hlF hdd hI hh hlate
              have hi' := (List.getElem?_eq_some_iff.1 ho).1
              have hcs : i' = 0 ∨ i' = 1 ∨ i' = 2 ∨ i' = 3 ∨ i' = 4 ∨ i' = 5 ∨ i' = 6 ∨ i' = 7 ∨ i' = 8 ∨ i' = 9 ∨ i' = 10 ∨ i' = 11 := by simp at hi'; omega
              have hLs : 11 < L.size := by simp at hs; omega
              have e1 : W.cell? ⟨b, off + i * 2, none⟩ = some (.int .i64 X1) := by have h := (World.cell?_of_block (hI.bel.block b hbl)).trans Y1.out; simpa using h
              have e2 : W.cell? ⟨b, off + i * 2 + 1, none⟩ = some (.int .i64 X2) := by have h := (World.cell?_of_block (hI.bel.block b hbl)).trans Y2.out; simpa using h
              have hbW : b < W.heap.size := Nat.lt_of_lt_of_le hbr6 hI.bel.size
              have HI := Lib.hid hI
              have HLF := Lib.hid hlF
              have HD := Lib.hid hdd
              clear hi' hs hI hlF hdd
              rcases hcs with rfl | rfl | rfl | rfl | rfl | rfl | rfl | rfl | rfl | rfl | rfl | rfl
              · simp only [List.getElem?_cons_zero, Option.some.injEq] at ho
                subst ho
                have k3 := hlate 3 (by kernel_rfl)
                simp at k3
                go_simp
                exact ⟨_, rfl, HI.out.skip 0 (by omega) (by omega) (by omega) (by omega) _ rfl⟩
              · simp only [List.getElem?_cons_zero, List.getElem?_cons_succ, Option.some.injEq] at ho
                subst ho
                have k5 := hh.kept 5 (by simp)
                simp at k5
                go_simp
                exact ⟨_, rfl, HI.out.skip 1 (by omega) (by omega) (by omega) (by omega) _ rfl⟩
              · simp only [List.getElem?_cons_zero, List.getElem?_cons_succ, Option.some.injEq] at ho
                subst ho
                have l0 : L.getD 0 false = true := HD.out ⟨0, .data⟩ (by simp) rfl
                have g0 := hh.got 0 _ 66 rfl rfl l0 (by simp)
                rw [HI.out.known 0 (by omega) (by omega) (by omega) l0] at g0
                simp [srtK] at g0
                have l1 : L.getD 1 false = true := HD.out ⟨1, .data⟩ (by simp) rfl
                have g1 := hh.got 1 _ 67 rfl rfl l1 (by simp)
                rw [HI.out.known 1 (by omega) (by omega) (by omega) l1] at g1
                simp [srtK] at g1
                clear l0 l1
                go_simp
                exact ⟨_, rfl, HI.out.skip 2 (by omega) (by omega) (by omega) (by omega) _ rfl⟩
              · simp only [List.getElem?_cons_zero, List.getElem?_cons_succ, Option.some.injEq] at ho
                subst ho
                have k0 := hh.kept 0 (by simp)
                simp at k0
                go_simp
                exact ⟨_, rfl, HI.out.skip 3 (by omega) (by omega) (by omega) (by omega) _ rfl⟩
              · simp only [List.getElem?_cons_zero, List.getElem?_cons_succ, Option.some.injEq] at ho
                subst ho
                have k4 := hh.kept 4 (by simp)
                simp at k4
                go_simp
                exact ⟨_, rfl, HI.out.skip 4 (by omega) (by omega) (by omega) (by omega) _ rfl⟩
              · simp only [List.getElem?_cons_zero, List.getElem?_cons_succ, Option.some.injEq] at ho
                subst ho
                have l3 : L.getD 3 false = true := HD.out ⟨3, .data⟩ (by simp) rfl
                have g3 := hh.got 3 _ 69 rfl rfl l3 (by simp)
                rw [HI.out.known 3 (by omega) (by omega) (by omega) l3] at g3
                simp [srtK] at g3
                have l4 : L.getD 4 false = true := HD.out ⟨4, .data⟩ (by simp) rfl
                have g4 := hh.got 4 _ 70 rfl rfl l4 (by simp)
                rw [HI.out.known 4 (by omega) (by omega) (by omega) l4] at g4
                simp [srtK] at g4
                clear l3 l4
                go_simp
                exact ⟨_, rfl, HI.out.skip 5 (by omega) (by omega) (by omega) (by omega) _ rfl⟩
              · simp only [List.getElem?_cons_zero, List.getElem?_cons_succ, Option.some.injEq] at ho
                subst ho
                have l5 : L.getD 5 false = true := HD.out ⟨5, .data⟩ (by simp) rfl
                have g5 := hh.got 5 _ 71 rfl rfl l5 (by simp)
                rw [HI.out.known 5 (by omega) (by omega) (by omega) l5] at g5
                simp [srtK] at g5
                clear l5
                go_simp
                exact ⟨_, rfl, HI.out.skip 6 (by omega) (by omega) (by omega) (by omega) _ rfl⟩
              · simp only [List.getElem?_cons_zero, List.getElem?_cons_succ, Option.some.injEq] at ho
                subst ho
                have l6 : L.getD 6 false = true := HD.out ⟨6, .data⟩ (by simp) rfl
                have g6 := hh.got 6 _ 72 rfl rfl l6 (by simp)
                rw [HI.out.known 6 (by omega) (by omega) (by omega) l6] at g6
                simp [srtK] at g6
                clear l6
                go_simp
                exact ⟨_, rfl, HI.out.mk7 (by omega) HLF.out⟩
              · simp only [List.getElem?_cons_zero, List.getElem?_cons_succ, Option.some.injEq] at ho
                subst ho
                have l2 : L.getD 2 false = true := HD.out ⟨2, .data⟩ (by simp) rfl
                have l7 : L.getD 7 false = true := HD.out ⟨7, .data⟩ (by simp) rfl
                have e0 : b'.eval (.tmp 68) = .slice (some ⟨g, 0, none⟩) i i := (hh.got 2 _ 68 rfl rfl l2 (by simp)).trans (HI.out.known 2 (by omega) (by omega) (by omega) l2)
                have ep : b'.eval (.tmp 73) = val 7 := hh.got 7 _ 73 rfl rfl l7 (by simp)
                obtain ⟨v', w', hr, hw'⟩ := HI.out.app8 (by omega) HLF.out l7 (by omega) 30
                unfold Oper.wp execOp
                simp only [resolve, invoke, builtin, Sem.run_bind, Sem.run_pure, Result.andThen_ok, List.map_toArray, List.map_cons, List.map_nil, e0, ep, hr]
                exact ⟨_, rfl, hw'⟩
              · simp only [List.getElem?_cons_zero, List.getElem?_cons_succ, Option.some.injEq] at ho
                subst ho
                have k6 := hh.kept 6 (by simp)
                simp at k6
                go_simp
                exact ⟨_, rfl, HI.out.skip 9 (by omega) (by omega) (by omega) (by omega) _ rfl⟩
              · simp only [List.getElem?_cons_zero, List.getElem?_cons_succ, Option.some.injEq] at ho
                subst ho
                have l8 : L.getD 8 false = true := HD.out ⟨8, .data⟩ (by simp) rfl
                have l9 : L.getD 9 false = true := HD.out ⟨9, .data⟩ (by simp) rfl
                have e0 : b'.eval (.tmp 74) = val 8 := hh.got 8 _ 74 rfl rfl l8 (by simp)
                have ep : b'.eval (.tmp 75) = .slice (some ⟨gr, 0, none⟩) 0 cr := (hh.got 9 _ 75 rfl rfl l9 (by simp)).trans (HI.out.known 9 (by omega) (by omega) (by omega) l9)
                obtain ⟨v', w', hr, hw'⟩ := HI.out.app10 (by omega) HLF.out l8 (by omega) HM6.out (by omega) rfl 30
                unfold Oper.wp execOp
                simp only [resolve, invoke, builtin, Sem.run_bind, Sem.run_pure, Result.andThen_ok, List.map_toArray, List.map_cons, List.map_nil, e0, ep, hr]
                exact ⟨_, rfl, hw'⟩
              · simp only [List.getElem?_cons_zero, List.getElem?_cons_succ, Option.some.injEq] at ho
                subst ho
                have l10 : L.getD 10 false = true := HD.out ⟨10, .data⟩ (by simp) rfl
                have g10 := hh.got 10 _ 76 rfl rfl l10 (by simp)
                go_simp
                exact ⟨_, rfl, HI.out.asg (by omega) l10⟩

          · go_upto_region 9 with (at_builtin; refine wpList_append_own _ rfl _ _ 30 rfl wc.heap.size 85 i0 (.agg #[.int .i64 0, .int .i64 0]) 2 16 Try.underlying30 hi hz0 hzz1 hzz2 rfl (by decide) (.slice (some ⟨wc.heap.size, 0, none⟩) 0 0) 0 (evCs []) rfl HFR.out ⟨g, k0 * 2, none⟩ _ _ (evCs (out.drop k0)) rfl HDL.out HPT.out (fun u hu => evCs_one hu) (by unfold maxLen; omega) (by omega) (by simp) ?_; intro v' w6 hown' hgrow hnil; have HO := Lib.hid hown'; have HG := Lib.hid hgrow; have HN := Lib.hid hnil; clear hown' hgrow hnil)
            obtain ⟨m6, eM⟩ : ∃ m6, m6 = i - k0 := ⟨_, rfl⟩
            obtain ⟨gr, cr, hrv⟩ : ∃ gr cr, v' = .slice (some ⟨gr, 0, none⟩) m6 cr := by
              have ho := HO.out
              rw [show 0 + (i - k0) = m6 by rw [eM]; omega] at ho
              rcases ho.2 with ⟨h1, _⟩ | ⟨g', c', _, h1, _⟩
              · exact absurd (HN.out.1 h1).1 (by simp)
              · exact ⟨g', c', h1⟩
            subst hrv
            have hgs := HG.out.size
            rw [World.size_alloc] at hgs
            have hr6 : w6.ownsRow wc.heap.size 85 2 (.slice (some ⟨gr, 0, none⟩) m6 cr) m6 (evCs (out.drop k0)) := by
              have ho := HO.out
              rw [show 0 + (i - k0) = m6 by rw [eM]; omega] at ho
              simpa [evCs] using ho
            have hold : ∀ k, k < wc.heap.size → w6.heap[k]? = wc.heap[k]? := fun k hk => (HG.out.block k (by rw [World.size_alloc]; omega) (by simp [Value.ownBlock]; omega)).trans (Below.heap_alloc _ _ _ hk)
            have hgr := (hr6.lt gr rfl).1
            have H2 : Hid (w6.ownsRow w.heap.size 85 2 (.slice (some ⟨g, 0, none⟩) k0 vc) k0 (evCs (out.take k0))) := Lib.hid (ownsRow_of_block HTK.out fun g' hg' => by cases hg'; exact hold g hg2)
            have HR6 := Lib.hid (own_base hr6 hzc)
            have AP : Hid (∀ g', (Value.slice (some ⟨gr, 0, none⟩) m6 cr).ownBlock = some g' → (Value.slice (some ⟨g, 0, none⟩) k0 vc).ownBlock ≠ some g') := Lib.hid fun g' h1 h2 => by
              simp [Value.ownBlock] at h1 h2; omega
            have B6 : Hid (Below w.heap.size wc w6) := Lib.hid ⟨HG.out.os, HG.out.tape, HG.out.output, by omega, fun k hk => hold k (by omega)⟩
            have M6 := Lib.hid eM
            clear eM hr6 hold HO HG HN
            have hm6 : m6 = (out.drop k0).length := by rw [List.length_drop, HOL.out, M6.out]
            have HM6 := Lib.hid hm6
            have hB6 : Below w.heap.size w w6 := HB.out.trans B6.out
            obtain ⟨z1, z2⟩ := HCC.out.below hB6 hbl
            simp only at z1 z2
            have Y1 := Lib.hid z1
            have Y2 := Lib.hid z2
            have hbr6 : b < w6.heap.size := by have := hB6.size; omega
            have hm6b : m6 ≤ 1000000 := by have := M6.out; omega
            have HB6 := Lib.hid hB6
            have hk1 : (0 : Int) ≤ (k0 : Int) := Int.natCast_nonneg _
            have hsz6 : w.heap.size ≤ w6.heap.size := hB6.size
            clear z1 z2 hB6 hm6
            refine wp_region_late (St9 w6 w.heap.size out ⟨X1, X2⟩ k0 m6 (.slice (some ⟨g, 0, none⟩) k0 vc) (.slice (some ⟨gr, 0, none⟩) m6 cr) (srtK (.slice (some ⟨g, 0, none⟩) i vc) (.slice (some ⟨g, 0, none⟩) k0 vc) (.slice (some ⟨b, off, none⟩) m c0) (.slice (some ⟨gr, 0, none⟩) m6 cr) k0 i b off X1 X2)) (by kernel_rfl) (by kernel_rfl) (by kernel_rfl) (by kernel_rfl) (St9.init hsz6 H2.out HR6.out AP.out) ?stp ?dn
            case dn =>
              intro val W b' hI hb
              have h10 := hI.o10 (by simp)
              have h11 := hI.e11 (by simp)
              have kn : ∀ j, j < 10 → j ≠ 7 → j ≠ 8 → val j = srtK (.slice (some ⟨g, 0, none⟩) i vc) (.slice (some ⟨g, 0, none⟩) k0 vc) (.slice (some ⟨b, off, none⟩) m c0) (.slice (some ⟨gr, 0, none⟩) m6 cr) k0 i b off X1 X2 j := fun j hj h7 h8 => hI.known j hj h7 h8 (replT (by show j < 12; omega))
              obtain ⟨va', vc', hva⟩ := own_sl h10
              obtain ⟨v7, hv7⟩ : ∃ v, v = val 7 := ⟨_, rfl⟩
              obtain ⟨v8, hv8⟩ : ∃ v, v = val 8 := ⟨_, rfl⟩
              rw [hva] at h10 h11
              simp only [puts, hva, h11, ← hv7, ← hv8, kn 0 (by decide) (by decide) (by decide), kn 1 (by decide) (by decide) (by decide), kn 2 (by decide) (by decide) (by decide), kn 3 (by decide) (by decide) (by decide), kn 4 (by decide) (by decide) (by decide), kn 5 (by decide) (by decide) (by decide), kn 6 (by decide) (by decide) (by decide), kn 9 (by decide) (by decide) (by decide), srtK] at hb
              have H10 := Lib.hid h10
              have HBW := Lib.hid (HB6.out.trans hI.bel)
              clear hI h10 h11 kn hva hv7 hv8
              subst hb
              simp only [Act.put, List.setIfInBounds_toArray, List.set_cons_succ, List.set_cons_zero]
              go_wp2
              go_roundw
              case rel =>
                refine ⟨i + 1, hlt, by go_num, ?_, HBW.out⟩
                rw [HSN.out, ← HOUT.out, insE_len, HOL.out]
                have e : k0 + 1 + m6 = i + 1 := by have := M6.out; omega
                have h := H10.out
                rw [← e]
                unfold insE
                rw [HOL.out, HK0.out]
                simpa using h
              case measure => simp [intOf]; omega
            case stp =>
              intro L val W i' o b' hs ho hlF hdd hI hh hlate
              have hi' := (List.getElem?_eq_some_iff.1 ho).1
              have hcs : i' = 0 ∨ i' = 1 ∨ i' = 2 ∨ i' = 3 ∨ i' = 4 ∨ i' = 5 ∨ i' = 6 ∨ i' = 7 ∨ i' = 8 ∨ i' = 9 ∨ i' = 10 ∨ i' = 11 := by simp at hi'; omega
              have hLs : 11 < L.size := by simp at hs; omega
              have e1 : W.cell? ⟨b, off + i * 2, none⟩ = some (.int .i64 X1) := by have h := (World.cell?_of_block (hI.bel.block b hbl)).trans Y1.out; simpa using h
              have e2 : W.cell? ⟨b, off + i * 2 + 1, none⟩ = some (.int .i64 X2) := by have h := (World.cell?_of_block (hI.bel.block b hbl)).trans Y2.out; simpa using h
              have hbW : b < W.heap.size := Nat.lt_of_lt_of_le hbr6 hI.bel.size
              have HI := Lib.hid hI
              have HLF := Lib.hid hlF
              have HD := Lib.hid hdd
              clear hi' hs hI hlF hdd
              rcases hcs with rfl | rfl | rfl | rfl | rfl | rfl | rfl | rfl | rfl | rfl | rfl | rfl
              · simp only [List.getElem?_cons_zero, Option.some.injEq] at ho
                subst ho
                have k3 := hlate 3 (by kernel_rfl)
                simp at k3
                go_simp
                exact ⟨_, rfl, HI.out.skip 0 (by omega) (by omega) (by omega) (by omega) _ rfl⟩
              · simp only [List.getElem?_cons_zero, List.getElem?_cons_succ, Option.some.injEq] at ho
                subst ho
                have k5 := hh.kept 5 (by simp)
                simp at k5
                go_simp
                exact ⟨_, rfl, HI.out.skip 1 (by omega) (by omega) (by omega) (by omega) _ rfl⟩
              · simp only [List.getElem?_cons_zero, List.getElem?_cons_succ, Option.some.injEq] at ho
                subst ho
                have l0 : L.getD 0 false = true := HD.out ⟨0, .data⟩ (by simp) rfl
                have g0 := hh.got 0 _ 66 rfl rfl l0 (by simp)
                rw [HI.out.known 0 (by omega) (by omega) (by omega) l0] at g0
                simp [srtK] at g0
                have l1 : L.getD 1 false = true := HD.out ⟨1, .data⟩ (by simp) rfl
                have g1 := hh.got 1 _ 67 rfl rfl l1 (by simp)
                rw [HI.out.known 1 (by omega) (by omega) (by omega) l1] at g1
                simp [srtK] at g1
                clear l0 l1
                go_simp
                exact ⟨_, rfl, HI.out.skip 2 (by omega) (by omega) (by omega) (by omega) _ rfl⟩
              · simp only [List.getElem?_cons_zero, List.getElem?_cons_succ, Option.some.injEq] at ho
                subst ho
                have k0 := hh.kept 0 (by simp)
                simp at k0
                go_simp
                exact ⟨_, rfl, HI.out.skip 3 (by omega) (by omega) (by omega) (by omega) _ rfl⟩
              · simp only [List.getElem?_cons_zero, List.getElem?_cons_succ, Option.some.injEq] at ho
                subst ho
                have k4 := hh.kept 4 (by simp)
                simp at k4
                go_simp
                exact ⟨_, rfl, HI.out.skip 4 (by omega) (by omega) (by omega) (by omega) _ rfl⟩
              · simp only [List.getElem?_cons_zero, List.getElem?_cons_succ, Option.some.injEq] at ho
                subst ho
                have l3 : L.getD 3 false = true := HD.out ⟨3, .data⟩ (by simp) rfl
                have g3 := hh.got 3 _ 69 rfl rfl l3 (by simp)
                rw [HI.out.known 3 (by omega) (by omega) (by omega) l3] at g3
                simp [srtK] at g3
                have l4 : L.getD 4 false = true := HD.out ⟨4, .data⟩ (by simp) rfl
                have g4 := hh.got 4 _ 70 rfl rfl l4 (by simp)
                rw [HI.out.known 4 (by omega) (by omega) (by omega) l4] at g4
                simp [srtK] at g4
                clear l3 l4
                go_simp
                exact ⟨_, rfl, HI.out.skip 5 (by omega) (by omega) (by omega) (by omega) _ rfl⟩
              · simp only [List.getElem?_cons_zero, List.getElem?_cons_succ, Option.some.injEq] at ho
                subst ho
                have l5 : L.getD 5 false = true := HD.out ⟨5, .data⟩ (by simp) rfl
                have g5 := hh.got 5 _ 71 rfl rfl l5 (by simp)
                rw [HI.out.known 5 (by omega) (by omega) (by omega) l5] at g5
                simp [srtK] at g5
                clear l5
                go_simp
                exact ⟨_, rfl, HI.out.skip 6 (by omega) (by omega) (by omega) (by omega) _ rfl⟩
              · simp only [List.getElem?_cons_zero, List.getElem?_cons_succ, Option.some.injEq] at ho
                subst ho
                have l6 : L.getD 6 false = true := HD.out ⟨6, .data⟩ (by simp) rfl
                have g6 := hh.got 6 _ 72 rfl rfl l6 (by simp)
                rw [HI.out.known 6 (by omega) (by omega) (by omega) l6] at g6
                simp [srtK] at g6
                clear l6
                go_simp
                exact ⟨_, rfl, HI.out.mk7 (by omega) HLF.out⟩
              · simp only [List.getElem?_cons_zero, List.getElem?_cons_succ, Option.some.injEq] at ho
                subst ho
                have l2 : L.getD 2 false = true := HD.out ⟨2, .data⟩ (by simp) rfl
                have l7 : L.getD 7 false = true := HD.out ⟨7, .data⟩ (by simp) rfl
                have e0 : b'.eval (.tmp 68) = .slice (some ⟨g, 0, none⟩) k0 vc := (hh.got 2 _ 68 rfl rfl l2 (by simp)).trans (HI.out.known 2 (by omega) (by omega) (by omega) l2)
                have ep : b'.eval (.tmp 73) = val 7 := hh.got 7 _ 73 rfl rfl l7 (by simp)
                obtain ⟨v', w', hr, hw'⟩ := HI.out.app8 (by omega) HLF.out l7 (by omega) 30
                unfold Oper.wp execOp
                simp only [resolve, invoke, builtin, Sem.run_bind, Sem.run_pure, Result.andThen_ok, List.map_toArray, List.map_cons, List.map_nil, e0, ep, hr]
                exact ⟨_, rfl, hw'⟩
              · simp only [List.getElem?_cons_zero, List.getElem?_cons_succ, Option.some.injEq] at ho
                subst ho
                have k6 := hh.kept 6 (by simp)
                simp at k6
                go_simp
                exact ⟨_, rfl, HI.out.skip 9 (by omega) (by omega) (by omega) (by omega) _ rfl⟩
              · simp only [List.getElem?_cons_zero, List.getElem?_cons_succ, Option.some.injEq] at ho
                subst ho
                have l8 : L.getD 8 false = true := HD.out ⟨8, .data⟩ (by simp) rfl
                have l9 : L.getD 9 false = true := HD.out ⟨9, .data⟩ (by simp) rfl
                have e0 : b'.eval (.tmp 74) = val 8 := hh.got 8 _ 74 rfl rfl l8 (by simp)
                have ep : b'.eval (.tmp 75) = .slice (some ⟨gr, 0, none⟩) m6 cr := (hh.got 9 _ 75 rfl rfl l9 (by simp)).trans (HI.out.known 9 (by omega) (by omega) (by omega) l9)
                obtain ⟨v', w', hr, hw'⟩ := HI.out.app10 (by omega) HLF.out l8 (by omega) HM6.out (by omega) rfl 30
                unfold Oper.wp execOp
                simp only [resolve, invoke, builtin, Sem.run_bind, Sem.run_pure, Result.andThen_ok, List.map_toArray, List.map_cons, List.map_nil, e0, ep, hr]
                exact ⟨_, rfl, hw'⟩
              · simp only [List.getElem?_cons_zero, List.getElem?_cons_succ, Option.some.injEq] at ho
                subst ho
                have l10 : L.getD 10 false = true := HD.out ⟨10, .data⟩ (by simp) rfl
                have g10 := hh.got 10 _ 76 rfl rfl l10 (by simp)
                go_simp
                exact ⟨_, rfl, HI.out.asg (by omega) l10⟩

    · obtain rfl : m = i := by omega
      have hj1 : ((m : Int) < (m : Int)) = False := by simp
      have HR2 : Hid (wr.ownsRow w.heap.size 85 2 u3 (sortE xs).length (evCs (sortE xs))) := Lib.hid (by rw [HM.out, List.take_of_length_le (Nat.le_refl _)] at hrow; exact hrow)
      have HB := Lib.hid hb
      clear hrow hb hlt hi'
      go_wp2
      go_ret
      exact ⟨_, rfl, HR2.out, HB.out⟩
end Go.Proofs.Ytgbcdebnanejpaa
namespace Go.Proofs.Ytgbcdebnanejpaa
set_option linter.unusedVariables false
open Go.RowKit Go.Shelf

/-- What holds in a drawn region whose operations below p are known; p makes a slice of the event, p + 1 appends it, p + 2 stores it. -/
structure ApR (W0 : World) (H n p : Nat) (l : List Evt) (x : Evt) (v0 : Value) (Kv : Nat → Value) (L : Array Bool) (val : Nat → Value) (W : World) : Prop where
  hH : H ≤ W0.heap.size
  known : ∀ j, j < p → L.getD j false = true → val j = Kv j
  bel : Below H W0 W
  oth : ∀ b, b < W0.heap.size → v0.ownBlock ≠ some b → W.heap[b]? = W0.heap[b]?
  o0 : L.getD (p + 1) false = false → W.ownsRow H 85 2 v0 n (evCs l)
  op : L.getD p false = true → L.getD (p + 1) false = false → ∃ g, val p = .slice (some ⟨g, 0, none⟩) 1 1 ∧ W.heap[g]? = some (.cells #[.int .i64 x.tk, .int .i64 x.id] 85)
  oa : L.getD (p + 1) false = true → W.ownsRow H 85 2 (val (p + 1)) (n + 1) (evCs (l ++ [x])) ∧ ((val (p + 1)).ownBlock = v0.ownBlock ∨ ∃ g, (val (p + 1)).ownBlock = some g ∧ W0.heap.size ≤ g)
  ea : L.getD (p + 2) false = true → val (p + 2) = val (p + 1)
  da : L.getD (p + 1) false = true → L.getD p false = true
  dz : L.getD (p + 2) false = true → L.getD (p + 1) false = true
section
variable {W0 W : World} {H n p : Nat} {l : List Evt} {x : Evt} {v0 : Value} {Kv : Nat → Value} {L : Array Bool} {val : Nat → Value}
theorem ApR.init (N : Nat) (hH : H ≤ W0.heap.size) (h0 : W0.ownsRow H 85 2 v0 n (evCs l)) :
    ApR W0 H n p l x v0 Kv (Array.replicate N false) (fun _ => undef) { W0 with drawn := W0.drawn + 1 } := by
  have z : ∀ j, (Array.replicate N false).getD j false = true → False := fun j h => by
    simp [Array.getD_eq_getD_getElem?, Array.getElem?_replicate] at h
    split at h <;> simp_all
  exact ⟨hH, fun j _ h => (z _ h).elim, ⟨rfl, rfl, rfl, Nat.le_refl _, fun _ _ => rfl⟩, fun _ _ _ => rfl, fun _ => h0, fun h => (z _ h).elim, fun h => (z _ h).elim, fun h => (z _ h).elim, fun h => (z _ h).elim, fun h => (z _ h).elim⟩
theorem ApR.skip (h : ApR W0 H n p l x v0 Kv L val W) (i : Nat) (hi : i < p) (u : Value) (hu : u = Kv i) :
    ApR W0 H n p l x v0 Kv (L.setIfInBounds i true) (setV val i u) W := by
  refine ⟨h.hH, fun j hj hl => ?_, h.bel, h.oth, ?_, ?_, ?_, ?_, ?_, ?_⟩
  · by_cases e : j = i
    · subst e; rw [setV_eq]; exact hu
    · rw [setV_ne e]; exact h.known j hj (by rwa [gdD e] at hl)
  · rw [gdD (by omega)]; exact h.o0
  · rw [gdD (by omega), gdD (by omega), setV_ne (by omega)]; exact h.op
  · rw [gdD (by omega), setV_ne (by omega)]; exact h.oa
  · rw [gdD (by omega), setV_ne (by omega), setV_ne (by omega)]; exact h.ea
  · rw [gdD (by omega), gdD (by omega)]; exact h.da
  · rw [gdD (by omega), gdD (by omega)]; exact h.dz
theorem ApR.no1 (h : ApR W0 H n p l x v0 Kv L val W) (h7 : L.getD p false = false) : L.getD (p + 1) false = false := by
  cases e : L.getD (p + 1) false with
  | false => rfl
  | true => rw [h.da e] at h7; cases h7
theorem ApR.no2 (h : ApR W0 H n p l x v0 Kv L val W) (h8 : L.getD (p + 1) false = false) : L.getD (p + 2) false = false := by
  cases e : L.getD (p + 2) false with
  | false => rfl
  | true => rw [h.dz e] at h8; cases h8
theorem ApR.make (h : ApR W0 H n p l x v0 Kv L val W) (hs : p + 2 < L.size) (hf : L.getD p false = false) :
    ApR W0 H n p l x v0 Kv (L.setIfInBounds p true) (setV val p (.slice (some ⟨W.heap.size, 0, none⟩) 1 1)) (W.alloc (.cells #[.int .i64 x.tk, .int .i64 x.id] 85)) := by
  have f1 := h.no1 hf
  have f2 := h.no2 f1
  have hz := h.bel.size
  have hH := h.hH
  have old : ∀ b, b < W.heap.size → (W.alloc (.cells #[.int .i64 x.tk, .int .i64 x.id] 85)).heap[b]? = W.heap[b]? := fun b hb => Below.heap_alloc _ _ _ hb
  refine ⟨h.hH, fun j hj hl => ?_, h.bel.alloc (by omega) _, fun b hb hn => (old b (by omega)).trans (h.oth b hb hn), fun g => ?_, fun _ _ => ?_, ?_, ?_, ?_, ?_⟩
  · rw [setV_ne (by omega)]; exact h.known j hj (by rwa [gdD (by omega)] at hl)
  · exact ownsRow_of_block (h.o0 f1) fun g hg => old g ((h.o0 f1).lt g hg).2
  · rw [setV_eq]; exact ⟨_, rfl, alloc_new_at _ _ _ rfl⟩
  · rw [gdD (by omega), f1]; intro hh; cases hh
  · rw [gdD (by omega), f2]; intro hh; cases hh
  · intro _; exact getD_set_eq3 (by omega)
  · rw [gdD (by omega), f2]; intro hh; cases hh
theorem ApR.app (h : ApR W0 H n p l x v0 Kv L val W) (hs : p + 2 < L.size) (hf : L.getD (p + 1) false = false) (lp : L.getD p false = true) (hn : n ≤ 1000000) (ty : TypeId) :
    ∃ v' W', (Builtin.append_ #[30, 30] ty #[v0, val p]).run Try.prog W = .ok v' W' ∧ ApR W0 H n p l x v0 Kv (L.setIfInBounds (p + 1) true) (setV val (p + 1) v') W' := by
  have f2 := h.no2 hf
  have hz := h.bel.size
  have hH := h.hH
  obtain ⟨g7, e7, c7⟩ := h.op lp hf
  have ho := h.o0 hf
  have hc : ∀ (j : Nat) u, (evCs [x])[j]? = some u → W.cell? ((⟨g7, 0, none⟩ : Addr).add j) = some u := fun j u hu => by
    have hj : j < 2 := by have := (List.getElem?_eq_some_iff.1 hu).1; simpa [evCs_length] using this
    obtain ⟨q1, q2⟩ := cells2 c7
    rcases (by omega : j = 0 ∨ j = 1) with rfl | rfl
    · simp [evCs, evV] at hu; subst hu; exact q1
    · simp [evCs, evV] at hu; subst hu; exact q2.1
  rw [e7]
  obtain ⟨v', W', hr, ho', hg, hw⟩ := run_appE v0 n l [x] ho (by omega) (by omega) ⟨g7, 0, none⟩ 1 1 rfl (by omega) hc ty
  have hw := hw (by omega)
  have hb : Below H W W' := ⟨hg.os, hg.tape, hg.output, hg.size, fun b hb => hg.block b (by omega) fun e => by have := (ho.lt b e.symm).1; omega⟩
  refine ⟨v', W', hr, h.hH, fun j hj hl => ?_, h.bel.trans hb, fun b hb1 hn1 => (hg.block b (by omega) (fun e => hn1 e.symm)).trans (h.oth b hb1 hn1), ?_, ?_, fun _ => ?_, ?_, fun _ => ?_, ?_⟩
  · rw [setV_ne (by omega)]; exact h.known j hj (by rwa [gdD (by omega)] at hl)
  · rw [getD_set_eq3 (by omega)]; intro hh; cases hh
  · intro _; rw [getD_set_eq3 (by omega)]; intro hh; cases hh
  · rw [setV_eq]
    refine ⟨ho', ?_⟩
    rcases hw with hw | hw
    · exact .inl hw
    · exact .inr ⟨_, hw, hz⟩
  · rw [gdD (by omega), f2]; intro hh; cases hh
  · rw [gdD (by omega)]; exact lp
  · rw [gdD (by omega), f2]; intro hh; cases hh
theorem ApR.asg (h : ApR W0 H n p l x v0 Kv L val W) (hs : p + 2 < L.size) (l1 : L.getD (p + 1) false = true) :
    ApR W0 H n p l x v0 Kv (L.setIfInBounds (p + 2) true) (setV val (p + 2) (val (p + 1))) W := by
  refine ⟨h.hH, fun j hj hl => ?_, h.bel, h.oth, ?_, ?_, ?_, fun _ => ?_, ?_, fun _ => ?_⟩
  · rw [setV_ne (by omega)]; exact h.known j hj (by rwa [gdD (by omega)] at hl)
  · rw [gdD (by omega)]; exact h.o0
  · rw [gdD (by omega), gdD (by omega), setV_ne (by omega)]; exact h.op
  · rw [gdD (by omega), setV_ne (by omega)]; exact h.oa
  · rw [setV_eq, setV_ne (by omega)]
  · rw [gdD (by omega), gdD (by omega)]; exact h.da
  · rw [gdD (by omega)]; exact l1
end
end Go.Proofs.Ytgbcdebnanejpaa
