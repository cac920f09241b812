/- Learning: the mathematics; samples and rows in memory; weigh. Over this seat's program; the conditions are named in each. -/
import Derived.Test.YtjdcjcanmeangaaGreatAb
import Derived.Laws.MakeOwn
import Derived.Laws.OwnMore
namespace Go.Proofs.YtjdcjcanmeangaaGreat
set_option linter.unusedVariables false
open Go.RowKit

/-- A sample. -/
structure Smp where
  x : List Int
  y : Bool
def xg (X : List Int) (i : Nat) : Int := X[i]?.getD 0
def sg (y : Bool) : Int := if y then 1 else -1
def dotF (f g : Nat → Int) : Nat → Int
  | 0 => 0
  | k + 1 => dotF f g k + f k * g k
/-- What has been learned. -/
structure TS where
  f : Nat → Int
  b : Int
  u : Nat
def learnS (n : Nat) (m : Int) (st : TS) (s : Smp) : TS :=
  if m < sg s.y * (st.b + dotF st.f (xg s.x) n) then st else ⟨fun i => st.f i + sg s.y * xg s.x i, st.b + sg s.y, st.u + 1⟩
def roundS (n : Nat) (m : Int) (l : List Smp) (st : TS) : TS := l.foldl (learnS n m) st
def initS : TS := ⟨fun _ => 0, 0, 0⟩
def trainS (n : Nat) (m : Int) (l : List Smp) : Nat → TS × Bool
  | 0 => (initS, false)
  | r + 1 => if (trainS n m l r).2 then trainS n m l r else (roundS n m l (trainS n m l r).1, (roundS n m l (trainS n m l r).1).u == (trainS n m l r).1.u)
/-- Bounds: of the updates so far. -/
structure TB (st : TS) : Prop where
  f : ∀ i, -(1000 * (st.u : Int)) ≤ st.f i ∧ st.f i ≤ 1000 * (st.u : Int)
  b : -(st.u : Int) ≤ st.b ∧ st.b ≤ (st.u : Int)
structure SmpOk (n : Nat) (s : Smp) : Prop where
  len : s.x.length = n
  rng : ∀ z ∈ s.x, -1000 ≤ z ∧ z ≤ 1000
theorem xg_rng {n : Nat} {s : Smp} (h : SmpOk n s) (i : Nat) : -1000 ≤ xg s.x i ∧ xg s.x i ≤ 1000 := by
  unfold xg
  cases hz : s.x[i]? with
  | none => simp
  | some z => exact h.rng z (List.mem_of_getElem? hz)
theorem sg_or (y : Bool) : sg y = 1 ∨ sg y = -1 := by cases y <;> simp [sg]
theorem mul_bound {a b A B : Int} (h1 : -A ≤ a ∧ a ≤ A) (h2 : -B ≤ b ∧ b ≤ B) (hA : 0 ≤ A) (hB : 0 ≤ B) : -(A * B) ≤ a * b ∧ a * b ≤ A * B := by
  have k1 : (a.natAbs : Int) ≤ A := by omega
  have k2 : (b.natAbs : Int) ≤ B := by omega
  have h : ((a * b).natAbs : Int) ≤ A * B := by
    rw [Int.natAbs_mul]; push_cast
    exact Int.mul_le_mul k1 k2 (by omega) hA
  omega
theorem dotF_bound {f g : Nat → Int} (hf : ∀ i, -256000000 ≤ f i ∧ f i ≤ 256000000) (hg : ∀ i, -1000 ≤ g i ∧ g i ≤ 1000) : ∀ k : Nat, -(256000000000 * (k : Int)) ≤ dotF f g k ∧ dotF f g k ≤ 256000000000 * (k : Int)
  | 0 => by simp [dotF]
  | k + 1 => by
    have h1 := dotF_bound hf hg k
    have h2 := mul_bound (hf k) (hg k) (by omega) (by omega)
    simp only [dotF]
    push_cast
    omega
theorem TB.init : TB initS := ⟨fun i => by simp [initS], by simp [initS]⟩
theorem TB.learn {n : Nat} {m : Int} {st : TS} {s : Smp} (h : TB st) (hs : SmpOk n s) : TB (learnS n m st s) := by
  unfold learnS
  split
  · exact h
  · refine ⟨fun i => ?_, ?_⟩
    · have h1 := h.f i
      have h2 := xg_rng hs i
      rcases sg_or s.y with e | e <;> simp only [e] <;> push_cast <;> omega
    · have h1 := h.b
      rcases sg_or s.y with e | e <;> simp only [e] <;> push_cast <;> omega
theorem learnS_u (n : Nat) (m : Int) (st : TS) (s : Smp) : st.u ≤ (learnS n m st s).u ∧ (learnS n m st s).u ≤ st.u + 1 := by
  unfold learnS; split <;> simp
theorem roundS_take {n : Nat} {m : Int} {l : List Smp} {st : TS} {k : Nat} {s : Smp} (h : l[k]? = some s) : roundS n m (l.take (k + 1)) st = learnS n m (roundS n m (l.take k) st) s := by
  unfold roundS
  rw [List.take_add_one, h, List.foldl_append]
  rfl
theorem roundS_u (n : Nat) (m : Int) (st : TS) : ∀ l : List Smp, st.u ≤ (roundS n m l st).u ∧ (roundS n m l st).u ≤ st.u + l.length := by
  intro l
  induction l generalizing st with
  | nil => simp [roundS]
  | cons s r ih =>
    have h1 := ih (learnS n m st s)
    have h2 := learnS_u n m st s
    simp only [roundS, List.foldl_cons, List.length_cons] at h1 ⊢
    omega
theorem roundS_TB {n : Nat} {m : Int} {st : TS} : ∀ l : List Smp, (∀ s ∈ l, SmpOk n s) → TB st → TB (roundS n m l st) := by
  intro l
  induction l generalizing st with
  | nil => intro _ h; exact h
  | cons s r ih =>
    intro hl h
    exact ih (fun t ht => hl t (List.mem_cons_of_mem _ ht)) (h.learn (hl s (List.mem_cons_self ..)))
theorem trainS_ok {n : Nat} {m : Int} {l : List Smp} (hl : ∀ s ∈ l, SmpOk n s) : ∀ r, TB (trainS n m l r).1 ∧ (trainS n m l r).1.u ≤ r * l.length
  | 0 => ⟨TB.init, by simp [trainS, initS]⟩
  | r + 1 => by
    obtain ⟨h1, h2⟩ := trainS_ok (m := m) hl r
    simp only [trainS]
    split
    · exact ⟨h1, by rw [Nat.succ_mul]; omega⟩
    · refine ⟨roundS_TB l hl h1, ?_⟩
      have := (roundS_u n m (trainS n m l r).1 l).2
      rw [Nat.succ_mul]; simp only; omega
theorem trainS_stop {n : Nat} {m : Int} {l : List Smp} {r : Nat} (h : (trainS n m l r).2 = true) : ∀ k, trainS n m l (r + k) = trainS n m l r
  | 0 => rfl
  | k + 1 => by
    rw [← Nat.add_assoc]
    have ih := trainS_stop h k
    show (if (trainS n m l (r + k)).2 then trainS n m l (r + k) else _) = _
    rw [ih, if_pos h]

/-! ### memory -/
def rowC (n : Nat) (f : Nat → Int) : List Value := (List.range n).map fun i => .int .i64 (f i)
theorem rowC_length (n : Nat) (f : Nat → Int) : (rowC n f).length = n := by simp [rowC]
theorem rowC_at {n : Nat} {f : Nat → Int} {i : Nat} (h : i < n) : (rowC n f)[i]? = some (.int .i64 (f i)) := by simp [rowC, h]
theorem rowC_congr {n : Nat} {f g : Nat → Int} (h : ∀ i, i < n → f i = g i) : rowC n f = rowC n g := by
  apply List.ext_getElem
  · simp [rowC]
  · intro j h1 h2
    simp only [rowC, List.getElem_map, List.getElem_range]
    rw [h j (by simpa [rowC] using h1)]
/-- A block that holds a row of ints. -/
def RowAt (W : World) (b n : Nat) (f : Nat → Int) : Prop := W.heap[b]? = some (.cells (rowC n f).toArray 3)
theorem RowAt.cell {W : World} {b n i : Nat} {f : Nat → Int} (h : RowAt W b n f) (hi : i < n) : W.cell? ⟨b, i, none⟩ = some (.int .i64 (f i)) ∧ W.frozen? ⟨b, i, none⟩ = false := by
  unfold RowAt at h
  have := rowC_at (f := f) hi
  constructor
  · simp [World.cell?, h]; simpa using this
  · simp [World.frozen?, h]
theorem RowAt.set {W : World} {b n i : Nat} {f : Nat → Int} (h : RowAt W b n f) (hi : i < n) (x : Int) : RowAt (W.setCell ⟨b, i, none⟩ (.int .i64 x)) b n (fun j => if j = i then x else f j) := by
  have e0 : (W.setCell ⟨b, i, none⟩ (.int .i64 x)).heap[b]? = some (.cells ((rowC n f).set i (.int .i64 x)).toArray 3) := by
    unfold RowAt at h
    simp [World.setCell, Array.getElem?_modify, h]
  unfold RowAt
  rw [e0]
  have e1 : (rowC n f).set i (.int .i64 x) = rowC n (fun j => if j = i then x else f j) := by
    apply List.ext_getElem
    · simp [rowC]
    · intro j h1 h2
      simp only [rowC, List.getElem_set, List.getElem_map, List.getElem_range]
      by_cases e : i = j
      · subst e; simp
      · rw [if_neg e, if_neg (fun h => e h.symm)]
  rw [e1]
theorem RowAt.congr {W : World} {b n : Nat} {f g : Nat → Int} (h : RowAt W b n f) (e : ∀ i, i < n → f i = g i) : RowAt W b n g := by
  unfold RowAt at *; rw [h, rowC_congr e]
theorem RowAt.kat {W : World} {b n : Nat} {f : Nat → Int} (h : RowAt W b n f) : KAt .i64 W (.slice (some ⟨b, 0, none⟩) n n) ((List.range n).map f) := by
  refine Or.inr ⟨b, 0, n, by simp, (Array.getElem?_eq_some_iff.1 h).1, fun j z hz => ?_⟩
  have hj : j < n := by have := (List.getElem?_eq_some_iff.1 hz).1; simpa using this
  have e : f j = z := by simpa [hj] using hz
  rw [Nat.zero_add, ← e]; exact (h.cell hj).1
theorem make_row (n : Nat) (hn : n ≤ 10000) (W : World) :
    (Instr.makeSlice 22 (.int .i64 (n : Int)) (.int .i64 (n : Int))).run Tryz.prog W = .ok (.slice (some ⟨W.heap.size, 0, none⟩) n n) (W.alloc (.cells (rowC n fun _ => 0).toArray 3)) := by
  obtain ⟨i, h1, h2, h3, h4⟩ := info_parts info3
  have hr := run_make (P := Tryz.prog) W 22 3 i (.int .i64 0) Tryz.underlying22 h1 h2 .i64 .i64 n n (by omega) (by omega) (by rw [h4]; omega) (by omega)
  rw [hr, h3]
  have e : madeCells (Value.int .i64 0).cells ((n : Int).toNat * 1) = (rowC n fun _ => 0).toArray := by
    apply Array.toList_inj.1
    rw [Int.toNat_natCast, Nat.mul_one, show (Value.int .i64 0).cells = #[.int .i64 0] from rfl, toList_madeCells_one]
    simp [rowC, List.map_const']
  rw [e]
  simp
/-- A row of ints to be read, at whatever place. -/
def RIn (W : World) (sv : Value) (zs : List Int) : Prop := (sv = .slice none 0 0 ∧ zs = []) ∨ ∃ ad c, sv = .slice (some ad) zs.length c ∧ ∀ j z, zs[j]? = some z → W.cell? (ad.add j) = some (.int .i64 z)
theorem RIn.below {W w1 : World} {sv : Value} {zs : List Int} (h : RIn W sv zs) (hb : Below W.heap.size W w1) : RIn w1 sv zs := by
  rcases h with h | ⟨ad, c, e, h⟩
  · exact .inl h
  · exact .inr ⟨ad, c, e, fun j z hz => (hb.cell (World.block_lt_of_cell? W _ (h j z hz))).trans (h j z hz)⟩
theorem RIn.at {W : World} {a : Option Addr} {n c : Nat} {l : List Int} (h : RIn W (.slice a n c) l) {k : Nat} {z : Int} (hk : l[k]? = some z) : ∃ ad, a = some ad ∧ (ad.add k).block < W.heap.size ∧ W.cell? (ad.add k) = some (.int .i64 z) := by
  rcases h with ⟨_, rfl⟩ | ⟨ad, c', e, h⟩
  · simp at hk
  · cases e
    exact ⟨ad, rfl, World.block_lt_of_cell? W _ (h k z hk), h k z hk⟩
theorem KAt.rin {W : World} {sv : Value} {zs : List Int} (h : KAt .i64 W sv zs) : RIn W sv zs := by
  rcases h with ⟨rfl, rfl⟩ | ⟨b, off, cap, rfl, hl, h⟩
  · exact .inl ⟨rfl, rfl⟩
  · refine .inr ⟨_, _, rfl, fun j z hz => ?_⟩
    rw [show (⟨b, off, none⟩ : Addr).add j = ⟨b, off + j, none⟩ by unfold Addr.add; split <;> simp_all]
    exact h j z hz
/-- A list of samples. -/
def SmpsAt (W : World) (sv : Value) (l : List Smp) : Prop :=
  (sv = .slice none 0 0 ∧ l = []) ∨ ∃ b off cap, sv = .slice (some ⟨b, off, none⟩) l.length cap ∧ b < W.heap.size ∧ ∀ j s, l[j]? = some s → ∃ sa c, W.cell? ⟨b, off + j * 2, none⟩ = some (.slice sa s.x.length c) ∧ W.cell? ⟨b, off + j * 2 + 1, none⟩ = some (.bool s.y) ∧ RIn W (.slice sa s.x.length c) s.x
theorem SmpsAt.below {W w1 : World} {sv : Value} {l : List Smp} (h : SmpsAt W sv l) (hb : Below W.heap.size W w1) : SmpsAt w1 sv l := by
  rcases h with h | ⟨b, off, cap, e, hl, h⟩
  · exact Or.inl h
  · refine Or.inr ⟨b, off, cap, e, Nat.lt_of_lt_of_le hl hb.size, fun j s hs => ?_⟩
    obtain ⟨sa, c, h1, h2, h3⟩ := h j s hs
    exact ⟨sa, c, ((bcell hb).1 _ _ hl).trans h1, ((bcell hb).1 _ _ hl).trans h2, h3.below hb⟩
theorem SmpsAt.at {W : World} {a : Option Addr} {n cap : Nat} {l : List Smp} (h : SmpsAt W (.slice a n cap) l) {k : Nat} {s : Smp} (hk : l[k]? = some s) : ∃ b off sa c, a = some ⟨b, off, none⟩ ∧ b < W.heap.size ∧ W.cell? ⟨b, off + k * 2, none⟩ = some (.slice sa s.x.length c) ∧ W.cell? ⟨b, off + k * 2 + 1, none⟩ = some (.bool s.y) ∧ RIn W (.slice sa s.x.length c) s.x := by
  rcases h with ⟨_, rfl⟩ | ⟨b, off, cap', e, hl, h⟩
  · simp at hk
  · cases e
    obtain ⟨sa, c, h1, h2, h3⟩ := h k s hk
    exact ⟨b, off, sa, c, rfl, hl, h1, h2, h3⟩

theorem worth_any (x : Int) (w : World) : Calls Tryz.prog 106 #[.int .i64 x] w fun e w' => e = .returned (.int .i64 x) ∧ w' = w := by
  go_enter Tryz.func106, Tryz.ntmps106
  go_wp2
  go_ret
  exact ⟨rfl, rfl⟩
set_option maxRecDepth 100000 in
set_option maxHeartbeats 2000000 in
theorem weigh_any (f : Nat → Int) (X : List Int) (n g : Nat) (hX : X.length = n) (hn : n ≤ 30) (hf : ∀ i, -256000000 ≤ f i ∧ f i ≤ 256000000) (hg : ∀ i, -1000 ≤ xg X i ∧ xg X i ≤ 1000) (sa : Option Addr) (c : Nat) (w : World)
    (hr : RowAt w g n f) (hk : RIn w (.slice sa n c) X) :
    Calls Tryz.prog 78 #[.slice (some ⟨g, 0, none⟩) n n, .slice sa n c, .func (.func 106) #[] #[]] w fun e w' => e = .returned (.int .i64 (dotF f (xg X) n)) ∧ ∃ m, w' = w.drewN m := by
  obtain ⟨A, hA⟩ : ∃ A, A = dotF f (xg X) n := ⟨_, rfl⟩
  rw [← hA]
  have HA := Lib.hid hA
  have HR := Lib.hid hr
  have HK := Lib.hid hk
  have HX := Lib.hid hX
  have HF := Lib.hid hf
  have HG := Lib.hid hg
  clear hA hr hk hX hf hg
  go_enter Tryz.func78, Tryz.ntmps78
  go_wp2
  go_loopw [7, 12] (fun s7 s12 wr => ∃ k : Nat, k ≤ n ∧ s12 = .int .i64 k ∧ s7 = .int .i64 (dotF f (xg X) k) ∧ ∃ m, wr = w.drewN m) (fun _ s12 _ => n - (intOf s12).toNat)
  case atStart => exact ⟨0, Nat.zero_le _, rfl, rfl, 0, rfl⟩
  case round =>
    obtain ⟨k, hk, rfl, rfl, m, hm⟩ := hrel
    have hb : Below w.heap.size w wr := by rw [hm]; exact below_drewN (Below.refl _ _) _
    have HM := Lib.hid hm
    clear hm
    have hd := dotF_bound HF.out HG.out k
    by_cases hlt : k < n
    · have hi0 : (0 : Int) ≤ (k : Int) := Int.natCast_nonneg _
      have hi1 : (k : Int) < (n : Int) := by omega
      obtain ⟨z, hz⟩ : ∃ z, X[k]? = some z := ⟨_, List.getElem?_eq_getElem (by rw [HX.out]; exact hlt)⟩
      obtain ⟨ad, rfl, hgl, hcc⟩ := (HK.out.below hb).at hz
      obtain ⟨hc1, hc2⟩ := ((show RowAt wr g n f from (hb.block g (lt_of_block HR.out)).trans HR.out)).cell hlt
      have hxz : xg X k = z := by unfold xg; rw [hz]; rfl
      have hzr := HG.out k
      have hfr := HF.out k
      rw [hxz] at hzr
      have hp := mul_bound hfr hzr (by omega) (by omega)
      have hs : dotF f (xg X) (k + 1) = dotF f (xg X) k + f k * z := by simp only [dotF, hxz]
      obtain ⟨D, hD⟩ : ∃ D, D = dotF f (xg X) k := ⟨_, rfl⟩
      rw [← hD] at hd hs ⊢
      obtain ⟨F, hF⟩ : ∃ F, F = f k := ⟨_, rfl⟩
      rw [← hF] at hs hp hc1 hfr
      obtain ⟨Pp, hP⟩ : ∃ Pp, F * z = Pp := ⟨_, rfl⟩
      rw [hP] at hp hs
      have w1 : wrap64 Pp = Pp := by unfold wrap64; omega
      have w2 : wrap64 (D + Pp) = D + Pp := by unfold wrap64; omega
      have HS := Lib.hid hs
      clear hz hb hk hs hxz hF hD hd hp hzr hfr hlt
      go_wp2
      go_quiet ((go_at_call 106; exact Calls.quiet_of_same (worth_any _ _)))
      go_wp2
      go_roundw
      case rel => exact ⟨k + 1, by omega, by go_num, by rw [HS.out, w2], m + nq, by rw [HM.out, World.drewN_drewN]⟩
      case measure => simp [intOf]; omega
    · obtain rfl : k = n := by omega
      clear hlt hk hb hd
      go_wp2
      go_ret
      exact ⟨by rw [HA.out]; rfl, m, HM.out⟩
end Go.Proofs.YtjdcjcanmeangaaGreat
