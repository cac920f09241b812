/- Images in memory, and what an argument that is an image reads as. Over this seat's program. -/
import Derived.Test.YtgbcdebnanejpaaT1
import Derived.Test.YtgbcdebnanejpaaNx
import Derived.Deep.Matrix
import Derived.Laws.CopyOwn
import Derived.StillTailTactics
namespace Go.Proofs.Ytgbcdebnanejpaa
set_option linter.unusedVariables false
open Go.RowKit Go.Shelf Go.Deep

structure ImgM where
  tk : Int
  st : List (Int × Int)
  du : List (List Int)
/-- A list of states. -/
def StsAt (W : World) (v : Value) (l : List (Int × Int)) : Prop :=
  (v = .slice none 0 0 ∧ l = []) ∨ ∃ b off cap, v = .slice (some ⟨b, off, none⟩) l.length cap ∧ b < W.heap.size ∧ ∀ k s, l[k]? = some s → W.cell? ⟨b, off + k * 2, none⟩ = some (.int .i64 s.1) ∧ W.cell? ⟨b, off + k * 2 + 1, none⟩ = some (.int .i64 s.2)
/-- A row of ints, wherever it lies. -/
def RowIn (W : World) (u : Value) (r : List Int) : Prop := ∃ a c, u = .slice a r.length c ∧ ∀ j, j < r.length → ∃ ad, a = some ad ∧ W.cell? (ad.add j) = some (.int .i64 (r[j]?.getD 0))
/-- A list of rows of ints. -/
def RowsIn (W : World) (v : Value) (l : List (List Int)) : Prop :=
  (v = .slice none 0 0 ∧ l = []) ∨ ∃ b off cap, v = .slice (some ⟨b, off, none⟩) l.length cap ∧ b < W.heap.size ∧ ∀ k r, l[k]? = some r → ∃ u, W.cell? ⟨b, off + k, none⟩ = some u ∧ RowIn W u r
def ImgAt (W : World) (v : Value) (x : ImgM) : Prop := ∃ v1 v2, v = .agg #[.int .i64 x.tk, v1, v2] ∧ StsAt W v1 x.st ∧ RowsIn W v2 x.du

section
variable {W W' : World} {v u : Value}
theorem StsAt.below {l : List (Int × Int)} (h : StsAt W v l) (hb : Below W.heap.size W W') : StsAt W' v l := by
  rcases h with h | ⟨b, off, cap, e, hl, h⟩
  · exact .inl h
  · refine .inr ⟨b, off, cap, e, Nat.lt_of_lt_of_le hl hb.size, fun k s hk => ?_⟩
    obtain ⟨h1, h2⟩ := h k s hk
    exact ⟨(hb.cell (p := ⟨b, _, none⟩) hl).trans h1, (hb.cell (p := ⟨b, _, none⟩) hl).trans h2⟩
theorem RowIn.below {r : List Int} (h : RowIn W u r) (hb : Below W.heap.size W W') : RowIn W' u r := by
  obtain ⟨a, c, e, h⟩ := h
  refine ⟨a, c, e, fun j hj => ?_⟩
  obtain ⟨ad, e1, h1⟩ := h j hj
  exact ⟨ad, e1, (hb.cell (World.block_lt_of_cell? W _ h1)).trans h1⟩
theorem RowsIn.below {l : List (List Int)} (h : RowsIn W v l) (hb : Below W.heap.size W W') : RowsIn W' v l := by
  rcases h with h | ⟨b, off, cap, e, hl, h⟩
  · exact .inl h
  · refine .inr ⟨b, off, cap, e, Nat.lt_of_lt_of_le hl hb.size, fun k r hk => ?_⟩
    obtain ⟨u, h1, h2⟩ := h k r hk
    exact ⟨u, (hb.cell (p := ⟨b, _, none⟩) hl).trans h1, h2.below hb⟩
theorem ImgAt.below {x : ImgM} (h : ImgAt W v x) (hb : Below W.heap.size W W') : ImgAt W' v x := by
  obtain ⟨v1, v2, e, h1, h2⟩ := h
  exact ⟨v1, v2, e, h1.below hb, h2.below hb⟩
theorem StsAt.form {l : List (Int × Int)} (h : StsAt W v l) : ∃ a c, v = .slice a l.length c := by
  rcases h with ⟨e, rfl⟩ | ⟨b, off, cap, e, _⟩
  · exact ⟨_, _, e⟩
  · exact ⟨_, _, e⟩
theorem RowsIn.form {l : List (List Int)} (h : RowsIn W v l) : ∃ a c, v = .slice a l.length c := by
  rcases h with ⟨e, rfl⟩ | ⟨b, off, cap, e, _⟩
  · exact ⟨_, _, e⟩
  · exact ⟨_, _, e⟩
theorem StsAt.at {a : Option Addr} {n c : Nat} {l : List (Int × Int)} (h : StsAt W (.slice a n c) l) {k : Nat} {s : Int × Int} (hk : l[k]? = some s) :
    ∃ b off, a = some ⟨b, off, none⟩ ∧ b < W.heap.size ∧ W.cell? ⟨b, off + k * 2, none⟩ = some (.int .i64 s.1) ∧ W.cell? ⟨b, off + k * 2 + 1, none⟩ = some (.int .i64 s.2) := by
  rcases h with ⟨_, rfl⟩ | ⟨b, off, cap, e, hl, h⟩
  · simp at hk
  · cases e
    exact ⟨b, off, rfl, hl, h k s hk⟩
theorem RowsIn.at {a : Option Addr} {n c : Nat} {l : List (List Int)} (h : RowsIn W (.slice a n c) l) {k : Nat} {r : List Int} (hk : l[k]? = some r) :
    ∃ b off a' c', a = some ⟨b, off, none⟩ ∧ b < W.heap.size ∧ W.cell? ⟨b, off + k, none⟩ = some (.slice a' r.length c') ∧ RowIn W (.slice a' r.length c') r := by
  rcases h with ⟨_, rfl⟩ | ⟨b, off, cap, e, hl, h⟩
  · simp at hk
  · cases e
    obtain ⟨u, h1, h2⟩ := h k r hk
    obtain ⟨a', c', rfl, _⟩ := id h2
    exact ⟨b, off, a', c', rfl, hl, h1, h2⟩
theorem RowIn.at {a : Option Addr} {n c : Nat} {r : List Int} (h : RowIn W (.slice a n c) r) {k : Nat} {x : Int} (hk : r[k]? = some x) :
    ∃ ad, a = some ad ∧ (ad.add k).block < W.heap.size ∧ W.cell? (ad.add k) = some (.int .i64 x) := by
  obtain ⟨a', c', e, h⟩ := h
  obtain ⟨ad, e1, h1⟩ := h k (List.getElem?_eq_some_iff.1 hk).1
  rw [hk] at h1
  cases e
  exact ⟨ad, e1, World.block_lt_of_cell? W _ h1, h1⟩
theorem IntsAt.rowIn {r : List Int} (h : IntsAt W v r) : RowIn W v r := by
  rcases h with ⟨e, rfl⟩ | ⟨b, off, cap, e, h⟩
  · exact ⟨_, _, e, fun j hj => by simp at hj⟩
  · refine ⟨_, _, e, fun j hj => ⟨_, rfl, ?_⟩⟩
    rw [← h j hj]
    congr 1
    unfold Addr.add
    split <;> simp_all
theorem ownsRow_rowIn {B : Nat} {r : List Int} {t : TypeId} (h : W.ownsRow B t 1 v r.length (r.map (Value.int .i64))) : RowIn W v r := by
  rcases ownsRow_forms h with ⟨e, h0⟩ | ⟨g, cap, rfl⟩
  · exact ⟨_, _, by rw [h0]; exact e, fun j hj => by omega⟩
  · refine ⟨_, _, rfl, fun j hj => ⟨_, rfl, h.cells rfl j _ ?_⟩⟩
    simp [hj]
end

theorem cells98 : Try.prog.cellsOf 98 = 2 := by kernel_rfl
theorem cells44 : Try.prog.cellsOf 44 = 1 := by kernel_rfl
section
variable {H : Type} {enc : TypeId × Value → H} {w : World} {base : Nat} {held : Bool}
set_option maxRecDepth 100000 in
theorem open_sts {r : Reach} {b0 fuel : Nat} {v : Value} {x : DataW H × List MemPlace} (hv : Cell.okWide Try.prog w r b0 61 v) (h : DataW.trod enc Try.prog w base (fun _ => true) held fuel 61 [v] = some x) :
    ∃ l, StsAt w v l := by
  rcases cellOkWide_slice Try.underlying61 hv with rfl | ⟨b, off, n, cap, rfl, hl⟩
  · exact ⟨[], Or.inl ⟨rfl, rfl⟩⟩
  · obtain ⟨hm, hc⟩ := open_slice_rows (i0 := 3) (m := 2) Try.underlying61 Try.underlying98 Try.underlying3 (by
      intro i f hf
      match i, hf with
      | 0, hf | 1, hf => cases hf; exact ⟨rfl, rfl, by kernel_rfl⟩
      | n + 2, hf => simp at hf) (by rfl) cells98 h
    refine ⟨(List.range n).map fun i => (icell w b (off + i * 2 + 0), icell w b (off + i * 2 + 1)), Or.inr ⟨b, off, cap, by simp, hl, fun k s hk => ?_⟩⟩
    have hkn : k < n := by
      have := (List.getElem?_eq_some_iff.mp hk).1
      simpa using this
    obtain rfl : (icell w b (off + k * 2 + 0), icell w b (off + k * 2 + 1)) = s := by simpa [hkn] using hk
    exact ⟨icell_at (hc k 0 hkn (by omega)), icell_at (hc k 1 hkn (by omega))⟩
set_option maxRecDepth 100000 in
theorem open_rows {r : Reach} {b0 fuel : Nat} {v : Value} {x : DataW H × List MemPlace} (hv : Cell.okWide Try.prog w r b0 62 v) (h : DataW.trod enc Try.prog w base (fun _ => true) held fuel 62 [v] = some x) :
    ∃ l, RowsIn w v l := by
  rcases cellOkWide_slice Try.underlying62 hv with rfl | ⟨b, off, n, cap, rfl, hl⟩
  · exact ⟨[], Or.inl ⟨rfl, rfl⟩⟩
  · rcases open_int_rows Try.underlying62 Try.underlying44 Try.underlying3 cells44 (by kernel_rfl) h with ⟨h0, _⟩ | ⟨a, len, cap', A, L, C, Z, h1, _, hle, _, _, hr⟩
    · simp at h0
    · simp at h1
      obtain ⟨rfl, rfl, rfl⟩ := h1
      refine ⟨(List.range n).map fun i => (Z i).take (L i), Or.inr ⟨b, off, cap, by simp, hl, fun k z hk => ?_⟩⟩
      have hkn : k < n := by
        have := (List.getElem?_eq_some_iff.mp hk).1
        simpa using this
      obtain rfl : (Z k).take (L k) = z := by simpa [hkn] using hk
      obtain ⟨c1, c2, c3, c4, _, c6, c7⟩ := hr k (by omega)
      have hlen : ((Z k).take (L k)).length = L k := by simp; omega
      refine ⟨.slice (A k) (L k) (C k), by rw [← c1]; congr 1; unfold Addr.add; split <;> simp_all, A k, C k, by rw [hlen], fun j hj => ?_⟩
      rw [hlen] at hj
      cases hA : A k with
      | none => have := c6 hA; omega
      | some ad =>
        refine ⟨ad, rfl, ?_⟩
        rw [(c7 ad hA).2 j (by omega), List.getElem?_take, if_pos hj, List.getD_eq_getElem?_getD]
set_option maxRecDepth 100000 in
/-- An image by value. -/
theorem open_img {r : Reach} {b0 : Nat} {v : Value} {d : DataW H} {p : List MemPlace} (hv : Value.okWide Try.prog w r b0 66 v) (h : DataW.Trod enc Try.prog w base (fun _ => true) held 66 v d p) :
    ∃ x : ImgM, ImgAt w v x := by
  have hv' := hv
  simp only [Value.okWide, Try.underlying66] at hv'
  obtain ⟨cs, rfl, hsz, ts, hts, _, hrow⟩ := hv'
  have hts' : Try.prog.cellTypes Try.prog.depth 66 = some [3, 61, 62] := by kernel_rfl
  rw [hts'] at hts
  cases hts
  have hc66 : Try.prog.cellsOf 66 = 3 := by kernel_rfl
  rw [hc66] at hsz
  obtain ⟨cl⟩ := cs
  match cl, hsz with
  | [v0, v1, v2], _ =>
    obtain ⟨u1, e1, k1⟩ := hrow 1 v1 rfl
    obtain ⟨u2, e2, k2⟩ := hrow 2 v2 rfl
    obtain rfl : 61 = u1 := by simpa using e1
    obtain rfl : 62 = u2 := by simpa using e2
    obtain ⟨fuel, hfu⟩ := h
    obtain ⟨xs, g, _, _, hcl, hxl, hg⟩ := DataW.trod_struct Try.underlying66 hfu
    have hxl' : xs.length = 3 := hxl
    match xs, hxl' with
    | [x0, x1, x2], _ =>
      have g0 := hg 0 _ rfl
      have g1 := hg 1 _ rfl
      have g2 := hg 2 _ rfl
      simp [Value.cells, show Try.prog.cellsOf 61 = 1 from by kernel_rfl, show Try.prog.cellsOf 3 = 1 from by kernel_rfl, show Try.prog.cellsOf 62 = 1 from by kernel_rfl] at g0 g1 g2
      obtain ⟨st, hs⟩ := open_sts k1 g1
      obtain ⟨du, hd⟩ := open_rows k2 g2
      obtain ⟨z, hz, _, _⟩ := DataW.trod_int Try.underlying3 g0
      obtain rfl : v0 = .int .i64 z := by simpa using hz
      exact ⟨⟨z, st, du⟩, v1, v2, rfl, hs, hd⟩
end
end Go.Proofs.Ytgbcdebnanejpaa
namespace Go.Proofs.Ytgbcdebnanejpaa
set_option linter.unusedVariables false
open Go.RowKit Go.Shelf

def stGood (ps : List Prm) (st : List (Int × Int)) : Bool := (List.range st.length).all fun i => decide (validP (pAt ps i) (sAt st i).1 (sAt st i).2 = 0)
def rowGood (r : List Int) : Bool := r.all fun d => inR d (-268435456) 268435456
/-- What an image's check says. -/
def imgErr (n : NetM) (x : ImgM) : Int :=
  if inR x.tk 0 10000 = false then 3 else if x.st.length ≠ n.ps.length then 13 else if x.du.length ≠ 16 then 13
  else if (x.du.all fun r => decide (r.length = n.ps.length)) = false then 13 else if stGood n.ps x.st = false then 3 else if (x.du.all rowGood) = false then 3 else 0
theorem allAt {α : Type} {l : List α} {f : α → Bool} {k : Nat} {s : α} (h : l[k]? = some s) (hs : f s = false) : l.all f = false := by
  rw [Bool.eq_false_iff]
  intro h'
  rw [List.all_eq_true] at h'
  have := h' s (List.mem_of_getElem? h)
  rw [hs] at this
  cases this
theorem allTo {α : Type} {l : List α} {f : α → Bool} (h : ∀ k s, k < l.length → l[k]? = some s → f s = true) : l.all f = true := by
  rw [List.all_eq_true]
  intro s hs
  obtain ⟨k, hk, e⟩ := List.mem_iff_getElem.1 hs
  exact h k s hk (by rw [List.getElem?_eq_getElem hk, e])
theorem stGood_bad {ps : List Prm} {st : List (Int × Int)} {k : Nat} (hk : k < st.length) (h : validP (pAt ps k) (sAt st k).1 (sAt st k).2 ≠ 0) : stGood ps st = false :=
  allAt (k := k) (s := k) (by simp [hk]) (by simp [h])
theorem stGood_to {ps : List Prm} {st : List (Int × Int)} (h : ∀ k, k < st.length → validP (pAt ps k) (sAt st k).1 (sAt st k).2 = 0) : stGood ps st = true :=
  allTo fun k s hk hs => by
    have : s = k := by simp at hk; simp [hk] at hs; exact hs.symm
    subst this
    simpa using h s (by simpa using hk)
def ImgBox (W : World) (b : Nat) (t : TypeId) (tk : Int) (v1 v2 : Value) : Prop := W.heap[b]? = some (.cells #[.int .i64 tk, v1, v2] t)
/-- The boxes of a network and an image. -/
structure Boxed2 (W : World) (b t : Nat) (sp : Value) (inp : Int) (ss : Value) (tk : Int) (v1 v2 : Value) : Prop where
  net : NetBox W b sp inp ss
  img : ImgBox W (b + 1) t tk v1 v2
theorem Boxed2.below {W W' : World} {b t : Nat} {sp ss v1 v2 : Value} {inp tk : Int} (h : Boxed2 W b t sp inp ss tk v1 v2) (hb : Below W.heap.size W W') : Boxed2 W' b t sp inp ss tk v1 v2 :=
  ⟨(hb.block _ (lt_of_block h.net)).trans h.net, (hb.block _ (lt_of_block h.img)).trans h.img⟩
theorem boxed2 (w : World) (t : TypeId) (sp ss v1 v2 : Value) (inp tk : Int) : Boxed2 ((w.alloc (.cells #[sp, .int .i64 inp, ss] 25)).alloc (.cells #[.int .i64 tk, v1, v2] t)) w.heap.size t sp inp ss tk v1 v2 :=
  ⟨(Below.heap_alloc _ _ _ (by simp)).trans (alloc_new_at _ _ _ rfl), alloc_new_at _ _ _ (by simp)⟩

set_option maxRecDepth 100000 in
set_option maxHeartbeats 8000000 in
theorem checkImage_any (n : NetM) (hok : NetOk n) (x : ImgM) (a1 a2 a3 a4 : Option Addr) (c1 c2 c3 c4 : Nat) (w : World) (hp : PsAt w (.slice a1 n.ps.length c1) n.ps) (hs : StsAt w (.slice a3 x.st.length c3) x.st) (hd : RowsIn w (.slice a4 x.du.length c4) x.du) :
    Calls Try.prog 82 #[.agg #[.slice a1 n.ps.length c1, .int .i64 n.inp, .slice a2 n.ss.length c2], .agg #[.int .i64 x.tk, .slice a3 x.st.length c3, .slice a4 x.du.length c4]] w fun e w' => e = .returned (.int .i64 (imgErr n x)) ∧ Below w.heap.size w w' := by
  obtain ⟨X, hX⟩ : ∃ X, X = imgErr n x := ⟨_, rfl⟩
  rw [← hX]
  unfold imgErr at hX
  have ham := fun W => namong_any x.tk 0 10000 W
  obtain ⟨B0, hB0⟩ : ∃ B, B = inR x.tk 0 10000 := ⟨_, rfl⟩
  rw [← hB0] at ham hX
  have hps := hok.ps
  obtain ⟨N, hN⟩ : ∃ N, N = n.ps.length := ⟨_, rfl⟩
  have hN1 : N ≤ 1024 := by rw [hN]; exact hok.p1
  obtain ⟨m, hm⟩ : ∃ m, m = x.st.length := ⟨_, rfl⟩
  obtain ⟨q, hq⟩ : ∃ q, q = x.du.length := ⟨_, rfl⟩
  have hp0 := hp; have hs0 := hs; have hd0 := hd
  rw [← hN, ← hm, ← hq] at hX
  rw [← hN, ← hm, ← hq]
  rw [← hN] at hp
  rw [← hm] at hs
  rw [← hq] at hd
  have HP := Lib.hid hp
  have HS := Lib.hid hs
  have HD := Lib.hid hd
  have HN := Lib.hid hN
  have HM := Lib.hid hm
  have HQ := Lib.hid hq
  have HAM := Lib.hid ham
  have HPS := Lib.hid hps
  have hbb := boxed2 w 66 (.slice a1 N c1) (.slice a2 n.ss.length c2) (.slice a3 m c3) (.slice a4 q c4) n.inp x.tk
  have hb0 : Below w.heap.size w ((w.alloc (.cells #[.slice a1 N c1, .int .i64 n.inp, .slice a2 n.ss.length c2] 25)).alloc (.cells #[.int .i64 x.tk, .slice a3 m c3, .slice a4 q c4] 66)) := ((Below.refl _ _).alloc (Nat.le_refl _) _).alloc (by simp) _
  have HBB := Lib.hid hbb
  have H0 := Lib.hid hb0
  clear hp hs hd hp0 hs0 hd0 hN hm hq ham hps hB0 hbb hb0 hok
  cases B0 with
  | false =>
    rw [if_pos rfl] at hX
    subst hX
    clear HP HS HD
    go_enter Try.func82, Try.ntmps82
    go_wp2_with (go_at_call 55; with_reducible refine (HAM.out _).mono ?_; rintro e wq ⟨rfl, rfl⟩)
    go_ret
    exact ⟨rfl, H0.out⟩
  | true =>
    rw [if_neg (by simp)] at hX
    by_cases hmN : m = N
    · rw [if_neg (by omega)] at hX
      by_cases hq6 : q = 16
      · rw [if_neg (by omega)] at hX
        have hX1 := Lib.hid hX
        clear hX
        subst hmN
        subst hq6
        have g1 : ((m : Int) != (m : Int)) = false := by simp
        go_enter Try.func82, Try.ntmps82
        go_wp2_with (go_at_call 55; with_reducible refine (HAM.out _).mono ?_; rintro e wq ⟨rfl, rfl⟩)
        generalize (w.alloc (.cells #[.slice a1 m c1, .int .i64 n.inp, .slice a2 n.ss.length c2] 25)).alloc (.cells #[.int .i64 x.tk, .slice a3 m c3, .slice a4 16 c4] 66) = W0 at *
        go_loopw [33] (fun i wr => ∃ k : Nat, k ≤ 16 ∧ i = .int .i64 k ∧ Below W0.heap.size W0 wr ∧ ∀ j r, j < k → x.du[j]? = some r → r.length = m) (fun i _ => 16 - (intOf i).toNat)
        case atStart => exact ⟨0, Nat.zero_le _, rfl, Below.refl _ _, fun j r h => by omega⟩
        case round =>
          obtain ⟨k, hk, rfl, hb, hg⟩ := hrel
          have hk0 : (0 : Int) ≤ (k : Int) := Int.natCast_nonneg _
          have hbw := H0.out.trans (hb.mono H0.out.size)
          obtain ⟨_, _, _⟩ := cells3 (HBB.out.below hb).net
          by_cases hlt : k < 16
          · have hk1 : (k : Int) < 16 := by omega
            obtain ⟨r, hr⟩ : ∃ r, x.du[k]? = some r := ⟨_, List.getElem?_eq_getElem (by rw [← HQ.out]; exact hlt)⟩
            obtain ⟨b, off, a', c', rfl, hbl, hc, _⟩ := HD.out.at hr
            have hcb := ((hbw.cell (p := ⟨b, off + k, none⟩) hbl).trans hc)
            have HB := Lib.hid hb
            have HG := Lib.hid hg
            have HR := Lib.hid hr
            have HBW := Lib.hid hbw
            clear hb hg hr hc hbw
            obtain ⟨L, hL⟩ : ∃ L, L = r.length := ⟨_, rfl⟩
            rw [← hL] at hcb
            have HL := Lib.hid hL
            clear hL
            by_cases hLm : L = m
            · subst hLm
              go_wp2
              go_roundw
              case rel =>
                refine ⟨k + 1, by omega, by go_num, HB.out, fun j r' h1 h2 => ?_⟩
                by_cases e : j = k
                · subst e; rw [HR.out] at h2; cases h2; exact HL.out.symm
                · exact HG.out j r' (by omega) h2
              case measure => simp [intOf]; omega
            · have g2 : ((L : Int) != (m : Int)) = true := by simp; omega
              go_wp2
              go_ret
              refine ⟨ret_int ?_, HBW.out⟩
              rw [hX1.out, if_pos (allAt HR.out (by simp only [decide_eq_false_iff_not]; rw [← HL.out]; exact hLm))]
          · have hk6 : k = 16 := by omega
            have hkF : ((k : Int) < 16) = False := by simp; omega
            have HK6 := Lib.hid hk6
            have hX2 : X = if stGood n.ps x.st = false then 3 else if (x.du.all rowGood) = false then 3 else 0 := by
              rw [hX1.out, if_neg]
              rw [allTo fun j r h1 h2 => by simpa [← HN.out] using hg j r (by rw [← HQ.out] at h1; omega) h2]
              simp
            have HX2 := Lib.hid hX2
            have HG := Lib.hid hg
            have HB := Lib.hid hb
            obtain ⟨_, _, _⟩ := cells3 (HBB.out.below hb).img
            clear hX1 hX2 hlt hbw hg hb hk6
            go_wp2
            have HG0 := Lib.hid (fun j r (h1 : j < 16) h2 => HG.out j r (by have := HK6.out; omega) h2)
            clear hk hk0 hkF HG
            have HG := HG0
            clear HG0
            have hz0 := lt_of_block HBB.out.img
            go_loopw [47] (fun i wr => ∃ k : Nat, k ≤ m ∧ i = .int .i64 k ∧ Below W0.heap.size W0 wr ∧ ∀ j, j < k → validP (pAt n.ps j) (sAt x.st j).1 (sAt x.st j).2 = 0) (fun i _ => m - (intOf i).toNat)
            case atStart => exact ⟨0, Nat.zero_le _, rfl, HB.out, fun j h => by omega⟩
            case round =>
              obtain ⟨k, hk, rfl, hb, hg⟩ := hrel
              have hk0 : (0 : Int) ≤ (k : Int) := Int.natCast_nonneg _
              have hbw := H0.out.trans (hb.mono H0.out.size)
              have hzr := hb.size
              by_cases hlt : k < m
              · have hk1 : (k : Int) < (m : Int) := by omega
                obtain ⟨p, hp⟩ : ∃ p, n.ps[k]? = some p := ⟨_, List.getElem?_eq_getElem (by rw [← HN.out]; exact hlt)⟩
                have hs : x.st[k]? = some (sAt x.st k) := by simp [sAt, ← HM.out, hlt]
                obtain ⟨b, off, rfl, hbl, hc1, hc2⟩ := HS.out.at hs
                obtain ⟨pb, po, rfl, hpl, hpc⟩ := HP.out.at hp
                have hpA : pAt n.ps k = p := by simp [pAt, hp]
                have hv := fun W => valid_any p (sAt x.st k).1 (sAt x.st k).2 W
                obtain ⟨E, hE⟩ : ∃ E, E = validP p (sAt x.st k).1 (sAt x.st k).2 := ⟨_, rfl⟩
                rw [← hE] at hv
                have hE0 : E = 0 ∨ E ≠ 0 := by omega
                obtain ⟨V, hV⟩ : ∃ V, V = (sAt x.st k).1 := ⟨_, rfl⟩
                obtain ⟨R, hR⟩ : ∃ R, R = (sAt x.st k).2 := ⟨_, rfl⟩
                rw [← hV, ← hR] at hv
                rw [← hV] at hc1
                rw [← hR] at hc2
                have hcb1 := (hbw.cell (p := ⟨b, off + k * 2, none⟩) hbl).trans hc1
                have hcb2 := (hbw.cell (p := ⟨b, off + k * 2 + 1, none⟩) hbl).trans hc2
                have HB := Lib.hid hb
                have HG := Lib.hid hg
                have HBW := Lib.hid hbw
                have HPC := Lib.hid (hpc.below hbw hpl)
                have HV := Lib.hid hv
                have HE : Hid (E = validP (pAt n.ps k) (sAt x.st k).1 (sAt x.st k).2) := Lib.hid (by rw [hpA]; exact hE)
                have hzb : b < wr.heap.size := by have := hbw.size; omega
                have hzp : pb < wr.heap.size := by have := hbw.size; omega
                have hz1 : w.heap.size < wr.heap.size := by omega
                clear hb hg hbw hv hE hV hR hc1 hc2 hpc hpA hp hs
                go_upto_region 14 with (fail)
                have hnb : (wr.alloc (.cells #[.int .i64 V, .int .i64 R] 98)).heap[wr.heap.size]? = some (.cells #[.int .i64 V, .int .i64 R] 98) := alloc_new_at _ _ _ rfl
                have hbl2 : Below wr.heap.size wr (wr.alloc (.cells #[.int .i64 V, .int .i64 R] 98)) := (Below.refl _ _).alloc (Nat.le_refl _) _
                generalize wr.alloc (.cells #[.int .i64 V, .int .i64 R] 98) = W2 at *
                obtain ⟨_, _, _, _⟩ := cells2 hnb
                obtain ⟨_, _, _, _, _, _, _, _⟩ := HPC.out.below hbl2 hzp
                obtain ⟨_, _, _⟩ := cells3 ((HBB.out.below HB.out).below hbl2).net
                have HNB := Lib.hid hnb
                have HL2 := Lib.hid hbl2
                clear hnb hbl2
                rcases hE0 with hE0 | hE0
                · have gg : (E != 0) = false := by simp [hE0]
                  have HE0 := Lib.hid hE0
                  clear hE0
                  go_region_held3 (fun w' => w'.cell? ⟨w.heap.size, 0, none⟩ = some (.slice (some ⟨pb, po, none⟩) m c1) ∧ w'.cell? ⟨pb, po + k * 8, none⟩ = some (.int .i64 p.lk) ∧ w'.cell? ⟨pb, po + k * 8 + 1, none⟩ = some (.int .i64 p.lv) ∧ w'.cell? ⟨pb, po + k * 8 + 2, none⟩ = some (.int .i64 p.bi) ∧ w'.cell? ⟨pb, po + k * 8 + 3, none⟩ = some (.int .i64 p.th) ∧ w'.cell? ⟨pb, po + k * 8 + 4, none⟩ = some (.int .i64 p.rk) ∧ w'.cell? ⟨pb, po + k * 8 + 5, none⟩ = some (.int .i64 p.rs) ∧ w'.cell? ⟨pb, po + k * 8 + 6, none⟩ = some (.int .i64 p.fl) ∧ w'.cell? ⟨pb, po + k * 8 + 7, none⟩ = some (.int .i64 p.re) ∧ w'.cell? ⟨wr.heap.size, 0, none⟩ = some (.int .i64 V) ∧ w'.cell? ⟨wr.heap.size, 1, none⟩ = some (.int .i64 R)) (first | (go_keep; done) | fail) ((go_at_call 109; refine (HV.out _).mono ?_; rintro e w6 ⟨rfl, hb6⟩; have q6 : Below W2.heap.size W2 w6 := ⟨hb6.os, hb6.tape, hb6.output, hb6.size, hb6.block⟩; obtain ⟨_, _, _, _⟩ := cells2 ((q6.block _ (lt_of_block HNB.out)).trans HNB.out); obtain ⟨_, _, _, _, _, _, _, _⟩ := (HPC.out.below HL2.out hzp).below q6 (by have := HL2.out.size; omega); obtain ⟨_, _, _⟩ := cells3 (((HBB.out.below HB.out).below HL2.out).below q6).net; have Q6 := Lib.hid q6; clear hb6 q6))
                  go_wp2
                  go_roundw
                  case rel =>
                    have hq := HL2.out.trans (Q6.out.mono HL2.out.size)
                    refine ⟨k + 1, by omega, by go_num, HB.out.trans (hq.mono HB.out.size), fun j h1 => ?_⟩
                    by_cases e : j = k
                    · subst e; rw [← HE.out]; exact HE0.out
                    · exact HG.out j (by omega)
                  case measure => simp [intOf]; omega
                · have gg : (E != 0) = true := by simp [hE0]
                  have HE0 := Lib.hid hE0
                  clear hE0
                  go_region_held3 (fun w' => w'.cell? ⟨w.heap.size, 0, none⟩ = some (.slice (some ⟨pb, po, none⟩) m c1) ∧ w'.cell? ⟨pb, po + k * 8, none⟩ = some (.int .i64 p.lk) ∧ w'.cell? ⟨pb, po + k * 8 + 1, none⟩ = some (.int .i64 p.lv) ∧ w'.cell? ⟨pb, po + k * 8 + 2, none⟩ = some (.int .i64 p.bi) ∧ w'.cell? ⟨pb, po + k * 8 + 3, none⟩ = some (.int .i64 p.th) ∧ w'.cell? ⟨pb, po + k * 8 + 4, none⟩ = some (.int .i64 p.rk) ∧ w'.cell? ⟨pb, po + k * 8 + 5, none⟩ = some (.int .i64 p.rs) ∧ w'.cell? ⟨pb, po + k * 8 + 6, none⟩ = some (.int .i64 p.fl) ∧ w'.cell? ⟨pb, po + k * 8 + 7, none⟩ = some (.int .i64 p.re) ∧ w'.cell? ⟨wr.heap.size, 0, none⟩ = some (.int .i64 V) ∧ w'.cell? ⟨wr.heap.size, 1, none⟩ = some (.int .i64 R)) (first | (go_keep; done) | fail) ((go_at_call 109; refine (HV.out _).mono ?_; rintro e w6 ⟨rfl, hb6⟩; have q6 : Below W2.heap.size W2 w6 := ⟨hb6.os, hb6.tape, hb6.output, hb6.size, hb6.block⟩; obtain ⟨_, _, _, _⟩ := cells2 ((q6.block _ (lt_of_block HNB.out)).trans HNB.out); obtain ⟨_, _, _, _, _, _, _, _⟩ := (HPC.out.below HL2.out hzp).below q6 (by have := HL2.out.size; omega); obtain ⟨_, _, _⟩ := cells3 (((HBB.out.below HB.out).below HL2.out).below q6).net; have Q6 := Lib.hid q6; clear hb6 q6))
                  go_wp2
                  go_ret
                  have hq := HL2.out.trans (Q6.out.mono HL2.out.size)
                  exact ⟨ret_int (by rw [HX2.out, if_pos (stGood_bad (k := k) (by rw [← HM.out]; exact hlt) (by rw [← HE.out]; exact HE0.out))]), HBW.out.trans (hq.mono HBW.out.size)⟩
              · have hkm : k = m := by omega
                have hX3 : X = if (x.du.all rowGood) = false then 3 else 0 := by
                  rw [HX2.out, if_neg]
                  rw [stGood_to fun j h1 => hg j (by rw [← HM.out] at h1; omega)]
                  simp
                have HX3 := Lib.hid hX3
                have HB := Lib.hid hb
                obtain ⟨_, _, _⟩ := cells3 (HBB.out.below hb).img
                have hkF : ((k : Int) < (m : Int)) = False := by simp; omega
                clear HX2 hX3 hbw hg hb hkm hlt
                go_wp2
                clear hkF
                clear hk hk0
                go_loopw [64] (fun i wr => ∃ k : Nat, k ≤ 16 ∧ i = .int .i64 k ∧ Below W0.heap.size W0 wr ∧ ∀ j r, j < k → x.du[j]? = some r → rowGood r = true) (fun i _ => 16 - (intOf i).toNat)
                case atStart => exact ⟨0, Nat.zero_le _, rfl, HB.out, fun j r h => by omega⟩
                case round =>
                  obtain ⟨k, hk, rfl, hb, hg⟩ := hrel
                  have hk0 : (0 : Int) ≤ (k : Int) := Int.natCast_nonneg _
                  have hbw := H0.out.trans (hb.mono H0.out.size)
                  by_cases hlt : k < 16
                  · have hk1 : (k : Int) < 16 := by omega
                    obtain ⟨r, hr⟩ : ∃ r, x.du[k]? = some r := ⟨_, List.getElem?_eq_getElem (by rw [← HQ.out]; exact hlt)⟩
                    obtain ⟨b, off, a', c', rfl, hbl, hc, hri⟩ := HD.out.at hr
                    have hcb := ((hbw.cell (p := ⟨b, off + k, none⟩) hbl).trans hc)
                    have hrl : r.length = m := HG.out k r hlt hr
                    rw [hrl] at hcb hri
                    have HRI := Lib.hid hri
                    have HG3 := Lib.hid hg
                    have HR := Lib.hid hr
                    have HRL := Lib.hid hrl
                    have hb3 := hb
                    clear hb hg hr hc hbw hri hrl
                    have HB3 := Lib.hid hb3
                    clear hb3
                    go_wp2
                    obtain ⟨Wo, hWo⟩ : ∃ Wo, Wo = wr := ⟨_, rfl⟩
                    rw [← hWo] at HB3 ⊢
                    clear hcb
                    go_loopw [70] (fun i wr => ∃ i' : Nat, i' ≤ m ∧ i = .int .i64 i' ∧ Below W0.heap.size W0 wr ∧ ∀ j d, j < i' → r[j]? = some d → inR d (-268435456) 268435456 = true) (fun i _ => m - (intOf i).toNat)
                    case atStart => exact ⟨0, Nat.zero_le _, rfl, HB3.out, fun j d h => by omega⟩
                    case round =>
                      obtain ⟨i, hi, rfl, hb, hg⟩ := hrel
                      have hi0 : (0 : Int) ≤ (i : Int) := Int.natCast_nonneg _
                      have hbw := H0.out.trans (hb.mono H0.out.size)
                      by_cases hlt : i < m
                      · have hi1 : (i : Int) < (m : Int) := by omega
                        obtain ⟨d, hd⟩ : ∃ d, r[i]? = some d := ⟨_, List.getElem?_eq_getElem (by rw [HRL.out]; exact hlt)⟩
                        obtain ⟨ad, rfl, _, hcd⟩ := (HRI.out.below hbw).at hd
                        have hA := fun W => namong_any d (-268435456) 268435456 W
                        obtain ⟨Bd, hBd⟩ : ∃ B, B = inR d (-268435456) 268435456 := ⟨_, rfl⟩
                        rw [← hBd] at hA
                        have HA := Lib.hid hA
                        have HBD := Lib.hid hBd
                        have HDD := Lib.hid hd
                        have HG := Lib.hid hg
                        have HB := Lib.hid hb
                        have HBW := Lib.hid hbw
                        clear hA hBd hd hg hb hbw
                        cases Bd with
                        | true =>
                          go_wp2_with (go_at_call 55; with_reducible refine (HA.out _).mono ?_; rintro e wq ⟨rfl, rfl⟩)
                          go_roundw
                          case rel =>
                            refine ⟨i + 1, by omega, by go_num, HB.out, fun j d' h1 h2 => ?_⟩
                            by_cases e : j = i
                            · subst e; rw [HDD.out] at h2; cases h2; exact HBD.out.symm
                            · exact HG.out j d' (by omega) h2
                          case measure => simp [intOf]; omega
                        | false =>
                          go_wp2_with (go_at_call 55; with_reducible refine (HA.out _).mono ?_; rintro e wq ⟨rfl, rfl⟩)
                          go_ret
                          exact ⟨ret_int (by rw [HX3.out, if_pos (allAt HR.out (allAt HDD.out HBD.out.symm))]), HBW.out⟩
                      · have him : i = m := by omega
                        have hrg : rowGood r = true := allTo fun j d h1 h2 => hg j d (by rw [HRL.out] at h1; omega) h2
                        have HRG := Lib.hid hrg
                        have HB := Lib.hid hb
                        clear hrg hb hg hbw
                        go_wp2
                        go_roundw
                        case rel =>
                          refine ⟨k + 1, by omega, by go_num, HB.out, fun j r' h1 h2 => ?_⟩
                          by_cases e : j = k
                          · subst e; rw [HR.out] at h2; cases h2; exact HRG.out
                          · exact HG3.out j r' (by omega) h2
                        case measure => simp [intOf]; omega
                  · have hk6 : k = 16 := by omega
                    subst hk6
                    have hX4 : X = 0 := by
                      rw [HX3.out, if_neg]
                      rw [allTo fun j r h1 h2 => hg j r (by rw [← HQ.out] at h1; exact h1) h2]
                      simp
                    subst hX4
                    clear hg
                    go_wp2
                    go_ret
                    exact ⟨rfl, hbw⟩
      · rw [if_pos (by omega)] at hX
        subst hX
        subst hmN
        have g1 : ((q : Int) != 16) = true := by simp; omega
        go_enter Try.func82, Try.ntmps82
        go_wp2_with (go_at_call 55; with_reducible refine (HAM.out _).mono ?_; rintro e wq ⟨rfl, rfl⟩)
        go_ret
        exact ⟨rfl, H0.out⟩
    · rw [if_pos (by omega)] at hX
      subst hX
      have g1 : ((m : Int) != (N : Int)) = true := by simp; omega
      go_enter Try.func82, Try.ntmps82
      go_wp2_with (go_at_call 55; with_reducible refine (HAM.out _).mono ?_; rintro e wq ⟨rfl, rfl⟩)
      go_ret
      exact ⟨rfl, H0.out⟩
end Go.Proofs.Ytgbcdebnanejpaa
namespace Go.Proofs.Ytgbcdebnanejpaa
set_option linter.unusedVariables false
open Go.RowKit Go.Shelf

theorem run_copy_all {P : Program} (w : World) (dT sT ty elem size : TypeId) (hu : P.underlying dT = some (.slice elem)) (hsz : (P.info? elem).map (·.size) = some size)
    (g n dCap : Nat) (ad : Addr) (sCap : Nat) (cur : Array Value) (t : TypeId) (hg : w.heap[g]? = some (.cells cur t (0, 0))) (cs : List Value) (hn : cs.length = n * size) (hcur : cur.size = cs.length)
    (hsrc : ∀ j v, cs[j]? = some v → w.cell? (ad.add j) = some v) (h1 : ∀ v ∈ cs, v.oneCell' = true) :
    (Builtin.copy_ #[dT, sT] ty #[.slice (some ⟨g, 0, none⟩) n dCap, .slice (some ad) n sCap]).run P w = .ok (goInt n) (w.setRow g cs.toArray) := by
  have hl := run_loadCells_list (P := P) w ad cs hsrc
  have hst := run_storeCells_at P g 0 t cs 0 cur w hg (by simp; omega) h1
  have e : (cur.toList.take (0 + 0) ++ cs ++ cur.toList.drop (0 + 0 + cs.length)).toArray = cs.toArray := by
    rw [List.drop_eq_nil_of_le (by simp; omega)]; simp
  rw [e] at hst
  cases hq : P.info? elem with
  | none => simp [hq] at hsz
  | some i =>
    have hi : i.size = size := by simpa [hq] using hsz
    simp [Builtin.copy_, run_underlying hu, Builtin.lenOf, Builtin.firstCells, sizeOf, typeInfo, hq, hi, ← hn, hl, hst]
theorem oper_copy_all {P : Program} {w : World} {o : Oper} {a : Act} {K : Act → World → Prop} {Q : Exit → Act → World → Prop} (d s : Operand) (dT sT : TypeId)
    (ho : o.op = .call { callee := .builtin .copy, args := #[d, s], argTypes := #[dT, sT] }) (elem size : TypeId) (hu : P.underlying dT = some (.slice elem)) (hsz : (P.info? elem).map (·.size) = some size)
    (g n dCap : Nat) (ad : Addr) (sCap : Nat) (hd : a.eval d = .slice (some ⟨g, 0, none⟩) n dCap) (hs : a.eval s = .slice (some ad) n sCap)
    (cur : Array Value) (t : TypeId) (hg : w.heap[g]? = some (.cells cur t (0, 0))) (cs : List Value) (hn : cs.length = n * size) (hcur : cur.size = cs.length)
    (hsrc : ∀ j v, cs[j]? = some v → w.cell? (ad.add j) = some v) (h1 : ∀ v ∈ cs, v.oneCell' = true)
    (hK : K (a.put o.dst (goInt n)) (w.setRow g cs.toArray)) : o.wp P a w K Q := by
  have hrun := run_copy_all (P := P) w dT sT o.type elem size hu hsz g n dCap ad sCap cur t hg cs hn hcur hsrc h1
  unfold Oper.wp
  simp [execOp, ho, resolve, invoke, builtin, hd, hs, hrun, Result.andThen]
  exact hK
theorem wpList_copy_all {P : Program} {w : World} {ops : Array Oper} {rest : List Oper} {o : Oper} {a : Act} {Q : Exit → Act → World → Prop} (hgd : o.guard = none) (d s : Operand) (dT sT : TypeId)
    (ho : o.op = .call { callee := .builtin .copy, args := #[d, s], argTypes := #[dT, sT] }) (elem size : TypeId) (hu : P.underlying dT = some (.slice elem)) (hsz : (P.info? elem).map (·.size) = some size)
    (g n dCap : Nat) (ad : Addr) (sCap : Nat) (hd : a.eval d = .slice (some ⟨g, 0, none⟩) n dCap) (hs : a.eval s = .slice (some ad) n sCap)
    (cur : Array Value) (t : TypeId) (hg : w.heap[g]? = some (.cells cur t (0, 0))) (cs : List Value) (hn : cs.length = n * size) (hcur : cur.size = cs.length)
    (hsrc : ∀ j v, cs[j]? = some v → w.cell? (ad.add j) = some v) (h1 : ∀ v ∈ cs, v.oneCell' = true)
    (h : wpList P ops Q rest (a.put o.dst (goInt n)) (w.setRow g cs.toArray)) : wpList P ops Q (o :: rest) a w :=
  wpList_plain hgd fun _ hK => oper_copy_all d s dT sT ho elem size hu hsz g n dCap ad sCap hd hs cur t hg cs hn hcur hsrc h1 (hK _ _ h)

theorem StsAt.cellsAll {W : World} {b off n cap : Nat} {l : List (Int × Int)} (h : StsAt W (.slice (some ⟨b, off, none⟩) n cap) l) : ∀ j v, (stC l)[j]? = some v → W.cell? ((⟨b, off, none⟩ : Addr).add j) = some v := fun j v hv => by
  have hj : j < l.length * 2 := by rw [← stC_length]; exact (List.getElem?_eq_some_iff.1 hv).1
  obtain ⟨s, hs⟩ : ∃ s, l[j / 2]? = some s := ⟨_, List.getElem?_eq_getElem (by omega)⟩
  obtain ⟨e1, e2⟩ := stC_at l (j / 2) s hs
  obtain ⟨b', off', ha, _, h1, h2⟩ := h.at hs
  obtain ⟨rfl, rfl⟩ : b = b' ∧ off = off' := by simpa using ha
  have ea : (⟨b, off, none⟩ : Addr).add j = ⟨b, off + j, none⟩ := by unfold Addr.add; split <;> simp_all
  rw [ea]
  rcases Nat.mod_two_eq_zero_or_one j with hm | hm
  · have e : j = j / 2 * 2 := by omega
    rw [← e] at e1 h1
    rw [h1, ← hv, e1]
  · have e : j = j / 2 * 2 + 1 := by omega
    rw [← e] at e2
    rw [show off + j / 2 * 2 + 1 = off + j by omega] at h2
    rw [h2, ← hv, e2]
theorem stC_one {l : List (Int × Int)} {v : Value} (h : v ∈ stC l) : v.oneCell' = true := by
  simp only [stC, List.mem_flatMap] at h
  obtain ⟨s, _, h⟩ := h
  simp at h
  rcases h with rfl | rfl <;> rfl
def rowF (r : List Int) : Nat → Int := fun i => r[i]?.getD 0
theorem rowC_rowF (r : List Int) : rowC r.length (rowF r) = r.map (Value.int .i64) := by
  apply List.ext_getElem?
  intro i
  by_cases h : i < r.length
  · simp [rowC, rowF, h]
  · simp [rowC, h]
theorem RowIn.cellsAll {W : World} {ad : Addr} {n c : Nat} {r : List Int} (h : RowIn W (.slice (some ad) n c) r) : ∀ j v, (r.map (Value.int .i64))[j]? = some v → W.cell? (ad.add j) = some v := fun j v hv => by
  rw [List.getElem?_map] at hv
  obtain ⟨x, hx, rfl⟩ := Option.map_eq_some_iff.1 hv
  obtain ⟨ad', e, _, h1⟩ := h.at hx
  cases e
  exact h1
theorem ints_one {r : List Int} {v : Value} (h : v ∈ r.map (Value.int .i64)) : v.oneCell' = true := by
  obtain ⟨x, _, rfl⟩ := List.mem_map.1 h
  rfl

section
variable {n : NetM} {A A' : World} {B : Nat} {z : SimZ} {t r0 : Nat} {st : List (Int × Int)} {due : Due}
theorem SimAt.retick (h : SimAt n A B z t r0 st due) (t' : Nat) : SimAt n (A.setCell ⟨z.bs, 4, none⟩ (.int .i64 (t' : Int))) B z t' r0 st due := by
  have hm : z.mut z.bs := Or.inl rfl
  have hb := fun b (hn : b ≠ z.bs) => Below.heap_setCell A ⟨z.bs, 4, none⟩ (.int .i64 (t' : Int)) b (by exact hn)
  have hblk : (A.setCell ⟨z.bs, 4, none⟩ (.int .i64 (t' : Int))).heap[z.bs]? = some (.cells (simHead n z t' ++ simRows n z).toArray 104) := by
    have := h.blk
    simp [World.setCell, Array.getElem?_modify, this, simHead]
  have hnm : ∀ b, ¬ z.mut b → b ≠ z.bs := fun b hb e => hb (e ▸ hm)
  have hz : (A.setCell ⟨z.bs, 4, none⟩ (.int .i64 (t' : Int))).heap.size = A.heap.size := by simp
  exact ⟨hblk, psAt_of h.ps (fun g hg => hb g (hnm g (h.psM g hg))) (by rw [hz]; exact Nat.le_refl _), h.psM, ⟨h.wires.map.of_block (hb _ (hnm _ h.mbM)), fun x => ownsRow_of_block (h.wires.row x) fun g hg => hb g (hnm _ (h.wiM x g hg)), h.wires.nil, h.wires.apart, h.wires.lt⟩, h.wiM, h.mbM, (hb _ (Ne.symm h.ne1)).trans h.stb, h.len, fun a' g1 g2 => (hb _ (fun e => h.ne2 _ (Nat.mod_lt _ (by omega)) e.symm)).trans (h.row a' g1 g2), h.zero, h.inj, h.ne1, h.ne2, h.ne3, h.lo⟩
/-- Rows of zeros stand for any ticks. -/
theorem SimAt.turn (h : SimAt n A B z t r0 st fun _ _ => 0) (r1 : Nat) : SimAt n A B z t r1 st fun _ _ => 0 :=
  ⟨h.blk, h.ps, h.psM, h.wires, h.wiM, h.mbM, h.stb, h.len, fun a _ _ => by
    have := h.row (r0 + (a % 16 + 16 - r0 % 16) % 16) (by omega) (by omega)
    rwa [show (r0 + (a % 16 + 16 - r0 % 16) % 16) % 16 = a % 16 by omega] at this, fun _ _ _ => rfl, h.inj, h.ne1, h.ne2, h.ne3, h.lo⟩
/-- A new row. -/
theorem SimAt.newRow (h : SimAt n A B z t r0 st due) (a : Nat) (h1 : r0 ≤ a) (h2 : a < r0 + 16) (f : Nat → Int) (hb : ∀ b, b ≠ z.rb (a % 16) → A'.heap[b]? = A.heap[b]?) (hs : A.heap.size ≤ A'.heap.size) (hr : RowAt A' (z.rb (a % 16)) n.ps.length f) :
    SimAt n A' B z t r0 st (fun a' i => if a' = a then f i else due a' i) := by
  have hm : z.mut (z.rb (a % 16)) := Or.inr (Or.inr ⟨_, Nat.mod_lt _ (by omega), rfl⟩)
  have hnm : ∀ b, ¬ z.mut b → b ≠ z.rb (a % 16) := fun b hb e => hb (e ▸ hm)
  refine ⟨(hb _ (h.ne2 _ (Nat.mod_lt _ (by omega)))).trans h.blk, psAt_of h.ps (fun g hg => hb g (hnm g (h.psM g hg))) hs, h.psM, ⟨h.wires.map.of_block (hb _ (hnm _ h.mbM)), fun x => ownsRow_of_block (h.wires.row x) fun g hg => hb g (hnm _ (h.wiM x g hg)), h.wires.nil, h.wires.apart, h.wires.lt⟩, h.wiM, h.mbM, (hb _ (h.ne3 _ (Nat.mod_lt _ (by omega)))).trans h.stb, h.len, fun a' g1 g2 => ?_, fun a' i' g => ?_, h.inj, h.ne1, h.ne2, h.ne3, h.lo⟩
  · by_cases e : a' = a
    · subst e
      simpa [RowAt] using hr
    · have hne : z.rb (a' % 16) ≠ z.rb (a % 16) := fun e1 => by
        have := h.inj _ _ (Nat.mod_lt _ (by omega)) (Nat.mod_lt _ (by omega)) e1
        omega
      have := (hb _ hne).trans (h.row a' g1 g2)
      simpa [RowAt, e] using this
  · rw [if_neg (by omega)]; exact h.zero a' i' g
end
/-- What is due in an image's first k rows, from the tick t on. -/
def dueK (t : Nat) (du : List (List Int)) (k : Nat) : Due := fun a i => if t ≤ a ∧ a < t + k then rowF (du[a - t]?.getD []) i else 0
theorem dueK_zero (t : Nat) (du : List (List Int)) : dueK t du 0 = fun _ _ => 0 := by
  funext a i
  unfold dueK
  rw [if_neg (by omega)]
theorem dueK_succ {t k : Nat} {du : List (List Int)} {r : List Int} (h : du[k]? = some r) : (fun a i => if a = t + k then rowF r i else dueK t du k a i) = dueK t du (k + 1) := by
  funext a i
  unfold dueK
  by_cases e : a = t + k
  · subst e
    rw [if_pos rfl, if_pos (by omega), show t + k - t = k by omega, h]
    rfl
  · rw [if_neg e]
    by_cases q : t ≤ a ∧ a < t + k
    · rw [if_pos q, if_pos (by omega)]
    · rw [if_neg q, if_neg (by omega)]
end Go.Proofs.Ytgbcdebnanejpaa
