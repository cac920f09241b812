/- Shape. (mk_Ec.py wrote this.) -/
import Derived.Test.YthfmbmjjfdhhnaaEb
import Derived.Laws.MakeOwn
import Derived.Laws.OwnMore
import Derived.Deep.DeepCutAuto
namespace Go.Proofs.Ythfmbmjjfdhhnaa
set_option linter.unusedVariables false
open Go.RowKit

theorem make_zeros (n : Nat) (hn : n ≤ 10000) (zs : List Int) (hzs : zs = List.replicate n 0) (W : World) :
    (Instr.makeSlice 42 (.int .i64 (n : Int)) (.int .i64 (n : Int))).run Try.prog W = .ok (.slice (some ⟨W.heap.size, 0, none⟩) n n) (W.alloc (.cells (zs.map (Value.int .i64)).toArray 3)) := by
  obtain ⟨i, h1, h2, h3, h4⟩ := info_parts info3
  have hr := run_make (P := Try.prog) W 42 3 i (.int .i64 0) Try.underlying42 h1 h2 .i64 .i64 n n (by omega) (by omega) (by rw [h4]; omega) (by omega)
  rw [hr, h3]
  have e : madeCells (Value.int .i64 0).cells ((n : Int).toNat * 1) = (zs.map (Value.int .i64)).toArray := by
    apply Array.toList_inj.1
    rw [Int.toNat_natCast, Nat.mul_one, show (Value.int .i64 0).cells = #[.int .i64 0] from rfl, toList_madeCells_one, hzs]
    simp
  rw [e]
  simp
/-- What holds in Shape's loop: jz times are written, the bucket stands at jl. -/
structure ShR (t : Nat → Int) (B r : Int) (n jz jl : Nat) (w : World) (g0 gl gb : Nat) (wr : World) : Prop where
  X : CBox wr g0 27 B r
  Z : ∃ zs : List Int, zs.length = n ∧ wr.heap[gl]? = some (.cells (zs.map (Value.int .i64)).toArray 3) ∧ ∀ i, i < jz → zs[i]? = some (shp t B r i)
  L : IBox wr (gb + 1) (lvl (shp t B r) r jl)
  R : IBox wr gb r
  P : IBox wr (gb + 2) (las (shp t B r) jl)
  B_ : Below w.heap.size w wr
  o0 : w.heap.size ≤ g0
  o1 : g0 < gl
  o2 : gl < gb
section
variable {t : Nat → Int} {B r : Int} {n jz jl : Nat} {w : World} {g0 gl gb : Nat} {wr : World}
theorem ShR.ltl (h : ShR t B r n jz jl w g0 gl gb wr) : gl < wr.heap.size := by
  obtain ⟨zs, _, h2, _⟩ := h.Z
  exact lt_of_block h2
theorem ShR.cell (h : ShR t B r n jz jl w g0 gl gb wr) {i : Nat} (hi : i < jz) : wr.cell? ⟨gl, i, none⟩ = some (.int .i64 (shp t B r i)) := by
  obtain ⟨zs, _, h2, h3⟩ := h.Z
  have h4 := h3 i hi
  simp [World.cell?, h2, h4]
theorem ShR.old (h : ShR t B r n jz jl w g0 gl gb wr) {i : Nat} (hi : i < n) : ∃ z, wr.cell? ⟨gl, i, none⟩ = some (.int .i64 z) ∧ wr.frozen? ⟨gl, i, none⟩ = false := by
  obtain ⟨zs, h1, h2, h3⟩ := h.Z
  obtain ⟨z, hz⟩ : ∃ z, zs[i]? = some z := ⟨_, List.getElem?_eq_getElem (by omega)⟩
  exact ⟨z, by simp [World.cell?, h2, hz], by simp [World.frozen?, h2]⟩
theorem heap_set_other {W : World} {g o b : Nat} {u : Value} (h : b ≠ g) : (W.setCell ⟨g, o, none⟩ u).heap[b]? = W.heap[b]? := by simp [World.setCell, Array.getElem?_modify, Ne.symm h]
theorem ShR.put (h : ShR t B r n jz jl w g0 gl gb wr) (hj : jz < n) : ShR t B r n (jz + 1) jl w g0 gl gb (wr.setCell ⟨gl, jz, none⟩ (.int .i64 (shp t B r jz))) := by
  have h0 := h.o0
  have h1 := h.o1
  have h2 := h.o2
  refine ⟨(heap_set_other (by omega)).trans h.X, ?_, (heap_set_other (by omega)).trans h.L, (heap_set_other (by omega)).trans h.R, (heap_set_other (by omega)).trans h.P, h.B_.setCell (by show w.heap.size ≤ gl; omega) _, h0, h1, h2⟩
  obtain ⟨zs, e1, e2, e3⟩ := h.Z
  refine ⟨zs.set jz (shp t B r jz), by simp [e1], by simp [World.setCell, Array.getElem?_modify, e2, List.map_set], fun i hi => ?_⟩
  rcases Nat.lt_or_ge i jz with h3 | h3
  · rw [List.getElem?_set_ne (by omega)]; exact e3 i h3
  · obtain rfl : i = jz := by omega
    rw [List.getElem?_set_self (by omega)]
theorem Stp.of {L x : Int} {W W' w' : World} (h : Stp gb L x W' w') (e1 : W'.os = W.os) (e2 : W'.tape = W.tape) (e3 : W'.output = W.output) (e4 : W'.heap = W.heap) : Stp gb L x W w' :=
  ⟨h.os.trans e1, h.tape.trans e2, h.output.trans e3, by rw [← e4]; exact h.size, fun b h1 h2 => by rw [← e4]; exact h.others b h1 h2, h.L, h.P⟩
theorem ShR.step (h : ShR t B r n jz jl w g0 gl gb wr) {w' : World} (hs : Stp gb (lvl (shp t B r) r (jl + 1)) (shp t B r jl) wr w') : ShR t B r n jz (jl + 1) w g0 gl gb w' := by
  have h0 := h.o0
  have h1 := h.o1
  have h2 := h.o2
  obtain ⟨zs, e1, e2, e3⟩ := h.Z
  exact ⟨(hs.others _ (by omega) (by omega)).trans h.X, ⟨zs, e1, (hs.others _ (by omega) (by omega)).trans e2, e3⟩, hs.L, (hs.others _ (by omega) (by omega)).trans h.R, hs.P,
    ⟨hs.os.trans h.B_.os, hs.tape.trans h.B_.tape, hs.output.trans h.B_.output, Nat.le_trans h.B_.size hs.size, fun b hb => (hs.others _ (by omega) (by omega)).trans (h.B_.block b hb)⟩, h0, h1, h2⟩
theorem ShR.drew (h : ShR t B r n jz jl w g0 gl gb wr) : ShR t B r n jz jl w g0 gl gb wr.drew := ⟨h.X, h.Z, h.L, h.R, h.P, h.B_.drew, h.o0, h.o1, h.o2⟩
theorem ShR.drewN (h : ShR t B r n jz jl w g0 gl gb wr) (k : Nat) : ShR t B r n jz jl w g0 gl gb (wr.drewN k) := ⟨h.X, h.Z, h.L, h.R, h.P, below_drewN h.B_ k, h.o0, h.o1, h.o2⟩
/-- The call of the bucket at the time jl. -/
theorem ShR.stepW (h : ShR t B r n jz jl w g0 gl gb wr) (hjl : jl < n) (hf : (0 ≤ shp t B r jl ∧ shp t B r jl ≤ 10000000) ∧ (0 ≤ las (shp t B r) jl ∧ las (shp t B r) jl ≤ shp t B r jl) ∧ (0 ≤ r ∧ r ≤ 1024) ∧ (-1024 ≤ lvl (shp t B r) r jl ∧ lvl (shp t B r) r jl ≤ 1049600) ∧ 0 ≤ shp t B r 0) :
    ∀ W', W'.heap = wr.heap → Calls Try.prog 41 #[.int .i64 (shp t B r jl), .pointer (some ⟨gb + 1, 0, none⟩), .pointer (some ⟨gb, 0, none⟩), .pointer (some ⟨gb + 2, 0, none⟩)] W' fun e w' => e = .returned (.int .i64 (lev (shp t B r) r jl)) ∧ Stp gb (lvl (shp t B r) r (jl + 1)) (shp t B r jl) W' w' := by
  intro W' hW
  obtain ⟨f1, f2, f3, f4, f5⟩ := hf
  have hm0 : 0 ≤ r * (shp t B r jl - las (shp t B r) jl) := Int.mul_nonneg f3.1 (by omega)
  have hm1 : r * (shp t B r jl - las (shp t B r) jl) ≤ 10240000000 := by
    have := Int.mul_le_mul f3.2 (show shp t B r jl - las (shp t B r) jl ≤ 10000000 by omega) (by omega) (by omega : (0 : Int) ≤ 1024)
    omega
  refine step2_any (shp t B r jl) (lvl (shp t B r) r jl) r (las (shp t B r) jl) gb W' ?_ ?_ ?_ f1 ⟨f2.1, by omega⟩ f3 f4 ⟨hm0, hm1⟩ _ (lvl_succ _ r f3.1 f5 jl)
  · unfold IBox; rw [hW]; exact h.L
  · unfold IBox; rw [hW]; exact h.R
  · unfold IBox; rw [hW]; exact h.P
end
theorem lt_cast_true {j n : Nat} (h : j + 1 < n) : ((j : Int) + 1 < (n : Int)) = True := eq_true (by omega)
theorem lt_cast_false {j n : Nat} (h : ¬ j + 1 < n) : ((j : Int) + 1 < (n : Int)) = False := eq_false (by omega)
theorem r_zero {r : Int} (h : 0 ≤ r ∧ r ≤ 1024) (h2 : ¬ 0 < r) : r = 0 := by omega
theorem ov_pos {o x : Int} (h : o = x) (h2 : ¬ o ≤ 0) : 0 < x := by omega
theorem wrap_succ {j n : Nat} (h : j < n) (hn : n ≤ 60) : wrap64 ((j : Int) + 1) = (j : Int) + 1 := by unfold wrap64; omega
/-- What Shape answers. -/
def ShapeOut (t : Nat → Int) (B r : Int) (n : Nat) (w : World) (e : Ending) (w' : World) : Prop :=
  (e = .returned (.tuple #[.slice none 0 0, .int .i64 21]) ∧ 0 < n ∧ (B + r < 1024 ∨ (r = 0 ∧ B < 1024 * (n : Int))) ∧ Below w.heap.size w w') ∨
  ∃ g zs, e = .returned (.tuple #[.slice (some ⟨g, 0, none⟩) n n, .int .i64 0]) ∧ KAt .i64 w' (.slice (some ⟨g, 0, none⟩) n n) zs ∧ zs.length = n ∧ (∀ i, i < n → zs[i]? = some (shp t B r i)) ∧ Below w.heap.size w w' ∧ (0 < n → 1024 ≤ B + r) ∧ shOk t B r n
theorem ShR.fin {t : Nat → Int} {B r : Int} {n : Nat} {w : World} {g0 gl gb : Nat} {wr : World} (h : ShR t B r n n n w g0 gl gb wr) (hc : 0 < n → 1024 ≤ B + r) (ho : shOk t B r n) : ShapeOut t B r n w (.returned (.tuple #[.slice (some ⟨gl, 0, none⟩) n n, .int .i64 0])) wr := by
  obtain ⟨zs, e1, e2, e3⟩ := h.Z
  refine Or.inr ⟨gl, zs, rfl, Or.inr ⟨gl, 0, n, by rw [e1], lt_of_block e2, fun j z hz => ?_⟩, e1, e3, h.B_, hc, ho⟩
  rw [Nat.zero_add]
  simp [World.cell?, e2, hz]
theorem shOk_succ {t : Nat → Int} {B r : Int} {j : Nat} (h : shOk t B r j) (h1 : ∀ i, i + 1 = j → lev (shp t B r) r i + 1024 - B ≤ 0 ∨ 0 < r) : shOk t B r (j + 1) := fun i hi => by
  rcases Nat.lt_or_ge (i + 1) j with h2 | h2
  · exact h i h2
  · exact h1 i (by omega)
/-- No bound is met at any time ahead of j. -/
def shAll (t : Nat → Int) (B r : Int) (n j : Nat) : Prop := ∀ i, i < j → i + 1 < n → lev (shp t B r) r i + 1024 - B ≤ 0 ∨ 0 < r
theorem shAll_succ {t : Nat → Int} {B r : Int} {n j : Nat} (h : shAll t B r n j) (h1 : j + 1 < n → lev (shp t B r) r j + 1024 - B ≤ 0 ∨ 0 < r) : shAll t B r n (j + 1) := fun i hi h2 => by
  rcases Nat.lt_or_ge i j with h3 | h3
  · exact h i h3 h2
  · obtain rfl : i = j := by omega
    exact h1 h2
set_option maxRecDepth 100000 in
set_option maxHeartbeats 8000000 in
theorem shape_any (t : Nat → Int) (l : List Int) (a : Option Addr) (cap : Nat) (B r : Int) (ht : TimesAt t l) (hn60 : l.length ≤ 60) (hB : 0 ≤ B ∧ B ≤ 65536) (hr : 0 ≤ r ∧ r ≤ 1024) (w : World) (hc : KAt .i64 w (.slice a l.length cap) l) :
    Calls Try.prog 19 #[.slice a l.length cap, .agg #[.int .i64 B, .int .i64 r]] w (ShapeOut t B r l.length w) := by
  have hck : ∀ W, Calls Try.prog 24 #[.agg #[.int .i64 B, .int .i64 r]] W fun e w' => e = .returned (.int .i64 0) ∧ Below W.heap.size W w' := fun W => by
    have h := check_any B r W
    rwa [show cE B r = 0 from if_pos ⟨hB.1, hB.2, hr.1, hr.2⟩] at h
  have hct : ∀ W, Below w.heap.size w W → Calls Try.prog 29 #[.slice a l.length cap] W fun e w' => e = .returned (.int .i64 0) ∧ W = w' := fun W h => checkTimes_ok l a cap ht.ok W (hc.below h)
  have hx0 : CBox (w.alloc (.cells #[.int .i64 B, .int .i64 r] 27)) w.heap.size 27 B r := alloc_new_at _ _ _ rfl
  have hb0 : Below w.heap.size w (w.alloc (.cells #[.int .i64 B, .int .i64 r] 27)) := (Below.refl _ _).alloc (Nat.le_refl _) _
  have hpos := shp_pos (t := t) (B := B) (r := r) ht.pos
  have htop : ∀ j, j < l.length → 0 ≤ shp t B r j ∧ shp t B r j ≤ 10000000 := fun j hj => by
    have := shp_top (B := B) ht.pos hr hB.1 l.length hn60 ht.top j hj
    have := hpos j
    omega
  have hlev : ∀ j, -1024 ≤ lev (shp t B r) r j ∧ lev (shp t B r) r j ≤ 1024 * ((j : Int) + 1) := fun j => by
    have := shp_lev (B := B) ht.pos hr j
    omega
  have hlas : ∀ j, 0 ≤ las (shp t B r) j ∧ las (shp t B r) j ≤ shp t B r j := fun j => by
    cases j with
    | zero => exact ⟨Int.le_refl _, hpos 0⟩
    | succ k => exact ⟨hpos k, shp_mono k⟩
  have hlvl : ∀ j, j < l.length → -1024 ≤ lvl (shp t B r) r j ∧ lvl (shp t B r) r j ≤ 1049600 := fun j hj => by
    cases j with
    | zero => simp [lvl]; omega
    | succ k =>
      have := hlev k
      simp only [lvl]; omega
  obtain ⟨n, hn⟩ : ∃ n, n = l.length := ⟨_, rfl⟩
  rw [← hn] at hc hn60 hct htop hlvl ⊢
  have hstep : ∀ j, j < n → (0 ≤ shp t B r j ∧ shp t B r j ≤ 10000000) ∧ (0 ≤ las (shp t B r) j ∧ las (shp t B r) j ≤ shp t B r j) ∧ (0 ≤ r ∧ r ≤ 1024) ∧ (-1024 ≤ lvl (shp t B r) r j ∧ lvl (shp t B r) r j ≤ 1049600) ∧ 0 ≤ shp t B r 0 := fun j hj => ⟨htop j hj, hlas j, hr, hlvl j hj, hpos 0⟩
  have HC := Lib.hid hc
  have HN := Lib.hid hn
  have HT := Lib.hid ht
  have HCK := Lib.hid hck
  have HCT := Lib.hid hct
  have HTOP := Lib.hid htop
  have HLEV := Lib.hid hlev
  have HSTEP := Lib.hid hstep
  have HB0 := Lib.hid hb0
  have HX0 := Lib.hid hx0
  have HRR := Lib.hid hr
  have HBB := Lib.hid hB
  have hcl := lt_of_block hx0
  obtain ⟨_, _, _, _⟩ := cells2 hx0
  clear hc hn ht hck hct htop hlev hstep hb0 hpos hlas hlvl
  obtain ⟨zs0, hzs0⟩ : ∃ zs : List Int, zs = List.replicate n 0 := ⟨_, rfl⟩
  have hmk := make_zeros n (by omega) zs0 hzs0
  have HZ0 := Lib.hid (show zs0.length = n by rw [hzs0]; simp)
  clear hzs0
  have hn0 : (0 : Int) ≤ (n : Int) := Int.natCast_nonneg _
  have hn1 : (n : Int) ≤ 60 := by omega
  have wbr : wrap64 (B + r) = B + r := by unfold wrap64; omega
  have HBD := Lib.hid (show ∀ (j : Nat), j + 1 < n → r = 0 → 0 < lev (shp t B r) r j + 1024 - B → ∀ (w' : World), Below w.heap.size w w' → ShapeOut t B r n w (.returned (.tuple #[.slice none 0 0, .int .i64 21])) w' from fun j h1 h2 h3 w' hb => Or.inl ⟨rfl, by omega, Or.inr ⟨h2, by
    subst h2
    rw [lev_zero] at h3
    omega⟩, hb⟩)
  by_cases hbr : B + r < 1024
  · have z1 : (B + r < 1024) = True := by simp [hbr]
    by_cases hn00 : 0 < n
    · have z2 : (0 < n) = True := by simp [hn00]
      have z2' : ((0 : Int) < (n : Int)) = True := by simp [hn00]
      have HF := Lib.hid (show ∀ w', Below w.heap.size w w' → ShapeOut t B r n w (.returned (.tuple #[.slice none 0 0, .int .i64 21])) w' from fun w' h => Or.inl ⟨rfl, hn00, Or.inl hbr, h⟩)
      clear hbr hB hr
      go_enter Try.func19, Try.ntmps19
      go_wp2_with (first | (go_at_call 24; refine (HCK.out _).mono ?_; rintro e w1 ⟨rfl, hb1⟩; have hB1 := HB0.out.trans (hb1.mono (Nat.le_of_lt hcl)); have hx1 : CBox w1 w.heap.size 27 B r := (hb1.block _ hcl).trans HX0.out; have hl1 := lt_of_block hx1; obtain ⟨_, _, _, _⟩ := cells2 hx1) | (go_at_call 29; refine (HCT.out _ hB1).mono ?_; rintro e w2 ⟨rfl, hw2⟩; subst hw2))
      exact bodyPost_ret (v := .tuple #[.slice none 0 0, .int .i64 21]) (by simp [results, Try.results19, go_sem]) rfl (HF.out _ hB1)
    · have z2 : (0 < n) = False := by simp [hn00]
      have z2' : ((0 : Int) < (n : Int)) = False := by simp; omega
      have HFIN := Lib.hid (show ∀ gl gb g0 wr, shAll t B r n n → ShR t B r n n n w g0 gl gb wr → ShapeOut t B r n w (.returned (.tuple #[.slice (some ⟨gl, 0, none⟩) n n, .int .i64 0])) wr from fun gl gb g0 wr h1 h2 => h2.fin (fun h => absurd h hn00) (fun i hi => h1 i (by omega) hi))
      clear hbr
      go_enter Try.func19, Try.ntmps19
      go_upto_region 10 with (first | (go_at_call 24; refine (HCK.out _).mono ?_; rintro e w1 ⟨rfl, hb1⟩; have hB1 := HB0.out.trans (hb1.mono (Nat.le_of_lt hcl)); have hx1 : CBox w1 w.heap.size 27 B r := (hb1.block _ hcl).trans HX0.out; have hl1 := lt_of_block hx1; obtain ⟨_, _, _, _⟩ := cells2 hx1) | (go_at_call 29; refine (HCT.out _ hB1).mono ?_; rintro e w2 ⟨rfl, hw2⟩; subst hw2))
      have hg0 : (w1.alloc (.cells (zs0.map (Value.int .i64)).toArray 3)).heap[w1.heap.size]? = some (.cells (zs0.map (Value.int .i64)).toArray 3) := alloc_new_at _ _ _ rfl
      have hBz : Below w.heap.size w (w1.alloc (.cells (zs0.map (Value.int .i64)).toArray 3)) := hB1.alloc (Nat.le_of_lt hl1) _
      have hxz : CBox (w1.alloc (.cells (zs0.map (Value.int .i64)).toArray 3)) w.heap.size 27 B r := (Below.heap_alloc _ _ _ hl1).trans hx1
      generalize w1.alloc (.cells (zs0.map (Value.int .i64)).toArray 3) = W2 at *
      obtain ⟨gl, hgl⟩ : ∃ g, g = w1.heap.size := ⟨_, rfl⟩
      rw [← hgl] at hg0 hl1 ⊢
      have hl2 : gl < W2.heap.size := lt_of_block hg0
      have hl20 : w.heap.size < W2.heap.size := lt_of_block hxz
      obtain ⟨_, _, _, _⟩ := cells2 hxz
      clear hb1 hx1 hgl
      go_upto_region 11 with (go_at_call 30; refine (bucket_any r HRR.out W2).mono ?_; rintro e w3 ⟨rfl, hL3, hR3, hP3, hb3⟩)
      obtain ⟨gb, hgb⟩ : ∃ g, g = W2.heap.size := ⟨_, rfl⟩
      rw [← hgb] at hL3 hR3 hP3 hl2 hl20 ⊢
      have hb3' : Below gb W2 w3 := by rw [hgb]; exact hb3
      have hfirst : ShR t B r n 0 0 w w.heap.size gl gb w3 := ⟨(hb3'.block _ hl20).trans hxz, ⟨zs0, HZ0.out, (hb3'.block _ hl2).trans hg0, fun i h => absurd h (by omega)⟩, hL3, hR3, hP3, hBz.trans (hb3.mono (by omega)), Nat.le_refl _, hl1, hl2⟩
      clear hL3 hR3 hP3 hb3 hb3' hxz hBz hg0 hB1 hgb hl1 hl2 hl20
      obtain ⟨g0, hg0⟩ : ∃ g, g = w.heap.size := ⟨_, rfl⟩
      rw [← hg0] at hfirst hcl ⊢
      clear hg0
      go_wp2
      go_loopw [10, 43] (fun s10 s43 wr => ∃ j : Nat, j ≤ n ∧ s43 = .int .i64 j ∧ (j < n → s10 = .int .i64 (shN t B r j)) ∧ shAll t B r n j ∧ ShR t B r n j j w g0 gl gb wr) (fun _ s43 _ => n - (intOf s43).toNat)
      case atStart => exact ⟨0, Nat.zero_le _, rfl, fun _ => rfl, fun i h => absurd h (by omega), hfirst⟩
      case round =>
        clear hfirst
        obtain ⟨j, hj, rfl, hnx, hso, hR⟩ := hrel
        by_cases hlt : j < n
        · exact absurd hlt (by omega)
        · obtain rfl : n = j := by omega
          go_wp2
          exact bodyPost_ret (v := .tuple #[.slice (some ⟨gl, 0, none⟩) n n, .int .i64 0]) (by simp [results, Try.results19, go_sem]) rfl (HFIN.out _ _ _ _ hso hR)
  · have z1 : (B + r < 1024) = False := by simp [hbr]
    have HFIN := Lib.hid (show ∀ gl gb g0 wr, shAll t B r n n → ShR t B r n n n w g0 gl gb wr → ShapeOut t B r n w (.returned (.tuple #[.slice (some ⟨gl, 0, none⟩) n n, .int .i64 0])) wr from fun gl gb g0 wr h1 h2 => h2.fin (fun h => by omega) (fun i hi => h1 i (by omega) hi))
    clear hbr
    go_enter Try.func19, Try.ntmps19
    go_upto_region 10 with (first | (go_at_call 24; refine (HCK.out _).mono ?_; rintro e w1 ⟨rfl, hb1⟩; have hB1 := HB0.out.trans (hb1.mono (Nat.le_of_lt hcl)); have hx1 : CBox w1 w.heap.size 27 B r := (hb1.block _ hcl).trans HX0.out; have hl1 := lt_of_block hx1; obtain ⟨_, _, _, _⟩ := cells2 hx1) | (go_at_call 29; refine (HCT.out _ hB1).mono ?_; rintro e w2 ⟨rfl, hw2⟩; subst hw2))
    have hg0 : (w1.alloc (.cells (zs0.map (Value.int .i64)).toArray 3)).heap[w1.heap.size]? = some (.cells (zs0.map (Value.int .i64)).toArray 3) := alloc_new_at _ _ _ rfl
    have hBz : Below w.heap.size w (w1.alloc (.cells (zs0.map (Value.int .i64)).toArray 3)) := hB1.alloc (Nat.le_of_lt hl1) _
    have hxz : CBox (w1.alloc (.cells (zs0.map (Value.int .i64)).toArray 3)) w.heap.size 27 B r := (Below.heap_alloc _ _ _ hl1).trans hx1
    generalize w1.alloc (.cells (zs0.map (Value.int .i64)).toArray 3) = W2 at *
    obtain ⟨gl, hgl⟩ : ∃ g, g = w1.heap.size := ⟨_, rfl⟩
    rw [← hgl] at hg0 hl1 ⊢
    have hl2 : gl < W2.heap.size := lt_of_block hg0
    have hl20 : w.heap.size < W2.heap.size := lt_of_block hxz
    obtain ⟨_, _, _, _⟩ := cells2 hxz
    clear hb1 hx1 hgl
    go_upto_region 11 with (go_at_call 30; refine (bucket_any r HRR.out W2).mono ?_; rintro e w3 ⟨rfl, hL3, hR3, hP3, hb3⟩)
    obtain ⟨gb, hgb⟩ : ∃ g, g = W2.heap.size := ⟨_, rfl⟩
    rw [← hgb] at hL3 hR3 hP3 hl2 hl20 ⊢
    have hb3' : Below gb W2 w3 := by rw [hgb]; exact hb3
    have hfirst : ShR t B r n 0 0 w w.heap.size gl gb w3 := ⟨(hb3'.block _ hl20).trans hxz, ⟨zs0, HZ0.out, (hb3'.block _ hl2).trans hg0, fun i h => absurd h (by omega)⟩, hL3, hR3, hP3, hBz.trans (hb3.mono (by omega)), Nat.le_refl _, hl1, hl2⟩
    clear hL3 hR3 hP3 hb3 hb3' hxz hBz hg0 hB1 hgb hl1 hl2 hl20
    obtain ⟨g0, hg0⟩ : ∃ g, g = w.heap.size := ⟨_, rfl⟩
    rw [← hg0] at hfirst hcl ⊢
    clear hg0
    go_wp2
    go_loopw [10, 43] (fun s10 s43 wr => ∃ j : Nat, j ≤ n ∧ s43 = .int .i64 j ∧ (j < n → s10 = .int .i64 (shN t B r j)) ∧ shAll t B r n j ∧ ShR t B r n j j w g0 gl gb wr) (fun _ s43 _ => n - (intOf s43).toNat)
    case atStart => exact ⟨0, Nat.zero_le _, rfl, fun _ => rfl, fun i h => absurd h (by omega), hfirst⟩
    case round =>
      clear hfirst
      obtain ⟨j, hj, rfl, hnx, hso, hR⟩ := hrel
      by_cases hlt : j < n
      · obtain rfl := hnx hlt
        have hzj : l[j]? = some (t j) := HT.out.get (by rw [← HN.out]; exact hlt)
        obtain ⟨g, off, rfl, hgl, hcc⟩ := (HC.out.below hR.B_).at hzj
        obtain ⟨zold, hold, hfro⟩ := hR.old hlt
        have hl0 : g0 < wr.heap.size := lt_of_block hR.X
        have hl0' : gl < wr.heap.size := hR.ltl
        obtain ⟨_, _, _, _⟩ := cells2 hR.X
        have hi0 : (0 : Int) ≤ (j : Int) := Int.natCast_nonneg _
        have hi1 : (j : Int) < (n : Int) := by omega
        have HPUT := Lib.hid (hR.put hlt)
        have HST0 := Lib.hid (HSTEP.out j hlt)
        have htop := HTOP.out j hlt
        have hlv := HLEV.out j
        have HMX := Lib.hid (shp_max t B r j).symm
        have hnext : shN t B r (j + 1) = nxt B r (shp t B r j) (lev (shp t B r) r j) := rfl
        have HSO := Lib.hid (fun h => shAll_succ hso (fun _ => h) : (lev (shp t B r) r j + 1024 - B ≤ 0 ∨ 0 < r) → shAll t B r n (j + 1))
        have HSO3 := Lib.hid (fun h => shAll_succ hso (fun h2 => absurd h2 h) : ¬ j + 1 < n → shAll t B r n (j + 1))
        have HBD0 := Lib.hid (HBD.out j)
        have HNEXT := Lib.hid hnext
        clear hR hzj hnx hnext hso
        obtain ⟨Ov, hOv⟩ : ∃ Ov, Ov = (lev (shp t B r) r j) + 1024 - B := ⟨_, rfl⟩
        have wa : wrap64 ((lev (shp t B r) r j) + 1024) = (lev (shp t B r) r j) + 1024 := by unfold wrap64; omega
        have wb : wrap64 ((lev (shp t B r) r j) + 1024 - B) = Ov := by unfold wrap64; omega
        have HOV := Lib.hid hOv
        clear hOv
        go_upto_region 16 with (fail)
        simp only [max_if, HMX.out]
        have h5 := HPUT.out
        generalize wr.setCell ⟨gl, j, none⟩ (.int .i64 (shp t B r j)) = W5 at *
        have hst := h5.stepW (by omega) HST0.out
        obtain ⟨hcB5, hcr5, _, _⟩ := cells2 h5.X
        have hc5 := h5.cell (i := j) (by omega)
        have hl5 : g0 < W5.heap.size := lt_of_block h5.X
        have hl5' : gl < W5.heap.size := h5.ltl
        have H5 := Lib.hid h5
        have HST := Lib.hid hst
        clear h5 hst
        go_cut [13, 43] from 43 to 94 (fun s13 s43 wx => s13 = .int .i64 Ov ∧ s43 = .int .i64 (j : Int) ∧ ShR t B r n (j + 1) (j + 1) w g0 gl gb wx)
        case first =>
          go_region_held3 (fun w' => w'.cell? ⟨g0, 0, none⟩ = some (.int .i64 B) ∧ w'.cell? ⟨gl, j, none⟩ = some (.int .i64 (shp t B r j))) (first | (refine ⟨?_, ?_⟩ <;> assumption) | (go_keep; done))
            (first | (go_at_call 41; refine (HST.out _ (by rfl)).mono ?_; rintro e w6 ⟨rfl, hq6⟩; have h6 := H5.out.step (Stp.of hq6 rfl rfl rfl rfl); obtain ⟨_, _, _, _⟩ := cells2 h6.X; have hc6 := h6.cell (i := j) (by omega); have hl6 : g0 < w6.heap.size := lt_of_block h6.X; have hl6' : gl < w6.heap.size := h6.ltl; have H6 := Lib.hid h6; clear h6 hq6))
          go_wp2
          go_meet
          case rel => exact ⟨congrArg (Value.int .i64) (by rw [IntWalk.i64_left, IntWalk.i64_left, wa]; exact wb), rfl, by first | exact H6.out | exact H6.out.drew | exact H6.out.drewN _⟩
        case rest =>
          obtain ⟨rfl, rfl, h6⟩ := hcut
          have hOv := HOV.out
          obtain ⟨_, _, _, _⟩ := cells2 h6.X
          have hc6 := h6.cell (i := j) (by omega)
          have hl6 : g0 < wc.heap.size := lt_of_block h6.X
          have hl6' : gl < wc.heap.size := h6.ltl
          have H6 := Lib.hid h6
          clear h6
          by_cases ho : Ov ≤ 0
          · have z1 : (Ov ≤ 0) = True := by simp [ho]
            have HE := Lib.hid (show nxt B r (shp t B r j) (lev (shp t B r) r j) = (shp t B r j) by unfold nxt; rw [if_pos (by omega)])
            have HSO2 := Lib.hid (HSO.out (Or.inl (by omega)))
            clear ho hOv hlv htop
            go_wp2
            go_roundw
            case rel => exact ⟨j + 1, by omega, by go_num, fun _ => by rw [HNEXT.out, HE.out], HSO2.out, by first | exact H6.out | exact H6.out.drew | exact H6.out.drewN _⟩
            case measure => simp [intOf]; omega
          · have z1 : (Ov ≤ 0) = False := by simp [ho]
            by_cases hr0 : 0 < r
            · have z2 : (0 < r) = True := by simp [hr0]
              have zd : (r == 0) = false := by simp; omega
              have zd' : (r = 0) = False := by simp; omega
              have q1 := ceil_nonneg (o := Ov) (r := r) (by omega) hr0
              have q2 := ceil_le_self (o := Ov) (r := r) (by omega) hr0
              have HE := Lib.hid (show nxt B r (shp t B r j) (lev (shp t B r) r j) = (shp t B r j) + (Ov + r - 1).tdiv r by unfold nxt; rw [if_neg (by omega), if_pos hr0, hOv])
              have HSO2 := Lib.hid (HSO.out (Or.inr hr0))
              generalize hQ : (Ov + r - 1).tdiv r = Qv at *
              have wrc : wrap64 (Ov + r) = Ov + r := by unfold wrap64; omega
              have wd : wrap64 (Ov + r - 1) = Ov + r - 1 := by unfold wrap64; omega
              have we : wrap64 Qv = Qv := by unfold wrap64; omega
              have wf : wrap64 ((shp t B r j) + Qv) = (shp t B r j) + Qv := by unfold wrap64; omega
              clear ho hOv hlv htop hr0 q1 q2
              go_wp2
              go_quiet (fail)
              go_wp2
              go_roundw
              case rel => exact ⟨j + 1, hlt, by go_num, fun _ => by rw [HNEXT.out, HE.out] <;> go_num, HSO2.out, by first | exact H6.out | exact H6.out.drew | exact H6.out.drewN _⟩
              case measure => simp [intOf]; omega
            · have z2 : (0 < r) = False := by simp [hr0]
              have hr00 := r_zero HRR.out hr0
              have hop := ov_pos HOV.out ho
              by_cases hj1 : j + 1 < n
              · have HBAD := Lib.hid (HBD0.out hj1 hr00 hop)
                have hj1' : (j : Int) + 1 < (n : Int) := by omega
                have hj2 : (0 : Int) ≤ (j : Int) := Int.natCast_nonneg _
                clear ho hOv hlv htop hr0 hr00 hop
                generalize (j : Int) = J at *
                have z3 : (J + 1 < (n : Int)) = True := eq_true hj1'
                have we : wrap64 (J + 1) = J + 1 := by unfold wrap64; omega
                go_wp2
                exact bodyPost_ret (v := .tuple #[.slice none 0 0, .int .i64 21]) (by simp [results, Try.results19, go_sem]) rfl (HBAD.out _ (by first | exact H6.out.B_ | exact below_drewN H6.out.B_ _ | exact H6.out.B_.drew))
              · have HSO2 := Lib.hid (HSO3.out hj1)
                have hj1' : ¬ (j : Int) + 1 < (n : Int) := by omega
                have hj2 : (0 : Int) ≤ (j : Int) := Int.natCast_nonneg _
                clear ho hOv hlv htop hr0 hr00 hop
                generalize hJ : (j : Int) = J at *
                have HJ := Lib.hid hJ
                clear hJ
                have z3 : (J + 1 < (n : Int)) = False := eq_false hj1'
                have we : wrap64 (J + 1) = J + 1 := by unfold wrap64; omega
                go_wp2
                clear we z3 hj1' wa wb
                go_roundw
                case rel =>
                  have hJ := HJ.out
                  subst hJ
                  exact ⟨j + 1, hlt, by go_num, fun h => absurd h hj1, HSO2.out, by first | exact H6.out | exact H6.out.drew | exact H6.out.drewN _⟩
                case measure =>
                  have hJ := HJ.out
                  subst hJ
                  simp [intOf]; omega
      · obtain rfl : n = j := by omega
        go_wp2
        exact bodyPost_ret (v := .tuple #[.slice (some ⟨gl, 0, none⟩) n n, .int .i64 0]) (by simp [results, Try.results19, go_sem]) rfl (HFIN.out _ _ _ _ hso hR)
end Go.Proofs.Ythfmbmjjfdhhnaa
