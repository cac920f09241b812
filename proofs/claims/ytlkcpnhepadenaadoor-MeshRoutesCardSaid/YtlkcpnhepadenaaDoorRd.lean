/- Routes: mesh.Route and mesh.Distance. Over this seat's program. -/
import Derived.Test.YtlkcpnhepadenaaDoorRc
import Derived.Test.YtlkcpnhepadenaaDoorG
import Derived.Test.YtlkcpnhepadenaaDoorBc
namespace Go.Proofs.YtlkcpnhepadenaaDoor
set_option linter.unusedVariables false
open Go.RowKit Go.Shelf
attribute [local go_sem] Oper.semAt_some

theorem entersR1 : ∀ args w, (callFunc 80 args).run Tryd.prog w = .ok (.enter 80 args) w := enters_of Tryd.func80 (by kernel_rfl) rfl
def natV (l : List Nat) : List Value := l.map fun x : Nat => .int .i64 (x : Int)

theorem rtL_pth {W a b k : Nat} {x : Nat × Nat} (h : (rtL W a b)[k]? = some x) : (pth W a b)[k]? = some x.1 := by
  have hk := (List.getElem?_eq_some_iff.1 h).1
  rw [rtL_length] at hk
  rw [rtL_get (by omega)] at h
  rw [pth_get (by omega)]
  cases h; rfl
theorem take_snoc_of {α : Type} {l : List α} {k : Nat} {x : α} (h : l[k]? = some x) : l.take (k + 1) = l.take k ++ [x] := by
  rw [List.take_add_one, h]; rfl
theorem set1_0 {W : World} {b : Nat} {v0 : Value} {t : TypeId} {m : Nat × Nat} (h : W.heap[b]? = some (.cells #[v0] t m)) (u : Value) : (W.setCell ⟨b, 0, none⟩ u).heap[b]? = some (.cells #[u] t m) := by
  simp [World.setCell, Array.getElem?_modify, h]

/-- What the loop of Route holds; l lies at lB. -/
def RtI (xs : List Nat) (lB B : Nat) (w : World) (G : Nat → Prop) (k : Nat) (A : World) : Prop :=
  (∃ v, A.heap[lB]? = some (.cells #[v] 24) ∧ A.ownsRow B 3 1 v (xs.take k).length (natV (xs.take k)) ∧ ∀ g, v.ownBlock = some g → G g) ∧ Below B w A
theorem RtI.stab {xs : List Nat} {lB B N : Nat} {w : World} (hB : B ≤ N) (hN : lB < N) {G : Nat → Prop} {k : Nat} {A A' : World} (hs : B ≤ A.heap.size) (h : RtI xs lB B w G k A) (hb : Bel (fun b => N ≤ b ∧ ¬ G b) A.heap.size A A') : RtI xs lB B w G k A' := by
  obtain ⟨⟨v, h4, h5, h6⟩, h7⟩ := h
  exact ⟨⟨v, (hb.block _ (lt_of_block h4) (by omega)).trans h4, ownsRow_of_block h5 fun g hg => hb.block g (h5.lt g hg).2 (fun h => h.2 (h6 g hg)), h6⟩, h7.trans (hb.below hs (fun b h => by omega))⟩

/-- What Route returns where there is no error. -/
def RouteOk (xs : List Nat) (w : World) (e : Ending) (w' : World) : Prop :=
  ∃ v, e = .returned (.tuple #[v, .int .i64 0]) ∧ w'.ownsRow w.heap.size 3 1 v xs.length (natV xs) ∧ Below w.heap.size w w'

set_option maxRecDepth 100000 in
set_option maxHeartbeats 2000000 in
theorem route_in (W a b Hn : Nat) (R : Int) (h1 : 1 ≤ W) (h2 : W ≤ 8) (hH : 1 ≤ Hn) (hH2 : Hn ≤ 8) (hR : 1 ≤ R ∧ R ≤ 64) (ha : a < W * Hn) (hb : b < W * Hn) (w : World) :
    CallsIn Fence.wide 0 Tryd.prog 19 #[.agg #[.int .i64 (W : Int), .int .i64 (Hn : Int), .int .i64 R], .int .i64 (a : Int), .int .i64 (b : Int)] w (RouteOk (pth W a b) w) := by
  have hck : chkM W Hn R = 0 := by
    unfold chkM; rw [if_pos]; simp only [Bool.and_eq_true, inR_true]; omega
  have hc : ∀ w, Calls Tryd.prog 17 #[.agg #[.int .i64 (W : Int), .int .i64 (Hn : Int), .int .i64 R]] w fun e w' => e = .returned (.int .i64 0) ∧ Below w.heap.size w w' := fun w => by have := check_any W Hn R w; rw [hck] at this; exact this
  have h64 : W * Hn ≤ 64 := Nat.mul_le_mul h2 hH2
  have h65 : 1 * 1 ≤ W * Hn := Nat.mul_le_mul h1 hH
  have hex : ∀ x w, x < W * Hn → Calls Tryd.prog 50 #[.agg #[.int .i64 (W : Int), .int .i64 (Hn : Int), .int .i64 R], .int .i64 (x : Int)] w fun e w' => e = .returned (.bool true) ∧ Below w.heap.size w w' := fun x w hx => by
    have := exists_any W Hn R x ((W * Hn : Nat) : Int) (by omega) (by omega) (by push_cast; rfl) (by omega) (by omega) w
    rw [inR_true.2 (by omega)] at this
    exact this
  have HCK := Lib.hid hc
  have HEX := Lib.hid hex
  have HA := Lib.hid ha
  have HB := Lib.hid hb
  have H64 := Lib.hid h64
  have K := Lib.hid (show (1 ≤ W ∧ W ≤ 8) ∧ (1 ≤ Hn ∧ Hn ≤ 8) from ⟨⟨h1, h2⟩, hH, hH2⟩)
  clear hck hc hex ha hb h64 h65 h1 h2 hH hH2 hR
  refine callsIn_of_wp_marks Tryd.func19 rfl trivial ?_ rfl
  simp only [Tryd.ntmps19, List.size_toArray, List.length_cons, List.length_nil, Nat.reduceAdd, Nat.reduceSub, Array.replicate_succ, Array.replicate_zero, List.push_toArray, List.append_toArray, List.nil_append, List.cons_append]
  gi_wp2_with (refine ⟨trivial, rfl, ?_⟩; first
    | (gi_at_call 17; refine (callsIn_wide.2 (HCK.out _)).mono ?_; rintro e wx ⟨rfl, hb⟩; have fx : MSpecAt wx w.heap.size W Hn R := (hb.block _ (by simp)).trans (alloc_new_at _ _ _ rfl); obtain ⟨_, _, _⟩ := cells3 fx; have zx := fx.lt; have BX := Lib.hid (((Below.refl _ _).alloc (Nat.le_refl _) _).trans (hb.mono (by simp)) : Below w.heap.size w wx); have FX := Lib.hid fx; clear hb fx)
    | (gi_at_call 50; refine (callsIn_wide.2 (HEX.out _ _ (by first | exact HA.out | exact HB.out))).mono ?_; rintro e wy ⟨rfl, hb⟩; have fx := (hb.block _ zx).trans FX.out; obtain ⟨_, _, _⟩ := cells3 fx; have BX := Lib.hid (BX.out.trans (hb.mono (by omega))); have zx := lt_of_block fx; have FX := Lib.hid fx; clear hb fx)
    | (gi_at_call 51; refine (callsIn_wide.2 (route_any W Hn R a b _)).mono ?_; rintro e w1 ⟨bf, bs, bt, rfl, g1, g2, g3, g4, g5, g6, hb1⟩))
  have hz1 : wy.heap.size + 1 ≤ w1.heap.size := by have := hb1.size; simp at this; omega
  have hlB : w1.heap[wy.heap.size]? = some (.cells #[.slice none 0 0] 24) := (hb1.block _ (by simp)).trans (alloc_new_at _ _ _ rfl)
  have hB0 : Below w.heap.size w w1 := (BX.out.alloc (by omega) _).trans (hb1.mono (by simp; omega))
  have hG := route1_gives W a b Hn R K.out.1.1 K.out.1.2 K.out.2.1 K.out.2.2 HA.out HB.out bf bs bt w1 g4 g5 g6
  simp at g1 g2 g3
  have hlen : (pth W a b).length ≤ 15 := by
    rw [pth_length]
    have h1 := ds_le (a := a) (b := b) K.out.1.1 HA.out HB.out
    have h2 := K.out
    omega
  obtain ⟨lB, hlBe⟩ : ∃ l, l = wy.heap.size := ⟨_, rfl⟩
  rw [← hlBe] at hlB hz1 zx g1 g2 g3 ⊢
  obtain ⟨xs, hxs⟩ : ∃ xs, xs = pth W a b := ⟨_, rfl⟩
  have hrl : (rtL W a b).length = xs.length := by rw [hxs, rtL_length, pth_length]
  rw [← hxs] at hlen ⊢
  have hI0 : RtI xs lB w.heap.size w (fun _ => False) 0 w1 := ⟨⟨_, hlB, World.ownsRow_nil _ _ _ _, fun g hg => by cases hg⟩, hB0⟩
  have hlb1 := g4.lt
  have hlb2 := g5.lt
  have hlb3 := g6.lt
  have hxl : 0 < xs.length := by rw [hxs, pth_length]; omega
  have hcl : ∀ b, (b = bf ∨ b = bs ∨ b = bt) → b < w1.heap.size := by rintro b (rfl | rfl | rfl) <;> assumption
  have hown : ∀ b, b = lB → ¬ (b = bf ∨ b = bs ∨ b = bt) := by rintro b rfl hc; omega
  have HXS := Lib.hid hxs
  clear hb1 hlB hB0 g4 g5 g6 hxs BX FX hlBe
  refine wp_range1 (gf := 80) rfl entersR1 hG (Nat.le_refl _) (fun b hb => ⟨hcl b hb, rfl⟩) (fun _ => rfl) (fun b => b = lB)
    (fun b hb => ⟨hown b hb, by omega⟩) (RtI xs lB w.heap.size w) (fun _ _ _ _ => False) (fun G k A A' hi hb => hi.stab (N := w1.heap.size) (by omega) (by omega) (by have := hi.2.size; omega) hb) (fun _ _ _ _ _ hi _ => hi) hI0 ?hround ?hdone ?hstop
  case hstop =>
    intro D c G k W' _ _ _ _ hi _
    exact hi.elim
  case hdone =>
    rintro D G W' hD hnG hGb hI hK
    rw [hrl] at hI
    obtain ⟨⟨v, h4, h5, h6⟩, h7⟩ := hI
    rw [List.take_of_length_le (Nat.le_refl _)] at h5
    obtain ⟨m, hm⟩ : ∃ m, xs.length = m + 1 := ⟨xs.length - 1, by omega⟩
    rw [hm] at h5
    obtain ⟨g, cap, rfl⟩ := ownsRow_succ h5
    obtain ⟨c0, _⟩ := cells1 h4
    have H5 := Lib.hid h5
    have H6 := Lib.hid h6
    have H7 := Lib.hid h7
    clear h4 h5 h6 h7
    gi_wp2
    have eo2 : ∀ b, b ≠ D → (W'.putObj D (.deferred none)).heap[b]? = W'.heap[b]? := fun b hb => World.putObj_heap_other hb
    refine ⟨by simp, .inl ⟨_, _, rfl, run_takeDeferred hK, .tuple #[.slice (some ⟨g, 0, none⟩) (m + 1) cap, .int .i64 0], ?_, ?_⟩⟩
    · simp [results, Tryd.results19, go_sem]
    · refine ⟨_, rfl, ?_, H7.out.trans ⟨rfl, rfl, rfl, by simp, fun b hb => eo2 b (by omega)⟩⟩
      rw [← HXS.out, hm]
      exact ownsRow_of_block H5.out fun b hb => eo2 b (fun e => hnG (by rw [← e]; exact H6.out b hb))
  case hround =>
    rintro l2 G k ⟨X1, X2⟩ A hl2 hGb hszA hIk hx
    have hxp := rtL_pth hx
    rw [← HXS.out] at hxp
    have hkl : k < xs.length := (List.getElem?_eq_some_iff.1 hxp).1
    have hsn := take_snoc_of hxp
    obtain ⟨L0, hL0⟩ : ∃ L0, L0 = xs.take k := ⟨_, rfl⟩
    have hle : L0.length ≤ 15 := by rw [hL0, List.length_take]; omega
    rw [← hL0] at hsn
    have HS := Lib.hid hsn
    clear hx hxp hsn
    obtain ⟨i0, hi, hz0, hzz1, hzz2⟩ := info_parts Tryd.info3
    unfold encR
    gi_wp2
    refine ⟨Bel.refl _ _ _, ?_⟩
    rintro W2 hsW ⟨⟨v, h4, h5, h6⟩, h7⟩
    rw [← hL0] at h5
    clear hL0 hIk
    have hsz2 := hsW.size
    obtain ⟨c0, cf⟩ := cells1 h4
    have lt4 := lt_of_block h4
    have H4 := Lib.hid h4
    have H6 := Lib.hid h6
    have H7 := Lib.hid h7
    have HGb := Lib.hid hGb
    have HSZ := Lib.hid hsz2
    clear h4 h6 h7 hsW hGb hsz2
    gi_wp2_with (gi_at_builtin; have hsz2 := HSZ.out; (refine wpListIn_append_where _ rfl _ _ 24 rfl w.heap.size 3 i0 (.int .i64 0) 1 8 Tryd.underlying24 hi hz0 hzz1 hzz2 rfl (by decide) v _ _ rfl (h5.alloc _) ⟨W2.heap.size, 0, none⟩ 1 1 (by decide) [.int .i64 (X1 : Int)] rfl rfl (cell_one_new _ _ _) (by simp [Value.oneCell']) (by unfold maxLen; omega) (by omega) (by simp; omega) ?_; intro v' w2 hown' hgrow hwhere; obtain ⟨g', cap', rfl⟩ := ownsRow_succ hown'; have hkeep : ∀ b, b < W2.heap.size → ¬ G b → w2.heap[b]? = W2.heap[b]? := (fun b hb hn => (hgrow.block b (by rw [World.size_alloc]; omega) (fun e => hn (H6.out b e.symm))).trans (Below.heap_alloc _ _ _ hb)); have hnG : ∀ b, b < w1.heap.size ∨ A.heap.size ≤ b → ¬ G b := (fun b hb h => by have := HGb.out b h; omega); have hsz4 : W2.heap.size ≤ w2.heap.size := (by have := hgrow.size; rw [World.size_alloc] at this; omega); have b3 := (hkeep lB (by omega) (hnG _ (by omega))).trans H4.out; obtain ⟨u0, uf⟩ := cells1 b3; have B3 := Lib.hid b3; have HK := Lib.hid hkeep; have HNG := Lib.hid hnG; have HO := Lib.hid hown'; have HGR := Lib.hid hgrow; have HWH := Lib.hid hwhere; clear b3 hkeep hnG hown' hgrow hwhere hsz2))
    have hsz2 := HSZ.out
    have hwh : G g' ∨ g' = W2.heap.size + 1 := by
      rcases HWH.out with h | h
      · exact Or.inl (H6.out g' (by rw [← h]; rfl))
      · exact Or.inr (by simpa [Value.ownBlock] using h)
    have hg3 : g' < w2.heap.size := (HO.out.lt g' rfl).2
    have hne : g' ≠ lB := by
      rcases hwh with h | h
      · have := (HGb.out g' h).1; omega
      · omega
    have hB : Bel (fun b => (b = lB) ∨ G b) A.heap.size W2 w2 :=
      (((Bel.refl _ _ _).alloc (by omega) _).grown HGR.out (by rw [World.size_alloc]; omega) (fun b e => Or.inl (Or.inr (H6.out b e))))
    refine ⟨fun b => G b ∨ (A.heap.size ≤ b ∧ b < w2.heap.size), ⟨fun _ h => Or.inl h, fun _ h => h.imp id fun h => h.1, fun b hb => ?_⟩, ⟨⟨_, set1_0 B3.out _, ?_, fun g hg => ?_⟩, ?_⟩, ?_⟩
    · have : b < w2.heap.size := by
        rcases hb with h | h
        · have := (HGb.out b h).2; omega
        · exact h.2
      simpa [World.setCell] using this
    · rw [HS.out]
      unfold natV
      rw [List.length_append, List.map_append]
      refine ownsRow_of_block HO.out fun g hg => ?_
      obtain rfl : g' = g := by simpa [Value.ownBlock] using hg
      exact Below.heap_setCell _ _ _ _ (by show g' ≠ lB; exact hne)
    · obtain rfl : g' = g := by simpa [Value.ownBlock] using hg
      rcases hwh with h | h
      · exact Or.inl h
      · exact Or.inr ⟨by omega, hg3⟩
    · have hbw : Below w.heap.size W2 w2 := hB.below (by omega) (fun b hb h => by rcases h with h | h; omega; have := (HGb.out b h).1; omega)
      exact (H7.out.trans hbw).setCell (p := ⟨lB, 0, none⟩) (by simp; omega) _
    · exact hB.setCell (p := ⟨lB, 0, none⟩) (Or.inl (Or.inl rfl)) _
end Go.Proofs.YtlkcpnhepadenaaDoor
