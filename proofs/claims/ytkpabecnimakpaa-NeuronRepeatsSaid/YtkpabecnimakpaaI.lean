/- neuron.Next. -/
import Derived.Test.YtkpabecnimakpaaH
namespace Go.Proofs.Ytkpabecnimakpaa
set_option linter.unusedVariables false
open Go.RowKit Go.Shelf
attribute [local go_sem] Oper.semAt_some

/-- The state behind k silent ticks. -/
def sil (p : Prm) (V R : Int) (k : Nat) : Int × Int := after p V R (List.replicate k 0)
theorem sil_succ (p : Prm) (V R : Int) (k : Nat) : sil p V R (k + 1) = (tV p (sil p V R k).1 (sil p V R k).2 0, tR p (sil p V R k).1 (sil p V R k).2 0) := by
  unfold sil; rw [List.replicate_succ', after_snoc]
/-- In the silent tick number k there is a spike. -/
def silS (p : Prm) (V R : Int) (k : Nat) : Bool := tS p (sil p V R k).1 (sil p V R k).2 0
/-- k is the first silent tick with a spike, or behind which the state is as before it. -/
structure StopAt (p : Prm) (V R : Int) (k : Nat) : Prop where
  lt : k < 2097218
  before : ∀ j, j < k → silS p V R j = false ∧ sil p V R (j + 1) ≠ sil p V R j
  stop : silS p V R k = true ∨ sil p V R (k + 1) = sil p V R k

theorem runL_sil (p : Prm) (V R : Int) (n k : Nat) (x : (Int × Int) × Bool) (h : (runL p V R (List.replicate n 0))[k]? = some x) : k < n ∧ x = (sil p V R (k + 1), silS p V R k) := by
  have hk : k < n := by have := (List.getElem?_eq_some_iff.1 h).1; rw [runL_length] at this; simpa using this
  have := runL_get p V R (List.replicate n 0) k 0 (by simp [hk])
  rw [h] at this
  refine ⟨hk, ?_⟩
  have e1 : (List.replicate n (0 : Int)).take (k + 1) = List.replicate (k + 1) 0 := by rw [List.take_replicate]; congr 1; omega
  have e2 : (List.replicate n (0 : Int)).take k = List.replicate k 0 := by rw [List.take_replicate]; congr 1; omega
  rw [e1, e2] at this
  exact Option.some.inj this

/-- What Next returns. -/
def nextR (p : Prm) (V R : Int) (K : Nat) : Int := if silS p V R K then (K : Int) else -1

def NextI (p : Prm) (V R : Int) (K nb : Nat) (w : World) (k : Nat) (A : World) : Prop :=
  k ≤ K ∧ A.heap[w.heap.size + 1]? = some (.cells #[.int .i64 (sil p V R k).1, .int .i64 (sil p V R k).2] 25) ∧ A.heap[w.heap.size + 2]? = some (.cells #[.int .i64 0] 3) ∧ A.heap[w.heap.size + 3]? = some (.cells #[.int .i64 0] 26) ∧
  A.heap[nb]? = some (.cells #[.int .i64 (k : Int)] 3) ∧ Below w.heap.size w A
def NextX (p : Prm) (V R : Int) (K : Nat) (w : World) (c : Code) (A : World) : Prop :=
  (c = .ret ∧ silS p V R K = true ∧ A.heap[w.heap.size + 2]? = some (.cells #[.int .i64 (K : Int)] 3) ∧ A.heap[w.heap.size + 3]? = some (.cells #[.int .i64 0] 26) ∧ Below w.heap.size w A) ∨
  (c = .exit 0 ∧ silS p V R K = false ∧ A.heap[w.heap.size + 2]? = some (.cells #[.int .i64 0] 3) ∧ A.heap[w.heap.size + 3]? = some (.cells #[.int .i64 0] 26) ∧ Below w.heap.size w A)

set_option maxRecDepth 100000 in
set_option maxHeartbeats 2000000 in
theorem next_in (p : Prm) (V R : Int) (hv : validP p V R = 0) (K : Nat) (hK : StopAt p V R K) (w : World) :
    CallsIn Fence.wide 0 Try.prog 29 #[.agg #[.int .i64 p.lk, .int .i64 p.lv, .int .i64 p.bi, .int .i64 p.th, .int .i64 p.rk, .int .i64 p.rs, .int .i64 p.fl, .int .i64 p.re], .agg #[.int .i64 V, .int .i64 R]] w fun e w' =>
      e = .returned (.tuple #[.int .i64 (nextR p V R K), .int .i64 0]) ∧ Below w.heap.size w w' := by
  have hv' : (validP p V R != 0) = false := by simp [hv]
  obtain ⟨hok, k1, k2, k3, k4⟩ := ok_of_valid hv
  obtain ⟨lo, hi, fi, _, hk, _, hst⟩ := kinds hok
  have HK := Lib.hid hok
  clear hv hok
  refine callsIn_of_wp_marks Try.func29 rfl trivial ?_ rfl
  simp only [Try.ntmps29, List.size_toArray, List.length_cons, List.length_nil, Nat.reduceAdd, Nat.reduceSub, Array.replicate_succ, Array.replicate_zero, List.push_toArray, List.append_toArray, List.nil_append, List.cons_append]
  gi_wp2_with (refine ⟨trivial, rfl, ?_⟩; gi_at_call 19; refine (callsIn_wide.2 (valid_any p V R _)).mono ?_; rintro e w1 ⟨rfl, hb1⟩; have hz1 : w.heap.size + 3 < w1.heap.size := by have := hb1.size; simp at this; omega)
  have hb2 : Below w.heap.size w w1 := (((((Below.refl _ _).alloc (Nat.le_refl _) _).alloc (by simp) _ |>.alloc (by simp <;> omega) _).alloc (by simp <;> omega) _)).trans (hb1.mono (by simp <;> omega))
  have pA : PrmAt p w.heap.size w1 := by
    unfold PrmAt; rw [hb1.block _ (by simp <;> omega), Below.heap_alloc _ _ _ (by simp <;> omega), Below.heap_alloc _ _ _ (by simp <;> omega), Below.heap_alloc _ _ _ (by simp <;> omega)]; exact alloc_new_at _ _ _ rfl
  have sA : StAt V R (w.heap.size + 1) w1 := by
    unfold StAt; rw [hb1.block _ (by simp <;> omega), Below.heap_alloc _ _ _ (by simp <;> omega), Below.heap_alloc _ _ _ (by simp <;> omega)]; exact alloc_new_at _ _ _ (by simp)
  have r2 : w1.heap[w.heap.size + 2]? = some (.cells #[.int .i64 0] 3) := by
    rw [hb1.block _ (by simp <;> omega), Below.heap_alloc _ _ _ (by simp <;> omega)]; exact alloc_new_at _ _ _ (by simp)
  have r3 : w1.heap[w.heap.size + 3]? = some (.cells #[.int .i64 0] 26) := by
    rw [hb1.block _ (by simp <;> omega)]; exact alloc_new_at _ _ _ (by simp)
  -- the counter's box
  obtain ⟨wn, hwn⟩ : ∃ wn, w1.alloc (.cells #[.int .i64 0] 3) = wn := ⟨_, rfl⟩
  have hbn : Below w1.heap.size w1 wn := by rw [← hwn]; exact (Below.refl _ _).alloc (Nat.le_refl _) _
  have hnn : wn.heap[w1.heap.size]? = some (.cells #[.int .i64 0] 3) := by rw [← hwn]; exact World.alloc_heap_new _ _
  rw [hwn]
  clear hwn
  have hzn : w1.heap.size < wn.heap.size := lt_of_block hnn
  have pN : PrmAt p w.heap.size wn := (hbn.block _ (by omega)).trans pA
  have sN : StAt V R (w.heap.size + 1) wn := (hbn.block _ (by omega)).trans sA
  have r2N := (hbn.block _ (by omega)).trans r2
  have r3N := (hbn.block _ (by omega)).trans r3
  have hb3 : Below w.heap.size w wn := hb2.trans (hbn.mono hb2.size)
  obtain ⟨q0, q1, q2, q3, q4, q5, q6, q7⟩ := cells8 pN
  obtain ⟨s0, s1, _, _⟩ := cells2 sN
  have Hnn := Lib.hid hnn
  have HB3 := Lib.hid hb3
  have PN := Lib.hid pN
  have SN := Lib.hid sN
  have R2 := Lib.hid r2N
  have R3 := Lib.hid r3N
  clear hb1 hb2 pA sA r2 r3 hbn hnn pN sN r2N r3N hb3
  refine wpIn_wide.2 ?_
  go_region_held3 (fun w' => w'.cell? ⟨w.heap.size, 0, none⟩ = some (.int .i64 p.lk) ∧ w'.cell? ⟨w.heap.size, 1, none⟩ = some (.int .i64 p.lv) ∧ w'.cell? ⟨w.heap.size, 2, none⟩ = some (.int .i64 p.bi) ∧ w'.cell? ⟨w.heap.size, 3, none⟩ = some (.int .i64 p.th) ∧ w'.cell? ⟨w.heap.size, 4, none⟩ = some (.int .i64 p.rk) ∧ w'.cell? ⟨w.heap.size, 5, none⟩ = some (.int .i64 p.rs) ∧ w'.cell? ⟨w.heap.size, 6, none⟩ = some (.int .i64 p.fl) ∧ w'.cell? ⟨w.heap.size, 7, none⟩ = some (.int .i64 p.re) ∧ w'.cell? ⟨w.heap.size + 1, 0, none⟩ = some (.int .i64 V) ∧ w'.cell? ⟨w.heap.size + 1, 1, none⟩ = some (.int .i64 R)) (go_keep)
    (first | (go_at_call 47; refine (silence_any _ _).mono ?_; rintro e w' ⟨rfl, rfl⟩) | (go_at_call 48; refine (ticks_any p V R 60 _ lo hi fi hk _).mono ?_; rintro e w2 ⟨bs, bi, bp, bl, rfl, g1, g2, g3, g4, g5, g6, g7, g8, hb4⟩; have hb5 : Below wn.heap.size wn w2 := ((((Below.refl _ wn).alloc (Nat.le_refl _) _).alloc (by simp) _).drew.trans (hb4.mono (by simp <;> omega))); obtain ⟨v0, v1, v2, v3, v4, v5, v6, v7⟩ := cells8 ((hb5.block _ (by omega)).trans PN.out); obtain ⟨u0, u1, _, _⟩ := cells2 ((hb5.block _ (by omega)).trans SN.out); have HG := Lib.hid (And.intro g1 (And.intro g2 (And.intro g3 (And.intro g4 (And.intro g5 (And.intro g6 (And.intro g7 g8))))))); have HB4 := Lib.hid hb4; have HB5 := Lib.hid hb5; clear g1 g2 g3 g4 g5 g6 g7 g8 hb4 hb5))
  gi_wp2
  obtain ⟨g1, g2, g3, g4, g5, g6, g7, g8⟩ := HG.out
  simp at g1 g2 g3 g4
  have hb4 := HB4.out
  have hsz2 : wn.heap.size + 2 ≤ w2.heap.size := by have := hb4.size; simp at this; omega
  have hGi : Gives Try.prog 60 #[.pointer (some ⟨wn.heap.size + 1, 0, none⟩), .pointer (some ⟨wn.heap.size, 0, none⟩)] (fun x : Int => #[.int .i64 x]) (List.replicate 2097218 0) (fun b => b = wn.heap.size + 1 ∨ b = wn.heap.size) w2 :=
    again1_gives (wn.heap.size + 1) wn.heap.size 2097218 0 w2 (by omega)
      (cells1 ((hb4.block _ (by simp <;> omega)).trans (alloc_new_at _ _ _ (by simp)))).1 (cells1 ((hb4.block _ (by simp <;> omega)).trans (alloc_old_new _ _ _))).1
  have hG := ticks1_gives p HK.out lo hi fi hst V R k1 k2 k3 k4 (List.replicate 2097218 0) 60 _ enters60 bs bi bp bl w2 _ hGi (by rintro b (rfl | rfl) <;> omega) g5 g6 g7 g8
  have hI0 : NextI p V R K w1.heap.size w 0 w2 := by
    have hb5 := HB5.out
    refine ⟨Nat.zero_le _, (hb5.block _ (by omega)).trans SN.out, (hb5.block _ (by omega)).trans R2.out, (hb5.block _ (by omega)).trans R3.out, (hb5.block _ (by omega)).trans Hnn.out, HB3.out.trans (hb5.mono HB3.out.size)⟩
  refine wp_range1 (gf := 59) rfl enters59 hG (Nat.le_refl _) (fun b hb => ⟨?hc, rfl⟩) (fun _ => rfl) (fun b => b = w.heap.size + 1 ∨ b = w.heap.size + 2 ∨ b = w.heap.size + 3 ∨ b = w1.heap.size)
    (fun b hb => ⟨fun hc => ?ho, by omega⟩) (fun _ k A => NextI p V R K w1.heap.size w k A) (fun c _ _ A => NextX p V R K w c A) ?hI ?hIx hI0 ?hround ?hdone ?hstop
  case hc =>
    rcases hb with rfl | rfl | rfl | rfl | rfl | rfl
    · exact lt_of_block g5
    · exact lt_of_block g6
    · exact lt_of_block g7
    · exact lt_of_block g8
    · omega
    · omega
  case ho =>
    rcases hc with rfl | rfl | rfl | rfl | rfl | rfl <;> omega
  case hI =>
    rintro G k A A' ⟨h0, h1, h2, h3, h4, h5⟩ hb
    exact ⟨h0, (hb.block _ (lt_of_block h1) (by omega)).trans h1, (hb.block _ (lt_of_block h2) (by omega)).trans h2, (hb.block _ (lt_of_block h3) (by omega)).trans h3, (hb.block _ (lt_of_block h4) (by omega)).trans h4, h5.trans (hb.below (by have := lt_of_block h1; omega) (fun b h => by omega))⟩
  case hIx =>
    rintro c G k A A' hx hb
    rcases hx with ⟨h0, h1, h2, h3, h5⟩ | ⟨h0, h1, h2, h3, h5⟩
    · exact Or.inl ⟨h0, h1, (hb.block _ (lt_of_block h2) (by omega)).trans h2, (hb.block _ (lt_of_block h3) (by omega)).trans h3, h5.trans (hb.below (by have := lt_of_block h2; omega) (fun b h => by omega))⟩
    · exact Or.inr ⟨h0, h1, (hb.block _ (lt_of_block h2) (by omega)).trans h2, (hb.block _ (lt_of_block h3) (by omega)).trans h3, h5.trans (hb.below (by have := lt_of_block h2; omega) (fun b h => by omega))⟩
  case hdone =>
    rintro D G W' hD hG hGb ⟨h0, _⟩ hK'
    rw [runL_length, List.length_replicate] at h0
    have := hK.lt
    omega
  case hstop =>
    rintro D c G k W' hD hnG hGb hk hx hK'
    have hltD := lt_of_block hK'
    rcases hx with ⟨rfl, h1, h2, h3, h5⟩ | ⟨rfl, h1, h2, h3, h5⟩
    · have hl2 := lt_of_block h2
      gi_wp2
      have eo2 : ∀ b, b ≠ D → (W'.putObj D (.deferred none)).heap[b]? = W'.heap[b]? := fun b hb => World.putObj_heap_other hb
      obtain ⟨q0', _⟩ := cells1 (show (W'.putObj D (.deferred none)).heap[w.heap.size + 1 + 1]? = _ from (eo2 _ (by omega)).trans h2)
      obtain ⟨q1', _⟩ := cells1 (show (W'.putObj D (.deferred none)).heap[w.heap.size + 1 + 1 + 1]? = _ from (eo2 _ (by omega)).trans h3)
      refine ⟨by simp, .inl ⟨_, _, rfl, run_takeDeferred hK', .tuple #[.int .i64 (K : Int), .int .i64 0], ?_, ?_⟩⟩
      · simp [results, Try.results29, go_sem, q0', q1']
      · exact ⟨by rw [nextR, if_pos h1], h5.trans ⟨rfl, rfl, rfl, by simp, fun b hb => eo2 b (by omega)⟩⟩
    · have hl2 := lt_of_block h2
      obtain ⟨c0, cf0⟩ := cells1 (show W'.heap[w.heap.size + 1 + 1]? = _ from h2)
      obtain ⟨d0, df0⟩ := cells1 (show W'.heap[w.heap.size + 1 + 1 + 1]? = _ from h3)
      have H2 := Lib.hid h2
      have H3 := Lib.hid h3
      have H1 := Lib.hid h1
      clear h1 h2 h3
      gi_wp2
      have eo2 : ∀ b, b ≠ w.heap.size + 2 → b ≠ w.heap.size + 3 → ((W'.setCell ⟨w.heap.size + 1 + 1, 0, none⟩ (.int .i64 (-1))).setCell ⟨w.heap.size + 1 + 1 + 1, 0, none⟩ (.int .i64 0)).heap[b]? = W'.heap[b]? := fun b h2 h3 => by
        rw [Below.heap_setCell _ _ _ _ (by show b ≠ w.heap.size + 3; exact h3), Below.heap_setCell _ _ _ _ (by show b ≠ w.heap.size + 2; exact h2)]
      have x2 : ((W'.setCell ⟨w.heap.size + 1 + 1, 0, none⟩ (.int .i64 (-1))).setCell ⟨w.heap.size + 1 + 1 + 1, 0, none⟩ (.int .i64 0)).heap[w.heap.size + 1 + 1]? = some (.cells #[.int .i64 (-1)] 3) := by
        rw [Below.heap_setCell _ _ _ _ (by simp <;> omega)]; exact set1_0 H2.out _
      have x3 : ((W'.setCell ⟨w.heap.size + 1 + 1, 0, none⟩ (.int .i64 (-1))).setCell ⟨w.heap.size + 1 + 1 + 1, 0, none⟩ (.int .i64 0)).heap[w.heap.size + 1 + 1 + 1]? = some (.cells #[.int .i64 0] 26) :=
        set1_0 (by rw [Below.heap_setCell _ _ _ _ (by simp <;> omega)]; exact H3.out) _
      have eB : Below w.heap.size w ((W'.setCell ⟨w.heap.size + 1 + 1, 0, none⟩ (.int .i64 (-1))).setCell ⟨w.heap.size + 1 + 1 + 1, 0, none⟩ (.int .i64 0)) :=
        (h5.setCell (p := ⟨w.heap.size + 1 + 1, 0, none⟩) (by simp <;> omega) _).setCell (p := ⟨w.heap.size + 1 + 1 + 1, 0, none⟩) (by simp <;> omega) _
      have eK := (eo2 D (by omega) (by omega)).trans hK'
      generalize ((W'.setCell ⟨w.heap.size + 1 + 1, 0, none⟩ (.int .i64 (-1))).setCell ⟨w.heap.size + 1 + 1 + 1, 0, none⟩ (.int .i64 0)) = Wf at *
      have eo3 : ∀ b, b ≠ D → (Wf.putObj D (.deferred none)).heap[b]? = Wf.heap[b]? := fun b hb => World.putObj_heap_other hb
      obtain ⟨q0', _⟩ := cells1 ((eo3 _ (by omega)).trans x2)
      obtain ⟨q1', _⟩ := cells1 ((eo3 _ (by omega)).trans x3)
      refine ⟨by simp, .inl ⟨_, _, rfl, run_takeDeferred eK, .tuple #[.int .i64 (-1), .int .i64 0], ?_, ?_⟩⟩
      · simp [results, Try.results29, go_sem, q0', q1']
      · exact ⟨by rw [nextR, if_neg (by rw [H1.out]; simp)], eB.trans ⟨rfl, rfl, rfl, by simp, fun b hb => eo3 b (by omega)⟩⟩
  case hround =>
    rintro l2 G k x A hl2 hGb hszA hIk hx
    obtain ⟨hkn, rfl⟩ := runL_sil p V R _ k x hx
    obtain ⟨⟨X1, X2⟩, hX⟩ : ∃ X : Int × Int, X = sil p V R (k + 1) := ⟨_, rfl⟩
    obtain ⟨⟨V0, R0⟩, hV0⟩ : ∃ X : Int × Int, X = sil p V R k := ⟨_, rfl⟩
    obtain ⟨sp, hsp⟩ : ∃ sp, sp = silS p V R k := ⟨_, rfl⟩
    rw [← hX, ← hsp]
    have HX := Lib.hid hX
    have HV := Lib.hid hV0
    have HS := Lib.hid hsp
    clear hx hX hV0 hsp
    gi_wp2
    refine ⟨(Bel.refl _ _ _).alloc (Nat.le_refl _) _, ?_⟩
    rintro W2 hsW ⟨h0, h1, h2, h3, h4, h5⟩
    rw [← HV.out] at h1
    have bA : W2.heap[A.heap.size]? = some (.cells #[.int .i64 X1, .int .i64 X2] 25) := (hsW.cells _ ⟨_, _, _, World.alloc_heap_new _ _⟩).trans (World.alloc_heap_new _ _)
    have hsz2' : A.heap.size < W2.heap.size := lt_of_block bA
    obtain ⟨a0, a1, _, _⟩ := cells2 bA
    obtain ⟨b0, b1, bf0, bf1⟩ := cells2 h1
    obtain ⟨c0, cf0⟩ := cells1 (show W2.heap[w.heap.size + 1 + 1]? = _ from h2)
    obtain ⟨d0, df0⟩ := cells1 (show W2.heap[w.heap.size + 1 + 1 + 1]? = _ from h3)
    obtain ⟨n0, nf0⟩ := cells1 h4
    have hkK : k ≤ K := h0
    have hb2 : w.heap.size + 3 < w1.heap.size := hz1
    have hn1 : ¬ w.heap.size + 1 + 1 = w1.heap.size := by omega
    have hn2 : ¬ w.heap.size + 1 + 1 + 1 = w1.heap.size := by omega
    have hn3 : ¬ w.heap.size + 1 = w1.heap.size := by omega
    have H1 := Lib.hid h1
    have H2 := Lib.hid h2
    have H3 := Lib.hid h3
    have H4 := Lib.hid h4
    have H5 := Lib.hid h5
    have HGb := Lib.hid hGb
    clear h1 h2 h3 h4 h5 hsW bA hIk hGb
    cases sp with
    | true =>
      have hKk : k = K := by
        by_cases e : k < K
        · have := (hK.before k e).1; rw [← HS.out] at this; cases this
        · omega
      gi_wp2
      subst hKk
      refine ⟨G, ⟨fun _ h => h, fun _ h => Or.inl h, fun b hb => by have := (HGb.out b hb).2; simp [World.setCell]; omega⟩, Or.inl ⟨rfl, HS.out.symm, ?_, ?_, ?_⟩, ?_⟩
      · rw [Below.heap_setCell _ _ _ _ (by simp <;> omega)]; exact set1_0 H2.out _
      · exact set1_0 (by rw [Below.heap_setCell _ _ _ _ (by simp <;> omega)]; exact H3.out) _
      · exact (H5.out.setCell (p := ⟨w.heap.size + 1 + 1, 0, none⟩) (by simp <;> omega) _).setCell (p := ⟨w.heap.size + 1 + 1 + 1, 0, none⟩) (by simp <;> omega) _
      · exact ((Bel.refl _ _ _).setCell (p := ⟨w.heap.size + 1 + 1, 0, none⟩) (Or.inl (Or.inl (Or.inr (Or.inl rfl)))) _).setCell (p := ⟨w.heap.size + 1 + 1 + 1, 0, none⟩) (Or.inl (Or.inl (Or.inr (Or.inr (Or.inl rfl))))) _
    | false =>
      by_cases hkK' : k = K
      · have hXV : X1 = V0 ∧ X2 = R0 := by
          have := hK.stop
          rw [← hkK', ← HS.out, ← HX.out, ← HV.out] at this
          simpa using this
        obtain ⟨rfl, rfl⟩ := hXV
        gi_wp2
        subst hkK'
        exact ⟨G, ⟨fun _ h => h, fun _ h => Or.inl h, fun b hb => by have := (HGb.out b hb).2; omega⟩, Or.inr ⟨rfl, HS.out.symm, H2.out, H3.out, H5.out⟩, Bel.refl _ _ _⟩
      · have hXV : ¬ (X1 = V0 ∧ X2 = R0) := by
          have := (hK.before k (by omega)).2
          rw [← HX.out, ← HV.out] at this
          simpa using this
        have HXV := Lib.hid hXV
        clear hXV
        gi_wp2
        · have := ‹X1 = V0›
          have := ‹X2 = R0›
          exact absurd ⟨‹X1 = V0›, ‹X2 = R0›⟩ HXV.out
        all_goals
          refine ⟨G, ⟨fun _ h => h, fun _ h => Or.inl h, fun b hb => by have := (HGb.out b hb).2; simp [World.setCell]; omega⟩, ⟨by omega, ?_, ?_, ?_, ?_, ?_⟩, ?_⟩
          · rw [← HX.out, Below.heap_setCell _ _ _ _ (by simp <;> omega)]
            first | exact set2_1 (set2_0 H1.out _) _ | (rename X1 = V0 => hxv; rw [hxv]; exact set2_1 (set2_0 H1.out _) _)
          · rw [Below.heap_setCell _ _ _ _ (by simp <;> omega), Below.heap_setCell _ _ _ _ (by simp <;> omega), Below.heap_setCell _ _ _ _ (by simp <;> omega)]; exact H2.out
          · rw [Below.heap_setCell _ _ _ _ (by simp <;> omega), Below.heap_setCell _ _ _ _ (by simp <;> omega), Below.heap_setCell _ _ _ _ (by simp <;> omega)]; exact H3.out
          · exact set1_0 (by rw [Below.heap_setCell _ _ _ _ (by simp <;> omega), Below.heap_setCell _ _ _ _ (by simp <;> omega)]; exact H4.out) _
          · exact ((H5.out.setCell (p := ⟨w.heap.size + 1, 0, none⟩) (by simp <;> omega) _).setCell (p := ⟨w.heap.size + 1, 1, none⟩) (by simp <;> omega) _).setCell (p := ⟨w1.heap.size, 0, none⟩) (by simp <;> omega) _
          · exact (((Bel.refl _ _ _).setCell (p := ⟨w.heap.size + 1, 0, none⟩) (Or.inl (Or.inl (Or.inl rfl))) _).setCell (p := ⟨w.heap.size + 1, 1, none⟩) (Or.inl (Or.inl (Or.inl rfl))) _).setCell (p := ⟨w1.heap.size, 0, none⟩) (Or.inl (Or.inl (Or.inr (Or.inr (Or.inr rfl))))) _

/-- neuron.Next where the state is valid, as a plain call. -/
theorem next_ok (p : Prm) (V R : Int) (hv : validP p V R = 0) (K : Nat) (hK : StopAt p V R K) (w : World) :
    Calls Try.prog 29 #[.agg #[.int .i64 p.lk, .int .i64 p.lv, .int .i64 p.bi, .int .i64 p.th, .int .i64 p.rk, .int .i64 p.rs, .int .i64 p.fl, .int .i64 p.re], .agg #[.int .i64 V, .int .i64 R]] w fun e w' =>
      e = .returned (.tuple #[.int .i64 (nextR p V R K), .int .i64 0]) ∧ Below w.heap.size w w' := callsIn_wide.1 (next_in p V R hv K hK w)

end Go.Proofs.Ytkpabecnimakpaa
