/- neuron.collect: the ticks with spikes, and the state behind them. -/
import Derived.Test.YtkpabecnimakpaaE
import Derived.Test.YtkpabecnimakpaaG
namespace Go.Proofs.Ytkpabecnimakpaa
set_option linter.unusedVariables false
open Go.RowKit Go.Shelf
attribute [local go_sem] Oper.semAt_some

/-- The numbers, below k, of the ticks with a spike. -/
def spkL (xs : List ((Int × Int) × Bool)) (k : Nat) : List Int := (List.range k).filterMap fun j : Nat => if ((xs[j]?).map (fun x => x.2)).getD false then some (j : Int) else none
theorem spkL_succ {xs : List ((Int × Int) × Bool)} {k : Nat} {x : (Int × Int) × Bool} (h : xs[k]? = some x) : spkL xs (k + 1) = spkL xs k ++ if x.2 then [(k : Int)] else [] := by
  unfold spkL
  rw [List.range_succ, List.filterMap_append]
  congr 1
  by_cases hx : x.2 <;> simp [h, hx]
theorem spkL_le (xs : List ((Int × Int) × Bool)) (k : Nat) : (spkL xs k).length ≤ k := by
  unfold spkL
  have := List.length_filterMap_le (fun j : Nat => if ((xs[j]?).map (fun x => x.2)).getD false then some (j : Int) else none) (List.range k)
  simpa using this

theorem ownsRow_forms {W : World} {base : Nat} {e : TypeId} {size : Nat} {v : Value} {n : Nat} {xs : List Value} (h : W.ownsRow base e size v n xs) : (v = .slice none 0 0 ∧ n = 0) ∨ ∃ g cap, v = .slice (some ⟨g, 0, none⟩) n cap := by
  rcases h.2 with hn | ⟨g, cap, _, rfl, _⟩
  · exact Or.inl hn
  · exact Or.inr ⟨g, cap, rfl⟩

theorem alloc_new_at (W : World) (o : Obj) (k : Nat) (h : k = W.heap.size) : (W.alloc o).heap[k]? = some o := by subst h; exact World.alloc_heap_new W o

theorem Try.info3 : (Try.prog.info? 3).map (fun i => (i.zero, i.size, i.bytes)) = some (some (.int .i64 0), 1, 8) := by kernel_rfl

/-- What collect returns. -/
def Collected (p : Prm) (V R : Int) (ins : List Int) (w : World) (e : Ending) (w' : World) : Prop :=
  ∃ v, e = .returned (.tuple #[v, .agg #[.int .i64 (after p V R ins).1, .int .i64 (after p V R ins).2]]) ∧
    w'.ownsRow w.heap.size 3 1 v (spkL (runL p V R ins) ins.length).length ((spkL (runL p V R ins) ins.length).map (Value.int .i64)) ∧ Below w.heap.size w w'

/-- What the loop of collect holds: N: the heap's size when the call began. -/
def CollI (p : Prm) (V R : Int) (ins : List Int) (w : World) (G : Nat → Prop) (k : Nat) (A : World) : Prop :=
  A.heap[w.heap.size + 1]? = some (.cells #[.int .i64 (after p V R (ins.take k)).1, .int .i64 (after p V R (ins.take k)).2] 25) ∧
  A.heap[w.heap.size + 2]? = some (.cells #[.int .i64 0, .int .i64 0] 25) ∧
  A.heap[w.heap.size + 4]? = some (.cells #[.int .i64 (k : Int)] 3) ∧
  (∃ v, A.heap[w.heap.size + 3]? = some (.cells #[v] 35) ∧ A.ownsRow w.heap.size 3 1 v (spkL (runL p V R ins) k).length ((spkL (runL p V R ins) k).map (Value.int .i64)) ∧ ∀ g, v.ownBlock = some g → G g) ∧
  Below w.heap.size w A

theorem CollI.stab {p : Prm} {V R : Int} {ins : List Int} {w : World} {N : Nat} (hN : w.heap.size + 5 ≤ N) {G : Nat → Prop} {k : Nat} {A A' : World} (h : CollI p V R ins w G k A) (hb : Bel (fun b => N ≤ b ∧ ¬ G b) A.heap.size A A') : CollI p V R ins w G k A' := by
  obtain ⟨h1, h2, h3, ⟨v, h4, h5, h6⟩, h7⟩ := h
  refine ⟨(hb.block _ (lt_of_block h1) (by omega)).trans h1, (hb.block _ (lt_of_block h2) (by omega)).trans h2, (hb.block _ (lt_of_block h3) (by omega)).trans h3,
    ⟨v, (hb.block _ (lt_of_block h4) (by omega)).trans h4, ownsRow_of_block h5 fun g hg => hb.block g (h5.lt g hg).2 (fun h => h.2 (h6 g hg)), h6⟩, h7.trans (hb.below (by have := lt_of_block h1; omega) (fun b h => by omega))⟩

set_option maxRecDepth 100000 in
set_option maxHeartbeats 2000000 in
theorem collect_in (p : Prm) (h : Ok p) (lo hi : Int) (fi : Nat) (hk : Kind p.lk lo hi fi) (hst : StepFn p lo hi fi) (V R : Int) (hV : p.fl ≤ V) (hV' : V ≤ 1048576) (hR : 0 ≤ R) (hR' : R ≤ p.re)
    (ins : List Int) (hlen : ins.length ≤ 3000000) (gf : Nat) (lb : Array Value) (eg : ∀ args w, (callFunc gf args).run Try.prog w = .ok (.enter gf args) w) (w : World) (CapI : Nat → Prop)
    (hin : Gives Try.prog gf lb (fun x : Int => #[.int .i64 x]) ins CapI w) (hCapI : ∀ b, CapI b → b < w.heap.size) :
    CallsIn Fence.wide 0 Try.prog 45 #[.agg #[.int .i64 p.lk, .int .i64 p.lv, .int .i64 p.bi, .int .i64 p.th, .int .i64 p.rk, .int .i64 p.rs, .int .i64 p.fl, .int .i64 p.re], .agg #[.int .i64 V, .int .i64 R], .func (.func gf) #[] lb] w (Collected p V R ins w) := by
  refine callsIn_of_wp_marks Try.func45 rfl trivial ?_ rfl
  simp only [Try.ntmps45, List.size_toArray, List.length_cons, List.length_nil, Nat.reduceAdd, Nat.reduceSub, Array.replicate_succ, Array.replicate_zero, List.push_toArray, List.append_toArray, List.nil_append, List.cons_append]
  have HhCapI := Lib.hid hCapI
  have Heg := Lib.hid eg
  clear hCapI eg
  gi_wp2_with (refine ⟨trivial, rfl, ?_⟩; gi_at_call 48; refine (callsIn_wide.2 (ticks_any p V R gf lb lo hi fi hk _)).mono ?_; rintro e w1 ⟨bs, bi, bp, bl, rfl, g1, g2, g3, g4, g5, g6, g7, g8, hb1⟩)
  have HhB := Lib.hid hb1
  have a1 : w1.heap[w.heap.size + 1]? = some (.cells #[.int .i64 V, .int .i64 R] 25) := by
    rw [hb1.block _ (by simp <;> omega)]
    have := World.alloc_heap_new (w.alloc (.cells #[.int .i64 p.lk, .int .i64 p.lv, .int .i64 p.bi, .int .i64 p.th, .int .i64 p.rk, .int .i64 p.rs, .int .i64 p.fl, .int .i64 p.re] 23)) (.cells #[.int .i64 V, .int .i64 R] 25)
    rw [World.size_alloc] at this
    rw [Below.heap_alloc _ _ _ (by simp <;> omega), Below.heap_alloc _ _ _ (by simp <;> omega), Below.heap_alloc _ _ _ (by simp <;> omega)]; exact this
  have a2 : w1.heap[w.heap.size + 2]? = some (.cells #[.int .i64 0, .int .i64 0] 25) := by
    rw [hb1.block _ (by simp <;> omega)]
    rw [Below.heap_alloc _ _ _ (by simp <;> omega), Below.heap_alloc _ _ _ (by simp <;> omega)]
    exact alloc_new_at _ _ _ (by simp)
  have a3 : w1.heap[w.heap.size + 3]? = some (.cells #[.slice none 0 0] 35) := by
    rw [hb1.block _ (by simp <;> omega)]
    rw [Below.heap_alloc _ _ _ (by simp <;> omega)]
    exact alloc_new_at _ _ _ (by simp)
  have a4 : w1.heap[w.heap.size + 4]? = some (.cells #[.int .i64 0] 3) := by
    rw [hb1.block _ (by simp <;> omega)]
    exact alloc_new_at _ _ _ (by simp)
  have hz1 : w.heap.size + 5 ≤ w1.heap.size := by have := hb1.size; simp at this; omega
  have hb0 : Below w.heap.size w w1 := (((((((Below.refl _ _).alloc (Nat.le_refl _) _).alloc (by simp) _).alloc (by simp <;> omega) _).alloc (by simp <;> omega) _).alloc (by simp <;> omega) _)).trans (hb1.mono (by simp <;> omega))
  have hG := ticks1_gives p h lo hi fi hst V R hV hV' hR hR' ins gf lb Heg.out bs bi bp bl w1 CapI (hin.at hb0.size fun k hk => hb0.block k (HhCapI.out k hk)) (fun b hb => by have := HhCapI.out b hb; omega) g5 g6 g7 g8
  simp at g1 g2 g3 g4
  have HG5 := Lib.hid g5
  have HG6 := Lib.hid g6
  have HG7 := Lib.hid g7
  have HG8 := Lib.hid g8
  have HB0 := Lib.hid hb0
  clear g5 g6 g7 g8 hb1 hb0
  have hCI0 : CollI p V R ins w (fun _ => False) 0 w1 := ⟨a1, a2, a4, ⟨_, a3, World.ownsRow_nil _ _ _ _, fun g hg => by cases hg⟩, HB0.out⟩
  clear a1 a2 a3 a4
  refine wp_range1 (gf := 59) rfl enters59 hG (Nat.le_refl _) (fun b hb => ⟨?hc, rfl⟩) (fun _ => rfl) (fun b => b = w.heap.size + 1 ∨ b = w.heap.size + 3 ∨ b = w.heap.size + 4)
    (fun b hb => ⟨fun hc => ?ho, by omega⟩) (CollI p V R ins w) (fun _ _ _ _ => False) (fun G k A A' hi hb => hi.stab hz1 hb) (fun _ _ _ _ _ hi _ => hi) hCI0 ?hround ?hdone ?hstop
  case hc =>
    rcases hb with rfl | rfl | rfl | rfl | hb
    · exact lt_of_block HG5.out
    · exact lt_of_block HG6.out
    · exact lt_of_block HG7.out
    · exact lt_of_block HG8.out
    · have := HhCapI.out b hb; omega
  case ho =>
    rcases hc with rfl | rfl | rfl | rfl | hc
    · omega
    · omega
    · omega
    · omega
    · have := HhCapI.out b hc; omega
  case hstop =>
    intro D c G k W' _ _ _ _ hi _
    exact hi.elim
  case hdone =>
    rintro D G W' hD hnG hGb hI hK
    rw [runL_length, CollI, List.take_length] at hI
    obtain ⟨h1, h2, h3, ⟨v, h4, h5, h6⟩, h7⟩ := hI
    obtain ⟨s0, s1, _, _⟩ := cells2 h1
    obtain ⟨r0, r1, rf0, rf1⟩ := cells2 (show W'.heap[w.heap.size + 1 + 1]? = _ from h2)
    obtain ⟨c0, _⟩ := cells1 (show W'.heap[w.heap.size + 1 + 1 + 1]? = _ from h4)
    have H2 := Lib.hid h2
    have hlt2 := lt_of_block h2
    clear h1 h2 h3 h4
    have HI7 := Lib.hid h7
    have HI6 := Lib.hid h6
    have HGb := Lib.hid hGb
    have HR5 := Lib.hid h5
    clear h7 h6 hGb
    rcases ownsRow_forms h5 with ⟨rfl, hnil⟩ | ⟨g, cap, rfl⟩
    · clear h5
      gi_wp2
      gi_region
      gi_wp2
      have e2 : ((W'.setCell ⟨w.heap.size + 1 + 1, 0, none⟩ (.int .i64 (after p V R ins).1)).setCell ⟨w.heap.size + 1 + 1, 1, none⟩ (.int .i64 (after p V R ins).2)).drew.heap[w.heap.size + 2]? = some (.cells #[.int .i64 (after p V R ins).1, .int .i64 (after p V R ins).2] 25) := set2_1 (set2_0 H2.out _) _
      have eo : ∀ b, b ≠ w.heap.size + 2 → ((W'.setCell ⟨w.heap.size + 1 + 1, 0, none⟩ (.int .i64 (after p V R ins).1)).setCell ⟨w.heap.size + 1 + 1, 1, none⟩ (.int .i64 (after p V R ins).2)).drew.heap[b]? = W'.heap[b]? := fun b hb => by
        show ((W'.setCell ⟨w.heap.size + 1 + 1, 0, none⟩ (.int .i64 (after p V R ins).1)).setCell ⟨w.heap.size + 1 + 1, 1, none⟩ (.int .i64 (after p V R ins).2)).heap[b]? = _
        rw [Below.heap_setCell _ _ _ _ (by show b ≠ w.heap.size + 2; exact hb), Below.heap_setCell _ _ _ _ (by show b ≠ w.heap.size + 2; exact hb)]
      have eB : Below w.heap.size w ((W'.setCell ⟨w.heap.size + 1 + 1, 0, none⟩ (.int .i64 (after p V R ins).1)).setCell ⟨w.heap.size + 1 + 1, 1, none⟩ (.int .i64 (after p V R ins).2)).drew :=
        ((HI7.out.setCell (p := ⟨w.heap.size + 1 + 1, 0, none⟩) (by simp <;> omega) _).setCell (p := ⟨w.heap.size + 1 + 1, 1, none⟩) (by simp <;> omega) _).drew
      have eK := (eo D (by omega)).trans hK
      have eR := ownsRow_of_block HR5.out fun b hb => eo b (by have := HI6.out b hb; have := (HGb.out b this).1; omega)
      generalize ((W'.setCell ⟨w.heap.size + 1 + 1, 0, none⟩ (.int .i64 (after p V R ins).1)).setCell ⟨w.heap.size + 1 + 1, 1, none⟩ (.int .i64 (after p V R ins).2)).drew = Wf at *
      have eo2 : ∀ b, b ≠ D → (Wf.putObj D (.deferred none)).heap[b]? = Wf.heap[b]? := fun b hb => World.putObj_heap_other hb
      obtain ⟨q0, q1, _, _⟩ := cells2 (show (Wf.putObj D (.deferred none)).heap[w.heap.size + 1 + 1]? = _ from (eo2 _ (by omega)).trans e2)
      refine ⟨by simp, .inl ⟨_, _, rfl, run_takeDeferred eK, .tuple #[.slice none 0 0, .agg #[.int .i64 (after p V R ins).1, .int .i64 (after p V R ins).2]], ?_, ?_⟩⟩
      · simp [results, Try.results45, go_sem, q0, q1]
      · exact ⟨_, rfl, ownsRow_of_block eR fun b hb => eo2 b (fun e => hnG (by rw [← e]; exact HI6.out b hb)), eB.trans ⟨rfl, rfl, rfl, by simp, fun b hb => eo2 b (by omega)⟩⟩
    · clear h5
      gi_wp2
      gi_region
      gi_wp2
      have e2 : ((W'.setCell ⟨w.heap.size + 1 + 1, 0, none⟩ (.int .i64 (after p V R ins).1)).setCell ⟨w.heap.size + 1 + 1, 1, none⟩ (.int .i64 (after p V R ins).2)).drew.heap[w.heap.size + 2]? = some (.cells #[.int .i64 (after p V R ins).1, .int .i64 (after p V R ins).2] 25) := set2_1 (set2_0 H2.out _) _
      have eo : ∀ b, b ≠ w.heap.size + 2 → ((W'.setCell ⟨w.heap.size + 1 + 1, 0, none⟩ (.int .i64 (after p V R ins).1)).setCell ⟨w.heap.size + 1 + 1, 1, none⟩ (.int .i64 (after p V R ins).2)).drew.heap[b]? = W'.heap[b]? := fun b hb => by
        show ((W'.setCell ⟨w.heap.size + 1 + 1, 0, none⟩ (.int .i64 (after p V R ins).1)).setCell ⟨w.heap.size + 1 + 1, 1, none⟩ (.int .i64 (after p V R ins).2)).heap[b]? = _
        rw [Below.heap_setCell _ _ _ _ (by show b ≠ w.heap.size + 2; exact hb), Below.heap_setCell _ _ _ _ (by show b ≠ w.heap.size + 2; exact hb)]
      have eB : Below w.heap.size w ((W'.setCell ⟨w.heap.size + 1 + 1, 0, none⟩ (.int .i64 (after p V R ins).1)).setCell ⟨w.heap.size + 1 + 1, 1, none⟩ (.int .i64 (after p V R ins).2)).drew :=
        ((HI7.out.setCell (p := ⟨w.heap.size + 1 + 1, 0, none⟩) (by simp <;> omega) _).setCell (p := ⟨w.heap.size + 1 + 1, 1, none⟩) (by simp <;> omega) _).drew
      have eK := (eo D (by omega)).trans hK
      have eR := ownsRow_of_block HR5.out fun b hb => eo b (by have := HI6.out b hb; have := (HGb.out b this).1; omega)
      generalize ((W'.setCell ⟨w.heap.size + 1 + 1, 0, none⟩ (.int .i64 (after p V R ins).1)).setCell ⟨w.heap.size + 1 + 1, 1, none⟩ (.int .i64 (after p V R ins).2)).drew = Wf at *
      have eo2 : ∀ b, b ≠ D → (Wf.putObj D (.deferred none)).heap[b]? = Wf.heap[b]? := fun b hb => World.putObj_heap_other hb
      obtain ⟨q0, q1, _, _⟩ := cells2 (show (Wf.putObj D (.deferred none)).heap[w.heap.size + 1 + 1]? = _ from (eo2 _ (by omega)).trans e2)
      refine ⟨by simp, .inl ⟨_, _, rfl, run_takeDeferred eK, .tuple #[.slice (some ⟨g, 0, none⟩) (spkL (runL p V R ins) ins.length).length cap, .agg #[.int .i64 (after p V R ins).1, .int .i64 (after p V R ins).2]], ?_, ?_⟩⟩
      · simp [results, Try.results45, go_sem, q0, q1]
      · exact ⟨_, rfl, ownsRow_of_block eR fun b hb => eo2 b (fun e => hnG (by rw [← e]; exact HI6.out b hb)), eB.trans ⟨rfl, rfl, rfl, by simp, fun b hb => eo2 b (by omega)⟩⟩
  case hround =>
    rintro l2 G k ⟨⟨X1, X2⟩, sp⟩ A hl2 hGb hszA hIk hx
    have hnext : after p V R (ins.take (k + 1)) = (X1, X2) := by
      have hkl : k < ins.length := by
        have := (List.getElem?_eq_some_iff.1 hx).1; rw [runL_length] at this; exact this
      have := runL_get p V R ins k ins[k] (by simp [hkl])
      rw [hx] at this; simp at this; exact this.1.symm
    have hspk := spkL_succ hx
    have hkl : k < 3000000 := by have := (List.getElem?_eq_some_iff.1 hx).1; rw [runL_length] at this; omega
    have hle := spkL_le (runL p V R ins) k
    obtain ⟨L0, hL0⟩ : ∃ L0, L0 = spkL (runL p V R ins) k := ⟨_, rfl⟩
    rw [← hL0] at hle hspk
    simp only at hspk
    have HN := Lib.hid hnext
    have HS := Lib.hid hspk
    have HL0 := Lib.hid hL0
    clear hx hnext hspk
    obtain ⟨i0, hi, hz0, hzz1, hzz2⟩ := info_parts Try.info3
    gi_wp2
    refine ⟨(Bel.refl _ _ _).alloc (Nat.le_refl _) _, ?_⟩
    rintro W2 hsW ⟨h1, h2, h3, ⟨v, h4, h5, h6⟩, h7⟩
    have bA : W2.heap[A.heap.size]? = some (.cells #[.int .i64 X1, .int .i64 X2] 25) := (hsW.cells _ ⟨_, _, _, World.alloc_heap_new _ _⟩).trans (World.alloc_heap_new _ _)
    rw [← hL0] at h5
    clear hL0
    have hsz2 : A.heap.size < W2.heap.size := lt_of_block bA
    obtain ⟨a0, a1, _, _⟩ := cells2 bA
    obtain ⟨s0, s1, sf0, sf1⟩ := cells2 h1
    obtain ⟨n0, nf⟩ := cells1 (show W2.heap[w.heap.size + 1 + 1 + 1 + 1]? = _ from h3)
    obtain ⟨c0, cf⟩ := cells1 (show W2.heap[w.heap.size + 1 + 1 + 1]? = _ from h4)
    have BA := Lib.hid bA
    have H1 := Lib.hid h1
    have H2 := Lib.hid h2
    have H3 := Lib.hid h3
    have H4 := Lib.hid h4
    have H6 := Lib.hid h6
    have H7 := Lib.hid h7
    have HW := Lib.hid hsW
    clear bA h1 h2 h3 h4 h6 h7 hsW hIk
    have hGlt : ∀ b, G b → w1.heap.size ≤ b ∧ b < A.heap.size := hGb
    have HGb := Lib.hid hGlt
    clear hGb hGlt
    have fin : ∀ (W3 : World) (v' : Value) (G' : Nat → Prop) (L' : List Int), Grew G G' A.heap.size W3 → spkL (runL p V R ins) (k + 1) = L' →
        W3.ownsRow w.heap.size 3 1 v' L'.length (L'.map (Value.int .i64)) → (∀ g, v'.ownBlock = some g → G' g) →
        (∀ b, b < w1.heap.size → b ≠ w.heap.size + 3 → W3.heap[b]? = W2.heap[b]?) → W3.heap[w.heap.size + 3]? = some (.cells #[v'] 35) → Bel (fun b => (b = w.heap.size + 1 ∨ b = w.heap.size + 3 ∨ b = w.heap.size + 4) ∨ G b) A.heap.size W2 W3 →
        rangeEnd (fun b => b = w.heap.size + 1 ∨ b = w.heap.size + 3 ∨ b = w.heap.size + 4) G k (CollI p V R ins w) (fun _ _ _ _ => False) A.heap.size W2 .normal { tmps := #[], defers := [] }
          (((W3.setCell ⟨w.heap.size + 1, 0, none⟩ (.int .i64 X1)).setCell ⟨w.heap.size + 1, 1, none⟩ (.int .i64 X2)).setCell ⟨w.heap.size + 1 + 1 + 1 + 1, 0, none⟩ (.int .i64 ((k : Int) + 1))) := by
      intro W3 v' G' L' hg hL' hown hv' hbl h3' hB
      have hsz3 : w1.heap.size ≤ W3.heap.size := by have := hB.size; omega
      have e1 : W3.heap[w.heap.size + 1]? = _ := (hbl _ (by omega) (by omega)).trans H1.out
      have e2 : W3.heap[w.heap.size + 2]? = _ := (hbl _ (by omega) (by omega)).trans H2.out
      have e4 : W3.heap[w.heap.size + 4]? = _ := (hbl _ (by omega) (by omega)).trans H3.out
      refine ⟨G', ⟨hg.old, hg.new, fun b hb => by have := hg.lt b hb; simpa [World.setCell] using this⟩, ⟨?_, ?_, ?_, ⟨v', ?_, ?_, hv'⟩, ?_⟩, ?_⟩
      · rw [HN.out, Below.heap_setCell _ _ _ _ (by simp <;> omega)]; exact set2_1 (set2_0 e1 _) _
      · rw [Below.heap_setCell _ _ _ _ (by simp <;> omega), Below.heap_setCell _ _ _ _ (by simp <;> omega), Below.heap_setCell _ _ _ _ (by simp <;> omega)]; exact e2
      · exact set1_0 (by rw [Below.heap_setCell _ _ _ _ (by simp <;> omega), Below.heap_setCell _ _ _ _ (by simp <;> omega)]; exact e4) _
      · rw [Below.heap_setCell _ _ _ _ (by simp <;> omega), Below.heap_setCell _ _ _ _ (by simp <;> omega), Below.heap_setCell _ _ _ _ (by simp <;> omega)]; exact h3'
      · rw [hL']
        refine ownsRow_of_block hown fun g hg' => ?_
        have hgw : w1.heap.size ≤ g := by
          rcases hg.new g (hv' g hg') with h | h
          · exact (HGb.out g h).1
          · omega
        rw [Below.heap_setCell _ _ _ _ (by simp; omega), Below.heap_setCell _ _ _ _ (by simp; omega), Below.heap_setCell _ _ _ _ (by simp; omega)]
      · have hbw : Below w.heap.size W2 W3 := hB.below (by omega) (fun b hb h => by rcases h with h | h; omega; have := (HGb.out b h).1; omega)
        exact ((((H7.out.trans hbw).setCell (p := ⟨w.heap.size + 1, 0, none⟩) (by simp) _).setCell (p := ⟨w.heap.size + 1, 1, none⟩) (by simp) _).setCell (p := ⟨w.heap.size + 1 + 1 + 1 + 1, 0, none⟩) (by simp; omega) _)
      · exact ((hB.setCell (p := ⟨w.heap.size + 1, 0, none⟩) (Or.inl (Or.inl (Or.inl rfl))) _).setCell (p := ⟨w.heap.size + 1, 1, none⟩) (Or.inl (Or.inl (Or.inl rfl))) _).setCell (p := ⟨w.heap.size + 1 + 1 + 1 + 1, 0, none⟩) (Or.inl (Or.inl (Or.inr (Or.inr rfl)))) _
    have HF := Lib.hid fin
    clear fin
    cases sp with
    | false =>
      gi_wp2
      exact HF.out W2 v G L0 ⟨fun _ h => h, fun _ h => Or.inl h, fun b hb => by have := (HGb.out b hb).2; omega⟩ (by rw [HS.out]; simp) h5 H6.out (fun _ _ _ => rfl) H4.out (Bel.refl _ _ _)
    | true =>
      gi_wp2_with (gi_at_builtin; refine wpListIn_append_where _ rfl _ _ 35 rfl w.heap.size 3 i0 (.int .i64 0) 1 8 Try.underlying35 hi hz0 hzz1 hzz2 rfl (by decide) v _ _ rfl (h5.alloc _) ⟨W2.heap.size, 0, none⟩ 1 1 (by decide) [.int .i64 (k : Int)] rfl rfl (cell_one_new _ _ _) (by simp [Value.oneCell']) (by unfold maxLen; omega) (by omega) (by simp; omega) ?_; intro v' w2 hown' hgrow hwhere; obtain ⟨g', cap', rfl⟩ := ownsRow_succ hown'; have hkeep : ∀ b, b < W2.heap.size → ¬ G b → w2.heap[b]? = W2.heap[b]? := (fun b hb hn => (hgrow.block b (by rw [World.size_alloc]; omega) (fun e => hn (H6.out b e.symm))).trans (Below.heap_alloc _ _ _ hb)); have hnG : ∀ b, b < w1.heap.size ∨ A.heap.size ≤ b → ¬ G b := (fun b hb h => by have := HGb.out b h; omega); have hsz4 : W2.heap.size ≤ w2.heap.size := (by have := hgrow.size; rw [World.size_alloc] at this; omega); have hsz5 : A.heap.size < w2.heap.size := (by omega); obtain ⟨x0, x1, _, _⟩ := cells2 ((hkeep A.heap.size (by omega) (hnG _ (by omega))).trans BA.out); obtain ⟨y0, y1, yf0, yf1⟩ := cells2 ((hkeep (w.heap.size + 1) (by omega) (hnG _ (by omega))).trans H1.out); obtain ⟨z0, zf⟩ := cells1 (show w2.heap[w.heap.size + 1 + 1 + 1 + 1]? = _ from ((hkeep (w.heap.size + 4) (by omega) (hnG _ (by omega))).trans H3.out)); have b3 := (hkeep (w.heap.size + 3) (by omega) (hnG _ (by omega))).trans H4.out; obtain ⟨u0, uf⟩ := cells1 (show w2.heap[w.heap.size + 1 + 1 + 1]? = _ from b3); have B3 := Lib.hid b3; have HK := Lib.hid hkeep; have HNG := Lib.hid hnG; have HO := Lib.hid hown'; have HGR := Lib.hid hgrow; have HWH := Lib.hid hwhere; clear b3 hkeep hnG hown' hgrow hwhere)
      have hwh : G g' ∨ g' = W2.heap.size + 1 := by
        rcases HWH.out with h | h
        · exact Or.inl (H6.out g' (by rw [← h]; rfl))
        · exact Or.inr (by simpa [Value.ownBlock] using h)
      have hg3 : g' < w2.heap.size := (HO.out.lt g' rfl).2
      have hne : g' ≠ w.heap.size + 3 := by
        rcases hwh with h | h
        · have := (HGb.out g' h).1; omega
        · omega
      have hB : Bel (fun b => (b = w.heap.size + 1 ∨ b = w.heap.size + 3 ∨ b = w.heap.size + 4) ∨ G b) A.heap.size W2 w2 :=
        (((Bel.refl _ _ _).alloc (by omega) _).grown HGR.out (by rw [World.size_alloc]; omega) (fun b e => Or.inl (Or.inr (H6.out b e))))
      refine HF.out (w2.setCell ⟨w.heap.size + 1 + 1 + 1, 0, none⟩ (.slice (some ⟨g', 0, none⟩) (L0.length + 1) cap')) (.slice (some ⟨g', 0, none⟩) (L0.length + 1) cap') (fun b => G b ∨ (A.heap.size ≤ b ∧ b < w2.heap.size)) (L0 ++ [(k : Int)])
        ⟨fun _ h => Or.inl h, fun _ h => h.imp id fun h => h.1, fun b hb => ?_⟩ (by rw [HS.out]; simp) ?_ (fun g hg => ?_) (fun b hb hn => ?_) ?_ ?_
      · have : b < w2.heap.size := by
          rcases hb with h | h
          · have := (HGb.out b h).2; omega
          · exact h.2
        simpa [World.setCell] using this
      · rw [List.length_append, List.map_append]
        refine ownsRow_of_block HO.out fun g hg => ?_
        obtain rfl : g' = g := by simpa [Value.ownBlock] using hg
        exact Below.heap_setCell _ _ _ _ (by show g' ≠ w.heap.size + 3; exact hne)
      · obtain rfl : g' = g := by simpa [Value.ownBlock] using hg
        rcases hwh with h | h
        · exact Or.inl h
        · exact Or.inr ⟨by omega, hg3⟩
      · rw [Below.heap_setCell _ _ _ _ (by show b ≠ w.heap.size + 3; exact hn)]
        exact HK.out b (by omega) (HNG.out b (by omega))
      · exact set1_0 B3.out _
      · exact hB.setCell (p := ⟨w.heap.size + 1 + 1 + 1, 0, none⟩) (Or.inl (Or.inl (Or.inr (Or.inl rfl)))) _

end Go.Proofs.Ytkpabecnimakpaa
