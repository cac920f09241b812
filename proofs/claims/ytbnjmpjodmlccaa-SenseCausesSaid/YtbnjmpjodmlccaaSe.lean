/- sense.gather: the events that a function hands out, as a list of its own. Over this seat's program; the condition is named. -/
import Derived.Test.YtbnjmpjodmlccaaSd
import Derived.LoopNIn
import Derived.LoopIn
namespace Go.Proofs.Ytbnjmpjodmlccaa
set_option linter.unusedVariables false
open Go.RowKit Go.Shelf
attribute [local go_sem] Oper.semAt_some

theorem info63 : (Try.prog.info? 63).map (fun i => (i.zero, i.size, i.bytes)) = some (some (.agg #[.int .i64 0, .int .i64 0]), 2, 16) := by kernel_rfl
def evEnc (x : Evx) : Array Value := #[.agg #[.int .i64 x.tk, .int .i64 x.id]]
theorem own_slC {W : World} {base t m k : Nat} {v : Value} {cs : List Value} (h : W.ownsRow base t m v k cs) : ∃ a c, v = .slice a k c := by
  rcases h.2 with ⟨rfl, rfl⟩ | ⟨g, cap, cur, rfl, _⟩ <;> exact ⟨_, _, rfl⟩
/-- What gather returns: the events, without an error. -/
def Gathered (xs : List Evx) (w : World) (e : Ending) (w' : World) : Prop :=
  ∃ v, e = .returned (.tuple #[v, .int .i64 0]) ∧ w'.ownsRow w.heap.size 63 2 v xs.length (evxCs xs) ∧ Below w.heap.size w w'
/-- What the loop of gather holds: N: the heap's size when the call began. -/
def GthI (xs : List Evx) (w : World) (G : Nat → Prop) (k : Nat) (A : World) : Prop :=
  A.heap[w.heap.size]? = some (.cells #[.slice none 0 0] 26) ∧
  A.heap[w.heap.size + 1]? = some (.cells #[.int .i64 0] 28) ∧
  (∃ v, A.heap[w.heap.size + 2]? = some (.cells #[v] 26) ∧ A.ownsRow w.heap.size 63 2 v k (evxCs (xs.take k)) ∧ ∀ g, v.ownBlock = some g → G g) ∧
  Below w.heap.size w A
theorem GthI.stab {xs : List Evx} {w : World} {N : Nat} (hN : w.heap.size + 3 ≤ N) {G : Nat → Prop} {k : Nat} {A A' : World} (h : GthI xs w G k A) (hb : Bel (fun b => N ≤ b ∧ ¬ G b) A.heap.size A A') : GthI xs w G k A' := by
  obtain ⟨h1, h2, ⟨v, h4, h5, h6⟩, h7⟩ := h
  refine ⟨(hb.block _ (lt_of_block h1) (by omega)).trans h1, (hb.block _ (lt_of_block h2) (by omega)).trans h2,
    ⟨v, (hb.block _ (lt_of_block h4) (by omega)).trans h4, ownsRow_of_block h5 fun g hg => hb.block g (h5.lt g hg).2 (fun h => h.2 (h6 g hg)), h6⟩, h7.trans (hb.below (by have := lt_of_block h1; omega) (fun b h => by omega))⟩

set_option maxRecDepth 100000 in
set_option maxHeartbeats 2000000 in
theorem gather_in (xs : List Evx) (hlen : xs.length ≤ 65536) (gf : Nat) (lb : Array Value) (eg : ∀ args w, (callFunc gf args).run Try.prog w = .ok (.enter gf args) w) (w : World) (CapI : Nat → Prop)
    (hin : Gives Try.prog gf lb evEnc xs CapI w) (hCapI : ∀ b, CapI b → b < w.heap.size) :
    CallsIn Fence.wide 0 Try.prog 47 #[.func (.func gf) #[] lb] w (Gathered xs w) := by
  refine callsIn_of_wp_marks Try.func47 rfl trivial ?_ rfl
  simp only [Try.ntmps47, List.size_toArray, List.length_cons, List.length_nil, Nat.reduceAdd, Nat.reduceSub, Array.replicate_succ, Array.replicate_zero, List.push_toArray, List.append_toArray, List.nil_append, List.cons_append]
  have HhCapI := Lib.hid hCapI
  have Heg := Lib.hid eg
  have HIN := Lib.hid hin
  clear hCapI eg hin
  gi_wp2
  obtain ⟨w1, hw1⟩ : ∃ w1, ((w.alloc (.cells #[.slice none 0 0] 26)).alloc (.cells #[.int .i64 0] 28)).alloc (.cells #[.slice none 0 0] 26) = w1 := ⟨_, rfl⟩
  have a0 : w1.heap[w.heap.size]? = some (.cells #[.slice none 0 0] 26) := by
    rw [← hw1, Below.heap_alloc _ _ _ (by simp <;> omega), Below.heap_alloc _ _ _ (by simp <;> omega)]; exact alloc_new_at _ _ _ rfl
  have a1 : w1.heap[w.heap.size + 1]? = some (.cells #[.int .i64 0] 28) := by
    rw [← hw1, Below.heap_alloc _ _ _ (by simp <;> omega)]; exact alloc_new_at _ _ _ (by simp)
  have a2 : w1.heap[w.heap.size + 2]? = some (.cells #[.slice none 0 0] 26) := by
    rw [← hw1]; exact alloc_new_at _ _ _ (by simp)
  have hz1 : w.heap.size + 3 ≤ w1.heap.size := by rw [← hw1]; simp
  have hb0 : Below w.heap.size w w1 := by rw [← hw1]; exact (((Below.refl _ _).alloc (Nat.le_refl _) _).alloc (by simp) _).alloc (by simp <;> omega) _
  rw [hw1]
  clear hw1
  have hCI0 : GthI xs w (fun _ => False) 0 w1 := ⟨a0, a1, ⟨_, a2, by rw [List.take_zero]; exact World.ownsRow_nil _ _ _ _, fun g hg => by cases hg⟩, hb0⟩
  have HB0 := Lib.hid hb0
  clear a0 a1 a2 hb0
  refine wp_range1 (gf := gf) rfl Heg.out (show Gives Try.prog gf lb evEnc xs CapI w from HIN.out) HB0.out.size (fun b hb => ⟨HhCapI.out b hb, HB0.out.block b (HhCapI.out b hb)⟩) (fun _ => rfl) (fun b => b = w.heap.size + 2)
    (fun b hb => ⟨fun hc => by have := HhCapI.out b hc; omega, by omega⟩) (GthI xs w) (fun _ _ _ _ => False) (fun G k A A' hi hb => hi.stab hz1 hb) (fun _ _ _ _ _ hi _ => hi) hCI0 ?hround ?hdone ?hstop
  case hstop =>
    intro D c G k W' _ _ _ _ hi _
    exact hi.elim
  case hdone =>
    rintro D G W' hD hnG hGb hI hK
    rw [GthI, List.take_length] at hI
    obtain ⟨h1, h2, ⟨v, h4, h5, h6⟩, h7⟩ := hI
    obtain ⟨r0, rf0⟩ := cells1 h1
    obtain ⟨e0, ef0⟩ := cells1 h2
    obtain ⟨c0, _⟩ := cells1 (show W'.heap[w.heap.size + 1 + 1]? = _ from h4)
    have H1 := Lib.hid h1
    have H2 := Lib.hid h2
    have hlt2 := lt_of_block h2
    clear h1 h2 h4
    have HI7 := Lib.hid h7
    have HI6 := Lib.hid h6
    have HGb := Lib.hid hGb
    have HR5 := Lib.hid h5
    clear h7 h6 hGb
    obtain ⟨va, vc, rfl⟩ := own_slC h5
    clear h5
    gi_wp2
    have eo : ∀ b, b ≠ w.heap.size → b ≠ w.heap.size + 1 → ((W'.setCell ⟨w.heap.size, 0, none⟩ (.slice va xs.length vc)).setCell ⟨w.heap.size + 1, 0, none⟩ (.int .i64 0)).heap[b]? = W'.heap[b]? := fun b hb hb1 => by
      rw [Below.heap_setCell _ _ _ _ (by show b ≠ w.heap.size + 1; exact hb1), Below.heap_setCell _ _ _ _ (by show b ≠ w.heap.size; exact hb)]
    have e1 : ((W'.setCell ⟨w.heap.size, 0, none⟩ (.slice va xs.length vc)).setCell ⟨w.heap.size + 1, 0, none⟩ (.int .i64 0)).heap[w.heap.size]? = some (.cells #[.slice va xs.length vc] 26) := by
      rw [Below.heap_setCell _ _ _ _ (by simp)]; exact set1_0 H1.out _
    have e2 : ((W'.setCell ⟨w.heap.size, 0, none⟩ (.slice va xs.length vc)).setCell ⟨w.heap.size + 1, 0, none⟩ (.int .i64 0)).heap[w.heap.size + 1]? = some (.cells #[.int .i64 0] 28) :=
      set1_0 (by rw [Below.heap_setCell _ _ _ _ (by simp)]; exact H2.out) _
    have eB : Below w.heap.size w ((W'.setCell ⟨w.heap.size, 0, none⟩ (.slice va xs.length vc)).setCell ⟨w.heap.size + 1, 0, none⟩ (.int .i64 0)) :=
      ((HI7.out.setCell (p := ⟨w.heap.size, 0, none⟩) (by simp) _).setCell (p := ⟨w.heap.size + 1, 0, none⟩) (by simp) _)
    have eK := (eo D (by omega) (by omega)).trans hK
    have eR := ownsRow_of_block HR5.out fun b hb => eo b (by have := HI6.out b hb; have := (HGb.out b this).1; omega) (by have := HI6.out b hb; have := (HGb.out b this).1; omega)
    generalize (W'.setCell ⟨w.heap.size, 0, none⟩ (.slice va xs.length vc)).setCell ⟨w.heap.size + 1, 0, none⟩ (.int .i64 0) = Wf at *
    have eo2 : ∀ b, b ≠ D → (Wf.putObj D (.deferred none)).heap[b]? = Wf.heap[b]? := fun b hb => World.putObj_heap_other hb
    obtain ⟨q0, _⟩ := cells1 ((eo2 w.heap.size (by omega)).trans e1)
    obtain ⟨q1, _⟩ := cells1 ((eo2 (w.heap.size + 1) (by omega)).trans e2)
    refine ⟨by simp, .inl ⟨_, _, rfl, run_takeDeferred eK, .tuple #[.slice va xs.length vc, .int .i64 0], ?_, ?_⟩⟩
    · simp [results, Try.results47, go_sem, q0, q1]
    · exact ⟨_, rfl, ownsRow_of_block eR fun b hb => eo2 b (fun e => hnG (by rw [← e]; exact HI6.out b hb)), eB.trans ⟨rfl, rfl, rfl, by simp, fun b hb => eo2 b (by omega)⟩⟩
  case hround =>
    rintro l2 G k ⟨X, Y⟩ A hl2 hGb hszA hIk hx
    have hkl : k < xs.length := (List.getElem?_eq_some_iff.1 hx).1
    have hkn : ((k : Int) == 65536) = false := by simp; omega
    have HS := Lib.hid (show evxCs (xs.take (k + 1)) = evxCs (xs.take k) ++ [.int .i64 X, .int .i64 Y] from by rw [List.take_add_one, hx]; exact evxCs_snoc _ _)
    clear hx
    obtain ⟨i0, hi, hz0, hzz1, hzz2⟩ := info_parts info63
    simp only [evEnc]
    gi_wp2
    refine ⟨(Bel.refl _ _ _).alloc (Nat.le_refl _) _, ?_⟩
    rintro W2 hsW ⟨h1, h2, ⟨v, h4, h5, h6⟩, h7⟩
    have bA : W2.heap[A.heap.size]? = some (.cells #[.int .i64 X, .int .i64 Y] 63) := (hsW.cells _ ⟨_, _, _, World.alloc_heap_new _ _⟩).trans (World.alloc_heap_new _ _)
    have hsz2 : A.heap.size < W2.heap.size := lt_of_block bA
    obtain ⟨a0, a1, _, _⟩ := cells2 bA
    obtain ⟨c0, cf⟩ := cells1 (show W2.heap[w.heap.size + 1 + 1]? = _ from h4)
    obtain ⟨va, vc, rfl⟩ := own_slC h5
    have H1 := Lib.hid h1
    have H2 := Lib.hid h2
    have H4 := Lib.hid h4
    have H6 := Lib.hid h6
    have H7 := Lib.hid h7
    clear bA h1 h2 h4 h6 h7 hsW hIk
    have hGlt : ∀ b, G b → w1.heap.size ≤ b ∧ b < A.heap.size := hGb
    have HGb := Lib.hid hGlt
    clear hGb hGlt
    obtain ⟨v0, hv0⟩ : ∃ v0, v0 = Value.slice va k vc := ⟨_, rfl⟩
    have hl5 : k + 1 ≤ maxLen := by unfold maxLen; omega
    gi_wp2_with (gi_at_builtin; refine wpListIn_append_where _ rfl _ _ 26 rfl w.heap.size 63 i0 (.agg #[.int .i64 0, .int .i64 0]) 2 16 Try.underlying26 hi hz0 hzz1 hzz2 rfl (by decide) (.slice va k vc) _ _ rfl (h5.alloc _) ⟨W2.heap.size, 0, none⟩ 1 1 (by decide) [.int .i64 X, .int .i64 Y] rfl rfl (cells_new (alloc_new_at _ _ _ rfl)) (by simp [Value.oneCell']) hl5 (by omega) (by simp; omega) ?_; intro v' w2 hown' hgrow hwhere; obtain ⟨g', cap', rfl⟩ := ownsRow_succ hown'; have hkeep : ∀ b, b < W2.heap.size → ¬ G b → w2.heap[b]? = W2.heap[b]? := (fun b hb hn => (hgrow.block b (by rw [World.size_alloc]; omega) (fun e => hn (H6.out b e.symm))).trans (Below.heap_alloc _ _ _ hb)); have hnG : ∀ b, b < w1.heap.size ∨ A.heap.size ≤ b → ¬ G b := (fun b hb h => by have := HGb.out b h; omega); have hsz4 : W2.heap.size ≤ w2.heap.size := (by have := hgrow.size; rw [World.size_alloc] at this; omega); have hsz5 : A.heap.size < w2.heap.size := (by omega); have b3 := (hkeep (w.heap.size + 2) (by omega) (hnG _ (by omega))).trans H4.out; obtain ⟨u0, uf⟩ := cells1 (show w2.heap[w.heap.size + 1 + 1]? = _ from b3); have B3 := Lib.hid b3; have HK := Lib.hid hkeep; have HNG := Lib.hid hnG; have HO := Lib.hid hown'; have HGR := Lib.hid hgrow; have HWH := Lib.hid hwhere; clear b3 hkeep hnG hown' hgrow hwhere)
    have hwh : G g' ∨ g' = W2.heap.size + 1 := by
      rcases HWH.out with h | h
      · exact Or.inl (H6.out g' (by rw [← h]; rfl))
      · exact Or.inr (by simpa [Value.ownBlock] using h)
    have hg3 : g' < w2.heap.size := (HO.out.lt g' rfl).2
    have hne : g' ≠ w.heap.size + 2 := by
      rcases hwh with h | h
      · have := (HGb.out g' h).1; omega
      · omega
    have hB : Bel (fun b => b = w.heap.size + 2 ∨ G b) A.heap.size W2 w2 :=
      (((Bel.refl _ _ _).alloc (by omega) _).grown HGR.out (by rw [World.size_alloc]; omega) (fun b e => Or.inl (Or.inr (H6.out b e))))
    have hbw : Below w.heap.size W2 w2 := hB.below (by omega) (fun b hb h => by rcases h with h | h; omega; have := (HGb.out b h).1; omega)
    refine ⟨fun b => G b ∨ (A.heap.size ≤ b ∧ b < w2.heap.size), ⟨fun _ h => Or.inl h, fun _ h => h.imp id fun h => h.1, fun b hb => ?_⟩, ⟨?_, ?_, ⟨.slice (some ⟨g', 0, none⟩) (k + 1) cap', ?_, ?_, fun g hg => ?_⟩, ?_⟩, ?_⟩
    · have : b < w2.heap.size := by
        rcases hb with h | h
        · have := (HGb.out b h).2; omega
        · exact h.2
      simpa [World.setCell] using this
    · rw [Below.heap_setCell _ _ _ _ (by show w.heap.size ≠ w.heap.size + 1 + 1; omega)]; exact (HK.out _ (by omega) (HNG.out _ (by omega))).trans H1.out
    · rw [Below.heap_setCell _ _ _ _ (by show w.heap.size + 1 ≠ w.heap.size + 1 + 1; omega)]; exact (HK.out _ (by omega) (HNG.out _ (by omega))).trans H2.out
    · exact set1_0 B3.out _
    · rw [HS.out]
      refine ownsRow_of_block HO.out fun g hg => ?_
      obtain rfl : g' = g := by simpa [Value.ownBlock] using hg
      exact Below.heap_setCell _ _ _ _ (by show g' ≠ w.heap.size + 1 + 1; exact hne)
    · obtain rfl : g' = g := by simpa [Value.ownBlock] using hg
      rcases hwh with h | h
      · exact Or.inl h
      · exact Or.inr ⟨by omega, hg3⟩
    · exact (H7.out.trans hbw).setCell (p := ⟨w.heap.size + 1 + 1, 0, none⟩) (by simp; omega) _
    · exact hB.setCell (p := ⟨w.heap.size + 1 + 1, 0, none⟩) (Or.inl (Or.inl rfl)) _

theorem gather_any (xs : List Evx) (hlen : xs.length ≤ 65536) (gf : Nat) (lb : Array Value) (eg : ∀ args w, (callFunc gf args).run Try.prog w = .ok (.enter gf args) w) (w : World) (CapI : Nat → Prop)
    (hin : Gives Try.prog gf lb evEnc xs CapI w) (hCapI : ∀ b, CapI b → b < w.heap.size) :
    Calls Try.prog 47 #[.func (.func gf) #[] lb] w (Gathered xs w) := callsIn_wide.1 (gather_in xs hlen gf lb eg w CapI hin hCapI)
end Go.Proofs.Ytbnjmpjodmlccaa
