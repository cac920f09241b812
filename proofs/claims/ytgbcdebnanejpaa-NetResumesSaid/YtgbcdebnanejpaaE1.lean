/- slices.Values, and the functions that make the iterators. -/
import Derived.Test.YtgbcdebnanejpaaD
import Derived.Test.YtgbcdebnanejpaaG
import Derived.Deep.RegionHeld3
import Derived.Deep.RegionWith
import Derived.Deep.Cut
import Derived.BigRegion
namespace Go.Proofs.Ytgbcdebnanejpaa
set_option linter.unusedVariables false
open Go.RowKit Go.Shelf
attribute [local go_sem] Oper.semAt_some

/-- The slice value sv reads as the ints zs. -/
def IntsAt (W : World) (sv : Value) (zs : List Int) : Prop :=
  (sv = .slice none 0 0 ∧ zs = []) ∨ ∃ b off cap, sv = .slice (some ⟨b, off, none⟩) zs.length cap ∧ ∀ j, j < zs.length → W.cell? ⟨b, off + j, none⟩ = some (.int .i64 (zs[j]?.getD 0))

theorem getD_take (zs : List Int) (k : Nat) (h : k < zs.length) : zs[k]? = some (zs[k]?.getD 0) := by simp [h]

theorem Gives.at {α : Type} {P : Program} {gf : Nat} {lb : Array Value} {enc : α → Array Value} {xs : List α} {Cap : Nat → Prop} {w0 w1 : World} (h : Gives P gf lb enc xs Cap w0) (hs : w0.heap.size ≤ w1.heap.size) (hc : ∀ k, Cap k → w1.heap[k]? = w0.heap[k]?) : Gives P gf lb enc xs Cap w1 :=
  fun l J Jx W hW hsame => h l J Jx W (Nat.le_trans hs hW) (fun k hk => (hsame k hk).trans (hc k hk))

end Go.Proofs.Ytgbcdebnanejpaa
namespace Go.Proofs.Ytgbcdebnanejpaa
set_option linter.unusedVariables false
open Go.RowKit Go.Shelf
attribute [local go_sem] Oper.semAt_some

/-- The numbers, below k, of the ticks with a spike. -/
def spkL (xs : List ((Int × Int) × Bool)) (k : Nat) : List Int := (List.range k).filterMap fun j : Nat => if ((xs[j]?).map (fun x => x.2)).getD false then some (j : Int) else none
theorem spkL_succ {xs : List ((Int × Int) × Bool)} {k : Nat} {x : (Int × Int) × Bool} (h : xs[k]? = some x) : spkL xs (k + 1) = spkL xs k ++ if x.2 then [(k : Int)] else [] := by
  unfold spkL
  rw [List.range_succ, List.filterMap_append]
  congr 1
  by_cases hx : x.2 <;> simp [h, hx]
theorem spkL_le (xs : List ((Int × Int) × Bool)) (k : Nat) : (spkL xs k).length ≤ k := by
  unfold spkL
  have := List.length_filterMap_le (fun j : Nat => if ((xs[j]?).map (fun x => x.2)).getD false then some (j : Int) else none) (List.range k)
  simpa using this

theorem ownsRow_forms {W : World} {base : Nat} {e : TypeId} {size : Nat} {v : Value} {n : Nat} {xs : List Value} (h : W.ownsRow base e size v n xs) : (v = .slice none 0 0 ∧ n = 0) ∨ ∃ g cap, v = .slice (some ⟨g, 0, none⟩) n cap := by
  rcases h.2 with hn | ⟨g, cap, _, rfl, _⟩
  · exact Or.inl hn
  · exact Or.inr ⟨g, cap, rfl⟩

theorem alloc_new_at (W : World) (o : Obj) (k : Nat) (h : k = W.heap.size) : (W.alloc o).heap[k]? = some o := by subst h; exact World.alloc_heap_new W o

theorem Try.info3 : (Try.prog.info? 3).map (fun i => (i.zero, i.size, i.bytes)) = some (some (.int .i64 0), 1, 8) := by kernel_rfl

/-- What collect returns. -/
def Collected (p : Prm) (V R : Int) (ins : List Int) (w : World) (e : Ending) (w' : World) : Prop :=
  ∃ v, e = .returned (.tuple #[v, .agg #[.int .i64 (after p V R ins).1, .int .i64 (after p V R ins).2]]) ∧
    w'.ownsRow w.heap.size 3 1 v (spkL (runL p V R ins) ins.length).length ((spkL (runL p V R ins) ins.length).map (Value.int .i64)) ∧ Below w.heap.size w w'

/-- What the loop of collect holds: N: the heap's size when the call began. -/
def CollI (p : Prm) (V R : Int) (ins : List Int) (w : World) (G : Nat → Prop) (k : Nat) (A : World) : Prop :=
  A.heap[w.heap.size + 1]? = some (.cells #[.int .i64 (after p V R (ins.take k)).1, .int .i64 (after p V R (ins.take k)).2] 98) ∧
  A.heap[w.heap.size + 2]? = some (.cells #[.int .i64 0, .int .i64 0] 98) ∧
  A.heap[w.heap.size + 4]? = some (.cells #[.int .i64 (k : Int)] 3) ∧
  (∃ v, A.heap[w.heap.size + 3]? = some (.cells #[v] 44) ∧ A.ownsRow w.heap.size 3 1 v (spkL (runL p V R ins) k).length ((spkL (runL p V R ins) k).map (Value.int .i64)) ∧ ∀ g, v.ownBlock = some g → G g) ∧
  Below w.heap.size w A

theorem CollI.stab {p : Prm} {V R : Int} {ins : List Int} {w : World} {N : Nat} (hN : w.heap.size + 5 ≤ N) {G : Nat → Prop} {k : Nat} {A A' : World} (h : CollI p V R ins w G k A) (hb : Bel (fun b => N ≤ b ∧ ¬ G b) A.heap.size A A') : CollI p V R ins w G k A' := by
  obtain ⟨h1, h2, h3, ⟨v, h4, h5, h6⟩, h7⟩ := h
  refine ⟨(hb.block _ (lt_of_block h1) (by omega)).trans h1, (hb.block _ (lt_of_block h2) (by omega)).trans h2, (hb.block _ (lt_of_block h3) (by omega)).trans h3,
    ⟨v, (hb.block _ (lt_of_block h4) (by omega)).trans h4, ownsRow_of_block h5 fun g hg => hb.block g (h5.lt g hg).2 (fun h => h.2 (h6 g hg)), h6⟩, h7.trans (hb.below (by have := lt_of_block h1; omega) (fun b h => by omega))⟩

end Go.Proofs.Ytgbcdebnanejpaa
namespace Go.Proofs.Ytgbcdebnanejpaa
set_option linter.unusedVariables false
open Go.RowKit Go.Shelf

theorem alloc_old_new (W : World) (o o' : Obj) : ((W.alloc o).alloc o').heap[W.heap.size]? = some o := by rw [Below.heap_alloc _ _ _ (by simp)]; exact World.alloc_heap_new _ _

theorem IntsAt.below {w W : World} {sv : Value} {zs : List Int} (h : IntsAt w sv zs) (hb : Below w.heap.size w W) : IntsAt W sv zs := by
  rcases h with h | ⟨b, off, cap, e, hc⟩
  · exact Or.inl h
  · exact Or.inr ⟨b, off, cap, e, fun j hj => (hb.cell (p := ⟨b, off + j, none⟩) (World.block_lt_of_cell? w _ (hc j hj))).trans (hc j hj)⟩

/-- What Run returns where it returns no error: the ticks with spikes, the state, 0. -/
def RunDone (p : Prm) (V R : Int) (ins : List Int) (w : World) (e : Ending) (w' : World) : Prop :=
  ∃ v, e = .returned (.tuple #[v, .agg #[.int .i64 (after p V R ins).1, .int .i64 (after p V R ins).2], .int .i64 0]) ∧
    w'.ownsRow w.heap.size 3 1 v (spkL (runL p V R ins) ins.length).length ((spkL (runL p V R ins) ins.length).map (Value.int .i64)) ∧ Below w.heap.size w w'

theorem cell_two_far {W : World} {b o c : Nat} {x u u' : Value} (h : W.cell? ⟨b, o, none⟩ = some x) (hne : b ≠ c) : ((W.setCell ⟨c, 0, none⟩ u).setCell ⟨c, 1, none⟩ u').cell? ⟨b, o, none⟩ = some x := by
  rw [← h]; exact World.cell?_of_block (w := W) (by rw [Below.heap_setCell _ _ _ _ (by exact hne), Below.heap_setCell _ _ _ _ (by exact hne)])

/-- What a block of parameters, or of a state, reads as. -/
def PrmAt (p : Prm) (b : Nat) (W : World) : Prop := W.heap[b]? = some (.cells #[.int .i64 p.lk, .int .i64 p.lv, .int .i64 p.bi, .int .i64 p.th, .int .i64 p.rk, .int .i64 p.rs, .int .i64 p.fl, .int .i64 p.re] 39)
def StAt (V R : Int) (b : Nat) (W : World) : Prop := W.heap[b]? = some (.cells #[.int .i64 V, .int .i64 R] 98)

/-- What collect has left, for the caller whose world was w1. -/
def ColAt (p : Prm) (V R : Int) (ins : List Int) (w1 W : World) (e : Ending) (w2 : World) : Prop :=
  ∃ v, e = .returned (.tuple #[v, .agg #[.int .i64 (after p V R ins).1, .int .i64 (after p V R ins).2]]) ∧
    w2.ownsRow w1.heap.size 3 1 v (spkL (runL p V R ins) ins.length).length ((spkL (runL p V R ins) ins.length).map (Value.int .i64)) ∧ (∀ g, v.ownBlock = some g → W.heap.size ≤ g) ∧ Below W.heap.size W w2 ∧ Below w1.heap.size w1 w2

end Go.Proofs.Ytgbcdebnanejpaa
namespace Go.Proofs.Ytgbcdebnanejpaa
set_option linter.unusedVariables false
open Go.RowKit Go.Shelf
attribute [local go_sem] Oper.semAt_some

/-- The state behind k silent ticks. -/
def sil (p : Prm) (V R : Int) (k : Nat) : Int × Int := after p V R (List.replicate k 0)
theorem sil_succ (p : Prm) (V R : Int) (k : Nat) : sil p V R (k + 1) = (tV p (sil p V R k).1 (sil p V R k).2 0, tR p (sil p V R k).1 (sil p V R k).2 0) := by
  unfold sil; rw [List.replicate_succ', after_snoc]
/-- In the silent tick number k there is a spike. -/
def silS (p : Prm) (V R : Int) (k : Nat) : Bool := tS p (sil p V R k).1 (sil p V R k).2 0
/-- k is the first silent tick with a spike, or behind which the state is as before it. -/
structure StopAt (p : Prm) (V R : Int) (k : Nat) : Prop where
  lt : k < 2097218
  before : ∀ j, j < k → silS p V R j = false ∧ sil p V R (j + 1) ≠ sil p V R j
  stop : silS p V R k = true ∨ sil p V R (k + 1) = sil p V R k

theorem runL_sil (p : Prm) (V R : Int) (n k : Nat) (x : (Int × Int) × Bool) (h : (runL p V R (List.replicate n 0))[k]? = some x) : k < n ∧ x = (sil p V R (k + 1), silS p V R k) := by
  have hk : k < n := by have := (List.getElem?_eq_some_iff.1 h).1; rw [runL_length] at this; simpa using this
  have := runL_get p V R (List.replicate n 0) k 0 (by simp [hk])
  rw [h] at this
  refine ⟨hk, ?_⟩
  have e1 : (List.replicate n (0 : Int)).take (k + 1) = List.replicate (k + 1) 0 := by rw [List.take_replicate]; congr 1; omega
  have e2 : (List.replicate n (0 : Int)).take k = List.replicate k 0 := by rw [List.take_replicate]; congr 1; omega
  rw [e1, e2] at this
  exact Option.some.inj this

/-- What Next returns. -/
def nextR (p : Prm) (V R : Int) (K : Nat) : Int := if silS p V R K then (K : Int) else -1

def NextI (p : Prm) (V R : Int) (K nb : Nat) (w : World) (k : Nat) (A : World) : Prop :=
  k ≤ K ∧ A.heap[w.heap.size + 1]? = some (.cells #[.int .i64 (sil p V R k).1, .int .i64 (sil p V R k).2] 98) ∧ A.heap[w.heap.size + 2]? = some (.cells #[.int .i64 0] 3) ∧ A.heap[w.heap.size + 3]? = some (.cells #[.int .i64 0] 28) ∧
  A.heap[nb]? = some (.cells #[.int .i64 (k : Int)] 3) ∧ Below w.heap.size w A
def NextX (p : Prm) (V R : Int) (K : Nat) (w : World) (c : Code) (A : World) : Prop :=
  (c = .ret ∧ silS p V R K = true ∧ A.heap[w.heap.size + 2]? = some (.cells #[.int .i64 (K : Int)] 3) ∧ A.heap[w.heap.size + 3]? = some (.cells #[.int .i64 0] 28) ∧ Below w.heap.size w A) ∨
  (c = .exit 0 ∧ silS p V R K = false ∧ A.heap[w.heap.size + 2]? = some (.cells #[.int .i64 0] 3) ∧ A.heap[w.heap.size + 3]? = some (.cells #[.int .i64 0] 28) ∧ Below w.heap.size w A)

end Go.Proofs.Ytgbcdebnanejpaa
namespace Go.Proofs.Ytgbcdebnanejpaa
set_option linter.unusedVariables false
open Go.RowKit Go.Shelf

/-- What stands in a block of two cells behind two stores. -/
theorem zz {W : World} {b : Nat} {u v : Value} {t : TypeId} {m : Nat × Nat} (h : W.heap[b]? = some (.cells #[u, v] t m)) (A B : Value) :
    (W.setCell ⟨b, 0, none⟩ A).cell? ⟨b, 0, none⟩ = some A ∧ ((W.setCell ⟨b, 0, none⟩ A).setCell ⟨b, 1, none⟩ B).cell? ⟨b, 1, none⟩ = some B := by
  refine ⟨?_, ?_⟩
  · unfold World.cell?; rw [set2_0 h]; rfl
  · unfold World.cell?; rw [set2_1 (set2_0 h _)]; rfl

set_option maxHeartbeats 1000000 in
/-- neuron.Tick where the state is valid. -/
theorem tick_ok (p : Prm) (V R i : Int) (hv : validP p V R = 0) (w : World) :
    Calls Try.prog 93 #[.agg #[.int .i64 p.lk, .int .i64 p.lv, .int .i64 p.bi, .int .i64 p.th, .int .i64 p.rk, .int .i64 p.rs, .int .i64 p.fl, .int .i64 p.re], .agg #[.int .i64 V, .int .i64 R], .int .i64 i] w fun e w' =>
      e = .returned (.tuple #[.agg #[.int .i64 (tV p V R i), .int .i64 (tR p V R i)], .bool (tS p V R i), .int .i64 0]) ∧ Below w.heap.size w w' := by
  have hv' : (validP p V R != 0) = false := by simp [hv]
  obtain ⟨hok, k1, k2, k3, k4⟩ := ok_of_valid hv
  obtain ⟨lo, hi, fi, _, hk, _, hst⟩ := kinds hok
  clear hv hok
  go_enter Try.func93, Try.ntmps93
  go_wp2_with (first | (go_at_call 109; refine (valid_any p V R _).mono ?_; rintro e w1 ⟨rfl, hb1⟩; obtain ⟨hc1, hf1⟩ := bcell hb1; have hz1 : w.heap.size + 2 < w1.heap.size := (by have := hb1.size; simp at this; omega); have hz1a : w.heap.size < w1.heap.size := (by omega); have hz1b : w.heap.size + 1 < w1.heap.size := (by omega); have hz1c : w.heap.size + 1 + 1 < w1.heap.size := (by omega)) | (go_at_call 88; refine (hk _).mono ?_; rintro e w2 ⟨rfl, hb2⟩; obtain ⟨hc2, hf2⟩ := bcell hb2; have hz2 : w1.heap.size ≤ w2.heap.size := hb2.size; have hz2a : w.heap.size < w2.heap.size := (by omega); have hz2b : w.heap.size + 1 < w2.heap.size := (by omega); have hz2c : w.heap.size + 1 + 1 < w2.heap.size := (by omega)) | (go_at_call 113; refine (hst V R i _ k1 k2 k3 k4).mono ?_; rintro e w3 ⟨rfl, hb3⟩; obtain ⟨hc3, hf3⟩ := bcell hb3; have hz3 : w2.heap.size < w3.heap.size := (by have := hb3.size; simp at this; omega); have hz3c : w.heap.size + 1 + 1 < w3.heap.size := (by omega)))
  obtain ⟨z0, z1⟩ := zz (W := w3) (b := w.heap.size + 1 + 1) (by rw [hb3.block _ (by simp <;> omega), Below.heap_alloc _ _ _ (by omega), hb2.block _ (by omega), hb1.block _ (by simp <;> omega)]; exact alloc_new_at _ _ _ (by simp)) (.int .i64 (tV p V R i)) (.int .i64 (tR p V R i))
  refine bodyPost_ret (v := .tuple #[.agg #[.int .i64 (tV p V R i), .int .i64 (tR p V R i)], .bool (tS p V R i), .int .i64 0]) (by simp [results, Try.results93, go_sem, hz3c, z0, z1]) rfl ⟨rfl, ?_⟩
  repeat (first | exact Below.refl _ _ | refine below_drewN ?_ _ | refine Below.drew ?_ | refine Below.alloc ?_ ?_ _ | refine Below.setCell ?_ ?_ _ | refine Below.trans ?_ (Below.mono (by assumption) ?_))
  any_goals (first | omega | (simp; done) | (simp; omega))

set_option maxHeartbeats 1000000 in
/-- neuron.Tick where the state is not valid. -/
theorem tick_err (p : Prm) (V R i : Int) (hv : validP p V R ≠ 0) (w : World) :
    Calls Try.prog 93 #[.agg #[.int .i64 p.lk, .int .i64 p.lv, .int .i64 p.bi, .int .i64 p.th, .int .i64 p.rk, .int .i64 p.rs, .int .i64 p.fl, .int .i64 p.re], .agg #[.int .i64 V, .int .i64 R], .int .i64 i] w fun e w' =>
      e = .returned (.tuple #[.agg #[.int .i64 0, .int .i64 0], .bool false, .int .i64 (validP p V R)]) ∧ Below w.heap.size w w' := by
  have hv' : (validP p V R != 0) = true := by simp [hv]
  clear hv
  go_enter Try.func93, Try.ntmps93
  go_wp2_with (first | (go_at_call 109; refine (valid_any p V R _).mono ?_; rintro e w1 ⟨rfl, hb1⟩; obtain ⟨hc1, hf1⟩ := bcell hb1; have hz1 : w.heap.size + 2 < w1.heap.size := (by have := hb1.size; simp at this; omega); have hz1a : w.heap.size < w1.heap.size := (by omega); have hz1b : w.heap.size + 1 < w1.heap.size := (by omega); have hz1c : w.heap.size + 1 + 1 < w1.heap.size := (by omega)))
  refine bodyPost_ret (v := .tuple #[.agg #[.int .i64 0, .int .i64 0], .bool false, .int .i64 (validP p V R)]) (by simp [results, Try.results93, go_sem, hc1]) rfl ⟨rfl, ?_⟩
  repeat (first | exact Below.refl _ _ | refine below_drewN ?_ _ | refine Below.drew ?_ | refine Below.alloc ?_ ?_ _ | refine Below.setCell ?_ ?_ _ | refine Below.trans ?_ (Below.mono (by assumption) ?_))
  any_goals (first | omega | (simp; done) | (simp; omega))

set_option maxHeartbeats 400000 in
theorem A_any (w : World) : Calls Try.prog 84 #[] w fun e w' => e = .returned (.agg #[.int .i64 1, .int .i64 1, .int .i64 0, .int .i64 5, .int .i64 0, .int .i64 0, .int .i64 (-4), .int .i64 1]) ∧ Below w.heap.size w w' := by
  go_enter Try.func84, Try.ntmps84
  go_wp2
  exact bodyPost_ret (v := .agg #[.int .i64 1, .int .i64 1, .int .i64 0, .int .i64 5, .int .i64 0, .int .i64 0, .int .i64 (-4), .int .i64 1]) (by simp [results, Try.results84, go_sem]) rfl ⟨rfl, (Below.refl _ _).alloc (Nat.le_refl _) _⟩
theorem IntsAt.len {W : World} {sv : Value} {zs : List Int} (h : IntsAt W sv zs) : ∃ a cap, sv = .slice a zs.length cap := by
  rcases h with ⟨rfl, rfl⟩ | ⟨b, off, cap, rfl, _⟩
  · exact ⟨none, 0, rfl⟩
  · exact ⟨_, cap, rfl⟩

theorem intsAt_of_owns {W : World} {base : Nat} {v : Value} {L : List Int} (h : W.ownsRow base 3 1 v L.length (L.map (Value.int .i64))) : IntsAt W v L := by
  rcases h.2 with ⟨rfl, h0⟩ | ⟨g, cap, cur, rfl, hb, hg, _, _, _, ht⟩
  · exact Or.inl ⟨rfl, List.eq_nil_of_length_eq_zero h0⟩
  · refine Or.inr ⟨g, 0, cap, rfl, fun j hj => ?_⟩
    have := h.cells (g := g) rfl j (.int .i64 (L[j]?.getD 0)) (by simp [hj])
    have hadd : (⟨g, 0, none⟩ : Addr).add j = ⟨g, j, none⟩ := by unfold Addr.add; split <;> simp_all
    rw [hadd] at this
    rw [Nat.zero_add]; exact this

theorem intsAt_cell {W : World} {a : Option Addr} {n cap : Nat} {zs : List Int} (h : IntsAt W (.slice a n cap) zs) (k : Nat) (hk : k < zs.length) : ∃ b off, a = some ⟨b, off, none⟩ ∧ W.cell? ⟨b, off + k, none⟩ = some (.int .i64 (zs[k]?.getD 0)) := by
  rcases h with ⟨_, rfl⟩ | ⟨b, off, cap', e, hc⟩
  · simp at hk
  · cases e; exact ⟨b, off, rfl, hc k hk⟩

/-- The neurons of the examples. -/
def pA : Prm := ⟨1, 1, 0, 5, 0, 0, -4, 1⟩
def pB : Prm := ⟨0, 0, 2, 5, 1, 0, -4, 1⟩
theorem vA3 : validP pA 3 0 = 0 := by decide +kernel
theorem vA0 : validP pA 0 0 = 0 := by decide +kernel
theorem vB4 : validP pB 4 1 = 0 := by decide +kernel
theorem tA3 : tV pA 3 0 3 = 0 ∧ tR pA 3 0 3 = 1 ∧ tS pA 3 0 3 = true := by decide +kernel
theorem runA : after pA 0 0 [3, 3, 9, 4, 2, 2, 7] = (0, 1) ∧ spkL (runL pA 0 0 [3, 3, 9, 4, 2, 2, 7]) 7 = [1, 4, 6] := by decide +kernel
theorem silB0 : sil pB 4 1 0 = (4, 1) := rfl
theorem silB1 : sil pB 4 1 1 = (4, 0) := by decide +kernel
theorem stopB : StopAt pB 4 1 1 := by
  refine ⟨by omega, fun j hj => ?_, Or.inl (by decide +kernel)⟩
  obtain rfl : j = 0 := by omega
  exact ⟨by decide +kernel, by decide +kernel⟩
theorem nextB : nextR pB 4 1 1 = 1 := by decide +kernel

theorem tickA (w : World) : Calls Try.prog 93 #[.agg #[.int .i64 1, .int .i64 1, .int .i64 0, .int .i64 5, .int .i64 0, .int .i64 0, .int .i64 (-4), .int .i64 1], .agg #[.int .i64 3, .int .i64 0], .int .i64 3] w fun e w' =>
    e = .returned (.tuple #[.agg #[.int .i64 0, .int .i64 1], .bool true, .int .i64 0]) ∧ Below w.heap.size w w' := by
  refine (tick_ok pA 3 0 3 vA3 w).mono fun e w' ⟨he, hb⟩ => ⟨?_, hb⟩
  rw [he, tA3.1, tA3.2.1, tA3.2.2]

/-- What Run returns at the example. -/
def RanA (w : World) (e : Ending) (w' : World) : Prop := ∃ a cap, e = .returned (.tuple #[.slice a 3 cap, .agg #[.int .i64 0, .int .i64 1], .int .i64 0]) ∧ IntsAt w' (.slice a 3 cap) [1, 4, 6] ∧ Below w.heap.size w w'
theorem intsAt_block {W : World} {b cap : Nat} {L : List Int} {t : TypeId} {m : Nat × Nat} (h : W.heap[b]? = some (.cells (L.map (Value.int .i64)).toArray t m)) : IntsAt W (.slice (some ⟨b, 0, none⟩) L.length cap) L := by
  refine Or.inr ⟨b, 0, cap, rfl, fun j hj => ?_⟩
  simp [World.cell?, h, hj]

end Go.Proofs.Ytgbcdebnanejpaa
