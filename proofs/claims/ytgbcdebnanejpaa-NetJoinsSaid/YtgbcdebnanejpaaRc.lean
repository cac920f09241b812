/- slices.Clone of synapses; what Renumber returns. -/
import Derived.Test.YtgbcdebnanejpaaRb
import Derived.OwnWalkIn
namespace Go.Proofs.Ytgbcdebnanejpaa.Rn
set_option linter.unusedVariables false
open Go.RowKit Go.Shelf

theorem info96 : (Try.prog.info? 96).map (fun i => (i.zero, i.size, i.bytes)) = some (some (.agg #[.int .i64 0, .int .i64 0, .int .i64 0, .int .i64 0]), 4, 32) := by kernel_rfl
def synV (s : Syn) : List Value := [.int .i64 s.fr, .int .i64 s.to, .int .i64 s.wt, .int .i64 s.dl]
def synCs (l : List Syn) : List Value := l.flatMap synV
theorem synCs_length (l : List Syn) : (synCs l).length = l.length * 4 := by
  induction l with
  | nil => rfl
  | cons s l ih => simp [synCs, synV] at *; omega
theorem synCs_snoc (l : List Syn) (s : Syn) : synCs (l ++ [s]) = synCs l ++ synV s := by simp [synCs]
theorem synCs_get : ∀ (l : List Syn) (i c : Nat) (s : Syn), c < 4 → l[i]? = some s → (synCs l)[i * 4 + c]? = (synV s)[c]?
  | [], i, c, r, _, h => by simp at h
  | x :: rs, 0, c, r, hc, h => by
    simp at h; subst h
    rw [synCs, List.flatMap_cons, List.getElem?_append_left (by simp [synV]; omega)]
    simp
  | x :: rs, i + 1, c, r, hc, h => by
    rw [synCs, List.flatMap_cons, List.getElem?_append_right (by simp [synV]; omega)]
    have := synCs_get rs i c r hc (by simpa using h)
    rw [← this, synCs]
    congr 1
    simp [synV]; omega
theorem synV_one {u : Value} {l : List Syn} (h : u ∈ synCs l) : u.oneCell' = true := by
  obtain ⟨s, _, hs⟩ := List.mem_flatMap.1 h
  simp [synV] at hs
  rcases hs with rfl | rfl | rfl | rfl <;> rfl
theorem ssAt_of_owns {W : World} {base : Nat} {v : Value} {l : List Syn} (h : W.ownsRow base 96 4 v l.length (synCs l)) : SsAt W v l := by
  rcases h.2 with ⟨rfl, h0⟩ | ⟨g, cap, cur, rfl, hb, hg, _, _, _, ht⟩
  · exact Or.inl ⟨rfl, List.eq_nil_of_length_eq_zero h0⟩
  · refine Or.inr ⟨g, 0, cap, rfl, (Array.getElem?_eq_some_iff.1 hg).1, fun k r hk => ?_⟩
    have key : ∀ c u, c < 4 → (synV r)[c]? = some u → W.cell? ⟨g, 0 + k * 4 + c, none⟩ = some u := fun c u hc hu => by
      have h1 := h.cells (g := g) rfl (k * 4 + c) u (by rw [synCs_get l k c r hc hk]; exact hu)
      have hadd : (⟨g, 0, none⟩ : Addr).add (k * 4 + c) = ⟨g, k * 4 + c, none⟩ := by unfold Addr.add; split <;> simp_all
      rw [hadd] at h1
      rw [show 0 + k * 4 + c = k * 4 + c by omega]; exact h1
    exact ⟨key 0 _ (by omega) rfl, key 1 _ (by omega) rfl, key 2 _ (by omega) rfl, key 3 _ (by omega) rfl⟩
theorem synCs_cell {W : World} {b off m : Nat} {l : List Syn} (h : ∀ k s, l[k]? = some s → SynCells W b (off + k * 4) s) : ∀ (j : Nat) u, (synCs l)[j]? = some u → W.cell? ⟨b, off + j, none⟩ = some u := fun j u hu => by
  have hj : j < l.length * 4 := by rw [← synCs_length]; exact (List.getElem?_eq_some_iff.1 hu).1
  obtain ⟨s, hs⟩ : ∃ s, l[j / 4]? = some s := ⟨_, List.getElem?_eq_getElem (by omega)⟩
  have h1 := synCs_get l (j / 4) (j % 4) s (by omega) hs
  rw [show j / 4 * 4 + j % 4 = j by omega, hu] at h1
  obtain ⟨c0, c1, c2, c3⟩ := h _ _ hs
  have hq : j = j / 4 * 4 + j % 4 := by omega
  have hm : j % 4 = 0 ∨ j % 4 = 1 ∨ j % 4 = 2 ∨ j % 4 = 3 := by omega
  rcases hm with e | e | e | e <;> rw [e] at h1 hq <;> simp [synV] at h1 <;> subst h1 <;> rw [hq]
  · exact c0
  · rw [← Nat.add_assoc]; exact c1
  · rw [← Nat.add_assoc]; exact c2
  · rw [← Nat.add_assoc]; exact c3

/-- What Clone leaves. -/
def Cloned (ss : List Syn) (w : World) (e : Ending) (w' : World) : Prop :=
  ∃ v, e = .returned v ∧ w'.ownsRow w.heap.size 96 4 v ss.length (synCs ss) ∧ Below w.heap.size w w'
set_option maxHeartbeats 1000000 in
set_option maxRecDepth 100000 in
theorem clone_any (a : Option Addr) (cap : Nat) (ss : List Syn) (hl : ss.length ≤ 100000) (w : World) (hS : SsAt w (.slice a ss.length cap) ss) :
    Calls Try.prog 73 #[.slice a ss.length cap] w (Cloned ss w) := by
  obtain ⟨i0, hi, hz0, hzz1, hzz2⟩ := info_parts info96
  obtain ⟨n, hn⟩ : ∃ n, n = ss.length := ⟨_, rfl⟩
  rw [← hn] at hl hS ⊢
  have HL := Lib.hid hn
  rcases hS with ⟨h1, rfl⟩ | ⟨b, off, c', h1, hbl, hc⟩
  · obtain ⟨rfl, rfl, rfl⟩ : a = none ∧ n = 0 ∧ cap = 0 := by cases h1; exact ⟨rfl, rfl, rfl⟩
    have heq : ∀ W, (binOp .eql 23 (.slice none 0 0) (.slice none 0 0)).run Try.prog W = .ok (.bool true) W := fun W => by
      simp [binOp, run_equal_slice_nil W 23 96 _ _ _ Try.underlying23]
    clear hn h1
    go_enter Try.func73, Try.ntmps73
    go_wp2
    go_ret
    exact ⟨_, rfl, ⟨rfl, .inl ⟨rfl, rfl⟩⟩, Below.refl _ _⟩
  · obtain ⟨rfl, rfl⟩ : a = some ⟨b, off, none⟩ ∧ cap = c' := by cases h1; exact ⟨rfl, rfl⟩
    have hnews : ∀ (j : Nat) u, (synCs ss)[j]? = some u → (w.alloc (.cells #[] 96)).cell? ((⟨b, off, none⟩ : Addr).add j) = some u := fun j u hu => by
      rw [show (⟨b, off, none⟩ : Addr).add j = ⟨b, off + j, none⟩ by unfold Addr.add; split <;> simp_all]
      rw [World.cell?_of_block (w := w) (Below.heap_alloc _ _ _ hbl)]
      exact synCs_cell (m := 0) hc j u hu
    have hone : ∀ u ∈ synCs ss, u.oneCell' = true := fun u hu => synV_one hu
    have hown : (w.alloc (.cells #[] 96)).ownsRow w.heap.size 96 4 (.slice (some ⟨w.heap.size, 0, none⟩) 0 0) 0 [] :=
      ⟨rfl, .inr ⟨w.heap.size, 0, #[], rfl, Nat.le_refl _, alloc_new_at _ _ _ rfl, Nat.le_refl _, by unfold maxLen; omega, rfl, rfl⟩⟩
    have hlen : (synCs ss).length = n * 4 := by rw [synCs_length, hn]
    have HN := Lib.hid hnews
    have HO := Lib.hid hown
    have HE := Lib.hid hone
    have HC := Lib.hid hlen
    clear hnews hown hc hone hn h1 hlen
    have heq : ∀ W, (binOp .eql 23 (.slice (some ⟨b, off, none⟩) n cap) (.slice none 0 0)).run Try.prog W = .ok (.bool false) W := fun W => by
      simp [binOp, run_equal_slice_nil W 23 96 _ _ _ Try.underlying23]
    go_enter Try.func73, Try.ntmps73
    go_wp2_with (at_builtin; refine wpList_append_own _ rfl _ _ 23 rfl w.heap.size 96 i0 (.agg #[.int .i64 0, .int .i64 0, .int .i64 0, .int .i64 0]) 4 32 Try.underlying23 hi hz0 hzz1 hzz2 rfl (by decide) (.slice (some ⟨w.heap.size, 0, none⟩) 0 0) 0 _ rfl HO.out ⟨b, off, none⟩ n cap (synCs ss) rfl HC.out HN.out HE.out (by unfold maxLen; omega) (by omega) (by simp) ?_; intro v' w3 hown' hgrow _; have HO' := Lib.hid hown'; have HG := Lib.hid hgrow; clear hown' hgrow)
    go_ret
    have h1 := HO'.out
    have h2 := HG.out
    have hs := h2.size
    rw [World.size_alloc] at hs
    have hb : Below w.heap.size w w3 := ⟨h2.os, h2.tape, h2.output, by omega, fun k hk => by
      rw [h2.block k (by rw [World.size_alloc]; omega) (fun e => by simp [Value.ownBlock] at e; omega), Below.heap_alloc _ _ _ (by omega)]⟩
    refine ⟨v', rfl, ?_, hb⟩
    rw [← HL.out]
    simpa using h1
end Go.Proofs.Ytgbcdebnanejpaa.Rn
