/- The synapses of a source, yielded one by one. -/
import Derived.Test.YtgbcdebnanejpaaNo
namespace Go.Proofs.Ytgbcdebnanejpaa
set_option linter.unusedVariables false
open Go.RowKit Go.Shelf
attribute [local go_sem] Oper.semAt_some

def encS (s : Syn) : Array Value := #[.agg #[.int .i64 s.fr, .int .i64 s.to, .int .i64 s.wt, .int .i64 s.dl]]
theorem synCs_at : ∀ (l : List Syn) (j : Nat) (s : Syn), l[j]? = some s → (synCs l)[j * 4]? = some (.int .i64 s.fr) ∧ (synCs l)[j * 4 + 1]? = some (.int .i64 s.to) ∧ (synCs l)[j * 4 + 2]? = some (.int .i64 s.wt) ∧ (synCs l)[j * 4 + 3]? = some (.int .i64 s.dl)
  | [], j, s, h => by simp at h
  | x :: l, 0, s, h => by cases h; simp [synCs, synV]
  | x :: l, j + 1, s, h => by
    have ih := synCs_at l j s (by simpa using h)
    have e : synCs (x :: l) = synV x ++ synCs l := by simp [synCs]
    have hl : (synV x).length = 4 := rfl
    rw [e, List.getElem?_append_right (by omega), List.getElem?_append_right (by omega), List.getElem?_append_right (by omega), List.getElem?_append_right (by omega), hl]
    rw [show (j + 1) * 4 - 4 = j * 4 from by omega, show (j + 1) * 4 + 1 - 4 = j * 4 + 1 from by omega, show (j + 1) * 4 + 2 - 4 = j * 4 + 2 from by omega, show (j + 1) * 4 + 3 - 4 = j * 4 + 3 from by omega]
    exact ih
theorem own_form {w : World} {base : Nat} {e : TypeId} {size : Nat} {v : Value} {n : Nat} {xs : List Value} (h : w.ownsRow base e size v n xs) (hn : 0 < n) : ∃ g cap, v = .slice (some ⟨g, 0, none⟩) n cap := by
  rcases h.2 with ⟨_, h0⟩ | ⟨g, cap, cur, hv, _⟩
  · omega
  · exact ⟨g, cap, hv⟩
theorem entersFrom : ∀ args w, (callFunc 108 args).run Try.prog w = .ok (.enter 108 args) w := enters_of Try.func108 (by kernel_rfl) rfl

set_option maxRecDepth 100000 in
set_option maxHeartbeats 2000000 in
theorem from1_gives (bm bx mb base n : Nat) (ss : List Syn) (sl : Int → Value) (src : Int) (hwf : (Lit.int .i64 src).wf = true) (hm : (ofSrc ss src).length ≤ 8192) (w0 : World)
    (hbm : w0.heap[bm]? = some (.cells #[.map (some mb)] 100)) (hbx : w0.heap[bx]? = some (.cells #[.int .i64 src] 3)) (hW : WiresAt w0 mb base n ss sl) :
    Gives Try.prog 108 #[.pointer (some ⟨bm, 0, none⟩), .pointer (some ⟨bx, 0, none⟩)] encS (ofSrc ss src) (fun b => b = bm ∨ b = bx ∨ b = mb ∨ (sl src).ownBlock = some b) w0 := by
  intro l J Jx W hsz hsame hJ hJx h0 hY
  have h1 := (hsame bm (Or.inl rfl)).trans hbm
  have h2 := (hsame bx (Or.inr (Or.inl rfl))).trans hbx
  have hmap : MapIs W mb n (entW ss sl) := hW.map.of_block (hsame mb (Or.inr (Or.inr (Or.inl rfl))))
  have hrow : W.ownsRow base 96 4 (sl src) (ofSrc ss src).length (synCs (ofSrc ss src)) := ownsRow_of_block (hW.row src) fun g hg => hsame g (Or.inr (Or.inr (Or.inr hg)))
  have hnil := hW.nil src
  have hlk := hmap.look1 Try.underlying100 (zero23 _) src hwf
  rw [entW_get hW.nil] at hlk
  obtain ⟨c1, _⟩ := cells1 h1
  obtain ⟨c2, _⟩ := cells1 h2
  have hb1 := lt_of_block h1
  have hb2 := lt_of_block h2
  obtain ⟨m, hmm⟩ : ∃ m, m = (ofSrc ss src).length := ⟨_, rfl⟩
  rw [← hmm] at hm hrow
  by_cases hm0 : m = 0
  · have hv : sl src = .slice none 0 0 := hnil (List.eq_nil_of_length_eq_zero (by omega))
    rw [hv] at hlk
    have HMM := Lib.hid hmm
    have HM0 := Lib.hid hm0
    clear hsame hbm hbx hW h1 h2 hmap hrow hnil hmm hm0 hv
    refine callsIn_of_wp Try.func108 rfl trivial ?_ rfl
    simp only [Try.ntmps108, List.size_toArray, List.length_cons, List.length_nil, Nat.reduceAdd, Nat.reduceSub, Array.replicate_succ, Array.replicate_zero, List.push_toArray, List.append_toArray, List.nil_append, List.cons_append]
    gi_wp2
    gi_loopw [10] (fun i wr => i = .int .i64 0 ∧ wr = W) (fun _ _ => 0)
    case atStart => exact ⟨rfl, rfl⟩
    case round =>
      obtain ⟨rfl, rfl⟩ := hrel
      gi_wp2
      go_end0
      refine ⟨⟨_, rfl⟩, fun _ => False, fun _ h => h.elim, Nat.le_refl _, .inl ?_⟩
      rw [← HMM.out, HM0.out]; exact h0
  · obtain ⟨g, cap, hv⟩ := own_form hrow (by omega)
    have hgl := (hrow.lt g (by rw [hv]; rfl)).2
    have hcell : ∀ j s, (ofSrc ss src)[j]? = some s → SynCells W g (0 + j * 4) s := fun j s hj => by
      have hjl : j < m := by rw [hmm]; exact (List.getElem?_eq_some_iff.1 hj).1
      obtain ⟨e1, e2, e3, e4⟩ := synCs_at _ j s hj
      rw [hv] at hrow
      exact ⟨by rw [hrow.cellAt _ (by omega), Nat.zero_add, e1], by rw [hrow.cellAt _ (by omega), Nat.zero_add, e2], by rw [hrow.cellAt _ (by omega), Nat.zero_add, e3], by rw [hrow.cellAt _ (by omega), Nat.zero_add, e4]⟩
    have hown : (sl src).ownBlock = some g := by rw [hv]; rfl
    rw [hv] at hlk
    have HC := Lib.hid hcell
    have HMM := Lib.hid hmm
    have HOW := Lib.hid hown
    have hmpos : 0 < m := by omega
    clear hsame hbm hbx hW h1 h2 hmap hrow hnil hmm hv hcell hown hm0
    refine callsIn_of_wp Try.func108 rfl trivial ?_ rfl
    simp only [Try.ntmps108, List.size_toArray, List.length_cons, List.length_nil, Nat.reduceAdd, Nat.reduceSub, Array.replicate_succ, Array.replicate_zero, List.push_toArray, List.append_toArray, List.nil_append, List.cons_append]
    gi_wp2
    gi_loopw [10] (fun i wr => ∃ k : Nat, k ≤ m ∧ i = .int .i64 k ∧ ∃ G : Nat → Prop, (∀ b, G b → W.heap.size ≤ b ∧ b < wr.heap.size) ∧ W.heap.size ≤ wr.heap.size ∧ J G k wr ∧ wr.heap[g]? = W.heap[g]?)
      (fun i _ => m - (intOf i).toNat)
    case atStart => exact ⟨0, Nat.zero_le _, rfl, fun _ => False, fun _ h => h.elim, Nat.le_refl _, h0, rfl⟩
    case round =>
      obtain ⟨k, hk, rfl, G, hG, hsz1, hJs, hgg⟩ := hrel
      have hi0 : (0 : Int) ≤ (k : Int) := Int.natCast_nonneg _
      by_cases hlt : k < m
      · have hi1 : (k : Int) < (m : Int) := by omega
        obtain ⟨x, hx⟩ : ∃ x, (ofSrc ss src)[k]? = some x := ⟨_, List.getElem?_eq_getElem (by rw [← HMM.out]; exact hlt)⟩
        have hJ2 : J G k (wr.alloc (.cells #[.int .i64 x.fr, .int .i64 x.to, .int .i64 x.wt, .int .i64 x.dl] 96)) := hJ G k wr _ hJs ((Bel.refl _ _ _).alloc (Nat.le_refl _) _)
        obtain ⟨fn, tmps, assign, body, hy, hR⟩ := hY G k x _ (fun b hb => ⟨(hG b hb).1, by have := (hG b hb).2; simp; omega⟩) (by simp; omega) hJ2 hx
        have hcw : ∀ o, wr.cell? ⟨g, o, none⟩ = W.cell? ⟨g, o, none⟩ := fun o => by unfold World.cell?; rw [hgg]
        obtain ⟨s0, s1, s2, s3⟩ := HC.out k x hx
        rw [← hcw, Nat.zero_add] at s0 s1 s2 s3
        have HX := Lib.hid hx
        have HGG := Lib.hid hgg
        clear hx hgg hcw
        unfold encS at hy
        gi_wp2
        refine ⟨rfl, hR.mono ?_⟩
        rintro e W3 (⟨rfl, G', hg, hJ3, hb3⟩ | ⟨rfl, G', hg, hJ3, hb3⟩)
        · gi_wp2
          go_roundw
          case rel =>
            have hs3 := hb3.size
            rw [World.size_alloc] at hs3
            refine ⟨k + 1, by omega, by simp, G', fun b hb => ⟨by rcases hg.new b hb with h | h; exact (hG b h).1; rw [World.size_alloc] at h; omega, hg.lt b hb⟩, by omega, hJ3, ?_⟩
            rw [hb3.block g (by rw [World.size_alloc]; omega) (fun h => h.1 (Or.inr (Or.inr (Or.inr HOW.out)))), Below.heap_alloc _ _ _ (by omega)]
            exact HGG.out
          case measure => simp [intOf]; omega
        · gi_wp2
          have hs3 := hb3.size
          rw [World.size_alloc] at hs3
          refine bodyPost_ret (results_none rfl _ _ _) rfl ?_
          exact ⟨⟨_, rfl⟩, G', fun b hb => ⟨by rcases hg.new b hb with h | h; exact (hG b h).1; rw [World.size_alloc] at h; omega, hg.lt b hb⟩, by omega, .inr ⟨k + 1, by rw [← HMM.out]; omega, hJ3⟩⟩
      · have hkm : k = m := by omega
        subst hkm
        have HJS := Lib.hid hJs
        clear hJs hlt
        gi_wp2
        go_end0
        refine ⟨⟨_, rfl⟩, G, hG, hsz1, .inl ?_⟩
        rw [← HMM.out]; exact HJS.out
end Go.Proofs.Ytgbcdebnanejpaa
