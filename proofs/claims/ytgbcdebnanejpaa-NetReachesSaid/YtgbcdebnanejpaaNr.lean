/- A simulation's blocks; wires.from. -/
import Derived.Test.YtgbcdebnanejpaaNq
namespace Go.Proofs.Ytgbcdebnanejpaa
set_option linter.unusedVariables false
open Go.RowKit Go.Shelf

/-- All blocks of a simulation lie below N. -/
structure SimIn (z : SimZ) (N : Nat) : Prop where
  bs : z.bs < N
  sb : z.sb < N
  rb : ∀ d, d < 16 → z.rb d < N
  mb : z.mb < N
  nv : ∀ g, z.nv.ownBlock = some g → g < N
  sl : ∀ x g, (z.sl x).ownBlock = some g → g < N
theorem SimIn.mut {z : SimZ} {N : Nat} (h : SimIn z N) {b : Nat} (hb : z.mut b) : b < N := by
  rcases hb with rfl | rfl | ⟨d, hd, rfl⟩
  · exact h.bs
  · exact h.sb
  · exact h.rb d hd
theorem SimAt.isIn {n : NetM} {A : World} {B : Nat} {z : SimZ} {t r0 : Nat} {st : List (Int × Int)} {due : Due} (h : SimAt n A B z t r0 st due) : SimIn z A.heap.size := by
  refine ⟨lt_of_block h.blk, lt_of_block h.stb, fun d hd => ?_, h.wires.map.lt, fun g hg => ?_, fun x g hg => ((h.wires.row x).lt g hg).2⟩
  · have hr := h.row (r0 + (d + 16 - r0 % 16) % 16) (by omega) (by omega)
    rw [show (r0 + (d + 16 - r0 % 16) % 16) % 16 = d from by omega] at hr
    exact lt_of_block hr
  · rcases h.ps with ⟨h0, _⟩ | ⟨b, off, cap, e, hl, _⟩
    · rw [h0] at hg; simp [Value.ownBlock] at hg
    · rw [e] at hg; simp [Value.ownBlock] at hg; omega
theorem SimAt.keepN {n : NetM} {A A' : World} {B N : Nat} {z : SimZ} {t r0 : Nat} {st : List (Int × Int)} {due : Due} (h : SimAt n A B z t r0 st due) (hN : SimIn z N) (hb : ∀ b, b < N → A'.heap[b]? = A.heap[b]?) : SimAt n A' B z t r0 st due := by
  have hc : ∀ b o, b < N → A'.cell? ⟨b, o, none⟩ = A.cell? ⟨b, o, none⟩ := fun b o hl => by unfold World.cell?; rw [hb b hl]
  refine ⟨(hb _ hN.bs).trans h.blk, ?_, h.psM, ⟨h.wires.map.of_block (hb _ hN.mb), fun x => ownsRow_of_block (h.wires.row x) fun g hg => hb g (hN.sl x g hg), h.wires.nil, h.wires.apart, h.wires.lt⟩, h.wiM, h.mbM, (hb _ hN.sb).trans h.stb, h.len, fun a h1 h2 => (hb _ (hN.rb _ (Nat.mod_lt _ (by omega)))).trans (h.row a h1 h2), h.zero, h.inj, h.ne1, h.ne2, h.ne3, h.lo⟩
  rcases h.ps with h0 | ⟨b, off, cap, e, hl, h1⟩
  · exact Or.inl h0
  · have hbN : b < N := hN.nv b (by rw [e]; rfl)
    have hl' : b < A'.heap.size := by
      have hx : A'.heap[b]? = some (A.heap[b]'hl) := by rw [hb b hbN]; exact Array.getElem?_eq_getElem hl
      exact lt_of_block hx
    refine Or.inr ⟨b, off, cap, e, hl', fun k p hk => ?_⟩
    obtain ⟨c0, c1, c2, c3, c4, c5, c6, c7⟩ := h1 k p hk
    exact ⟨(hc _ _ hbN).trans c0, (hc _ _ hbN).trans c1, (hc _ _ hbN).trans c2, (hc _ _ hbN).trans c3, (hc _ _ hbN).trans c4, (hc _ _ hbN).trans c5, (hc _ _ hbN).trans c6, (hc _ _ hbN).trans c7⟩
/-- One number of what is due. -/
theorem SimAt.setDue {n : NetM} {A : World} {B : Nat} {z : SimZ} {t r0 : Nat} {st : List (Int × Int)} {due : Due} (h : SimAt n A B z t r0 st due) (a i : Nat) (h1 : r0 ≤ a) (h2 : a < r0 + 16) (hi : i < n.ps.length) (x : Int) :
    SimAt n (A.setCell ⟨z.rb (a % 16), i, none⟩ (.int .i64 x)) B z t r0 st (fun a' i' => if a' = a ∧ i' = i then x else due a' i') := by
  have hm : z.mut (z.rb (a % 16)) := Or.inr (Or.inr ⟨_, Nat.mod_lt _ (by omega), rfl⟩)
  have hb : ∀ b, b ≠ z.rb (a % 16) → (A.setCell ⟨z.rb (a % 16), i, none⟩ (.int .i64 x)).heap[b]? = A.heap[b]? := fun b hn => Below.heap_setCell _ _ _ _ (by exact hn)
  have hnm : ∀ b, ¬ z.mut b → b ≠ z.rb (a % 16) := fun b hb e => hb (e ▸ hm)
  refine ⟨(hb _ (h.ne2 _ (Nat.mod_lt _ (by omega)))).trans h.blk, ?_, h.psM, ⟨h.wires.map.of_block (hb _ (hnm _ h.mbM)), fun x => ownsRow_of_block (h.wires.row x) fun g hg => hb g (hnm _ (h.wiM x g hg)), h.wires.nil, h.wires.apart, h.wires.lt⟩, h.wiM, h.mbM, (hb _ (h.ne3 _ (Nat.mod_lt _ (by omega)))).trans h.stb, h.len, fun a' g1 g2 => ?_, fun a' i' g => ?_, h.inj, h.ne1, h.ne2, h.ne3, h.lo⟩
  · rcases h.ps with h0 | ⟨b, off, cap, e, hl, h1'⟩
    · exact Or.inl h0
    · have hbn : b ≠ z.rb (a % 16) := hnm b (h.psM b (by rw [e]; rfl))
      have hc : ∀ o, (A.setCell ⟨z.rb (a % 16), i, none⟩ (.int .i64 x)).cell? ⟨b, o, none⟩ = A.cell? ⟨b, o, none⟩ := fun o => by unfold World.cell?; rw [hb b hbn]
      refine Or.inr ⟨b, off, cap, e, by simp [World.setCell]; exact hl, fun k p hk => ?_⟩
      obtain ⟨c0, c1, c2, c3, c4, c5, c6, c7⟩ := h1' k p hk
      exact ⟨(hc _).trans c0, (hc _).trans c1, (hc _).trans c2, (hc _).trans c3, (hc _).trans c4, (hc _).trans c5, (hc _).trans c6, (hc _).trans c7⟩
  · by_cases e : a' = a
    · subst e
      have := (h.row a' g1 g2).set hi x
      simpa using this
    · have hne : z.rb (a' % 16) ≠ z.rb (a % 16) := fun e1 => by
        have := h.inj _ _ (Nat.mod_lt _ (by omega)) (Nat.mod_lt _ (by omega)) e1
        omega
      have := (hb _ hne).trans (h.row a' g1 g2)
      simpa [RowAt, e] using this
  · rw [if_neg (by omega)]; exact h.zero a' i' g

set_option maxHeartbeats 400000 in
theorem from_any (mb : Nat) (src : Int) (w : World) :
    Calls Try.prog 77 #[.map (some mb), .int .i64 src] w fun e w' => e = .returned (.func (.func 108) #[] #[.pointer (some ⟨w.heap.size, 0, none⟩), .pointer (some ⟨w.heap.size + 1, 0, none⟩)]) ∧
      (w.alloc (.cells #[.map (some mb)] 100)).alloc (.cells #[.int .i64 src] 3) = w' := by
  go_enter Try.func77, Try.ntmps77
  go_wp2
  go_ret
  exact ⟨rfl, rfl⟩
end Go.Proofs.Ytgbcdebnanejpaa
