/- A range over a function whose iterator keeps state in cells of its own: contracts by footprints, and the law of the statement. Over any program. -/
import Derived.RangeFuncNested
import Derived.RangeFuncBound
import Derived.RangeFuncCalls
import Derived.RangeFuncLeaves
import Derived.Shelf.Abstract
import Derived.Shelf.RegionOpen
import Derived.WalkKit
import Derived.WalkSmall
namespace Go.Proofs.YtnbndciididpoaaGreat
set_option linter.unusedVariables false
open Go.RowKit

/-- Below N the world w' is as w was, but for the blocks of Own. -/
structure Bel (Own : Nat → Prop) (N : Nat) (w w' : World) : Prop where
  os : w'.os = w.os
  tape : w'.tape = w.tape
  output : w'.output = w.output
  size : w.heap.size ≤ w'.heap.size
  block : ∀ k, k < N → ¬ Own k → w'.heap[k]? = w.heap[k]?

section
variable {Own Own' : Nat → Prop} {N N' : Nat} {a b c w w' : World}
theorem Bel.refl (Own : Nat → Prop) (N : Nat) (w : World) : Bel Own N w w := ⟨rfl, rfl, rfl, Nat.le_refl _, fun _ _ _ => rfl⟩
theorem Bel.trans (h : Bel Own N a b) (k : Bel Own N b c) : Bel Own N a c :=
  ⟨k.os.trans h.os, k.tape.trans h.tape, k.output.trans h.output, Nat.le_trans h.size k.size, fun i hi ho => (k.block i hi ho).trans (h.block i hi ho)⟩
theorem Bel.mono (h : Bel Own N w w') (hN : N' ≤ N) (ho : ∀ b, b < N' → Own b → Own' b) : Bel Own' N' w w' :=
  ⟨h.os, h.tape, h.output, h.size, fun k hk hn => h.block k (Nat.lt_of_lt_of_le hk hN) (fun e => hn (ho k hk e))⟩
theorem Bel.ofBelow (h : Below N w w') (hN : N' ≤ N) : Bel Own N' w w' := ⟨h.os, h.tape, h.output, h.size, fun k hk _ => h.block k (Nat.lt_of_lt_of_le hk hN)⟩
theorem Bel.below (h : Bel Own N w w') (hN : N' ≤ N) (ho : ∀ b, b < N' → ¬ Own b) : Below N' w w' := ⟨h.os, h.tape, h.output, h.size, fun k hk => h.block k (Nat.lt_of_lt_of_le hk hN) (ho k hk)⟩
theorem Bel.drew (h : Bel Own N a w) : Bel Own N a w.drew := h.trans ⟨rfl, rfl, rfl, Nat.le_refl _, fun _ _ _ => rfl⟩
theorem Bel.drewN (h : Bel Own N a w) (n : Nat) : Bel Own N a (w.drewN n) := h.trans ⟨rfl, rfl, rfl, Nat.le_refl _, fun _ _ _ => rfl⟩
theorem Bel.alloc (h : Bel Own N a w) (hN : N ≤ w.heap.size) (o : Obj) : Bel Own N a (w.alloc o) :=
  h.trans ⟨rfl, rfl, rfl, by simp, fun k hk _ => Below.heap_alloc _ _ _ (by omega)⟩
theorem Bel.setCell (h : Bel Own N a w) {p : Addr} (hp : Own p.block ∨ N ≤ p.block) (u : Value) : Bel Own N a (w.setCell p u) :=
  h.trans ⟨rfl, rfl, rfl, by simp [World.setCell], fun k hk hn => Below.heap_setCell _ _ _ _ (fun e => by subst e; rcases hp with h | h; exact hn h; omega)⟩
theorem Bel.putObj (h : Bel Own N a w) {l : Nat} (hl : Own l ∨ N ≤ l) (o : Obj) : Bel Own N a (w.putObj l o) :=
  h.trans ⟨rfl, rfl, rfl, by simp, fun k hk hn => World.putObj_heap_other (fun e => by subst e; rcases hl with h | h; exact hn h; omega)⟩
theorem Bel.grown {row : Option Nat} (h : Bel Own N a w) (hg : w.grownBy w' row) (hN : N ≤ w.heap.size) (hr : ∀ k, row = some k → Own k ∨ N ≤ k) : Bel Own N a w' :=
  h.trans ⟨hg.os, hg.tape, hg.output, hg.size, fun k hk hn => hg.block k (by omega) (fun e => by rcases hr k e.symm with h | h; exact hn h; omega)⟩
theorem Bel.cell (h : Bel Own N w w') {p : Addr} (hp : p.block < N) (ho : ¬ Own p.block) : w'.cell? p = w.cell? p := World.cell?_of_block (w := w) (h.block p.block hp ho)
theorem Bel.frozen (h : Bel Own N w w') {p : Addr} (hp : p.block < N) (ho : ¬ Own p.block) : w'.frozen? p = w.frozen? p := World.frozen?_of_block (w := w) (h.block p.block hp ho)
end

/-- The caller's blocks have grown by blocks that are new since W. -/
structure Grew (G G' : Nat → Prop) (N : Nat) (W' : World) : Prop where
  old : ∀ b, G b → G' b
  new : ∀ b, G' b → G b ∨ N ≤ b
  lt : ∀ b, G' b → b < W'.heap.size

/-- The function gf, with what it has captured, hands xs to its yield, one by one, whatever the loop's body does to the caller's blocks: those below its own start that it has not captured, and those (G) that the rounds themselves have made. What the caller holds (J) must abide whatever happens to all others. -/
def Gives {α : Type} (P : Program) (gf : Nat) (lb : Array Value) (enc : α → Array Value) (xs : List α) (Cap : Nat → Prop) (w0 : World) : Prop :=
  ∀ (l : Nat) (J Jx : (Nat → Prop) → Nat → World → Prop) (W : World),
    w0.heap.size ≤ W.heap.size →
    (∀ k, Cap k → W.heap[k]? = w0.heap[k]?) →
    (∀ G k A A', J G k A → Bel (fun b => W.heap.size ≤ b ∧ ¬ G b) A.heap.size A A' → J G k A') →
    (∀ G k A A', Jx G k A → Bel (fun b => W.heap.size ≤ b ∧ ¬ G b) A.heap.size A A' → Jx G k A') →
    J (fun _ => False) 0 W →
    (∀ G k x A, (∀ b, G b → W.heap.size ≤ b ∧ b < A.heap.size) → W.heap.size ≤ A.heap.size → J G k A → xs[k]? = some x →
      YieldAt Fence.wide 0 P l (enc x) A fun e A' =>
        (e = .returned (.bool true) ∧ ∃ G', Grew G G' A.heap.size A' ∧ J G' (k + 1) A' ∧ Bel (fun b => ¬ Cap b ∧ (b < W.heap.size ∨ G b)) A.heap.size A A') ∨
        (e = .returned (.bool false) ∧ ∃ G', Grew G G' A.heap.size A' ∧ Jx G' (k + 1) A' ∧ Bel (fun b => ¬ Cap b ∧ (b < W.heap.size ∨ G b)) A.heap.size A A')) →
    CallsIn Fence.wide 0 P gf (#[.func (.yield l) #[] #[]] ++ lb) W fun e W' => (∃ v, e = .returned v) ∧
      ∃ G, (∀ b, G b → W.heap.size ≤ b ∧ b < W'.heap.size) ∧ W.heap.size ≤ W'.heap.size ∧ (J G xs.length W' ∨ ∃ k, k ≤ xs.length ∧ Jx G k W')

/-- What a round of the caller must come to: from the world W2, in which the body begins; N: the heap's size when the round began. -/
def rangeEnd (Own G : Nat → Prop) (k : Nat) (I : (Nat → Prop) → Nat → World → Prop) (Ix : Code → (Nat → Prop) → Nat → World → Prop) (N : Nat) (W2 : World) : Exit → Act → World → Prop
  | .normal, _, W' => ∃ G', Grew G G' N W' ∧ I G' (k + 1) W' ∧ Bel (fun b => Own b ∨ G b) N W2 W'
  | .ret, _, W' => ∃ G', Grew G G' N W' ∧ Ix .ret G' (k + 1) W' ∧ Bel (fun b => Own b ∨ G b) N W2 W'
  | .exit id, _, W' => ∃ G', Grew G G' N W' ∧ Ix (.exit id) G' (k + 1) W' ∧ Bel (fun b => Own b ∨ G b) N W2 W'
  | .goto t, _, W' => ∃ G', Grew G G' N W' ∧ Ix (.goto t) G' (k + 1) W' ∧ Bel (fun b => Own b ∨ G b) N W2 W'
  | .panic _, _, _ => False
  | .outgrown, _, _ => False

/-- W2 is W1 but for the book-keeping of a loop: no cell differs. -/
structure Same (W1 W2 : World) : Prop where
  size : W2.heap.size = W1.heap.size
  cell : ∀ p, W2.cell? p = W1.cell? p
  frozen : ∀ p, W2.frozen? p = W1.frozen? p
  cells : ∀ b : Nat, (∃ (c : Array Value) (t : TypeId) (f : Nat × Nat), W1.heap[b]? = some (Obj.cells c t f)) → W2.heap[b]? = W1.heap[b]?

theorem same_putObj {W : World} {l : Nat} {r : Loop} (h : W.heap[l]? = some (.loop r)) (r' : Loop) : Same W (W.putObj l (.loop r')) := by
  have hl : l < W.heap.size := (Array.getElem?_eq_some_iff.1 h).1
  refine ⟨by simp, fun p => ?_, fun p => ?_, fun b ⟨c, t, f, hb⟩ => ?_⟩
  · unfold World.cell?
    by_cases e : p.block = l
    · rw [e, World.putObj_heap_same hl, h]
    · rw [World.putObj_heap_other e]
  · unfold World.frozen?
    by_cases e : p.block = l
    · rw [e, World.putObj_heap_same hl, h]
    · rw [World.putObj_heap_other e]
  · have e : b ≠ l := fun e => by subst e; rw [h] at hb; cases hb
    exact World.putObj_heap_other e

/-- THE LAW OF THE STATEMENT, in a function that is not itself a round. -/
theorem wp_range {α : Type} {P : Program} {g : Operand} {ps : Array Tmp} {assign body : Code} {Q : Exit → Act → World → Prop} {a : Act} {w : World} {gf : Nat} {lb : Array Value}
    (hg : a.eval g = .func (.func gf) #[] lb) (eg : ∀ args w, (callFunc gf args).run P w = .ok (.enter gf args) w)
    {enc : α → Array Value} {xs : List α} {Cap : Nat → Prop} {w0 : World} (hG : Gives P gf lb enc xs Cap w0) (h0s : w0.heap.size ≤ w.heap.size)
    (hCap : ∀ k, Cap k → k < w0.heap.size ∧ w.heap[k]? = w0.heap[k]?) (hps : ∀ x, (enc x).size = ps.size)
    (Own : Nat → Prop) (hOwn : ∀ b, Own b → ¬ Cap b ∧ b < w.heap.size)
    (I : (Nat → Prop) → Nat → World → Prop) (Ix : Code → (Nat → Prop) → Nat → World → Prop)
    (hI : ∀ G k A A', I G k A → Bel (fun b => w.heap.size ≤ b ∧ ¬ G b) A.heap.size A A' → I G k A')
    (hIx : ∀ c G k A A', Ix c G k A → Bel (fun b => w.heap.size ≤ b ∧ ¬ G b) A.heap.size A A' → Ix c G k A')
    (h0 : I (fun _ => False) 0 w)
    (hround : ∀ l G k x W, w.heap.size ≤ l → (∀ b, G b → w.heap.size ≤ b ∧ b < W.heap.size) → w.heap.size ≤ W.heap.size → I G k W → xs[k]? = some x →
      ∃ A : Act → World → Prop, (∀ a1 W1, A a1 W1 → Bel (fun _ => False) W.heap.size W W1) ∧
        assign.wpIn (Fence.wide.inRound l) 0 P (Exit.then A (fun _ _ _ => False)) { tmps := (ps.zip (enc x)).foldl (fun t (p, v) => t.setIfInBounds p v) a.tmps, defers := [] } W ∧
        ∀ a1 W1 W2, A a1 W1 → Same W1 W2 → I G k W2 → body.wpIn (Fence.wide.inRound l) 0 P (rangeEnd Own G k I Ix W.heap.size W2) a1 W2)
    (hdone : ∀ D G W, w.heap.size ≤ D → ¬ G D → (∀ b, G b → w.heap.size ≤ b ∧ b < W.heap.size) → I G xs.length W → W.heap[D]? = some (.deferred (some [])) → Q .normal { a with defers := { target := .collected D, args := #[] } :: a.defers } W)
    (hstop : ∀ D c G k W, w.heap.size ≤ D → ¬ G D → (∀ b, G b → w.heap.size ≤ b ∧ b < W.heap.size) → k ≤ xs.length → Ix c G k W → W.heap[D]? = some (.deferred (some [])) → c.wpIn Fence.wide 0 P Q { a with defers := { target := .collected D, args := #[] } :: a.defers } W) :
    (Code.rangeFunc g ps assign body).wpIn Fence.wide 0 P Q a w := by
  refine wpIn_rangeFunc ?_
  intro fn hfn
  obtain ⟨rec, hrec⟩ : ∃ rec : LoopState → Option Code → Loop, rec = fun st pe => { state := st, pending := pe, fn, tmps := a.tmps, params := ps, assign, body, defers := w.heap.size } := ⟨_, rfl⟩
  obtain ⟨W1, hW1⟩ : ∃ W1, (w.alloc (.deferred (some []))).alloc (.loop (rec .ready none)) = W1 := ⟨_, rfl⟩
  have hs1 : W1.heap.size = w.heap.size + 2 := by rw [← hW1]; simp
  have hL1 : W1.heap[w.heap.size + 1]? = some (.loop (rec .ready none)) := by
    rw [← hW1]; have := World.alloc_heap_new (w.alloc (.deferred (some []))) (.loop (rec .ready none)); rw [World.size_alloc] at this; exact this
  have hK1 : W1.heap[w.heap.size]? = some (.deferred (some [])) := by
    rw [← hW1, Below.heap_alloc _ _ _ (by simp)]; exact World.alloc_heap_new w _
  have hold : ∀ k, k < w.heap.size → W1.heap[k]? = w.heap[k]? := fun k hk => by
    rw [← hW1, Below.heap_alloc _ _ _ (by simp; omega), Below.heap_alloc _ _ _ hk]
  have hBel1 : ∀ O : Nat → Prop, Bel O w.heap.size w W1 := fun O => by
    rw [← hW1]; exact ((Bel.refl _ _ _).alloc (Nat.le_refl _) _).alloc (by simp) _
  refine ⟨w.heap.size + 1, [{ target := .collected w.heap.size, args := #[] }], W1, { target := .fn (.func gf) lb, args := #[.func (.yield (w.heap.size + 1)) #[] #[]] }, W1, gf,
    #[.func (.yield (w.heap.size + 1)) #[] #[]] ++ lb, W1, ?_, ?_, fun _ _ => trivial, ?_, fun h => by simp [Fence.wide] at h, ?_⟩
  · rw [← hW1, hrec]; exact run_enterLoop_outer _ _ _ _ _
  · simp only [resolve, hg]
    simp [go_sem]
  · simp [invoke, go_sem, eg]
  · refine (hG (w.heap.size + 1)
      (fun G k W => I G k W ∧ W.heap[w.heap.size + 1]? = some (.loop (rec .ready none)) ∧ W.heap[w.heap.size]? = some (.deferred (some [])))
      (fun G k W => ∃ c, Ix c G k W ∧ W.heap[w.heap.size + 1]? = some (.loop (rec .done (some c))) ∧ W.heap[w.heap.size]? = some (.deferred (some [])))
      W1 (by omega) (fun k hk => by rw [hold k (by have := (hCap k hk).1; omega)]; exact (hCap k hk).2) ?_ ?_ ?_ ?_).mono ?_
    · rintro G k A A' ⟨hi, hl, hk⟩ hb
      have hlt : w.heap.size + 1 < A.heap.size := (Array.getElem?_eq_some_iff.1 hl).1
      exact ⟨hI G k A A' hi (hb.mono (Nat.le_refl _) fun b _ hb => ⟨by omega, hb.2⟩), (hb.block _ hlt (fun h => by omega)).trans hl, (hb.block _ (by omega) (fun h => by omega)).trans hk⟩
    · rintro G k A A' ⟨c, hi, hl, hk⟩ hb
      have hlt : w.heap.size + 1 < A.heap.size := (Array.getElem?_eq_some_iff.1 hl).1
      exact ⟨c, hIx c G k A A' hi (hb.mono (Nat.le_refl _) fun b _ hb => ⟨by omega, hb.2⟩), (hb.block _ hlt (fun h => by omega)).trans hl, (hb.block _ (by omega) (fun h => by omega)).trans hk⟩
    · exact ⟨hI _ _ _ _ h0 ((hBel1 _).mono (Nat.le_refl _) fun b hb h => h), hL1, hK1⟩
    · -- ONE ROUND
      rintro G k x W hGb hsz ⟨hi, hl, hk⟩ hx
      have hlt : w.heap.size + 1 < W.heap.size := (Array.getElem?_eq_some_iff.1 hl).1
      have hnl : ∀ b, b ≤ w.heap.size + 1 → w.heap.size ≤ b → ¬ (Own b ∨ G b) := fun b h1 h2 h => by
        rcases h with h | h
        · have := (hOwn b h).2; omega
        · have := (hGb b h).1; omega
      have hy := run_yield (P := P) (args := enc x) hl (by rw [hrec]; exact hps x)
      rw [hrec] at hy
      obtain ⟨A, hA, hass, hbody⟩ := hround (w.heap.size + 1) G k x W (by omega) (fun b hb => ⟨by have := (hGb b hb).1; omega, (hGb b hb).2⟩) (by omega) hi hx
      refine ⟨fn, _, assign, body, hy, roundIn_of_wpIn hfn (wpIn_mono hass ?_)⟩
      rintro e a1 Wa hpa
      cases e with
      | normal =>
        have hba := hA a1 Wa hpa
        have hla := (hba.block _ hlt id).trans hl
        have hka := (hba.block _ (by omega) id).trans hk
        have hlta : w.heap.size + 1 < Wa.heap.size := (Array.getElem?_eq_some_iff.1 hla).1
        refine ⟨_, run_beginRound hla (by rw [hrec]), ?_⟩
        have hl2 : (Wa.putObj (w.heap.size + 1) (.loop { rec .ready none with state := .busy })).heap[w.heap.size + 1]? = some (.loop { rec .ready none with state := .busy }) := World.putObj_heap_same hlta
        have hk2 : (Wa.putObj (w.heap.size + 1) (.loop { rec .ready none with state := .busy })).heap[w.heap.size]? = some (.deferred (some [])) := (World.putObj_heap_other (by omega)).trans hka
        have hsame := same_putObj hla { rec .ready none with state := .busy }
        have hput : Bel (fun b => w.heap.size ≤ b ∧ ¬ G b) Wa.heap.size Wa (Wa.putObj (w.heap.size + 1) (.loop { rec .ready none with state := .busy })) := (Bel.refl _ _ _).putObj (Or.inl ⟨by omega, fun h => by have := (hGb _ h).1; omega⟩) _
        obtain ⟨W2, hW2⟩ : ∃ W2, Wa.putObj (w.heap.size + 1) (.loop { rec .ready none with state := .busy }) = W2 := ⟨_, rfl⟩
        have hchg : ∀ b, b < W.heap.size → (Own b ∨ G b) ∨ b = w.heap.size + 1 → ¬ Cap b ∧ (b < W1.heap.size ∨ G b) := fun b _ h => by
          rcases h with (h | h) | h
          · have := hOwn b h; exact ⟨this.1, Or.inl (by omega)⟩
          · refine ⟨fun hc => ?_, Or.inr h⟩
            have := (hCap b hc).1; have := (hGb b h).1; omega
          · refine ⟨fun hc => ?_, Or.inl (by omega)⟩
            have := (hCap b hc).1; omega
        have hba2 : Bel (fun b => (Own b ∨ G b) ∨ b = w.heap.size + 1) W.heap.size W W2 := by
          rw [← hW2]; exact (hba.mono (Nat.le_refl _) fun b _ h => h.elim).putObj (Or.inl (Or.inr rfl)) _
        rw [hW2] at hl2 hk2 hsame hput ⊢
        have hi1 : I G k Wa := hI _ _ _ _ hi (hba.mono (Nat.le_refl _) fun b _ h => h.elim)
        have hi2 : I G k W2 := hI _ _ _ _ hi1 hput
        refine wpIn_mono (hbody a1 Wa W2 hpa hsame hi2) ?_
        have hlt2 : w.heap.size + 1 < W2.heap.size := (Array.getElem?_eq_some_iff.1 hl2).1
        have fin : ∀ (jump : Option Code) (W3 : World), Bel (fun b => Own b ∨ G b) W.heap.size W2 W3 →
            (Instr.endRound (w.heap.size + 1) jump).run P W3 = .ok (.bool jump.isNone) (W3.putObj (w.heap.size + 1) (.loop (rec (if jump.isNone then .ready else .done) jump))) ∧
            (W3.putObj (w.heap.size + 1) (.loop (rec (if jump.isNone then .ready else .done) jump))).heap[w.heap.size + 1]? = some (.loop (rec (if jump.isNone then .ready else .done) jump)) ∧
            (W3.putObj (w.heap.size + 1) (.loop (rec (if jump.isNone then .ready else .done) jump))).heap[w.heap.size]? = some (.deferred (some [])) ∧
            Bel (fun b => ¬ Cap b ∧ (b < W1.heap.size ∨ G b)) W.heap.size W (W3.putObj (w.heap.size + 1) (.loop (rec (if jump.isNone then .ready else .done) jump))) ∧
            (∀ G' : Nat → Prop, Grew G G' W.heap.size W3 → Bel (fun b => w.heap.size ≤ b ∧ ¬ G' b) W3.heap.size W3 (W3.putObj (w.heap.size + 1) (.loop (rec (if jump.isNone then .ready else .done) jump)))) := fun jump W3 hk3 => by
          have hl3 := (hk3.block _ hlt (hnl _ (by omega) (by omega))).trans hl2
          have hlt3 : w.heap.size + 1 < W3.heap.size := (Array.getElem?_eq_some_iff.1 hl3).1
          have := run_endRound (P := P) jump hl3
          rw [hrec] at this ⊢
          refine ⟨this, World.putObj_heap_same hlt3, (World.putObj_heap_other (by omega)).trans ((hk3.block _ (by omega) (hnl _ (by omega) (by omega))).trans hk2), ?_, ?_⟩
          · exact ((hba2.trans (hk3.mono (Nat.le_refl _) fun b _ h => Or.inl h)).putObj (Or.inl (Or.inr rfl)) _).mono (Nat.le_refl _) hchg
          · exact fun G' hg => (Bel.refl _ _ _).putObj (Or.inl ⟨by omega, fun h => by rcases hg.new _ h with h | h; exact absurd (hGb _ h).1 (by omega); omega⟩) _
        have grew : ∀ {G' : Nat → Prop} {W3 : World} (o : Obj), Grew G G' W.heap.size W3 → Grew G G' W.heap.size (W3.putObj (w.heap.size + 1) o) := fun o h => ⟨h.old, h.new, fun b hb => by rw [World.putObj_size]; exact h.lt b hb⟩
        rintro e a3 W3 hp
        cases e with
        | normal =>
          obtain ⟨G', hg, hi3, hk3⟩ := hp
          obtain ⟨hr, hl4, hk4, hb4, hs4⟩ := fin none W3 hk3
          exact ⟨_, _, hr, .inl ⟨rfl, G', grew _ hg, ⟨hI _ _ _ _ hi3 (hs4 G' hg), hl4, hk4⟩, hb4⟩⟩
        | ret =>
          obtain ⟨G', hg, hi3, hk3⟩ := hp
          obtain ⟨hr, hl4, hk4, hb4, hs4⟩ := fin (some .ret) W3 hk3
          exact ⟨_, _, hr, .inr ⟨rfl, G', grew _ hg, ⟨.ret, hIx _ _ _ _ _ hi3 (hs4 G' hg), hl4, hk4⟩, hb4⟩⟩
        | exit id =>
          obtain ⟨G', hg, hi3, hk3⟩ := hp
          obtain ⟨hr, hl4, hk4, hb4, hs4⟩ := fin (some (.exit id)) W3 hk3
          exact ⟨_, _, hr, .inr ⟨rfl, G', grew _ hg, ⟨.exit id, hIx _ _ _ _ _ hi3 (hs4 G' hg), hl4, hk4⟩, hb4⟩⟩
        | goto t =>
          obtain ⟨G', hg, hi3, hk3⟩ := hp
          obtain ⟨hr, hl4, hk4, hb4, hs4⟩ := fin (some (.goto t)) W3 hk3
          exact ⟨_, _, hr, .inr ⟨rfl, G', grew _ hg, ⟨.goto t, hIx _ _ _ _ _ hi3 (hs4 G' hg), hl4, hk4⟩, hb4⟩⟩
        | panic ch => exact hp.elim
        | outgrown => exact hp.elim
      | ret => exact hpa.elim
      | exit id => exact hpa.elim
      | goto t => exact hpa.elim
      | panic ch => exact hpa.elim
      | outgrown => exact hpa.elim
    · -- BEHIND THE ITERATOR
      rintro e W2 ⟨⟨v, rfl⟩, G, hGb, hsz, (⟨hi, hl, hk⟩ | ⟨k, hk', c, hi, hl, hk⟩)⟩
      · have hnG : ∀ b, b ≤ w.heap.size + 1 → ¬ G b := fun b hb h => by have := (hGb b h).1; omega
        have hput : ∀ o, Bel (fun b => w.heap.size ≤ b ∧ ¬ G b) W2.heap.size W2 (W2.putObj (w.heap.size + 1) o) := fun o => (Bel.refl _ _ _).putObj (Or.inl ⟨by omega, hnG _ (by omega)⟩) _
        refine ⟨none, _, by have := run_endLoop (P := P) hl (by rw [hrec]; simp); rw [hrec] at this; exact this, ?_⟩
        exact hdone _ G _ (Nat.le_refl _) (hnG _ (by omega)) (fun b hb => ⟨by have := (hGb b hb).1; omega, by rw [World.putObj_size]; exact (hGb b hb).2⟩) (hI _ _ _ _ hi (hput _)) ((World.putObj_heap_other (by omega)).trans hk)
      · have hnG : ∀ b, b ≤ w.heap.size + 1 → ¬ G b := fun b hb h => by have := (hGb b h).1; omega
        have hput : ∀ o, Bel (fun b => w.heap.size ≤ b ∧ ¬ G b) W2.heap.size W2 (W2.putObj (w.heap.size + 1) o) := fun o => (Bel.refl _ _ _).putObj (Or.inl ⟨by omega, hnG _ (by omega)⟩) _
        refine ⟨some c, _, by have := run_endLoop (P := P) hl (by rw [hrec]; simp); rw [hrec] at this; exact this, ?_⟩
        exact hstop _ c G k _ (Nat.le_refl _) (hnG _ (by omega)) (fun b hb => ⟨by have := (hGb b hb).1; omega, by rw [World.putObj_size]; exact (hGb b hb).2⟩) hk' (hIx _ _ _ _ _ hi (hput _)) ((World.putObj_heap_other (by omega)).trans hk)

/-- THE SAME, the assignment and the body walked as one. -/
theorem wp_range1 {α : Type} {P : Program} {g : Operand} {ps : Array Tmp} {assign body : Code} {Q : Exit → Act → World → Prop} {a : Act} {w : World} {gf : Nat} {lb : Array Value}
    (hg : a.eval g = .func (.func gf) #[] lb) (eg : ∀ args w, (callFunc gf args).run P w = .ok (.enter gf args) w)
    {enc : α → Array Value} {xs : List α} {Cap : Nat → Prop} {w0 : World} (hG : Gives P gf lb enc xs Cap w0) (h0s : w0.heap.size ≤ w.heap.size)
    (hCap : ∀ k, Cap k → k < w0.heap.size ∧ w.heap[k]? = w0.heap[k]?) (hps : ∀ x, (enc x).size = ps.size)
    (Own : Nat → Prop) (hOwn : ∀ b, Own b → ¬ Cap b ∧ b < w.heap.size)
    (I : (Nat → Prop) → Nat → World → Prop) (Ix : Code → (Nat → Prop) → Nat → World → Prop)
    (hI : ∀ G k A A', I G k A → Bel (fun b => w.heap.size ≤ b ∧ ¬ G b) A.heap.size A A' → I G k A')
    (hIx : ∀ c G k A A', Ix c G k A → Bel (fun b => w.heap.size ≤ b ∧ ¬ G b) A.heap.size A A' → Ix c G k A')
    (h0 : I (fun _ => False) 0 w)
    (hround : ∀ l G k x W, w.heap.size ≤ l → (∀ b, G b → w.heap.size ≤ b ∧ b < W.heap.size) → w.heap.size ≤ W.heap.size → I G k W → xs[k]? = some x →
      assign.wpIn (Fence.wide.inRound l) 0 P (Exit.then (fun a1 W1 => Bel (fun _ => False) W.heap.size W W1 ∧ ∀ W2, Same W1 W2 → I G k W2 → body.wpIn (Fence.wide.inRound l) 0 P (rangeEnd Own G k I Ix W.heap.size W2) a1 W2) (fun _ _ _ => False))
        { tmps := (ps.zip (enc x)).foldl (fun t (p, v) => t.setIfInBounds p v) a.tmps, defers := [] } W)
    (hdone : ∀ D G W, w.heap.size ≤ D → ¬ G D → (∀ b, G b → w.heap.size ≤ b ∧ b < W.heap.size) → I G xs.length W → W.heap[D]? = some (.deferred (some [])) → Q .normal { a with defers := { target := .collected D, args := #[] } :: a.defers } W)
    (hstop : ∀ D c G k W, w.heap.size ≤ D → ¬ G D → (∀ b, G b → w.heap.size ≤ b ∧ b < W.heap.size) → k ≤ xs.length → Ix c G k W → W.heap[D]? = some (.deferred (some [])) → c.wpIn Fence.wide 0 P Q { a with defers := { target := .collected D, args := #[] } :: a.defers } W) :
    (Code.rangeFunc g ps assign body).wpIn Fence.wide 0 P Q a w := by
  refine wp_range hg eg hG h0s hCap hps Own hOwn I Ix hI hIx h0 (fun l G k x W h1 h2 h3 h4 h5 => ⟨_, fun a1 W1 h => h.1, hround l G k x W h1 h2 h3 h4 h5, fun a1 W1 W2 h hs hi => h.2 W2 hs hi⟩) hdone hstop

end Go.Proofs.YtnbndciididpoaaGreat
