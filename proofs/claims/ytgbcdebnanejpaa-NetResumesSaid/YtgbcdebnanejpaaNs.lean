/- A simulation sends. -/
import Derived.Test.YtgbcdebnanejpaaN2
import Derived.BigRegionIn
import Derived.BigFrameIn
namespace Go.Proofs.Ytgbcdebnanejpaa
set_option linter.unusedVariables false
open Go.RowKit Go.Shelf
attribute [local go_sem] Oper.semAt_some

/-- The world inside a region of m reads and one store at the end. -/
structure StoreR (W0 : World) (m : Nat) (p : Addr) (x : Value) (Kv : Nat → Value) (L : Array Bool) (val : Nat → Value) (W : World) : Prop where
  known : ∀ j, j < m → L.getD j false = true → val j = Kv j
  all : L.getD m false = true → ∀ j, j < m → L.getD j false = true
  pre : L.getD m false = false → W.heap = W0.heap
  post : L.getD m false = true → W.heap = (W0.setCell p x).heap
  os : W.os = W0.os
  tape : W.tape = W0.tape
  output : W.output = W0.output
theorem StoreR.init {W0 : World} {m : Nat} {p : Addr} {x : Value} {Kv : Nat → Value} (N : Nat) : StoreR W0 m p x Kv (Array.replicate N false) (fun _ => undef) { W0 with drawn := W0.drawn + 1 } := by
  have e : ∀ j : Nat, (Array.replicate N false).getD j false = false := fun j => by simp [Array.getD_eq_getD_getElem?, Array.getElem?_replicate]; split <;> rfl
  exact ⟨fun j _ h => (by rw [e j] at h; cases h), fun h => (by rw [e m] at h; cases h), fun _ => rfl, fun h => (by rw [e m] at h; cases h), rfl, rfl, rfl⟩
theorem StoreR.not {W0 W : World} {m : Nat} {p : Addr} {x : Value} {Kv val : Nat → Value} {L : Array Bool} (h : StoreR W0 m p x Kv L val W) {i : Nat} (hi : i < m) (hl : L.getD i false = false) : L.getD m false = false := by
  cases e : L.getD m false with
  | false => rfl
  | true => have := h.all e i hi; rw [hl] at this; cases this
theorem StoreR.skip {W0 W : World} {m : Nat} {p : Addr} {x : Value} {Kv val : Nat → Value} {L : Array Bool} (h : StoreR W0 m p x Kv L val W) (i : Nat) (hi : i < m) (hl : L.getD i false = false) (u : Value) (hu : u = Kv i) (W' : World) (hW : W'.heap = W.heap) (h1 : W'.os = W.os) (h2 : W'.tape = W.tape) (h3 : W'.output = W.output) :
    StoreR W0 m p x Kv (L.setIfInBounds i true) (setV val i u) W' := by
  have e : (L.setIfInBounds i true).getD m false = L.getD m false := getD_set_ne3 (by omega)
  have hm := h.not hi hl
  refine ⟨fun j hj hjl => ?_, fun g => (by rw [e, hm] at g; cases g), fun _ => hW.trans (h.pre hm), fun g => (by rw [e, hm] at g; cases g), h1.trans h.os, h2.trans h.tape, h3.trans h.output⟩
  by_cases q : j = i
  · subst q; rw [setV_eq, hu]
  · rw [setV_ne q]; exact h.known j hj (by rwa [getD_set_ne3 (fun g => q g.symm)] at hjl)
theorem StoreR.store {W0 W : World} {m : Nat} {p : Addr} {x : Value} {Kv val : Nat → Value} {L : Array Bool} (h : StoreR W0 m p x Kv L val W) (hs : m < L.size) (hl : L.getD m false = false) (hall : ∀ j, j < m → L.getD j false = true) (u : Value) :
    StoreR W0 m p x Kv (L.setIfInBounds m true) (setV val m u) (W.setCell p x) := by
  have hp := h.pre hl
  refine ⟨fun j hj hjl => ?_, fun _ j hj => (by rw [getD_set_ne3 (by omega)]; exact hall j hj), fun g => (by rw [getD_set_eq3 hs] at g; cases g), fun _ => ?_, h.os, h.tape, h.output⟩
  · rw [setV_ne (by omega)]; exact h.known j hj (hall j hj)
  · unfold World.setCell; simp only [hp]
theorem StoreR.cell {W0 W : World} {m : Nat} {p : Addr} {x : Value} {Kv val : Nat → Value} {L : Array Bool} (h : StoreR W0 m p x Kv L val W) (hl : L.getD m false = false) (a : Addr) : W.cell? a = W0.cell? a ∧ W.frozen? a = W0.frozen? a := by
  unfold World.cell? World.frozen?; rw [h.pre hl]; exact ⟨rfl, rfl⟩

theorem wrap_eq (x : Int) : IntKind.i64.wrap x = wrap64 x := by rw [IntKind.wrap_i64]; unfold wrap64; omega
/-- What the loop of send finds. -/
structure SendI (n : NetM) (B : Nat) (z : SimZ) (t : Nat) (st : List (Int × Int)) (due : Due) (src : Int) (w : World) (k : Nat) (A : World) : Prop where
  sim : SimAt n A B z t (t + 1) st (((ofSrc n.ss src).take k).foldl (addS t) due)
  box : A.heap[w.heap.size]? = some (.cells #[.pointer (some ⟨z.bs, 0, none⟩)] 53)
  bel : Bel z.mut w.heap.size w A
theorem SendI.stab {n : NetM} {B : Nat} {z : SimZ} {t : Nat} {st : List (Int × Int)} {due : Due} {src : Int} {w : World} {k N : Nat} {A A' : World} {G : Nat → Prop} (h : SendI n B z t st due src w k A) (hin : SimIn z w.heap.size) (hN : w.heap.size < N) (hb : Bel (fun b => N ≤ b ∧ ¬ G b) A.heap.size A A') : SendI n B z t st due src w k A' := by
  have hs := h.bel.size
  have hl := lt_of_block h.box
  have e : ∀ b, b < w.heap.size → A'.heap[b]? = A.heap[b]? := fun b hb' => hb.block b (by omega) (by omega)
  refine ⟨h.sim.keepN hin e, (hb.block _ hl (by omega)).trans h.box, ⟨hb.os.trans h.bel.os, hb.tape.trans h.bel.tape, hb.output.trans h.bel.output, Nat.le_trans hs hb.size, fun b g1 g2 => (e b g1).trans (h.bel.block b g1 g2)⟩⟩
def sendK (bs rb i xb t nn : Nat) (s : Syn) (old : Int) : Nat → Value
  | 0 => .pointer (some ⟨bs, 0, none⟩)
  | 1 => .pointer (some ⟨bs, 0, none⟩)
  | 2 => .pointer (some ⟨bs, 6, none⟩)
  | 3 => .pointer (some ⟨bs, 0, none⟩)
  | 4 => .pointer (some ⟨bs, 0, none⟩)
  | 5 => .pointer (some ⟨bs, 4, none⟩)
  | 6 => .int .i64 (t : Int)
  | 7 => .pointer (some ⟨xb, 3, none⟩)
  | 8 => .int .i64 s.dl
  | 9 => .int .i64 ((t : Int) + s.dl)
  | 10 => .slice (some ⟨rb, 0, none⟩) nn nn
  | 11 => .pointer (some ⟨xb, 1, none⟩)
  | 12 => .int .i64 s.to
  | 13 => .pointer (some ⟨rb, i, none⟩)
  | 14 => .int .i64 old
  | 15 => .pointer (some ⟨xb, 2, none⟩)
  | 16 => .int .i64 s.wt
  | 17 => .int .i64 (IntKind.i64.wrap (old + s.wt))
  | 18 => .pointer (some ⟨rb, i, none⟩)
  | _ => undef

set_option maxRecDepth 100000 in
set_option maxHeartbeats 4000000 in
theorem send_in (n : NetM) (hok : NetOk n) (B : Nat) (z : SimZ) (t : Nat) (st : List (Int × Int)) (due : Due) (ht : (t : Int) ≤ 4294967000) (src : Int) (hsrc : -256 ≤ src ∧ src ≤ 1023) (w : World) (h : SimAt n w B z t (t + 1) st due) :
    CallsIn Fence.wide 0 Try.prog 95 #[.pointer (some ⟨z.bs, 0, none⟩), .int .i64 src] w fun e w' => (∃ v, e = .returned v) ∧ SimAt n w' B z t (t + 1) st (sendM n.ss t due src) ∧ Bel z.mut w.heap.size w w' := by
  have hin := h.isIn
  have hm : (ofSrc n.ss src).length ≤ 8192 := ofSrc_le _ _ hok.s1
  have hwf := wf64 (x := src) (by omega) (by omega)
  obtain ⟨d0, d1, d2, d3, d4, d5⟩ := h.head
  have hbsl := hin.bs
  refine callsIn_of_wp_marks Try.func95 rfl trivial ?_ rfl
  simp only [Try.ntmps95, List.size_toArray, List.length_cons, List.length_nil, Nat.reduceAdd, Nat.reduceSub, Array.replicate_succ, Array.replicate_zero, List.push_toArray, List.append_toArray, List.nil_append, List.cons_append]
  have H := Lib.hid h
  have HIN := Lib.hid hin
  have HOK := Lib.hid hok
  have HWF := Lib.hid hwf
  clear h hin hok hwf
  gi_wp2_with (refine ⟨trivial, rfl, ?_⟩; gi_at_call 77; refine (callsIn_wide.2 (from_any z.mb src _)).mono ?_; rintro e w1 ⟨rfl, rfl⟩)
  have b0 : (((w.alloc (.cells #[.pointer (some ⟨z.bs, 0, none⟩)] 53)).alloc (.cells #[.map (some z.mb)] 100)).alloc (.cells #[.int .i64 src] 3)).heap[w.heap.size]? = some (.cells #[.pointer (some ⟨z.bs, 0, none⟩)] 53) := by
    rw [Below.heap_alloc _ _ _ (by simp <;> omega), Below.heap_alloc _ _ _ (by simp)]; exact alloc_new_at _ _ _ rfl
  have b1 : (((w.alloc (.cells #[.pointer (some ⟨z.bs, 0, none⟩)] 53)).alloc (.cells #[.map (some z.mb)] 100)).alloc (.cells #[.int .i64 src] 3)).heap[w.heap.size + 1]? = some (.cells #[.map (some z.mb)] 100) := by
    rw [Below.heap_alloc _ _ _ (by simp <;> omega)]; exact alloc_new_at _ _ _ (by simp)
  have b2 : (((w.alloc (.cells #[.pointer (some ⟨z.bs, 0, none⟩)] 53)).alloc (.cells #[.map (some z.mb)] 100)).alloc (.cells #[.int .i64 src] 3)).heap[w.heap.size + 2]? = some (.cells #[.int .i64 src] 3) := alloc_new_at _ _ _ (by simp)
  have b3 : ∀ b, b < w.heap.size → (((w.alloc (.cells #[.pointer (some ⟨z.bs, 0, none⟩)] 53)).alloc (.cells #[.map (some z.mb)] 100)).alloc (.cells #[.int .i64 src] 3)).heap[b]? = w.heap[b]? := fun b hb => by
    rw [Below.heap_alloc _ _ _ (by simp <;> omega), Below.heap_alloc _ _ _ (by simp <;> omega), Below.heap_alloc _ _ _ hb]
  have b4 : (((w.alloc (.cells #[.pointer (some ⟨z.bs, 0, none⟩)] 53)).alloc (.cells #[.map (some z.mb)] 100)).alloc (.cells #[.int .i64 src] 3)).heap.size = w.heap.size + 3 := by simp
  have b5 : Bel z.mut w.heap.size w (((w.alloc (.cells #[.pointer (some ⟨z.bs, 0, none⟩)] 53)).alloc (.cells #[.map (some z.mb)] 100)).alloc (.cells #[.int .i64 src] 3)) := (((Bel.refl _ _ _).alloc (Nat.le_refl _) _).alloc (by simp) _).alloc (by simp <;> omega) _
  generalize ((w.alloc (.cells #[.pointer (some ⟨z.bs, 0, none⟩)] 53)).alloc (.cells #[.map (some z.mb)] 100)).alloc (.cells #[.int .i64 src] 3) = W1 at *
  have hS1 : SimAt n W1 B z t (t + 1) st due := H.out.keepN HIN.out b3
  have hG := from1_gives (w.heap.size + 1) (w.heap.size + 2) z.mb z.base z.mn n.ss z.sl src HWF.out hm W1 b1 b2 hS1.wires
  have hI0 : SendI n B z t st due src w 0 W1 := ⟨hS1, b0, b5⟩
  have HI0 := Lib.hid hI0
  have HS1 := Lib.hid hS1
  have B3 := Lib.hid b3
  have B5 := Lib.hid b5
  clear d0 d1 d2 d3 d4 d5 hI0 hS1 b0 b1 b2 b3 b5
  refine wp_range1 (gf := 108) rfl entersFrom hG (Nat.le_refl _) (fun b hb => ⟨?hc, rfl⟩) (fun _ => rfl) z.mut (fun b hb => ⟨fun hc => ?ho, by have := HIN.out.mut hb; omega⟩)
    (fun _ k A => SendI n B z t st due src w k A) (fun _ _ _ _ => False) (fun G k A A' hi hb => hi.stab HIN.out (by omega) hb) (fun _ _ _ _ _ hi _ => hi) HI0.out ?hround ?hdone ?hstop
  case hc =>
    rcases hb with rfl | rfl | rfl | hb
    · omega
    · omega
    · have := HIN.out.mb; omega
    · have := HIN.out.sl _ _ hb; omega
  case ho =>
    have hbl := HIN.out.mut hb
    rcases hc with rfl | rfl | rfl | hc
    · omega
    · omega
    · exact HS1.out.mbM hb
    · exact HS1.out.wiM _ _ hc hb
  case hstop =>
    intro D c G k W' _ _ _ _ hi _
    exact hi.elim
  case hdone =>
    rintro D G W' hD hnG hGb hI hK
    have HI := Lib.hid hI
    have HK := Lib.hid hK
    clear hI
    have e2 : ∀ b, b ≠ D → (W'.putObj D (.deferred none)).heap[b]? = W'.heap[b]? := fun b hb => World.putObj_heap_other hb
    refine ⟨by simp, .inl ⟨_, _, rfl, run_takeDeferred hK, .tuple #[], ?_, ?_⟩⟩
    · simp [results, Try.results95, go_sem]
    · refine ⟨⟨_, rfl⟩, ?_, ?_⟩
      · have hs := HI.out.sim
        rw [List.take_length] at hs
        exact hs.keepN HIN.out fun b hb => e2 b (by omega)
      · have hb := HI.out.bel
        exact ⟨hb.os, hb.tape, hb.output, by simpa using hb.size, fun b g1 g2 => (e2 b (by omega)).trans (hb.block b g1 g2)⟩
  case hround =>
    rintro l2 G k s A hl2 hGb hszA hIk hx
    have hss := HOK.out.ss s (List.mem_filter.1 (List.mem_of_getElem? hx)).1
    simp only [synOk, Bool.and_eq_true, inR_true] at hss
    obtain ⟨⟨⟨_, to0, to1⟩, wt0, wt1⟩, dl0, dl1⟩ := hss
    have HX := Lib.hid hx
    clear hx
    unfold encS
    gi_wp2
    refine ⟨(Bel.refl _ _ _).alloc (Nat.le_refl _) _, ?_⟩
    rintro W2 hsW hI2
    have bA : W2.heap[A.heap.size]? = some (.cells #[.int .i64 s.fr, .int .i64 s.to, .int .i64 s.wt, .int .i64 s.dl] 96) := (hsW.cells _ ⟨_, _, _, World.alloc_heap_new _ _⟩).trans (World.alloc_heap_new _ _)
    obtain ⟨a, ha⟩ : ∃ a : Nat, (a : Int) = (t : Int) + s.dl := ⟨((t : Int) + s.dl).toNat, by omega⟩
    obtain ⟨i, hi⟩ : ∃ i : Nat, (i : Int) = s.to := ⟨s.to.toNat, by omega⟩
    have hilt : i < n.ps.length := by omega
    obtain ⟨old, hold⟩ : ∃ old, old = ((ofSrc n.ss src).take k).foldl (addS t) due a i := ⟨_, rfl⟩
    obtain ⟨r0, r0f⟩ := (hI2.sim.row a (by omega) (by omega)).cell hilt
    rw [← hold] at r0
    have rs := hI2.sim.rowSlice a
    obtain ⟨_, _, _, _, h4, _⟩ := hI2.sim.head
    obtain ⟨x0, x1, x2, x3⟩ := cells4 bA
    obtain ⟨s0, _⟩ := cells1 hI2.box
    have hne : z.rb (a % 16) < A.heap.size := by have := HIN.out.rb (a % 16) (Nat.mod_lt _ (by omega)); have := hI2.bel.size; omega
    have hitn : s.to.toNat = i := by omega
    have hin0 : (0 : Int) ≤ s.to := by omega
    have hin1 : s.to < (n.ps.length : Int) := by omega
    have HI2 := Lib.hid hI2
    have HSW := Lib.hid hsW
    have HGB := Lib.hid hGb
    have HA := Lib.hid ha
    have HII := Lib.hid hi
    have HOLD := Lib.hid hold
    have HBA := Lib.hid bA
    have HHI := Lib.hid hIk
    clear hI2 hsW hGb ha hi hold bA hIk
    gi_wp2
    refine wpIn_region_ghost (StoreR W2 19 ⟨z.rb (a % 16), i, none⟩ (.int .i64 (IntKind.i64.wrap (old + s.wt))) (sendK z.bs (z.rb (a % 16)) i A.heap.size t n.ps.length s old)) (by kernel_rfl) (by kernel_rfl) (by kernel_rfl) (by kernel_rfl) (StoreR.init _) ?stp ?dn
    case dn =>
      intro val W b' hI hh hbs
      have hW : W.heap = _ := hI.post (by simp)
      have HH := Lib.hid hW
      have h1 := hI.os
      have h2 := hI.tape
      have h3 := hI.output
      clear hI hh hbs hW
      gi_wp2
      have hI2 := HI2.out
      have hsn : (ofSrc n.ss src).take (k + 1) = (ofSrc n.ss src).take k ++ [s] := by rw [List.take_add_one, HX.out]; rfl
      have hadd : ((ofSrc n.ss src).take (k + 1)).foldl (addS t) due = fun a' i' => if a' = a ∧ i' = i then IntKind.i64.wrap (old + s.wt) else ((ofSrc n.ss src).take k).foldl (addS t) due a' i' := by
        rw [hsn, List.foldl_append]
        funext a' i'
        simp only [List.foldl_cons, List.foldl_nil, addS]
        have ea := HA.out
        have ei := HII.out
        by_cases q : a' = a ∧ i' = i
        · rw [if_pos q, if_pos ⟨by rw [q.1]; exact ea, by rw [q.2]; exact ei⟩, wrap_eq, HOLD.out, q.1, q.2]
        · rw [if_neg q, if_neg (fun g => q ⟨by omega, by omega⟩)]
      have hsim := hI2.sim.setDue a i (by have := HA.out; omega) (by have := HA.out; omega) hilt (IntKind.i64.wrap (old + s.wt))
      have hs2 : SimAt n W B z t (t + 1) st (((ofSrc n.ss src).take (k + 1)).foldl (addS t) due) := by
        rw [hadd]; exact hsim.keepN hsim.isIn fun b _ => by rw [HH.out]
      have hmutb : z.mut (z.rb (a % 16)) := Or.inr (Or.inr ⟨_, Nat.mod_lt _ (by omega), rfl⟩)
      have hkeep : ∀ b, b ≠ z.rb (a % 16) → W.heap[b]? = W2.heap[b]? := fun b hb => by rw [HH.out]; exact Below.heap_setCell _ _ _ _ (by exact hb)
      have hsz : W.heap.size = W2.heap.size := by rw [HH.out]; simp [World.setCell]
      have hAs := HSW.out.size
      rw [World.size_alloc] at hAs
      have hbel := hI2.bel
      refine ⟨G, ⟨fun _ h => h, fun _ h => Or.inl h, fun b hb => by have := (HGB.out b hb).2; omega⟩, ⟨hs2, ?_, ?_⟩, ?_⟩
      · rw [hkeep _ (fun e => by have := HIN.out.rb (a % 16) (Nat.mod_lt _ (by omega)); omega)]; exact hI2.box
      · exact ⟨h1.trans hbel.os, h2.trans hbel.tape, h3.trans hbel.output, by rw [hsz]; exact hbel.size, fun b g1 g2 => (hkeep b (fun e => g2 (e ▸ hmutb))).trans (hbel.block b g1 g2)⟩
      · exact ⟨h1, h2, h3, by omega, fun b g1 g2 => hkeep b (fun e => g2 (Or.inl (e ▸ hmutb)))⟩
    case stp =>
      intro L val W i' o b' hs ho hlF hd hI hh
      have hi' := (List.getElem?_eq_some_iff.1 ho).1
      have hcs : i' = 0 ∨ i' = 1 ∨ i' = 2 ∨ i' = 3 ∨ i' = 4 ∨ i' = 5 ∨ i' = 6 ∨ i' = 7 ∨ i' = 8 ∨ i' = 9 ∨ i' = 10 ∨ i' = 11 ∨ i' = 12 ∨ i' = 13 ∨ i' = 14 ∨ i' = 15 ∨ i' = 16 ∨ i' = 17 ∨ i' = 18 ∨ i' = 19 := by simp at hi'; omega
      have hLs : 19 < L.size := by simp at hs; omega
      have hl19 : L.getD 19 false = false := by
        rcases Nat.lt_or_ge i' 19 with q | q
        · exact hI.not q hlF
        · have : i' = 19 := by omega
          subst this; exact hlF
      have hcw := fun p => hI.cell hl19 p
      rw [← (hcw _).1] at r0 rs h4 x0 x1 x2 x3 s0
      rw [← (hcw _).2] at r0f
      have hrow := row_any z.bs 6 a _ (by have := HA.out; omega) W rs
      have HROW := Lib.hid hrow
      have HI := Lib.hid hI
      have HLF := Lib.hid hlF
      have HD := Lib.hid hd
      have HRS := Lib.hid rs
      clear hi' hs hI hlF hd hcw hrow hl19 rs
      rcases hcs with rfl | rfl | rfl | rfl | rfl | rfl | rfl | rfl | rfl | rfl | rfl | rfl | rfl | rfl | rfl | rfl | rfl | rfl | rfl | rfl
      · simp only [List.getElem?_cons_zero, Option.some.injEq] at ho
        subst ho
        have k2 := hh.kept 2 (by simp)
        simp at k2
        go_simp
        exact ⟨_, rfl, HI.out.skip 0 (by omega) HLF.out _ rfl _ rfl rfl rfl rfl⟩
      · simp only [List.getElem?_cons_zero, List.getElem?_cons_succ, Option.some.injEq] at ho
        subst ho
        have l0 : L.getD 0 false = true := HD.out ⟨0, .data⟩ (by simp) rfl
        have g0 := hh.got 0 _ 12 rfl rfl l0 (by simp)
        rw [HI.out.known 0 (by omega) l0] at g0
        simp [sendK] at g0
        clear l0
        go_simp
        exact ⟨_, rfl, HI.out.skip 1 (by omega) HLF.out _ rfl _ rfl rfl rfl rfl⟩
      · simp only [List.getElem?_cons_zero, List.getElem?_cons_succ, Option.some.injEq] at ho
        subst ho
        have l1 : L.getD 1 false = true := HD.out ⟨1, .data⟩ (by simp) rfl
        have g1 := hh.got 1 _ 13 rfl rfl l1 (by simp)
        rw [HI.out.known 1 (by omega) l1] at g1
        simp [sendK] at g1
        clear l1
        go_simp
        exact ⟨_, rfl, HI.out.skip 2 (by omega) HLF.out _ rfl _ rfl rfl rfl rfl⟩
      · simp only [List.getElem?_cons_zero, List.getElem?_cons_succ, Option.some.injEq] at ho
        subst ho
        have k2 := hh.kept 2 (by simp)
        simp at k2
        go_simp
        exact ⟨_, rfl, HI.out.skip 3 (by omega) HLF.out _ rfl _ rfl rfl rfl rfl⟩
      · simp only [List.getElem?_cons_zero, List.getElem?_cons_succ, Option.some.injEq] at ho
        subst ho
        have l3 : L.getD 3 false = true := HD.out ⟨3, .data⟩ (by simp) rfl
        have g3 := hh.got 3 _ 15 rfl rfl l3 (by simp)
        rw [HI.out.known 3 (by omega) l3] at g3
        simp [sendK] at g3
        clear l3
        go_simp
        exact ⟨_, rfl, HI.out.skip 4 (by omega) HLF.out _ rfl _ rfl rfl rfl rfl⟩
      · simp only [List.getElem?_cons_zero, List.getElem?_cons_succ, Option.some.injEq] at ho
        subst ho
        have l4 : L.getD 4 false = true := HD.out ⟨4, .data⟩ (by simp) rfl
        have g4 := hh.got 4 _ 16 rfl rfl l4 (by simp)
        rw [HI.out.known 4 (by omega) l4] at g4
        simp [sendK] at g4
        clear l4
        go_simp
        exact ⟨_, rfl, HI.out.skip 5 (by omega) HLF.out _ rfl _ rfl rfl rfl rfl⟩
      · simp only [List.getElem?_cons_zero, List.getElem?_cons_succ, Option.some.injEq] at ho
        subst ho
        have l5 : L.getD 5 false = true := HD.out ⟨5, .data⟩ (by simp) rfl
        have g5 := hh.got 5 _ 17 rfl rfl l5 (by simp)
        rw [HI.out.known 5 (by omega) l5] at g5
        simp [sendK] at g5
        clear l5
        go_simp
        exact ⟨_, rfl, HI.out.skip 6 (by omega) HLF.out _ rfl _ rfl rfl rfl rfl⟩
      · simp only [List.getElem?_cons_zero, List.getElem?_cons_succ, Option.some.injEq] at ho
        subst ho
        have k4 := hh.kept 4 (by simp)
        simp at k4
        go_simp
        exact ⟨_, rfl, HI.out.skip 7 (by omega) HLF.out _ rfl _ rfl rfl rfl rfl⟩
      · simp only [List.getElem?_cons_zero, List.getElem?_cons_succ, Option.some.injEq] at ho
        subst ho
        have l7 : L.getD 7 false = true := HD.out ⟨7, .data⟩ (by simp) rfl
        have g7 := hh.got 7 _ 19 rfl rfl l7 (by simp)
        rw [HI.out.known 7 (by omega) l7] at g7
        simp [sendK] at g7
        clear l7
        go_simp
        exact ⟨_, rfl, HI.out.skip 8 (by omega) HLF.out _ rfl _ rfl rfl rfl rfl⟩
      · simp only [List.getElem?_cons_zero, List.getElem?_cons_succ, Option.some.injEq] at ho
        subst ho
        have l6 : L.getD 6 false = true := HD.out ⟨6, .data⟩ (by simp) rfl
        have g6 := hh.got 6 _ 18 rfl rfl l6 (by simp)
        rw [HI.out.known 6 (by omega) l6] at g6
        simp [sendK] at g6
        have l8 : L.getD 8 false = true := HD.out ⟨8, .data⟩ (by simp) rfl
        have g8 := hh.got 8 _ 20 rfl rfl l8 (by simp)
        rw [HI.out.known 8 (by omega) l8] at g8
        simp [sendK] at g8
        clear l6 l8
        have ew := IntWalk.i64_in ((t : Int) + s.dl) (by omega)
        go_simp
        exact ⟨_, rfl, HI.out.skip 9 (by omega) HLF.out _ rfl _ rfl rfl rfl rfl⟩
      · simp only [List.getElem?_cons_zero, List.getElem?_cons_succ, Option.some.injEq] at ho
        subst ho
        have l2 : L.getD 2 false = true := HD.out ⟨2, .data⟩ (by simp) rfl
        have g2 := hh.got 2 _ 14 rfl rfl l2 (by simp)
        rw [HI.out.known 2 (by omega) l2] at g2
        simp [sendK] at g2
        have l9 : L.getD 9 false = true := HD.out ⟨9, .data⟩ (by simp) rfl
        have g9 := hh.got 9 _ 21 rfl rfl l9 (by simp)
        rw [HI.out.known 9 (by omega) l9] at g9
        simp [sendK] at g9
        clear l2 l9
        go_simp
        refine ⟨trivial, rfl, ?_⟩
        rw [← HA.out]
        refine (CallsIn.inRound l2 (callsIn_wide.2 HROW.out)).mono ?_
        rintro e w' ⟨rfl, rfl⟩
        exact ⟨_, rfl, HI.out.skip 10 (by omega) HLF.out _ rfl _ rfl rfl rfl rfl⟩
      · simp only [List.getElem?_cons_zero, List.getElem?_cons_succ, Option.some.injEq] at ho
        subst ho
        have k4 := hh.kept 4 (by simp)
        simp at k4
        go_simp
        exact ⟨_, rfl, HI.out.skip 11 (by omega) HLF.out _ rfl _ rfl rfl rfl rfl⟩
      · simp only [List.getElem?_cons_zero, List.getElem?_cons_succ, Option.some.injEq] at ho
        subst ho
        have l11 : L.getD 11 false = true := HD.out ⟨11, .data⟩ (by simp) rfl
        have g11 := hh.got 11 _ 23 rfl rfl l11 (by simp)
        rw [HI.out.known 11 (by omega) l11] at g11
        simp [sendK] at g11
        clear l11
        go_simp
        exact ⟨_, rfl, HI.out.skip 12 (by omega) HLF.out _ rfl _ rfl rfl rfl rfl⟩
      · simp only [List.getElem?_cons_zero, List.getElem?_cons_succ, Option.some.injEq] at ho
        subst ho
        have l10 : L.getD 10 false = true := HD.out ⟨10, .data⟩ (by simp) rfl
        have g10 := hh.got 10 _ 22 rfl rfl l10 (by simp)
        rw [HI.out.known 10 (by omega) l10] at g10
        simp [sendK] at g10
        have l12 : L.getD 12 false = true := HD.out ⟨12, .data⟩ (by simp) rfl
        have g12 := hh.got 12 _ 24 rfl rfl l12 (by simp)
        rw [HI.out.known 12 (by omega) l12] at g12
        simp [sendK] at g12
        clear l10 l12
        go_simp
        exact ⟨_, rfl, HI.out.skip 13 (by omega) HLF.out _ rfl _ rfl rfl rfl rfl⟩
      · simp only [List.getElem?_cons_zero, List.getElem?_cons_succ, Option.some.injEq] at ho
        subst ho
        have l13 : L.getD 13 false = true := HD.out ⟨13, .data⟩ (by simp) rfl
        have g13 := hh.got 13 _ 25 rfl rfl l13 (by simp)
        rw [HI.out.known 13 (by omega) l13] at g13
        simp [sendK] at g13
        clear l13
        go_simp
        exact ⟨_, rfl, HI.out.skip 14 (by omega) HLF.out _ rfl _ rfl rfl rfl rfl⟩
      · simp only [List.getElem?_cons_zero, List.getElem?_cons_succ, Option.some.injEq] at ho
        subst ho
        have k4 := hh.kept 4 (by simp)
        simp at k4
        go_simp
        exact ⟨_, rfl, HI.out.skip 15 (by omega) HLF.out _ rfl _ rfl rfl rfl rfl⟩
      · simp only [List.getElem?_cons_zero, List.getElem?_cons_succ, Option.some.injEq] at ho
        subst ho
        have l15 : L.getD 15 false = true := HD.out ⟨15, .data⟩ (by simp) rfl
        have g15 := hh.got 15 _ 27 rfl rfl l15 (by simp)
        rw [HI.out.known 15 (by omega) l15] at g15
        simp [sendK] at g15
        clear l15
        go_simp
        exact ⟨_, rfl, HI.out.skip 16 (by omega) HLF.out _ rfl _ rfl rfl rfl rfl⟩
      · simp only [List.getElem?_cons_zero, List.getElem?_cons_succ, Option.some.injEq] at ho
        subst ho
        have l14 : L.getD 14 false = true := HD.out ⟨14, .data⟩ (by simp) rfl
        have g14 := hh.got 14 _ 26 rfl rfl l14 (by simp)
        rw [HI.out.known 14 (by omega) l14] at g14
        simp [sendK] at g14
        have l16 : L.getD 16 false = true := HD.out ⟨16, .data⟩ (by simp) rfl
        have g16 := hh.got 16 _ 28 rfl rfl l16 (by simp)
        rw [HI.out.known 16 (by omega) l16] at g16
        simp [sendK] at g16
        clear l14 l16
        go_simp
        exact ⟨_, rfl, HI.out.skip 17 (by omega) HLF.out _ rfl _ rfl rfl rfl rfl⟩
      · simp only [List.getElem?_cons_zero, List.getElem?_cons_succ, Option.some.injEq] at ho
        subst ho
        have l10 : L.getD 10 false = true := HD.out ⟨10, .data⟩ (by simp) rfl
        have g10 := hh.got 10 _ 22 rfl rfl l10 (by simp)
        rw [HI.out.known 10 (by omega) l10] at g10
        simp [sendK] at g10
        have l12 : L.getD 12 false = true := HD.out ⟨12, .data⟩ (by simp) rfl
        have g12 := hh.got 12 _ 24 rfl rfl l12 (by simp)
        rw [HI.out.known 12 (by omega) l12] at g12
        simp [sendK] at g12
        clear l10 l12
        go_simp
        exact ⟨_, rfl, HI.out.skip 18 (by omega) HLF.out _ rfl _ rfl rfl rfl rfl⟩
      · simp only [List.getElem?_cons_zero, List.getElem?_cons_succ, Option.some.injEq] at ho
        subst ho
        have l18 : L.getD 18 false = true := HD.out ⟨18, .data⟩ (by simp) rfl
        have g18 := hh.got 18 _ 30 rfl rfl l18 (by simp)
        rw [HI.out.known 18 (by omega) l18] at g18
        simp [sendK] at g18
        have l17 : L.getD 17 false = true := HD.out ⟨17, .data⟩ (by simp) rfl
        have g17 := hh.got 17 _ 29 rfl rfl l17 (by simp)
        rw [HI.out.known 17 (by omega) l17] at g17
        simp [sendK] at g17
        clear l18 l17
        have hall : ∀ j, j < 19 → L.getD j false = true := fun j hj => by
          rcases (show j = 0 ∨ j = 1 ∨ j = 2 ∨ j = 3 ∨ j = 4 ∨ j = 5 ∨ j = 6 ∨ j = 7 ∨ j = 8 ∨ j = 9 ∨ j = 10 ∨ j = 11 ∨ j = 12 ∨ j = 13 ∨ j = 14 ∨ j = 15 ∨ j = 16 ∨ j = 17 ∨ j = 18 by omega) with rfl | rfl | rfl | rfl | rfl | rfl | rfl | rfl | rfl | rfl | rfl | rfl | rfl | rfl | rfl | rfl | rfl | rfl | rfl <;> first | (refine HD.out ⟨_, .phase⟩ ?_ rfl; (simp; done)) | (refine HD.out ⟨_, .data⟩ ?_ rfl; (simp; done))
        have HALL := Lib.hid hall
        clear hall
        go_simp
        exact ⟨undef, HI.out.store hLs HLF.out HALL.out undef⟩
end Go.Proofs.Ytgbcdebnanejpaa
