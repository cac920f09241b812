/- The iterators of package neuron: silence, a constant input, the ticks. -/
import Derived.Test.YtkpabecnimakpaaC
import Derived.Test.YtkpabecnimakpaaR
import Derived.OwnWalkIn
import Derived.TacticsInMore
import Derived.LoopNIn
import Derived.LoopIn
namespace Go.Proofs.Ytkpabecnimakpaa
set_option linter.unusedVariables false
open Go.RowKit Go.Shelf
attribute [local go_sem] Oper.semAt_some

theorem RoundIn.inRound {F : Fence} {n : Nat} {P : Program} {l : Nat} {f : FuncId} {tmps : Array Value} {assign body : Code} {w : World} {R : Ending → World → Prop} (l' : Nat) (h : RoundIn F n P l f tmps assign body w R) : RoundIn (F.inRound l') n P l f tmps assign body w R := h

set_option maxRecDepth 100000 in
set_option maxHeartbeats 1000000 in
/-- again's closure hands its input out n times. -/
theorem again1_gives (bn bi n : Nat) (inp : Int) (w0 : World) (hn : n ≤ 9223372036854775806) (hbn : w0.cell? ⟨bn, 0, none⟩ = some (.int .i64 n)) (hbi : w0.cell? ⟨bi, 0, none⟩ = some (.int .i64 inp)) :
    Gives Try.prog 60 #[.pointer (some ⟨bn, 0, none⟩), .pointer (some ⟨bi, 0, none⟩)] (fun x : Int => #[.int .i64 x]) (List.replicate n inp) (fun b => b = bn ∨ b = bi) w0 := by
  intro l J Jx W hsz hsame hJ hJx h0 hY
  have hWn : W.cell? ⟨bn, 0, none⟩ = some (.int .i64 n) := (World.cell?_of_block (w := w0) (hsame bn (Or.inl rfl))).trans hbn
  have hWi : W.cell? ⟨bi, 0, none⟩ = some (.int .i64 inp) := (World.cell?_of_block (w := w0) (hsame bi (Or.inr rfl))).trans hbi
  have hlt1 : bn < W.heap.size := World.block_lt_of_cell? W _ hWn
  have hlt2 : bi < W.heap.size := World.block_lt_of_cell? W _ hWi
  refine callsIn_of_wp Try.func60 rfl trivial ?_ rfl
  simp only [Try.ntmps60, List.size_toArray, List.length_cons, List.length_nil, Nat.reduceAdd, Nat.reduceSub, Array.replicate_succ, Array.replicate_zero, List.push_toArray, List.append_toArray, List.nil_append, List.cons_append]
  clear hbn hbi hsame
  gi_wp2
  gi_loopw [5] (fun i wr => ∃ k : Nat, k ≤ n ∧ i = .int .i64 k ∧ ∃ G : Nat → Prop, (∀ b, G b → W.heap.size ≤ b ∧ b < wr.heap.size) ∧ W.heap.size ≤ wr.heap.size ∧ J G k wr ∧ wr.cell? ⟨bi, 0, none⟩ = some (.int .i64 inp))
    (fun i _ => n - (intOf i).toNat)
  case atStart => exact ⟨0, Nat.zero_le _, rfl, fun _ => False, fun _ h => h.elim, Nat.le_refl _, h0, hWi⟩
  case round =>
    obtain ⟨k, hk, rfl, G, hG, hsz1, hJs, hci⟩ := hrel
    by_cases hlt : k < n
    · obtain ⟨fn, tmps, assign, body, hy, hR⟩ := hY G k inp wr hG hsz1 hJs (by simp [hlt])
      gi_wp2
      refine ⟨rfl, hR.mono ?_⟩
      rintro e W3 (⟨rfl, G', hg, hJ3, hb3⟩ | ⟨rfl, G', hg, hJ3, hb3⟩)
      · gi_wp2
        go_roundw
        case rel => exact ⟨k + 1, by omega, by simp, G', fun b hb => ⟨by rcases hg.new b hb with h | h; exact (hG b h).1; omega, hg.lt b hb⟩, Nat.le_trans hsz1 hb3.size, hJ3, (hb3.cell (p := ⟨bi, 0, none⟩) (by simp; omega) (by simp)).trans hci⟩
        case measure => simp [intOf]; omega
      · gi_wp2
        refine bodyPost_ret (results_none rfl _ _ _) rfl ?_
        exact ⟨⟨_, rfl⟩, G', fun b hb => ⟨by rcases hg.new b hb with h | h; exact (hG b h).1; omega, hg.lt b hb⟩, Nat.le_trans hsz1 hb3.size, .inr ⟨k + 1, by simp; omega, hJ3⟩⟩
    · obtain rfl : k = n := by omega
      gi_wp2
      go_end0
      exact ⟨⟨_, rfl⟩, G, hG, hsz1, .inl (by simpa using hJs)⟩

/-- What the leak's function is called by: never a name of the runtime's. -/
theorem enters58 : ∀ args w, (callFunc 58 args).run Try.prog w = .ok (.enter 58 args) w := enters_of Try.func58 (by kernel_rfl) rfl
theorem enters60 : ∀ args w, (callFunc 60 args).run Try.prog w = .ok (.enter 60 args) w := enters_of Try.func60 (by kernel_rfl) rfl
theorem enters59 : ∀ args w, (callFunc 59 args).run Try.prog w = .ok (.enter 59 args) w := enters_of Try.func59 (by kernel_rfl) rfl

/-- The state behind the ticks with these inputs. -/
def after (p : Prm) (V R : Int) (l : List Int) : Int × Int := l.foldl (fun s i => (tV p s.1 s.2 i, tR p s.1 s.2 i)) (V, R)
/-- The states behind each of the ticks, and whether there was a spike in it. -/
def runL (p : Prm) (V R : Int) : List Int → List ((Int × Int) × Bool)
  | [] => []
  | i :: r => ((tV p V R i, tR p V R i), tS p V R i) :: runL p (tV p V R i) (tR p V R i) r
theorem runL_length (p : Prm) (V R : Int) (l : List Int) : (runL p V R l).length = l.length := by
  induction l generalizing V R with
  | nil => rfl
  | cons i r ih => simp [runL, ih]
theorem after_snoc (p : Prm) (V R : Int) (l : List Int) (i : Int) : after p V R (l ++ [i]) = (tV p (after p V R l).1 (after p V R l).2 i, tR p (after p V R l).1 (after p V R l).2 i) := by
  simp [after]
theorem after_cons (p : Prm) (V R : Int) (l : List Int) (i : Int) : after p V R (i :: l) = after p (tV p V R i) (tR p V R i) l := rfl
theorem runL_get (p : Prm) (V R : Int) (l : List Int) (k : Nat) (i : Int) (h : l[k]? = some i) :
    (runL p V R l)[k]? = some (after p V R (l.take (k + 1)), tS p (after p V R (l.take k)).1 (after p V R (l.take k)).2 i) := by
  induction l generalizing V R k with
  | nil => simp at h
  | cons j r ih =>
    cases k with
    | zero =>
      simp at h; subst h
      simp [runL, after]
    | succ k =>
      simp at h
      simp only [runL, List.getElem?_cons_succ, List.take_succ_cons, after_cons]
      exact ih _ _ _ h
theorem take_snoc_of {α : Type} {l : List α} {k : Nat} {x : α} (h : l[k]? = some x) : l.take (k + 1) = l.take k ++ [x] := by
  rw [List.take_add_one, h]; rfl
/-- A valid state stays valid. -/
theorem after_valid {p : Prm} (h : Ok p) {V R : Int} (hV : p.fl ≤ V) (hV' : V ≤ 1048576) (hR : 0 ≤ R) (hR' : R ≤ p.re) (l : List Int) :
    p.fl ≤ (after p V R l).1 ∧ (after p V R l).1 ≤ 1048576 ∧ 0 ≤ (after p V R l).2 ∧ (after p V R l).2 ≤ p.re := by
  induction l generalizing V R with
  | nil => exact ⟨hV, hV', hR, hR'⟩
  | cons i r ih =>
    rw [after_cons]
    obtain ⟨a, b, c, d⟩ := tick_valid h i hV hV' hR hR'
    exact ih a b c d

theorem cells1 {W : World} {b : Nat} {v0 : Value} {t : TypeId} (h : W.heap[b]? = some (.cells #[v0] t)) : W.cell? ⟨b, 0, none⟩ = some v0 ∧ W.frozen? ⟨b, 0, none⟩ = false := by simp [World.cell?, World.frozen?, h]
theorem cells2 {W : World} {b : Nat} {v0 v1 : Value} {t : TypeId} (h : W.heap[b]? = some (.cells #[v0, v1] t)) : W.cell? ⟨b, 0, none⟩ = some v0 ∧ W.cell? ⟨b, 1, none⟩ = some v1 ∧ W.frozen? ⟨b, 0, none⟩ = false ∧ W.frozen? ⟨b, 1, none⟩ = false := by simp [World.cell?, World.frozen?, h]
theorem cells3 {W : World} {b : Nat} {v0 v1 v2 : Value} {t : TypeId} (h : W.heap[b]? = some (.cells #[v0, v1, v2] t)) : W.cell? ⟨b, 0, none⟩ = some v0 ∧ W.cell? ⟨b, 1, none⟩ = some v1 ∧ W.cell? ⟨b, 2, none⟩ = some v2 := by simp [World.cell?, h]
theorem cells8 {W : World} {b : Nat} {v0 v1 v2 v3 v4 v5 v6 v7 : Value} {t : TypeId} (h : W.heap[b]? = some (.cells #[v0, v1, v2, v3, v4, v5, v6, v7] t)) :
    W.cell? ⟨b, 0, none⟩ = some v0 ∧ W.cell? ⟨b, 1, none⟩ = some v1 ∧ W.cell? ⟨b, 2, none⟩ = some v2 ∧ W.cell? ⟨b, 3, none⟩ = some v3 ∧ W.cell? ⟨b, 4, none⟩ = some v4 ∧ W.cell? ⟨b, 5, none⟩ = some v5 ∧ W.cell? ⟨b, 6, none⟩ = some v6 ∧ W.cell? ⟨b, 7, none⟩ = some v7 := by simp [World.cell?, h]
theorem lt_of_block {W : World} {b : Nat} {o : Obj} (h : W.heap[b]? = some o) : b < W.heap.size := (Array.getElem?_eq_some_iff.1 h).1

theorem set2_0 {W : World} {b : Nat} {v0 v1 : Value} {t : TypeId} {m : Nat × Nat} (h : W.heap[b]? = some (.cells #[v0, v1] t m)) (u : Value) : (W.setCell ⟨b, 0, none⟩ u).heap[b]? = some (.cells #[u, v1] t m) := by
  simp [World.setCell, Array.getElem?_modify, h]
theorem set2_1 {W : World} {b : Nat} {v0 v1 : Value} {t : TypeId} {m : Nat × Nat} (h : W.heap[b]? = some (.cells #[v0, v1] t m)) (u : Value) : (W.setCell ⟨b, 1, none⟩ u).heap[b]? = some (.cells #[v0, u] t m) := by
  simp [World.setCell, Array.getElem?_modify, h]
theorem set1_0 {W : World} {b : Nat} {v0 : Value} {t : TypeId} {m : Nat × Nat} (h : W.heap[b]? = some (.cells #[v0] t m)) (u : Value) : (W.setCell ⟨b, 0, none⟩ u).heap[b]? = some (.cells #[u] t m) := by
  simp [World.setCell, Array.getElem?_modify, h]

set_option maxRecDepth 100000 in
set_option maxHeartbeats 1000000 in
/-- ticks's closure hands out the state behind each tick, and whether there was a spike in it. -/
theorem ticks1_gives (p : Prm) (h : Ok p) (lo hi : Int) (fi : Nat) (hst : StepFn p lo hi fi) (V R : Int) (hV : p.fl ≤ V) (hV' : V ≤ 1048576) (hR : 0 ≤ R) (hR' : R ≤ p.re)
    (ins : List Int) (gf : Nat) (lb : Array Value) (eg : ∀ args w, (callFunc gf args).run Try.prog w = .ok (.enter gf args) w) (bs bi bp bl : Nat) (w0 : World) (CapI : Nat → Prop)
    (hin : Gives Try.prog gf lb (fun x : Int => #[.int .i64 x]) ins CapI w0) (hCapI : ∀ b, CapI b → b < w0.heap.size)
    (hbs : w0.heap[bs]? = some (.cells #[.int .i64 V, .int .i64 R] 25)) (hbi : w0.heap[bi]? = some (.cells #[.func (.func gf) #[] lb] 70))
    (hbp : w0.heap[bp]? = some (.cells #[.int .i64 p.lk, .int .i64 p.lv, .int .i64 p.bi, .int .i64 p.th, .int .i64 p.rk, .int .i64 p.rs, .int .i64 p.fl, .int .i64 p.re] 23))
    (hbl : w0.heap[bl]? = some (.cells #[.int .i64 lo, .int .i64 hi, .func (.func fi) #[] #[]] 60)) :
    Gives Try.prog 59 #[.pointer (some ⟨bs, 0, none⟩), .pointer (some ⟨bi, 0, none⟩), .pointer (some ⟨bp, 0, none⟩), .pointer (some ⟨bl, 0, none⟩)]
      (fun x : (Int × Int) × Bool => #[.agg #[.int .i64 x.1.1, .int .i64 x.1.2], .bool x.2]) (runL p V R ins) (fun b => b = bs ∨ b = bi ∨ b = bp ∨ b = bl ∨ CapI b) w0 := by
  intro l J Jx W hsz hsame hJ hJx h0 hY
  have hCap : ∀ b, (b = bs ∨ b = bi ∨ b = bp ∨ b = bl ∨ CapI b) → b < w0.heap.size := by
    rintro b (rfl | rfl | rfl | rfl | hb)
    · exact lt_of_block hbs
    · exact lt_of_block hbi
    · exact lt_of_block hbp
    · exact lt_of_block hbl
    · exact hCapI _ hb
  have hs := (hsame bs (by simp)).trans hbs
  have hi' := (hsame bi (by simp)).trans hbi
  have hls := lt_of_block hs
  have hli := lt_of_block hi'
  obtain ⟨s0, s1, _, _⟩ := cells2 hs
  obtain ⟨i0, _⟩ := cells1 hi'
  have Hs := Lib.hid hs
  have Hi := Lib.hid hi'
  have Hsame := Lib.hid hsame
  have HCap := Lib.hid hCap
  have HhCapI := Lib.hid hCapI
  have Hbs := Lib.hid hbs
  have Hbi := Lib.hid hbi
  have Hbp := Lib.hid hbp
  have Hbl := Lib.hid hbl
  clear hs hi' hsame hCap hCapI hbs hbi hbp hbl
  refine callsIn_of_wp_marks Try.func59 rfl trivial ?_ rfl
  simp only [Try.ntmps59, List.size_toArray, List.length_cons, List.length_nil, Nat.reduceAdd, Nat.reduceSub, Array.replicate_succ, Array.replicate_zero, List.push_toArray, List.append_toArray, List.nil_append, List.cons_append]
  gi_wp2
  have y0 : ((W.alloc (.cells #[.func (.yield l) #[] #[]] 90)).alloc (.cells #[.int .i64 V, .int .i64 R] 25)).heap[W.heap.size]? = some (.cells #[.func (.yield l) #[] #[]] 90) := by
    rw [Below.heap_alloc _ _ _ (by simp)]; exact World.alloc_heap_new _ _
  have n0 : ((W.alloc (.cells #[.func (.yield l) #[] #[]] 90)).alloc (.cells #[.int .i64 V, .int .i64 R] 25)).heap[W.heap.size + 1]? = some (.cells #[.int .i64 V, .int .i64 R] 25) := by
    have := World.alloc_heap_new (W.alloc (.cells #[.func (.yield l) #[] #[]] 90)) (.cells #[.int .i64 V, .int .i64 R] 25); rw [World.size_alloc] at this; exact this
  have hb0 : ∀ O : Nat → Prop, Bel O W.heap.size W ((W.alloc (.cells #[.func (.yield l) #[] #[]] 90)).alloc (.cells #[.int .i64 V, .int .i64 R] 25)) := fun O => ((Bel.refl _ _ _).alloc (Nat.le_refl _) _).alloc (by simp) _
  have hsz0 : ((W.alloc (.cells #[.func (.yield l) #[] #[]] 90)).alloc (.cells #[.int .i64 V, .int .i64 R] 25)).heap.size = W.heap.size + 2 := by simp
  generalize ((W.alloc (.cells #[.func (.yield l) #[] #[]] 90)).alloc (.cells #[.int .i64 V, .int .i64 R] 25)) = Wb at *
  refine wp_range1 (gf := gf) (lb := lb) rfl eg hin (by omega) (fun b hb => ⟨HhCapI.out b hb, by rw [(hb0 (fun _ => False)).block b (by have := HhCapI.out b hb; omega) id]; exact Hsame.out b (by simp [hb])⟩) (fun _ => rfl)
    (fun b => b = W.heap.size + 1 ∨ (b < W.heap.size ∧ ¬ (b = bs ∨ b = bi ∨ b = bp ∨ b = bl ∨ CapI b))) (fun b hb => by rcases hb with rfl | hb; exact ⟨fun hc => by have := HhCapI.out _ hc; omega, by omega⟩; exact ⟨fun hc => hb.2 (by simp [hc]), by omega⟩)
    (fun G k A => A.heap[W.heap.size + 1]? = some (.cells #[.int .i64 (after p V R (ins.take k)).1, .int .i64 (after p V R (ins.take k)).2] 25) ∧ A.heap[W.heap.size]? = some (.cells #[.func (.yield l) #[] #[]] 90) ∧ (∀ b, (b = bs ∨ b = bi ∨ b = bp ∨ b = bl ∨ CapI b) → A.heap[b]? = w0.heap[b]?) ∧ J G k A)
    (fun c G k A => c = .ret ∧ Jx G k A) ?hI ?hIx ?h0 ?hround ?hdone ?hstop
  case hI =>
    rintro G k A A' ⟨h1, h2, h3, h4⟩ hb
    refine ⟨(hb.block _ (lt_of_block h1) (by omega)).trans h1, (hb.block _ (lt_of_block h2) (by omega)).trans h2, fun b hc => ?_, hJ G k A A' h4 (hb.mono (Nat.le_refl _) fun b _ hb => ⟨by omega, hb.2⟩)⟩
    have := HCap.out b hc
    exact (hb.block b (by have := lt_of_block h1; omega) (by omega)).trans (h3 b hc)
  case hIx =>
    rintro c G k A A' ⟨h1, h2⟩ hb
    exact ⟨h1, hJx G k A A' h2 (hb.mono (Nat.le_refl _) fun b _ hb => ⟨by omega, hb.2⟩)⟩
  case h0 =>
    refine ⟨n0, y0, fun b hc => ?_, hJ _ _ _ _ h0 ((hb0 _).mono (Nat.le_refl _) fun b _ h => h)⟩
    have := HCap.out b hc
    exact ((hb0 (fun _ => False)).block b (by omega) id).trans (Hsame.out b hc)
  case hdone =>
    rintro D G W' hD hG hGb ⟨h1, h2, h3, h4⟩ hK
    have hlt := lt_of_block h1
    gi_wp2
    refine ⟨by simp, .inl ⟨_, _, rfl, run_takeDeferred hK, _, results_none rfl _ _ _, ⟨_, rfl⟩, G, fun b hb => ⟨by have := (hGb b hb).1; omega, by rw [World.putObj_size]; exact (hGb b hb).2⟩, by rw [World.putObj_size]; omega, .inl ?_⟩⟩
    rw [runL_length]
    exact hJ _ _ _ _ h4 ((Bel.refl _ _ _).putObj (Or.inl ⟨by omega, hG⟩) _)
  case hstop =>
    rintro D c G k W' hD hG hGb hk ⟨rfl, hx⟩ hK
    have hlt := lt_of_block hK
    gi_wp2
    refine ⟨by simp, .inl ⟨_, _, rfl, run_takeDeferred hK, _, results_none rfl _ _ _, ⟨_, rfl⟩, G, fun b hb => ⟨by have := (hGb b hb).1; omega, by rw [World.putObj_size]; exact (hGb b hb).2⟩, by rw [World.putObj_size]; omega, .inr ⟨k, ?_, ?_⟩⟩⟩
    · rw [runL_length]; exact hk
    · exact hJx _ _ _ _ hx ((Bel.refl _ _ _).putObj (Or.inl ⟨by omega, hG⟩) _)
  case hround =>
    rintro l2 G k x A hl2 hGb hszA hIk hx
    gi_wp2
    · refine ⟨Bel.refl _ _ _, ?_⟩
      rintro W2 hsW ⟨h1, h2, h3, h4⟩
      have hGs := hsW.size
      obtain ⟨n0', n1', nf0, nf1⟩ := cells2 h1
      obtain ⟨y0', _⟩ := cells1 h2
      have p8 := cells8 ((h3 bp (by simp)).trans Hbp.out)
      obtain ⟨q0, q1, q2, q3, q4, q5, q6, q7⟩ := p8
      obtain ⟨r0, r1, r2⟩ := cells3 ((h3 bl (by simp)).trans Hbl.out)
      have va := after_valid h hV hV' hR hR' (ins.take k)
      have HX := Lib.hid hx
      have H1 := Lib.hid h1
      have H2 := Lib.hid h2
      have H3 := Lib.hid h3
      have hlt1 := lt_of_block h1
      clear hx h1 h2 h3 hIk
      obtain ⟨V0, hV0⟩ : ∃ V0, V0 = (after p V R (ins.take k)).1 := ⟨_, rfl⟩
      obtain ⟨R0, hR0⟩ : ∃ R0, R0 = (after p V R (ins.take k)).2 := ⟨_, rfl⟩
      have H4 : Hid (W2.heap[W.heap.size + 1]? = some (.cells #[.int .i64 V0, .int .i64 R0] 25)) := Lib.hid (by rw [hV0, hR0]; exact H1.out)
      have hnext : after p V R (ins.take (k + 1)) = (tV p V0 R0 x, tR p V0 R0 x) := by rw [take_snoc_of HX.out, after_snoc, hV0, hR0]
      have hrun := runL_get p V R ins k x HX.out
      rw [hnext, ← hV0, ← hR0] at hrun
      rw [← hV0, ← hR0] at va
      rw [← hV0] at n0'
      rw [← hR0] at n1'
      have Hrun := Lib.hid hrun
      have Hnext := Lib.hid hnext
      have HGs := Lib.hid hGs
      have hGs1 : A.heap.size ≤ W2.heap.size := by omega
      have hGs2 : W2.heap.size ≤ A.heap.size := by omega
      clear hrun hnext hV0 hR0 hGs
      gi_wp2_with (refine ⟨trivial, rfl, ?_⟩; gi_at_call 43; refine (CallsIn.inRound l2 (callsIn_wide.2 (hst V0 R0 x _ va.1 va.2.1 va.2.2.1 va.2.2.2))).mono ?_; rintro e w1 ⟨rfl, hb1⟩; have hz1 : W.heap.size + 1 < w1.heap.size := (by have := hb1.size; omega); have hz2 : W.heap.size < w1.heap.size := (by omega); have y1 : w1.cell? ⟨W.heap.size, 0, none⟩ = some (.func (.yield l) #[] #[]) := (hb1.cell (p := ⟨W.heap.size, 0, none⟩) (by show W.heap.size < W2.heap.size; omega)).trans y0'; obtain ⟨fn, tmps, assign, body, hy, hR'⟩ := hY G k ((tV p V0 R0 x, tR p V0 R0 x), tS p V0 R0 x) (w1.alloc (.cells #[.int .i64 (tV p V0 R0 x), .int .i64 (tR p V0 R0 x)] 25)) (fun b hb => by have := hGb b hb; have := hb1.size; rw [World.size_alloc]; omega) (by have := hb1.size; rw [World.size_alloc]; omega) (hJ _ _ _ _ h4 ((Bel.ofBelow hb1 (Nat.le_refl _)).alloc hb1.size _)) Hrun.out; dsimp only at hy)
      refine ⟨rfl, (RoundIn.inRound l2 hR').mono ?_⟩
      have hlw1 : W2.heap.size ≤ w1.heap.size := hb1.size
      rintro e W3 (⟨rfl, G', hg, hJ3, hb3⟩ | ⟨rfl, G', hg, hJ3, hb3⟩)
      · have hnG : ∀ b, W.heap.size ≤ b → b < W.heap.size + 2 ∨ A.heap.size ≤ b → ¬ (¬ (b = bs ∨ b = bi ∨ b = bp ∨ b = bl ∨ CapI b) ∧ (b < W.heap.size ∨ G b)) := fun b hb1 hb2 hb3 => by
          rcases hb3.2 with h | h
          · omega
          · have := hGb b h; omega
        have k1 : W3.heap[W.heap.size + 1]? = some (.cells #[.int .i64 V0, .int .i64 R0] 25) := by
          rw [hb3.block _ (by rw [World.size_alloc]; omega) (hnG _ (by omega) (by omega)), Below.heap_alloc _ _ _ (by omega), hb1.block _ (by omega)]; exact H4.out
        have k2 : W3.heap[w1.heap.size]? = some (.cells #[.int .i64 (tV p V0 R0 x), .int .i64 (tR p V0 R0 x)] 25) := by
          rw [hb3.block _ (by simp) (hnG _ (by omega) (by omega))]; exact World.alloc_heap_new _ _
        have k3 : W3.heap[W.heap.size]? = some (.cells #[.func (.yield l) #[] #[]] 90) := by
          rw [hb3.block _ (by rw [World.size_alloc]; omega) (hnG _ (by omega) (by omega)), Below.heap_alloc _ _ _ (by omega), hb1.block _ (by omega)]; exact H2.out
        have k4 : ∀ b, (b = bs ∨ b = bi ∨ b = bp ∨ b = bl ∨ CapI b) → W3.heap[b]? = w0.heap[b]? := fun b hc => by
          have := HCap.out b hc
          rw [hb3.block _ (by rw [World.size_alloc]; omega) (fun h => h.1 hc), Below.heap_alloc _ _ _ (by omega), hb1.block _ (by omega)]; exact H3.out b hc
        obtain ⟨c1, c2, c3, c4⟩ := cells2 k1
        obtain ⟨d1, d2, _, _⟩ := cells2 k2
        have hz3 : w1.heap.size < W3.heap.size := lt_of_block k2
        have K1 := Lib.hid k1
        have K3 := Lib.hid k3
        have K4 := Lib.hid k4
        clear k1 k2 k3 k4 y0' n0' n1' nf0 nf1 y1
        gi_wp2
        have hB : Bel (fun b => (b = W.heap.size + 1 ∨ b < W.heap.size ∧ ¬(b = bs ∨ b = bi ∨ b = bp ∨ b = bl ∨ CapI b)) ∨ G b) A.heap.size W2 W3 :=
          ((Bel.ofBelow hb1 hGs1).alloc (by omega) _).trans (hb3.mono (by rw [World.size_alloc]; omega) (fun b _ h => by rcases h.2 with h' | h'; exact Or.inl (Or.inr ⟨h', h.1⟩); exact Or.inr h'))
        have hnG' : ¬ G' (W.heap.size + 1) := fun h => by
          rcases hg.new _ h with h | h
          · have := hGb _ h; omega
          · rw [World.size_alloc] at h; omega
        refine ⟨G', ⟨hg.old, fun b hb => (hg.new b hb).imp id (fun h => by rw [World.size_alloc] at h; omega), fun b hb => by have := hg.lt b hb; simpa [World.setCell] using this⟩, ⟨?_, ?_, ?_, ?_⟩, ?_⟩
        · rw [Hnext.out]; exact set2_1 (set2_0 K1.out _) _
        · rw [Below.heap_setCell _ _ _ _ (by simp), Below.heap_setCell _ _ _ _ (by simp)]; exact K3.out
        · intro b hc
          have := HCap.out b hc
          rw [Below.heap_setCell _ _ _ _ (by simp; omega), Below.heap_setCell _ _ _ _ (by simp; omega)]; exact K4.out b hc
        · exact hJ _ _ _ _ hJ3 (((Bel.refl _ _ _).setCell (p := ⟨W.heap.size + 1, 0, none⟩) (Or.inl ⟨by simp, hnG'⟩) _).setCell (p := ⟨W.heap.size + 1, 1, none⟩) (Or.inl ⟨by simp, hnG'⟩) _)
        · exact (hB.setCell (p := ⟨W.heap.size + 1, 0, none⟩) (Or.inl (Or.inl (Or.inl rfl))) _).setCell (p := ⟨W.heap.size + 1, 1, none⟩) (Or.inl (Or.inl (Or.inl rfl))) _
      · gi_wp2
        have hB : Bel (fun b => (b = W.heap.size + 1 ∨ b < W.heap.size ∧ ¬(b = bs ∨ b = bi ∨ b = bp ∨ b = bl ∨ CapI b)) ∨ G b) A.heap.size W2 W3 :=
          ((Bel.ofBelow hb1 hGs1).alloc (by omega) _).trans (hb3.mono (by rw [World.size_alloc]; omega) (fun b _ h => by rcases h.2 with h' | h'; exact Or.inl (Or.inr ⟨h', h.1⟩); exact Or.inr h'))
        exact ⟨G', ⟨hg.old, fun b hb => (hg.new b hb).imp id (fun h => by rw [World.size_alloc] at h; omega), hg.lt⟩, ⟨rfl, hJ3⟩, hB⟩

end Go.Proofs.Ytkpabecnimakpaa
