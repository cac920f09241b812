/- slices.Values, and the functions that make the iterators. -/
import Derived.Test.YtkpabecnimakpaaD
namespace Go.Proofs.Ytkpabecnimakpaa
set_option linter.unusedVariables false
open Go.RowKit Go.Shelf
attribute [local go_sem] Oper.semAt_some

/-- The slice value sv reads as the ints zs. -/
def IntsAt (W : World) (sv : Value) (zs : List Int) : Prop :=
  (sv = .slice none 0 0 ∧ zs = []) ∨ ∃ b off cap, sv = .slice (some ⟨b, off, none⟩) zs.length cap ∧ ∀ j, j < zs.length → W.cell? ⟨b, off + j, none⟩ = some (.int .i64 (zs[j]?.getD 0))

theorem getD_take (zs : List Int) (k : Nat) (h : k < zs.length) : zs[k]? = some (zs[k]?.getD 0) := by simp [h]

set_option maxRecDepth 100000 in
set_option maxHeartbeats 1000000 in
/-- slices.Values's closure hands the elements out. -/
theorem values1_gives (bS : Nat) (sv : Value) (zs : List Int) (hlen : zs.length ≤ 9223372036854775806) (w0 : World) (hbS : w0.heap[bS]? = some (.cells #[sv] 35)) (hI : IntsAt w0 sv zs) :
    Gives Try.prog 58 #[.pointer (some ⟨bS, 0, none⟩)] (fun x : Int => #[.int .i64 x]) zs (fun b => b = bS ∨ (sv.ownBlock = some b ∧ b < w0.heap.size)) w0 := by
  intro l J Jx W hsz hsame hJ hJx h0 hY
  have hS := (hsame bS (Or.inl rfl)).trans hbS
  obtain ⟨c0, _⟩ := cells1 hS
  clear hS hbS
  rcases hI with ⟨rfl, rfl⟩ | ⟨b, off, cap, rfl, hc⟩
  · clear hsame
    refine callsIn_of_wp Try.func58 rfl trivial ?_ rfl
    simp only [Try.ntmps58, List.size_toArray, List.length_cons, List.length_nil, Nat.reduceAdd, Nat.reduceSub, Array.replicate_succ, Array.replicate_zero, List.push_toArray, List.append_toArray, List.nil_append, List.cons_append]
    gi_wp2
    gi_loopw [7] (fun i wr => i = .int .i64 0 ∧ wr = W) (fun _ _ => 0)
    case atStart => exact ⟨rfl, rfl⟩
    case round =>
      obtain ⟨rfl, rfl⟩ := hrel
      gi_wp2
      go_end0
      exact ⟨⟨_, rfl⟩, fun _ => False, fun _ h => h.elim, Nat.le_refl _, .inl h0⟩
  · have hcW : ∀ j, j < zs.length → W.cell? ⟨b, off + j, none⟩ = some (.int .i64 (zs[j]?.getD 0)) := fun j hj =>
      (World.cell?_of_block (w := w0) (hsame b (Or.inr ⟨rfl, World.block_lt_of_cell? w0 _ (hc j hj)⟩))).trans (hc j hj)
    have hbl : 0 < zs.length → b < w0.heap.size := fun h => World.block_lt_of_cell? w0 _ (hc 0 h)
    clear hsame hc
    have HC := Lib.hid hcW
    have HB := Lib.hid hbl
    clear hcW hbl
    refine callsIn_of_wp Try.func58 rfl trivial ?_ rfl
    simp only [Try.ntmps58, List.size_toArray, List.length_cons, List.length_nil, Nat.reduceAdd, Nat.reduceSub, Array.replicate_succ, Array.replicate_zero, List.push_toArray, List.append_toArray, List.nil_append, List.cons_append]
    gi_wp2
    gi_loopw [7] (fun i wr => ∃ k : Nat, k ≤ zs.length ∧ i = .int .i64 k ∧ ∃ G : Nat → Prop, (∀ b, G b → W.heap.size ≤ b ∧ b < wr.heap.size) ∧ W.heap.size ≤ wr.heap.size ∧ J G k wr ∧ (∀ j, j < zs.length → wr.cell? ⟨b, off + j, none⟩ = some (.int .i64 (zs[j]?.getD 0))))
      (fun i _ => zs.length - (intOf i).toNat)
    case atStart => exact ⟨0, Nat.zero_le _, rfl, fun _ => False, fun _ h => h.elim, Nat.le_refl _, h0, HC.out⟩
    case round =>
      obtain ⟨k, hk, rfl, G, hG, hsz1, hJs, hci⟩ := hrel
      by_cases hlt : k < zs.length
      · obtain ⟨x, hx⟩ : ∃ x, zs[k]? = some x := ⟨_, getD_take zs k hlt⟩
        obtain ⟨fn, tmps, assign, body, hy, hR⟩ := hY G k x wr hG hsz1 hJs hx
        have hck : wr.cell? ⟨b, off + k, none⟩ = some (.int .i64 x) := by have := hci k hlt; rw [hx] at this; exact this
        have HCI := Lib.hid hci
        have HX := Lib.hid hx
        clear hci hx
        gi_wp2
        refine ⟨rfl, hR.mono ?_⟩
        rintro e W3 (⟨rfl, G', hg, hJ3, hb3⟩ | ⟨rfl, G', hg, hJ3, hb3⟩)
        · gi_wp2
          go_roundw
          case rel =>
            refine ⟨k + 1, by omega, by simp, G', fun b hb => ⟨by rcases hg.new b hb with h | h; exact (hG b h).1; omega, hg.lt b hb⟩, Nat.le_trans hsz1 hb3.size, hJ3, fun j hj => ?_⟩
            have hb0 := HB.out (by omega)
            exact (hb3.cell (p := ⟨b, off + j, none⟩) (by show b < _; omega) (fun h => h.1 (Or.inr ⟨rfl, hb0⟩))).trans (HCI.out j hj)
          case measure => simp [intOf]; omega
        · gi_wp2
          refine bodyPost_ret (results_none rfl _ _ _) rfl ?_
          exact ⟨⟨_, rfl⟩, G', fun b hb => ⟨by rcases hg.new b hb with h | h; exact (hG b h).1; omega, hg.lt b hb⟩, Nat.le_trans hsz1 hb3.size, .inr ⟨k + 1, by omega, hJ3⟩⟩
      · obtain rfl : k = zs.length := by omega
        gi_wp2
        go_end0
        exact ⟨⟨_, rfl⟩, G, hG, hsz1, .inl hJs⟩

theorem Gives.at {α : Type} {P : Program} {gf : Nat} {lb : Array Value} {enc : α → Array Value} {xs : List α} {Cap : Nat → Prop} {w0 w1 : World} (h : Gives P gf lb enc xs Cap w0) (hs : w0.heap.size ≤ w1.heap.size) (hc : ∀ k, Cap k → w1.heap[k]? = w0.heap[k]?) : Gives P gf lb enc xs Cap w1 :=
  fun l J Jx W hW hsame => h l J Jx W (Nat.le_trans hs hW) (fun k hk => (hsame k hk).trans (hc k hk))

set_option maxHeartbeats 400000 in
theorem values_any (a : Option Addr) (len cap : Nat) (w : World) :
    Calls Try.prog 46 #[.slice a len cap] w fun e w' => e = .returned (.func (.func 58) #[] #[.pointer (some ⟨w.heap.size, 0, none⟩)]) ∧ w' = w.alloc (.cells #[.slice a len cap] 35) := by
  go_enter Try.func46, Try.ntmps46
  go_wp2
  go_ret
  exact ⟨rfl, rfl⟩

set_option maxHeartbeats 400000 in
theorem again_any (x n : Int) (w : World) :
    Calls Try.prog 49 #[.int .i64 x, .int .i64 n] w fun e w' => e = .returned (.func (.func 60) #[] #[.pointer (some ⟨w.heap.size + 1, 0, none⟩), .pointer (some ⟨w.heap.size, 0, none⟩)]) ∧ w' = (w.alloc (.cells #[.int .i64 x] 3)).alloc (.cells #[.int .i64 n] 3) := by
  go_enter Try.func49, Try.ntmps49
  go_wp2
  go_ret
  exact ⟨rfl, rfl⟩

set_option maxHeartbeats 400000 in
theorem silence_any (n : Int) (w : World) :
    Calls Try.prog 47 #[.int .i64 n] w fun e w' => e = .returned (.func (.func 60) #[] #[.pointer (some ⟨w.heap.size + 1, 0, none⟩), .pointer (some ⟨w.heap.size, 0, none⟩)]) ∧ w' = (w.alloc (.cells #[.int .i64 0] 3)).alloc (.cells #[.int .i64 n] 3) := by
  go_enter Try.func47, Try.ntmps47
  go_wp2_with (go_at_call 49; refine (again_any _ _ _).mono ?_; rintro e w' ⟨rfl, rfl⟩)
  go_ret
  exact ⟨rfl, rfl⟩

/-- What ticks has made: its closure, and the blocks that it has captured. -/
def TicksMade (p : Prm) (V R : Int) (gf : Nat) (lb : Array Value) (lo hi : Int) (fi : Nat) (w : World) (e : Ending) (w' : World) : Prop :=
  ∃ bs bi bp bl, e = .returned (.func (.func 59) #[] #[.pointer (some ⟨bs, 0, none⟩), .pointer (some ⟨bi, 0, none⟩), .pointer (some ⟨bp, 0, none⟩), .pointer (some ⟨bl, 0, none⟩)]) ∧
    w.heap.size ≤ bs ∧ w.heap.size ≤ bi ∧ w.heap.size ≤ bp ∧ w.heap.size ≤ bl ∧
    w'.heap[bs]? = some (.cells #[.int .i64 V, .int .i64 R] 25) ∧ w'.heap[bi]? = some (.cells #[.func (.func gf) #[] lb] 70) ∧
    w'.heap[bp]? = some (.cells #[.int .i64 p.lk, .int .i64 p.lv, .int .i64 p.bi, .int .i64 p.th, .int .i64 p.rk, .int .i64 p.rs, .int .i64 p.fl, .int .i64 p.re] 23) ∧
    w'.heap[bl]? = some (.cells #[.int .i64 lo, .int .i64 hi, .func (.func fi) #[] #[]] 60) ∧ Below w.heap.size w w'

set_option maxHeartbeats 1000000 in
theorem ticks_any (p : Prm) (V R : Int) (gf : Nat) (lb : Array Value) (lo hi : Int) (fi : Nat) (hk : Kind p.lk lo hi fi) (w : World) :
    Calls Try.prog 48 #[.agg #[.int .i64 p.lk, .int .i64 p.lv, .int .i64 p.bi, .int .i64 p.th, .int .i64 p.rk, .int .i64 p.rs, .int .i64 p.fl, .int .i64 p.re], .agg #[.int .i64 V, .int .i64 R], .func (.func gf) #[] lb] w (TicksMade p V R gf lb lo hi fi w) := by
  go_enter Try.func48, Try.ntmps48
  go_wp2_with (go_at_call 40; refine (hk _).mono ?_; rintro e w1 ⟨rfl, hb⟩; have hz : w.heap.size + 2 < w1.heap.size := (by have := hb.size; simp at this; omega))
  go_ret
  refine ⟨w.heap.size + 1, w.heap.size + 2, w.heap.size, w1.heap.size, rfl, by omega, by omega, by omega, by omega, ?_, ?_, ?_, ?_, ?_⟩
  · rw [Below.heap_alloc _ _ _ (by omega), hb.block _ (by simp <;> omega), Below.heap_alloc _ _ _ (by simp <;> omega)]
    have := World.alloc_heap_new (w.alloc (.cells #[.int .i64 p.lk, .int .i64 p.lv, .int .i64 p.bi, .int .i64 p.th, .int .i64 p.rk, .int .i64 p.rs, .int .i64 p.fl, .int .i64 p.re] 23)) (.cells #[.int .i64 V, .int .i64 R] 25)
    rw [World.size_alloc] at this; exact this
  · rw [Below.heap_alloc _ _ _ (by omega), hb.block _ (by simp <;> omega)]
    have := World.alloc_heap_new ((w.alloc (.cells #[.int .i64 p.lk, .int .i64 p.lv, .int .i64 p.bi, .int .i64 p.th, .int .i64 p.rk, .int .i64 p.rs, .int .i64 p.fl, .int .i64 p.re] 23)).alloc (.cells #[.int .i64 V, .int .i64 R] 25)) (.cells #[.func (.func gf) #[] lb] 70)
    rw [World.size_alloc, World.size_alloc] at this; exact this
  · rw [Below.heap_alloc _ _ _ (by omega), hb.block _ (by simp <;> omega), Below.heap_alloc _ _ _ (by simp <;> omega), Below.heap_alloc _ _ _ (by simp <;> omega)]
    exact World.alloc_heap_new _ _
  · exact World.alloc_heap_new _ _
  · exact ((((Below.refl _ _).alloc (Nat.le_refl _) _).alloc (by simp <;> omega) _).alloc (by simp <;> omega) _ |>.trans (hb.mono (by simp <;> omega))).alloc (by omega) _

end Go.Proofs.Ytkpabecnimakpaa
