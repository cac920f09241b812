/- The traces of a mark: fade, leave, change. -/
import Derived.Test.YthglhgcjkpdkoaaLd
namespace Go.Proofs.Ythglhgcjkpdkoaa
set_option linter.unusedVariables false
open Go.RowKit

def MarkBox (W : World) (b : Nat) (g x y e : Int) : Prop := W.heap[b]? = some (.cells #[.int .i64 g, .int .i64 x, .int .i64 y, .int .i64 e] 98)
theorem cells4m {W : World} {b : Nat} {v0 v1 v2 v3 : Value} {t : TypeId} (h : W.heap[b]? = some (.cells #[v0, v1, v2, v3] t)) :
    W.cell? ⟨b, 0, none⟩ = some v0 ∧ W.cell? ⟨b, 1, none⟩ = some v1 ∧ W.cell? ⟨b, 2, none⟩ = some v2 ∧ W.cell? ⟨b, 3, none⟩ = some v3 ∧ W.frozen? ⟨b, 1, none⟩ = false ∧ W.frozen? ⟨b, 2, none⟩ = false ∧ W.frozen? ⟨b, 3, none⟩ = false := by simp [World.cell?, World.frozen?, h]
set_option maxRecDepth 100000 in
set_option maxHeartbeats 4000000 in
theorem fade_any (r : Rul) (rb mb : Nat) (g x y : Int) (w : World) (hr : RuleBox w rb r) (hm : MarkBox w mb g x y 0) (hlt : rb < mb)
    (x0 : 0 ≤ x * r.ke) (x1 : x * r.ke ≤ 16711425) (y0 : 0 ≤ y * r.ke) (y1 : y * r.ke ≤ 16711425) :
    Calls Try.prog 49 #[.pointer (some ⟨rb, 0, none⟩), .pointer (some ⟨mb, 0, none⟩)] w fun e w' => e = .returned (.tuple #[]) ∧ Below mb w w' ∧ MarkBox w' mb g (x * r.ke / 256) (y * r.ke / 256) 0 := by
  obtain ⟨_, _, _, _, _, _, _, _, _, _⟩ := cells10 hr
  obtain ⟨_, _, _, _, _, _, _⟩ := cells4m hm
  have hne : rb ≠ mb := by omega
  have hne' : mb ≠ rb := by omega
  have HR := Lib.hid hr
  have HM := Lib.hid hm
  clear hr hm
  go_enter Try.func49, Try.ntmps49
  go_wp2
  go_region
  go_wp2
  go_region
  go_wp2
  go_region
  go_wp2
  refine bodyPost_end (v := .tuple #[]) (by simp [results, Try.results49, go_sem]) rfl ⟨rfl, (((((Below.refl _ _).setCell (p := ⟨mb, 1, none⟩) (Nat.le_refl _) _).setCell (p := ⟨mb, 2, none⟩) (Nat.le_refl _) _).setCell (p := ⟨mb, 3, none⟩) (Nat.le_refl _) _).drew).drew.drew, ?_⟩
  have hm := HM.out
  unfold MarkBox at hm
  show (((w.setCell ⟨mb, 1, none⟩ (.int .i64 (x * r.ke / 256))).setCell ⟨mb, 2, none⟩ (.int .i64 (y * r.ke / 256))).setCell ⟨mb, 3, none⟩ (.int .i64 0)).heap[mb]? = _
  simp [World.setCell, Array.getElem?_modify, hm]
set_option maxRecDepth 100000 in
set_option maxHeartbeats 4000000 in
theorem leave_pos (r : Rul) (rb mb : Nat) (w : World) (hr : RuleBox w rb r) (hm : MarkBox w mb 0 0 0 0) (hlt : rb < mb) (x0 : 1 ≤ r.ga) (x1 : r.ga ≤ 4096) :
    Calls Try.prog 48 #[.pointer (some ⟨rb, 0, none⟩), .pointer (some ⟨mb, 0, none⟩), .bool true, .bool false] w fun e w' => e = .returned (.tuple #[]) ∧ Below mb w w' ∧ MarkBox w' mb 0 r.ga 0 0 := by
  obtain ⟨_, _, _, _, _, _, _, _, _, _⟩ := cells10 hr
  obtain ⟨_, _, _, _, _, _, _⟩ := cells4m hm
  have hne : rb ≠ mb := by omega
  have hne' : mb ≠ rb := by omega
  have HM := Lib.hid hm
  clear hr hm
  go_enter Try.func48, Try.ntmps48
  go_wp2
  go_region
  go_wp2
  refine bodyPost_end (v := .tuple #[]) (by simp [results, Try.results48, go_sem]) rfl ⟨rfl, ((Below.refl _ _).setCell (p := ⟨mb, 1, none⟩) (Nat.le_refl _) _).drew, ?_⟩
  have hm := HM.out
  unfold MarkBox at hm
  show (w.setCell ⟨mb, 1, none⟩ (.int .i64 r.ga)).heap[mb]? = _
  simp [World.setCell, Array.getElem?_modify, hm]
set_option maxRecDepth 100000 in
set_option maxHeartbeats 4000000 in
theorem leave_neg (r : Rul) (rb mb : Nat) (w : World) (hr : RuleBox w rb r) (hm : MarkBox w mb 0 0 0 0) (hlt : rb < mb) (x0 : 1 ≤ r.ga) (x1 : r.ga ≤ 4096) :
    Calls Try.prog 48 #[.pointer (some ⟨rb, 0, none⟩), .pointer (some ⟨mb, 0, none⟩), .bool false, .bool true] w fun e w' => e = .returned (.tuple #[]) ∧ Below mb w w' ∧ MarkBox w' mb 0 0 r.ga 0 := by
  obtain ⟨_, _, _, _, _, _, _, _, _, _⟩ := cells10 hr
  obtain ⟨_, _, _, _, _, _, _⟩ := cells4m hm
  have hne : rb ≠ mb := by omega
  have hne' : mb ≠ rb := by omega
  have HM := Lib.hid hm
  clear hr hm
  go_enter Try.func48, Try.ntmps48
  go_wp2
  go_region
  go_wp2
  refine bodyPost_end (v := .tuple #[]) (by simp [results, Try.results48, go_sem]) rfl ⟨rfl, ((Below.refl _ _).setCell (p := ⟨mb, 2, none⟩) (Nat.le_refl _) _).drew, ?_⟩
  have hm := HM.out
  unfold MarkBox at hm
  show (w.setCell ⟨mb, 2, none⟩ (.int .i64 r.ga)).heap[mb]? = _
  simp [World.setCell, Array.getElem?_modify, hm]
theorem shr_bounds {a : Int} {s : Int} (h0 : 0 ≤ a) (h1 : a ≤ 16711425) : 0 ≤ a / 2 ^ s.toNat ∧ a / 2 ^ s.toNat ≤ 16711425 := by
  have hp : (0 : Int) < 2 ^ s.toNat := Int.pow_pos (by omega)
  exact ⟨Int.ediv_nonneg h0 (Int.le_of_lt hp), Int.le_trans (Int.ediv_le_self _ h0) h1⟩
set_option maxRecDepth 100000 in
set_option maxHeartbeats 4000000 in
theorem change_up (r : Rul) (rb : Nat) (x y : Int) (w : World) (hr : RuleBox w rb r) (hl : rb < w.heap.size) (x0 : 0 ≤ r.up * x) (x1 : r.up * x ≤ 16711425) (s0 : 0 ≤ r.sh) (s1 : r.sh ≤ 16) :
    Calls Try.prog 50 #[.pointer (some ⟨rb, 0, none⟩), .agg #[.int .i64 0, .int .i64 x, .int .i64 y, .int .i64 0], .bool false, .bool true] w fun e w' => e = .returned (.int .i64 (r.up * x / 2 ^ r.sh.toNat)) ∧ Below w.heap.size w w' := by
  obtain ⟨_, _, _, _, _, _, _, _, _, _⟩ := cells10 hr
  have hne : rb ≠ w.heap.size := by omega
  have hne' : w.heap.size ≠ rb := by omega
  clear hr
  obtain ⟨q0, q1⟩ := shr_bounds (s := r.sh) x0 x1
  go_enter Try.func50, Try.ntmps50
  go_wp2
  go_region
  go_wp2
  go_ret
  exact ⟨rfl, ((Below.refl _ _).alloc (Nat.le_refl _) _).drew⟩
set_option maxRecDepth 100000 in
set_option maxHeartbeats 4000000 in
theorem change_dn (r : Rul) (rb : Nat) (x y : Int) (w : World) (hr : RuleBox w rb r) (hl : rb < w.heap.size) (x0 : 0 ≤ r.dn * y) (x1 : r.dn * y ≤ 16711425) (s0 : 0 ≤ r.sh) (s1 : r.sh ≤ 16) :
    Calls Try.prog 50 #[.pointer (some ⟨rb, 0, none⟩), .agg #[.int .i64 0, .int .i64 x, .int .i64 y, .int .i64 0], .bool true, .bool false] w fun e w' => e = .returned (.int .i64 (-(r.dn * y / 2 ^ r.sh.toNat))) ∧ Below w.heap.size w w' := by
  obtain ⟨_, _, _, _, _, _, _, _, _, _⟩ := cells10 hr
  have hne : rb ≠ w.heap.size := by omega
  have hne' : w.heap.size ≠ rb := by omega
  clear hr
  obtain ⟨q0, q1⟩ := shr_bounds (s := r.sh) x0 x1
  go_enter Try.func50, Try.ntmps50
  go_wp2
  go_region
  go_wp2
  go_ret
  exact ⟨rfl, ((Below.refl _ _).alloc (Nat.le_refl _) _).drew⟩
set_option maxRecDepth 100000 in
set_option maxHeartbeats 4000000 in
theorem change_no (r : Rul) (rb : Nat) (x y : Int) (w : World) (hr : RuleBox w rb r) (hl : rb < w.heap.size) (s0 : 0 ≤ r.sh) (s1 : r.sh ≤ 16) :
    Calls Try.prog 50 #[.pointer (some ⟨rb, 0, none⟩), .agg #[.int .i64 0, .int .i64 0, .int .i64 0, .int .i64 0], .bool true, .bool true] w fun e w' => e = .returned (.int .i64 (0)) ∧ Below w.heap.size w w' := by
  obtain ⟨_, _, _, _, _, _, _, _, _, _⟩ := cells10 hr
  have hne : rb ≠ w.heap.size := by omega
  have hne' : w.heap.size ≠ rb := by omega
  clear hr
  go_enter Try.func50, Try.ntmps50
  go_wp2
  go_region
  go_wp2
  go_region
  go_wp2
  go_ret
  exact ⟨rfl, ((Below.refl _ _).alloc (Nat.le_refl _) _).drew.drew⟩
end Go.Proofs.Ythglhgcjkpdkoaa
