/- Pack and Unpack: the closures; three, number. -/
import Derived.Test.YtkpabecnimakpaaF
import Derived.Laws.BitsAllLaws
namespace Go.Proofs.Ytkpabecnimakpaa
set_option linter.unusedVariables false
open Go.RowKit

theorem Try.info5 : (Try.prog.info? 5).map (fun i => (i.zero, i.size, i.bytes)) = some (some (.int .u8 0), 1, 1) := by kernel_rfl

/-- The three bytes of a number. -/
def b3 (x : Int) : List Int := [x / 65536 % 256, x / 256 % 256, x % 256]
def U8s (l : List Int) : List Value := l.map (Value.int .u8)
theorem cells_new (w : World) (l : List Value) (t : TypeId) (j : Nat) (u : Value) (h : l[j]? = some u) : (w.alloc (.cells l.toArray t)).cell? ((⟨w.heap.size, 0, none⟩ : Addr).add j) = some u := by
  have e : (⟨w.heap.size, 0, none⟩ : Addr).add j = ⟨w.heap.size, j, none⟩ := by unfold Addr.add; split <;> simp_all
  rw [e]; unfold World.cell?
  simp only [World.alloc_heap_new]
  simpa using h

/-- What put leaves: the bytes appended, the slice in its cell. -/
def Put (base b : Nat) (v : Value) (k : Nat) (L : List Int) (x : Int) (w : World) (e : Ending) (w' : World) : Prop :=
  ∃ v' r, e = .returned r ∧ w'.heap[b]? = some (.cells #[v'] 44) ∧ w'.ownsRow base 5 1 v' (k + 3) (U8s (L ++ b3 x)) ∧ v'.ownBlock ≠ some b ∧ Below base w w' ∧ w.heap.size ≤ w'.heap.size

set_option maxRecDepth 100000 in
set_option maxHeartbeats 400000 in
theorem put_any (b base : Nat) (v : Value) (k : Nat) (L : List Int) (x : Int) (h1 : -1048576 ≤ x) (h2 : x ≤ 1048576) (hk : k ≤ 100) (hbb : base ≤ b) (hv : v.ownBlock ≠ some b) (w : World) (hb : w.heap[b]? = some (.cells #[v] 44)) (hown : w.ownsRow base 5 1 v k (U8s L)) :
    Calls Try.prog 50 #[.int .i64 x, .pointer (some ⟨b, 0, none⟩)] w (Put base b v k L x w) := by
  obtain ⟨i0, hi, hz0, hzz1, hzz2⟩ := info_parts Try.info5
  have hlt := lt_of_block hb
  obtain ⟨c0, cf0⟩ := cells1 hb
  have HB := Lib.hid hb
  have HO := Lib.hid hown
  have HV := Lib.hid hv
  clear hb hown hv
  go_enter Try.func50, Try.ntmps50
  go_wp2_with (at_builtin; refine wpList_append_where _ rfl _ _ 44 rfl base 5 i0 (.int .u8 0) 1 1 Try.underlying44 hi hz0 hzz1 hzz2 rfl (by decide) v k (U8s L) rfl (HO.out.alloc _) ⟨w.heap.size, 0, none⟩ 3 3 (by decide) (U8s (b3 x)) rfl rfl (fun j u hj => cells_new w (U8s (b3 x)) 5 j u hj) (by simp [U8s, b3, Value.oneCell']) (by unfold maxLen; omega) (by omega) (by simp; omega) ?_; intro v' w2 hown' hgrow hwhere; have b3' : w2.heap[b]? = some (.cells #[v] 44) := ((hgrow.block b (by rw [World.size_alloc]; omega) (fun e => HV.out e.symm)).trans ((Below.heap_alloc _ _ _ hlt).trans HB.out)); obtain ⟨u0, uf⟩ := cells1 b3'; have B3 := Lib.hid b3'; have HO2 := Lib.hid hown'; have HG := Lib.hid hgrow; have HW := Lib.hid hwhere; clear b3' hown' hgrow hwhere; obtain ⟨g', cap', rfl⟩ := ownsRow_succ HO2.out)
  have hne : g' ≠ b := by
    rcases HW.out with h | h
    · intro e; subst e; exact HV.out (h.symm.trans rfl)
    · simp [Value.ownBlock] at h; omega
  go_end0
  refine ⟨_, _, rfl, set1_0 B3.out _, ?_, ?_, ?_, ?_⟩
  · unfold U8s at *
    rw [List.map_append]
    refine ownsRow_of_block HO2.out fun g hg => ?_
    obtain rfl : g' = g := by simpa [Value.ownBlock] using hg
    exact Below.heap_setCell _ _ _ _ (by exact hne)
  · simpa [Value.ownBlock] using hne
  · exact ((((Below.refl _ _).alloc (by omega) _).grown HG.out (by simp; omega) (fun j hj => (HO.out.lt j hj).1)).setCell (p := ⟨b, 0, none⟩) hbb _)
  · have := HG.out.size
    simp [World.setCell] at this ⊢; omega

set_option maxRecDepth 100000 in
set_option maxHeartbeats 400000 in
theorem three_any (x : Int) (h1 : -1048576 ≤ x) (h2 : x ≤ 1048576) (w : World)  :
    Calls Try.prog 51 #[.int .i64 x] w fun e w' => e = .returned (.slice (some ⟨w.heap.size, 0, none⟩) 3 3) ∧ w'.heap[w.heap.size]? = some (.cells (U8s (b3 x)).toArray 5) ∧ Below w.heap.size w w' := by
  have g0 : 0 ≤ x + 16777216 := by omega
  go_enter Try.func51, Try.ntmps51
  go_wp2_with fail
  go_ret
  refine ⟨rfl, ?_, (Below.refl _ _).alloc (Nat.le_refl _) _⟩
  rw [World.alloc_heap_new, show x % 16777216 / 65536 = x / 65536 % 256 by omega, show x % 16777216 / 256 % 256 = x / 256 % 256 by omega]
  rfl

def num3 (x y z : Int) : Int := if 8388608 ≤ 65536 * x + 256 * y + z then 65536 * x + 256 * y + z - 16777216 else 65536 * x + 256 * y + z

set_option maxRecDepth 100000 in
set_option maxHeartbeats 400000 in
theorem number_any (b off n cap : Nat) (x y z : Int) (hn : 3 ≤ n) (hx : 0 ≤ x ∧ x ≤ 255) (hy : 0 ≤ y ∧ y ≤ 255) (hz : 0 ≤ z ∧ z ≤ 255) (w : World) (c0 : w.cell? ⟨b, off, none⟩ = some (.int .u8 x)) (c1 : w.cell? ⟨b, off + 1, none⟩ = some (.int .u8 y)) (c2 : w.cell? ⟨b, off + 2, none⟩ = some (.int .u8 z)) :
    Calls Try.prog 53 #[.slice (some ⟨b, off, none⟩) n cap] w fun e w' => e = .returned (.int .i64 (num3 x y z)) ∧ ∃ q, w' = w.drewN q := by
  obtain ⟨hx1, hx2⟩ := hx
  obtain ⟨hy1, hy2⟩ := hy
  obtain ⟨hz1, hz2⟩ := hz
  have n0 : (0 : Int) < (n : Int) := by omega
  have n1 : (1 : Int) < (n : Int) := by omega
  have n2 : (2 : Int) < (n : Int) := by omega
  have m0 : 0 < n := by omega
  have m1 : 1 < n := by omega
  have m2 : 2 < n := by omega
  go_enter Try.func53, Try.ntmps53
  go_wp2_with fail
  go_quiet (fail)
  by_cases hc : 8388608 ≤ 65536 * x + 256 * y + z
  · go_wp2
    go_ret
    exact ⟨by unfold num3; rw [if_pos (by omega)]; rfl, nq, rfl⟩
  · go_wp2
    go_ret
    exact ⟨by unfold num3; rw [if_neg (by omega)]; rfl, nq, rfl⟩

theorem or_mul (a b i m : Nat) (hm : m = 2 ^ i) (h : a < m) : (b * m) ||| a = b * m + a := by
  subst hm
  rw [← Nat.shiftLeft_eq, Nat.shiftLeft_add_eq_or_of_lt h]
theorem ofInt_i64 (a : Nat) (ha : a < 16777216) : (BitVec.ofInt 64 (a : Int)).toNat = a := by
  rw [BitVec.ofInt_natCast, BitVec.toNat_ofNat]; exact Nat.mod_eq_of_lt (by omega)
theorem i64_or_nat (a b : Nat) (ha : a < 16777216) (hb : b < 16777216) : bits .or .i64 (a : Int) (b : Int) = ((a ||| b : Nat) : Int) := by
  have hx : a ||| b < 2 ^ 24 := Nat.or_lt_two_pow (by omega) (by omega)
  show IntKind.i64.wrap ((BitVec.ofInt 64 (a : Int) ||| BitVec.ofInt 64 (b : Int)).toNat : Int) = _
  rw [BitVec.toNat_or, ofInt_i64 a ha, ofInt_i64 b hb]
  simp [IntKind.wrap, IntKind.bits, IntKind.signed]
  omega
theorem or3 (x y z : Int) (hx : 0 ≤ x ∧ x ≤ 255) (hy : 0 ≤ y ∧ y ≤ 255) (hz : 0 ≤ z ∧ z ≤ 255) : bits BinOp.or IntKind.i64 (bits BinOp.or IntKind.i64 (x * 65536) (y * 256)) z = 65536 * x + 256 * y + z := by
  obtain ⟨a, rfl⟩ := Int.eq_ofNat_of_zero_le hx.1
  obtain ⟨b, rfl⟩ := Int.eq_ofNat_of_zero_le hy.1
  obtain ⟨c, rfl⟩ := Int.eq_ofNat_of_zero_le hz.1
  have e1 : ((a : Int) * 65536) = ((a * 65536 : Nat) : Int) := by omega
  have e2 : ((b : Int) * 256) = ((b * 256 : Nat) : Int) := by omega
  have e3 : a * 65536 + b * 256 = (a * 256 + b) * 256 := by omega
  rw [e1, e2, i64_or_nat (a * 65536) (b * 256) (by omega) (by omega), or_mul (b * 256) a 16 65536 (by decide) (by omega), i64_or_nat _ c (by omega) (by omega), e3, or_mul c (a * 256 + b) 8 256 (by decide) (by omega)]
  omega


set_option maxRecDepth 100000 in
set_option maxHeartbeats 400000 in
theorem get_any (bs bi b n cap : Nat) (k : Nat) (x y z : Int) (hn : k + 2 < 17) (hx : 0 ≤ x ∧ x ≤ 255) (hy : 0 ≤ y ∧ y ≤ 255) (hz : 0 ≤ z ∧ z ≤ 255) (off : Nat) (w : World) (hs : w.heap[bs]? = some (.cells #[.slice (some ⟨b, off, none⟩) 17 cap] 44)) (hi : w.heap[bi]? = some (.cells #[.int .i64 k] 3))
    (c0 : w.cell? ⟨b, off + k, none⟩ = some (.int .u8 x)) (c1 : w.cell? ⟨b, off + (k + 1), none⟩ = some (.int .u8 y)) (c2 : w.cell? ⟨b, off + (k + 2), none⟩ = some (.int .u8 z)) :
    Calls Try.prog 52 #[.pointer (some ⟨bs, 0, none⟩), .pointer (some ⟨bi, 0, none⟩)] w fun e w' => e = .returned (.int .i64 (num3 x y z)) ∧ ∃ q, w' = (w.drewN q).setCell ⟨bi, 0, none⟩ (.int .i64 (k + 3)) := by
  obtain ⟨hx1, hx2⟩ := hx
  obtain ⟨hy1, hy2⟩ := hy
  obtain ⟨hz1, hz2⟩ := hz
  have n0 : (k : Int) < 17 := by omega
  have n1 : (k : Int) + 1 < 17 := by omega
  have n2 : (k : Int) + 2 < 17 := by omega
  have m0 : (0 : Int) ≤ (k : Int) := by omega
  have m1 : ((k : Int) + 1).toNat = k + 1 := by omega
  have m2 : ((k : Int) + 2).toNat = k + 2 := by omega
  obtain ⟨d0, df0⟩ := cells1 hs
  obtain ⟨e0, ef0⟩ := cells1 hi
  go_enter Try.func52, Try.ntmps52
  go_wp2_with fail
  go_quiet (fail)
  rw [or3 x y z ⟨hx1, hx2⟩ ⟨hy1, hy2⟩ ⟨hz1, hz2⟩]
  by_cases hc : 8388608 ≤ 65536 * x + 256 * y + z
  · go_wp2
    go_ret
    exact ⟨by unfold num3; rw [if_pos (by omega)]; rfl, nq, rfl⟩
  · go_wp2
    go_ret
    exact ⟨by unfold num3; rw [if_neg (by omega)]; rfl, nq, rfl⟩
end Go.Proofs.Ytkpabecnimakpaa
