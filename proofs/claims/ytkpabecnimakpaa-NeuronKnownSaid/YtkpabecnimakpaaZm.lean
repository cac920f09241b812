/- Unpack for every list of bytes; what bytes and neurons say of each other. -/
import Derived.Test.YtkpabecnimakpaaZ
import Derived.Test.YtkpabecnimakpaaO
namespace Go.Proofs.Ytkpabecnimakpaa
set_option linter.unusedVariables false
open Go.RowKit

theorem num3_b3 (x : Int) (h1 : -8388608 ≤ x) (h2 : x < 8388608) : num3 (x / 65536 % 256) (x / 256 % 256) (x % 256) = x := by
  unfold num3; split <;> omega
theorem b3_num3 (x y z : Int) (hx : 0 ≤ x ∧ x ≤ 255) (hy : 0 ≤ y ∧ y ≤ 255) (hz : 0 ≤ z ∧ z ≤ 255) : b3 (num3 x y z) = [x, y, z] := by
  unfold num3 b3
  split
  · rw [show (65536 * x + 256 * y + z - 16777216) / 65536 % 256 = x by omega, show (65536 * x + 256 * y + z - 16777216) / 256 % 256 = y by omega, show (65536 * x + 256 * y + z - 16777216) % 256 = z by omega]
  · rw [show (65536 * x + 256 * y + z) / 65536 % 256 = x by omega, show (65536 * x + 256 * y + z) / 256 % 256 = y by omega, show (65536 * x + 256 * y + z) % 256 = z by omega]

theorem unP_bytesP (p : Prm) (hc : checkP p = 0) : unP (bytesP p) = p := by
  have hok := ok_of_check hc
  obtain ⟨lk0, lk2, rk0, rk1, lv0, lvM, _, _, _, bi0, biM, fl0, flM, th0, thM, re0, reM, sub, tt⟩ := hok
  have rs0 : -1048576 ≤ p.rs ∧ p.rs ≤ 1048576 := by
    by_cases e : p.rk = 1
    · have := sub e; omega
    · have := tt (by omega); omega
  unfold unP bytesP b3
  simp only [List.cons_append, List.nil_append, List.getElem?_cons_zero, List.getElem?_cons_succ, Option.getD_some]
  rw [num3_b3 _ (by omega) (by omega), num3_b3 _ (by omega) (by omega), num3_b3 _ (by omega) (by omega), num3_b3 _ (by omega) (by omega), num3_b3 _ (by omega) (by omega), show (p.lk + 4 * p.rk) % 4 = p.lk by omega, show (p.lk + 4 * p.rk) / 4 = p.rk by omega]

theorem list17 {l : List Int} (h : l.length = 17) : ∃ a0 a1 a2 a3 a4 a5 a6 a7 a8 a9 a10 a11 a12 a13 a14 a15 a16, l = [a0, a1, a2, a3, a4, a5, a6, a7, a8, a9, a10, a11, a12, a13, a14, a15, a16] := by
  match l, h with
  | [a0, a1, a2, a3, a4, a5, a6, a7, a8, a9, a10, a11, a12, a13, a14, a15, a16], _ => exact ⟨a0, a1, a2, a3, a4, a5, a6, a7, a8, a9, a10, a11, a12, a13, a14, a15, a16, rfl⟩

theorem bytesP_unP (L : List Int) (hL : L.length = 17) (hb : ∀ z ∈ L, 0 ≤ z ∧ z ≤ 255) : bytesP (unP L) = L := by
  obtain ⟨a0, a1, a2, a3, a4, a5, a6, a7, a8, a9, a10, a11, a12, a13, a14, a15, a16, rfl⟩ := list17 hL
  simp only [List.mem_cons, List.not_mem_nil, or_false, forall_eq_or_imp, forall_eq] at hb
  obtain ⟨h0, h1, h2, h3, h4, h5, h6, h7, h8, h9, h10, h11, h12, h13, h14, h15, h16⟩ := hb
  unfold unP bytesP
  simp only [List.getElem?_cons_zero, List.getElem?_cons_succ, Option.getD_some]
  rw [b3_num3 _ _ _ h1 h2 h3, b3_num3 _ _ _ h4 h5 h6, b3_num3 _ _ _ h7 h8 h9, b3_num3 _ _ _ h10 h11 h12, b3_num3 _ _ _ h13 h14 h15, show a0 % 4 + 4 * (a0 / 4) = a0 by omega]
  rfl

theorem bytesP_len (p : Prm) : (bytesP p).length = 17 := by simp [bytesP, b3]
theorem b3_byte (x : Int) : ∀ z ∈ b3 x, 0 ≤ z ∧ z ≤ 255 := by
  intro z hz; simp only [b3, List.mem_cons, List.not_mem_nil, or_false] at hz; rcases hz with rfl | rfl | rfl <;> omega
theorem bytesP_byte (p : Prm) (hc : checkP p = 0) : ∀ z ∈ bytesP p, 0 ≤ z ∧ z ≤ 255 := by
  have hok := ok_of_check hc
  obtain ⟨lk0, lk2, rk0, rk1, lv0, lvM, _, _, _, bi0, biM, fl0, flM, th0, thM, re0, reM, sub, tt⟩ := hok
  intro z hz
  simp only [bytesP, List.mem_append, List.mem_singleton] at hz
  rcases hz with (((((rfl | h) | h) | h) | h) | h) | rfl
  · omega
  · exact b3_byte _ z h
  · exact b3_byte _ z h
  · exact b3_byte _ z h
  · exact b3_byte _ z h
  · exact b3_byte _ z h
  · omega
theorem unF_bytesP (p : Prm) (hc : checkP p = 0) : unF (bytesP p) = (p, 0) := by
  unfold unF; rw [if_neg (by rw [bytesP_len]; omega), if_neg (by rw [bytesP_len]; omega), unP_bytesP p hc, if_pos hc]

set_option maxRecDepth 100000 in
set_option maxHeartbeats 1000000 in
theorem unpack_torn (a : Option Addr) (n cap : Nat) (hn : n < 17) (w : World) :
    Calls Try.prog 35 #[.slice a n cap] w fun e w' => e = .returned (.tuple #[agP zeroP, .int .i64 19]) ∧ Below w.heap.size w w' := by
  have g1 : ((n : Int) < 17) = True := by simp; omega
  go_enter Try.func35, Try.ntmps35
  go_wp2_with fail
  exact bodyPost_ret (v := .tuple #[.agg #[.int .i64 0, .int .i64 0, .int .i64 0, .int .i64 0, .int .i64 0, .int .i64 0, .int .i64 0, .int .i64 0], .int .i64 19]) (by simp [results, Try.results35, go_sem]) rfl ⟨rfl, ((Below.refl _ _).alloc (Nat.le_refl _) _).alloc (by simp) _⟩
set_option maxRecDepth 100000 in
set_option maxHeartbeats 1000000 in
theorem unpack_long (a : Option Addr) (n cap : Nat) (hn : 17 < n) (w : World) :
    Calls Try.prog 35 #[.slice a n cap] w fun e w' => e = .returned (.tuple #[agP zeroP, .int .i64 8]) ∧ Below w.heap.size w w' := by
  have g1 : ((n : Int) < 17) = False := by simp; omega
  have g2 : ((17 : Int) < (n : Int)) = True := by simp; omega
  go_enter Try.func35, Try.ntmps35
  go_wp2_with fail
  exact bodyPost_ret (v := .tuple #[.agg #[.int .i64 0, .int .i64 0, .int .i64 0, .int .i64 0, .int .i64 0, .int .i64 0, .int .i64 0, .int .i64 0], .int .i64 8]) (by simp [results, Try.results35, go_sem]) rfl ⟨rfl, ((Below.refl _ _).alloc (Nat.le_refl _) _).alloc (by simp) _⟩

theorem unpack_any (a : Option Addr) (cap : Nat) (L : List Int) (hb : ∀ z ∈ L, 0 ≤ z ∧ z ≤ 255) (w : World) (h : KAt .u8 w (.slice a L.length cap) L) :
    Calls Try.prog 35 #[.slice a L.length cap] w (Unp L w) := by
  by_cases h1 : L.length < 17
  · refine (unpack_torn a _ cap h1 w).mono fun e w' ⟨he, hb⟩ => ⟨?_, hb⟩
    rw [he]; unfold unF; rw [if_pos h1]
  by_cases h2 : 17 < L.length
  · refine (unpack_long a _ cap h2 w).mono fun e w' ⟨he, hb⟩ => ⟨?_, hb⟩
    rw [he]; unfold unF; rw [if_neg h1, if_pos h2]
  have hL : L.length = 17 := by omega
  rcases h with ⟨_, rfl⟩ | ⟨b, off, cap', e, hc⟩
  · simp at hL
  · cases e
    rw [hL]
    refine unpack_17 b off cap L hL (fun j hj => ?_) w (fun j hj => hc j (by omega))
    rw [List.getElem?_eq_getElem (by omega)]
    exact hb _ (List.getElem_mem _)

theorem kat_of_owns {W : World} {base : Nat} {v : Value} {L : List Int} (h : W.ownsRow base 5 1 v L.length (U8s L)) (hL : 0 < L.length) : ∃ a cap, v = .slice a L.length cap ∧ KAt .u8 W (.slice a L.length cap) L := by
  rcases h.2 with ⟨_, hn⟩ | ⟨g, cap, cur, rfl, _⟩
  · first | omega | (simp at hn; simp [hn] at hL)
  · refine ⟨_, _, rfl, Or.inr ⟨g, 0, cap, rfl, fun j hj => ?_⟩⟩
    have := h.cells (g := g) rfl j (.int .u8 (L[j]?.getD 0)) (by unfold U8s; rw [List.getElem?_map, List.getElem?_eq_getElem hj]; rfl)
    have e : (⟨g, 0, none⟩ : Addr).add j = ⟨g, j, none⟩ := by unfold Addr.add; split <;> simp_all
    rw [e] at this
    rw [Nat.zero_add]; exact this
theorem KAt.below {k : IntKind} {w W : World} {sv : Value} {zs : List Int} (h : KAt k w sv zs) (hb : Below w.heap.size w W) : KAt k W sv zs := by
  rcases h with h | ⟨b, off, cap, e, hc⟩
  · exact Or.inl h
  · exact Or.inr ⟨b, off, cap, e, fun j hj => (hb.cell (p := ⟨b, off + j, none⟩) (World.block_lt_of_cell? w _ (hc j hj))).trans (hc j hj)⟩
end Go.Proofs.Ytkpabecnimakpaa
