/- What a slice of ints as an argument reads as; all calls that CalcLeast makes. (mk_Dd.py wrote this.) -/
import Derived.Test.YthfmbmjjfdhhnaaDc
import Derived.Test.YthfmbmjjfdhhnaaCf
namespace Go.Proofs.Ythfmbmjjfdhhnaa
open Go.ChangeShapes Go.WideShapes Go.ChangeAt Go.RowKit
set_option linter.unusedVariables false

section
variable {H : Type} {enc : TypeId × Value → H} {P : Program} {w : World} {base : Nat} {held : Bool}
theorem open_slice_k {r : Reach} {b0 t e : Nat} {k : IntKind} {v : Value} {d : DataW H} {p : List MemPlace} (ht : P.underlying t = some (.slice e)) (he : P.underlying e = some (.int k)) (hc : P.cellsOf e = 1)
    (hv : Value.okWide P w r b0 t v) (h : DataW.Trod enc P w base (fun _ => true) held t v d p) :
    ∃ (sa : Option Addr) (sc : Nat) (zs : List Int), v = .slice sa zs.length sc ∧ KAt k w (.slice sa zs.length sc) zs ∧ ∀ z ∈ zs, (Lit.int k z).wf = true := by
  have hv' : Cell.okWide P w r b0 t v := by simpa only [Value.okWide, ht] using hv
  rcases cellOkWide_slice ht hv' with rfl | ⟨b, off, n, cap, rfl, hlt⟩
  · exact ⟨none, 0, [], rfl, Or.inl ⟨rfl, rfl⟩, by simp⟩
  · obtain ⟨fuel, hf⟩ := h
    rcases open_ints ht he hc hf with ⟨h0, _⟩ | ⟨a', len, cap', zs, h1, _, hl, hm, hz, _, hcell, hwf⟩
    · simp [Value.cells] at h0
    · simp [Value.cells] at h1
      obtain ⟨rfl, rfl, rfl⟩ := h1
      simp at hz
      have hlen : (zs.take n).length = n := by simp; omega
      refine ⟨some ⟨b, off, none⟩, cap, zs.take n, by rw [hlen], Or.inr ⟨b, off, cap, rfl, hlt, fun j z hj => ?_⟩, fun z hz' => hwf z (List.mem_of_mem_take hz')⟩
      have hjn : j < n := by
        have := (List.getElem?_eq_some_iff.1 hj).1
        omega
      have h2 := hcell j (by omega)
      have hadd : (⟨b, off, none⟩ : Addr).add j = ⟨b, off + j, none⟩ := by unfold Addr.add; split <;> simp_all
      rw [hadd] at h2
      rw [h2]
      have h3 : zs[j]? = some z := by rw [List.getElem?_take, if_pos hjn] at hj; exact hj
      simp [h3]
end
/-- The times of a list of bytes. -/
def riseF (zs : List Int) (k : Nat) : Int := riseT zs (k + 1)
theorem rise_times (zs : List Int) (hl : zs.length ≤ 60) : TimesAt (riseF zs) (riseL zs zs.length) := by
  refine ⟨by rw [riseL_length]; omega, fun j z hz => ?_, fun k => (riseT_le zs _).2, fun k hk => ?_, fun k => riseT_mono zs (k + 1)⟩
  · have hj := (List.getElem?_eq_some_iff.1 hz).1
    rw [riseL_length] at hj
    rw [riseL_get zs hj] at hz
    exact (Option.some.inj hz).symm
  · rw [riseL_length] at hk
    have := (riseT_le zs (k + 1)).1
    unfold riseF
    push_cast at this
    omega
/-- What rising gives back. -/
def RiseOut (l : List Int) (w : World) (e : Ending) (w' : World) : Prop := ∃ a c, e = .returned (.slice a l.length c) ∧ KAt .i64 w' (.slice a l.length c) l ∧ Below w.heap.size w w'
theorem rise_any (zs : List Int) (a : Option Addr) (cap : Nat) (hl : zs.length ≤ 60) (hz : ∀ z ∈ zs, 0 ≤ z ∧ z ≤ 255) (w : World) (hc : KAt .u8 w (.slice a zs.length cap) zs) :
    Calls Try.prog 14 #[.slice a zs.length cap] w (RiseOut (riseL zs zs.length) w) := by
  refine (rising_any zs a cap hl hz w hc).mono ?_
  rintro e w' ⟨v, rfl, ho, hb⟩
  have ho' : w'.ownsRow w.heap.size 3 1 v (riseL zs zs.length).length (iCs (riseL zs zs.length)) := by rw [riseL_length]; exact ho
  have hk := kat_of_owns ho'
  rcases Go.Joins.ownsRow_forms ho' with ⟨rfl, h0⟩ | ⟨g, c, rfl⟩
  · exact ⟨none, 0, by rw [h0], by rw [h0]; exact hk, hb⟩
  · exact ⟨_, _, rfl, hk, hb⟩
/-- What the law's calls give at a list of times. -/
structure LeastCalls (m : Nat) (a : Option Addr) (c : Nat) (r U : Int) (w : World) : Prop where
  lo : 0 ≤ U
  hi : U ≤ 1024 * (m : Int)
  burst : ∀ W, Below w.heap.size w W → Calls Try.prog 15 #[.slice a m c, .int .i64 r] W fun e w' => e = .returned (.tuple #[.int .i64 U, .int .i64 0]) ∧ Below W.heap.size W w'
  yes : ∀ W, Below w.heap.size w W → Calls Try.prog 16 #[.slice a m c, .agg #[.int .i64 U, .int .i64 r]] W fun e w' => e = .returned (.bool true) ∧ Below W.heap.size W w'
  no : 0 < U → ∀ W, Below w.heap.size w W → Calls Try.prog 16 #[.slice a m c, .agg #[.int .i64 (U - 1), .int .i64 r]] W fun e w' => e = .returned (.bool false) ∧ Below W.heap.size W w'
  cyes : ∀ W, Below w.heap.size w W → Calls Try.prog 18 #[.slice a m c, .agg #[.int .i64 U, .int .i64 r]] W fun e w' => e = .returned (.tuple #[.bool true, .int .i64 0]) ∧ Below W.heap.size W w'
  cno : 0 < U → ∀ W, Below w.heap.size w W → Calls Try.prog 18 #[.slice a m c, .agg #[.int .i64 (U - 1), .int .i64 r]] W fun e w' => e = .returned (.tuple #[.bool false, .int .i64 0]) ∧ Below W.heap.size W w'
theorem least_calls (T : Nat → Int) (l : List Int) (a : Option Addr) (c : Nat) (r : Int) (ht : TimesAt T l) (hl : l.length ≤ 60) (hr : 0 ≤ r ∧ r ≤ 1024) (w : World) (hc : KAt .i64 w (.slice a l.length c) l) :
    LeastCalls l.length a c r (bur T r l.length) w := by
  have h0 := bur_nonneg T r l.length
  have h1 := bur_le T r hr ht.pos ht.mono l.length
  refine ⟨h0, h1, fun W h => burst_any T l a c r ht hr W (hc.below h), fun W h => ?_, fun hu W h => ?_, fun W h => ?_, fun hu W h => ?_⟩
  · have := keeps_any T l a c (bur T r l.length) r ht (by omega) hr W (hc.below h)
    rwa [keepsB_true (keeps_bur T r l.length)] at this
  · have := keeps_any T l a c (bur T r l.length - 1) r ht (by omega) hr W (hc.below h)
    rwa [keepsB_false (not_keeps T r l.length hu)] at this
  · have := ckeeps_any T l a c (bur T r l.length) r ht (by omega) hr W (hc.below h)
    unfold KeepsOut at this
    rwa [show decide (bur T r l.length ≤ bur T r l.length) = true by simp] at this
  · have := ckeeps_any T l a c (bur T r l.length - 1) r ht (by omega) hr W (hc.below h)
    unfold KeepsOut at this
    rwa [show decide (bur T r l.length ≤ bur T r l.length - 1) = false by simp; omega] at this
end Go.Proofs.Ythfmbmjjfdhhnaa
