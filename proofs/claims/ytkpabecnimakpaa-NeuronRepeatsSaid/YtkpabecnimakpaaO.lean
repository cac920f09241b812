/- What a slice of ints reads as; Run's outcome, one contract for both Runs. -/
import Derived.Test.YtkpabecnimakpaaN
import Derived.Test.YtkpabecnimakpaaM
import Derived.ChangeSlices
namespace Go.Proofs.Ytkpabecnimakpaa
set_option linter.unusedVariables false
open Go.ChangeShapes Go.WideShapes Go.ChangeAt Go.RowKit

/-- The slice's elements, ints of one kind, lie at sv in W. -/
def KAt (k : IntKind) (W : World) (sv : Value) (zs : List Int) : Prop :=
  (sv = .slice none 0 0 ∧ zs = []) ∨ ∃ b off cap, sv = .slice (some ⟨b, off, none⟩) zs.length cap ∧ ∀ j, j < zs.length → W.cell? ⟨b, off + j, none⟩ = some (.int k (zs[j]?.getD 0))
theorem intsAt_of_k {W : World} {sv : Value} {zs : List Int} (h : KAt .i64 W sv zs) : IntsAt W sv zs := h

section
variable {H : Type} {enc : TypeId × Value → H} {P : Program} {w : World} {base : Nat} {held : Bool}
theorem okWide_slice {r : Reach} {b0 t e : Nat} {v : Value} (ht : P.underlying t = some (.slice e)) (hv : Value.okWide P w r b0 t v) : v = .slice none 0 0 ∨ ∃ a n cap, v = .slice (some a) n cap ∧ a.spot = none := by
  simp only [Value.okWide, ht, Cell.okWide] at hv
  cases v <;> simp [Cell.ok, ht] at hv
  rename_i a n cap
  cases a with
  | none =>
    left
    cases n <;> cases cap <;> simp_all
  | some a =>
    right
    simp [World.has] at hv
    exact ⟨a, n, cap, rfl, hv.2.2.2.1⟩

theorem open_slice_k {r : Reach} {b0 t e : Nat} {k : IntKind} {v : Value} {d : DataW H} {p : List MemPlace} (ht : P.underlying t = some (.slice e)) (he : P.underlying e = some (.int k)) (hc : P.cellsOf e = 1)
    (hv : Value.okWide P w r b0 t v) (h : DataW.Trod enc P w base (fun _ => true) held t v d p) :
    ∃ (sa : Option Addr) (sn sc : Nat) (zs : List Int), v = .slice sa sn sc ∧ sn = zs.length ∧ KAt k w (.slice sa sn sc) zs ∧ zs.length ≤ 9223372036854775807 ∧ ∀ z ∈ zs, (Lit.int k z).wf = true := by
  rcases okWide_slice ht hv with rfl | ⟨a, n, cap, rfl, hs⟩
  · exact ⟨none, 0, 0, [], rfl, rfl, Or.inl ⟨rfl, rfl⟩, by simp, by simp⟩
  · obtain ⟨fuel, hf⟩ := h
    rcases open_ints ht he hc hf with ⟨h0, _⟩ | ⟨a', len, cap', zs, h1, _, hl, hm, hz, _, hcell, hwf⟩
    · simp [Value.cells] at h0
    · simp [Value.cells] at h1
      obtain ⟨rfl, rfl, rfl⟩ := h1
      simp at hz
      have hlen : (zs.take n).length = n := by simp; omega
      refine ⟨some a, n, cap, zs.take n, rfl, hlen.symm, Or.inr ⟨a.block, a.off, cap, ?_, ?_⟩, ?_, fun z hz' => hwf z (List.mem_of_mem_take hz')⟩
      · rw [hlen]; cases a; simp at hs; subst hs; rfl
      · intro j hj
        rw [hlen] at hj
        have := hcell j (by omega)
        have hadd : a.add j = ⟨a.block, a.off + j, none⟩ := by
          cases a; simp at hs; subst hs; unfold Addr.add; split <;> simp_all
        rw [hadd] at this
        rw [this]
        have hjz : j < zs.length := by omega
        simp [hj, hjz]
      · rw [hlen]; unfold maxLen at hm; omega
end

section
variable {H : Type} {enc : TypeId × Value → H} {w : World} {base : Nat} {held : Bool}
theorem open_slice_ints {r : Reach} {b0 : Nat} {v : Value} {d : DataW H} {p : List MemPlace} (hv : Value.okWide Try.prog w r b0 35 v) (h : DataW.Trod enc Try.prog w base (fun _ => true) held 35 v d p) :
    ∃ (sa : Option Addr) (sn sc : Nat) (zs : List Int), v = .slice sa sn sc ∧ sn = zs.length ∧ IntsAt w (.slice sa sn sc) zs ∧ zs.length ≤ 9223372036854775807 := by
  obtain ⟨sa, sn, sc, zs, h1, h2, h3, h4, _⟩ := open_slice_k Try.underlying35 Try.underlying3 (by kernel_rfl) hv h
  exact ⟨sa, sn, sc, zs, h1, h2, h3, h4⟩
end

/-- What Run returns: the ticks with spikes, the state, the error. -/
def runF (p : Prm) (V R : Int) (zs : List Int) : List Int × Int × Int × Int :=
  if validP p V R ≠ 0 then ([], 0, 0, validP p V R) else if 10000 < zs.length then ([], 0, 0, 9)
  else (spkL (runL p V R zs) zs.length, (after p V R zs).1, (after p V R zs).2, 0)

theorem runF_short (p : Prm) (V R : Int) (zs : List Int) : (runF p V R zs).1.length ≤ 10000 := by
  unfold runF
  split
  · simp
  · split
    · simp
    · have := spkL_le (runL p V R zs) zs.length
      simp only
      omega

/-- Run's outcome in the world after the call. -/
def RunOut (p : Prm) (V R : Int) (zs : List Int) (w : World) (e : Ending) (w' : World) : Prop :=
  ∃ a cap, e = .returned (.tuple #[.slice a (runF p V R zs).1.length cap, .agg #[.int .i64 (runF p V R zs).2.1, .int .i64 (runF p V R zs).2.2.1], .int .i64 (runF p V R zs).2.2.2]) ∧
    IntsAt w' (.slice a (runF p V R zs).1.length cap) (runF p V R zs).1 ∧ Below w.heap.size w w'

theorem runOut_done {p : Prm} {V R : Int} {zs : List Int} {w w' : World} {e : Ending} (hv : validP p V R = 0) (hl : zs.length ≤ 10000) (h : RunDone p V R zs w e w') : RunOut p V R zs w e w' := by
  obtain ⟨v, rfl, ho, hb⟩ := h
  have hf : runF p V R zs = (spkL (runL p V R zs) zs.length, (after p V R zs).1, (after p V R zs).2, 0) := by
    unfold runF; rw [if_neg (by simp [hv]), if_neg (by omega)]
  have hi := intsAt_of_owns ho
  obtain ⟨a, cap, rfl⟩ := hi.len
  unfold RunOut
  rw [hf]
  exact ⟨a, cap, rfl, hi, hb⟩

theorem run_any (p : Prm) (V R : Int) (a : Option Addr) (cap : Nat) (zs : List Int) (w : World) (hI : IntsAt w (.slice a zs.length cap) zs) :
    Calls Try.prog 24 #[.agg #[.int .i64 p.lk, .int .i64 p.lv, .int .i64 p.bi, .int .i64 p.th, .int .i64 p.rk, .int .i64 p.rs, .int .i64 p.fl, .int .i64 p.re], .agg #[.int .i64 V, .int .i64 R], .slice a zs.length cap] w (RunOut p V R zs w) := by
  by_cases hv : validP p V R = 0
  · by_cases hl : zs.length ≤ 10000
    · exact (run_ok p V R hv a cap zs hl w hI).mono fun e w' h => runOut_done hv hl h
    · refine (run_many p V R hv a _ cap (by omega) w).mono ?_
      rintro e w' ⟨rfl, hb⟩
      have hf : runF p V R zs = ([], 0, 0, 9) := by unfold runF; rw [if_neg (by simp [hv]), if_pos (by omega)]
      unfold RunOut
      rw [hf]
      exact ⟨none, 0, rfl, Or.inl ⟨rfl, rfl⟩, hb⟩
  · refine (run_err p V R hv a _ cap w).mono ?_
    rintro e w' ⟨rfl, hb⟩
    have hf : runF p V R zs = ([], 0, 0, validP p V R) := by unfold runF; rw [if_pos hv]
    unfold RunOut
    rw [hf]
    exact ⟨none, 0, rfl, Or.inl ⟨rfl, rfl⟩, hb⟩

theorem rrun_any (p : Prm) (V R : Int) (a : Option Addr) (cap : Nat) (zs : List Int) (w : World) (hI : IntsAt w (.slice a zs.length cap) zs) :
    Calls Try.prog 25 #[.agg #[.int .i64 p.lk, .int .i64 p.lv, .int .i64 p.bi, .int .i64 p.th, .int .i64 p.rk, .int .i64 p.rs, .int .i64 p.fl, .int .i64 p.re], .agg #[.int .i64 V, .int .i64 R], .slice a zs.length cap] w (RunOut p V R zs w) := by
  by_cases hv : validP p V R = 0
  · by_cases hl : zs.length ≤ 10000
    · exact (rrun_ok p V R hv a cap zs hl w hI).mono fun e w' h => runOut_done hv hl h
    · refine (rrun_many p V R hv a _ cap (by omega) w).mono ?_
      rintro e w' ⟨rfl, hb⟩
      have hf : runF p V R zs = ([], 0, 0, 9) := by unfold runF; rw [if_neg (by simp [hv]), if_pos (by omega)]
      unfold RunOut
      rw [hf]
      exact ⟨none, 0, rfl, Or.inl ⟨rfl, rfl⟩, hb⟩
  · refine (rrun_err p V R hv a _ cap w).mono ?_
    rintro e w' ⟨rfl, hb⟩
    have hf : runF p V R zs = ([], 0, 0, validP p V R) := by unfold runF; rw [if_pos hv]
    unfold RunOut
    rw [hf]
    exact ⟨none, 0, rfl, Or.inl ⟨rfl, rfl⟩, hb⟩

/-- Run's outcome, its parts named. -/
def RunGot (L : List Int) (X Y er : Int) (w : World) (e : Ending) (w' : World) : Prop :=
  ∃ a cap, e = .returned (.tuple #[.slice a L.length cap, .agg #[.int .i64 X, .int .i64 Y], .int .i64 er]) ∧ IntsAt w' (.slice a L.length cap) L ∧ Below w.heap.size w w'

theorem run_got {p : Prm} {V R : Int} {zs L : List Int} {X Y er : Int} (hF : runF p V R zs = (L, X, Y, er)) (a : Option Addr) (cap : Nat) (w : World) (hI : IntsAt w (.slice a zs.length cap) zs) :
    Calls Try.prog 24 #[.agg #[.int .i64 p.lk, .int .i64 p.lv, .int .i64 p.bi, .int .i64 p.th, .int .i64 p.rk, .int .i64 p.rs, .int .i64 p.fl, .int .i64 p.re], .agg #[.int .i64 V, .int .i64 R], .slice a zs.length cap] w (RunGot L X Y er w) := by
  refine (run_any p V R a cap zs w hI).mono fun e w' h => ?_
  unfold RunOut at h; rw [hF] at h; exact h
theorem rrun_got {p : Prm} {V R : Int} {zs L : List Int} {X Y er : Int} (hF : runF p V R zs = (L, X, Y, er)) (a : Option Addr) (cap : Nat) (w : World) (hI : IntsAt w (.slice a zs.length cap) zs) :
    Calls Try.prog 25 #[.agg #[.int .i64 p.lk, .int .i64 p.lv, .int .i64 p.bi, .int .i64 p.th, .int .i64 p.rk, .int .i64 p.rs, .int .i64 p.fl, .int .i64 p.re], .agg #[.int .i64 V, .int .i64 R], .slice a zs.length cap] w (RunGot L X Y er w) := by
  refine (rrun_any p V R a cap zs w hI).mono fun e w' h => ?_
  unfold RunOut at h; rw [hF] at h; exact h
theorem equal_same (a1 a2 : Option Addr) (c1 c2 : Nat) (L : List Int) (hl : L.length ≤ 10000) (w : World) (h1 : IntsAt w (.slice a1 L.length c1) L) (h2 : IntsAt w (.slice a2 L.length c2) L) :
    Calls Try.prog 26 #[.slice a1 L.length c1, .slice a2 L.length c2] w fun e w' => e = .returned (.bool true) ∧ Below w.heap.size w w' := by
  refine (equal_any a1 a2 c1 c2 L L (by omega) (by omega) w h1 h2).mono ?_
  rintro e w' ⟨rfl, hb⟩
  exact ⟨by simp, hb⟩

end Go.Proofs.Ytkpabecnimakpaa
