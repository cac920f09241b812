/- loads.greatest: the greatest value of a map, in whatever order it is ranged over. Over this seat's program. -/
import Derived.Test.YtdfkbbcnioccfaaGreatLf
import Derived.Test.YtdfkbbcnioccfaaGreatGr
import Derived.Maps.RangeRun
import Derived.WalkKit
import Derived.WalkSpells
import Derived.WalkSmall
import Derived.Lib.Hide
namespace Go.Proofs.YtdfkbbcnioccfaaGreat.Lf
open Go.RowKit
set_option linter.unusedVariables false
theorem run_range_at (w : World) (b : Nat) (es : Array MapEntry) (clock : Nat) (hb : w.heap[b]? = some (.map es clock)) :
    (Instr.range 189 (.map (some b))).run Tryz.prog w = .ok (.pointer (some ⟨w.heap.size, 0, none⟩)) (w.alloc (.mapIter (some b) clock #[] clock)) := by
  simp [Instr.range, run_underlying Tryz.underlying189, Ev.run_getObj_at (P := Tryz.prog) hb (by simp), go_sem]
theorem leftOf_push (es : Array MapEntry) (seen : Array Nat) (e : MapEntry) (he : e ∈ (leftOf es seen).toList) : (leftOf es (seen.push e.born)).size < (leftOf es seen).size := by
  have h1 : (leftOf es (seen.push e.born)).toList = (leftOf es seen).toList.filter fun x => x.born != e.born := by
    unfold leftOf
    rw [Array.toList_filter, Array.toList_filter, List.filter_filter]
    congr 1
    funext x
    rw [Bool.eq_iff_iff]
    simp [and_comm]
  have h2 : ((leftOf es seen).toList.filter fun x => x.born != e.born).length < (leftOf es seen).toList.length := by
    rw [List.length_filter_lt_length_iff_exists]
    exact ⟨e, he, by simp⟩
  rw [← h1] at h2
  simpa using h2
/-- How many entries are left. -/
def leftAt (es : Array MapEntry) (r : Nat) (w : World) : Nat := match w.heap[r]? with
  | some (.mapIter _ _ seen _) => (leftOf es seen).size
  | _ => 0
structure GrI (b r clock : Nat) (es : Array MapEntry) (M : Int) (w : World) (A : Int) (seen : Array Nat) (c0 : Nat) (wr : World) : Prop where
  it : wr.heap[r]? = some (.mapIter (some b) clock seen c0)
  late : clock ≤ c0
  map : wr.heap[b]? = some (.map es clock)
  all : ∀ e ∈ es.toList, seen.contains e.born = true → ∃ x, e.val = .int .i64 x ∧ x ≤ A
  low : 0 ≤ A
  high : A ≤ M
  below : Below w.heap.size w wr
set_option maxHeartbeats 1000000 in
theorem greatest_any (b : Nat) (es : Array MapEntry) (clock : Nat) (M : Int) (w : World) (hb : w.heap[b]? = some (.map es clock)) (hM : Ev.MapMax es clock M) :
    Calls Tryz.prog 122 #[.map (some b)] w fun e w' => e = .returned (.int .i64 M) ∧ Below w.heap.size w w' := by
  have hr := run_range_at w b es clock hb
  have hbl : b < w.heap.size := (Array.getElem?_eq_some_iff.1 hb).1
  have i0 : GrI b w.heap.size clock es M w 0 #[] clock (w.alloc (.mapIter (some b) clock #[] clock)) :=
    ⟨World.alloc_heap_new _ _, Nat.le_refl _, (Below.heap_alloc _ _ _ hbl).trans hb, fun e he h => by simp at h, Int.le_refl _, hM.low, (Below.refl _ _).alloc (Nat.le_refl _) _⟩
  have I0 := Lib.hid i0
  have HM := Lib.hid hM
  clear i0 hM hb
  go_enter Tryz.func122, Tryz.ntmps122
  go_wp2
  go_loopw [3] (fun s3 wr => ∃ A seen c0, s3 = .int .i64 A ∧ GrI b w.heap.size clock es M w A seen c0 wr) (fun _ wr => leftAt es w.heap.size wr)
  case atStart => exact ⟨0, #[], clock, rfl, I0.out⟩
  case round =>
    obtain ⟨A, seen, c0, rfl, hi⟩ := hrel
    have hm := HM.out
    have hrl : w.heap.size < wr.heap.size := (Array.getElem?_eq_some_iff.1 hi.it).1
    rcases run_next_at (P := Tryz.prog) wr 0 w.heap.size b clock c0 seen es clock hi.it hi.map hm.born hi.late with ⟨h0, hn⟩ | ⟨e, he, w1, hw1, hn⟩
    · have hAM : A = M := by
        have hall : ∀ e ∈ es.toList, seen.contains e.born = true := fun e he => by
          have h3 : (leftOf es seen).toList = [] := by
            have := Array.eq_empty_of_size_eq_zero h0
            rw [this]
          unfold leftOf at h3
          rw [Array.toList_filter, List.filter_eq_nil_iff] at h3
          have := h3 e he
          simpa using this
        have h1 := hi.high
        have h2 := hi.low
        rcases hm.met with h4 | ⟨e, he, hv⟩
        · omega
        · obtain ⟨x, h5, h6⟩ := hi.all e he (hall e he)
          rw [hv] at h5
          cases h5
          omega
      have HB := Lib.hid hi.below
      rw [hAM]
      clear hi hm h0 hAM
      go_wp2
      go_ret
      exact ⟨rfl, HB.out⟩
    · have hee : e ∈ es.toList := by
        unfold leftOf at he
        rw [Array.toList_filter] at he
        exact (List.mem_filter.1 he).1
      obtain ⟨x, hx, hx0, hxM⟩ := hm.val e hee
      obtain ⟨W2, hW2⟩ : ∃ W2, Go.ChangeMaps.setBlock w1 w.heap.size (.mapIter (some b) clock (seen.push e.born) clock) = W2 := ⟨_, rfl⟩
      have hh1 : w1.heap = wr.heap ∧ w1.os = wr.os ∧ w1.tape = wr.tape ∧ w1.output = wr.output := by rcases hw1 with rfl | rfl <;> exact ⟨rfl, rfl, rfl, rfl⟩
      have a1 : W2.heap[w.heap.size]? = some (.mapIter (some b) clock (seen.push e.born) clock) := by
        rw [← hW2]; simp [Go.ChangeMaps.setBlock, hh1.1, hrl]
      have a0 : ∀ k, k ≠ w.heap.size → W2.heap[k]? = wr.heap[k]? := fun k hk => by
        rw [← hW2]; simp [Go.ChangeMaps.setBlock, hh1.1, Array.getElem?_setIfInBounds_ne (Ne.symm hk)]
      have a3 : W2.heap.size = wr.heap.size := by rw [← hW2]; simp [Go.ChangeMaps.setBlock, hh1.1]
      have a4 : W2.os = wr.os ∧ W2.tape = wr.tape ∧ W2.output = wr.output := by rw [← hW2]; exact hh1.2
      have a2 : W2.heap[b]? = some (.map es clock) := (a0 b (by omega)).trans hi.map
      have hen := run_entry_at (P := Tryz.prog) W2 w.heap.size b clock seen es clock e a1 a2 hee hm.nodup
      rw [hW2] at hn
      rw [hx] at hn hen
      have hA0 := hi.low
      have hAM := hi.high
      have hMh := hm.high
      have i2 : GrI b w.heap.size clock es M w (max A x) (seen.push e.born) clock W2 := by
        refine ⟨a1, Nat.le_refl _, a2, fun e' he' hc => ?_, by omega, by omega, hi.below.trans ⟨a4.1, a4.2.1, a4.2.2, by omega, fun k hk => a0 k (by omega)⟩⟩
        rw [Array.contains_push, Bool.or_eq_true] at hc
        rcases hc with hc | hc
        · obtain ⟨y, h5, h6⟩ := hi.all e' he' hc
          exact ⟨y, h5, by omega⟩
        · have hbb : e'.born = e.born := by first | exact beq_iff_eq.1 hc | exact (beq_iff_eq.1 hc).symm
          have : e' = e := by
            have f1 := find_born e' es.toList hm.nodup he'
            have f2 := find_born e es.toList hm.nodup hee
            rw [hbb, f2] at f1
            exact (Option.some.inj f1).symm
          subst this
          exact ⟨x, hx, by omega⟩
      have hlt : leftAt es w.heap.size W2 < leftAt es w.heap.size wr := by
        unfold leftAt; rw [a1, hi.it]; exact leftOf_push es seen e he
      have I2 := Lib.hid i2
      have HLT := Lib.hid hlt
      clear i2 hlt a0 a1 a2 a3 a4 hW2 hh1 hi hm hx hee he hw1
      by_cases hle : A < x
      · have hmx : max A x = x := by omega
        have g1 : wrap64 x = x := by unfold wrap64; omega
        rw [hmx] at I2
        clear hmx
        go_wp2
        exact ⟨⟨x, _, _, by first | rfl | simp [hle], I2.out⟩, HLT.out⟩
      · have hmx : max A x = A := by omega
        rw [hmx] at I2
        clear hmx
        go_wp2
        exact ⟨⟨A, _, _, by first | rfl | simp [hle], I2.out⟩, HLT.out⟩
theorem greatest_name (ar : Array Value) (w : World) : (callFunc 122 ar).run Tryz.prog w = .ok (.enter 122 ar) w := by
  simp [callFunc, Tryz.func122]
  rfl
noncomputable def grC : Ev.Orc := Ev.grO 122
theorem grC_ok : Ev.OrcS Tryz.prog grC := Ev.grO_ok greatest_name fun b es clock M w hb hM => greatest_any b es clock M w hb hM
end Go.Proofs.YtdfkbbcnioccfaaGreat.Lf
