/- learn.checkRule. -/
import Derived.Test.YtipodippfddlpaaLb
import Derived.Deep.RegionHeld3
import Derived.RangeFuncRecord
namespace Go.Proofs.Ytipodippfddlpaa.Lrn
set_option linter.unusedVariables false
open Go.RowKit

theorem alloc_new_at (W : World) (o : Obj) (k : Nat) (h : k = W.heap.size) : (W.alloc o).heap[k]? = some o := by subst h; exact World.alloc_heap_new W o
theorem bcell {W w1 : World} (hb : Below W.heap.size W w1) : (∀ b o, b < W.heap.size → w1.cell? ⟨b, o, none⟩ = W.cell? ⟨b, o, none⟩) ∧ (∀ b o, b < W.heap.size → w1.frozen? ⟨b, o, none⟩ = W.frozen? ⟨b, o, none⟩) :=
  ⟨fun b o h => hb.cell (p := ⟨b, o, none⟩) h, fun b o h => hb.frozen (p := ⟨b, o, none⟩) h⟩
theorem cells10 {W : World} {b : Nat} {v0 v1 v2 v3 v4 v5 v6 v7 v8 v9 : Value} {t : TypeId} (h : W.heap[b]? = some (.cells #[v0, v1, v2, v3, v4, v5, v6, v7, v8, v9] t)) :
    W.cell? ⟨b, 0, none⟩ = some v0 ∧ W.cell? ⟨b, 1, none⟩ = some v1 ∧ W.cell? ⟨b, 2, none⟩ = some v2 ∧ W.cell? ⟨b, 3, none⟩ = some v3 ∧ W.cell? ⟨b, 4, none⟩ = some v4 ∧ W.cell? ⟨b, 5, none⟩ = some v5 ∧ W.cell? ⟨b, 6, none⟩ = some v6 ∧ W.cell? ⟨b, 7, none⟩ = some v7 ∧ W.cell? ⟨b, 8, none⟩ = some v8 ∧ W.cell? ⟨b, 9, none⟩ = some v9 := by simp [World.cell?, h]
set_option maxRecDepth 100000 in
/-- What the rule's kind is looked up as. -/
theorem kind_look {W : World} {b n : Nat} (h : MapIs W b n kindT) (k : Int) (hk : (Lit.int .i64 k).wf = true) :
    ∀ W', W'.heap[b]? = W.heap[b]? → (Instr.lookup 144 (.map (some b)) (.int .i64 k) true).run Try.prog W' = .ok (.tuple #[(kindT k).getD .nilFunc, .bool (decide (k = 1 ∨ k = 2))]) W' := by
  intro W' hb
  obtain ⟨e, hu, hz⟩ : ∃ e, Try.prog.underlying 144 = some (.map 3 e) ∧ (zeroValue e).run Try.prog W' = .ok .nilFunc W' := ⟨_, Try.underlying144, by rfl⟩
  rw [(h.of_block hb).look2 hu hz k hk]
  by_cases h1 : k = 1
  · subst h1; rfl
  · by_cases h2 : k = 2
    · subst h2; rfl
    · simp [kindT, upd1, h1, h2]
set_option maxRecDepth 100000 in
set_option maxHeartbeats 4000000 in
theorem checkRule_other (r : Rul) (hk : ¬ (r.kd = 1 ∨ r.kd = 2)) (hw : (Lit.int .i64 r.kd).wf = true) (w : World) :
    Calls Try.prog 43 #[.agg #[.int .i64 r.kd, .int .i64 r.up, .int .i64 r.dn, .int .i64 r.sh, .int .i64 r.ga, .int .i64 r.ke, .int .i64 r.fa, .int .i64 r.lo, .int .i64 r.hi, .bool r.sm]] w fun e w' => e = .returned (.int .i64 2) ∧ Below w.heap.size w w' := by
  go_enter Try.func43, Try.ntmps43
  go_wp2
  have hbk : (w.alloc (.cells #[.int .i64 r.kd, .int .i64 r.up, .int .i64 r.dn, .int .i64 r.sh, .int .i64 r.ga, .int .i64 r.ke, .int .i64 r.fa, .int .i64 r.lo, .int .i64 r.hi, .bool r.sm] 36)).heap[w.heap.size]? = _ := alloc_new_at _ _ _ rfl
  have hb0 : Below w.heap.size w (w.alloc (.cells #[.int .i64 r.kd, .int .i64 r.up, .int .i64 r.dn, .int .i64 r.sh, .int .i64 r.ga, .int .i64 r.ke, .int .i64 r.fa, .int .i64 r.lo, .int .i64 r.hi, .bool r.sm] 36)) := (Below.refl _ _).alloc (Nat.le_refl _) _
  have hz0 : w.heap.size < (w.alloc (.cells #[.int .i64 r.kd, .int .i64 r.up, .int .i64 r.dn, .int .i64 r.sh, .int .i64 r.ga, .int .i64 r.ke, .int .i64 r.fa, .int .i64 r.lo, .int .i64 r.hi, .bool r.sm] 36)).heap.size := by simp
  generalize w.alloc (.cells #[.int .i64 r.kd, .int .i64 r.up, .int .i64 r.dn, .int .i64 r.sh, .int .i64 r.ga, .int .i64 r.ke, .int .i64 r.fa, .int .i64 r.lo, .int .i64 r.hi, .bool r.sm] 36) = W at *
  obtain ⟨_, _, _, _, _, _, _, _, _, _⟩ := cells10 hbk
  have HB := Lib.hid hbk
  have H0 := Lib.hid hb0
  clear hbk hb0
  go_region_held3 (fun w' => w'.cell? ⟨w.heap.size, 0, none⟩ = some (.int .i64 r.kd)) (go_keep)
    (first | (go_at_call 73; refine (kinds_any _).mono ?_; rintro e w1 ⟨rfl, hm, hb⟩; have q1 : Below W.heap.size W w1 := ⟨hb.os, hb.tape, hb.output, hb.size, hb.block⟩; obtain ⟨_, _, _, _, _, _, _, _, _, _⟩ := cells10 ((q1.block _ (by omega)).trans HB.out); have hm : MapIs w1 W.heap.size 2 kindT := hm; have hlk0 := kind_look hm r.kd hw w1 rfl; have hlk1 := kind_look hm r.kd hw w1.drew rfl; have Q1 := Lib.hid q1; have HM := Lib.hid hm; clear hb q1 hm))
  go_wp2
  go_ret
  exact ⟨rfl, H0.out.trans (Q1.out.mono (Nat.le_of_lt hz0))⟩
end Go.Proofs.Ytipodippfddlpaa.Lrn
