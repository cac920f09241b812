/- calc.caught: what it returns when what it does returns, or panics with an error of the program's. -/
import Derived.Test.YthfmbmjjfdhhnaaLf
import Derived.Test.YthfmbmjjfdhhnaaEv7
import Derived.Tactics
import Derived.Tactics2
import Derived.Defers
import Derived.Recover
import Derived.Laws.Pointers
namespace Go.Proofs.Ythfmbmjjfdhhnaa.Lf
open Go.RowKit
set_option linter.unusedVariables false

theorem run_ta (v : Value) (w : World) : (Instr.typeAssert (.iface 29 v) 20 29 false).run Try.prog w = .ok v w := by
  simp [Instr.typeAssert, run_underlying Try.underlying29]
theorem catch_panicking (p : Addr) (x m : Int) (older : List PanicEntry) (w : World) (hc : w.cell? p = some (.int .i64 x)) (hz : w.frozen? p = false) :
    CallsD Try.prog 43 #[.pointer (some p)] (.panicking ({ v := .iface 29 (.int .i64 m), recovered := false } :: older)) w fun e u' w' =>
      e = .returned (.tuple #[]) ∧ u' = .panicking ({ v := .iface 29 (.int .i64 m), recovered := true } :: older) ∧ w' = w.setCell p (.int .i64 m) := by
  refine callsD_of_wpS Try.func43 rfl fun c₀ cs hu => ?_
  apply wpS_seq
  apply wpS_region
  simp [wpOpsS, go_sem, recoverD, hu, Try.ntmps43, Exit.thenS]
  apply wpS_seq
  apply wpS_region
  simp [wpOpsS, go_sem, Exit.thenS, Array.replicate]
  refine wpS_cond (t := true) (by simp [Act.eval]) ?_
  simp only [if_true]
  apply wpS_region
  simp [wpOpsS, go_sem, hc, hz, run_ta, bodyPostS, results, Try.results43]
theorem catch_idle (p : Addr) (w : World) :
    CallsD Try.prog 43 #[.pointer (some p)] .returning w fun e u' w' => e = .returned (.tuple #[]) ∧ u' = .returning ∧ w' = w := by
  refine callsD_of_wpS Try.func43 rfl fun c₀ cs hu => ?_
  apply wpS_seq
  apply wpS_region
  simp [wpOpsS, go_sem, recoverD, hu, Try.ntmps43, Exit.thenS]
  apply wpS_seq
  apply wpS_region
  simp [wpOpsS, go_sem, Exit.thenS, Array.replicate]
  refine wpS_cond (t := false) (by simp [Act.eval]) ?_
  simp only [Bool.false_eq_true, if_false]
  refine wpS_of_wp (wp_skip ?_)
  cases c₀
  simp_all [bodyPostS, results, Try.results43]

def DoEnd (w : World) (Q : Value → World → Prop) (e : Ending) (w2 : World) : Prop :=
  w2.heap[w.heap.size]? = some (.cells #[.int .i64 0] 29) ∧ ((∃ v, e = .returned v ∧ Q (.int .i64 0) (w2.setCell ⟨w.heap.size, 0, none⟩ (.int .i64 0))) ∨
   (∃ m, e = .panicked [{ v := .iface 29 (.int .i64 m), recovered := false }] ∧ Q (.int .i64 m) (w2.setCell ⟨w.heap.size, 0, none⟩ (.int .i64 m))))
set_option maxHeartbeats 1000000 in
theorem caught_any {Q : Value → World → Prop} (g : FuncId) (f' c' : Array Value) (w : World) (hcf : ∀ ar w, (callFunc g ar).run Try.prog w = .ok (.enter g ar) w)
    (hdo : Calls Try.prog g (f' ++ c') (w.alloc (.cells #[.int .i64 0] 29)) (DoEnd w Q)) :
    Calls Try.prog 32 #[.func (.func g) f' c'] w fun e w' => ∃ v, e = .returned v ∧ Q v w' := by
  have hmf : ∀ (fn : Fn) (first cap : Array Value) (w : World), (Instr.makeFunc fn first cap).run Try.prog w = .ok (.func fn first cap) w := fun _ _ _ _ => rfl
  go_enter_defers Try.func32, Try.ntmps32
  go_wp2
  refine hdo.mono ?_
  rintro e w2 ⟨hc, ⟨v, rfl, hq⟩ | ⟨m, rfl, hq⟩⟩
  · have h1 : w2.cell? ⟨w.heap.size, 0, none⟩ = some (.int .i64 0) := by simp [World.cell?, hc]
    have h2 : w2.frozen? ⟨w.heap.size, 0, none⟩ = false := by simp [World.frozen?, hc]
    have h3 : (w2.setCell ⟨w.heap.size, 0, none⟩ (.int .i64 0)).cell? ⟨w.heap.size, 0, none⟩ = some (.int .i64 0) := by simp [World.cell?, World.setCell, Array.getElem?_modify, hc]
    go_wp2
    refine leaves_cons (f := 43) (args := #[.pointer (some ⟨w.heap.size, 0, none⟩)]) (by simp) (by simp [go_sem]) ?_
    refine (catch_idle ⟨w.heap.size, 0, none⟩ _).mono ?_
    rintro e u' w'' ⟨rfl, rfl, rfl⟩
    simp [Leaves, settle, results, Try.results32, go_sem, h3]
    exact hq
  · have h1 : w2.cell? ⟨w.heap.size, 0, none⟩ = some (.int .i64 0) := by simp [World.cell?, hc]
    have h2 : w2.frozen? ⟨w.heap.size, 0, none⟩ = false := by simp [World.frozen?, hc]
    have h3 : (w2.setCell ⟨w.heap.size, 0, none⟩ (.int .i64 m)).cell? ⟨w.heap.size, 0, none⟩ = some (.int .i64 m) := by simp [World.cell?, World.setCell, Array.getElem?_modify, hc]
    refine leaves_cons (f := 43) (args := #[.pointer (some ⟨w.heap.size, 0, none⟩)]) (by simp) (by simp [go_sem]) ?_
    refine (catch_panicking ⟨w.heap.size, 0, none⟩ 0 m [] _ h1 h2).mono ?_
    rintro e u' w'' ⟨rfl, rfl, rfl⟩
    simp [Leaves, settle, results, Try.results32, go_sem, h3]
    exact hq

/-! ### as an answer that the evaluator may take -/
open Ev in
theorem pre_alloc {K : Pm} {h : Hp} {w : World} {G : Nat → Prop} (o : Obj) (hp : Pre COk K h w G) : Pre COk K h (w.alloc o) G := by
  refine ⟨⟨fun b p hb => by rw [World.size_alloc]; exact Nat.lt_succ_of_lt (hp.kok.lt b p hb), hp.kok.inj, hp.kok.gl⟩, fun b hb o' ho => ?_⟩
  obtain ⟨p, x, h1, h3, h4⟩ := hp.cont b hb o' ho
  exact ⟨p, x, h1, (Below.heap_alloc _ _ _ (hp.kok.lt _ _ h1)).trans h3, h4⟩
open Ev in
theorem post_cell {K K2 : Pm} {h h' : Hp} {w w2 : World} {G : Nat → Prop} {x : Value} (hp : Pre COk K h w G) (hpo : Post COk K (w.alloc (.cells #[x] 29)) K2 h' w2 G) :
    w2.heap[w.heap.size]? = some (.cells #[x] 29) ∧ ∀ u, Post COk K w K2 h' (w2.setCell ⟨w.heap.size, 0, none⟩ u) G := by
  have hz : (w.alloc (.cells #[x] 29)).heap.size = w.heap.size + 1 := World.size_alloc _ _
  have hne : ∀ b p, K2 b = .live p → p.blk ≠ w.heap.size := fun b p hb he => by
    rcases hpo.new b p hb with h1 | h1 | ⟨b0, p0, _, h1, h2⟩
    · have := hp.kok.lt b p h1; omega
    · omega
    · have := hp.kok.lt b0 p0 h1; omega
  have hE : w2.heap[w.heap.size]? = some (.cells #[x] 29) := by
    rw [hpo.frm.block w.heap.size (by omega) fun b p _ hk he => by have := hp.kok.lt b p hk; omega]
    exact heap_alloc_new w _
  refine ⟨hE, fun u => ?_⟩
  have hoth : ∀ k, k ≠ w.heap.size → (w2.setCell ⟨w.heap.size, 0, none⟩ u).heap[k]? = w2.heap[k]? := fun k hk => by simp [World.setCell, Array.getElem?_modify, Ne.symm hk]
  have hsz : (w2.setCell ⟨w.heap.size, 0, none⟩ u).heap.size = w2.heap.size := by simp
  have hz2 := hpo.frm.size
  refine ⟨⟨fun b p hb => by rw [hsz]; exact hpo.kok.lt b p hb, hpo.kok.inj, hpo.kok.gl⟩, fun b hb o ho => ?_, hpo.mono, hpo.off, fun b p' hb => ?_, ⟨fun k hk hno => ?_, by rw [hsz]; omega, hpo.frm.os, hpo.frm.tape, hpo.frm.output⟩⟩
  · obtain ⟨p, x', h1, h3, h4⟩ := hpo.cont b hb o ho
    exact ⟨p, x', h1, (hoth _ (hne b p h1)).trans h3, h4⟩
  · rcases hpo.new b p' hb with h1 | h1 | h1
    · exact .inl h1
    · exact .inr (.inl (by omega))
    · exact .inr (.inr h1)
  · rw [hoth k (by omega), hpo.frm.block k (by omega) hno, Below.heap_alloc _ _ _ hk]
open Ev in
noncomputable def caughtO (R : Rec) (n : Nat) (gd : List Bool) : Orc := fun f args h => match Nat.beq f 32 with
  | true => match args with
    | [.func (.func g) first captured] => match R.call g (first.toList ++ [] ++ captured.toList) h with
      | some (_, h) => some (.int .i64 0, h)
      | none => match pvCall Try.prog R n gd g (first.toList ++ [] ++ captured.toList) h with
        | some (.iface t (.int .i64 m), h) => match Nat.beq t 29 with
          | true => some (.int .i64 m, h)
          | false => none
        | _ => none
    | _ => none
  | false => none
theorem caught_name (ar : Array Value) (w : World) : (callFunc 32 ar).run Try.prog w = .ok (.enter 32 ar) w := by
  simp [callFunc, Try.func32]
  rfl
open Ev in
theorem caughtO_ok (N n : Nat) (gd : List Bool) : OrcS Try.prog (caughtO (recs Try.prog noOrc N) n gd) := by
  intro f args h v h' e
  rw [recs_old] at e
  unfold caughtO at e
  split at e
  · rename_i hf
    obtain rfl := Nat.eq_of_beq_eq_true hf
    split at e
    · rename_i g first captured
      split at e
      · rename_i v1 h1 he
        simp only [Option.some.injEq, Prod.mk.injEq] at e
        obtain ⟨rfl, rfl⟩ := e
        obtain ⟨pf, hcf, hs⟩ := (all_sound (O := noOrc) noOrc_ok mixed N N (Nat.le_refl _)).2.2.2.1 _ _ _ _ _ he
        refine ⟨pf, caught_name, fun K G hG w args0 hl hw hp ha => ?_⟩
        obtain ⟨fv0, rest, rfl, hv, hr⟩ : ∃ fv0 rest, args0 = fv0 :: rest ∧ VR K (.func (.func g) first captured) fv0 ∧ LR K [] rest := by
          cases args0 with
          | nil => exact absurd hl.1 (by simp)
          | cons a r => exact ⟨a, r, rfl, hl.of_cons.1, hl.of_cons.2⟩
        obtain rfl : rest = [] := by cases rest with | nil => rfl | cons a r => exact absurd hr.1 (by simp)
        obtain ⟨f', c', rfl, hl2, _⟩ := fnArgs (P := Try.prog) hv (LR.nil K)
        have hc := callsIn_wide.1 (hs K G hG (w.alloc (.cells #[.int .i64 0] 29)) _ hl2 hw (pre_alloc _ hp) ha)
        refine callsIn_wide.2 ((caught_any (Q := fun v w' => ∃ K', VR K' (.int .i64 0) v ∧ Post COk K w K' h1 w' G) g f' c' w hcf ?_).mono ?_)
        · have : f' ++ c' = (⟨f'.toList ++ [] ++ c'.toList⟩ : Array Value) := by apply Array.ext'; simp
          rw [this]
          refine hc.mono ?_
          rintro e w2 ⟨K2, v', rfl, _, hpo⟩
          obtain ⟨q1, q2⟩ := post_cell hp hpo
          exact ⟨q1, .inl ⟨_, rfl, K2, .int _ _, q2 _⟩⟩
        · rintro e w' ⟨v, rfl, K', q1, q2⟩
          exact ⟨K', v, rfl, q1, q2⟩
      · split at e
        · rename_i t m h1 he
          split at e
          · rename_i ht
            obtain rfl := Nat.eq_of_beq_eq_true ht
            simp only [Option.some.injEq, Prod.mk.injEq] at e
            obtain ⟨rfl, rfl⟩ := e
            obtain ⟨pf, hcf, hs⟩ := (pv_sound (O := noOrc) noOrc_ok mixed N n n (Nat.le_refl _)).2.1 _ _ _ _ _ _ he
            refine ⟨pf, caught_name, fun K G hG w args0 hl hw hp ha => ?_⟩
            obtain ⟨fv0, rest, rfl, hv, hr⟩ : ∃ fv0 rest, args0 = fv0 :: rest ∧ VR K (.func (.func g) first captured) fv0 ∧ LR K [] rest := by
              cases args0 with
              | nil => exact absurd hl.1 (by simp)
              | cons a r => exact ⟨a, r, rfl, hl.of_cons.1, hl.of_cons.2⟩
            obtain rfl : rest = [] := by cases rest with | nil => rfl | cons a r => exact absurd hr.1 (by simp)
            obtain ⟨f', c', rfl, hl2, _⟩ := fnArgs (P := Try.prog) hv (LR.nil K)
            have hc := callsIn_wide.1 (hs K G hG (w.alloc (.cells #[.int .i64 0] 29)) _ hl2 hw (pre_alloc _ hp) ha)
            refine callsIn_wide.2 ((caught_any (Q := fun v w' => ∃ K', VR K' (.int .i64 m) v ∧ Post COk K w K' h1 w' G) g f' c' w hcf ?_).mono ?_)
            · have : f' ++ c' = (⟨f'.toList ++ [] ++ c'.toList⟩ : Array Value) := by apply Array.ext'; simp
              rw [this]
              refine hc.mono ?_
              rintro e w2 ⟨rfl, K2, hpo⟩
              obtain ⟨q1, q2⟩ := post_cell hp hpo
              exact ⟨q1, .inr ⟨m, rfl, K2, .int _ _, q2 _⟩⟩
            · rintro e w' ⟨v, rfl, K', q1, q2⟩
              exact ⟨K', v, rfl, q1, q2⟩
          · cases e
        · cases e
    · cases e
  · cases e
end Go.Proofs.Ythfmbmjjfdhhnaa.Lf
