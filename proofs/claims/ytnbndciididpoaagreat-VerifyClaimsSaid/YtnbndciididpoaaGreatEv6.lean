/- A checked evaluator of closed calls, text 6 of 7: over any program; no condition. -/
import Derived.Test.YtnbndciididpoaaGreatEv5
import Derived.Orders
import Derived.RangeFuncNested
namespace Go.Proofs.YtnbndciididpoaaGreat.Ev
open Go
set_option linter.unusedVariables false
set_option linter.unusedSimpArgs false
section
/- A checked evaluator of closed calls, part S: operations, calls, sequences. -/
variable {P : Program} {O : Orc}

theorem op_value {F : Fence} (hF : Fw F) {o : Oper} {a : Act} {w w' : World} {nx : Next} {v' : Value} {next : Act → World → Prop} {Q : Exit → Act → World → Prop}
    (hd : ∀ c, o.op ≠ .defer c) (hr : (execOp a.eval o).run P w = .ok nx w') (hx : nx = .value v' ∨ (nx = .skip ∧ v' = undef)) (h : next (a.put o.dst v') w') : o.wpIn F 0 P a w next Q := by
  refine ⟨fun f _ => hF.fn f, ?_⟩
  rw [Oper.semAt_eq _ _ _ hd, hr]
  rcases hx with rfl | ⟨rfl, rfl⟩
  · exact h
  · exact h
theorem opS_succ {n : Nat} (hv : ValS P O n) : OpS P O (n + 1) := by
  intro tm o h v h' e
  have plain : aOp P tm o h = some (v, h') → PF h h' ∧ ∀ K F, Fw F → ∀ (G : Nat → Prop), (∀ b, bit h'.tch b → G b) → ∀ w, Wf h → Pre COk K h w G → Adm K h h' → ∀ a next Q, (∀ x ∈ o.op.operands.toList, VR K (evO tm x) (a.eval x)) →
      (∀ K' v' w', VR K' v v' → Post COk K w K' h' w' G → next (a.put o.dst v') w') → o.wpIn F 0 P a w next Q := by
    intro e
    obtain ⟨pf, hd, hs⟩ := aOp_ok (ok := COk) e
    refine ⟨pf, fun K F hF G hG w _ hp ha a next Q ho hn => ?_⟩
    obtain ⟨K', v', w', nx, h1, h2, h3, h4⟩ := hs K a.eval ho G hG w hp ha
    exact op_value hF hd h1 h2 (hn K' v' w' h3 h4)
  simp only [evOp] at e
  split at e
  · rename_i f args ats hop
    obtain ⟨pf, hs⟩ := hv _ _ _ _ _ e
    refine ⟨pf, fun K F hF G hG w hw hp ha a next Q ho hn => ?_⟩
    rw [hop] at ho
    have hf : VR K (evO tm f) (a.eval f) := ho f (by simp [Op.operands, Call.operands])
    have hl : LR K (evL tm args.toList) (args.toList.map a.eval) := evL_lr args.toList fun x hx => ho x (by simp [Op.operands, Call.operands]; exact .inr (by simpa using hx))
    obtain ⟨d, hd, hk⟩ := hs K G hG w (a.eval f) (args.toList.map a.eval) hf hl hw hp ha
    refine ⟨fun f _ => hF.fn f, ?_⟩
    rw [Oper.semAt_eq _ _ _ (by rw [hop]; simp)]
    have hargs : args.map a.eval = ⟨args.toList.map a.eval⟩ := by apply Array.ext'; simp
    have hex : (execOp a.eval o).run P w = (invoke d.target d.args).run P w := by
      unfold execOp
      rw [hop]
      simp only [Sem.run_bind, resolve, hargs, hd, Result.andThen_ok]
    rw [hex]
    rcases hk with ⟨g, ar, h1, h2⟩ | ⟨l, g, tmps, as, bd, h1, h2⟩
    · rw [h1, Oper.uponIn_enter]
      refine ⟨fun hd => (by rw [hF.depth] at hd; cases hd), (hF.calls h2).mono ?_⟩
      rintro e w' ⟨K', v', rfl, h3, h4⟩
      exact hn K' v' w' h3 h4
    · rw [h1, Oper.uponIn_round]
      refine ⟨fun hd => (by rw [hF.depth] at hd; cases hd), (hF.rounds h2).mono ?_⟩
      rintro e w' ⟨K', v', rfl, h3, h4⟩
      exact hn K' v' w' h3 h4
  · exact plain e
theorem fnArgs {K : Pm} {f0 : FuncId} {first captured : Array Value} {fv0 : Value} {args args0 : List Value} (hv : VR K (.func (.func f0) first captured) fv0) (hl : LR K args args0) :
    ∃ f' c', fv0 = .func (.func f0) f' c' ∧ LR K (first.toList ++ args ++ captured.toList) (f'.toList ++ args0 ++ c'.toList) ∧
      ∀ w, (Deferred.ofValue fv0 ⟨args0⟩).run P w = .ok { target := .fn (.func f0) c', args := f' ++ ⟨args0⟩ } w := by
  obtain ⟨f', c', rfl, h1, h2⟩ := (VR.func_iff (by simp)).1 hv
  exact ⟨f', c', rfl, (h1.append hl).append h2, fun w => rfl⟩
theorem valS_succ {n : Nat} (hc : CallS P O n) (hr : RoundS P O n) : ValS P O (n + 1) := by
  intro fv args h v h' e
  simp only [evVal] at e
  split at e
  · rename_i f first captured
    obtain ⟨pf, hcf, hs⟩ := hc _ _ _ _ _ e
    refine ⟨pf, fun K G hG w fv0 args0 hv hl hw hp ha => ?_⟩
    obtain ⟨f', c', rfl, hl2, hd⟩ := fnArgs (P := P) hv hl
    refine ⟨_, hd w, .inl ⟨f, ⟨f'.toList ++ args0 ++ c'.toList⟩, ?_, hs K G hG w _ hl2 hw hp ha⟩⟩
    have : (f' ++ (⟨args0⟩ : Array Value)) ++ c' = ⟨f'.toList ++ args0 ++ c'.toList⟩ := by apply Array.ext'; simp
    simp only [invoke, this]
    exact hcf _ w
  · rename_i l x y
    obtain ⟨pf, hs⟩ := hr _ _ _ _ _ e
    refine ⟨pf, fun K G hG w fv0 args0 hv hl hw hp ha => ?_⟩
    obtain ⟨p, f, tmps, as, bd, hk, hy, hR⟩ := hs K G hG w args0 hl hw hp ha
    cases hv with
    | func _ hn => exact absurd rfl (hn l)
    | yield hk' =>
      rw [hk] at hk'; cases hk'
      refine ⟨{ target := .fn (.yield p.blk) #[], args := #[] ++ ⟨args0⟩ }, rfl, .inr ⟨p.blk, f, tmps, as, bd, ?_, hR⟩⟩
      simp only [invoke, Array.empty_append]
      exact hy
  · cases e
theorem fnS_succ {n : Nat} (hc : CallS P O n) : FnS P O (n + 1) := by
  intro fv arg h v h' e
  simp only [evFn] at e
  split at e
  · rename_i f first captured
    obtain ⟨pf, hcf, hs⟩ := hc _ _ _ _ _ e
    refine ⟨pf, fun K G hG w fv0 arg0 hv hl hw hp ha => ?_⟩
    obtain ⟨f', c', rfl, hl2, hd⟩ := fnArgs (P := P) (args := [arg]) (args0 := [arg0]) hv (LR.cons hl (LR.nil K))
    refine ⟨_, f, ⟨f'.toList ++ [arg0] ++ c'.toList⟩, hd, fun w => ?_, hs K G hG w _ hl2 hw hp ha⟩
    have : (f' ++ (⟨[arg0]⟩ : Array Value)) ++ c' = ⟨f'.toList ++ [arg0] ++ c'.toList⟩ := by apply Array.ext'; simp
    simp only [invoke, this]
    exact hcf _ w
  · cases e

/-! ### leaving a function -/
noncomputable def resAt (tmps : Array Value) : ResultVar → Sem Value
  | .tmp t => pure (tmps.getD t undef)
  | .cell a t => do loadVar t (← asAddr (tmps.getD a undef))
theorem resV_ok {tm : Tr Value} : ∀ {rs : List ResultVar} {h h' : Hp} {vs : List Value}, resV P tm rs h = some (vs, h') →
    PF h h' ∧ (h'.heap = h.heap ∧ h'.next = h.next ∧ h'.wr = h.wr) ∧ ∀ K (tmps : Array Value), (∀ t, VR K (tmOf tm t) (tmps.getD t undef)) → ∀ (G : Nat → Prop), (∀ b, bit h'.tch b → G b) → ∀ w, Pre COk K h w G →
      ∃ vs0, LR K vs vs0 ∧ (rs.mapM (resAt tmps)).run P w = .ok vs0 w := by
  intro rs
  induction rs with
  | nil =>
    intro h h' vs e
    simp [resV] at e
    obtain ⟨rfl, rfl⟩ := e
    exact ⟨PF.refl _, ⟨rfl, rfl, rfl⟩, fun K tmps _ G _ w _ => ⟨[], LR.nil K, rfl⟩⟩
  | cons r rs ih =>
    intro h h' vs e
    cases r with
    | tmp t =>
      simp only [resV] at e
      split at e
      · rename_i vs1 h1 he
        simp only [Option.some.injEq, Prod.mk.injEq] at e
        obtain ⟨rfl, rfl⟩ := e
        obtain ⟨pf, hh, hs⟩ := ih he
        refine ⟨pf, hh, fun K tmps ht G hG w hp => ?_⟩
        obtain ⟨vs0, h2, h3⟩ := hs K tmps ht G hG w hp
        exact ⟨tmps.getD t undef :: vs0, LR.cons (ht t) h2, by simp [List.mapM_cons, resAt, h3]⟩
      · cases e
    | cell a t =>
      simp only [resV] at e
      cases hl : aLoad P t (tmOf tm a) h with
      | none => simp only [hl] at e; cases e
      | some q =>
        obtain ⟨v, h1⟩ := q
        simp only [hl] at e
        split at e
        · rename_i vs1 h2 he
          simp only [Option.some.injEq, Prod.mk.injEq] at e
          obtain ⟨rfl, rfl⟩ := e
          obtain ⟨pf1, ⟨g1, g2, g3⟩, hs1⟩ := aLoad_pure (ok := COk) hl
          obtain ⟨pf, ⟨k1, k2, k3⟩, hs⟩ := ih he
          refine ⟨pf1.trans pf, ⟨k1.trans g1, k2.trans g2, k3.trans g3⟩, fun K tmps ht G hG w hp => ?_⟩
          obtain ⟨ad, v', hv0, hrun, hvr⟩ := hs1 K (tmps.getD a undef) (ht a) G (fun b hb => hG b (pf.tch b hb)) w hp
          obtain ⟨vs0, h2, h3⟩ := hs K tmps ht G hG w (hp.same g1)
          have hrun' : (loadVar t ad).run P w = .ok v' w := by
            rw [hv0] at hrun
            simpa [Instr.loadAt, Instr.sureAddr] using hrun
          exact ⟨v' :: vs0, LR.cons hvr h2, by simp [List.mapM_cons, resAt, hv0, asAddr, hrun', h3]⟩
        · cases e
noncomputable def packV : List Value → Value
  | [v] => v
  | vs => .tuple ⟨vs⟩
theorem results_run {fn : Func} {tmps : Array Value} {vs : List Value} {w : World} (h : (fn.results.toList.mapM (resAt tmps)).run P w = .ok vs w) : (results fn tmps).run P w = .ok (packV vs) w := by
  have e : results fn tmps = (do let vs ← fn.results.mapM (resAt tmps); pure (if h : vs.size = 1 then vs[0] else .tuple vs)) := by
    unfold results
    congr 1
  rw [e, Array.mapM_eq_mapM_toList]
  simp only [Sem.run_bind, Sem.run_map, h, Result.andThen_ok, Sem.run_pure]
  congr 1
  match vs with
  | [] => rfl
  | [v] => rfl
  | a :: b :: c => rfl
theorem packV_vr {K : Pm} {vs vs0 : List Value} (h : LR K vs vs0) : VR K (packV vs) (packV vs0) := by
  match vs, vs0, h with
  | [], [], h => exact VR.tuple_iff.2 ⟨_, rfl, h⟩
  | [v], [v'], h => exact h.of_cons.1
  | a :: b :: c, a' :: b' :: c', h => exact VR.tuple_iff.2 ⟨_, rfl, h⟩
  | [], _ :: _, h => exact absurd h.1 (by simp)
  | _ :: _, [], h => exact absurd h.1 (by simp)
  | [_], _ :: _ :: _, h => exact absurd h.1 (by simp)
  | _ :: _ :: _, [_], h => exact absurd h.1 (by simp)
theorem put_putObj {w : World} {r : Nat} {x : Obj} (h : r < w.heap.size) : Put w r x (w.putObj r x) :=
  ⟨World.putObj_heap_same h, fun j hj => World.putObj_heap_other hj, by simp, rfl, rfl, rfl⟩
theorem leave_ok : ∀ {df : List Nat} {h h' : Hp}, leave df h = some h' →
    PF h h' ∧ h'.next = h.next ∧ ∀ K (G : Nat → Prop), (∀ b, bit h'.tch b → G b) → ∀ (ds : List Deferred) w, DF K df ds → Pre COk K h w G → ∀ (fn : Func) (tmps : Array Value) (R : Ending → World → Prop),
      (∀ w', Post COk K w K h' w' G → ∃ v, (results fn tmps).run P w' = .ok v w' ∧ R (.returned v) w') → LeavesInM Fence.wide 0 P fn tmps R ds .returning w := by
  intro df
  induction df with
  | nil =>
    intro h h' e
    simp [leave] at e; subst e
    refine ⟨PF.refl _, rfl, fun K G hG ds w hd hp fn tmps R hR => ?_⟩
    have : ds = [] := hd
    subst this
    exact hR w (Post.same hp rfl)
  | cons d df ih =>
    intro h h' e
    simp only [leave] at e
    split at e
    · rename_i hb
      split at e
      · rename_i hlt
        have hlt := Nat.le_of_ble_eq_true hlt
        obtain ⟨H, e, hH⟩ := writeK_some e
        obtain ⟨pf, hn, hs⟩ := ih e
        have pf0 : PF h (writeH h d H) := PF.write (by omega) hH
        refine ⟨pf0.trans pf, hn, fun K G hG ds w hd hp fn tmps R hR => ?_⟩
        obtain ⟨p, ds', hk, hp0, rfl, hd'⟩ := hd
        have hGd : G d := hG d (pf.tch d (bit_or.2 (.inr (bit_one.2 rfl))))
        obtain ⟨p', x, hk', hw, _, rfl⟩ := hp.cont d hGd _ hb
        rw [hk] at hk'; cases hk'
        have hpost : Post COk K w K (writeH h d H) (w.putObj p.blk (.deferred none)) G := Post.write hp hk hH (put_putObj (hp.kok.lt _ _ hk)) ⟨hp0, rfl⟩
        refine ⟨by simp, .inl ⟨p.blk, _, rfl, run_takeDeferred hw, ?_⟩⟩
        exact hs K G hG ds' _ hd' hpost.pre fn tmps R fun w' hp' => hR w' (hpost.trans pf.wr hp')
      · cases e
    · cases e

theorem name_ok {f : FuncId} {fn : Func} {c : Code} (hf : P.funcs.toList[f]? = some fn) (hb : fn.body = some c) (hn : (fn.name == "runtime.NumGoroutine") = false) (ar : Array Value) (w : World) :
    (callFunc f ar).run P w = .ok (.enter f ar) w := by
  have hf' : P.funcs[f]? = some fn := by simpa using hf
  have hn' : ¬ fn.name = "runtime.NumGoroutine" := by simpa using hn
  simp [callFunc, hf', hb, hn']
theorem callS_succ {n : Nat} (hO : OrcS P O) (hC : CodeS P O n) : CallS P O (n + 1) := by
  intro f args h v h' e
  simp only [evCall] at e
  split at e
  · rename_i r hr
    exact hO f args h v h' (hr.trans e)
  split at e
  · rename_i fn hf
    split at e
    · rename_i code hb
      split at e
      · rename_i hck
        simp only [Bool.and_eq_true] at hck
        obtain ⟨⟨hco, hnm⟩, hle⟩ := hck
        have hle := Nat.le_of_ble_eq_true hle
        have hnm : (fn.name == "runtime.NumGoroutine") = false := by simpa using hnm
        obtain ⟨tm, e, htm⟩ := fillK_some e
        split at e
        · rename_i ex fr h1 he
          split at e
          · rename_i hex
            split at e
            · rename_i h2 hl
              split at e
              · rename_i vs h3 hr
                have hv : v = packV vs ∧ h3 = h' := by
                  match vs, e with
                  | [], e => simp at e; exact ⟨e.1.symm, e.2⟩
                  | [a], e => simp at e; exact ⟨e.1.symm, e.2⟩
                  | a :: b :: c, e => simp at e; exact ⟨e.1.symm, e.2⟩
                obtain ⟨rfl, rfl⟩ := hv
                obtain ⟨pf1, hnt, hs1⟩ := hC _ _ _ _ _ _ _ he
                have hs1 := hs1 hco
                obtain ⟨pf2, hn2, hs2⟩ := leave_ok (P := P) hl
                obtain ⟨pf3, ⟨g1, g2, g3⟩, hs3⟩ := resV_ok (P := P) hr
                refine ⟨(pf1.trans pf2).trans pf3, name_ok hf hb hnm, fun K G hG w args0 hla hw hp ha => ?_⟩
                have hf' : P.funcs[f]? = some fn := by simpa using hf
                refine callsIn_of_wp_marks hf' hb trivial ?_
                have htr : TRel K ⟨tm, fn.ntmps, []⟩ { tmps := (⟨args0⟩ : Array Value) ++ Array.replicate (fn.ntmps - (⟨args0⟩ : Array Value).size) undef, defers := [] } := by
                  have hl0 : args0.length = args.length := hla.1.symm
                  refine ⟨by simp; omega, fun t => ?_, rfl⟩
                  unfold tmOf
                  rw [htm]
                  simp only [Array.getD_eq_getD_getElem?]
                  by_cases ht : t < args.length
                  · rw [if_pos ⟨Nat.zero_le _, by omega⟩, Nat.sub_zero]
                    obtain ⟨v', hv', hr'⟩ := hla.get (List.getElem?_eq_getElem ht)
                    rw [List.getElem?_eq_getElem ht]
                    have : ((⟨args0⟩ : Array Value) ++ Array.replicate (fn.ntmps - (⟨args0⟩ : Array Value).size) undef)[t]? = some v' := by
                      rw [Array.getElem?_append_left (by simp; omega)]; simpa using hv'
                    rw [this]; exact hr'
                  · rw [if_neg (by omega)]
                    have : ((⟨args0⟩ : Array Value) ++ Array.replicate (fn.ntmps - (⟨args0⟩ : Array Value).size) undef)[t]?.getD undef = undef := by
                      rw [Array.getElem?_append_right (by simp; omega)]
                      simp only [Array.getElem?_replicate]
                      split <;> rfl
                    rw [this]; exact VR.undef K
                have a1 : Adm K h h1 := adm_first (pf2.trans pf3) ha
                have hG1 : ∀ b, bit h1.tch b → G b := fun b hb => hG b (pf3.tch b (pf2.tch b hb))
                refine wpIn_mono (hs1 K Fence.wide G rfl hG1 w _ hw hp a1 htr) ?_
                rintro e a' w' ⟨rfl, K', htr', hpost⟩
                have main : LeavesInM Fence.wide 0 P fn a'.tmps (Done K w (packV vs) h3 G) a'.defers .returning w' := by
                  refine hs2 K' G (fun b hb => hG b (pf3.tch b hb)) a'.defers w' htr'.df hpost.pre fn a'.tmps _ fun w2 hp2 => ?_
                  obtain ⟨vs0, q1, q2⟩ := hs3 K' a'.tmps htr'.val G hG w2 hp2.pre
                  refine ⟨packV vs0, results_run q2, K', packV vs0, rfl, packV_vr q1, ?_⟩
                  have hp3 : Post COk K w K' h2 w2 G := hpost.trans pf2.wr hp2
                  exact hp3.trans pf3.wr (Post.same hp2.pre g1)
                cases ex with
                | normal => exact main
                | ret => exact main
                | exit id => simp at hex
                | goto l => simp at hex
              · cases e
            · cases e
          · cases e
        · cases e
      · cases e
    · cases e
  · cases e
end

section
/- A checked evaluator of closed calls, part T: sequences, rounds, code. -/
variable {P : Program} {O : Orc}

theorem glob_vr {K : Pm} {w : World} (hk : KOk K w) {g : Nat} (hg : Nat.blt g 64 = true) : VR K (.pointer (some ⟨g, 0, none⟩)) (.pointer (some ⟨g, 0, none⟩)) := by
  rcases hk.gl g (blt_lt hg) with e | ⟨n, e⟩
  · exact .ptrDead (a := ⟨g, 0, none⟩) e _
  · exact .ptr e 0
theorem opnds_vr {K : Pm} {w : World} (hk : KOk K w) {tm : Tr Value} {a : Act} (h : ∀ t, VR K (tmOf tm t) (a.tmps.getD t undef)) {x : Operand} (hx : opndOk x = true) : VR K (evO tm x) (a.eval x) := by
  cases x with
  | tmp t => exact h t
  | const v => exact (gnd_vr 9 v hx K).1
  | global g => exact glob_vr hk hx
  | func f => exact (VR.func_iff (by simp)).2 ⟨#[], #[], rfl, LR.nil K, LR.nil K⟩
theorem opsOk_cons {o : Oper} {os : List Oper} (h : opsOk (o :: os) = true) : (∀ x ∈ o.op.operands.toList, opndOk x = true) ∧ opsOk os = true := by
  simp only [opsOk] at h
  split at h
  · rename_i ha
    exact ⟨List.all_eq_true.1 ha, h⟩
  · cases h
theorem seqS_succ {n : Nat} (hO : OpS P O n) (hS : SeqS P O n) : SeqS P O (n + 1) := by
  intro ops rest fr h fr' h' e
  simp only [evSeq] at e
  cases rest with
  | nil =>
    simp at e
    obtain ⟨rfl, rfl⟩ := e
    exact ⟨PF.refl _, rfl, fun k _ _ K F hF G hG w a hw hp ha htr Q hQ => hQ K a w htr (Post.same hp rfl)⟩
  | cons o rest =>
    simp only at e
    have hstep : ∀ {F : Fence} {Q : Exit → Act → World → Prop} {a : Act} {w : World} {K : Pm} {k : Nat}, ops[k]? = some o → TRel K fr a →
        (wantedA ops fr.tm o = true → o.wpIn F 0 P a w (wpOpsIn F 0 P ops Q (List.range' (k + 1) rest.length)) Q) →
        (wantedA ops fr.tm o = false → (∀ f, o.about P w a.eval = some f → F.fn f) ∧ wpOpsIn F 0 P ops Q (List.range' (k + 1) rest.length) (a.put o.dst undef) w) →
        wpOpsIn F 0 P ops Q (List.range' k (o :: rest).length) a w := by
      intro F Q a w K k ho htr h1 h2
      rw [List.length_cons, List.range'_succ]
      have hw := wanted_eq (ops := ops) (tm := fr.tm) (a := a) (o := o) (K := K) fun _ _ _ t _ _ _ => htr.val t
      unfold wpOpsIn
      rw [ho]
      simp only [hw]
      cases hwa : wantedA ops fr.tm o with
      | true => simp only [if_true]; exact h1 hwa
      | false => simp only [Bool.false_eq_true, if_false]; exact h2 hwa
    have hidx1 : ∀ k, (∀ i : Nat, (o :: rest)[i]? = ops[k + i]?) → ops[k]? = some o ∧ ∀ i : Nat, rest[i]? = ops[k + 1 + i]? := fun k hidx =>
      ⟨by have := hidx 0; simpa using this.symm, fun i => by have := hidx (i + 1); rw [show k + 1 + i = k + (i + 1) by omega]; simpa using this⟩
    split at e
    · rename_i hwa
      split at e
      · rename_i v h1 he
        obtain ⟨fr1, e, f1, f2, f3, f4⟩ := putT_some e
        obtain ⟨pf1, hs1⟩ := hO _ _ _ _ _ he
        obtain ⟨pf2, hnt, hs2⟩ := hS _ _ _ _ _ _ e
        refine ⟨pf1.trans pf2, hnt.trans f1, fun k hok hidx K F hF G hG w a hw hp ha htr Q hQ => ?_⟩
        obtain ⟨ho, hidx'⟩ := hidx1 k hidx
        obtain ⟨hops, hok'⟩ := opsOk_cons hok
        refine hstep ho htr (fun _ => ?_) fun hf => by rw [hwa] at hf; cases hf
        refine hs1 K F hF G (fun b hb => hG b (pf2.tch b hb)) w hw hp (adm_first pf2 ha) a _ Q (fun x hx => opnds_vr hp.kok htr.val (hops x hx)) fun K1 v' w1 hv hp1 => ?_
        refine hs2 (k + 1) hok' hidx' K1 F hF G hG w1 _ (pf1.wf hw) hp1.pre (adm_second pf1 hw ha hp1) ((htr.mono hp1.mono).put hv f1 f2 f3 f4) Q fun K2 a2 w2 htr2 hp2 => ?_
        exact hQ K2 a2 w2 htr2 (hp1.trans pf2.wr hp2)
      · cases e
    · rename_i hwa
      obtain ⟨fr1, e, f1, f2, f3, f4⟩ := putT_some e
      obtain ⟨pf2, hnt, hs2⟩ := hS _ _ _ _ _ _ e
      refine ⟨pf2, hnt.trans f1, fun k hok hidx K F hF G hG w a hw hp ha htr Q hQ => ?_⟩
      obtain ⟨ho, hidx'⟩ := hidx1 k hidx
      obtain ⟨hops, hok'⟩ := opsOk_cons hok
      refine hstep ho htr (fun hf => by rw [hwa] at hf; cases hf) fun _ => ⟨fun f _ => hF.fn f, ?_⟩
      exact hs2 (k + 1) hok' hidx' K F hF G hG w _ hw hp ha (htr.put (VR.undef K) f1 f2 f3 f4) Q hQ

/-! ### rounds -/
theorem setPs_ok {β : Type} {nt : Nat} : ∀ {ts : List Tmp} {vs : List Value} {tm : Tr Value} {k : Tr Value → Option β} {r : β}, setPs nt ts vs tm k = some r →
    ∃ tm', k tm' = some r ∧ ts.length = vs.length ∧ ∀ K (vs0 : List Value) (A : Array Value), LR K vs vs0 → A.size = nt → (∀ t, VR K (tmOf tm t) (A.getD t undef)) →
      ((ts.zip vs0).foldl (fun (A : Array Value) (x : Tmp × Value) => A.setIfInBounds x.1 x.2) A).size = nt ∧
      ∀ t, VR K (tmOf tm' t) (((ts.zip vs0).foldl (fun (A : Array Value) (x : Tmp × Value) => A.setIfInBounds x.1 x.2) A).getD t undef) := by
  intro ts
  induction ts with
  | nil =>
    intro vs tm k r e
    cases vs with
    | nil => exact ⟨tm, e, rfl, fun K vs0 A hl hA hv => ⟨hA, hv⟩⟩
    | cons => simp [setPs] at e
  | cons t ts ih =>
    intro vs tm k r e
    cases vs with
    | nil => simp [setPs] at e
    | cons v vs =>
      simp only [setPs] at e
      split at e
      · rename_i hlt
        have hlt := blt_lt hlt
        obtain ⟨tm1, e, h1⟩ := Tr.put_some e
        obtain ⟨tm2, e, h2, h3⟩ := ih e
        refine ⟨tm2, e, by simp [h2], fun K vs0 A hl hA hv => ?_⟩
        cases vs0 with
        | nil => exact absurd hl.1 (by simp)
        | cons v0 vs0 =>
          obtain ⟨g1, g2⟩ := hl.of_cons
          simp only [List.zip_cons_cons, List.foldl_cons]
          refine h3 K vs0 _ g2 (by simp [hA]) fun u => ?_
          rw [tmOf_put h1, getD_set _ _ _ _ _ (by rw [hA]; exact hlt)]
          by_cases hu : u = t
          · subst hu; simpa using g1
          · rw [if_neg hu, if_neg (Ne.symm hu)]; exact hv u
      · cases e
theorem cont_loop {K : Pm} {h : Hp} {w : World} {G : Nat → Prop} {l : Nat} {st : LoopState} {pe : Option Code} {fn : FuncId} {tm : Tr Value} {nt : Nat} {ps : Array Tmp} {as bd : Code} {df : Nat}
    (hp : Pre COk K h w G) (hG : G l) (hb : h.heap.get l = some (.loop st pe fn tm nt ps as bd df)) :
    ∃ p r, K l = .live p ∧ p.esz = 0 ∧ w.heap[p.blk]? = some (.loop r) ∧ COk as ∧ COk bd ∧ (∀ c, pe = some c → COk c) ∧ r.state = st ∧ r.pending = pe ∧ r.params = ps ∧ r.assign = as ∧ r.body = bd ∧ r.tmps.size = nt ∧
      ∀ t, VR K (tmOf tm t) (r.tmps.getD t undef) := by
  obtain ⟨p, x, h1, h2, h0, c1, c2, c3, r, rfl, h3, h4, h5, h6, h7, h8, h9⟩ := hp.cont l hG _ hb
  exact ⟨p, r, h1, h0, h2, c1, c2, c3, h3, h4, h5, h6, h7, h8, h9⟩
/-- The loop's record in another state. -/
theorem loop_write {K : Pm} {h : Hp} {w : World} {G : Nat → Prop} {l : Nat} {st st' : LoopState} {pe pe' : Option Code} {fn : FuncId} {tm : Tr Value} {nt : Nat} {ps : Array Tmp} {as bd : Code} {df : Nat} {H : Tr AObj}
    (hp : Pre COk K h w G) (hG : G l) (hb : h.heap.get l = some (.loop st pe fn tm nt ps as bd df))
    (hH : ∀ m, H.get m = if m = l then some (.loop st' pe' fn tm nt ps as bd df) else h.heap.get m) (hpe : ∀ c, pe' = some c → COk c) :
    ∃ p r, K l = .live p ∧ w.heap[p.blk]? = some (.loop r) ∧ r.state = st ∧ r.pending = pe ∧ Post COk K w K (writeH h l H) (w.putObj p.blk (.loop { r with state := st', pending := pe' })) G := by
  obtain ⟨p, r, hk, h0, hw, c1, c2, c3, h3, h4, h5, h6, h7, h8, h9⟩ := cont_loop hp hG hb
  exact ⟨p, r, hk, hw, h3, h4, Post.write hp hk hH (put_putObj (hp.kok.lt _ _ hk)) ⟨h0, c1, c2, hpe, _, rfl, rfl, rfl, h5, h6, h7, h8, h9⟩⟩
theorem roundS_succ {n : Nat} (hC : CodeS P O n) : RoundS P O (n + 1) := by
  intro l args h v h' e
  simp only [evRound] at e
  split at e
  · rename_i pe0 fn0 tm nt ps assign body df0 hb
    split at e
    · rename_i hlt
      have hlt := Nat.le_of_ble_eq_true hlt
      obtain ⟨tm1, e, hlen, hset⟩ := setPs_ok e
      rw [touchK_eq] at e
      split at e
      · rename_i fr1 h1 he1
        split at e
        · rename_i pe2 fn2 tm2 nt2 ps2 as2 bd2 df2 hb2
          obtain ⟨H2, e, hH2⟩ := writeK_some e
          split at e
          · rename_i ex fr3 h3 he3
            split at e
            · rename_i st3 pe3 fn3 tm3 nt3 ps3 as3 bd3 df3 hb3
              -- the last step, whatever the exit
              have last : ∃ (jump : Option Code) (H4 : Tr AObj), (∀ m, H4.get m = if m = l then some (.loop (if jump.isNone then .ready else .done) jump fn3 tm3 nt3 ps3 as3 bd3 df3) else h3.heap.get m) ∧
                  h' = writeH h3 l H4 ∧ v = .bool jump.isNone ∧ (∀ c, jump = some c → COk c) ∧
                  ∀ (lc : Nat) (R : Ending → World → Prop) a w, (∃ v w', (Instr.endRound lc jump).run P w = .ok v w' ∧ R (.returned v) w') → roundPost P lc R ex.out a w := by
                cases ex with
                | normal =>
                  obtain ⟨H4, e, hH4⟩ := writeK_some e
                  simp only [Option.some.injEq, Prod.mk.injEq] at e
                  exact ⟨none, H4, hH4, e.2.symm, e.1.symm, by simp, fun lc R a w h => h⟩
                | ret =>
                  obtain ⟨H4, e, hH4⟩ := writeK_some e
                  simp only [Option.some.injEq, Prod.mk.injEq] at e
                  exact ⟨some .ret, H4, hH4, e.2.symm, e.1.symm, fun c hc => by cases hc; rfl, fun lc R a w h => h⟩
                | exit id =>
                  obtain ⟨H4, e, hH4⟩ := writeK_some e
                  simp only [Option.some.injEq, Prod.mk.injEq] at e
                  exact ⟨some (.exit id), H4, hH4, e.2.symm, e.1.symm, fun c hc => by cases hc; rfl, fun lc R a w h => h⟩
                | goto t =>
                  obtain ⟨H4, e, hH4⟩ := writeK_some e
                  simp only [Option.some.injEq, Prod.mk.injEq] at e
                  exact ⟨some (.goto t), H4, hH4, e.2.symm, e.1.symm, fun c hc => by cases hc; rfl, fun lc R a w h => h⟩
              obtain ⟨jump, H4, hH4, rfl, rfl, hjok, hlast⟩ := last
              obtain ⟨pf1, hnt1, hs1⟩ := hC _ _ _ _ _ _ _ he1
              obtain ⟨pf3, hnt3, hs3⟩ := hC _ _ _ _ _ _ _ he3
              have pf0 : PF h (touchH h l) := PF.touch h l
              have hl1 : l < h1.next := Nat.lt_of_lt_of_le (show l < (touchH h l).next from hlt) pf1.next
              have pf2 : PF h1 (writeH h1 l H2) := PF.write hl1 hH2
              have hl3 : l < h3.next := Nat.lt_of_lt_of_le hl1 pf3.next
              have pf4 : PF h3 (writeH h3 l H4) := PF.write hl3 hH4
              have pfa := pf0.trans (pf1.trans (pf2.trans (pf3.trans pf4)))
              refine ⟨pfa, fun K G hG w args0 hla hw hp ha => ?_⟩
              have hGl : G l := hG l ((pf1.trans (pf2.trans (pf3.trans pf4))).tch l (bit_or.2 (.inr (bit_one.2 rfl))))
              obtain ⟨p, r, hk, h0, hr, c1, c2, c3, r1, r2, r3, r4, r5, r6, r7⟩ := cont_loop hp hGl hb
              have hargs : (⟨args0⟩ : Array Value).size = r.params.size := by
                rw [r3]
                have h1 : args0.length = args.length := hla.1.symm
                have h2 : ps.size = args.length := by rw [← hlen]; simp
                simp only [List.size_toArray]
                omega
              have hy := run_yield (P := P) (args := ⟨args0⟩) hr hargs
              refine ⟨p, _, _, _, _, hk, hy, roundIn_of_wpIn trivial ?_⟩
              rw [r4, r5]
              obtain ⟨s1, s2⟩ := hset K args0 r.tmps hla r6 r7
              have htm : ((r.params.zip ⟨args0⟩).foldl (fun tmps (t, a) => tmps.setIfInBounds t a) r.tmps) = ((ps.toList.zip args0).foldl (fun (A : Array Value) (x : Tmp × Value) => A.setIfInBounds x.1 x.2) r.tmps) := by
                rw [← Array.foldl_toList, Array.toList_zip, r3]
              rw [htm]
              have hF : Fok K (some l) (Fence.wide.inRound p.blk) := ⟨p, hk, h0, rfl⟩
              have wf0 : Wf (touchH h l) := pf0.wf hw
              have ha1 : Adm K (touchH h l) h1 := adm_first (pf2.trans (pf3.trans pf4)) ha
              have hGs : ∀ {x : Hp}, PF x (writeH h3 l H4) → ∀ b, bit x.tch b → G b := fun pf b hb => hG b (pf.tch b hb)
              refine wpIn_mono (hs1 c1 K _ G hF (hGs (pf2.trans (pf3.trans pf4))) w _ wf0 (hp.same rfl) ha1 ⟨s1, s2, rfl⟩) ?_
              rintro e1 a1 w1 ⟨rfl, K1, htr1, hp1⟩
              obtain ⟨p2, q2, k2, w2, t1, t2, hpost2⟩ := loop_write hp1.pre hGl hb2 hH2 (fun c hc => by
                obtain ⟨_, _, _, _, _, _, _, c3', _⟩ := cont_loop hp1.pre hGl hb2
                exact c3' c hc)
              have hkk : p2 = p := by
                have := hp1.mono.live hk h0
                rw [this] at k2; cases k2; rfl
              subst hkk
              refine ⟨_, run_beginRound w2 t1, ?_⟩
              have hbusy : (w1.putObj p2.blk (.loop { q2 with state := .busy, pending := pe2 })) = w1.putObj p2.blk (.loop { q2 with state := .busy }) := by rw [← t2]
              rw [← hbusy]
              have hp12 : Post COk K w K1 (writeH h1 l H2) (w1.putObj p2.blk (.loop { q2 with state := .busy, pending := pe2 })) G := hp1.trans pf2.wr hpost2
              have ha3 : Adm K1 (writeH h1 l H2) h3 := by
                refine adm_second (h := touchH h l) (pf1.trans pf2) wf0 (adm_first pf4 ha) hp12
              refine wpIn_mono (hs3 c2 K1 _ G (hF.mono hp1.mono) (hGs pf4) _ a1 ((pf1.trans pf2).wf wf0) hpost2.pre ha3 htr1) ?_
              rintro e3 a3 w3 ⟨rfl, K3, htr3, hp3⟩
              obtain ⟨p4, q4, k4, w4, u1, u2, hpost4⟩ := loop_write hp3.pre hGl hb3 hH4 hjok
              have hkk : p4 = p2 := by
                have := (hp12.trans pf3.wr hp3).mono.live hk h0
                rw [this] at k4; cases k4; rfl
              subst hkk
              have hfin : Post COk K w K3 (writeH h3 l H4) (w3.putObj p4.blk (.loop { q4 with state := if jump.isNone then .ready else .done, pending := jump })) G :=
                (hp12.trans pf3.wr hp3).trans pf4.wr hpost4
              refine hlast _ _ a3 w3 ⟨_, _, run_endRound jump w4, K3, _, rfl, .bool _, hfin⟩
            · cases e
          · cases e
        · cases e
      · cases e
    · cases e
  · cases e
end

section
/- A checked evaluator of closed calls, part U: regions that draw their order: what is checked of them. -/
variable {P : Program} {O : Orc}

/-! ### what comes before what -/
theorem ancOf_bit {acc : List Nat} {k : Nat} : ∀ {l : List Edge}, (ancOf acc l).testBit k = true → ∃ e ∈ l, Region.binds .any e = true ∧ (e.on = k ∨ (acc.getD e.on 0).testBit k = true) := by
  intro l
  induction l with
  | nil => intro h; simp [ancOf] at h
  | cons e l ih =>
    intro h
    simp only [ancOf] at h
    split at h
    · rename_i hb
      rcases bit_or.1 h with h | h
      · rcases bit_or.1 h with h | h
        · exact ⟨e, by simp, hb, .inl (bit_one.1 h)⟩
        · exact ⟨e, by simp, hb, .inr h⟩
      · obtain ⟨x, h1, h2, h3⟩ := ih h
        exact ⟨x, by simp [h1], h2, h3⟩
    · obtain ⟨x, h1, h2, h3⟩ := ih h
      exact ⟨x, by simp [h1], h2, h3⟩
theorem ancs_pre : ∀ (os : List Oper) (acc : List Nat), ∃ s, ancs os acc = acc ++ s ∧ s.length = os.length := by
  intro os
  induction os with
  | nil => intro acc; exact ⟨[], by simp [ancs], rfl⟩
  | cons o os ih =>
    intro acc
    obtain ⟨s, h1, h2⟩ := ih (acc ++ [ancOf acc o.after.toList])
    exact ⟨ancOf acc o.after.toList :: s, by simp [ancs, h1], by simp [h2]⟩
theorem ancs_at : ∀ (os : List Oper) (acc : List Nat) (i : Nat) (o : Oper), os[i]? = some o →
    ∃ acc', (ancs os acc).getD (acc.length + i) 0 = ancOf acc' o.after.toList ∧ ∀ k, k < acc.length + i → acc'.getD k 0 = (ancs os acc).getD k 0 := by
  intro os
  induction os with
  | nil => intro acc i o h; simp at h
  | cons p os ih =>
    intro acc i o h
    cases i with
    | zero =>
      simp at h; subst h
      obtain ⟨s, h1, h2⟩ := ancs_pre os (acc ++ [ancOf acc p.after.toList])
      refine ⟨acc, ?_, fun k hk => ?_⟩
      · simp [ancs, h1]
      · have hk : k < acc.length := hk
        simp only [ancs, h1, List.append_assoc, List.getD_eq_getElem?_getD]
        rw [List.getElem?_append_left hk]
    | succ i =>
      obtain ⟨acc', h1, h2⟩ := ih (acc ++ [ancOf acc p.after.toList]) i o (by simpa using h)
      refine ⟨acc', ?_, fun k hk => ?_⟩
      · simp only [ancs]
        rw [← h1]; congr 1; simp; omega
      · simp only [ancs]
        exact h2 k (by simp; omega)
noncomputable def inL (L : Array Bool) (i : Nat) : Prop := L.getD i false = true
noncomputable def Closed (ops : Array Oper) (L : Array Bool) : Prop := ∀ (i : Nat) (o : Oper), ops[i]? = some o → inL L i → ∀ e ∈ o.after, Region.binds .any e = true → inL L e.on
theorem lexOk_spec : ∀ {os : List Oper} {k : Nat}, lexOk os k = true → ∀ (i : Nat) (o : Oper), os[i]? = some o → ∀ e ∈ o.after, Region.binds .any e = true → e.on < k + i := by
  intro os
  induction os with
  | nil => intro k h i o ho; simp at ho
  | cons p os ih =>
    intro k h i o ho e he hb
    simp only [lexOk] at h
    split at h
    · rename_i ha
      cases i with
      | zero =>
        simp at ho; subst ho
        have := List.all_eq_true.1 ha e (by simpa using he)
        simp only [hb, Bool.not_true, Bool.false_or] at this
        exact blt_lt this
      | succ i => have := ih h i o (by simpa using ho) e he hb; omega
    · cases h
theorem anc_in {ops : Array Oper} {L : Array Bool} (hlex : ∀ (i : Nat) (o : Oper), ops[i]? = some o → ∀ e ∈ o.after, Region.binds .any e = true → e.on < i) (hc : Closed ops L) :
    ∀ (i : Nat) (o : Oper), ops[i]? = some o → (∀ e ∈ o.after, Region.binds .any e = true → inL L e.on) → ∀ k, ((ancAll ops.toList).getD i 0).testBit k = true → inL L k := by
  intro i
  induction i using Nat.strongRecOn with
  | ind i ih =>
    intro o ho he k hk
    obtain ⟨acc', h1, h2⟩ := ancs_at ops.toList [] i o (by simpa using ho)
    simp only [List.length_nil, Nat.zero_add] at h1 h2
    unfold ancAll at hk
    rw [h1] at hk
    obtain ⟨e, he1, he2, he3⟩ := ancOf_bit hk
    have he1 : e ∈ o.after := by simpa using he1
    have hlt := hlex i o ho e he1 he2
    have hin := he e he1 he2
    rcases he3 with rfl | he3
    · exact hin
    · rw [h2 _ hlt] at he3
      obtain ⟨oe, hoe⟩ : ∃ oe, ops[e.on]? = some oe := by
        have : i < ops.size := (Array.getElem?_eq_some_iff.1 ho).1
        exact ⟨_, Array.getElem?_eq_getElem (by omega)⟩
      exact ih e.on hlt oe hoe (hc e.on oe hoe hin) k he3

/-! ### temporaries -/
theorem tmpIn_mem {t : Nat} : ∀ {l : List Operand}, Operand.tmp t ∈ l → tmpIn t l = true := by
  intro l
  induction l with
  | nil => intro h; simp at h
  | cons x l ih =>
    intro h
    rcases List.mem_cons.1 h with rfl | h1
    · simp [tmpIn]
    · cases x <;> simp only [tmpIn]
      · split
        · rfl
        · exact ih h1
      · exact ih h1
      · exact ih h1
      · exact ih h1
theorem pairOk_spec {ops : List Oper} {j a : Nat} {oj : Oper} : ∀ {l : List Oper} {k : Nat}, pairOk ops j oj a l k = true → ∀ (i : Nat) (oi : Oper), l[i]? = some oi → k + i < j →
    (writesTo oi ops oj = true ∨ writesTo oj ops oi = true) → a.testBit (k + i) = true := by
  intro l
  induction l with
  | nil => intro k h i oi ho; simp at ho
  | cons p l ih =>
    intro k h i oi ho hlt hw
    simp only [pairOk] at h
    split at h
    · split at h
      · cases h
      · rename_i hc
        cases i with
        | zero =>
          simp at ho; subst ho
          simp only [Bool.and_eq_false_iff, Bool.not_eq_false', Bool.or_eq_false_iff] at hc
          rcases hc with ⟨h1, h2⟩ | h1
          · rcases hw with hw | hw
            · rw [h1] at hw; cases hw
            · rw [h2] at hw; cases hw
          · exact h1
        | succ i =>
          have := ih h i oi (by simpa using ho) (by omega) hw
          rw [show k + (i + 1) = k + 1 + i by omega]; exact this
    · rename_i hn
      have : ¬ k < j := by intro hk; have : Nat.blt k j = true := by simpa [Nat.blt_eq] using hk
                           rw [this] at hn; cases hn
      omega
theorem tmpsOk_spec {ops : List Oper} : ∀ {os : List Oper} {as : List Nat} {k : Nat}, tmpsOk ops os as k = true → ∀ (j : Nat) (oj : Oper), os[j]? = some oj →
    ∃ a, as[j]? = some a ∧ pairOk ops (k + j) oj a ops 0 = true := by
  intro os
  induction os with
  | nil => intro as k h j oj ho; simp at ho
  | cons o os ih =>
    intro as k h j oj ho
    simp only [tmpsOk] at h
    cases as with
    | nil => simp at h
    | cons a as =>
      simp only at h
      split at h
      · rename_i hp
        cases j with
        | zero => simp at ho; subst ho; exact ⟨a, rfl, hp⟩
        | succ j =>
          obtain ⟨a', h1, h2⟩ := ih h j oj (by simpa using ho)
          exact ⟨a', by simpa using h1, by rw [show k + (j + 1) = k + 1 + j by omega]; exact h2⟩
      · cases h
/-- Two operations of which one writes what the other names: the earlier must come before. -/
theorem pair_anc {ops : Array Oper} (ht : tmpsOk ops.toList ops.toList (ancAll ops.toList) 0 = true) {i j : Nat} {oi oj : Oper} (hi : ops[i]? = some oi) (hj : ops[j]? = some oj) (hlt : i < j)
    (hw : writesTo oi ops.toList oj = true ∨ writesTo oj ops.toList oi = true) : ((ancAll ops.toList).getD j 0).testBit i = true := by
  obtain ⟨a, h1, h2⟩ := tmpsOk_spec ht j oj (by simpa using hj)
  have := pairOk_spec h2 i oi (by simpa using hi) (by omega) hw
  rw [List.getD_eq_getElem?_getD, h1]
  simpa using this
end

section
/- A checked evaluator of closed calls, part V: regions that draw their order: whatever is drawn, the same is left. -/
variable {P : Program} {O : Orc}

/-- What one operation means, from the heap that it finds. -/
noncomputable def OpM (P : Program) (tm : Tr Value) (o : Oper) (h : Hp) (v : Value) (h' : Hp) : Prop :=
  PF h h' ∧ ∀ K F, Fw F → ∀ (G : Nat → Prop), (∀ b, bit h'.tch b → G b) → ∀ w, Wf h → Pre COk K h w G → Adm K h h' → ∀ a next Q, (∀ x ∈ o.op.operands.toList, VR K (evO tm x) (a.eval x)) →
    (∀ K' v' w', VR K' v v' → Post COk K w K' h' w' G → next (a.put o.dst v') w') → o.wpIn F 0 P a w next Q
/-- Neither writes what the other touches. -/
noncomputable def Ap (t w t' w' : Nat) : Prop := ∀ b, ¬ (bit w' b ∧ bit t b) ∧ ¬ (bit t' b ∧ bit w b)
structure Tc (P : Program) (ops : Array Oper) (j : Nat) (acc : List (Nat × Nat × Nat)) (fs : Nat → Fr) (hs : Nat → Tr AObj) (nx ts ws : Nat → Nat) (vs : Nat → Value) : Prop where
  step : ∀ (i : Nat) (o : Oper), j ≤ i → ops[i]? = some o → (fs (i + 1)).nt = (fs i).nt ∧ (fs (i + 1)).df = (fs i).df ∧ (∀ u, tmOf (fs (i + 1)).tm u = if o.dst = some u then vs i else tmOf (fs i).tm u) ∧
    (∀ t, o.dst = some t → t < (fs i).nt) ∧
    ((wantedA ops (fs i).tm o = true ∧ OpM P (fs i).tm o ⟨hs i, nx i, 0, 0⟩ (vs i) ⟨hs (i + 1), nx (i + 1), ts i, ws i⟩) ∨
     (wantedA ops (fs i).tm o = false ∧ vs i = .tuple #[] ∧ hs (i + 1) = hs i ∧ nx (i + 1) = nx i ∧ ts i = 0 ∧ ws i = 0))
  apart : ∀ i i', j ≤ i' → i' < i → i < ops.size → Ap (ts i) (ws i) (ts i') (ws i') ∨ ((ancAll ops.toList).getD i 0).testBit i' = true
  apartAcc : ∀ i, j ≤ i → i < ops.size → ∀ x ∈ acc, Ap (ts i) (ws i) x.2.1 x.2.2 ∨ ((ancAll ops.toList).getD i 0).testBit x.1 = true
theorem ap_of_zero {t w t' w' : Nat} (h : (w' &&& t) ||| (t' &&& w) = 0) : Ap t w t' w' := by
  intro b
  have h1 : ((w' &&& t) ||| (t' &&& w)).testBit b = false := by rw [h]; simp
  rw [Nat.testBit_or, Nat.testBit_and, Nat.testBit_and] at h1
  simp only [Bool.or_eq_false_iff, Bool.and_eq_false_iff] at h1
  refine ⟨fun ⟨a, c⟩ => ?_, fun ⟨a, c⟩ => ?_⟩ <;> unfold bit at a c
  · rcases h1.1 with h | h
    · rw [h] at a; cases a
    · rw [h] at c; cases c
  · rcases h1.2 with h | h
    · rw [h] at a; cases a
    · rw [h] at c; cases c
theorem Ap.sub {t w t' w' t2 w2 : Nat} (h : Ap t w t' w') (ht : ∀ b, bit t2 b → bit t' b) (hw : ∀ b, bit w2 b → bit w' b) : Ap t w t2 w2 := fun b => ⟨fun ⟨a, c⟩ => (h b).1 ⟨hw b a, c⟩, fun ⟨a, c⟩ => (h b).2 ⟨ht b a, c⟩⟩
theorem apartK_spec {ops : List Oper} {j t w : Nat} : ∀ {acc : List (Nat × Nat × Nat)}, apartK ops j t w acc = true → ∀ x ∈ acc, Ap t w x.2.1 x.2.2 ∨ ((ancAll ops).getD j 0).testBit x.1 = true := by
  intro acc
  induction acc with
  | nil => intro _ x hx; simp at hx
  | cons y acc ih =>
    obtain ⟨i, ti, wi⟩ := y
    intro h x hx
    simp only [apartK] at h
    split at h
    · rename_i hz
      rcases List.mem_cons.1 hx with rfl | hx
      · exact .inl (ap_of_zero (Nat.eq_of_beq_eq_true hz))
      · exact ih h x hx
    · split at h
      · rename_i hb
        rcases List.mem_cons.1 hx with rfl | hx
        · exact .inr hb
        · exact ih h x hx
      · cases h
/-- The evaluator's way through a region, as a table. -/
theorem draw_trace (ops : Array Oper) : ∀ (n : Nat), (∀ m, m < n → ∀ tm o h v h', evOp P O m tm o h = some (v, h') → OpM P tm o h v h') →
    ∀ (rest : List Oper) (j : Nat) (fr : Fr) (hp : Tr AObj) (nx0 : Nat) (acc : List (Nat × Nat × Nat)) (aT aW : Nat) fr' h' T W, rest = ops.toList.drop j → j ≤ ops.size → (∀ x ∈ acc, (∀ b, bit x.2.1 b → bit aT b) ∧ ∀ b, bit x.2.2 b → bit aW b) →
    evDraw P O n ops rest j fr ⟨hp, nx0, 0, 0⟩ acc aT aW = some (fr', h', T, W) →
    ∃ fs hs nx ts ws vs, fs j = fr ∧ hs j = hp ∧ nx j = nx0 ∧ fs ops.size = fr' ∧ hs ops.size = h'.heap ∧ nx ops.size = h'.next ∧ Tc P ops j acc fs hs nx ts ws vs ∧
      (∀ b, bit T b ↔ bit aT b ∨ ∃ i, j ≤ i ∧ i < ops.size ∧ bit (ts i) b) ∧ (∀ b, bit W b ↔ bit aW b ∨ ∃ i, j ≤ i ∧ i < ops.size ∧ bit (ws i) b) := by
  intro n
  induction n with
  | zero => intro _ rest j fr hp nx0 acc aT aW fr' h' T W _ _ _ e; simp [evDraw] at e
  | succ n ih =>
    intro hO rest j fr hp nx0 acc aT aW fr' h' T W hrest hj hcov e
    simp only [evDraw] at e
    cases rest with
    | nil =>
      simp only [Option.some.injEq, Prod.mk.injEq] at e
      obtain ⟨rfl, rfl, rfl, rfl⟩ := e
      have hjs : j = ops.size := by
        have := congrArg List.length hrest
        simp at this; omega
      subst hjs
      exact ⟨fun _ => fr, fun _ => hp, fun _ => nx0, fun _ => 0, fun _ => 0, fun _ => .tuple #[], rfl, rfl, rfl, rfl, rfl, rfl,
        ⟨fun i o h1 h2 => by have := (Array.getElem?_eq_some_iff.1 h2).1; omega, fun i i' h1 h2 h3 => by omega, fun i h1 h2 => by omega⟩,
        fun b => ⟨.inl, fun h => h.elim id fun ⟨i, h1, h2, _⟩ => by omega⟩, fun b => ⟨.inl, fun h => h.elim id fun ⟨i, h1, h2, _⟩ => by omega⟩⟩
    | cons o rest =>
      have hjl : j < ops.size := by
        have := congrArg List.length hrest
        simp at this; omega
      have hoj : ops[j]? = some o := by
        have := congrArg (fun l => l[0]?) hrest
        simp at this; exact this.symm
      have hrest' : rest = ops.toList.drop (j + 1) := by
        have := congrArg List.tail hrest
        simpa using this
      -- one more entry in front of a table
      have front : ∀ (v : Value) (fr1 : Fr) (hp1 : Tr AObj) (nx1 t w : Nat) (acc' : List (Nat × Nat × Nat)) (aT' aW' : Nat), fr1.nt = fr.nt → fr1.df = fr.df → (∀ u, tmOf fr1.tm u = if o.dst = some u then v else tmOf fr.tm u) → (∀ t, o.dst = some t → t < fr.nt) →
          ((wantedA ops fr.tm o = true ∧ OpM P fr.tm o ⟨hp, nx0, 0, 0⟩ v ⟨hp1, nx1, t, w⟩) ∨ (wantedA ops fr.tm o = false ∧ v = .tuple #[] ∧ hp1 = hp ∧ nx1 = nx0 ∧ t = 0 ∧ w = 0)) →
          (∀ x ∈ acc, Ap t w x.2.1 x.2.2 ∨ ((ancAll ops.toList).getD j 0).testBit x.1 = true) → ((acc' = (j, t, w) :: acc) ∨ (acc' = acc ∧ t = 0 ∧ w = 0)) →
          (∀ b, bit aT' b ↔ bit aT b ∨ bit t b) → (∀ b, bit aW' b ↔ bit aW b ∨ bit w b) →
          evDraw P O n ops rest (j + 1) fr1 ⟨hp1, nx1, 0, 0⟩ acc' aT' aW' = some (fr', h', T, W) →
          ∃ fs hs nx ts ws vs, fs j = fr ∧ hs j = hp ∧ nx j = nx0 ∧ fs ops.size = fr' ∧ hs ops.size = h'.heap ∧ nx ops.size = h'.next ∧ Tc P ops j acc fs hs nx ts ws vs ∧
            (∀ b, bit T b ↔ bit aT b ∨ ∃ i, j ≤ i ∧ i < ops.size ∧ bit (ts i) b) ∧ (∀ b, bit W b ↔ bit aW b ∨ ∃ i, j ≤ i ∧ i < ops.size ∧ bit (ws i) b) := by
        intro v fr1 hp1 nx1 t w acc' aT' aW' f1 f2 f3 f4 hop hap hacc hT hW e
        have hcov' : ∀ x ∈ acc', (∀ b, bit x.2.1 b → bit aT' b) ∧ ∀ b, bit x.2.2 b → bit aW' b := by
          intro x hx
          have old : x ∈ acc → (∀ b, bit x.2.1 b → bit aT' b) ∧ ∀ b, bit x.2.2 b → bit aW' b := fun hx => ⟨fun b hb => (hT b).2 (.inl ((hcov x hx).1 b hb)), fun b hb => (hW b).2 (.inl ((hcov x hx).2 b hb))⟩
          rcases hacc with rfl | ⟨rfl, _⟩
          · rcases List.mem_cons.1 hx with rfl | hx
            · exact ⟨fun b hb => (hT b).2 (.inr hb), fun b hb => (hW b).2 (.inr hb)⟩
            · exact old hx
          · exact old hx
        obtain ⟨fs, hs, nx, ts, ws, vs, g1, g2, g3, g4, g5, g6, tc, gT, gW⟩ := ih (fun m hm => hO m (by omega)) rest (j + 1) fr1 hp1 nx1 acc' aT' aW' fr' h' T W hrest' hjl hcov' e
        have ne : ∀ {α : Type} (x : α) (f : Nat → α) i, i ≠ j → (if i = j then x else f i) = f i := fun x f i h => if_neg h
        have hNj : ops.size ≠ j := by omega
        refine ⟨fun i => if i = j then fr else fs i, fun i => if i = j then hp else hs i, fun i => if i = j then nx0 else nx i, fun i => if i = j then t else ts i, fun i => if i = j then w else ws i, fun i => if i = j then v else vs i,
          if_pos rfl, if_pos rfl, if_pos rfl, (if_neg hNj).trans g4, (if_neg hNj).trans g5, (if_neg hNj).trans g6, ⟨fun i oi hji hoi => ?_, fun i i' h1 h2 h3 => ?_, fun i h1 h2 x hx => ?_⟩, fun b => ?_, fun b => ?_⟩
        · by_cases hij : i = j
          · subst hij
            rw [hoj] at hoi; cases hoi
            simp only [if_true, if_neg (show i + 1 ≠ i by omega), g1, g2, g3]
            exact ⟨f1, f2, f3, f4, hop⟩
          · simp only [if_neg hij, if_neg (show i + 1 ≠ j by omega)]
            exact tc.step i oi (by omega) hoi
        · by_cases hij : i' = j
          · subst hij
            simp only [if_true, if_neg (show i ≠ i' by omega)]
            rcases hacc with rfl | ⟨_, rfl, rfl⟩
            · exact tc.apartAcc i (by omega) h3 (i', t, w) (by simp)
            · exact .inl fun b => ⟨fun ⟨a, _⟩ => by simp [bit] at a, fun ⟨a, _⟩ => by simp [bit] at a⟩
          · simp only [if_neg hij, if_neg (show i ≠ j by omega)]
            exact tc.apart i i' (by omega) h2 h3
        · by_cases hij : i = j
          · subst hij; simp only [if_true]; exact hap x hx
          · simp only [if_neg hij]
            refine tc.apartAcc i (by omega) h2 x ?_
            rcases hacc with rfl | ⟨rfl, _⟩
            · exact List.mem_cons_of_mem _ hx
            · exact hx
        · rw [gT, hT]
          constructor
          · rintro ((h | h) | ⟨i, a, c, d⟩)
            · exact .inl h
            · exact .inr ⟨j, Nat.le_refl _, hjl, by simpa using h⟩
            · exact .inr ⟨i, by omega, c, by simp only [if_neg (show i ≠ j by omega)]; exact d⟩
          · rintro (h | ⟨i, a, c, d⟩)
            · exact .inl (.inl h)
            · by_cases hij : i = j
              · subst hij; simp only [if_true] at d; exact .inl (.inr d)
              · simp only [if_neg hij] at d; exact .inr ⟨i, by omega, c, d⟩
        · rw [gW, hW]
          constructor
          · rintro ((h | h) | ⟨i, a, c, d⟩)
            · exact .inl h
            · exact .inr ⟨j, Nat.le_refl _, hjl, by simpa using h⟩
            · exact .inr ⟨i, by omega, c, by simp only [if_neg (show i ≠ j by omega)]; exact d⟩
          · rintro (h | ⟨i, a, c, d⟩)
            · exact .inl (.inl h)
            · by_cases hij : i = j
              · subst hij; simp only [if_true] at d; exact .inl (.inr d)
              · simp only [if_neg hij] at d; exact .inr ⟨i, by omega, c, d⟩
      simp only at e
      split at e
      · rename_i hwa
        split at e
        · rename_i v hp1 nx1 t w he
          split at e
          · rename_i hap
            simp only [forceN_eq] at e
            obtain ⟨fr1, e, f1, f2, f3, f4⟩ := putT_some e
            refine front v fr1 hp1 nx1 t w _ _ _ f1 f2 f3 f4 (.inl ⟨hwa, hO n (Nat.lt_succ_self _) _ _ _ _ _ he⟩) ?_ (.inl rfl) (fun b => bit_or) (fun b => bit_or) e
            intro x hx
            simp only [Bool.or_eq_true] at hap
            rcases hap with hap | hap
            · exact .inl ((ap_of_zero (Nat.eq_of_beq_eq_true hap)).sub (hcov x hx).1 (hcov x hx).2)
            · exact apartK_spec hap x hx
          · cases e
        · cases e
      · rename_i hwa
        simp only [forceN_eq] at e
        obtain ⟨fr1, e, f1, f2, f3, f4⟩ := putT_some e
        refine front _ fr1 hp nx0 0 0 _ _ _ f1 f2 f3 f4 (.inr ⟨hwa, rfl, rfl, rfl, rfl, rfl⟩) ?_ (.inr ⟨rfl, rfl, rfl⟩) (fun b => by simp [bit]) (fun b => by simp [bit]) e
        exact fun x hx => .inl fun b => ⟨fun ⟨_, a⟩ => by simp [bit] at a, fun ⟨_, a⟩ => by simp [bit] at a⟩
end

section
/- A checked evaluator of closed calls, part W: regions that draw their order: the law. -/
variable {P : Program} {O : Orc}

section
variable {F : Fence} {n : Nat} {md : Region.Mode} {ops : Array Oper} {Q : Exit → Act → World → Prop}
theorem ready_false {listed : Array Bool} {i : Nat} (hi : i ∈ Region.ready md ops listed) : i < listed.size ∧ listed.toList[i]? = some false := by
  have h := (mem_ready.1 hi).1
  rcases Nat.lt_or_ge i listed.size with h' | h'
  · refine ⟨h', ?_⟩
    simp [h'] at h
    simp [h', h]
  · simp [h'] at h
theorem count_listed {listed : Array Bool} {i : Nat} (h : listed.toList[i]? = some false) : (listed.setIfInBounds i true).toList.count false + 1 = listed.toList.count false := by
  rw [Array.toList_setIfInBounds]
  generalize listed.toList = l at *
  induction l generalizing i with
  | nil => simp at h
  | cons x l ih =>
    cases i with
    | zero => simp at h; subst h; simp
    | succ i =>
      simp at h
      have := ih h
      simp only [List.set_cons_succ, List.count_cons]
      omega
theorem wpAnyIn_inv (J : Array Bool → Act → World → Prop)
    (hstep : ∀ listed a w i, listed.size = ops.size → i ∈ Region.ready md ops listed → J listed a w → wpOpIn F n P ops Q i (J (listed.setIfInBounds i true)) a w)
    (hdone : ∀ listed a w, listed.size = ops.size → Region.ready md ops listed = [] → J listed a w → Q .normal a w) :
    ∀ fuel listed a w, listed.size = ops.size → listed.toList.count false ≤ fuel → J listed a w → wpAnyIn F n P md ops Q fuel listed a w := by
  intro fuel
  induction fuel with
  | zero =>
    intro listed a w hs hc hI
    have hr : Region.ready md ops listed = [] := by
      rw [List.eq_nil_iff_forall_not_mem]
      intro i hi
      have := count_listed (ready_false hi).2
      omega
    exact ⟨hr, hdone listed a w hs hr hI⟩
  | succ fuel ih =>
    intro listed a w hs hc hI
    refine ⟨fun hr => hdone listed a w hs hr hI, fun i hi => wpOpIn_mono (fun a' w' h => ?_) (hstep listed a w i hs hi hI)⟩
    have := count_listed (ready_false hi).2
    exact ih _ _ _ (by simpa using hs) (by omega) h
theorem all_listed (hlex : ∀ (i : Nat) (o : Oper), ops[i]? = some o → ∀ e ∈ o.after, Region.binds .any e = true → e.on < i) {listed : Array Bool} (hs : listed.size = ops.size) (hr : Region.ready .any ops listed = []) : ∀ i, i < listed.size → listed.getD i false = true := by
  intro i
  induction i using Nat.strongRecOn with
  | ind i ih =>
    intro hi
    by_cases h : listed.getD i false = true
    · exact h
    · exfalso
      obtain ⟨o, ho⟩ : ∃ o, ops[i]? = some o := ⟨_, Array.getElem?_eq_getElem (by omega)⟩
      have : i ∈ Region.ready .any ops listed := by
        rw [mem_ready]
        refine ⟨?_, o, ho, fun e he hb => ih e.on (hlex i o ho e he hb) (by have := hlex i o ho e he hb; omega)⟩
        simp [hi] at h ⊢
        exact h
      rw [hr] at this
      cases this
end

theorem inL_set {L : Array Bool} {j : Nat} (hj : j < L.size) (i : Nat) : inL (L.setIfInBounds j true) i ↔ i = j ∨ inL L i := by
  unfold inL
  by_cases h : j = i
  · subst h; simp [Array.getD, hj]
  · simp only [Array.getD_eq_getD_getElem?]
    rw [Array.getElem?_setIfInBounds_ne h]
    constructor
    · exact .inr
    · rintro (h' | h')
      · exact absurd h'.symm h
      · exact h'

variable {ops : Array Oper} {fs : Nat → Fr} {hs : Nat → Tr AObj} {nx ts ws : Nat → Nat} {vs : Nat → Value}

theorem Tc.pf (tc : Tc P ops 0 [] fs hs nx ts ws vs) {i : Nat} (hi : i < ops.size) : PF ⟨hs i, nx i, 0, 0⟩ ⟨hs (i + 1), nx (i + 1), ts i, ws i⟩ := by
  obtain ⟨o, ho⟩ : ∃ o, ops[i]? = some o := ⟨_, Array.getElem?_eq_getElem hi⟩
  obtain ⟨_, _, _, _, h | ⟨_, _, h1, h2, h3, h4⟩⟩ := tc.step i o (Nat.zero_le _) ho
  · exact h.2.1
  · rw [h1, h2, h3, h4]; exact PF.refl _
theorem zero_bits {b : Nat} : ¬ bit 0 b := by simp [bit]
theorem Tc.low (tc : Tc P ops 0 [] fs hs nx ts ws vs) {i : Nat} (hi : i < ops.size) {b : Nat} (hb : bit (ws i) b) : b < nx (i + 1) ∧ bit (ts i) b :=
  ⟨(tc.pf hi).low (fun b h => absurd h zero_bits) b hb, (tc.pf hi).sub (fun b h => absurd h zero_bits) b hb⟩
theorem Tc.nx_le (tc : Tc P ops 0 [] fs hs nx ts ws vs) {i j : Nat} (hij : i ≤ j) (hj : j ≤ ops.size) : nx i ≤ nx j := by
  induction j with
  | zero => have : i = 0 := by omega
            subst this; exact Nat.le_refl _
  | succ j ih =>
    by_cases h : i = j + 1
    · subst h; exact Nat.le_refl _
    · exact Nat.le_trans (ih (by omega) (by omega)) (tc.pf (by omega)).next
/-- A block that is not written between two places of the table is the same there. -/
theorem Tc.hs_same (tc : Tc P ops 0 [] fs hs nx ts ws vs) {b i j : Nat} (hij : i ≤ j) (hj : j ≤ ops.size) (h : ∀ k, i ≤ k → k < j → ¬ bit (ws k) b) : (hs j).get b = (hs i).get b := by
  induction j with
  | zero => have : i = 0 := by omega
            subst this; rfl
  | succ j ih =>
    by_cases e : i = j + 1
    · subst e; rfl
    · have := (tc.pf (i := j) (by omega)).heap b (h j (by omega) (by omega))
      exact this.trans (ih (by omega) (by omega) fun k h1 h2 => h k h1 (by omega))
theorem Tc.tm_same (tc : Tc P ops 0 [] fs hs nx ts ws vs) {t i j : Nat} (hij : i ≤ j) (hj : j ≤ ops.size) (h : ∀ k o, i ≤ k → k < j → ops[k]? = some o → o.dst ≠ some t) : tmOf (fs j).tm t = tmOf (fs i).tm t := by
  induction j with
  | zero => have : i = 0 := by omega
            subst this; rfl
  | succ j ih =>
    by_cases e : i = j + 1
    · subst e; rfl
    · obtain ⟨o, ho⟩ : ∃ o, ops[j]? = some o := ⟨_, Array.getElem?_eq_getElem (by omega)⟩
      obtain ⟨_, _, h3, _, _⟩ := tc.step j o (Nat.zero_le _) ho
      rw [h3, if_neg (h j o (by omega) (by omega) ho)]
      exact ih (by omega) (by omega) fun k o h1 h2 => h k o h1 (by omega)
theorem Tc.nt (tc : Tc P ops 0 [] fs hs nx ts ws vs) {j : Nat} (hj : j ≤ ops.size) : (fs j).nt = (fs 0).nt ∧ (fs j).df = (fs 0).df := by
  induction j with
  | zero => exact ⟨rfl, rfl⟩
  | succ j ih =>
    obtain ⟨o, ho⟩ : ∃ o, ops[j]? = some o := ⟨_, Array.getElem?_eq_getElem (by omega)⟩
    obtain ⟨h1, h2, _⟩ := tc.step j o (Nat.zero_le _) ho
    exact ⟨h1.trans (ih (by omega)).1, h2.trans (ih (by omega)).2⟩

/-- What holds when the operations of L have been carried out, in whatever order. -/
structure DInv (ops : Array Oper) (fs : Nat → Fr) (hs : Nat → Tr AObj) (nx ws : Nat → Nat) (G : Nat → Prop) (K0 : Pm) (w0 : World) (a0 : Act) (L : Array Bool) (K : Pm) (a : Act) (w : World) : Prop where
  fresh : ∀ i, i < ops.size → ¬ inL L i → ∀ id, nx i ≤ id → id < nx (i + 1) → K id = .absent
  post : ∃ m, (∀ b, bit m b ↔ ∃ i, i < ops.size ∧ inL L i ∧ bit (ws i) b) ∧ Post COk K0 w0 K ⟨.leaf, 0, 0, m⟩ w (fun _ => False)
  cont : ∀ b j, j ≤ ops.size → G b → (∀ i, i < j → bit (ws i) b → inL L i) → (∀ i, j ≤ i → i < ops.size → bit (ws i) b → ¬ inL L i) → Cont COk K (hs j) w b
  size : a.tmps.size = (fs 0).nt
  tmps : ∀ t j, j ≤ ops.size → (∀ i o, i < j → ops[i]? = some o → o.dst = some t → inL L i) → (∀ i o, j ≤ i → ops[i]? = some o → o.dst = some t → ¬ inL L i) → VR K (tmOf (fs j).tm t) (a.tmps.getD t undef)
  defers : a.defers = a0.defers

theorem Post.wider {K K' : Pm} {w w' : World} {h' h2 : Hp} {G : Nat → Prop} (hp : Post COk K w K' h' w' G) (hw : ∀ b, bit h'.wr b → bit h2.wr b) : Post COk K w K' h2 w' (fun _ => False) :=
  ⟨hp.kok, fun b hb => hb.elim, hp.mono, fun b hb => hp.off b fun h => hb (hw b h), fun b p' h => by
    rcases hp.new b p' h with h | h | ⟨b0, p0, h1, h2, h3⟩
    · exact .inl h
    · exact .inr (.inl h)
    · exact .inr (.inr ⟨b0, p0, hw b0 h1, h2, h3⟩),
   ⟨fun k hk hn => hp.frm.block k hk fun b p hb hkp => hn b p (hw b hb) hkp, hp.frm.size, hp.frm.os, hp.frm.tape, hp.frm.output⟩⟩

/-- One operation more. -/
theorem DInv.step (tc : Tc P ops 0 [] fs hs nx ts ws vs) {G : Nat → Prop} {K0 : Pm} {w0 : World} {a0 : Act} {L : Array Bool} {K : Pm} {a : Act} {w : World} (hL : L.size = ops.size)
    (hG : ∀ i, i < ops.size → ∀ b, bit (ts i) b → G b) (inv : DInv ops fs hs nx ws G K0 w0 a0 L K a w) {j : Nat} {o : Oper} (hj : ops[j]? = some o) (hjL : ¬ inL L j)
    (before : ∀ i, i < j → ((ancAll ops.toList).getD j 0).testBit i = true → inL L i) (after : ∀ i, j < i → i < ops.size → ((ancAll ops.toList).getD i 0).testBit j = true → ¬ inL L i)
    (hpair : ∀ i oi, ops[i]? = some oi → ∀ t, o.dst = some t → oi.dst = some t → i ≠ j → (i < j ∧ ((ancAll ops.toList).getD j 0).testBit i = true) ∨ (j < i ∧ ((ancAll ops.toList).getD i 0).testBit j = true))
    {K' : Pm} {v' : Value} {w' : World} (hv : VR K' (vs j) v') (hp : Post COk K w K' ⟨hs (j + 1), nx (j + 1), ts j, ws j⟩ w' (fun b => bit (ts j) b)) :
    DInv ops fs hs nx ws G K0 w0 a0 (L.setIfInBounds j true) K' (a.put o.dst v') w' := by
  have hjs : j < ops.size := (Array.getElem?_eq_some_iff.1 hj).1
  have hset : ∀ i, inL (L.setIfInBounds j true) i ↔ i = j ∨ inL L i := inL_set (by omega)
  obtain ⟨f1, f2, f3, f4, _⟩ := tc.step j o (Nat.zero_le _) hj
  -- an operation that writes what j touches, or touches what j writes, comes before or after
  have clash : ∀ i, i < ops.size → i ≠ j → (∃ b, (bit (ws i) b ∧ bit (ts j) b) ∨ (bit (ts i) b ∧ bit (ws j) b)) → (i < j ∧ inL L i) ∨ (j < i ∧ ¬ inL L i) := by
    intro i hi hij ⟨b, hb⟩
    rcases Nat.lt_or_gt_of_ne hij with hlt | hlt
    · left
      refine ⟨hlt, before i hlt ?_⟩
      rcases tc.apart j i (Nat.zero_le _) hlt hjs with h | h
      · exfalso
        rcases hb with ⟨h1, h2⟩ | ⟨h1, h2⟩
        · exact (h b).1 ⟨h1, h2⟩
        · exact (h b).2 ⟨h1, h2⟩
      · exact h
    · right
      refine ⟨hlt, after i hlt hi ?_⟩
      rcases tc.apart i j (Nat.zero_le _) hlt hi with h | h
      · exfalso
        rcases hb with ⟨h1, h2⟩ | ⟨h1, h2⟩
        · exact (h b).2 ⟨h2, h1⟩
        · exact (h b).1 ⟨h2, h1⟩
      · exact h
  refine ⟨fun i hi hiL id h1 h2 => ?_, ?_, fun b j' hj' hGb hin hout => ?_, ?_, fun t j' hj' hin hout => ?_, ?_⟩
  · -- fresh
    have hij : i ≠ j := fun e => hiL ((hset i).2 (.inl e))
    have hiL' : ¬ inL L i := fun h => hiL ((hset i).2 (.inr h))
    have hnb : ¬ bit (ws j) id := by
      intro hb
      obtain ⟨l1, l2⟩ := tc.low hjs hb
      rcases Nat.lt_or_gt_of_ne hij with hlt | hlt
      · have hwi : bit (ws i) id := (tc.pf hi).fresh id h1 h2
        rcases clash i hi hij ⟨id, .inl ⟨hwi, l2⟩⟩ with ⟨_, h⟩ | ⟨h, _⟩
        · exact hiL' h
        · omega
      · have := tc.nx_le (i := j + 1) (j := i) (by omega) (by omega)
        omega
    rw [hp.off id hnb]
    exact inv.fresh i hi hiL' id h1 h2
  · -- what was left behind, on the whole
    obtain ⟨m, hm, hpost⟩ := inv.post
    refine ⟨m ||| ws j, fun b => ?_, ?_⟩
    · rw [bit_or, hm]
      constructor
      · rintro (⟨i, a1, a2, a3⟩ | h)
        · exact ⟨i, a1, (hset i).2 (.inr a2), a3⟩
        · exact ⟨j, hjs, (hset j).2 (.inl rfl), h⟩
      · rintro ⟨i, a1, a2, a3⟩
        rcases (hset i).1 a2 with rfl | a2
        · exact .inr a3
        · exact .inl ⟨i, a1, a2, a3⟩
    · exact Post.trans (h1 := ⟨.leaf, 0, 0, m⟩) (h2 := ⟨.leaf, 0, 0, m ||| ws j⟩) (fun b hb => bit_or.2 (.inl hb)) hpost (hp.wider fun b hb => bit_or.2 (.inr hb))
  · -- blocks
    by_cases hwj : bit (ws j) b
    · have hjj : j < j' := by
        rcases Nat.lt_or_ge j j' with h | h
        · exact h
        · exact absurd ((hset j).2 (.inl rfl)) (hout j h hjs hwj)
      have hsame : (hs j').get b = (hs (j + 1)).get b := tc.hs_same (by omega) hj' fun k k1 k2 hk => by
        rcases clash k (by omega) (by omega) ⟨b, .inl ⟨hk, (tc.low hjs hwj).2⟩⟩ with ⟨h, _⟩ | ⟨_, h⟩
        · omega
        · rcases (hset k).1 (hin k k2 hk) with h' | h'
          · omega
          · exact h h'
      have hc := hp.cont b (tc.low hjs hwj).2
      intro ob hob
      rw [hsame] at hob
      exact hc ob hob
    · have hc := inv.cont b j' hj' hGb (fun i hi hb => by
          rcases (hset i).1 (hin i hi hb) with rfl | h
          · exact absurd hb hwj
          · exact h) (fun i h1 h2 hb hiL => hout i h1 h2 hb ((hset i).2 (.inr hiL)))
      intro ob hob
      obtain ⟨p, x, k1, k2, k3⟩ := hc ob hob
      obtain ⟨m, _, hpost⟩ := inv.post
      have hko := hpost.kok
      refine ⟨p, x, (hp.off b hwj).trans k1, ?_, k3.mono hp.mono⟩
      rw [hp.frm.block p.blk (hko.lt _ _ k1) fun b2 p2 hb2 hk2 he => ?_]
      · exact k2
      · have := hko.inj _ _ _ _ hk2 k1 he
        subst this
        exact hwj hb2
  · cases hd : o.dst with
    | none => simpa [Act.put] using inv.size
    | some t => simpa [Act.put] using inv.size
  · -- temporaries
    by_cases hdt : o.dst = some t
    · have hjj : j < j' := by
        rcases Nat.lt_or_ge j j' with h | h
        · exact h
        · exact absurd ((hset j).2 (.inl rfl)) (hout j o h hj hdt)
      have hsame : tmOf (fs j').tm t = tmOf (fs (j + 1)).tm t := tc.tm_same (by omega) hj' fun k ok k1 k2 hok hdk => by
        rcases hpair k ok hok t hdt hdk (by omega) with ⟨h, _⟩ | ⟨h1, h2⟩
        · omega
        · have hk := hin k ok k2 hok hdk
          rcases (hset k).1 hk with h' | h'
          · omega
          · exact after k h1 (by omega) h2 h'
      rw [hsame, f3, if_pos hdt]
      have : (a.put o.dst v').tmps.getD t undef = v' := by
        rw [hdt]
        simp only [Act.put]
        have hlt : t < a.tmps.size := by rw [inv.size, ← (tc.nt (Nat.le_of_lt hjs)).1]; exact f4 t hdt
        rw [getD_set _ _ _ _ _ hlt, if_pos rfl]
      rw [this]; exact hv
    · have hold := inv.tmps t j' hj' (fun i oi hi hoi hd => by
          rcases (hset i).1 (hin i oi hi hoi hd) with rfl | h
          · rw [hj] at hoi; cases hoi; exact absurd hd hdt
          · exact h) (fun i oi h1 hoi hd hiL => hout i oi h1 hoi hd ((hset i).2 (.inr hiL)))
      have : (a.put o.dst v').tmps.getD t undef = a.tmps.getD t undef := by
        cases hd : o.dst with
        | none => rfl
        | some u =>
          simp only [Act.put]
          simp only [Array.getD_eq_getD_getElem?]
          rw [Array.getElem?_setIfInBounds_ne (fun e => hdt (by rw [hd, e]))]
      rw [this]
      exact hold.mono hp.mono
  · cases hd : o.dst <;> simpa [Act.put] using inv.defers
end

section
/- A checked evaluator of closed calls, part X: regions that draw their order, whole; code; the theorem. -/
variable {P : Program} {O : Orc}
variable {ops : Array Oper} {fs : Nat → Fr} {hs : Nat → Tr AObj} {nx ts ws : Nat → Nat} {vs : Nat → Value}

theorem Post.re {K K' : Pm} {w w' : World} {h' h2 : Hp} {G : Nat → Prop} (hp : Post COk K w K' h' w' G) (he : h2.heap = h'.heap) (hw : ∀ b, bit h'.wr b → bit h2.wr b) : Post COk K w K' h2 w' G :=
  ⟨hp.kok, fun b hb => he ▸ hp.cont b hb, hp.mono, (hp.wider hw).off, (hp.wider hw).new, (hp.wider hw).frm⟩
theorem names_dst {ops : List Oper} {o : Oper} {t : Nat} (h : o.dst = some t) : names ops o t = true := by
  unfold names; rw [h]; simp
theorem names_tmp {ops : List Oper} {o : Oper} {t : Nat} (h : Operand.tmp t ∈ o.op.operands.toList) : names ops o t = true := by
  unfold names
  have : tmpIn t (operL o.op) = true := tmpIn_mem h
  rw [this]; simp
theorem names_guard {ops : List Oper} {o g : Oper} {t j : Nat} {w : Bool} (h : o.guard = some (j, w)) (hg : ops[j]? = some g) (hd : g.dst = some t) : names ops o t = true := by
  unfold names
  rw [h]
  simp [hg, hd]
theorem draw_sound (hm : P.follows .mixedOrders = true) (hok : opsOk ops.toList = true) (hlex : lexOk ops.toList 0 = true) (htm : tmpsOk ops.toList ops.toList (ancAll ops.toList) 0 = true)
    (tc : Tc P ops 0 [] fs hs nx ts ws vs) {id : Nat} {K0 : Pm} {F : Fence} {G : Nat → Prop} {w0 : World} {a0 : Act} (hF : Fw F) (hG : ∀ i, i < ops.size → ∀ b, bit (ts i) b → G b)
    (hp : Pre COk K0 ⟨hs 0, nx 0, 0, 0⟩ w0 G) (ha : ∀ id, nx 0 ≤ id → id < nx ops.size → K0 id = .absent) (htr : TRel K0 (fs 0) a0) {T W : Nat} (hW : ∀ b, bit W b ↔ ∃ i, i < ops.size ∧ bit (ws i) b)
    (Q : Exit → Act → World → Prop) (hQ : ∀ K a w, TRel K (fs ops.size) a → Post COk K0 w0 K ⟨hs ops.size, nx ops.size, T, W⟩ w G → Q .normal a w) :
    (Code.region id ops true).wpIn F 0 P Q a0 w0 := by
  have hlx : ∀ (i : Nat) (o : Oper), ops[i]? = some o → ∀ e ∈ o.after, Region.binds .any e = true → e.on < i := fun i o ho e he hb => by
    have := lexOk_spec hlex i o (by simpa using ho) e he hb; omega
  have hoks : ∀ (i : Nat) (o : Oper), ops[i]? = some o → ∀ x ∈ o.op.operands.toList, opndOk x = true := by
    intro i o ho
    have : ∀ (l : List Oper) (i : Nat), opsOk l = true → l[i]? = some o → ∀ x ∈ o.op.operands.toList, opndOk x = true := by
      intro l
      induction l with
      | nil => intro i _ h; simp at h
      | cons p l ih =>
        intro i h hi
        obtain ⟨h1, h2⟩ := opsOk_cons h
        cases i with
        | zero => simp at hi; subst hi; exact h1
        | succ i => exact ih i h2 (by simpa using hi)
    exact this ops.toList i hok (by simpa using ho)
  refine wpIn_region_any hm (wpAnyIn_inv (fun L a w => L.size = ops.size ∧ Closed ops L ∧ ∃ K, DInv ops fs hs nx ws G K0 w0 a0 L K a w) ?_ ?_ ops.size _ a0 w0.drew (by simp) (by simp) ?_)
  · -- one operation
    rintro L a w j hLs hj ⟨_, hc, K, inv⟩
    obtain ⟨hjr, o, ho, he⟩ := mem_ready.1 hj
    have hjs : j < ops.size := (Array.getElem?_eq_some_iff.1 ho).1
    have hjL : ¬ inL L j := by
      obtain ⟨h1, h2⟩ := ready_false hj
      have h3 : L[j]? = some false := by simpa using h2
      unfold inL
      simp [Array.getD_eq_getD_getElem?, h3]
    have before : ∀ i, i < j → ((ancAll ops.toList).getD j 0).testBit i = true → inL L i := fun i _ hb => anc_in hlx hc j o ho he i hb
    have after : ∀ i, j < i → i < ops.size → ((ancAll ops.toList).getD i 0).testBit j = true → ¬ inL L i := fun i _ hi hb hin => by
      obtain ⟨oi, hoi⟩ : ∃ oi, ops[i]? = some oi := ⟨_, Array.getElem?_eq_getElem hi⟩
      exact hjL (anc_in hlx hc i oi hoi (hc i oi hoi hin) j hb)
    have hpair : ∀ (i : Nat) (oi : Oper), ops[i]? = some oi → ∀ t, o.dst = some t → oi.dst = some t → i ≠ j → (i < j ∧ ((ancAll ops.toList).getD j 0).testBit i = true) ∨ (j < i ∧ ((ancAll ops.toList).getD i 0).testBit j = true) := by
      intro i oi hoi t h1 h2 hij
      rcases Nat.lt_or_gt_of_ne hij with hlt | hlt
      · exact .inl ⟨hlt, pair_anc htm hoi ho hlt (.inl (by unfold writesTo; rw [h2]; exact names_dst h1))⟩
      · exact .inr ⟨hlt, pair_anc htm ho hoi hlt (.inl (by unfold writesTo; rw [h1]; exact names_dst h2))⟩
    have named : ∀ t, names ops.toList o t = true → VR K (tmOf (fs j).tm t) (a.tmps.getD t undef) := by
      intro t ht
      refine inv.tmps t j (Nat.le_of_lt hjs) (fun i oi hi hoi hd => ?_) fun i oi hi hoi hd => ?_
      · exact before i hi (pair_anc htm hoi ho hi (.inl (by unfold writesTo; rw [hd]; exact ht)))
      · by_cases e : i = j
        · subst e; exact hjL
        · exact after i (by omega) (Array.getElem?_eq_some_iff.1 hoi).1 (pair_anc htm ho hoi (by omega) (.inr (by unfold writesTo; rw [hd]; exact ht)))
    have hwant := wanted_eq (K := K) (tm := (fs j).tm) (ops := ops) (a := a) (o := o) fun g w og t h1 h2 h3 => named t (names_guard h1 (by simpa using h2) h3)
    have hset := inL_set (L := L) (j := j) (by omega)
    have hclosed : Closed ops (L.setIfInBounds j true) := by
      intro i oi hoi hin e he' hb
      rw [hset]
      right
      rcases (hset i).1 hin with rfl | hin
      · rw [ho] at hoi; cases hoi
        exact he e he' hb
      · exact hc i oi hoi hin e he' hb
    have next : ∀ K' v' w', VR K' (vs j) v' → Post COk K w K' ⟨hs (j + 1), nx (j + 1), ts j, ws j⟩ w' (fun b => bit (ts j) b) →
        (L.setIfInBounds j true).size = ops.size ∧ Closed ops (L.setIfInBounds j true) ∧ ∃ K, DInv ops fs hs nx ws G K0 w0 a0 (L.setIfInBounds j true) K (a.put o.dst v') w' := fun K' v' w' hv hpost =>
      ⟨by simpa using hLs, hclosed, K', DInv.step tc hLs hG inv ho hjL before after hpair hv hpost⟩
    have hpre : Pre COk K ⟨hs j, nx j, 0, 0⟩ w (fun b => bit (ts j) b) := by
      obtain ⟨m, _, hpost⟩ := inv.post
      refine ⟨hpost.kok, fun b hb => inv.cont b j (Nat.le_of_lt hjs) (hG j hjs b hb) (fun i hi hwi => ?_) fun i h1 h2 hwi => ?_⟩
      · rcases tc.apart j i (Nat.zero_le _) hi hjs with h | h
        · exact absurd ⟨hwi, hb⟩ (h b).1
        · exact before i hi h
      · by_cases e : i = j
        · subst e; exact hjL
        · rcases tc.apart i j (Nat.zero_le _) (by omega) h2 with h | h
          · exact absurd ⟨hb, hwi⟩ (h b).2
          · exact after i (by omega) h2 h
    unfold wpOpIn
    rw [ho]
    simp only [hwant]
    obtain ⟨_, _, _, _, hstep⟩ := tc.step j o (Nat.zero_le _) ho
    rcases hstep with ⟨hwa, pf, hsem⟩ | ⟨hwa, h1, h2, h3, h4, h5⟩
    · rw [hwa]
      simp only [if_true]
      refine hsem K F hF (fun b => bit (ts j) b) (fun b hb => hb) w (fun b hb => absurd hb zero_bits) hpre (fun id h1 h2 => inv.fresh j hjs hjL id h1 h2) a _ Q (fun x hx => ?_) next
      have hxo := hoks j o ho x hx
      cases x with
      | tmp t => exact named t (names_tmp hx)
      | const v => exact (gnd_vr 9 v hxo K).1
      | global g => exact glob_vr hpre.kok hxo
      | func f => exact (VR.func_iff (by simp)).2 ⟨#[], #[], rfl, LR.nil K, LR.nil K⟩
    · rw [hwa]
      simp only [Bool.false_eq_true, if_false]
      refine ⟨fun f _ => hF.fn f, next K undef w (by rw [h1]; exact VR.undef K) ?_⟩
      have := Post.same (h' := ⟨hs (j + 1), nx (j + 1), ts j, ws j⟩) hpre (by rw [h2])
      exact this
  · -- all of them
    rintro L a w hLs hr ⟨_, hc, K, inv⟩
    have hall : ∀ i, i < ops.size → inL L i := fun i hi => all_listed hlx hLs hr i (by omega)
    obtain ⟨m, hmb, hpost⟩ := inv.post
    refine hQ K a w ⟨by rw [inv.size, (tc.nt (Nat.le_refl _)).1], fun t => ?_, by rw [inv.defers, (tc.nt (Nat.le_refl _)).2]; exact htr.df.mono hpost.mono⟩ ?_
    · exact inv.tmps t ops.size (Nat.le_refl _) (fun i o hi _ _ => hall i hi) fun i o hi ho _ => by have := (Array.getElem?_eq_some_iff.1 ho).1; omega
    · have hmW : ∀ b, bit m b → bit W b := fun b hb => by
        obtain ⟨i, h1, _, h3⟩ := (hmb b).1 hb
        exact (hW b).2 ⟨i, h1, h3⟩
      have hw := hpost.wider (h2 := ⟨hs ops.size, nx ops.size, T, W⟩) hmW
      exact ⟨hw.kok, fun b hb => inv.cont b ops.size (Nat.le_refl _) hb (fun i hi _ => hall i hi) (fun i h1 h2 => by omega), hw.mono, hw.off, hw.new, hw.frm⟩
  · -- at the beginning
    have hno : ∀ i, ¬ inL (Array.replicate ops.size false) i := fun i h => by
      unfold inL at h
      simp only [Array.getD_eq_getD_getElem?, Array.getElem?_replicate] at h
      split at h <;> simp at h
    refine ⟨by simp, fun i o _ h => absurd h (hno i), K0, ⟨fun i hi _ id h1 h2 => ha id (Nat.le_trans (tc.nx_le (Nat.zero_le _) (by omega)) h1) (Nat.lt_of_lt_of_le h2 (tc.nx_le (by omega) (Nat.le_refl _))), ⟨0, fun b => ⟨fun h => absurd h zero_bits, fun ⟨i, _, h, _⟩ => absurd h (hno i)⟩, ?_⟩,
      fun b j hj hGb hin _ => ?_, htr.size, fun t j hj hin _ => ?_, rfl⟩⟩
    · exact Post.drew (h := ⟨.leaf, 0, 0, 0⟩) ⟨hp.kok, fun b hb => hb.elim⟩ rfl
    · have := tc.hs_same (b := b) (Nat.zero_le j) hj fun k _ hk hb => hno k (hin k hk hb)
      intro ob hob
      rw [this] at hob
      exact hp.cont b hGb ob hob
    · rw [tc.tm_same (Nat.zero_le j) hj fun k o _ hk ho hd => hno k (hin k o hk ho hd)]
      exact htr.val t

/-- The table's own book-keeping, on the whole. -/
theorem Tc.whole (tc : Tc P ops 0 [] fs hs nx ts ws vs) {t0 w0 T W : Nat} (hT : ∀ b, bit T b ↔ ∃ i, i < ops.size ∧ bit (ts i) b) (hW : ∀ b, bit W b ↔ ∃ i, i < ops.size ∧ bit (ws i) b) :
    PF ⟨hs 0, nx 0, t0, w0⟩ ⟨hs ops.size, nx ops.size, t0 ||| T, w0 ||| W⟩ := by
  refine ⟨tc.nx_le (Nat.zero_le _) (Nat.le_refl _), fun b hb => bit_or.2 (.inl hb), fun b hb => bit_or.2 (.inl hb), fun b hb => ?_, fun b h1 h2 => ?_, fun hl b hb => ?_, fun hs b hb => ?_⟩
  · exact tc.hs_same (Nat.zero_le _) (Nat.le_refl _) fun k _ hk hw => hb (bit_or.2 (.inr ((hW b).2 ⟨k, hk, hw⟩)))
  · have : ∀ j, j ≤ ops.size → nx 0 ≤ b → b < nx j → ∃ i, i < j ∧ bit (ws i) b := by
      intro j
      induction j with
      | zero => intro _ h3 h4; omega
      | succ j ih =>
        intro hj h3 h4
        by_cases h5 : b < nx j
        · obtain ⟨i, h6, h7⟩ := ih (by omega) h3 h5
          exact ⟨i, by omega, h7⟩
        · exact ⟨j, by omega, (tc.pf (by omega)).fresh b (by simpa using h5) h4⟩
    obtain ⟨i, h3, h4⟩ := this ops.size (Nat.le_refl _) h1 h2
    exact bit_or.2 (.inr ((hW b).2 ⟨i, h3, h4⟩))
  · rcases bit_or.1 hb with h | h
    · exact Nat.lt_of_lt_of_le (hl b h) (tc.nx_le (Nat.zero_le _) (Nat.le_refl _))
    · obtain ⟨i, h1, h2⟩ := (hW b).1 h
      exact Nat.lt_of_lt_of_le (tc.low h1 h2).1 (tc.nx_le (by omega) (Nat.le_refl _))
  · rcases bit_or.1 hb with h | h
    · exact bit_or.2 (.inl (hs b h))
    · obtain ⟨i, h1, h2⟩ := (hW b).1 h
      exact bit_or.2 (.inr ((hT b).2 ⟨i, h1, (tc.low h1 h2).2⟩))

/-! ### regions tried in every order -/
theorem eqLW_spec {f : Value → Value → Bool} (hf : ∀ x y, f x y = true → x = y) : ∀ {xs ys : List Value}, eqLW f xs ys = true → xs = ys
  | [], [], _ => rfl
  | x :: xs, y :: ys, h => by
    simp only [eqLW] at h
    split at h
    · rename_i h1; rw [hf x y h1, eqLW_spec hf h]
    · cases h
  | [], _ :: _, h => by simp [eqLW] at h
  | _ :: _, [], h => by simp [eqLW] at h
theorem eqV_spec : ∀ (n : Nat) (v v' : Value), eqV n v v' = true → v = v' := by
  intro n
  induction n with
  | zero => intro v v' h; simp [eqV] at h
  | succ n ih =>
    intro v v' h
    cases v with
    | bool a => cases v' <;> simp [eqV] at h; rw [h]
    | int k a => cases v' <;> simp [eqV] at h; rw [h.1, h.2]
    | pointer a => cases v' <;> simp [eqV] at h; rw [h]
    | slice a l c =>
      cases v' <;> simp [eqV] at h
      rw [h.1.1, h.1.2, h.2]
    | map a => cases v' <;> simp [eqV] at h; rw [h]
    | agg xs =>
      cases v' with
      | agg ys => simp only [eqV] at h; rw [Array.toList_inj.1 (eqLW_spec ih h)]
      | _ => simp [eqV] at h
    | tuple xs =>
      cases v' with
      | tuple ys => simp only [eqV] at h; rw [Array.toList_inj.1 (eqLW_spec ih h)]
      | _ => simp [eqV] at h
    | _ => simp [eqV] at h
theorem eqMs_spec : ∀ {es es' : List MapEntry}, eqMs es es' = true → es = es'
  | [], [], _ => rfl
  | e :: es, e' :: es', h => by
    simp only [eqMs] at h
    split at h
    · rename_i h1
      simp only [Bool.and_eq_true] at h1
      have a := eqV_spec _ _ _ h1.1.1
      have b := eqV_spec _ _ _ h1.1.2
      have c := Nat.eq_of_beq_eq_true h1.2
      rw [eqMs_spec h]
      cases e; cases e'
      simp only at a b c
      rw [a, b, c]
    · cases h
  | [], _ :: _, h => by simp [eqMs] at h
  | _ :: _, [], h => by simp [eqMs] at h
theorem eqOb_spec {a b : Option AObj} (h : eqOb a b = true) : a = b := by
  unfold eqOb at h
  split at h
  · split at h
    · simp only [Bool.and_eq_true] at h
      rw [eqMs_spec h.1, Nat.eq_of_beq_eq_true h.2]
    · cases h
  · cases h
theorem eqDs_spec {tm tm' : Tr Value} : ∀ {l : List Oper}, eqDs tm tm' l = true → ∀ o ∈ l, ∀ t, o.dst = some t → tmOf tm t = tmOf tm' t
  | [], _, o, ho, _, _ => by simp at ho
  | p :: l, h, o, ho, t, ht => by
    simp only [eqDs] at h
    split at h
    · rename_i h1
      rcases List.mem_cons.1 ho with rfl | ho
      · rw [ht] at h1; exact eqV_spec _ _ _ h1
      · exact eqDs_spec h o ho t ht
    · cases h
/-- Two ways leave the same. -/
structure SameFH (a b : Fr × Hp) : Prop where
  next : a.2.next = b.2.next
  tch : a.2.tch = b.2.tch
  wr : a.2.wr = b.2.wr
  get : ∀ k, a.2.heap.get k = b.2.heap.get k
  nt : a.1.nt = b.1.nt
  df : a.1.df = b.1.df
  tm : ∀ t, tmOf a.1.tm t = tmOf b.1.tm t
theorem SameFH.refl (a : Fr × Hp) : SameFH a a := ⟨rfl, rfl, rfl, fun _ => rfl, rfl, rfl, fun _ => rfl⟩
theorem sameFH_spec {ops : List Oper} {fr : Fr} {h : Hp} {a b : Fr × Hp} (hs : sameFH ops a b = true) (pa : PF h a.2) (pb : PF h b.2) (na : a.1.nt = fr.nt) (nb : b.1.nt = fr.nt) (da : a.1.df = fr.df) (db : b.1.df = fr.df)
    (ta : ∀ t, (∀ o ∈ ops, o.dst ≠ some t) → tmOf a.1.tm t = tmOf fr.tm t) (tb : ∀ t, (∀ o ∈ ops, o.dst ≠ some t) → tmOf b.1.tm t = tmOf fr.tm t) : SameFH a b := by
  unfold sameFH at hs
  simp only [Bool.and_eq_true] at hs
  obtain ⟨⟨⟨⟨⟨h1, h2⟩, h3⟩, h4⟩, h5⟩, h6⟩ := hs
  have h3 := Nat.eq_of_beq_eq_true h3
  have h4 := Nat.eq_of_beq_eq_true h4
  refine ⟨Nat.eq_of_beq_eq_true h1, Nat.eq_of_beq_eq_true h2, h3, fun k => ?_, na.trans nb.symm, da.trans db.symm, fun t => ?_⟩
  · by_cases hk : Nat.log2 a.2.wr = k
    · subst hk; exact eqOb_spec h5
    · have hb : ¬ bit a.2.wr k := fun hb => by rw [h4] at hb; exact hk (bit_one.1 hb)
      rw [pa.heap k hb, pb.heap k (h3 ▸ hb)]
  · by_cases ht : ∃ o ∈ ops, o.dst = some t
    · obtain ⟨o, ho, hd⟩ := ht
      exact eqDs_spec h6 o ho t hd
    · have hn : ∀ o ∈ ops, o.dst ≠ some t := fun o ho hd => ht ⟨o, ho, hd⟩
      rw [ta t hn, tb t hn]
theorem SameFH.trel {K : Pm} {x y : Fr × Hp} (s : SameFH x y) {a : Act} (h : TRel K y.1 a) : TRel K x.1 a :=
  ⟨h.size.trans s.nt.symm, fun t => by rw [s.tm]; exact h.val t, by rw [s.df]; exact h.df⟩
theorem SameFH.post {K K' : Pm} {w w' : World} {G : Nat → Prop} {x y : Fr × Hp} (s : SameFH x y) (h : Post COk K w K' y.2 w' G) : Post COk K w K' x.2 w' G :=
  ⟨h.kok, fun b hb o ho => h.cont b hb o ((s.get b) ▸ ho), h.mono, fun b hb => h.off b (by rw [← s.wr]; exact hb), fun b p hp => by rw [s.wr]; exact h.new b p hp, by rw [s.wr]; exact h.frm⟩
theorem allK_spec {ops : List Oper} {L : Nat} {f : Nat → Oper → Option (Fr × Hp)} : ∀ {os : List Oper} {k : Nat} {acc res : Option (Fr × Hp)}, allK ops L f os k acc = some res →
    (∀ r0, acc = some r0 → res = some r0) ∧ (∀ (i : Nat) (o : Oper), os[i]? = some o → rdyOk L (k + i) o = true → ∃ r r0, f (k + i) o = some r ∧ res = some r0 ∧ (r0 = r ∨ sameFH ops r0 r = true)) ∧
    (∀ r0, res = some r0 → acc = some r0 ∨ ∃ (i : Nat) (o : Oper), os[i]? = some o ∧ rdyOk L (k + i) o = true ∧ f (k + i) o = some r0)
  | [], k, acc, res, h => by
    simp only [allK, Option.some.injEq] at h
    subst h
    exact ⟨fun _ h => h, fun i o h => by simp at h, fun _ h => .inl h⟩
  | o :: os, k, acc, res, h => by
    simp only [allK] at h
    have up : ∀ i, k + 1 + i = k + (i + 1) := fun i => by omega
    split at h
    · rename_i hr
      obtain ⟨g1, g2, g3⟩ := allK_spec h
      refine ⟨g1, fun i o' hi hr' => ?_, fun r0 h0 => ?_⟩
      · cases i with
        | zero => simp at hi; subst hi; rw [Nat.add_zero] at hr'; rw [hr] at hr'; cases hr'
        | succ i => have := g2 i o' (by simpa using hi) (by rw [up]; exact hr'); rw [up] at this; exact this
      · rcases g3 r0 h0 with q | ⟨i, o', a, b, c⟩
        · exact .inl q
        · exact .inr ⟨i + 1, o', by simpa using a, by rw [← up]; exact b, by rw [← up]; exact c⟩
    · rename_i hr
      split at h
      · cases h
      · rename_i r hf
        split at h
        · obtain ⟨g1, g2, g3⟩ := allK_spec h
          have hres := g1 r rfl
          refine ⟨fun _ h => (by cases h), fun i o' hi hr' => ?_, fun r0 h0 => ?_⟩
          · cases i with
            | zero => simp at hi; subst hi; exact ⟨r, r, hf, hres, .inl rfl⟩
            | succ i => have := g2 i o' (by simpa using hi) (by rw [up]; exact hr'); rw [up] at this; exact this
          · rw [hres] at h0; cases h0
            exact .inr ⟨0, o, rfl, hr, hf⟩
        · rename_i r0
          split at h
          · rename_i hs
            obtain ⟨g1, g2, g3⟩ := allK_spec h
            have hres := g1 r0 rfl
            refine ⟨fun _ h => by cases h; exact hres, fun i o' hi hr' => ?_, fun r1 h1 => ?_⟩
            · cases i with
              | zero => simp at hi; subst hi; exact ⟨r, r0, hf, hres, .inr hs⟩
              | succ i => have := g2 i o' (by simpa using hi) (by rw [up]; exact hr'); rw [up] at this; exact this
            · rw [hres] at h1; cases h1; exact .inl rfl
          · cases h
theorem befOk_of {L : Nat} : ∀ {l : List Edge}, (∀ e ∈ l, Region.binds .any e = true → L.testBit e.on = true) → befOk L l = true
  | [], _ => rfl
  | e :: es, h => by
    simp only [befOk]
    split
    · rename_i hb
      simp only [Bool.and_eq_true, Bool.not_eq_true'] at hb
      rw [h e (by simp) hb.1] at hb
      cases hb.2
    · exact befOk_of fun e' he => h e' (by simp [he])
theorem befOk_to {L : Nat} : ∀ {l : List Edge}, befOk L l = true → ∀ e ∈ l, Region.binds .any e = true → L.testBit e.on = true
  | [], _, e, he, _ => by simp at he
  | p :: es, h, e, he, hb => by
    simp only [befOk] at h
    split at h
    · cases h
    · rename_i hc
      rcases List.mem_cons.1 he with rfl | he
      · cases ht : L.testBit e.on with
        | true => rfl
        | false => rw [hb, ht] at hc; simp at hc
      · exact befOk_to h e he hb
theorem all_zero : AllS P O 0 := fun ops L fr h fr' h' e => by simp [evAll] at e
theorem all_succ {n : Nat} (hO : OpS P O n) (hA : AllS P O n) : AllS P O (n + 1) := by
  intro ops L fr h fr' h' e
  simp only [evAll] at e
  generalize hk : allK ops.toList L _ ops.toList 0 none = res at e
  cases res with
  | none => simp [allEnd] at e
  | some res =>
    obtain ⟨_, g2, g3⟩ := allK_spec hk
    -- one operation, and what comes behind it
    have one : ∀ (i : Nat) (o : Oper) (r : Fr × Hp), ops[i]? = some o → (match wantedA ops fr.tm o with
        | true => match evOp P O n fr.tm o h with
          | some (v, h) => putT fr o.dst v fun fr => evAll P O n ops (L ||| (1 <<< i)) fr h
          | none => none
        | false => putT fr o.dst (.tuple #[]) fun fr => evAll P O n ops (L ||| (1 <<< i)) fr h) = some r →
        PF h r.2 ∧ r.1.nt = fr.nt ∧ r.1.df = fr.df ∧ (∀ t, (∀ o ∈ ops.toList, o.dst ≠ some t) → tmOf r.1.tm t = tmOf fr.tm t) ∧ (opsOk ops.toList = true → ∀ listed : Array Bool, listed.size = ops.size → (∀ i, listed.getD i false = L.testBit i) → listed.getD i false = false →
          ∀ K F, Fw F → ∀ (G : Nat → Prop), (∀ b, bit r.2.tch b → G b) → ∀ w a, Wf h → Pre COk K h w G → Adm K h r.2 → TRel K fr a →
          ∀ Q, (∀ K' a' w', TRel K' r.1 a' → Post COk K w K' r.2 w' G → Q .normal a' w') → ∀ fuel, listed.toList.count false ≤ fuel + 1 →
            wpOpIn F 0 P ops Q i (wpAnyIn F 0 P .any ops Q fuel (listed.setIfInBounds i true)) a w) := by
      intro i o r hi e
      have hil : i < ops.size := (Array.getElem?_eq_some_iff.1 hi).1
      have hio : o ∈ ops.toList := by
        have : ops.toList[i]? = some o := by simpa using hi
        exact List.mem_of_getElem? this
      have hoks : opsOk ops.toList = true → ∀ x ∈ o.op.operands.toList, opndOk x = true := by
        intro hok
        have : ∀ (l : List Oper) (i : Nat), opsOk l = true → l[i]? = some o → ∀ x ∈ o.op.operands.toList, opndOk x = true := by
          intro l
          induction l with
          | nil => intro i _ h; simp at h
          | cons p l ih =>
            intro i h hi
            obtain ⟨h1, h2⟩ := opsOk_cons h
            cases i with
            | zero => simp at hi; subst hi; exact h1
            | succ i => exact ih i h2 (by simpa using hi)
        exact this ops.toList i hok (by simpa using hi)
      -- the numbers of what was carried out
      have lset : ∀ listed : Array Bool, listed.size = ops.size → (∀ i, listed.getD i false = L.testBit i) → ∀ j, (listed.setIfInBounds i true).getD j false = (L ||| (1 <<< i)).testBit j := by
        intro listed hs hL j
        have h1 := inL_set (L := listed) (j := i) (by omega) j
        unfold inL at h1
        rw [hL] at h1
        rw [Bool.eq_iff_iff, h1]
        show _ ↔ bit (L ||| (1 <<< i)) j
        rw [bit_or, bit_one]
        exact ⟨fun q => q.elim (fun q => .inr q.symm) .inl, fun q => q.elim .inr fun q => .inl q.symm⟩
      have lcnt : ∀ listed : Array Bool, listed.size = ops.size → listed.getD i false = false → (listed.setIfInBounds i true).toList.count false + 1 = listed.toList.count false := by
        intro listed hs hf
        refine count_listed ?_
        have : i < listed.size := by omega
        simp [Array.getD, this] at hf
        simp [this, hf]
      -- behind the operation
      have next : ∀ (v : Value) (fr1 : Fr) (h1 : Hp), evAll P O n ops (L ||| (1 <<< i)) fr1 h1 = some r → fr1.nt = fr.nt → fr1.df = fr.df → (∀ u, tmOf fr1.tm u = if o.dst = some u then v else tmOf fr.tm u) → (∀ t, o.dst = some t → t < fr.nt) → PF h h1 →
          PF h r.2 ∧ r.1.nt = fr.nt ∧ r.1.df = fr.df ∧ (∀ t, (∀ o ∈ ops.toList, o.dst ≠ some t) → tmOf r.1.tm t = tmOf fr.tm t) ∧ (opsOk ops.toList = true → ∀ listed : Array Bool, listed.size = ops.size → (∀ i, listed.getD i false = L.testBit i) → listed.getD i false = false →
            ∀ K F, Fw F → ∀ (G : Nat → Prop), (∀ b, bit r.2.tch b → G b) → ∀ w a, Wf h → Adm K h r.2 → TRel K fr a →
            ∀ Q, (∀ K' a' w', TRel K' r.1 a' → Post COk K w K' r.2 w' G → Q .normal a' w') → ∀ fuel, listed.toList.count false ≤ fuel + 1 →
            ∀ K1 v' w1, VR K1 v v' → Post COk K w K1 h1 w1 G → wpAnyIn F 0 P .any ops Q fuel (listed.setIfInBounds i true) (a.put o.dst v') w1) := by
        intro v fr1 h1 e f1 f2 f3 f4 pf1
        obtain ⟨r1, r2⟩ := r
        obtain ⟨pf2, q1, q2, q3, q4⟩ := hA _ _ _ _ _ _ e
        refine ⟨pf1.trans pf2, q1.trans f1, q2.trans f2, fun t ht => ?_, ?_⟩
        · rw [q3 t ht, f3, if_neg (ht o hio)]
        · intro hok listed hs hL hf K F hFw G hG w a hw ha htr Q hQ fuel hfuel K1 v' w1 hv hp1
          refine q4 hok _ (by simpa using hs) (lset listed hs hL) K1 F hFw G hG w1 _ (pf1.wf hw) hp1.pre (adm_second pf1 hw ha hp1) ((htr.mono hp1.mono).put hv f1 f2 f3 f4) Q (fun K' a' w' h1 h2 => hQ K' a' w' h1 (hp1.trans pf2.wr h2)) fuel ?_
          have := lcnt listed hs hf
          omega
      split at e
      · rename_i hwa
        split at e
        · rename_i v h1 he
          obtain ⟨fr1, e, f1, f2, f3, f4⟩ := putT_some e
          obtain ⟨pf1, hsem⟩ := hO _ _ _ _ _ he
          obtain ⟨n1, n2, n3, n4, n5⟩ := next v fr1 h1 e f1 f2 f3 f4 pf1
          refine ⟨n1, n2, n3, n4, fun hok listed hs hL hf K F hFw G hG w a hw hp ha htr Q hQ fuel hfuel => ?_⟩
          have hwant := wanted_eq (K := K) (tm := fr.tm) (ops := ops) (a := a) (o := o) fun g w og t h1 h2 h3 => htr.val t
          unfold wpOpIn
          rw [hi]
          simp only [hwant, hwa, if_true]
          obtain ⟨r1, r2⟩ := r
          obtain ⟨pf2, _⟩ := hA _ _ _ _ _ _ e
          refine hsem K F hFw G (fun b hb => hG b (pf2.tch b hb)) w hw hp (adm_first pf2 ha) a _ Q (fun x hx => ?_) fun K1 v' w1 hv hp1 => n5 hok listed hs hL hf K F hFw G hG w a hw ha htr Q hQ fuel hfuel K1 v' w1 hv hp1
          have hxo := hoks hok x hx
          cases x with
          | tmp t => exact htr.val t
          | const v => exact (gnd_vr 9 v hxo K).1
          | global g => exact glob_vr hp.kok hxo
          | func f => exact (VR.func_iff (by simp)).2 ⟨#[], #[], rfl, LR.nil K, LR.nil K⟩
        · cases e
      · rename_i hwa
        obtain ⟨fr1, e, f1, f2, f3, f4⟩ := putT_some e
        obtain ⟨n1, n2, n3, n4, n5⟩ := next (.tuple #[]) fr1 h e f1 f2 f3 f4 (PF.refl h)
        refine ⟨n1, n2, n3, n4, fun hok listed hs hL hf K F hFw G hG w a hw hp ha htr Q hQ fuel hfuel => ?_⟩
        have hwant := wanted_eq (K := K) (tm := fr.tm) (ops := ops) (a := a) (o := o) fun g w og t h1 h2 h3 => htr.val t
        unfold wpOpIn
        rw [hi]
        simp only [hwant, hwa, Bool.false_eq_true, if_false]
        exact ⟨fun f _ => hFw.fn f, n5 hok listed hs hL hf K F hFw G hG w a hw ha htr Q hQ fuel hfuel K undef w (VR.undef K) (Post.same hp rfl)⟩
    have hrdy : ∀ listed : Array Bool, listed.size = ops.size → (∀ i, listed.getD i false = L.testBit i) → ∀ i, i ∈ Region.ready .any ops listed → ∃ o, ops[i]? = some o ∧ rdyOk L i o = true ∧ listed.getD i false = false := by
      intro listed hs hL i hi
      obtain ⟨h1, o, ho, he⟩ := mem_ready.1 hi
      have hf : listed.getD i false = false := by
        have hl : i < listed.size := by rw [hs]; exact (Array.getElem?_eq_some_iff.1 ho).1
        simp [Array.getD, hl] at h1 ⊢
        exact h1
      refine ⟨o, ho, ?_, hf⟩
      unfold rdyOk
      rw [← hL, hf, befOk_of fun e he' hb => by rw [← hL]; exact he e (by simpa using he') hb]
      rfl
    cases res with
    | none =>
      simp only [allEnd, Option.some.injEq, Prod.mk.injEq] at e
      obtain ⟨rfl, rfl⟩ := e
      refine ⟨PF.refl _, rfl, rfl, fun _ _ => rfl, fun hok listed hs hL K F hFw G hG w a hw hp ha htr Q hQ fuel hfuel => ?_⟩
      have hnone : Region.ready .any ops listed = [] := by
        rw [List.eq_nil_iff_forall_not_mem]
        intro i hi
        obtain ⟨o, ho, hr, _⟩ := hrdy listed hs hL i hi
        obtain ⟨r, r0, _, q, _⟩ := g2 i o (by simpa using ho) (by rw [Nat.zero_add]; exact hr)
        cases q
      have hq := hQ K a w htr (Post.same hp rfl)
      cases fuel with
      | zero => exact ⟨hnone, hq⟩
      | succ fuel => exact ⟨fun _ => hq, fun i hi => by rw [hnone] at hi; cases hi⟩
    | some r0 =>
      simp only [allEnd, Option.some.injEq] at e
      subst e
      rcases g3 _ rfl with q | ⟨i0, o0, hi0, hr0, hf0⟩
      · cases q
      rw [Nat.zero_add] at hr0 hf0
      have hi0' : ops[i0]? = some o0 := by simpa using hi0
      obtain ⟨p1, p2, p3, p4, _⟩ := one i0 o0 _ hi0' hf0
      refine ⟨p1, p2, p3, p4, fun hok listed hs hL K F hFw G hG w a hw hp ha htr Q hQ fuel hfuel => ?_⟩
      have hil0 : i0 < ops.size := (Array.getElem?_eq_some_iff.1 hi0').1
      unfold rdyOk at hr0
      simp only [Bool.and_eq_true, Bool.not_eq_true'] at hr0
      have hin0 : i0 ∈ Region.ready .any ops listed := by
        rw [mem_ready]
        refine ⟨?_, o0, hi0', fun e he hb => by rw [hL]; exact befOk_to hr0.2 e (by simpa using he) hb⟩
        have h1 := (hL i0).trans hr0.1
        have hl : i0 < listed.size := by omega
        simp [Array.getD, hl] at h1 ⊢
        exact h1
      have hcnt := count_listed (ready_false hin0).2
      cases fuel with
      | zero => omega
      | succ fuel =>
        refine ⟨fun hn => (by rw [hn] at hin0; cases hin0), fun i hi => ?_⟩
        obtain ⟨o, ho, hr, hf⟩ := hrdy listed hs hL i hi
        obtain ⟨r, r1, hf1, q, hsame⟩ := g2 i o (by simpa using ho) (by rw [Nat.zero_add]; exact hr)
        cases q
        rw [Nat.zero_add] at hf1
        obtain ⟨m1, m2, m3, m4, m5⟩ := one i o r ho hf1
        have hS : SameFH (fr', h') r := by
          rcases hsame with rfl | hsame
          · exact SameFH.refl _
          · exact sameFH_spec (fr := fr) hsame p1 m1 p2 m2 p3 m3 p4 m4
        exact m5 hok listed hs hL hf K F hFw G (fun b hb => hG b (by rw [show h'.tch = r.2.tch from hS.tch]; exact hb)) w a hw hp (fun id a b => ha id a (by rw [show h'.next = r.2.next from hS.next]; exact b)) htr Q
          (fun K' a' w' h1 h2 => hQ K' a' w' (hS.trel h1) (hS.post h2)) fuel (by omega)
theorem PF.widen {hp hp1 : Tr AObj} {nx nx1 t w t0 w0 : Nat} (h : PF ⟨hp, nx, 0, 0⟩ ⟨hp1, nx1, t, w⟩) : PF ⟨hp, nx, t0, w0⟩ ⟨hp1, nx1, t0 ||| t, w0 ||| w⟩ :=
  ⟨h.next, fun b hb => bit_or.2 (.inl hb), fun b hb => bit_or.2 (.inl hb), fun b hb => h.heap b fun q => hb (bit_or.2 (.inr q)), fun b h1 h2 => bit_or.2 (.inr (h.fresh b h1 h2)),
   fun hl b hb => (bit_or.1 hb).elim (fun q => Nat.lt_of_lt_of_le (hl b q) h.next) fun q => h.low (fun b q => absurd q zero_bits) b q,
   fun hs b hb => (bit_or.1 hb).elim (fun q => bit_or.2 (.inl (hs b q))) fun q => bit_or.2 (.inr (h.sub (fun b q => absurd q zero_bits) b q))⟩
end

section
/- A checked evaluator of closed calls, part Y: code; the theorem. -/
variable {P : Program} {O : Orc}

theorem least {p : Nat → Prop} : ∀ (m : Nat), p m → ∃ k, p k ∧ ∀ j, j < k → ¬ p j := by
  intro m
  induction m using Nat.strongRecOn with
  | ind m ih =>
    intro h
    by_cases hx : ∃ j, j < m ∧ p j
    · obtain ⟨j, h1, h2⟩ := hx
      exact ih j h1 h2
    · exact ⟨m, h, fun j hj hp => hx ⟨j, hj, hp⟩⟩
/-- A loop that ends within so many rounds. -/
theorem wpIn_loop_in {F : Fence} {c : Code} {Q : Exit → Act → World → Prop} {a : Act} {w : World} (IM : Nat → Act → World → Prop) (h0 : ∃ m, IM m a w)
    (round : ∀ m a w, IM m a w → c.wpIn F 0 P (Exit.then (fun a' w' => ∃ k, k < m ∧ IM k a' w') Q) a w) : (Code.loop c).wpIn F 0 P Q a w := by
  classical
  let μ : Act → World → Nat := fun a w => if h : ∃ m, IM m a w then Classical.choose (least (p := fun m => IM m a w) h.choose h.choose_spec) else 0
  have hμ : ∀ a w, (∃ m, IM m a w) → IM (μ a w) a w ∧ ∀ j, j < μ a w → ¬ IM j a w := by
    intro a w h
    have := Classical.choose_spec (least (p := fun m => IM m a w) h.choose h.choose_spec)
    simp only [μ, dif_pos h]
    exact this
  refine wpIn_loop (fun a w => ∃ m, IM m a w) μ h0 fun a w h => ?_
  obtain ⟨h1, h2⟩ := hμ a w h
  refine wpIn_mono (round _ a w h1) ?_
  intro e a' w' hq
  cases e with
  | normal =>
    obtain ⟨k, hk, hi⟩ := hq
    obtain ⟨h3, h4⟩ := hμ a' w' ⟨k, hi⟩
    refine ⟨⟨k, hi⟩, ?_⟩
    rcases Nat.lt_or_ge (μ a' w') (μ a w) with h5 | h5
    · exact h5
    · exact absurd hi (h4 k (by omega))
  | _ => exact hq

/-- What code means, when it is left so. -/
noncomputable def Ends (K : Pm) (w : World) (ex : Ex) (fr' : Fr) (h' : Hp) (G : Nat → Prop) : Exit → Act → World → Prop := fun e a' w' => e = ex.out ∧ ∃ K', TRel K' fr' a' ∧ Post COk K w K' h' w' G
theorem Ends.from {K K1 : Pm} {w w1 : World} {ex : Ex} {fr' : Fr} {h1 h' : Hp} {G : Nat → Prop} (hp : Post COk K w K1 h1 w1 G) (pf : PF h1 h') {e : Exit} {a' : Act} {w' : World} (h : Ends K1 w1 ex fr' h' G e a' w') : Ends K w ex fr' h' G e a' w' :=
  ⟨h.1, let ⟨K', h2, h3⟩ := h.2; ⟨K', h2, hp.trans pf.wr h3⟩⟩

noncomputable def jumpP (P : Program) (F : Fence) (pend : Option Code) (Q : Exit → Act → World → Prop) (a : Act) (w : World) : Prop :=
  match pend with
  | none => Q .normal a w
  | some c => c.wpIn F 0 P Q a w
theorem jumpP_mono {F : Fence} {pend : Option Code} {Q Q' : Exit → Act → World → Prop} {a : Act} {w : World} (h : jumpP P F pend Q a w) (hq : ∀ e a w, Q e a w → Q' e a w) : jumpP P F pend Q' a w := by
  cases pend with
  | none => exact hq _ _ _ h
  | some c => exact wpIn_mono h hq
theorem rangePost_mono {F : Fence} {l : Nat} {Q Q' : Exit → Act → World → Prop} {a : Act} (hq : ∀ e a w, Q e a w → Q' e a w) (e : Ending) (w : World) (h : rangePost F 0 P l Q a e w) : rangePost F 0 P l Q' a e w := by
  cases e with
  | returned v =>
    obtain ⟨jump, w4, h1, h2⟩ := h
    refine ⟨jump, w4, h1, ?_⟩
    cases jump with
    | none => exact hq _ _ _ h2
    | some c => exact wpIn_mono h2 hq
  | panicked ch => exact hq _ _ _ h
  | outgrown => obtain ⟨a, w, h⟩ := h; exact ⟨a, w, hq _ _ _ h⟩
theorem loop_new {K : Pm} {h : Hp} {w : World} {G : Nat → Prop} {tm : Tr Value} {nt : Nat} {ps : Array Tmp} {as bd : Code} {H : Tr AObj} {a : Act} {fn : FuncId} {df : Nat}
    (hp : Pre COk K h w G) (ha : K h.next = .absent) (hH : ∀ m, H.get m = if m = h.next then some (.loop .ready none 0 tm nt ps as bd 0) else h.heap.get m)
    (h1 : COk as) (h2 : COk bd) (hs : a.tmps.size = nt) (hv : ∀ t, VR K (tmOf tm t) (a.tmps.getD t undef)) :
    Post COk K w (upK K h.next (.live ⟨w.heap.size, 0, 0, 0⟩)) (newH h H) (w.alloc (.loop { state := .ready, pending := none, fn, tmps := a.tmps, params := ps, assign := as, body := bd, defers := df })) G :=
  Post.alloc hp ha hH rfl ⟨rfl, h1, h2, by simp, _, rfl, rfl, rfl, rfl, rfl, rfl, hs, fun t => (hv t).mono (Mono.upd _ ha)⟩

theorem codeS_succ {n : Nat} (hm : P.follows .mixedOrders = true) (hC : ∀ m, m ≤ n → CodeS P O m) (hS : SeqS P O n) (hO : ∀ m, m < n → OpS P O m) (hA : AllS P O n) (hF : FnS P O n) : CodeS P O (n + 1) := by
  intro rd c fr h ex fr' h' e
  cases c with
  | skip =>
    simp [evC] at e; obtain ⟨rfl, rfl, rfl⟩ := e
    exact ⟨PF.refl _, rfl, fun _ K F G hFk hG w a hw hp ha htr => wpIn_skip ⟨rfl, K, htr, Post.same hp rfl⟩⟩
  | label l =>
    simp [evC] at e; obtain ⟨rfl, rfl, rfl⟩ := e
    exact ⟨PF.refl _, rfl, fun _ K F G hFk hG w a hw hp ha htr => wpIn_label ⟨rfl, K, htr, Post.same hp rfl⟩⟩
  | exit id =>
    simp [evC] at e; obtain ⟨rfl, rfl, rfl⟩ := e
    exact ⟨PF.refl _, rfl, fun _ K F G hFk hG w a hw hp ha htr => wpIn_exit ⟨rfl, K, htr, Post.same hp rfl⟩⟩
  | goto l =>
    simp [evC] at e; obtain ⟨rfl, rfl, rfl⟩ := e
    exact ⟨PF.refl _, rfl, fun _ K F G hFk hG w a hw hp ha htr => wpIn_goto ⟨rfl, K, htr, Post.same hp rfl⟩⟩
  | ret =>
    simp [evC] at e; obtain ⟨rfl, rfl, rfl⟩ := e
    exact ⟨PF.refl _, rfl, fun _ K F G hFk hG w a hw hp ha htr => wpIn_ret ⟨rfl, K, htr, Post.same hp rfl⟩⟩
  | scope b => simp [evC] at e
  | refuse s => simp [evC] at e
  | region id ops draw =>
    cases draw with
    | false =>
      simp only [evC] at e
      split at e
      · rename_i fr1 h1 he
        simp only [Option.some.injEq, Prod.mk.injEq] at e
        obtain ⟨rfl, rfl, rfl⟩ := e
        obtain ⟨pf, hnt, hs⟩ := hS _ _ _ _ _ _ he
        refine ⟨pf, hnt, fun hco K F G hFk hG w a hw hp ha htr => ?_⟩
        have hok : opsOk ops.toList = true := by simpa [codeOk] using hco
        have := hs 0 hok (fun i => by simp) K F hFk.w G hG w a hw hp ha htr (fun e a' w' => e = Ex.normal.out ∧ ∃ K', TRel K' fr1 a' ∧ Post COk K w K' h1 w' G) fun K' a' w' h2 h3 => ⟨rfl, K', h2, h3⟩
        refine wpIn_region ?_
        rw [List.range_eq_range']
        simpa using this
      · cases e
    | true =>
      obtain ⟨hp0, nx0, t0, w0⟩ := h
      simp only [evC] at e
      split at e
      · rename_i fr1 hp1 nx1 t1 w1 t w he
        simp only [forceN_eq, Option.some.injEq, Prod.mk.injEq] at e
        obtain ⟨rfl, rfl, rfl⟩ := e
        obtain ⟨fs, hs, nx, ts, ws, vs, g1, g2, g3, g4, g5, g6, tc, gT, gW⟩ := draw_trace ops n (fun m hm tm o h v h' e => hO m hm tm o h v h' e) ops.toList 0 fr hp0 nx0 [] 0 0 _ _ _ _ (by simp) (Nat.zero_le _) (by simp) he
        have gT' : ∀ b, bit t b ↔ ∃ i, i < ops.size ∧ bit (ts i) b := fun b => by
          rw [gT]; exact ⟨fun h => h.elim (fun h => absurd h zero_bits) fun ⟨i, _, a, b⟩ => ⟨i, a, b⟩, fun ⟨i, a, b⟩ => .inr ⟨i, Nat.zero_le _, a, b⟩⟩
        have gW' : ∀ b, bit w b ↔ ∃ i, i < ops.size ∧ bit (ws i) b := fun b => by
          rw [gW]; exact ⟨fun h => h.elim (fun h => absurd h zero_bits) fun ⟨i, _, a, b⟩ => ⟨i, a, b⟩, fun ⟨i, a, b⟩ => .inr ⟨i, Nat.zero_le _, a, b⟩⟩
        have pf := tc.whole (t0 := t0) (w0 := w0) gT' gW'
        simp only at g5 g6
        rw [g2, g3, g5, g6] at pf
        refine ⟨pf, ?_, fun hco K F G hFk hG w2 a hw hp ha htr => ?_⟩
        · rw [← g4, ← g1]; exact (tc.nt (Nat.le_refl _)).1
        · simp only [codeOk, Bool.and_eq_true] at hco
          refine draw_sound (T := t) (W := w) hm hco.1 hco.2.1 hco.2.2 tc (K0 := K) (G := G) hFk.w ?_ ?_ ?_ (g1.symm ▸ htr) gW' _ ?_
          · exact fun i hi b hb => hG b (bit_or.2 (.inr ((gT' b).2 ⟨i, hi, hb⟩)))
          · rw [g2, g3]; exact hp.same rfl
          · rw [g3, g6]; exact ha
          · intro K' a' w' htr' hpost
            rw [g4] at htr'
            rw [g5, g6] at hpost
            exact ⟨rfl, K', htr', hpost.re rfl fun b hb => bit_or.2 (.inr hb)⟩
      · split at e
        · rename_i fr1 hp1 nx1 t w he
          simp only [Option.some.injEq, Prod.mk.injEq] at e
          obtain ⟨rfl, rfl, rfl⟩ := e
          obtain ⟨pf, hnt, hdf, htm, hs⟩ := hA _ _ _ _ _ _ he
          refine ⟨pf.widen, hnt, fun hco K F G hFk hG w2 a hw hp ha htr => ?_⟩
          simp only [codeOk, Bool.and_eq_true] at hco
          refine wpIn_region_any hm (hs hco.1 _ (by simp) (fun i => ?_) K F hFk.w G (fun b hb => hG b (bit_or.2 (.inr hb))) w2.drew a (fun b hb => absurd hb zero_bits) (Pre.drew (hp.same rfl)) ha htr _ (fun K' a' w' htr' hpost => ⟨rfl, K', htr', hpost.of_drew.re rfl fun b hb => bit_or.2 (.inr hb)⟩) _ (by simp))
          simp only [Array.getD_eq_getD_getElem?, Array.getElem?_replicate, Nat.zero_testBit]
          split <;> rfl
        · cases e
  | seq x y =>
    simp only [evC] at e
    have hCn := hC n (Nat.le_refl _)
    split at e
    · rename_i fr1 h1 he
      obtain ⟨pf1, n1, s1⟩ := hCn _ _ _ _ _ _ _ he
      obtain ⟨pf2, n2, s2⟩ := hCn _ _ _ _ _ _ _ e
      refine ⟨pf1.trans pf2, n2.trans n1, fun hco K F G hFk hG w a hw hp ha htr => ?_⟩
      simp only [codeOk, Bool.and_eq_true] at hco
      refine wpIn_seq (wpIn_mono (s1 hco.1 K F G hFk (fun b hb => hG b (pf2.tch b hb)) w a hw hp (adm_first pf2 ha) htr) ?_)
      rintro e1 a1 w1 ⟨rfl, K1, htr1, hp1⟩
      refine wpIn_mono (s2 hco.2 K1 F G (hFk.mono hp1.mono) hG w1 a1 (pf1.wf hw) hp1.pre (adm_second pf1 hw ha hp1) htr1) ?_
      rintro e2 a2 w2 ⟨rfl, K2, htr2, hp2⟩
      exact ⟨rfl, K2, htr2, hp1.trans pf2.wr hp2⟩
    · rename_i hne
      obtain ⟨pf1, n1, s1⟩ := hCn _ _ _ _ _ _ _ e
      refine ⟨pf1, n1, fun hco K F G hFk hG w a hw hp ha htr => ?_⟩
      simp only [codeOk, Bool.and_eq_true] at hco
      refine wpIn_seq (wpIn_mono (s1 hco.1 K F G hFk hG w a hw hp ha htr) ?_)
      rintro e1 a1 w1 ⟨rfl, hq⟩
      cases ex with
      | normal => exact absurd e (hne _ _)
      | exit id => exact ⟨rfl, hq⟩
      | goto l => exact ⟨rfl, hq⟩
      | ret => exact ⟨rfl, hq⟩
  | cond c x y =>
    simp only [evC] at e
    have hCn := hC n (Nat.le_refl _)
    split at e
    · rename_i hc
      obtain ⟨pf1, n1, s1⟩ := hCn _ _ _ _ _ _ _ e
      refine ⟨pf1, n1, fun hco K F G hFk hG w a hw hp ha htr => ?_⟩
      simp only [codeOk, Bool.and_eq_true] at hco
      have hv := opnds_vr hp.kok htr.val hco.1.1
      rw [hc] at hv
      have hcb : a.eval c = .bool true := by generalize a.eval c = v at hv; cases hv; rfl
      exact wpIn_cond_true hcb (s1 hco.1.2 K F G hFk hG w a hw hp ha htr)
    · rename_i hc
      obtain ⟨pf1, n1, s1⟩ := hCn _ _ _ _ _ _ _ e
      refine ⟨pf1, n1, fun hco K F G hFk hG w a hw hp ha htr => ?_⟩
      simp only [codeOk, Bool.and_eq_true] at hco
      have hv := opnds_vr hp.kok htr.val hco.1.1
      rw [hc] at hv
      have hcb : a.eval c = .bool false := by generalize a.eval c = v at hv; cases hv; rfl
      exact wpIn_cond_false hcb (s1 hco.2 K F G hFk hG w a hw hp ha htr)
    · cases e
  | block id b =>
    simp only [evC] at e
    have hCn := hC n (Nat.le_refl _)
    split at e
    · rename_i id' fr1 h1 he
      obtain ⟨pf1, n1, s1⟩ := hCn _ _ _ _ _ _ _ he
      split at e
      · rename_i hid
        simp only [Option.some.injEq, Prod.mk.injEq] at e
        obtain ⟨rfl, rfl, rfl⟩ := e
        have hid := Nat.eq_of_beq_eq_true hid
        refine ⟨pf1, n1, fun hco K F G hFk hG w a hw hp ha htr => ?_⟩
        refine wpIn_block (wpIn_mono (s1 hco K F G hFk hG w a hw hp ha htr) ?_)
        rintro e1 a1 w1 ⟨rfl, hq⟩
        simp only [Ex.out, Exit.inBlock, hid, if_true]
        exact ⟨trivial, hq⟩
      · rename_i hid
        simp only [Option.some.injEq, Prod.mk.injEq] at e
        obtain ⟨rfl, rfl, rfl⟩ := e
        have hid : id' ≠ id := fun h => by subst h; simp at hid
        refine ⟨pf1, n1, fun hco K F G hFk hG w a hw hp ha htr => ?_⟩
        refine wpIn_block (wpIn_mono (s1 hco K F G hFk hG w a hw hp ha htr) ?_)
        rintro e1 a1 w1 ⟨rfl, hq⟩
        simp only [Ex.out, Exit.inBlock, if_neg hid]
        exact ⟨trivial, hq⟩
    · rename_i hne
      obtain ⟨pf1, n1, s1⟩ := hCn _ _ _ _ _ _ _ e
      refine ⟨pf1, n1, fun hco K F G hFk hG w a hw hp ha htr => ?_⟩
      refine wpIn_block (wpIn_mono (s1 hco K F G hFk hG w a hw hp ha htr) ?_)
      rintro e1 a1 w1 ⟨rfl, hq⟩
      cases ex with
      | exit id' => exact absurd e (hne _ _ _)
      | normal => exact ⟨rfl, hq⟩
      | goto l => exact ⟨rfl, hq⟩
      | ret => exact ⟨rfl, hq⟩
  | loop b =>
    have hpf : PF h h' ∧ fr'.nt = fr.nt := by
      simp only [evC] at e
      have hCn := hC n (Nat.le_refl _)
      split at e
      · rename_i fr1 h1 he
        obtain ⟨pf1, n1, _⟩ := hCn _ _ _ _ _ _ _ he
        obtain ⟨pf2, n2, _⟩ := hCn _ _ _ _ _ _ _ e
        exact ⟨pf1.trans pf2, n2.trans n1⟩
      · obtain ⟨pf1, n1, _⟩ := hCn _ _ _ _ _ _ _ e
        exact ⟨pf1, n1⟩
    refine ⟨hpf.1, hpf.2, fun hco K F G hFk hG w a hw hp ha htr => ?_⟩
    refine wpIn_loop_in (fun m a1 w1 => ∃ fr1 h1 K1, m ≤ n + 1 ∧ evC P O m rd (.loop b) fr1 h1 = some (ex, fr', h') ∧ TRel K1 fr1 a1 ∧ Post COk K w K1 h1 w1 G ∧ PF h h1) ⟨n + 1, fr, h, K, Nat.le_refl _, e, htr, Post.same hp rfl, PF.refl _⟩ ?_
    rintro m a1 w1 ⟨fr1, h1, K1, hmn, e1, htr1, hp1, pfh⟩
    cases m with
    | zero => simp [evC] at e1
    | succ m =>
      simp only [evC] at e1
      have hCm := hC m (by omega)
      split at e1
      · rename_i fr2 h2 he
        obtain ⟨pf1, n1, s1⟩ := hCm _ _ _ _ _ _ _ he
        obtain ⟨pf2, n2, _⟩ := hCm _ _ _ _ _ _ _ e1
        refine wpIn_mono (s1 hco K1 F G (hFk.mono hp1.mono) (fun b hb => hG b (pf2.tch b hb)) w1 a1 (pfh.wf hw) hp1.pre (adm_first pf2 (adm_second pfh hw ha hp1)) htr1) ?_
        rintro e2 a2 w2 ⟨rfl, K2, htr2, hp2⟩
        exact ⟨m, Nat.lt_succ_self _, fr2, h2, K2, by omega, e1, htr2, hp1.trans pf1.wr hp2, pfh.trans pf1⟩
      · rename_i hne
        obtain ⟨pf1, n1, s1⟩ := hCm _ _ _ _ _ _ _ e1
        refine wpIn_mono (s1 hco K1 F G (hFk.mono hp1.mono) hG w1 a1 (pfh.wf hw) hp1.pre (adm_second pfh hw ha hp1) htr1) ?_
        rintro e2 a2 w2 ⟨rfl, K2, htr2, hp2⟩
        have hq : ∃ K', TRel K' fr' a2 ∧ Post COk K w K' h' w2 G := ⟨K2, htr2, hp1.trans pf1.wr hp2⟩
        cases ex with
        | normal => exact absurd e1 (hne _ _)
        | exit id => exact ⟨rfl, hq⟩
        | goto l => exact ⟨rfl, hq⟩
        | ret => exact ⟨rfl, hq⟩
  | rangeFunc f ps assign body =>
    obtain ⟨tm, nt, df⟩ := fr
    -- what both forms share: the function is called, the record is shut, the pending jump is carried out
    have tail : ∀ (h2 : Hp) (l : Nat) (v3 : Value) (h3 : Hp) (df2 : List Nat), evFn P O n (evO tm f) (.func (.yield l) #[] #[]) h2 = some (v3, h3) →
        (match h3.heap.get l with
          | some (.loop st pend fn tm3 nt3 ps3 as3 bd3 df3) => match (match st with | .busy => false | _ => true) with
            | true => match Nat.ble (l + 1) h3.next with
              | true => writeK h3 l (.loop .exhausted pend fn tm3 nt3 ps3 as3 bd3 df3) fun h => match pend with
                | none => some (.normal, (⟨tm, nt, df2⟩ : Fr), h)
                | some c => evC P O n rd c ⟨tm, nt, df2⟩ h
              | false => none
            | false => none
          | _ => none) = some (ex, fr', h') →
        PF h2 h' ∧ fr'.nt = nt ∧ (opndOk f = true → ∀ K2 (G : Nat → Prop) F, Fok K2 rd F → (∀ b, bit h'.tch b → G b) → ∀ w2 (a : Act) ds p, K2 l = .live p → p.esz = 0 → Wf h2 → Pre COk K2 h2 w2 G → Adm K2 h2 h' →
          (∀ t, VR K2 (tmOf tm t) (a.tmps.getD t undef)) → TRel K2 ⟨tm, nt, df2⟩ { a with defers := ds } →
          ∃ d g ar, (∀ w, (resolve a.eval (rangeCall f p.blk) 0).run P w = .ok d w) ∧ (∀ w, (invoke d.target d.args).run P w = .ok (.enter g ar) w) ∧
            CallsIn F 0 P g ar w2 (rangePost F 0 P p.blk (Ends K2 w2 ex fr' h' G) { a with defers := ds })) := by
      intro h2 l v3 h3 df2 he3 e
      obtain ⟨pf2, hs2⟩ := hF _ _ _ _ _ he3
      split at e
      · rename_i st pend fn tm3 nt3 ps3 as3 bd3 df3 hb3
        split at e
        · rename_i hst
          split at e
          · rename_i hlt
            have hlt := Nat.le_of_ble_eq_true hlt
            obtain ⟨H4, e, hH4⟩ := writeK_some e
            have pf3 : PF h3 (writeH h3 l H4) := PF.write (by omega) hH4
            -- behind the call
            have key : ∀ (pf4 : PF (writeH h3 l H4) h'), (∀ K4 F G w4 a', Fok K4 rd F → (∀ b, bit h'.tch b → G b) → Wf (writeH h3 l H4) → Pre COk K4 (writeH h3 l H4) w4 G → Adm K4 (writeH h3 l H4) h' → TRel K4 ⟨tm, nt, df2⟩ a' → (∀ c, pend = some c → COk c) →
                jumpP P F pend (Ends K4 w4 ex fr' h' G) a' w4) →
                (opndOk f = true → ∀ K2 (G : Nat → Prop) F, Fok K2 rd F → (∀ b, bit h'.tch b → G b) → ∀ w2 (a : Act) ds p, K2 l = .live p → p.esz = 0 → Wf h2 → Pre COk K2 h2 w2 G → Adm K2 h2 h' →
                  (∀ t, VR K2 (tmOf tm t) (a.tmps.getD t undef)) → TRel K2 ⟨tm, nt, df2⟩ { a with defers := ds } →
                  ∃ d g ar, (∀ w, (resolve a.eval (rangeCall f p.blk) 0).run P w = .ok d w) ∧ (∀ w, (invoke d.target d.args).run P w = .ok (.enter g ar) w) ∧
                    CallsIn F 0 P g ar w2 (rangePost F 0 P p.blk (Ends K2 w2 ex fr' h' G) { a with defers := ds })) := by
              intro pf4 hend hof K2 G F hFk hG w2 a ds p hk h0 hw hp ha hv htr
              have hfv : VR K2 (evO tm f) (a.eval f) := opnds_vr hp.kok hv hof
              obtain ⟨d, g, ar, q1, q2, q3⟩ := hs2 K2 G (fun b hb => hG b (pf4.tch b (pf3.tch b hb))) w2 (a.eval f) (.func (.yield p.blk) #[] #[]) hfv (.yield hk h0) hw hp (adm_first (pf3.trans pf4) ha)
              refine ⟨d, g, ar, fun w => ?_, q2, ?_⟩
              · simp only [resolve, rangeCall]
                have : (#[Operand.const (.func (.yield p.blk) #[] #[])].map a.eval) = #[.func (.yield p.blk) #[] #[]] := by simp [Act.eval]
                rw [this]; exact q1 w
              · refine (hFk.w.calls q3).mono ?_
                rintro e3 w3 ⟨K3, v', rfl, _, hp3⟩
                have hGl : G l := hG l (pf4.tch l (bit_or.2 (.inr (bit_one.2 rfl))))
                have hpok : ∀ c, pend = some c → COk c := by
                  obtain ⟨_, _, _, _, _, _, _, c3, _⟩ := cont_loop hp3.pre hGl hb3
                  exact c3
                obtain ⟨p4, r4, k4, w4, t1, t2, hpost4⟩ := loop_write hp3.pre hGl hb3 hH4 hpok
                have hpp : p4 = p := by
                  have := hp3.mono.live hk h0
                  rw [this] at k4; cases k4; rfl
                subst hpp
                have hrb : r4.state ≠ .busy := by
                  rw [t1]; intro hbs; rw [hbs] at hst; simp at hst
                have hp34 : Post COk K2 w2 K3 (writeH h3 l H4) (w3.putObj p4.blk (.loop { r4 with state := .exhausted, pending := pend })) G := hp3.trans pf3.wr hpost4
                have heq : (w3.putObj p4.blk (.loop { r4 with state := .exhausted, pending := pend })) = w3.putObj p4.blk (.loop { r4 with state := .exhausted }) := by rw [← t2]
                refine ⟨pend, _, by rw [← t2]; exact run_endLoop w4 hrb, ?_⟩
                have := hend K3 F G _ { a with defers := ds } (hFk.mono hp3.mono) hG ((pf2.trans pf3).wf hw) hpost4.pre (adm_second (pf2.trans pf3) hw ha hp34) (htr.mono hp3.mono) hpok
                rw [heq] at this hp34
                exact jumpP_mono this fun e a w he => Ends.from hp34 pf4 he
            cases pend with
            | none =>
              simp only [Option.some.injEq, Prod.mk.injEq] at e
              obtain ⟨rfl, rfl, rfl⟩ := e
              refine ⟨pf2.trans pf3, rfl, key (PF.refl _) fun K4 F G w4 a' _ _ _ hp4 _ htr4 _ => ⟨rfl, K4, htr4, Post.same hp4 rfl⟩⟩
            | some c =>
              simp only at e
              obtain ⟨pf4, n4, s4⟩ := hC n (Nat.le_refl _) _ _ _ _ _ _ _ e
              exact ⟨(pf2.trans pf3).trans pf4, n4, key pf4 fun K4 F G w4 a' hFk hG hw hp4 ha htr4 hpok => s4 (hpok c rfl) K4 F G hFk hG w4 a' hw hp4 ha htr4⟩
          · cases e
        · cases e
      · cases e
    cases rd with
    | none =>
      simp only [evC] at e
      obtain ⟨H1, e, hH1⟩ := newK_some e
      obtain ⟨H2, e, hH2⟩ := newK_some e
      split at e
      · rename_i v3 h3 he3
        have pf1 : PF h (newH h H1) := PF.new hH1
        have pf2 : PF (newH h H1) (newH (newH h H1) H2) := PF.new hH2
        obtain ⟨pf3, n3, s3⟩ := tail _ _ _ _ _ he3 e
        refine ⟨(pf1.trans pf2).trans pf3, n3, fun hco K F G hFk hG w a hw hp ha htr => ?_⟩
        simp only [codeOk, Bool.and_eq_true] at hco
        have hFw : F = Fence.wide := hFk
        subst hFw
        have ha0 : K h.next = .absent := ha _ (Nat.le_refl _) (Nat.lt_of_lt_of_le (Nat.lt_succ_self _) (pf2.trans pf3).next)
        have hp1 : Post COk K w (upK K h.next (.live ⟨w.heap.size, 0, 0, 0⟩)) (newH h H1) (w.alloc (.deferred (some []))) G := Post.alloc hp ha0 hH1 rfl ⟨rfl, rfl⟩
        have ha1 := adm_second pf1 hw ha hp1
        have ha10 := ha1 (newH h H1).next (Nat.le_refl _) (Nat.lt_of_lt_of_le (Nat.lt_succ_self _) pf3.next)
        refine wpIn_rangeFunc fun fn _ => ?_
        have hp2 := loop_new (a := a) (fn := fn) (df := w.heap.size) hp1.pre ha10 hH2 hco.1.2 hco.2 htr.size fun t => (htr.val t).mono hp1.mono
        have hp12 := hp1.trans pf2.wr hp2
        have ha2 := adm_second (pf1.trans pf2) hw ha hp12
        have hk2 : upK (upK K h.next (.live ⟨w.heap.size, 0, 0, 0⟩)) (newH h H1).next (.live ⟨(w.alloc (.deferred (some []))).heap.size, 0, 0, 0⟩) (newH h H1).next = .live ⟨(w.alloc (.deferred (some []))).heap.size, 0, 0, 0⟩ := upK_same _ _ _
        have hkd : upK (upK K h.next (.live ⟨w.heap.size, 0, 0, 0⟩)) (newH h H1).next (.live ⟨(w.alloc (.deferred (some []))).heap.size, 0, 0, 0⟩) h.next = .live ⟨w.heap.size, 0, 0, 0⟩ := by
          rw [upK_other _ _ (show h.next ≠ (newH h H1).next from Nat.ne_of_lt (Nat.lt_succ_self _)), upK_same]
        obtain ⟨d, g, ar, q1, q2, q3⟩ := s3 hco.1.1 _ G Fence.wide rfl hG _ a ({ target := .collected w.heap.size, args := #[] } :: a.defers) _ hk2 rfl ((pf1.trans pf2).wf hw) hp2.pre ha2 (fun t => (htr.val t).mono hp12.mono)
          ⟨htr.size, fun t => (htr.val t).mono hp12.mono, ⟨_, a.defers, hkd, rfl, rfl, htr.df.mono hp12.mono⟩⟩
        have hsz : (w.alloc (.deferred (some []))).heap.size = w.heap.size + 1 := World.size_alloc _ _
        have q1' : ∀ w', (resolve a.eval (rangeCall f (w.heap.size + 1)) 0).run P w' = .ok d w' := fun w' => by rw [← hsz]; exact q1 w'
        have q4 := CallsIn.mono q3 (rangePost_mono fun e a' w' he => Ends.from hp12 pf3 he)
        rw [show (⟨(w.alloc (.deferred (some []))).heap.size, 0, 0, 0⟩ : Pl).blk = w.heap.size + 1 from hsz] at q4
        exact ⟨_, _, _, d, _, g, ar, _, run_enterLoop_outer _ _ _ _ _, q1' _, fun _ _ => trivial, q2 _, fun hd => by simp [Fence.wide] at hd, q4⟩
      · cases e
    | some r =>
      simp only [evC] at e
      split at e
      · rename_i st0 pe0 fn0 tm0 nt0 ps0 as0 bd0 df0 hbr
        rw [touchK_eq] at e
        obtain ⟨H2, e, hH2⟩ := newK_some e
        split at e
        · rename_i v3 h3 he3
          have pf1 : PF h (touchH h r) := PF.touch h r
          have pf2 : PF (touchH h r) (newH (touchH h r) H2) := PF.new hH2
          obtain ⟨pf3, n3, s3⟩ := tail _ _ _ _ _ he3 e
          refine ⟨(pf1.trans pf2).trans pf3, n3, fun hco K F G hFk hG w a hw hp ha htr => ?_⟩
          simp only [codeOk, Bool.and_eq_true] at hco
          obtain ⟨p, hkr, h0r, rfl⟩ := hFk
          have hGr : G r := hG r ((pf2.trans pf3).tch r (bit_or.2 (.inr (bit_one.2 rfl))))
          obtain ⟨p', r0, hkr', _, hwr, _⟩ := cont_loop hp hGr hbr
          rw [hkr] at hkr'; cases hkr'
          have ha0 : K (touchH h r).next = .absent := ha _ (Nat.le_refl _) (Nat.lt_of_lt_of_le (Nat.lt_succ_self _) pf3.next)
          refine wpIn_rangeFunc fun fn _ => ?_
          have hp2 := loop_new (a := a) (fn := fn) (df := r0.defers) (hp.same (h' := touchH h r) rfl) ha0 hH2 hco.1.2 hco.2 htr.size htr.val
          have ha2 := adm_second (h := h) (pf1.trans pf2) hw ha hp2
          have hk2 : upK K (touchH h r).next (.live ⟨w.heap.size, 0, 0, 0⟩) (touchH h r).next = .live ⟨w.heap.size, 0, 0, 0⟩ := upK_same _ _ _
          obtain ⟨d, g, ar, q1, q2, q3⟩ := s3 hco.1.1 _ G (Fence.wide.inRound p.blk) ⟨p, hp2.mono.live hkr h0r, h0r, rfl⟩ hG _ a a.defers _ hk2 rfl ((pf1.trans pf2).wf hw) hp2.pre ha2 (fun t => (htr.val t).mono hp2.mono)
            ⟨htr.size, fun t => (htr.val t).mono hp2.mono, htr.df.mono hp2.mono⟩
          refine ⟨_, _, _, d, _, g, ar, _, run_enterLoop_inner hwr _ _ _ _ _, q1 _, fun _ _ => trivial, q2 _, fun hd => by simp [Fence.wide] at hd, ?_⟩
          exact CallsIn.mono q3 (rangePost_mono fun e a' w' he => Ends.from hp2 pf3 he)
        · cases e
      · cases e

/-! ### all of it -/
theorem all_sound (hO : OrcS P O) (hm : P.follows .mixedOrders = true) : ∀ n, ∀ m, m ≤ n → OpS P O m ∧ ValS P O m ∧ FnS P O m ∧ CallS P O m ∧ RoundS P O m ∧ SeqS P O m ∧ CodeS P O m ∧ AllS P O m := by
  intro n
  induction n with
  | zero =>
    intro m hmn
    have : m = 0 := by omega
    subst this
    refine ⟨fun tm o h v h' e => ?_, fun fv args h v h' e => ?_, fun fv arg h v h' e => ?_, fun f args h v h' e => ?_, fun l args h v h' e => ?_, fun ops rest fr h fr' h' e => ?_, fun rd c fr h ex fr' h' e => ?_, all_zero⟩
    · simp [evOp] at e
    · simp [evVal] at e
    · simp [evFn] at e
    · simp [evCall] at e
    · simp [evRound] at e
    · simp [evSeq] at e
    · simp [evC] at e
  | succ n ih =>
    intro m hmn
    rcases Nat.lt_or_ge m (n + 1) with h | h
    · exact ih m (by omega)
    · have : m = n + 1 := by omega
      subst this
      obtain ⟨h1, h2, h3, h4, h5, h6, h7, h8⟩ := ih n (Nat.le_refl _)
      exact ⟨opS_succ h2, valS_succ h4 h5, fnS_succ h4, callS_succ hO h7, roundS_succ h7, seqS_succ h1 h6,
        codeS_succ hm (fun m hm => (ih m hm).2.2.2.2.2.2.1) h6 (fun m hm => (ih m (by omega)).1) h8 h3, all_succ h1 h8⟩

/-! ### package-level variables -/
/-- What is said of them: each is a row of plain values. -/
noncomputable def GlobIn (H : Tr AObj) (w : World) : Prop :=
  ∀ g o, H.get g = some o → g < 64 ∧ ∃ tr c e fr, o = .table tr ∧ w.heap[g]? = some (.cells c e fr) ∧ ∀ i v, tr.get i = some v → gnd 9 v = true ∧ c[i]? = some v
theorem GlobIn.none (w : World) : GlobIn .leaf w := fun g o h => by simp [Tr.get] at h
noncomputable def hpG (H : Tr AObj) : Hp := ⟨H, nat_lit 64, 0, 0⟩
noncomputable def lowBits : Nat := nat_lit 18446744073709551616
noncomputable def evRunG (P : Program) (O : Orc) (fuel : Nat) (f : FuncId) (H : Tr AObj) : Option Value :=
  match evCall P O fuel f [] (hpG H) with
  | some (v, h) => match Nat.beq (Nat.mod h.wr lowBits) 0 with
    | true => some v
    | false => none
  | none => none
noncomputable def gK (H : Tr AObj) (w : World) : Pm := fun b => if b < 64 then (match H.get b with | some _ => (match w.heap[b]? with | some (.cells c _ _) => .live ⟨b, 0, 0, c.size⟩ | _ => .dead) | none => .dead) else .absent
theorem gK_live {H : Tr AObj} {w : World} {b : Nat} {p : Pl} (h : gK H w b = .live p) : b < 64 ∧ ∃ c e k, w.heap[b]? = some (.cells c e k) ∧ p = ⟨b, 0, 0, c.size⟩ := by
  unfold gK at h
  split at h
  · rename_i hb
    split at h
    · split at h
      · rename_i c e k hw; cases h; exact ⟨hb, c, e, k, hw, rfl⟩
      · cases h
    · cases h
  · cases h
/-- THE THEOREM: a call without arguments that the evaluator carries out to the value v, which names no block, returns v, from every world where the package-level variables are as said, whatever is drawn, and touches nothing that was there. -/
theorem evRunG_calls (hO : OrcS P O) (hm : P.follows .mixedOrders = true) {fuel : Nat} {f : FuncId} {v : Value} {k : Nat} {H : Tr AObj} (hg : gnd k v = true) (h : evRunG P O fuel f H = some v) (w : World) (hH : GlobIn H w) :
    Calls P f #[] w fun e w' => e = .returned v ∧ RowKit.Below w.heap.size w w' := by
  unfold evRunG at h
  split at h
  · rename_i v1 h' he
    split at h
    · rename_i hlow
      cases h
      obtain ⟨pf, _, hs⟩ := (all_sound hO hm fuel fuel (Nat.le_refl _)).2.2.2.1 f [] (hpG H) _ h' he
      have := hs (gK H w) (fun _ => True) (fun _ _ => trivial) w [] (LR.nil _) (fun b hb => by simp [hpG, bit] at hb)
        ⟨⟨fun b p hb => by
            obtain ⟨_, c, e, k, hw, rfl⟩ := gK_live hb
            exact (Array.getElem?_eq_some_iff.1 hw).1,
          fun b b' p p' hb hb' he => by
            obtain ⟨_, c, e, k, hw, rfl⟩ := gK_live hb
            obtain ⟨_, c', e', k', hw', rfl⟩ := gK_live hb'
            exact he,
          fun b hb => by
            unfold gK
            rw [if_pos hb]
            split
            · split
              · exact .inr ⟨_, rfl⟩
              · exact .inl rfl
            · exact .inl rfl⟩,
         fun b _ o ho => by
            have ho : H.get b = some o := ho
            obtain ⟨hb, tr, c, e, fr, rfl, hw, hc⟩ := hH b o ho
            refine ⟨⟨b, 0, 0, c.size⟩, _, by simp [gK, hb, ho, hw], hw, rfl, c, e, fr, rfl, fun i v hi => ⟨v, ?_, ?_⟩⟩
            · simpa using (hc i v hi).2
            · exact (gnd_vr 9 v (hc i v hi).1 _).1⟩
        (fun b hb _ => by
            have hb : 64 ≤ b := hb
            unfold gK; rw [if_neg (by omega)])
      refine callsIn_wide.1 (this.mono ?_)
      rintro e w' ⟨K', v', rfl, hv, hp⟩
      rw [(gnd_vr k _ hg K').2 v' hv]
      refine ⟨rfl, ⟨hp.frm.os, hp.frm.tape, hp.frm.output, hp.frm.size, fun k hk => hp.frm.block k hk fun b p hw hb => ?_⟩⟩
      exfalso
      have hb64 := (gK_live hb).1
      have h0 : h'.wr % 2 ^ 64 = 0 := Nat.eq_of_beq_eq_true hlow
      have h1 := Nat.testBit_mod_two_pow h'.wr 64 b
      rw [h0] at h1
      simp [hb64] at h1
      rw [show h'.wr.testBit b = true from hw] at h1
      cases h1
    · cases h
  · cases h
end

section
/- A checked evaluator of closed calls, part Z: the same evaluator, in small pieces. -/
variable {O : Orc}

structure Rec where
  op : Tr Value → Oper → Hp → Option (Value × Hp)
  val : Value → List Value → Hp → Option (Value × Hp)
  fn : Value → Value → Hp → Option (Value × Hp)
  call : FuncId → List Value → Hp → Option (Value × Hp)
  round : Nat → List Value → Hp → Option (Value × Hp)
  seq : Array Oper → List Oper → Fr → Hp → Option (Fr × Hp)
  draw : Array Oper → List Oper → Nat → Fr → Hp → List (Nat × Nat × Nat) → Nat → Nat → Option (Fr × Hp × Nat × Nat)
  code : Option Nat → Code → Fr → Hp → Option (Ex × Fr × Hp)
  all : Array Oper → Nat → Fr → Hp → Option (Fr × Hp)

noncomputable def tmZ (tm : Tr Value) (t : Nat) : Value := Option.rec (motive := fun _ => Value) (.tuple #[]) (fun v => v) (tm.get t)
theorem tmZ_eq : tmZ = tmOf := by
  funext tm t
  unfold tmZ tmOf
  cases tm.get t <;> rfl
noncomputable def evZ (tm : Tr Value) (x : Operand) : Value := Operand.rec (motive := fun _ => Value) (fun t => tmZ tm t) (fun v => v) (fun g => .pointer (some ⟨g, 0, none⟩)) (fun f => .func (.func f) #[] #[]) x
theorem evZ_eq : evZ = evO := by
  funext tm x
  cases x
  case tmp t => exact congrFun (congrFun tmZ_eq tm) t
  all_goals rfl
inductive GK where
  | always
  | never
  | on (t : Nat) (want : Bool)
noncomputable def guardOf (ops : Array Oper) (o : Oper) : GK :=
  match o.guard with
  | none => .always
  | some (j, want) => match ops.toList[j]? with
    | some g => match g.dst with
      | some t => .on t want
      | none => .never
    | none => .never
noncomputable def isB (want : Bool) (v : Value) : Bool := match v with
  | .bool b => b == want
  | _ => false
noncomputable def wantZ (ops : Array Oper) (tm : Tr Value) (o : Oper) : Bool :=
  GK.rec (motive := fun _ => Bool) true false (fun t want => isB want (tmZ tm t)) (guardOf ops o)
theorem wantZ_eq : wantZ = wantedA := by
  funext ops tm o
  unfold wantZ guardOf wantedA
  rw [tmZ_eq]
  cases o.guard with
  | none => rfl
  | some p =>
    obtain ⟨j, want⟩ := p
    simp only
    cases ops.toList[j]? with
    | none => rfl
    | some g =>
      simp only
      cases g.dst <;> rfl
noncomputable def putZ {β : Type} (fr : Fr) (d : Option Tmp) (v : Value) (k : Fr → Option β) : Option β :=
  Option.rec (motive := fun _ => Option β) (k fr) (fun t => Fr.rec (motive := fun _ => Option β) (fun tm nt df => Bool.rec (motive := fun _ => Option β) none (tm.put t (some v) fun tm => k ⟨tm, nt, df⟩) (Nat.ble (Nat.succ t) nt)) fr) d
theorem putZ_eq {β : Type} : @putZ β = @putT β := by
  funext fr d v k
  cases d with
  | none => rfl
  | some t =>
    obtain ⟨tm, nt, df⟩ := fr
    show Bool.rec (motive := fun _ => Option β) none (tm.put t (some v) fun tm => k ⟨tm, nt, df⟩) (Nat.blt t nt) = match Nat.blt t nt with
      | true => tm.put t (some v) fun tm => k ⟨tm, nt, df⟩
      | false => none
    cases Nat.blt t nt <;> rfl
/-- What of a step doesn't hang on the run: worked out once for each place of the code. -/
structure BO where
  f : Tr Value → Hp → Option (Value × Hp)
noncomputable def callOf (o : Oper) : Option (Operand × List Operand) :=
  match o.op with
  | .call { callee := .value f, args, .. } => some (f, args.toList)
  | _ => none
noncomputable def compO (P : Program) (o : Oper) : BO :=
  match o.op with
  | .move x => ⟨fun tm h => some (evZ tm x, h)⟩
  | .assign x => ⟨fun tm h => some (evZ tm x, h)⟩
  | .pick c a b => ⟨fun tm h => match evZ tm c with
    | .bool true => some (evZ tm a, h)
    | .bool false => some (evZ tm b, h)
    | _ => none⟩
  | .alloc elem => ⟨fun tm h => aAlloc P elem h⟩
  | .box elem x => ⟨fun tm h => aBox elem (evZ tm x) h⟩
  | .build t parts => ⟨fun tm h => match aBuild P t (evP tm parts.toList) with | some v => some (v, h) | none => none⟩
  | .buildSlice t len parts => ⟨fun tm h => aBuildSlice P t len (evP tm parts.toList) h⟩
  | .load t a => ⟨fun tm h => aLoad P t (evZ tm a) h⟩
  | .store t a x => ⟨fun tm h => aStore P t (evZ tm a) (evZ tm x) h⟩
  | .nilCheck x => ⟨fun tm h => match evZ tm x with
    | .pointer (some a) => some (.pointer (some a), h)
    | .func (.func f) a b => some (.func (.func f) a b, h)
    | _ => none⟩
  | .binOp op t x y _ => ⟨fun tm h => aBin P op t (evZ tm x) (evZ tm y) h⟩
  | .unOp op _ x => ⟨fun tm h => match aUn op (evZ tm x) P with | some v => some (v, h) | none => none⟩
  | .convert s d x => ⟨fun tm h => aConvH P s d (evZ tm x) h⟩
  | .makeFunc (.func f) first captured => ⟨fun tm h => some (.func (.func f) ⟨evL tm first.toList⟩ ⟨evL tm captured.toList⟩, h)⟩
  | .makeMap t r => ⟨fun tm h => aMakeMap P t (evM tm r) h⟩
  | .makeSlice t l c => ⟨fun tm h => aMakeSlice P t (evZ tm l) (evZ tm c) h⟩
  | .slice t x lo hi mx => ⟨fun tm h => match aSlice P t (evZ tm x) (evM tm lo) (evM tm hi) (evM tm mx) with | some v => some (v, h) | none => none⟩
  | .fieldAddr s x f => ⟨fun tm h => match aFieldAddr P s (evZ tm x) f with | some v => some (v, h) | none => none⟩
  | .field t x f => ⟨fun tm h => match aField P t (evZ tm x) f with | some v => some (v, h) | none => none⟩
  | .indexAddr t x i => ⟨fun tm h => match aIndexAddr P t (evZ tm x) (evZ tm i) with | some v => some (v, h) | none => none⟩
  | .index t x i => ⟨fun tm h => match aIndex P t (evZ tm x) (evZ tm i) with | some v => some (v, h) | none => none⟩
  | .lookup t x i c => ⟨fun tm h => aLookup P t (evZ tm x) (evZ tm i) c h⟩
  | .mapUpdate t m k x => ⟨fun tm h => aMapUpdate P t (evZ tm m) (evZ tm k) (evZ tm x) h⟩
  | .insert t m k x => ⟨fun tm h => aMapUpdate P t (evZ tm m) (evZ tm k) (evZ tm x) h⟩
  | .mapEntry t m k => ⟨fun tm h => aMapEntry P t (evZ tm m) (evZ tm k) h⟩
  | .entryStore _ m s x => ⟨fun tm h => aEntryStore (evZ tm m) (evZ tm s) (evZ tm x) h⟩
  | .extract t i => ⟨fun tm h => match aExtract (evZ tm t) i with | some v => some (v, h) | none => none⟩
  | .call { callee := .builtin b, args, argTypes } => ⟨fun tm h => aBuiltin P b argTypes.toList o.type (evL tm args.toList) h⟩
  | _ => ⟨fun tm h => none⟩
theorem compO_eq (P : Program) (o : Oper) (tm : Tr Value) (h : Hp) : (compO P o).f tm h = aOp P tm o h := by
  unfold compO
  rw [evZ_eq]
  obtain ⟨dst, op, ty, pos, after, guard⟩ := o
  cases op
  case call c => obtain ⟨callee, args, ats⟩ := c; cases callee <;> rfl
  case makeFunc f _ _ => cases f <;> rfl
  all_goals rfl
noncomputable def zOp (P : Program) (R : Rec) (tm : Tr Value) (o : Oper) (h : Hp) : Option (Value × Hp) :=
  Option.rec (motive := fun _ => Option (Value × Hp)) ((compO P o).f tm h) (fun p => Prod.rec (motive := fun _ => Option (Value × Hp)) (fun f args => R.val (evZ tm f) (evL tm args) h) p) (callOf o)
noncomputable def zVal (R : Rec) (fv : Value) (args : List Value) (h : Hp) : Option (Value × Hp) :=
  match fv with
  | .func (.func f) first captured => R.call f (first.toList ++ args ++ captured.toList) h
  | .func (.yield l) _ _ => R.round l args h
  | _ => none
noncomputable def zFn (R : Rec) (fv arg : Value) (h : Hp) : Option (Value × Hp) :=
  match fv with
  | .func (.func f) first captured => R.call f (first.toList ++ [arg] ++ captured.toList) h
  | _ => none
noncomputable def zRes (r : Option (List Value × Hp)) : Option (Value × Hp) :=
  match r with
  | some (vs, h) => match vs with
    | [v] => some (v, h)
    | vs => some (.tuple ⟨vs⟩, h)
  | none => none
noncomputable def zEnd2 (P : Program) (rs : List ResultVar) (tm : Tr Value) (r : Option Hp) : Option (Value × Hp) :=
  match r with
  | some h => zRes (resV P tm rs h)
  | none => none
noncomputable def zEnd (P : Program) (rs : List ResultVar) (r : Option (Ex × Fr × Hp)) : Option (Value × Hp) :=
  match r with
  | some (ex, fr, h) => match (match ex with | .normal => true | .ret => true | _ => false) with
    | true => zEnd2 P rs fr.tm (leave fr.df h)
    | false => none
  | none => none
noncomputable def zBody (P : Program) (R : Rec) (fn : Func) (args : List Value) (h : Hp) (code : Code) : Option (Value × Hp) :=
  match codeOk code && !(fn.name == "runtime.NumGoroutine") && Nat.ble args.length fn.ntmps with
  | true => fillK args .leaf 0 fun tm => zEnd P fn.results.toList (R.code none code ⟨tm, fn.ntmps, []⟩ h)
  | false => none
noncomputable def zCall (P : Program) (O : Orc) (R : Rec) (f : FuncId) (args : List Value) (h : Hp) : Option (Value × Hp) :=
  match O f args h with
  | some r => some r
  | none => match P.funcs.toList[f]? with
    | some fn => match fn.body with
      | some code => zBody P R fn args h code
      | none => none
    | none => none
noncomputable def zRound3 (l : Nat) (r : Option (Ex × Fr × Hp)) : Option (Value × Hp) :=
  match r with
  | some (ex, _, h) => match h.heap.get l with
    | some (.loop _ _ fn3 tm3 nt3 ps3 as3 bd3 df3) => match ex with
      | .normal => writeK h l (.loop .ready none fn3 tm3 nt3 ps3 as3 bd3 df3) fun h => some (.bool true, h)
      | .ret => writeK h l (.loop .done (some .ret) fn3 tm3 nt3 ps3 as3 bd3 df3) fun h => some (.bool false, h)
      | .exit id => writeK h l (.loop .done (some (.exit id)) fn3 tm3 nt3 ps3 as3 bd3 df3) fun h => some (.bool false, h)
      | .goto t => writeK h l (.loop .done (some (.goto t)) fn3 tm3 nt3 ps3 as3 bd3 df3) fun h => some (.bool false, h)
    | _ => none
  | none => none
noncomputable def zRound2 (R : Rec) (l : Nat) (body : Code) (r : Option (Ex × Fr × Hp)) : Option (Value × Hp) :=
  match r with
  | some (.normal, fr, h) => match h.heap.get l with
    | some (.loop .ready pe2 fn2 tm2 nt2 ps2 as2 bd2 df2) => writeK h l (.loop .busy pe2 fn2 tm2 nt2 ps2 as2 bd2 df2) fun h => zRound3 l (R.code (some l) body fr h)
    | _ => none
  | _ => none
noncomputable def zRound (R : Rec) (l : Nat) (args : List Value) (h : Hp) : Option (Value × Hp) :=
  match h.heap.get l with
  | some (.loop .ready _ _ tm nt ps assign body _) => match Nat.ble (l + 1) h.next with
    | true => setPs nt ps.toList args tm fun tm => touchK h l fun h => zRound2 R l body (R.code (some l) assign ⟨tm, nt, []⟩ h)
    | false => none
  | _ => none
noncomputable def zSeq2 (R : Rec) (ops : Array Oper) (rest : List Oper) (fr : Fr) (d : Option Tmp) (r : Option (Value × Hp)) : Option (Fr × Hp) :=
  Option.rec (motive := fun _ => Option (Fr × Hp)) none (fun p => Prod.rec (motive := fun _ => Option (Fr × Hp)) (fun v h => putZ fr d v fun fr => R.seq ops rest fr h) p) r
noncomputable def zSeq (R : Rec) (ops : Array Oper) (rest : List Oper) (fr : Fr) (h : Hp) : Option (Fr × Hp) :=
  List.rec (motive := fun _ => Option (Fr × Hp)) (some (fr, h))
    (fun o rest _ => Bool.rec (motive := fun _ => Option (Fr × Hp)) (putZ fr o.dst (.tuple #[]) fun fr => R.seq ops rest fr h) (zSeq2 R ops rest fr o.dst (R.op fr.tm o h)) (wantZ ops fr.tm o)) rest
noncomputable def zDraw3 (R : Rec) (ops : Array Oper) (rest : List Oper) (j : Nat) (fr : Fr) (acc : List (Nat × Nat × Nat)) (aT aW : Nat) (d : Option Tmp) (v : Value) (hp : Tr AObj) (nx t w : Nat) : Option (Fr × Hp × Nat × Nat) :=
  Bool.rec (motive := fun _ => Option (Fr × Hp × Nat × Nat)) none
    (forceN (Nat.lor aT t) fun aT => forceN (Nat.lor aW w) fun aW => forceN (Nat.succ j) fun j' => putZ fr d v fun fr => R.draw ops rest j' fr ⟨hp, nx, 0, 0⟩ ((j, t, w) :: acc) aT aW)
    (Bool.rec (motive := fun _ => Bool) (apartK ops.toList j t w acc) true (Nat.beq (Nat.lor (Nat.land aW t) (Nat.land aT w)) 0))
noncomputable def zDraw2 (R : Rec) (ops : Array Oper) (rest : List Oper) (j : Nat) (fr : Fr) (acc : List (Nat × Nat × Nat)) (aT aW : Nat) (d : Option Tmp) (r : Option (Value × Hp)) : Option (Fr × Hp × Nat × Nat) :=
  Option.rec (motive := fun _ => Option (Fr × Hp × Nat × Nat)) none (fun p => Prod.rec (motive := fun _ => Option (Fr × Hp × Nat × Nat)) (fun v h => Hp.rec (motive := fun _ => Option (Fr × Hp × Nat × Nat)) (fun hp nx t w => zDraw3 R ops rest j fr acc aT aW d v hp nx t w) h) p) r
noncomputable def zDraw (R : Rec) (ops : Array Oper) (rest : List Oper) (j : Nat) (fr : Fr) (h : Hp) (acc : List (Nat × Nat × Nat)) (aT aW : Nat) : Option (Fr × Hp × Nat × Nat) :=
  List.rec (motive := fun _ => Option (Fr × Hp × Nat × Nat)) (some (fr, h, aT, aW))
    (fun o rest _ => Bool.rec (motive := fun _ => Option (Fr × Hp × Nat × Nat))
      (forceN (Nat.succ j) fun j' => putZ fr o.dst (.tuple #[]) fun fr => R.draw ops rest j' fr h acc aT aW)
      (Hp.rec (motive := fun _ => Option (Fr × Hp × Nat × Nat)) (fun hp nx _ _ => zDraw2 R ops rest j fr acc aT aW o.dst (R.op fr.tm o ⟨hp, nx, 0, 0⟩)) h)
      (wantZ ops fr.tm o)) rest
noncomputable def zRegion (r : Option (Fr × Hp)) : Option (Ex × Fr × Hp) :=
  match r with
  | some (fr, h) => some (.normal, fr, h)
  | none => none
noncomputable def zAll (R : Rec) (ops : Array Oper) (L : Nat) (fr : Fr) (h : Hp) : Option (Fr × Hp) :=
  allEnd fr h (allK ops.toList L (fun i o => match wantedA ops fr.tm o with
    | true => match R.op fr.tm o h with
      | some (v, h) => putT fr o.dst v fun fr => R.all ops (L ||| (1 <<< i)) fr h
      | none => none
    | false => putT fr o.dst (.tuple #[]) fun fr => R.all ops (L ||| (1 <<< i)) fr h) ops.toList 0 none)
noncomputable def zAlled (t0 w0 : Nat) (r : Option (Fr × Hp)) : Option (Ex × Fr × Hp) :=
  match r with
  | some (fr, ⟨hp, nx, t, w⟩) => some (.normal, fr, ⟨hp, nx, t0 ||| t, w0 ||| w⟩)
  | none => none
noncomputable def zDrawn (R : Rec) (ops : Array Oper) (fr : Fr) (hp : Tr AObj) (nx t0 w0 : Nat) (r : Option (Fr × Hp × Nat × Nat)) : Option (Ex × Fr × Hp) :=
  match r with
  | some (fr, ⟨hp, nx, _, _⟩, t, w) => forceN (t0 ||| t) fun t => forceN (w0 ||| w) fun w => some (.normal, fr, ⟨hp, nx, t, w⟩)
  | none => zAlled t0 w0 (R.all ops 0 fr ⟨hp, nx, 0, 0⟩)
noncomputable def zReg (R : Rec) (ops : Array Oper) (draw : Bool) (fr : Fr) (h : Hp) : Option (Ex × Fr × Hp) :=
  match draw with
  | false => zRegion (R.seq ops ops.toList fr h)
  | true => match h with
    | ⟨hp, nx, t0, w0⟩ => zDrawn R ops fr hp nx t0 w0 (R.draw ops ops.toList 0 fr ⟨hp, nx, 0, 0⟩ [] 0 0)
noncomputable def zThen (R : Rec) (rd : Option Nat) (b : Code) (r : Option (Ex × Fr × Hp)) : Option (Ex × Fr × Hp) :=
  match r with
  | some (.normal, fr, h) => R.code rd b fr h
  | r => r
noncomputable def zBlock (id : Nat) (r : Option (Ex × Fr × Hp)) : Option (Ex × Fr × Hp) :=
  match r with
  | some (.exit id', fr, h) => match Nat.beq id' id with
    | true => some (.normal, fr, h)
    | false => some (.exit id', fr, h)
  | r => r
noncomputable def zCond (R : Rec) (rd : Option Nat) (a b : Code) (fr : Fr) (h : Hp) (v : Value) : Option (Ex × Fr × Hp) :=
  match v with
  | .bool true => R.code rd a fr h
  | .bool false => R.code rd b fr h
  | _ => none
noncomputable def zRange2 (R : Rec) (rd : Option Nat) (l : Nat) (tm : Tr Value) (nt : Nat) (df : List Nat) (r : Option (Value × Hp)) : Option (Ex × Fr × Hp) :=
  match r with
  | some (_, h) => match h.heap.get l with
    | some (.loop st pend fn tm3 nt3 ps3 as3 bd3 df3) => match (match st with | .busy => false | _ => true) with
      | true => match Nat.ble (l + 1) h.next with
        | true => writeK h l (.loop .exhausted pend fn tm3 nt3 ps3 as3 bd3 df3) fun h => match pend with
          | none => some (.normal, ⟨tm, nt, df⟩, h)
          | some c => R.code rd c ⟨tm, nt, df⟩ h
        | false => none
      | false => none
    | _ => none
  | none => none
noncomputable def zRange (R : Rec) (rd : Option Nat) (f : Operand) (ps : Array Tmp) (assign body : Code) (fr : Fr) (h : Hp) : Option (Ex × Fr × Hp) :=
  match fr with
  | ⟨tm, nt, df⟩ =>
    match rd with
    | none => newK h .deferred fun d h => newK h (.loop .ready none 0 tm nt ps assign body 0) fun l h => zRange2 R none l tm nt (d :: df) (R.fn (evO tm f) (.func (.yield l) #[] #[]) h)
    | some r => match h.heap.get r with
      | some (.loop ..) => touchK h r fun h => newK h (.loop .ready none 0 tm nt ps assign body 0) fun l h => zRange2 R (some r) l tm nt df (R.fn (evO tm f) (.func (.yield l) #[] #[]) h)
      | _ => none
structure BC where
  f : Rec → Option Nat → Fr → Hp → Option (Ex × Fr × Hp)
noncomputable def compC (c : Code) : BC :=
  match c with
  | .skip => ⟨fun R rd fr h => some (.normal, fr, h)⟩
  | .label _ => ⟨fun R rd fr h => some (.normal, fr, h)⟩
  | .region _ ops draw => ⟨fun R rd fr h => zReg R ops draw fr h⟩
  | .seq a b => ⟨fun R rd fr h => zThen R rd b (R.code rd a fr h)⟩
  | .cond c a b => ⟨fun R rd fr h => zCond R rd a b fr h (evO fr.tm c)⟩
  | .block id b => ⟨fun R rd fr h => zBlock id (R.code rd b fr h)⟩
  | .loop b => ⟨fun R rd fr h => zThen R rd (.loop b) (R.code rd b fr h)⟩
  | .rangeFunc f ps assign body => ⟨fun R rd fr h => zRange R rd f ps assign body fr h⟩
  | .exit id => ⟨fun R rd fr h => some (.exit id, fr, h)⟩
  | .goto l => ⟨fun R rd fr h => some (.goto l, fr, h)⟩
  | .ret => ⟨fun R rd fr h => some (.ret, fr, h)⟩
  | _ => ⟨fun R rd fr h => none⟩
noncomputable def zC (R : Rec) (rd : Option Nat) (c : Code) (fr : Fr) (h : Hp) : Option (Ex × Fr × Hp) := (compC c).f R rd fr h
noncomputable def recs (P : Program) (O : Orc) (n : Nat) : Rec :=
  Nat.rec ⟨fun _ _ _ => none, fun _ _ _ => none, fun _ _ _ => none, fun _ _ _ => none, fun _ _ _ => none, fun _ _ _ _ => none, fun _ _ _ _ _ _ _ _ => none, fun _ _ _ _ => none, fun _ _ _ _ => none⟩
    (fun _ R => ⟨zOp P R, zVal R, zFn R, zCall P O R, zRound R, zSeq R, zDraw R, zC R, zAll R⟩) n
noncomputable def old (P : Program) (O : Orc) (n : Nat) : Rec := ⟨evOp P O n, evVal P O n, evFn P O n, evCall P O n, evRound P O n, evSeq P O n, evDraw P O n, evC P O n, evAll P O n⟩
theorem recs_zero (P : Program) : recs P O 0 = old P O 0 := rfl
theorem zOp_old (P : Program) (n : Nat) : zOp P (old P O n) = evOp P O (n + 1) := by
  funext tm o h
  unfold zOp
  rw [compO_eq, evZ_eq]
  obtain ⟨dst, op, ty, pos, after, guard⟩ := o
  cases op
  case call c => obtain ⟨callee, args, ats⟩ := c; cases callee <;> rfl
  all_goals rfl
theorem zVal_old (P : Program) (n : Nat) : zVal (old P O n) = evVal P O (n + 1) := rfl
theorem zFn_old (P : Program) (n : Nat) : zFn (old P O n) = evFn P O (n + 1) := rfl
theorem zCall_old (P : Program) (n : Nat) : zCall P O (old P O n) = evCall P O (n + 1) := rfl
theorem zRound_old (P : Program) (n : Nat) : zRound (old P O n) = evRound P O (n + 1) := rfl
theorem zSeq_old (P : Program) (n : Nat) : zSeq (old P O n) = evSeq P O (n + 1) := by
  funext ops rest fr h
  cases rest with
  | nil => rfl
  | cons o rest =>
    rw [evSeq]
    unfold zSeq zSeq2
    rw [putZ_eq, wantZ_eq]
    simp only [old]
    cases wantedA ops fr.tm o with
    | false => rfl
    | true =>
      simp only
      cases evOp P O n fr.tm o h with
      | none => rfl
      | some p => rfl
theorem zDraw_old (P : Program) (n : Nat) : zDraw (old P O n) = evDraw P O (n + 1) := by
  funext ops rest j fr h acc aT aW
  cases rest with
  | nil => rfl
  | cons o rest =>
    rw [evDraw]
    unfold zDraw zDraw2 zDraw3
    rw [putZ_eq, wantZ_eq]
    simp only [old]
    cases wantedA ops fr.tm o with
    | false => rfl
    | true =>
      obtain ⟨hp, nx, t0, w0⟩ := h
      simp only
      cases evOp P O n fr.tm o ⟨hp, nx, 0, 0⟩ with
      | none => rfl
      | some p =>
        obtain ⟨v, ⟨hp, nx, t, w⟩⟩ := p
        simp only
        show Bool.rec (motive := fun _ => Option (Fr × Hp × Nat × Nat)) none _ (Bool.rec (motive := fun _ => Bool) (apartK ops.toList j t w acc) true (Nat.beq ((aW &&& t) ||| (aT &&& w)) 0)) = _
        cases Nat.beq ((aW &&& t) ||| (aT &&& w)) 0 with
        | true => rfl
        | false =>
          simp only [Bool.false_or]
          cases apartK ops.toList j t w acc <;> rfl
theorem zC_old (P : Program) (n : Nat) : zC (old P O n) = evC P O (n + 1) := by
  funext rd c fr h
  cases c <;> rfl
theorem zAll_old (P : Program) (n : Nat) : zAll (old P O n) = evAll P O (n + 1) := rfl
theorem recs_old (P : Program) (n : Nat) : recs P O n = old P O n := by
  induction n with
  | zero => rfl
  | succ n ih =>
    show Rec.mk (zOp P (recs P O n)) (zVal (recs P O n)) (zFn (recs P O n)) (zCall P O (recs P O n)) (zRound (recs P O n)) (zSeq (recs P O n)) (zDraw (recs P O n)) (zC (recs P O n)) (zAll (recs P O n)) = _
    rw [ih, zOp_old, zVal_old, zFn_old, zCall_old, zRound_old, zSeq_old, zDraw_old, zC_old, zAll_old]
    rfl
noncomputable def zVal1 (r : Option (Value × Hp)) : Option Value :=
  match r with
  | some (v, h) => match Nat.beq (Nat.mod h.wr lowBits) 0 with
    | true => some v
    | false => none
  | none => none
noncomputable def runO (P : Program) (O : Orc) (fuel : Nat) (f : FuncId) (H : Tr AObj) : Option Value := zVal1 ((recs P O fuel).call f [] (hpG H))
theorem runO_eq (P : Program) (O : Orc) (fuel : Nat) (f : FuncId) (H : Tr AObj) : runO P O fuel f H = evRunG P O fuel f H := by
  unfold runO; rw [recs_old]; rfl
noncomputable def runG (P : Program) (fuel : Nat) (f : FuncId) (H : Tr AObj) : Option Value := runO P noOrc fuel f H
noncomputable def runZ (P : Program) (fuel : Nat) (f : FuncId) : Option Value := runG P fuel f .leaf
/-- The same theorem, of the same evaluator in small pieces. -/
theorem runO_calls {P : Program} {O : Orc} (hO : OrcS P O) (hm : P.follows .mixedOrders = true) {fuel : Nat} {f : FuncId} {v : Value} {k : Nat} {H : Tr AObj} (hg : gnd k v = true) (h : runO P O fuel f H = some v) (w : World) (hH : GlobIn H w) :
    Calls P f #[] w fun e w' => e = .returned v ∧ RowKit.Below w.heap.size w w' := evRunG_calls hO hm hg (by rw [← runO_eq]; exact h) w hH
theorem runG_calls {P : Program} (hm : P.follows .mixedOrders = true) {fuel : Nat} {f : FuncId} {v : Value} {k : Nat} {H : Tr AObj} (hg : gnd k v = true) (h : runG P fuel f H = some v) (w : World) (hH : GlobIn H w) :
    Calls P f #[] w fun e w' => e = .returned v ∧ RowKit.Below w.heap.size w w' := runO_calls noOrc_ok hm hg h w hH
theorem runZ_calls {P : Program} (hm : P.follows .mixedOrders = true) {fuel : Nat} {f : FuncId} {v : Value} {k : Nat} (hg : gnd k v = true) (h : runZ P fuel f = some v) (w : World) :
    Calls P f #[] w fun e w' => e = .returned v ∧ RowKit.Below w.heap.size w w' := runG_calls hm hg h w (GlobIn.none w)
/-! ### package-level variables, as a list -/
/-- A row of values, laid from i on. -/
noncomputable def trOf : List Value → Nat → Tr Value → Tr Value
  | [], _, t => t
  | v :: l, i, t => trOf l (i + 1) (Tr.set 24 t i (some v))
theorem trOf_get : ∀ (l : List Value) (i : Nat) (t : Tr Value), i + l.length < 16000000 → ∀ j, (trOf l i t).get j = if i ≤ j ∧ j < i + l.length then l[j - i]? else t.get j
  | [], i, t, _, j => by rw [if_neg (nil_no i j)]; rfl
  | v :: l, i, t, h, j => by
    simp only [List.length_cons] at h
    have h1 := trOf_get l (i + 1) (Tr.set 24 t i (some v)) (by omega) j
    have h2 := Tr.get_set 24 t i j (some v) (by omega)
    simp only [trOf]
    rw [h1, h2]
    by_cases e : j = i
    · subst e; rw [if_neg (by omega), if_pos rfl, if_pos (by simp)]; simp
    · by_cases e2 : i + 1 ≤ j ∧ j < i + 1 + l.length
      · rw [if_pos e2, if_pos (by simp; omega), show j - i = (j - (i + 1)) + 1 by omega]; simp
      · rw [if_neg e2, if_neg e, if_neg (by simp; omega)]
noncomputable def globs : List (Nat × List Value) → Tr AObj
  | [] => .leaf
  | (g, l) :: r => Tr.set 24 (globs r) g (some (.table (trOf l 0 .leaf)))
theorem globs_in {w : World} : ∀ {gs : List (Nat × List Value)}, (∀ g l, (g, l) ∈ gs → g < 64 ∧ l.length < 16000000 ∧ (∀ v ∈ l, gnd 9 v = true) ∧ ∃ c e fr, w.heap[g]? = some (.cells c e fr) ∧ ∀ (i : Nat) v, l[i]? = some v → c[i]? = some v) → GlobIn (globs gs) w
  | [], _ => GlobIn.none w
  | (g, l) :: r, h => fun k o ho => by
    obtain ⟨h1, h2, h3, c, e, fr, h4, h5⟩ := h g l (by simp)
    simp only [globs] at ho
    rw [Tr.get_set 24 _ _ _ _ (by omega)] at ho
    by_cases hk : k = g
    · subst hk
      rw [if_pos rfl] at ho
      cases ho
      refine ⟨h1, _, c, e, fr, rfl, h4, fun i v hi => ?_⟩
      rw [trOf_get l 0 .leaf (by omega)] at hi
      by_cases hl : 0 ≤ i ∧ i < 0 + l.length
      · rw [if_pos hl] at hi
        have hi' : l[i]? = some v := by simpa using hi
        exact ⟨h3 v (List.mem_of_getElem? hi'), h5 i v hi'⟩
      · rw [if_neg hl] at hi; simp [Tr.get] at hi
    · rw [if_neg hk] at ho
      exact globs_in (gs := r) (fun g l hm => h g l (by simp [hm])) k o ho
theorem GlobIn.below {H : Tr AObj} {w w' : World} (h : GlobIn H w) (hb : RowKit.Below w.heap.size w w') : GlobIn H w' := fun g o ho => by
  obtain ⟨h1, tr, c, e, fr, h2, h3, h4⟩ := h g o ho
  exact ⟨h1, tr, c, e, fr, h2, (hb.block g (Array.getElem?_eq_some_iff.1 h3).1).trans h3, h4⟩
end

section
/- A checked evaluator of closed calls, part 0: calls that were worked out beforehand, each by itself. -/
variable {P : Program}

/-! ### values that are written alike -/
noncomputable def sameA (a b : Addr) : Bool :=
  match a, b with
  | ⟨b1, o1, none⟩, ⟨b2, o2, none⟩ => Nat.beq b1 b2 && Nat.beq o1 o2
  | ⟨b1, o1, some s1⟩, ⟨b2, o2, some s2⟩ => Nat.beq b1 b2 && Nat.beq o1 o2 && Nat.beq s1 s2
  | _, _ => false
theorem sameA_eq {a b : Addr} (h : sameA a b = true) : a = b := by
  obtain ⟨b1, o1, s1⟩ := a
  obtain ⟨b2, o2, s2⟩ := b
  cases s1 <;> cases s2 <;> simp [sameA] at h
  · obtain ⟨rfl, rfl⟩ := h; rfl
  · obtain ⟨⟨rfl, rfl⟩, rfl⟩ := h; rfl
noncomputable def sameL (f : Value → Value → Bool) : List Value → List Value → Bool
  | [], [] => true
  | x :: xs, y :: ys => match f x y with | true => sameL f xs ys | false => false
  | _, _ => false
theorem sameL_eq {f : Value → Value → Bool} (hf : ∀ x y, f x y = true → x = y) : ∀ {xs ys : List Value}, sameL f xs ys = true → xs = ys
  | [], [], _ => rfl
  | x :: xs, y :: ys, h => by
    simp only [sameL] at h
    split at h
    · rename_i hx; rw [hf x y hx, sameL_eq hf h]
    · cases h
  | [], _ :: _, h => by simp [sameL] at h
  | _ :: _, [], h => by simp [sameL] at h
noncomputable def sameB : List UInt8 → List UInt8 → Bool
  | [], [] => true
  | x :: xs, y :: ys => match Nat.beq x.toNat y.toNat with | true => sameB xs ys | false => false
  | _, _ => false
theorem sameB_eq : ∀ {xs ys : List UInt8}, sameB xs ys = true → xs = ys
  | [], [], _ => rfl
  | x :: xs, y :: ys, h => by
    simp only [sameB] at h
    split at h
    · rename_i hx
      rw [UInt8.toNat_inj.1 (Nat.eq_of_beq_eq_true hx), sameB_eq h]
    · cases h
  | [], _ :: _, h => by simp [sameB] at h
  | _ :: _, [], h => by simp [sameB] at h
noncomputable def sameV : Nat → Value → Value → Bool
  | 0, _, _ => false
  | n + 1, x, y => match x, y with
    | .bool a, .bool b => a == b
    | .int k a, .int k' b => decide (k = k') && decide (a = b)
    | .pointer none, .pointer none => true
    | .pointer (some a), .pointer (some b) => sameA a b
    | .slice none l c, .slice none l' c' => Nat.beq l l' && Nat.beq c c'
    | .slice (some a) l c, .slice (some b) l' c' => sameA a b && Nat.beq l l' && Nat.beq c c'
    | .agg xs, .agg ys => sameL (sameV n) xs.toList ys.toList
    | .tuple xs, .tuple ys => sameL (sameV n) xs.toList ys.toList
    | .string ⟨⟨a⟩⟩, .string ⟨⟨b⟩⟩ => sameB a b
    | _, _ => false
theorem sameV_eq : ∀ {n : Nat} {x y : Value}, sameV n x y = true → x = y := by
  intro n
  induction n with
  | zero => intro x y h; simp [sameV] at h
  | succ n ih =>
    intro x y h
    simp only [sameV] at h
    split at h
    · have := by simpa using h
      rw [this]
    · simp only [Bool.and_eq_true, decide_eq_true_eq] at h
      rw [h.1, h.2]
    · rfl
    · rw [sameA_eq h]
    · simp only [Bool.and_eq_true] at h
      rw [Nat.eq_of_beq_eq_true h.1, Nat.eq_of_beq_eq_true h.2]
    · simp only [Bool.and_eq_true] at h
      rw [sameA_eq h.1.1, Nat.eq_of_beq_eq_true h.1.2, Nat.eq_of_beq_eq_true h.2]
    · rw [Array.toList_inj.1 (sameL_eq (fun x y h => ih h) h)]
    · rw [Array.toList_inj.1 (sameL_eq (fun x y h => ih h) h)]
    · rw [sameB_eq h]
    · cases h

/-! ### values that name blocks below a number alone -/
noncomputable def allL (f : Value → Bool) : List Value → Bool
  | [] => true
  | x :: xs => match f x with | true => allL f xs | false => false
theorem allL_mem {f : Value → Bool} : ∀ {xs : List Value}, allL f xs = true → ∀ x ∈ xs, f x = true
  | x :: xs, h, y, hy => by
    simp only [allL] at h
    split at h
    · rename_i hx
      rcases List.mem_cons.1 hy with rfl | hy
      · exact hx
      · exact allL_mem h y hy
    · cases h
noncomputable def lowV (next : Nat) : Nat → Value → Bool
  | 0, _ => false
  | n + 1, x => match x with
    | .bool _ => true
    | .int _ _ => true
    | .pointer none => true
    | .pointer (some a) => Nat.blt a.block next
    | .slice none _ _ => true
    | .slice (some a) _ _ => Nat.blt a.block next
    | .agg xs => allL (lowV next n) xs.toList
    | _ => false
theorem VR.agree {K K' : Pm} {next : Nat} (hK : ∀ b, b < next → K' b = K b) : ∀ {n : Nat} {v v' : Value}, lowV next n v = true → VR K v v' → VR K' v v' := by
  intro n
  induction n with
  | zero => intro v v' h; simp [lowV] at h
  | succ n ih =>
    intro v v' h hv
    cases hv with
    | bool => exact .bool _
    | int => exact .int _ _
    | ptrNil => exact .ptrNil
    | ptr h1 off =>
      simp only [lowV] at h
      exact .ptr ((hK _ (blt_lt h)).trans h1) off
    | ptrDead h1 a' =>
      simp only [lowV] at h
      exact .ptrDead ((hK _ (blt_lt h)).trans h1) a'
    | sliceNil => exact .sliceNil _ _
    | sliceX h1 off l c =>
      simp only [lowV] at h
      exact .sliceX ((hK _ (blt_lt h)).trans h1) off l c
    | sliceZ h1 off sp a' =>
      simp only [lowV] at h
      exact .sliceZ ((hK _ (blt_lt h)).trans h1) off sp a'
    | slice h1 off g l c c' h2 h3 h4 h5 =>
      simp only [lowV] at h
      exact .slice ((hK _ (blt_lt h)).trans h1) off g l c c' h2 h3 h4 h5
    | sliceDead h1 l c a' c' h2 h3 =>
      simp only [lowV] at h
      exact .sliceDead ((hK _ (blt_lt h)).trans h1) l c a' c' h2 h3
    | agg c c' h1 h2 =>
      simp only [lowV] at h
      exact .agg c c' h1 fun i v v' hv hv' => ih (allL_mem h v (by simpa using Array.mem_of_getElem? hv)) (h2 i v v' hv hv')
    | _ => simp [lowV] at h

/-! ### a call that was worked out -/
structure Row where
  blk : Nat
  vals : List Value
  elem : TypeId
  g : Nat
structure Ent where
  fn : FuncId
  args : List Value
  objs : List Row
  next : Nat
  val : Value
  tch : Nat
noncomputable def entH : List Row → Tr AObj
  | [] => .leaf
  | ⟨b, l, e, g⟩ :: r => Tr.set 24 (entH r) b (some (.cells (trOf l 0 .leaf) e g))
/-- The row's cells stand in the trie, from i on. -/
noncomputable def hasL (tr : Tr Value) : List Value → Nat → Bool
  | [], _ => true
  | v :: l, i => match tr.get i with
    | some u => match sameV 9 u v with
      | true => hasL tr l (i + 1)
      | false => false
    | none => false
theorem hasL_get {tr : Tr Value} : ∀ {l : List Value} {i : Nat}, hasL tr l i = true → ∀ j v, l[j]? = some v → tr.get (i + j) = some v
  | v :: l, i, h, j, u, hj => by
    simp only [hasL] at h
    split at h
    · rename_i x hx
      split at h
      · rename_i hs
        cases j with
        | zero => simp at hj; subst hj; rw [Nat.add_zero, hx, sameV_eq hs]
        | succ j => have := hasL_get h j u (by simpa using hj); rw [show i + (j + 1) = i + 1 + j by omega]; exact this
      · cases h
    · cases h
noncomputable def hasAll (H : Tr AObj) : List Row → Bool
  | [] => true
  | ⟨b, l, e, g⟩ :: r => match H.get b with
    | some (.cells tr e' g') => match Nat.beq e e' && Nat.beq g g' && hasL tr l 0 with
      | true => hasAll H r
      | false => false
    | _ => false
theorem hasAll_row {H : Tr AObj} : ∀ {r : List Row}, hasAll H r = true → ∀ x ∈ r, ∃ tr, H.get x.blk = some (.cells tr x.elem x.g) ∧ ∀ j v, x.vals[j]? = some v → tr.get j = some v
  | ⟨b, l, e, g⟩ :: r, h, x, hx => by
    simp only [hasAll] at h
    split at h
    · rename_i tr e' g' hg
      split at h
      · rename_i hc
        simp only [Bool.and_eq_true] at hc
        obtain ⟨⟨he, hg'⟩, hl⟩ := hc
        obtain rfl := Nat.eq_of_beq_eq_true he
        obtain rfl := Nat.eq_of_beq_eq_true hg'
        rcases List.mem_cons.1 hx with rfl | hx
        · exact ⟨tr, hg, fun j v hj => by have := hasL_get hl j v hj; rwa [Nat.zero_add] at this⟩
        · exact hasAll_row h x hx
      · cases h
    · cases h
/-- What is asked of the rows by themselves. -/
noncomputable def rowsOk (next : Nat) : List Row → Bool
  | [] => true
  | ⟨b, l, _, _⟩ :: r => match Nat.blt b next && Nat.blt b 16000000 && Nat.blt l.length 16000000 && allL (lowV next 9) l with
    | true => rowsOk next r
    | false => false
theorem rowsOk_mem {next : Nat} : ∀ {r : List Row}, rowsOk next r = true → ∀ x ∈ r, x.blk < next ∧ x.blk < 16000000 ∧ x.vals.length < 16000000 ∧ allL (lowV next 9) x.vals = true
  | ⟨b, l, e, g⟩ :: r, h, x, hx => by
    simp only [rowsOk] at h
    split at h
    · rename_i hc
      simp only [Bool.and_eq_true] at hc
      rcases List.mem_cons.1 hx with rfl | hx
      · exact ⟨blt_lt hc.1.1.1, blt_lt hc.1.1.2, blt_lt hc.1.2, hc.2⟩
      · exact rowsOk_mem h x hx
    · cases h
theorem entH_get {next : Nat} : ∀ {r : List Row}, rowsOk next r = true → ∀ b o, (entH r).get b = some o → ∃ x ∈ r, b = x.blk ∧ o = .cells (trOf x.vals 0 .leaf) x.elem x.g
  | [], _, b, o, h => by simp [entH, Tr.get] at h
  | ⟨b0, l, e, g⟩ :: r, hr, b, o, h => by
    have h0 := rowsOk_mem hr ⟨b0, l, e, g⟩ (by simp)
    simp only [entH] at h
    rw [Tr.get_set 24 _ _ _ _ (by have := h0.2.1; simp at this; omega)] at h
    by_cases hb : b = b0
    · rw [if_pos hb] at h; cases h
      exact ⟨_, List.mem_cons_self .., hb, rfl⟩
    · rw [if_neg hb] at h
      simp only [rowsOk] at hr
      split at hr
      · obtain ⟨x, hx, h1, h2⟩ := entH_get hr b o h
        exact ⟨x, List.mem_cons_of_mem _ hx, h1, h2⟩
      · cases hr
/-- The call is carried out from its own rows alone: what it returns, and that it writes none of the blocks that were there. -/
noncomputable def entRan (e : Ent) (r : Option (Value × Hp)) : Bool :=
  match r with
  | some (v, h) => sameV 9 v e.val && Nat.beq (Nat.mod h.wr (1 <<< e.next)) 0 && Nat.beq (Nat.lor (Nat.mod h.tch (1 <<< e.next)) e.tch) e.tch
  | none => false
noncomputable def entOk (P : Program) (n : Nat) (e : Ent) : Bool :=
  Nat.ble 64 e.next && gnd 2 e.val && rowsOk e.next e.objs && allL (lowV e.next 9) e.args && entRan e ((recs P noOrc n).call e.fn e.args ⟨entH e.objs, e.next, 0, 0⟩)
noncomputable def chk (e : Ent) (f : FuncId) (args : List Value) (h : Hp) : Bool :=
  Nat.beq f e.fn && Nat.beq h.next e.next && sameL (sameV 9) args e.args && hasAll h.heap e.objs
noncomputable def orcOf : List Ent → Orc
  | [], _, _, _ => none
  | e :: es, f, args, h => match chk e f args h with
    | true => match h with
      | ⟨hp, nx, t, wr⟩ => forceN (Nat.lor t e.tch) fun t => some (e.val, ⟨hp, nx, t, wr⟩)
    | false => orcOf es f args h
theorem low_bits {m n b : Nat} (h : m % 2 ^ n = 0) (hb : b < n) : ¬ bit m b := fun hm => by
  have h1 := Nat.testBit_mod_two_pow m n b
  rw [h] at h1
  simp [hb] at h1
  rw [show m.testBit b = true from hm] at h1
  cases h1
theorem ent_sound {f : FuncId} (hm : P.follows .mixedOrders = true) {n : Nat} {e : Ent} (ho : entOk P n e = true) {args : List Value} {h : Hp} (hc : chk e f args h = true) :
    PF h ⟨h.heap, h.next, Nat.lor h.tch e.tch, h.wr⟩ ∧ (∀ ar w, (callFunc f ar).run P w = .ok (.enter f ar) w) ∧ ∀ K (G : Nat → Prop), (∀ b, bit (Nat.lor h.tch e.tch) b → G b) → ∀ w args0, LR K args args0 → Wf h → Pre COk K h w G →
      CallsIn Fence.wide 0 P f ⟨args0⟩ w (Done K w e.val ⟨h.heap, h.next, Nat.lor h.tch e.tch, h.wr⟩ G) := by
  unfold entOk at ho
  simp only [Bool.and_eq_true] at ho
  obtain ⟨⟨⟨⟨h64, hg⟩, hro⟩, hla⟩, hran⟩ := ho
  have h64 := Nat.le_of_ble_eq_true h64
  unfold chk at hc
  simp only [Bool.and_eq_true] at hc
  obtain ⟨⟨⟨hf, hnx⟩, hsa⟩, hha⟩ := hc
  obtain rfl := Nat.eq_of_beq_eq_true hf
  have hargs : args = e.args := sameL_eq (fun x y h => sameV_eq h) hsa
  subst hargs
  unfold entRan at hran
  split at hran
  · rename_i v h2 hr
    simp only [Bool.and_eq_true, Nat.one_shiftLeft] at hran
    obtain ⟨⟨hv, hwr⟩, htc⟩ := hran
    have hwr := Nat.eq_of_beq_eq_true hwr
    have htc := Nat.eq_of_beq_eq_true htc
    have hv := sameV_eq hv
    subst hv
    rw [recs_old] at hr
    obtain ⟨pf, hname, hs⟩ := (all_sound (O := noOrc) noOrc_ok hm n n (Nat.le_refl _)).2.2.2.1 e.fn e.args ⟨entH e.objs, e.next, 0, 0⟩ e.val h2 hr
    refine ⟨⟨Nat.le_refl _, fun _ h => h, fun x hx => bit_or.2 (.inl hx), fun _ _ => rfl, fun x h1 h2 => by have : x < h.next := h2; omega, fun h => h, fun hs x hx => bit_or.2 (.inl (hs x hx))⟩, hname, fun K G hG w args0 hl hw hp => ?_⟩
    -- the places that count
    have hK : ∀ b, b < e.next → (fun b => if b < e.next then K b else .absent : Pm) b = K b := fun b hb => if_pos hb
    have hK1 : ∀ b p, (fun b => if b < e.next then K b else .absent : Pm) b = .live p → b < e.next ∧ K b = .live p := fun b p hb => by
      by_cases h9 : b < e.next
      · rw [hK b h9] at hb; exact ⟨h9, hb⟩
      · simp only [if_neg h9] at hb; cases hb
    have habs : ∀ b, e.next ≤ b → (fun b => if b < e.next then K b else .absent : Pm) b = .absent := fun b hb => if_neg (by omega)
    generalize (fun b => if b < e.next then K b else .absent : Pm) = K1 at hK hK1 habs
    have hmask : ∀ b, b < e.next → bit h2.tch b → bit e.tch b := fun b hb hb2 => by
      have h9 : bit (Nat.lor (h2.tch % 2 ^ e.next) e.tch) b := bit_or.2 (.inl (by simpa [bit, Nat.testBit_mod_two_pow, hb] using hb2))
      exact htc ▸ h9
    have hpre : Pre COk K1 ⟨entH e.objs, e.next, 0, 0⟩ w (fun b => bit h2.tch b) := by
      refine ⟨⟨fun b p hb => hp.kok.lt b p (hK1 b p hb).2, fun b b' p p' hb hb' he => hp.kok.inj b b' p p' (hK1 b p hb).2 (hK1 b' p' hb').2 he, fun b hb => by rw [hK b (by omega)]; exact hp.kok.gl b hb⟩, fun b hb o ho => ?_⟩
      obtain ⟨x, hx, rfl, rfl⟩ := entH_get hro b o ho
      obtain ⟨x1, _, x3, x4⟩ := rowsOk_mem hro x hx
      obtain ⟨tr, htr, hval⟩ := hasAll_row hha x hx
      obtain ⟨p, y, hkp, hy, hor⟩ := hp.cont x.blk (hG _ (bit_or.2 (.inr (hmask _ x1 hb)))) _ htr
      obtain ⟨q1, c, q2, q3, q4⟩ := hor
      refine ⟨p, y, (hK _ x1).trans hkp, hy, q1, c, q2, q3, fun i v hi => ?_⟩
      rw [trOf_get _ _ _ (by omega)] at hi
      by_cases hil : 0 ≤ i ∧ i < 0 + x.vals.length
      · rw [if_pos hil] at hi
        have hi' : x.vals[i]? = some v := by simpa using hi
        obtain ⟨v', r1, r2⟩ := q4 i v (hval i v hi')
        exact ⟨v', r1, r2.agree hK (allL_mem x4 v (List.mem_of_getElem? hi'))⟩
      · rw [if_neg hil] at hi; simp [Tr.get] at hi
    have hcall := hs K1 (fun b => bit h2.tch b) (fun b hb => hb) w args0 ⟨hl.1, fun i v v' hv hv' => (hl.2 i v v' hv hv').agree hK (allL_mem hla v (List.mem_of_getElem? hv))⟩ (fun b hb => by simp [bit] at hb) hpre (fun id h1 _ => habs id h1)
    refine hcall.mono ?_
    rintro en w' ⟨K2, v', rfl, hv', hpo⟩
    have hv2 := (gnd_vr 2 e.val hg K2).2 v' hv'
    subst hv2
    have hsame : ∀ k, k < w.heap.size → w'.heap[k]? = w.heap[k]? := fun k hk => hpo.frm.block k hk fun b p hb hkb => absurd hb (low_bits hwr (hK1 b p hkb).1)
    refine ⟨K, _, rfl, (gnd_vr 2 _ hg K).1, ⟨⟨fun b p hb => Nat.lt_of_lt_of_le (hp.kok.lt b p hb) hpo.frm.size, hp.kok.inj, hp.kok.gl⟩, fun b hb o ho => ?_, Mono.refl K, fun _ _ => rfl, fun _ _ h => .inl h, ⟨fun k hk _ => hsame k hk, hpo.frm.size, hpo.frm.os, hpo.frm.tape, hpo.frm.output⟩⟩⟩
    obtain ⟨p, x, h1, h3, h4⟩ := hp.cont b hb o ho
    exact ⟨p, x, h1, (hsame _ (hp.kok.lt _ _ h1)).trans h3, h4⟩
  · cases hran
theorem orc_ok (hm : P.follows .mixedOrders = true) {n : Nat} : ∀ {es : List Ent}, (∀ e ∈ es, entOk P n e = true) → OrcS P (orcOf es)
  | [], _ => fun f args h v h' he => by simp [orcOf] at he
  | e :: es, hes => fun f args h v h' he => by
    simp only [orcOf] at he
    split at he
    · rename_i hc
      obtain ⟨hp, nx, t, wr⟩ := h
      simp only [forceN_eq, Option.some.injEq, Prod.mk.injEq] at he
      obtain ⟨rfl, rfl⟩ := he
      obtain ⟨a, b, c⟩ := ent_sound hm (hes e (by simp)) hc
      exact ⟨a, b, fun K G hG w args0 hl hw hpre _ => c K G hG w args0 hl hw hpre⟩
    · exact orc_ok hm (fun x hx => hes x (by simp [hx])) f args h v h' he
end
end Go.Proofs.YtnbndciididpoaaGreat.Ev
