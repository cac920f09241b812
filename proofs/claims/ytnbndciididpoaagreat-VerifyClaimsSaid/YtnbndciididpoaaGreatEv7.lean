/- A checked evaluator of closed calls, text 7 of 7: over any program; no condition. -/
import Derived.Test.YtnbndciididpoaaGreatEv6
namespace Go.Proofs.YtnbndciididpoaaGreat.Ev
open Go
set_option linter.unusedVariables false
set_option linter.unusedSimpArgs false
section
/- A checked evaluator of closed calls, part 1: calls that end in a panic. -/
variable {P : Program} {O : Orc}

noncomputable def isIf (P : Program) (t : TypeId) : Bool := match P.underlying t with
  | some (.interface _) => true
  | none => true
  | _ => false
/-! Guide: at a sequence: false: the panic comes in its first part; true: behind it; at a loop: false: in this round; true: in a later one; at a call of a function: false: it panics; true: it returns. -/
mutual
noncomputable def pvC (P : Program) (R : Rec) : Nat → List Bool → Code → Fr → Hp → Option (Value × Hp)
  | 0, _, _, _, _ => none
  | n + 1, gd, c, fr, h => match c with
    | .region _ ops draw => match draw with
      | false => pvOps P R n gd ops ops.toList fr h
      | true => none
    | .seq a b => match gd with
      | true :: gd => match R.code none a fr h with
        | some (.normal, fr, h) => pvC P R n gd b fr h
        | _ => none
      | false :: gd => pvC P R n gd a fr h
      | [] => none
    | .cond c a b => match evO fr.tm c with
      | .bool true => pvC P R n gd a fr h
      | .bool false => pvC P R n gd b fr h
      | _ => none
    | .block _ b => pvC P R n gd b fr h
    | .loop b => match gd with
      | true :: gd => match R.code none b fr h with
        | some (.normal, fr, h) => pvC P R n gd (.loop b) fr h
        | _ => none
      | false :: gd => pvC P R n gd b fr h
      | [] => none
    | _ => none
  termination_by structural n => n
noncomputable def pvOps (P : Program) (R : Rec) : Nat → List Bool → Array Oper → List Oper → Fr → Hp → Option (Value × Hp)
  | 0, _, _, _, _, _ => none
  | n + 1, gd, ops, rest, fr, h => match rest with
    | [] => none
    | o :: rest => match wantedA ops fr.tm o with
      | false => putT fr o.dst (.tuple #[]) fun fr => pvOps P R n gd ops rest fr h
      | true => match o.op with
        | .panic x => match fr.df with
          | [] => match evO fr.tm x with
            | .iface t (.int k m) => some (.iface t (.int k m), h)
            | _ => none
          | _ => none
        | .makeInterface t x => match isIf P t with
          | false => putT fr o.dst (.iface t (evO fr.tm x)) fun fr => pvOps P R n gd ops rest fr h
          | true => none
        | .call { callee := .value f, args, .. } => match gd with
          | true :: gd => match R.op fr.tm o h with
            | some (v, h) => putT fr o.dst v fun fr => pvOps P R n gd ops rest fr h
            | none => none
          | false :: gd => match fr.df with
            | [] => match evO fr.tm f with
              | .func (.func g) first captured => pvCall P R n gd g (first.toList ++ evL fr.tm args.toList ++ captured.toList) h
              | _ => none
            | _ => none
          | [] => none
        | _ => match R.op fr.tm o h with
          | some (v, h) => putT fr o.dst v fun fr => pvOps P R n gd ops rest fr h
          | none => none
  termination_by structural n => n
noncomputable def pvCall (P : Program) (R : Rec) : Nat → List Bool → FuncId → List Value → Hp → Option (Value × Hp)
  | 0, _, _, _, _ => none
  | n + 1, gd, f, args, h => match P.funcs.toList[f]? with
    | some fn => match fn.body with
      | some code => match codeOk code && !(fn.name == "runtime.NumGoroutine") && Nat.ble args.length fn.ntmps with
        | true => fillK args .leaf 0 fun tm => pvC P R n gd code ⟨tm, fn.ntmps, []⟩ h
        | false => none
      | none => none
    | none => none
  termination_by structural n => n
end

/-! ### what they mean -/
noncomputable def PCodeS (P : Program) (R : Rec) (n : Nat) : Prop := ∀ gd c fr h v h', pvC P R n gd c fr h = some (v, h') →
  PF h h' ∧ (codeOk c = true → ∀ K (G : Nat → Prop), (∀ b, bit h'.tch b → G b) → ∀ w a, Wf h → Pre COk K h w G → Adm K h h' → TRel K fr a →
    c.wpIn Fence.wide 0 P (fun e a' w' => e = .panic [{ v := v, recovered := false }] ∧ a'.defers = [] ∧ ∃ K', Post COk K w K' h' w' G) a w)
noncomputable def POpsS (P : Program) (R : Rec) (n : Nat) : Prop := ∀ gd (ops : Array Oper) (rest : List Oper) fr h v h', pvOps P R n gd ops rest fr h = some (v, h') →
  PF h h' ∧ ∀ (k : Nat), opsOk rest = true → (∀ i : Nat, rest[i]? = ops[k + i]?) → ∀ K (G : Nat → Prop), (∀ b, bit h'.tch b → G b) → ∀ w a, Wf h → Pre COk K h w G → Adm K h h' → TRel K fr a →
    ∀ Q, (∀ K' a' w', a'.defers = [] → Post COk K w K' h' w' G → Q (.panic [{ v := v, recovered := false }]) a' w') → wpOpsIn Fence.wide 0 P ops Q (List.range' k rest.length) a w
noncomputable def DiedC (K : Pm) (w : World) (v : Value) (h' : Hp) (G : Nat → Prop) : Ending → World → Prop := fun e w' => e = .panicked [{ v := v, recovered := false }] ∧ ∃ K', Post COk K w K' h' w' G
noncomputable def PCallS (P : Program) (R : Rec) (n : Nat) : Prop := ∀ gd f args h v h', pvCall P R n gd f args h = some (v, h') →
  PF h h' ∧ (∀ ar w, (callFunc f ar).run P w = .ok (.enter f ar) w) ∧ ∀ K (G : Nat → Prop), (∀ b, bit h'.tch b → G b) → ∀ w args0, LR K args args0 → Wf h → Pre COk K h w G → Adm K h h' →
    CallsIn Fence.wide 0 P f ⟨args0⟩ w (DiedC K w v h' G)

theorem fw : Fw Fence.wide := .inl rfl
theorem ops_step {ops : Array Oper} {o : Oper} {rest : List Oper} {fr : Fr} {F : Fence} {Q : Exit → Act → World → Prop} {a : Act} {w : World} {K : Pm} {k : Nat} (ho : ops[k]? = some o) (htr : TRel K fr a)
    (h1 : wantedA ops fr.tm o = true → o.wpIn F 0 P a w (wpOpsIn F 0 P ops Q (List.range' (k + 1) rest.length)) Q)
    (h2 : wantedA ops fr.tm o = false → (∀ f, o.about P w a.eval = some f → F.fn f) ∧ wpOpsIn F 0 P ops Q (List.range' (k + 1) rest.length) (a.put o.dst undef) w) :
    wpOpsIn F 0 P ops Q (List.range' k (o :: rest).length) a w := by
  rw [List.length_cons, List.range'_succ]
  have hw := wanted_eq (ops := ops) (tm := fr.tm) (a := a) (o := o) (K := K) fun _ _ _ t _ _ _ => htr.val t
  unfold wpOpsIn
  rw [ho]
  simp only [hw]
  cases hwa : wantedA ops fr.tm o with
  | true => simp only [if_true]; exact h1 hwa
  | false => simp only [Bool.false_eq_true, if_false]; exact h2 hwa
theorem ops_idx {ops : Array Oper} {o : Oper} {rest : List Oper} {k : Nat} (hidx : ∀ i : Nat, (o :: rest)[i]? = ops[k + i]?) : ops[k]? = some o ∧ ∀ i : Nat, rest[i]? = ops[k + 1 + i]? :=
  ⟨by have := hidx 0; simpa using this.symm, fun i => by have := hidx (i + 1); rw [show k + 1 + i = k + (i + 1) by omega]; simpa using this⟩
theorem iface_int {K : Pm} {t : TypeId} {k : IntKind} {m : Int} {v' : Value} (h : VR K (.iface t (.int k m)) v') : v' = .iface t (.int k m) := by
  cases h with
  | iface _ h => cases h; rfl

section
variable {N : Nat}
theorem pops_succ {n : Nat} (hOp : OpS P O N) (hP : POpsS P (old P O N) n) (hC : PCallS P (old P O N) n) : POpsS P (old P O N) (n + 1) := by
  intro gd ops rest fr h v h' e
  simp only [pvOps] at e
  cases rest with
  | nil => simp at e
  | cons o rest =>
    simp only at e
    -- the rest behind an operation that gives a value
    have rest_ok : ∀ (gd' : List Bool) (v1 : Value) (h1 : Hp), wantedA ops fr.tm o = true → evOp P O N fr.tm o h = some (v1, h1) → putT fr o.dst v1 (fun fr => pvOps P (old P O N) n gd' ops rest fr h1) = some (v, h') →
        PF h h' ∧ ∀ (k : Nat), opsOk (o :: rest) = true → (∀ i : Nat, (o :: rest)[i]? = ops[k + i]?) → ∀ K (G : Nat → Prop), (∀ b, bit h'.tch b → G b) → ∀ w a, Wf h → Pre COk K h w G → Adm K h h' → TRel K fr a →
          ∀ Q, (∀ K' a' w', a'.defers = [] → Post COk K w K' h' w' G → Q (.panic [{ v := v, recovered := false }]) a' w') → wpOpsIn Fence.wide 0 P ops Q (List.range' k (o :: rest).length) a w := by
      intro gd' v1 h1 hwa he e
      obtain ⟨fr1, e, f1, f2, f3, f4⟩ := putT_some e
      obtain ⟨pf1, hs1⟩ := hOp _ _ _ _ _ he
      obtain ⟨pf2, hs2⟩ := hP _ _ _ _ _ _ _ e
      refine ⟨pf1.trans pf2, fun k hok hidx K G hG w a hw hp ha htr Q hQ => ?_⟩
      obtain ⟨ho, hidx'⟩ := ops_idx hidx
      obtain ⟨hops, hok'⟩ := opsOk_cons hok
      refine ops_step ho htr (fun _ => ?_) fun hf => by rw [hwa] at hf; cases hf
      refine hs1 K Fence.wide fw G (fun b hb => hG b (pf2.tch b hb)) w hw hp (adm_first pf2 ha) a _ Q (fun x hx => opnds_vr hp.kok htr.val (hops x hx)) fun K1 v' w1 hv hp1 => ?_
      refine hs2 (k + 1) hok' hidx' K1 G hG w1 _ (pf1.wf hw) hp1.pre (adm_second pf1 hw ha hp1) ((htr.mono hp1.mono).put hv f1 f2 f3 f4) Q fun K2 a2 w2 hd hp2 => ?_
      exact hQ K2 a2 w2 hd (hp1.trans pf2.wr hp2)
    split at e
    · rename_i hwa
      obtain ⟨fr1, e, f1, f2, f3, f4⟩ := putT_some e
      obtain ⟨pf2, hs2⟩ := hP _ _ _ _ _ _ _ e
      refine ⟨pf2, fun k hok hidx K G hG w a hw hp ha htr Q hQ => ?_⟩
      obtain ⟨ho, hidx'⟩ := ops_idx hidx
      obtain ⟨hops, hok'⟩ := opsOk_cons hok
      refine ops_step ho htr (fun hf => by rw [hwa] at hf; cases hf) fun _ => ⟨fun f _ => trivial, ?_⟩
      exact hs2 (k + 1) hok' hidx' K G hG w _ hw hp ha (htr.put (VR.undef K) f1 f2 f3 f4) Q hQ
    · rename_i hwa
      split at e
      · rename_i x hop
        split at e
        · rename_i hdf
          split at e
          · rename_i t k0 m he
            simp only [Option.some.injEq, Prod.mk.injEq] at e
            obtain ⟨rfl, rfl⟩ := e
            refine ⟨PF.refl _, fun k hok hidx K G hG w a hw hp ha htr Q hQ => ?_⟩
            obtain ⟨ho, hidx'⟩ := ops_idx hidx
            obtain ⟨hops, hok'⟩ := opsOk_cons hok
            refine ops_step ho htr (fun _ => ?_) fun hf => by rw [hwa] at hf; cases hf
            have hv := opnds_vr hp.kok htr.val (hops x (by rw [hop]; simp [Op.operands]))
            rw [he] at hv
            have hx := iface_int hv
            refine ⟨fun f _ => trivial, ?_⟩
            rw [Oper.semAt_eq _ _ _ (by rw [hop]; simp)]
            have hr : (execOp a.eval o).run P w = .halt (.panic (.iface t (.int k0 m))) w := by
              have hpn : (Instr.panic (.iface t (.int k0 m))).run P w = .halt (.panic (.iface t (.int k0 m))) w := rfl
              unfold execOp; rw [hop]; simp [hx, hpn]
            rw [hr]
            have hd : a.defers = [] := by have := htr.df; rw [hdf] at this; exact this
            exact hQ K a w hd (Post.same hp rfl)
          · cases e
        · cases e
      · rename_i t x hop
        split at e
        · rename_i hif
          obtain ⟨fr1, e, f1, f2, f3, f4⟩ := putT_some e
          obtain ⟨pf2, hs2⟩ := hP _ _ _ _ _ _ _ e
          refine ⟨pf2, fun k hok hidx K G hG w a hw hp ha htr Q hQ => ?_⟩
          obtain ⟨ho, hidx'⟩ := ops_idx hidx
          obtain ⟨hops, hok'⟩ := opsOk_cons hok
          refine ops_step ho htr (fun _ => ?_) fun hf => by rw [hwa] at hf; cases hf
          have hv := opnds_vr hp.kok htr.val (hops x (by rw [hop]; simp [Op.operands]))
          have hr : (execOp a.eval o).run P w = .ok (.value (.iface t (a.eval x))) w := by
            unfold execOp; rw [hop]
            unfold isIf at hif
            cases hu : P.underlying t with
            | none => rw [hu] at hif; cases hif
            | some u =>
              rw [hu] at hif
              cases u <;> simp at hif <;> simp [Instr.makeInterface, run_underlying hu]
          refine op_value fw (by rw [hop]; simp) hr (.inl rfl) ?_
          exact hs2 (k + 1) hok' hidx' K G hG w _ hw hp ha (htr.put (.iface t hv) f1 f2 f3 f4) Q hQ
        · cases e
      · rename_i f args ats hop
        split at e
        · split at e
          · rename_i v1 h1 he
            exact rest_ok _ v1 h1 hwa he e
          · cases e
        · split at e
          · rename_i hdf
            split at e
            · rename_i g first captured hfv
              obtain ⟨pf, hcf, hs⟩ := hC _ _ _ _ _ _ e
              refine ⟨pf, fun k hok hidx K G hG w a hw hp ha htr Q hQ => ?_⟩
              obtain ⟨ho, hidx'⟩ := ops_idx hidx
              obtain ⟨hops, hok'⟩ := opsOk_cons hok
              refine ops_step ho htr (fun _ => ?_) fun hf => by rw [hwa] at hf; cases hf
              have hall : ∀ x ∈ o.op.operands.toList, VR K (evO fr.tm x) (a.eval x) := fun x hx => opnds_vr hp.kok htr.val (hops x hx)
              rw [hop] at hall
              have hf : VR K (evO fr.tm f) (a.eval f) := hall f (by simp [Op.operands, Call.operands])
              have hl : LR K (evL fr.tm args.toList) (args.toList.map a.eval) := evL_lr args.toList fun x hx => hall x (by simp [Op.operands, Call.operands]; exact .inr (by simpa using hx))
              rw [hfv] at hf
              obtain ⟨f', c', hfe, hl2, hd⟩ := fnArgs (P := P) hf hl
              rw [hfe] at hd
              have hinv : (invoke (Target.fn (.func g) c') (f' ++ ⟨args.toList.map a.eval⟩)).run P w = .ok (.enter g ⟨f'.toList ++ args.toList.map a.eval ++ c'.toList⟩) w := by
                have : (f' ++ (⟨args.toList.map a.eval⟩ : Array Value)) ++ c' = ⟨f'.toList ++ args.toList.map a.eval ++ c'.toList⟩ := by apply Array.ext'; simp
                simp only [invoke, this]
                exact hcf _ w
              refine ⟨fun f _ => trivial, ?_⟩
              rw [Oper.semAt_eq _ _ _ (by rw [hop]; simp)]
              have hargs : args.map a.eval = ⟨args.toList.map a.eval⟩ := by apply Array.ext'; simp
              have hex : (execOp a.eval o).run P w = .ok (.enter g ⟨f'.toList ++ args.toList.map a.eval ++ c'.toList⟩) w := by
                unfold execOp
                rw [hop]
                simp only [Sem.run_bind, resolve, hargs, hfe, hd, Result.andThen_ok, hinv]
              rw [hex, Oper.uponIn_enter]
              have hdd : a.defers = [] := by have := htr.df; rw [hdf] at this; exact this
              refine ⟨fun hd => (by simp [Fence.wide] at hd), (hs K G hG w _ hl2 hw hp ha).mono ?_⟩
              rintro e w' ⟨rfl, K', hpo⟩
              exact hQ K' a w' hdd hpo
            · cases e
          · cases e
        · cases e
      · split at e
        · rename_i v1 h1 he
          exact rest_ok _ v1 h1 hwa he e
        · cases e
theorem pcode_succ {n : Nat} (hCd : CodeS P O N) (hO : POpsS P (old P O N) n) (hC : ∀ m, m ≤ n → PCodeS P (old P O N) m) : PCodeS P (old P O N) (n + 1) := by
  intro gd c fr h v h' e
  have hCn := hC n (Nat.le_refl _)
  cases c with
  | region id ops draw =>
    cases draw with
    | true => simp [pvC] at e
    | false =>
      simp only [pvC] at e
      obtain ⟨pf, hs⟩ := hO _ _ _ _ _ _ _ e
      refine ⟨pf, fun hco K G hG w a hw hp ha htr => ?_⟩
      have hok : opsOk ops.toList = true := by simpa [codeOk] using hco
      refine wpIn_region ?_
      have := hs 0 hok (fun i => by simp) K G hG w a hw hp ha htr (fun e a' w' => e = .panic [{ v := v, recovered := false }] ∧ a'.defers = [] ∧ ∃ K', Post COk K w K' h' w' G) fun K' a' w' hd hp' => ⟨rfl, hd, K', hp'⟩
      rw [List.range_eq_range']
      simpa using this
  | seq x y =>
    simp only [pvC] at e
    split at e
    · split at e
      · rename_i gd' _ fr1 h1 he
        obtain ⟨pf1, n1, s1⟩ := hCd _ _ _ _ _ _ _ he
        obtain ⟨pf2, s2⟩ := hCn _ _ _ _ _ _ e
        refine ⟨pf1.trans pf2, fun hco K G hG w a hw hp ha htr => ?_⟩
        simp only [codeOk, Bool.and_eq_true] at hco
        refine wpIn_seq (wpIn_mono (s1 hco.1 K Fence.wide G rfl (fun b hb => hG b (pf2.tch b hb)) w a hw hp (adm_first pf2 ha) htr) ?_)
        rintro e1 a1 w1 ⟨rfl, K1, htr1, hp1⟩
        refine wpIn_mono (s2 hco.2 K1 G hG w1 a1 (pf1.wf hw) hp1.pre (adm_second pf1 hw ha hp1) htr1) ?_
        rintro e2 a2 w2 ⟨rfl, hd, K2, hp2⟩
        exact ⟨rfl, hd, K2, hp1.trans pf2.wr hp2⟩
      · cases e
    · obtain ⟨pf1, s1⟩ := hCn _ _ _ _ _ _ e
      refine ⟨pf1, fun hco K G hG w a hw hp ha htr => ?_⟩
      simp only [codeOk, Bool.and_eq_true] at hco
      refine wpIn_seq (wpIn_mono (s1 hco.1 K G hG w a hw hp ha htr) ?_)
      rintro e1 a1 w1 ⟨rfl, hd, hq⟩
      exact ⟨rfl, hd, hq⟩
    · cases e
  | cond c x y =>
    simp only [pvC] at e
    split at e
    · rename_i hc
      obtain ⟨pf1, s1⟩ := hCn _ _ _ _ _ _ e
      refine ⟨pf1, fun hco K G hG w a hw hp ha htr => ?_⟩
      simp only [codeOk, Bool.and_eq_true] at hco
      have hv := opnds_vr hp.kok htr.val hco.1.1
      rw [hc] at hv
      have hcb : a.eval c = .bool true := by generalize a.eval c = v at hv; cases hv; rfl
      exact wpIn_cond_true hcb (s1 hco.1.2 K G hG w a hw hp ha htr)
    · rename_i hc
      obtain ⟨pf1, s1⟩ := hCn _ _ _ _ _ _ e
      refine ⟨pf1, fun hco K G hG w a hw hp ha htr => ?_⟩
      simp only [codeOk, Bool.and_eq_true] at hco
      have hv := opnds_vr hp.kok htr.val hco.1.1
      rw [hc] at hv
      have hcb : a.eval c = .bool false := by generalize a.eval c = v at hv; cases hv; rfl
      exact wpIn_cond_false hcb (s1 hco.2 K G hG w a hw hp ha htr)
    · cases e
  | block id b =>
    simp only [pvC] at e
    obtain ⟨pf1, s1⟩ := hCn _ _ _ _ _ _ e
    refine ⟨pf1, fun hco K G hG w a hw hp ha htr => ?_⟩
    refine wpIn_block (wpIn_mono (s1 hco K G hG w a hw hp ha htr) ?_)
    rintro e1 a1 w1 ⟨rfl, hd, hq⟩
    exact ⟨rfl, hd, hq⟩
  | loop b =>
    have hpf : PF h h' := by
      simp only [pvC] at e
      split at e
      · split at e
        · rename_i gd' _ fr1 h1 he
          obtain ⟨pf1, _, _⟩ := hCd _ _ _ _ _ _ _ he
          obtain ⟨pf2, _⟩ := hCn _ _ _ _ _ _ e
          exact pf1.trans pf2
        · cases e
      · exact (hCn _ _ _ _ _ _ e).1
      · cases e
    refine ⟨hpf, fun hco K G hG w a hw hp ha htr => ?_⟩
    refine wpIn_loop_in (fun m a1 w1 => ∃ gd1 fr1 h1 K1, m ≤ n + 1 ∧ pvC P (old P O N) m gd1 (.loop b) fr1 h1 = some (v, h') ∧ TRel K1 fr1 a1 ∧ Post COk K w K1 h1 w1 G ∧ PF h h1) ⟨n + 1, gd, fr, h, K, Nat.le_refl _, e, htr, Post.same hp rfl, PF.refl _⟩ ?_
    rintro m a1 w1 ⟨gd1, fr1, h1, K1, hmn, e1, htr1, hp1, pfh⟩
    cases m with
    | zero => simp [pvC] at e1
    | succ m =>
      simp only [pvC] at e1
      have hCm := hC m (by omega)
      split at e1
      · split at e1
        · rename_i gd2 _ fr2 h2 he
          obtain ⟨pf1, n1, s1⟩ := hCd _ _ _ _ _ _ _ he
          obtain ⟨pf2, _⟩ := hCm _ _ _ _ _ _ e1
          refine wpIn_mono (s1 hco K1 Fence.wide G rfl (fun b hb => hG b (pf2.tch b hb)) w1 a1 (pfh.wf hw) hp1.pre (adm_first pf2 (adm_second pfh hw ha hp1)) htr1) ?_
          rintro e2 a2 w2 ⟨rfl, K2, htr2, hp2⟩
          exact ⟨m, Nat.lt_succ_self _, gd2, fr2, h2, K2, by omega, e1, htr2, hp1.trans pf1.wr hp2, pfh.trans pf1⟩
        · cases e1
      · obtain ⟨pf1, s1⟩ := hCm _ _ _ _ _ _ e1
        refine wpIn_mono (s1 hco K1 G hG w1 a1 (pfh.wf hw) hp1.pre (adm_second pfh hw ha hp1) htr1) ?_
        rintro e2 a2 w2 ⟨rfl, hd, K2, hp2⟩
        exact ⟨rfl, hd, K2, hp1.trans pf1.wr hp2⟩
      · cases e1
  | _ => simp [pvC] at e
theorem pcall_succ {n : Nat} (hC : PCodeS P (old P O N) n) : PCallS P (old P O N) (n + 1) := by
  intro gd f args h v h' e
  simp only [pvCall] at e
  split at e
  · rename_i fn hf
    split at e
    · rename_i code hb
      split at e
      · rename_i hck
        simp only [Bool.and_eq_true] at hck
        obtain ⟨⟨hco, hnm⟩, hle⟩ := hck
        have hle := Nat.le_of_ble_eq_true hle
        have hnm : (fn.name == "runtime.NumGoroutine") = false := by simpa using hnm
        obtain ⟨tm, e, htm⟩ := fillK_some e
        obtain ⟨pf, hs⟩ := hC _ _ _ _ _ _ e
        refine ⟨pf, name_ok hf hb hnm, fun K G hG w args0 hla hw hp ha => ?_⟩
        have hf' : P.funcs[f]? = some fn := by simpa using hf
        refine callsIn_of_wp_marks hf' hb trivial ?_
        have htr : TRel K ⟨tm, fn.ntmps, []⟩ { tmps := (⟨args0⟩ : Array Value) ++ Array.replicate (fn.ntmps - (⟨args0⟩ : Array Value).size) undef, defers := [] } := by
          have hl0 : args0.length = args.length := hla.1.symm
          refine ⟨by simp; omega, fun t => ?_, rfl⟩
          unfold tmOf
          rw [htm]
          simp only [Array.getD_eq_getD_getElem?]
          by_cases ht : t < args.length
          · rw [if_pos ⟨Nat.zero_le _, by omega⟩, Nat.sub_zero]
            obtain ⟨v', hv', hr'⟩ := hla.get (List.getElem?_eq_getElem ht)
            rw [List.getElem?_eq_getElem ht]
            have : ((⟨args0⟩ : Array Value) ++ Array.replicate (fn.ntmps - (⟨args0⟩ : Array Value).size) undef)[t]? = some v' := by
              rw [Array.getElem?_append_left (by simp; omega)]; simpa using hv'
            rw [this]; exact hr'
          · rw [if_neg (by omega)]
            have : ((⟨args0⟩ : Array Value) ++ Array.replicate (fn.ntmps - (⟨args0⟩ : Array Value).size) undef)[t]?.getD undef = undef := by
              rw [Array.getElem?_append_right (by simp; omega)]
              simp only [Array.getElem?_replicate]
              split <;> rfl
            rw [this]; exact VR.undef K
        refine wpIn_mono (hs hco K G hG w _ hw hp ha htr) ?_
        rintro e a' w' ⟨rfl, hd, K', hpo⟩
        show LeavesInM Fence.wide 0 P fn a'.tmps (DiedC K w v h' G) a'.defers (.panicking [{ v := v, recovered := false }]) w'
        rw [hd]
        exact ⟨rfl, K', hpo⟩
      · cases e
    · cases e
  · cases e
theorem pv_sound (hO : OrcS P O) (hm : P.follows .mixedOrders = true) (N : Nat) : ∀ n, ∀ m, m ≤ n → POpsS P (old P O N) m ∧ PCallS P (old P O N) m ∧ PCodeS P (old P O N) m := by
  obtain ⟨h1, _, _, _, _, _, h7, _⟩ := all_sound hO hm N N (Nat.le_refl _)
  intro n
  induction n with
  | zero =>
    intro m hmn
    have : m = 0 := by omega
    subst this
    exact ⟨fun gd ops rest fr h v h' e => by simp [pvOps] at e, fun gd f args h v h' e => by simp [pvCall] at e, fun gd c fr h v h' e => by simp [pvC] at e⟩
  | succ n ih =>
    intro m hmn
    rcases Nat.lt_or_ge m (n + 1) with h | h
    · exact ih m (by omega)
    · have : m = n + 1 := by omega
      subst this
      obtain ⟨a, b, c⟩ := ih n (Nat.le_refl _)
      exact ⟨pops_succ h1 a b, pcall_succ c, pcode_succ h7 a fun m hm => (ih m hm).2.2⟩
end
end

section
/- A checked evaluator of closed calls, part 2: a function without arguments whose answer is known beforehand. -/
variable {P : Program}

/-- The call of fg without arguments returns true and leaves all as it was; other calls: O. -/
noncomputable def cstO (fg : Nat) (O : Orc) : Orc := fun f args h => match Nat.beq f fg with
  | true => match args with
    | [] => some (.bool true, h)
    | _ :: _ => none
  | false => O f args h
theorem cstO_ok {O : Orc} {fg : Nat} (hO : OrcS P O) (hname : ∀ ar w, (callFunc fg ar).run P w = .ok (.enter fg ar) w)
    (hc : ∀ w, Calls P fg #[] w fun e w' => e = .returned (.bool true) ∧ RowKit.Below w.heap.size w w') : OrcS P (cstO fg O) := by
  intro f args h v h' e
  unfold cstO at e
  split at e
  · rename_i hf
    obtain rfl := Nat.eq_of_beq_eq_true hf
    split at e
    · simp only [Option.some.injEq, Prod.mk.injEq] at e
      obtain ⟨rfl, rfl⟩ := e
      refine ⟨PF.refl _, hname, fun K G hG w args0 hl hw hp _ => ?_⟩
      have hargs : args0 = [] := by
        obtain ⟨hl1, _⟩ := hl
        cases args0 with
        | nil => rfl
        | cons _ _ => simp at hl1
      subst hargs
      refine (callsIn_wide.2 (hc w)).mono ?_
      rintro en w' ⟨rfl, hbl⟩
      refine ⟨K, _, rfl, .bool _, ⟨⟨fun b p hb => Nat.lt_of_lt_of_le (hp.kok.lt b p hb) hbl.size, hp.kok.inj, hp.kok.gl⟩, fun b hb o ho => ?_, Mono.refl K, fun _ _ => rfl, fun _ _ h => .inl h, ⟨fun k hk _ => hbl.block k hk, hbl.size, hbl.os, hbl.tape, hbl.output⟩⟩⟩
      obtain ⟨p', x, h1, h3, h4⟩ := hp.cont b hb o ho
      exact ⟨p', x, h1, (hbl.block _ (hp.kok.lt _ _ h1)).trans h3, h4⟩
    · cases e
  · exact hO f args h v h' e
end

section
/- A checked evaluator of closed calls, part 3: a function whose answers are known by a contract. -/
variable {P : Program}

noncomputable def allGnd : List Value → Bool
  | [] => true
  | v :: vs => match gnd 3 v with | true => allGnd vs | false => false
theorem allGnd_eq {K : Pm} : ∀ {l l' : List Value}, allGnd l = true → LR K l l' → l' = l := by
  intro l
  induction l with
  | nil => intro l' _ h; exact List.length_eq_zero_iff.1 h.1.symm
  | cons v l ih =>
    intro l' h hl
    cases l' with
    | nil => have := hl.1; simp at this
    | cons v' l' =>
      obtain ⟨h1, h2⟩ := hl.of_cons
      simp only [allGnd] at h
      cases hs : gnd 3 v with
      | false => simp [hs] at h
      | true => simp only [hs] at h; rw [(gnd_vr 3 v hs K).2 v' h1, ih h h2]
/-- The call of fg answers as ans says, where ans says something, and writes nothing that was there; other calls: O. -/
noncomputable def purO (fg : Nat) (ans : List Value → Option Value) (O : Orc) : Orc := fun f args h => match Nat.beq f fg with
  | true => match allGnd args with
    | true => match ans args with
      | some v => match gnd 3 v with
        | true => some (v, h)
        | false => none
      | none => none
    | false => none
  | false => O f args h
theorem purO_ok {O : Orc} {fg : Nat} {ans : List Value → Option Value} (hO : OrcS P O) (hname : ∀ ar w, (callFunc fg ar).run P w = .ok (.enter fg ar) w)
    (hc : ∀ args v, ans args = some v → ∀ w, Calls P fg ⟨args⟩ w fun e w' => e = .returned v ∧ RowKit.Below w.heap.size w w') : OrcS P (purO fg ans O) := by
  intro f args h v h' e
  unfold purO at e
  split at e
  · rename_i hf
    obtain rfl := Nat.eq_of_beq_eq_true hf
    split at e
    · rename_i hga
      split at e
      · rename_i v0 ha
        split at e
        · rename_i hgv
          simp only [Option.some.injEq, Prod.mk.injEq] at e
          obtain ⟨rfl, rfl⟩ := e
          refine ⟨PF.refl _, hname, fun K G hG w args0 hl hw hp _ => ?_⟩
          have hargs := allGnd_eq hga hl
          subst hargs
          refine (callsIn_wide.2 (hc _ _ ha w)).mono ?_
          rintro en w' ⟨rfl, hbl⟩
          refine ⟨K, _, rfl, (gnd_vr 3 _ hgv K).1, ⟨⟨fun b p hb => Nat.lt_of_lt_of_le (hp.kok.lt b p hb) hbl.size, hp.kok.inj, hp.kok.gl⟩, fun b hb o ho => ?_, Mono.refl K, fun _ _ => rfl, fun _ _ h => .inl h, ⟨fun k hk _ => hbl.block k hk, hbl.size, hbl.os, hbl.tape, hbl.output⟩⟩⟩
          obtain ⟨p', x, h1, h3, h4⟩ := hp.cont b hb o ho
          exact ⟨p', x, h1, (hbl.block _ (hp.kok.lt _ _ h1)).trans h3, h4⟩
        · cases e
      · cases e
    · cases e
  · exact hO f args h v h' e
end
end Go.Proofs.YtnbndciididpoaaGreat.Ev
