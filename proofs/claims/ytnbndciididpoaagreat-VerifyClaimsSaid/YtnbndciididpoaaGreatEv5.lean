/- A checked evaluator of closed calls, text 5 of 7: over any program; no condition. -/
import Derived.Test.YtnbndciididpoaaGreatEv4
import Derived.Laws.BytesArg
import Derived.OrdersIn
import Derived.RangeFuncCalls
import Derived.RangeFuncFrom
namespace Go.Proofs.YtnbndciididpoaaGreat.Ev
open Go
set_option linter.unusedVariables false
set_option linter.unusedSimpArgs false
section
/- A checked evaluator of closed calls, part P: one operation. -/
variable {ok : Code → Prop} {P : Program}

noncomputable def evO (tm : Tr Value) : Operand → Value
  | .tmp t => tmOf tm t
  | .const v => v
  | .global g => .pointer (some ⟨g, 0, none⟩)
  | .func f => .func (.func f) #[] #[]

/-- An operation as the machine carries it out. -/
noncomputable def XSims (ok : Code → Prop) (P : Program) (K : Pm) (h : Hp) (s : Sem Next) (v : Value) (h' : Hp) : Prop :=
  ∀ (G : Nat → Prop), (∀ b, bit h'.tch b → G b) → ∀ w, Pre ok K h w G → Adm K h h' →
    ∃ K' v' w' nx, s.run P w = .ok nx w' ∧ (nx = .value v' ∨ (nx = .skip ∧ v' = undef)) ∧ VR K' v v' ∧ Post ok K w K' h' w' G
theorem Sims.x {K : Pm} {h h' : Hp} {s : Sem Value} {v : Value} (hs : Sims ok P K h s v h') : XSims ok P K h (do pure (Next.value (← s))) v h' :=
  fun G hG w hp ha => let ⟨K', v', w', h1, h2, h3⟩ := hs G hG w hp ha; ⟨K', v', w', .value v', by simp [h1], .inl rfl, h2, h3⟩
theorem USims.x {K : Pm} {h h' : Hp} {s : Sem Unit} (hs : USims ok P K h s h') : XSims ok P K h (do s; pure Next.skip) (.tuple #[]) h' :=
  fun G hG w hp ha => let ⟨K', w', h1, h3⟩ := hs G hG w hp ha; ⟨K', undef, w', .skip, by simp [h1], .inr ⟨rfl, rfl⟩, VR.undef K', h3⟩
theorem XSims.val {K : Pm} {h : Hp} {v v' : Value} (hv : VR K v v') : XSims ok P K h (pure (Next.value v')) v h :=
  fun G hG w hp _ => ⟨K, v', w, .value v', rfl, .inl rfl, hv, Post.same hp rfl⟩

noncomputable def evL (tm : Tr Value) : List Operand → List Value
  | [] => []
  | x :: xs => evO tm x :: evL tm xs
noncomputable def evP (tm : Tr Value) : List (Nat × Operand) → List (Nat × Value)
  | [] => []
  | (i, x) :: xs => (i, evO tm x) :: evP tm xs
noncomputable def evM (tm : Tr Value) : Option Operand → Option Value
  | none => none
  | some x => some (evO tm x)
noncomputable def allScal : List Value → Bool
  | [] => true
  | v :: vs => match scal v with | true => allScal vs | false => false
noncomputable def aBuiltin (P : Program) (b : Builtin) (ats : List TypeId) (ty : TypeId) (args : List Value) (h : Hp) : Option (Value × Hp) :=
  match b with
  | .len => match ats, args with | [t], [x] => aLen P t x h | _, _ => none
  | .cap => match ats, args with | [t], [x] => aCap P t x h | _, _ => none
  | .append => match ats, args with | [t, u], [s, x] => aAppend P t u s x h | _, _ => none
  | .copy => match ats, args with | [t, _], [d, s] => aCopy P t d s h | _, _ => none
  | .clear => match ats, args with | [t], [x] => aClear P t x h | _, _ => none
  | .delete => match ats, args with | [t, _], [m, k] => aDelete P t m k h | _, _ => none
  | .min => match allScal args with
    | true => match aPure2 P (Builtin.min_ ⟨ats⟩ ty ⟨args⟩) with | some v => some (v, h) | none => none
    | false => none
  | .max => match allScal args with
    | true => match aPure2 P (Builtin.max_ ⟨ats⟩ ty ⟨args⟩) with | some v => some (v, h) | none => none
    | false => none
  | _ => none
theorem evL_lr {K : Pm} {tm : Tr Value} {ρ : Operand → Value} : ∀ (l : List Operand), (∀ x ∈ l, VR K (evO tm x) (ρ x)) → LR K (evL tm l) (l.map ρ) := by
  intro l
  induction l with
  | nil => intro _; exact LR.nil K
  | cons x l ih => intro h; exact LR.cons (h x (by simp)) (ih fun y hy => h y (by simp [hy]))
theorem evP_pr {K : Pm} {tm : Tr Value} {ρ : Operand → Value} : ∀ (l : List (Nat × Operand)), (∀ x ∈ l, VR K (evO tm x.2) (ρ x.2)) → PR K (evP tm l) (l.map fun (i, x) => (i, ρ x)) := by
  intro l
  induction l with
  | nil => intro _; exact ⟨rfl, fun i x x' h => by simp [evP] at h⟩
  | cons x l ih =>
    intro h
    obtain ⟨h1, h2⟩ := ih fun y hy => h y (by simp [hy])
    obtain ⟨i, x⟩ := x
    refine ⟨by simp [evP, h1], fun j a a' ha ha' => ?_⟩
    cases j with
    | zero => simp [evP] at ha ha'; subst ha ha'; exact ⟨rfl, h (i, x) (by simp)⟩
    | succ j => exact h2 j a a' (by simpa [evP] using ha) (by simpa using ha')
theorem evM_ovr {K : Pm} {tm : Tr Value} {ρ : Operand → Value} (r : Option Operand) (h : ∀ x, r = some x → VR K (evO tm x) (ρ x)) : OVR K (evM tm r) (r.map ρ) := by
  cases r with
  | none => exact .inl ⟨rfl, rfl⟩
  | some x => exact .inr ⟨_, _, rfl, rfl, h x rfl⟩
theorem allScal_eq {K : Pm} : ∀ {l l' : List Value}, allScal l = true → LR K l l' → l' = l := by
  intro l
  induction l with
  | nil => intro l' _ h; exact List.length_eq_zero_iff.1 h.1.symm
  | cons v l ih =>
    intro l' h hl
    cases l' with
    | nil => have := hl.1; simp at this
    | cons v' l' =>
      obtain ⟨h1, h2⟩ := hl.of_cons
      simp only [allScal] at h
      cases hs : scal v with
      | false => simp [hs] at h
      | true => simp only [hs] at h; rw [scal_eq hs h1, ih h h2]
/-- Bytes as numbers. -/
noncomputable def u8s : List Value → Option (List Int)
  | [] => some []
  | .int .u8 n :: vs => match u8s vs with | some ns => some (n :: ns) | none => none
  | _ => none
theorem u8s_ok : ∀ {l : List Value} {ns : List Int}, u8s l = some ns → l = ns.map (Value.int .u8) ∧ allScal l = true := by
  intro l
  induction l with
  | nil => intro ns h; simp [u8s] at h; subst h; exact ⟨rfl, rfl⟩
  | cons v l ih =>
    intro ns h
    unfold u8s at h
    split at h
    · rename_i e; cases e
    · rename_i n vs e
      obtain ⟨rfl, rfl⟩ := List.cons.inj e
      cases hv : u8s l with
      | none => simp only [hv] at h; cases h
      | some q =>
        simp only [hv, Option.some.injEq] at h
        subst h
        obtain ⟨h1, h2⟩ := ih hv
        refine ⟨by rw [h1]; rfl, ?_⟩
        simp only [allScal, scal]; exact h2
    · cases h
/-- The string of some bytes. -/
noncomputable def strOf : List Int → List UInt8
  | [] => []
  | n :: ns => UInt8.ofNat n.toNat :: strOf ns
theorem strOf_map (ns : List Int) : strOf ns = ns.map fun n => UInt8.ofNat n.toNat := by
  induction ns with
  | nil => rfl
  | cons n ns ih => simp only [strOf, List.map_cons, ih]
noncomputable def aBytes (P : Program) (src dst : TypeId) (x : Value) (h : Hp) : Option (Value × Hp) :=
  match P.underlying src with
  | some (.slice e) => match P.underlying e with
    | some (.int .u8) => match P.underlying dst with
      | some .string => match x with
        | .slice (some a) (Nat.succ l) c => match aCells 1 (Nat.succ l) (.slice (some a) (Nat.succ l) c) h with
          | some (vs, h1) => match u8s vs with
            | some ns => some (.string ⟨⟨strOf ns⟩⟩, h1)
            | none => none
          | none => none
        | _ => none
      | _ => none
    | _ => none
  | _ => none
theorem aBytes_ok {src dst : TypeId} {x r : Value} {h h' : Hp} (e : aBytes P src dst x h = some (r, h')) :
    PF h h' ∧ ∀ K x0, VR K x x0 → Sims ok P K h (convert src dst x0) r h' := by
  unfold aBytes at e
  split at e
  · rename_i el hs
    split at e
    · rename_i he
      split at e
      · rename_i hd
        split at e
        · rename_i a l c
          cases hc : aCells 1 (Nat.succ l) (.slice (some a) (Nat.succ l) c) h with
          | none => simp only [hc] at e; cases e
          | some q =>
            obtain ⟨vs, h1⟩ := q
            simp only [hc] at e
            cases hu : u8s vs with
            | none => simp only [hu] at e; cases e
            | some ns =>
              simp only [hu, Option.some.injEq, Prod.mk.injEq] at e
              obtain ⟨rfl, rfl⟩ := e
              obtain ⟨pf1, he1, he2, he3, hlen, hcells⟩ := aCells_ok (ok := ok) (P := P) hc
              obtain ⟨hm, hsc⟩ := u8s_ok hu
              refine ⟨pf1, fun K x0 hx G hG w hp _ => ?_⟩
              obtain ⟨l', hl, hrun⟩ := hcells K x0 hx G hG w hp
              have hl' := allScal_eq hsc hl
              subst hl'
              obtain ⟨a', c', rfl, hn⟩ := hx.slice_form
              have hr := hrun w rfl
              refine ⟨K, .string ⟨⟨strOf ns⟩⟩, w, ?_, .string _, Post.same hp he1⟩
              cases a' with
              | none => simp at hn
              | some a' =>
                have hlc : (loadCells a' (Nat.succ l)).run P w = .ok (ns.map (Value.int .u8)).toArray w := by
                  rw [← hm]
                  simpa [Builtin.firstCells] using hr
                rw [run_convert_bytes_string w src dst el _ _ c' hs he hd, run_bytesToString w _ _ c' ns hlc, foldl_push_bytes]
                simp [ByteArray.empty, ByteArray.emptyWithCapacity, strOf_map]; rfl
        · cases e
      · cases e
    · cases e
  · cases e
noncomputable def aConvH (P : Program) (s d : TypeId) (x : Value) (h : Hp) : Option (Value × Hp) :=
  match aConv P s d x with
  | some v => some (v, h)
  | none => aBytes P s d x h
theorem aConvH_ok {src dst : TypeId} {x r : Value} {h h' : Hp} (e : aConvH P src dst x h = some (r, h')) :
    PF h h' ∧ ∀ K x0, VR K x x0 → Sims ok P K h (convert src dst x0) r h' := by
  unfold aConvH at e
  cases hc : aConv P src dst x with
  | none => simp only [hc] at e; exact aBytes_ok e
  | some v =>
    simp only [hc, Option.some.injEq, Prod.mk.injEq] at e
    obtain ⟨rfl, rfl⟩ := e
    exact ⟨PF.refl _, fun K x0 hx => PSims.sims (aConv_ok hc K x0 hx)⟩
noncomputable def aOp (P : Program) (tm : Tr Value) (o : Oper) (h : Hp) : Option (Value × Hp) :=
  match o.op with
  | .move x => some (evO tm x, h)
  | .assign x => some (evO tm x, h)
  | .pick c a b => match evO tm c with
    | .bool true => some (evO tm a, h)
    | .bool false => some (evO tm b, h)
    | _ => none
  | .alloc elem => aAlloc P elem h
  | .box elem x => aBox elem (evO tm x) h
  | .build t parts => match aBuild P t (evP tm parts.toList) with | some v => some (v, h) | none => none
  | .buildSlice t len parts => aBuildSlice P t len (evP tm parts.toList) h
  | .load t a => aLoad P t (evO tm a) h
  | .store t a x => aStore P t (evO tm a) (evO tm x) h
  | .nilCheck x => match evO tm x with
    | .pointer (some a) => some (.pointer (some a), h)
    | .func (.func f) a b => some (.func (.func f) a b, h)
    | _ => none
  | .binOp op t x y _ => aBin P op t (evO tm x) (evO tm y) h
  | .unOp op _ x => match aUn op (evO tm x) P with | some v => some (v, h) | none => none
  | .convert s d x => aConvH P s d (evO tm x) h
  | .makeFunc (.func f) first captured => some (.func (.func f) ⟨evL tm first.toList⟩ ⟨evL tm captured.toList⟩, h)
  | .makeMap t r => aMakeMap P t (evM tm r) h
  | .makeSlice t l c => aMakeSlice P t (evO tm l) (evO tm c) h
  | .slice t x lo hi mx => match aSlice P t (evO tm x) (evM tm lo) (evM tm hi) (evM tm mx) with | some v => some (v, h) | none => none
  | .fieldAddr s x f => match aFieldAddr P s (evO tm x) f with | some v => some (v, h) | none => none
  | .field t x f => match aField P t (evO tm x) f with | some v => some (v, h) | none => none
  | .indexAddr t x i => match aIndexAddr P t (evO tm x) (evO tm i) with | some v => some (v, h) | none => none
  | .index t x i => match aIndex P t (evO tm x) (evO tm i) with | some v => some (v, h) | none => none
  | .lookup t x i c => aLookup P t (evO tm x) (evO tm i) c h
  | .mapUpdate t m k x => aMapUpdate P t (evO tm m) (evO tm k) (evO tm x) h
  | .insert t m k x => aMapUpdate P t (evO tm m) (evO tm k) (evO tm x) h
  | .mapEntry t m k => aMapEntry P t (evO tm m) (evO tm k) h
  | .entryStore _ m s x => aEntryStore (evO tm m) (evO tm s) (evO tm x) h
  | .extract t i => match aExtract (evO tm t) i with | some v => some (v, h) | none => none
  | .call { callee := .builtin b, args, argTypes } => aBuiltin P b argTypes.toList o.type (evL tm args.toList) h
  | _ => none

theorem aBuiltin_ok {b : Builtin} {ats : List TypeId} {ty : TypeId} {args : List Value} {h h' : Hp} {v : Value} {consts : Array Bool} (e : aBuiltin P b ats ty args h = some (v, h')) :
    PF h h' ∧ ∀ K (args0 : List Value), LR K args args0 → XSims ok P K h (builtin b ⟨ats⟩ ty consts ⟨args0⟩) v h' := by
  have two : ∀ {K : Pm} {x y : Value} {l : List Value}, LR K [x, y] l → ∃ x' y', l = [x', y'] ∧ VR K x x' ∧ VR K y y' := by
    intro K x y l hl
    match l, hl with
    | [x', y'], hl => exact ⟨x', y', rfl, hl.of_cons.1, hl.of_cons.2.of_cons.1⟩
    | [], hl => exact absurd hl.1 (by simp)
    | [_], hl => exact absurd hl.1 (by simp)
    | _ :: _ :: _ :: _, hl => exact absurd hl.1 (by simp)
  have one : ∀ {K : Pm} {x : Value} {l : List Value}, LR K [x] l → ∃ x', l = [x'] ∧ VR K x x' := by
    intro K x l hl
    match l, hl with
    | [x'], hl => exact ⟨x', rfl, hl.of_cons.1⟩
    | [], hl => exact absurd hl.1 (by simp)
    | _ :: _ :: _, hl => exact absurd hl.1 (by simp)
  unfold aBuiltin at e
  split at e
  · split at e
    · obtain ⟨pf, hs⟩ := aLen_ok (ok := ok) (P := P) e
      exact ⟨pf, fun K args0 hl => by obtain ⟨x', rfl, hx⟩ := one hl; exact (hs K ty x' hx).x⟩
    · cases e
  · split at e
    · obtain ⟨pf, hs⟩ := aCap_ok (ok := ok) (P := P) e
      exact ⟨pf, fun K args0 hl => by obtain ⟨x', rfl, hx⟩ := one hl; exact (hs K ty x' hx).x⟩
    · cases e
  · split at e
    · obtain ⟨pf, hs⟩ := aAppend_ok (ok := ok) (P := P) e
      exact ⟨pf, fun K args0 hl => by obtain ⟨x', y', rfl, hx, hy⟩ := two hl; exact (hs K ty x' y' hx hy).x⟩
    · cases e
  · split at e
    · rename_i t u d s
      obtain ⟨pf, hs⟩ := aCopy_ok (ok := ok) (P := P) (st := u) e
      exact ⟨pf, fun K args0 hl => by obtain ⟨x', y', rfl, hx, hy⟩ := two hl; exact (hs K ty x' y' hx hy).x⟩
    · cases e
  · split at e
    · obtain ⟨pf, hs⟩ := aClear_ok (ok := ok) (P := P) e
      exact ⟨pf, fun K args0 hl => by obtain ⟨x', rfl, hx⟩ := one hl; exact (hs K ty x' hx).x⟩
    · cases e
  · split at e
    · rename_i t u m k
      obtain ⟨pf, hs⟩ := aDelete_ok (ok := ok) (P := P) e u
      exact ⟨pf, fun K args0 hl => by obtain ⟨x', y', rfl, hx, hy⟩ := two hl; exact (hs K ty x' y' hx hy).x⟩
    · cases e
  · split at e
    · rename_i hsc
      cases hp : aPure2 P (Builtin.min_ ⟨ats⟩ ty ⟨args⟩) with
      | none => simp only [hp] at e; cases e
      | some q =>
        simp only [hp, Option.some.injEq, Prod.mk.injEq] at e
        obtain ⟨rfl, rfl⟩ := e
        exact ⟨PF.refl _, fun K args0 hl => by rw [allScal_eq hsc hl]; exact (PSims.sims (aPure2_ok hp K)).x⟩
    · cases e
  · split at e
    · rename_i hsc
      cases hp : aPure2 P (Builtin.max_ ⟨ats⟩ ty ⟨args⟩) with
      | none => simp only [hp] at e; cases e
      | some q =>
        simp only [hp, Option.some.injEq, Prod.mk.injEq] at e
        obtain ⟨rfl, rfl⟩ := e
        exact ⟨PF.refl _, fun K args0 hl => by rw [allScal_eq hsc hl]; exact (PSims.sims (aPure2_ok hp K)).x⟩
    · cases e
  · cases e

set_option maxHeartbeats 4000000 in
theorem aOp_ok {tm : Tr Value} {o : Oper} {h h' : Hp} {v : Value} (e : aOp P tm o h = some (v, h')) :
    PF h h' ∧ (∀ c, o.op ≠ .defer c) ∧ ∀ K (ρ : Operand → Value), (∀ x ∈ o.op.operands.toList, VR K (evO tm x) (ρ x)) → XSims ok P K h (execOp ρ o) v h' := by
  obtain ⟨dst, op, ty, pos, after, guard⟩ := o
  have val : ∀ {r : Option Value}, (match r with | some v => some (v, h) | none => none) = some (v, h') → r = some v ∧ h' = h := by
    intro r hr
    cases r with
    | none => cases hr
    | some x => simp at hr; exact ⟨by rw [hr.1], hr.2.symm⟩
  unfold aOp at e
  unfold execOp
  cases op with
  | move x =>
    simp only at e ⊢
    simp at e; obtain ⟨rfl, rfl⟩ := e
    exact ⟨PF.refl _, by simp, fun K ρ ho => XSims.val (ho x (by simp [Op.operands]))⟩
  | assign x =>
    simp only at e ⊢
    simp at e; obtain ⟨rfl, rfl⟩ := e
    exact ⟨PF.refl _, by simp, fun K ρ ho => XSims.val (ho x (by simp [Op.operands]))⟩
  | pick c a b =>
    simp only at e ⊢
    split at e
    · rename_i hc
      simp at e; obtain ⟨rfl, rfl⟩ := e
      refine ⟨PF.refl _, by simp, fun K ρ ho => ?_⟩
      have h1 := ho c (by simp [Op.operands]); rw [hc] at h1
      have h2 : ρ c = .bool true := by generalize ρ c = vc at h1; cases h1; rfl
      have := XSims.val (ok := ok) (P := P) (h := h) (ho a (by simp [Op.operands]))
      simpa [asBool, h2] using this
    · rename_i hc
      simp at e; obtain ⟨rfl, rfl⟩ := e
      refine ⟨PF.refl _, by simp, fun K ρ ho => ?_⟩
      have h1 := ho c (by simp [Op.operands]); rw [hc] at h1
      have h2 : ρ c = .bool false := by generalize ρ c = vc at h1; cases h1; rfl
      have := XSims.val (ok := ok) (P := P) (h := h) (ho b (by simp [Op.operands]))
      simpa [asBool, h2] using this
    · cases e
  | alloc elem =>
    simp only at e ⊢
    obtain ⟨pf, hs⟩ := aAlloc_ok (ok := ok) (P := P) e
    exact ⟨pf, by simp, fun K ρ ho => (hs K).x⟩
  | box elem x =>
    simp only at e ⊢
    obtain ⟨pf, hs⟩ := aBox_ok (ok := ok) (P := P) e
    exact ⟨pf, by simp, fun K ρ ho => (hs K _ (ho x (by simp [Op.operands]))).x⟩
  | build t parts =>
    simp only at e ⊢
    obtain ⟨e1, rfl⟩ := val e
    refine ⟨PF.refl _, by simp, fun K ρ ho => ?_⟩
    have hp := evP_pr (K := K) (tm := tm) (ρ := ρ) parts.toList fun x hx => ho x.2 (by simp [Op.operands]; exact ⟨x.1, by simpa using hx⟩)
    exact (PSims.sims (aBuild_ok e1 K (parts.map fun (i, x) => (i, ρ x)) (by simpa using hp))).x
  | buildSlice t len parts =>
    simp only at e ⊢
    obtain ⟨pf, hs⟩ := aBuildSlice_ok (ok := ok) (P := P) e
    refine ⟨pf, by simp, fun K ρ ho => ?_⟩
    have hp := evP_pr (K := K) (tm := tm) (ρ := ρ) parts.toList fun x hx => ho x.2 (by simp [Op.operands]; exact ⟨x.1, by simpa using hx⟩)
    exact (hs K (parts.map fun (i, x) => (i, ρ x)) (by simpa using hp)).x
  | load t a =>
    simp only at e ⊢
    obtain ⟨pf, hs⟩ := aLoad_ok (ok := ok) (P := P) e
    exact ⟨pf, by simp, fun K ρ ho => (hs K _ (ho a (by simp [Op.operands]))).x⟩
  | store t a x =>
    simp only at e ⊢
    obtain ⟨rfl, pf, hs⟩ := aStore_ok (ok := ok) (P := P) e
    exact ⟨pf, by simp, fun K ρ ho => (hs K _ _ (ho a (by simp [Op.operands])) (ho x (by simp [Op.operands]))).x⟩
  | nilCheck x =>
    simp only at e ⊢
    split at e
    · rename_i a hx
      simp at e; obtain ⟨rfl, rfl⟩ := e
      refine ⟨PF.refl _, by simp, fun K ρ ho => ?_⟩
      have h1 := ho x (by simp [Op.operands]); rw [hx] at h1
      obtain ⟨b', hb, hn⟩ := h1.ptr_form
      cases b' with
      | none => simp at hn
      | some b' => simp only [hb]; exact XSims.val (hb ▸ h1)
    · rename_i f a b hx
      simp at e; obtain ⟨rfl, rfl⟩ := e
      refine ⟨PF.refl _, by simp, fun K ρ ho => ?_⟩
      have h1 := ho x (by simp [Op.operands]); rw [hx] at h1
      obtain ⟨f', c', hb, _⟩ := (VR.func_iff (by simp)).1 h1
      simp only [hb]; exact XSims.val (hb ▸ h1)
    · cases e
  | binOp op t x y yt =>
    simp only at e ⊢
    obtain ⟨pf, hs⟩ := aBin_ok (ok := ok) (P := P) e
    exact ⟨pf, by simp, fun K ρ ho => (hs K x y _ _ (ho x (by simp [Op.operands])) (ho y (by simp [Op.operands]))).x⟩
  | unOp op t x =>
    simp only at e ⊢
    obtain ⟨e1, rfl⟩ := val e
    exact ⟨PF.refl _, by simp, fun K ρ ho => (PSims.sims (aUn_ok e1 K _ (ho x (by simp [Op.operands])))).x⟩
  | convert s d x =>
    simp only at e ⊢
    obtain ⟨pf, hs⟩ := aConvH_ok (ok := ok) (P := P) e
    exact ⟨pf, by simp, fun K ρ ho => (hs K _ (ho x (by simp [Op.operands]))).x⟩
  | makeFunc fn first captured =>
    cases fn with
    | func f =>
      simp only at e ⊢
      simp at e; obtain ⟨rfl, rfl⟩ := e
      refine ⟨PF.refl _, by simp, fun K ρ ho => ?_⟩
      have h1 := evL_lr (K := K) (tm := tm) (ρ := ρ) first.toList fun x hx => ho x (by simp [Op.operands]; exact .inl (by simpa using hx))
      have h2 := evL_lr (K := K) (tm := tm) (ρ := ρ) captured.toList fun x hx => ho x (by simp [Op.operands]; exact .inr (by simpa using hx))
      refine (PSims.sims (v := .func (.func f) ⟨evL tm first.toList⟩ ⟨evL tm captured.toList⟩) fun w => ⟨.func (.func f) (first.map ρ) (captured.map ρ), rfl, ?_⟩ : Sims ok P K h (Instr.makeFunc (.func f) (first.map ρ) (captured.map ρ)) _ h).x
      exact (VR.func_iff (by simp)).2 ⟨_, _, rfl, by simpa using h1, by simpa using h2⟩
    | _ => simp at e
  | makeMap t r =>
    simp only at e ⊢
    obtain ⟨pf, hs⟩ := aMakeMap_ok (ok := ok) (P := P) e
    exact ⟨pf, by simp, fun K ρ ho => (hs K _ (evM_ovr r fun x hx => ho x (by simp [Op.operands, hx]))).x⟩
  | makeSlice t l c =>
    simp only at e ⊢
    obtain ⟨pf, hs⟩ := aMakeSlice_ok (ok := ok) (P := P) e
    exact ⟨pf, by simp, fun K ρ ho => (hs K _ _ (ho l (by simp [Op.operands])) (ho c (by simp [Op.operands]))).x⟩
  | slice t x lo hi mx =>
    simp only at e ⊢
    obtain ⟨e1, rfl⟩ := val e
    exact ⟨PF.refl _, by simp, fun K ρ ho => (PSims.sims (aSlice_ok e1 K _ _ _ _ (ho x (by simp [Op.operands])) (evM_ovr lo fun y hy => ho y (by simp [Op.operands, hy]))
      (evM_ovr hi fun y hy => ho y (by simp [Op.operands, hy])) (evM_ovr mx fun y hy => ho y (by simp [Op.operands, hy])))).x⟩
  | fieldAddr s x f =>
    simp only at e ⊢
    obtain ⟨e1, rfl⟩ := val e
    exact ⟨PF.refl _, by simp, fun K ρ ho => (PSims.sims (aFieldAddr_ok e1 K _ (ho x (by simp [Op.operands])))).x⟩
  | field t x f =>
    simp only at e ⊢
    obtain ⟨e1, rfl⟩ := val e
    exact ⟨PF.refl _, by simp, fun K ρ ho => (PSims.sims (aField_ok e1 K _ (ho x (by simp [Op.operands])))).x⟩
  | indexAddr t x i =>
    simp only at e ⊢
    obtain ⟨e1, rfl⟩ := val e
    exact ⟨PF.refl _, by simp, fun K ρ ho => (PSims.sims (aIndexAddr_ok e1 K _ _ (ho x (by simp [Op.operands])) (ho i (by simp [Op.operands])))).x⟩
  | index t x i =>
    simp only at e ⊢
    obtain ⟨e1, rfl⟩ := val e
    exact ⟨PF.refl _, by simp, fun K ρ ho => (PSims.sims (aIndex_ok e1 K _ _ (ho x (by simp [Op.operands])) (ho i (by simp [Op.operands])))).x⟩
  | lookup t x i c =>
    simp only at e ⊢
    obtain ⟨pf, hs⟩ := aLookup_ok (ok := ok) (P := P) e
    exact ⟨pf, by simp, fun K ρ ho => (hs K _ _ (ho x (by simp [Op.operands])) (ho i (by simp [Op.operands]))).x⟩
  | mapUpdate t m k x =>
    simp only at e ⊢
    obtain ⟨rfl, pf, hs⟩ := aMapUpdate_ok (ok := ok) (P := P) e
    exact ⟨pf, by simp, fun K ρ ho => (hs K _ _ _ (ho m (by simp [Op.operands])) (ho k (by simp [Op.operands])) (ho x (by simp [Op.operands]))).x⟩
  | insert t m k x =>
    simp only at e ⊢
    obtain ⟨rfl, pf, hs⟩ := aMapUpdate_ok (ok := ok) (P := P) e
    exact ⟨pf, by simp, fun K ρ ho => (hs K _ _ _ (ho m (by simp [Op.operands])) (ho k (by simp [Op.operands])) (ho x (by simp [Op.operands]))).x⟩
  | mapEntry t m k =>
    simp only at e ⊢
    obtain ⟨pf, hs⟩ := aMapEntry_ok (ok := ok) (P := P) e
    exact ⟨pf, by simp, fun K ρ ho => (hs K _ _ (ho m (by simp [Op.operands])) (ho k (by simp [Op.operands]))).x⟩
  | entryStore t m s x =>
    simp only at e ⊢
    obtain ⟨rfl, pf, hs⟩ := aEntryStore_ok (ok := ok) (P := P) (t := t) e
    exact ⟨pf, by simp, fun K ρ ho => (hs K _ _ _ (ho m (by simp [Op.operands])) (ho s (by simp [Op.operands])) (ho x (by simp [Op.operands]))).x⟩
  | extract t i =>
    simp only at e ⊢
    obtain ⟨e1, rfl⟩ := val e
    exact ⟨PF.refl _, by simp, fun K ρ ho => (PSims.sims (aExtract_ok e1 K _ (ho t (by simp [Op.operands])))).x⟩
  | call c =>
    obtain ⟨callee, ⟨args⟩, ⟨ats⟩⟩ := c
    cases callee with
    | builtin b =>
      simp only at e ⊢
      obtain ⟨pf, hs⟩ := aBuiltin_ok (ok := ok) (P := P) (consts := (Array.mk args).map fun | .const _ => true | _ => false) e
      refine ⟨pf, by simp, fun K ρ ho => ?_⟩
      have h1 := evL_lr (K := K) (tm := tm) (ρ := ρ) args fun x hx => ho x (by simp [Op.operands, Call.operands]; exact hx)
      have h2 := hs K _ h1
      intro G hG w hp ha
      obtain ⟨K', v', w', nx, q1, q2, q3, q4⟩ := h2 G hG w hp ha
      refine ⟨K', v', w', nx, ?_, q2, q3, q4⟩
      rw [← q1]
      simp [resolve, invoke]; rfl
    | _ => simp at e
  | _ => simp at e
end

section
/- A checked evaluator of closed calls, part Q: the evaluator. -/
/-! ### what is asked of code beforehand -/
noncomputable def opndOk : Operand → Bool
  | .const v => gnd 9 v
  | .global g => Nat.blt g 64
  | _ => true
noncomputable def operL (o : Op) : List Operand := o.operands.toList
noncomputable def opsOk : List Oper → Bool
  | [] => true
  | o :: os => match (operL o.op).all opndOk with | true => opsOk os | false => false
/-- All operations that must come before one (as bits). -/
noncomputable def ancOf (acc : List Nat) : List Edge → Nat
  | [] => 0
  | e :: es => match Region.binds .any e with
    | true => (1 <<< e.on) ||| (acc.getD e.on 0) ||| ancOf acc es
    | false => ancOf acc es
noncomputable def ancs : List Oper → List Nat → List Nat
  | [], acc => acc
  | o :: os, acc => ancs os (acc ++ [ancOf acc o.after.toList])
noncomputable def ancAll (ops : List Oper) : List Nat := ancs ops []
noncomputable def lexOk : List Oper → Nat → Bool
  | [], _ => true
  | o :: os, i => match o.after.toList.all (fun e => !Region.binds .any e || Nat.blt e.on i) with
    | true => lexOk os (i + 1)
    | false => false
noncomputable def tmpIn (t : Nat) : List Operand → Bool
  | [] => false
  | .tmp u :: xs => match Nat.beq u t with | true => true | false => tmpIn t xs
  | _ :: xs => tmpIn t xs
/-- Whether an operation names a temporary: writes it, reads it, or hangs on it. -/
noncomputable def names (ops : List Oper) (o : Oper) (t : Nat) : Bool :=
  (match o.dst with | some d => Nat.beq d t | none => false) || tmpIn t (operL o.op) ||
  (match o.guard with | some (j, _) => (match ops[j]? with | some g => (match g.dst with | some d => Nat.beq d t | none => false) | none => false) | none => false)
noncomputable def writesTo (o : Oper) (ops : List Oper) (p : Oper) : Bool := match o.dst with | some d => names ops p d | none => false
/-- Operation number j against those before it. -/
noncomputable def pairOk (ops : List Oper) (j : Nat) (oj : Oper) (a : Nat) : List Oper → Nat → Bool
  | [], _ => true
  | oi :: os, i => match Nat.blt i j with
    | true => match (writesTo oi ops oj || writesTo oj ops oi) && !a.testBit i with
      | true => false
      | false => pairOk ops j oj a os (i + 1)
    | false => true
noncomputable def tmpsOk (ops : List Oper) : List Oper → List Nat → Nat → Bool
  | [], _, _ => true
  | o :: os, as, j => match as with
    | a :: as => match pairOk ops j o a ops 0 with
      | true => tmpsOk ops os as (j + 1)
      | false => false
    | [] => false
noncomputable def codeOk : Code → Bool
  | .region _ ops draw => opsOk ops.toList && (match draw with | true => lexOk ops.toList 0 && tmpsOk ops.toList ops.toList (ancAll ops.toList) 0 | false => true)
  | .seq a b => codeOk a && codeOk b
  | .cond c a b => opndOk c && codeOk a && codeOk b
  | .block _ b => codeOk b
  | .loop b => codeOk b
  | .rangeFunc f _ a b => opndOk f && codeOk a && codeOk b
  | .scope b => codeOk b
  | _ => true
abbrev COk : Code → Prop := fun c => codeOk c = true

/-! ### the evaluator -/
structure Fr where
  tm : Tr Value
  nt : Nat
  df : List Nat
inductive Ex where
  | normal
  | exit (id : Nat)
  | goto (l : Nat)
  | ret
noncomputable def Ex.out : Ex → Exit
  | .normal => .normal
  | .exit id => .exit id
  | .goto l => .goto l
  | .ret => .ret
noncomputable def putT {β : Type} (fr : Fr) (d : Option Tmp) (v : Value) (k : Fr → Option β) : Option β :=
  match d with
  | none => k fr
  | some t => match fr with
    | ⟨tm, nt, df⟩ => match Nat.blt t nt with
      | true => tm.put t (some v) fun tm => k ⟨tm, nt, df⟩
      | false => none
noncomputable def setPs {β : Type} (nt : Nat) : List Tmp → List Value → Tr Value → (Tr Value → Option β) → Option β
  | [], [], tm, k => k tm
  | t :: ts, v :: vs, tm, k => match Nat.blt t nt with
    | true => tm.put t (some v) fun tm => setPs nt ts vs tm k
    | false => none
  | _, _, _, _ => none
noncomputable def wantedA (ops : Array Oper) (tm : Tr Value) (o : Oper) : Bool :=
  match o.guard with
  | none => true
  | some (j, want) => match ops.toList[j]? with
    | some g => match g.dst with
      | some t => match tmOf tm t with
        | .bool b => b == want
        | _ => false
      | none => false
    | none => false
noncomputable def leave : List Nat → Hp → Option Hp
  | [], h => some h
  | id :: ids, h => match h.heap.get id with
    | some .deferred => match Nat.ble (id + 1) h.next with
      | true => writeK h id .taken fun h => leave ids h
      | false => none
    | _ => none
noncomputable def resV (P : Program) (tm : Tr Value) : List ResultVar → Hp → Option (List Value × Hp)
  | [], h => some ([], h)
  | .tmp t :: rs, h => match resV P tm rs h with
    | some (vs, h) => some (tmOf tm t :: vs, h)
    | none => none
  | .cell a t :: rs, h => match aLoad P t (tmOf tm a) h with
    | some (v, h) => match resV P tm rs h with
      | some (vs, h) => some (v :: vs, h)
      | none => none
    | none => none
/-- No operation that was carried out touches what this one writes, or the other way round, unless it must come before. -/
noncomputable def apartK (ops : List Oper) (j t w : Nat) : List (Nat × Nat × Nat) → Bool
  | [] => true
  | (i, ti, wi) :: acc => match Nat.beq ((wi &&& t) ||| (ti &&& w)) 0 with
    | true => apartK ops j t w acc
    | false => match ((ancAll ops).getD j 0).testBit i with
      | true => apartK ops j t w acc
      | false => false
/-! ### regions tried in every order -/
noncomputable def eqLW (f : Value → Value → Bool) : List Value → List Value → Bool
  | [], [] => true
  | x :: xs, y :: ys => match f x y with | true => eqLW f xs ys | false => false
  | _, _ => false
noncomputable def eqV : Nat → Value → Value → Bool
  | 0, _, _ => false
  | n + 1, v, v' => match v with
    | .bool a => match v' with | .bool b => a == b | _ => false
    | .int k a => match v' with | .int k' b => decide (k = k') && decide (a = b) | _ => false
    | .pointer a => match v' with | .pointer b => decide (a = b) | _ => false
    | .slice a l c => match v' with | .slice b l' c' => decide (a = b) && Nat.beq l l' && Nat.beq c c' | _ => false
    | .map a => match v' with | .map b => decide (a = b) | _ => false
    | .agg xs => match v' with | .agg ys => eqLW (eqV n) xs.toList ys.toList | _ => false
    | .tuple xs => match v' with | .tuple ys => eqLW (eqV n) xs.toList ys.toList | _ => false
    | _ => false
noncomputable def eqMs : List MapEntry → List MapEntry → Bool
  | [], [] => true
  | e :: es, e' :: es' => match eqV 5 e.key e'.key && eqV 5 e.val e'.val && Nat.beq e.born e'.born with | true => eqMs es es' | false => false
  | _, _ => false
noncomputable def eqOb (a b : Option AObj) : Bool :=
  match a with
  | some (.map es c) => match b with
    | some (.map es' c') => eqMs es es' && Nat.beq c c'
    | _ => false
  | _ => false
noncomputable def eqDs (tm tm' : Tr Value) : List Oper → Bool
  | [] => true
  | o :: os => match (match o.dst with | some t => eqV 9 (tmOf tm t) (tmOf tm' t) | none => true) with
    | true => eqDs tm tm' os
    | false => false
/-- Whether two ways through a region leave the same: one map is written. -/
noncomputable def sameFH (ops : List Oper) (a b : Fr × Hp) : Bool :=
  Nat.beq a.2.next b.2.next && Nat.beq a.2.tch b.2.tch && Nat.beq a.2.wr b.2.wr && Nat.beq a.2.wr (1 <<< Nat.log2 a.2.wr) && eqOb (a.2.heap.get (Nat.log2 a.2.wr)) (b.2.heap.get (Nat.log2 a.2.wr)) && eqDs a.1.tm b.1.tm ops
noncomputable def befOk (L : Nat) : List Edge → Bool
  | [] => true
  | e :: es => match Region.binds .any e && !L.testBit e.on with | true => false | false => befOk L es
noncomputable def rdyOk (L i : Nat) (o : Oper) : Bool := !L.testBit i && befOk L o.after.toList
noncomputable def allK (ops : List Oper) (L : Nat) (f : Nat → Oper → Option (Fr × Hp)) : List Oper → Nat → Option (Fr × Hp) → Option (Option (Fr × Hp))
  | [], _, acc => some acc
  | o :: os, i, acc => match rdyOk L i o with
    | false => allK ops L f os (i + 1) acc
    | true => match f i o with
      | none => none
      | some r => match acc with
        | none => allK ops L f os (i + 1) (some r)
        | some r0 => match sameFH ops r0 r with
          | true => allK ops L f os (i + 1) (some r0)
          | false => none
noncomputable def allEnd (fr : Fr) (h : Hp) (r : Option (Option (Fr × Hp))) : Option (Fr × Hp) :=
  match r with
  | some (some r) => some r
  | some none => some (fr, h)
  | none => none
/-- Answers of calls that were worked out elsewhere. -/
abbrev Orc := FuncId → List Value → Hp → Option (Value × Hp)
noncomputable def noOrc : Orc := fun _ _ _ => none
mutual
noncomputable def evOp (P : Program) (O : Orc) : Nat → Tr Value → Oper → Hp → Option (Value × Hp)
  | 0, _, _, _ => none
  | n + 1, tm, o, h => match o.op with
    | .call { callee := .value f, args, .. } => evVal P O n (evO tm f) (evL tm args.toList) h
    | _ => aOp P tm o h
  termination_by structural n => n
noncomputable def evVal (P : Program) (O : Orc) : Nat → Value → List Value → Hp → Option (Value × Hp)
  | 0, _, _, _ => none
  | n + 1, fv, args, h => match fv with
    | .func (.func f) first captured => evCall P O n f (first.toList ++ args ++ captured.toList) h
    | .func (.yield l) _ _ => evRound P O n l args h
    | _ => none
  termination_by structural n => n
noncomputable def evFn (P : Program) (O : Orc) : Nat → Value → Value → Hp → Option (Value × Hp)
  | 0, _, _, _ => none
  | n + 1, fv, arg, h => match fv with
    | .func (.func f) first captured => evCall P O n f (first.toList ++ [arg] ++ captured.toList) h
    | _ => none
  termination_by structural n => n
noncomputable def evCall (P : Program) (O : Orc) : Nat → FuncId → List Value → Hp → Option (Value × Hp)
  | 0, _, _, _ => none
  | n + 1, f, args, h => match O f args h with
    | some r => some r
    | none => match P.funcs.toList[f]? with
      | some fn => match fn.body with
        | some code => match codeOk code && !(fn.name == "runtime.NumGoroutine") && Nat.ble args.length fn.ntmps with
          | true => fillK args .leaf 0 fun tm => match evC P O n none code ⟨tm, fn.ntmps, []⟩ h with
            | some (ex, fr, h) => match (match ex with | .normal => true | .ret => true | _ => false) with
              | true => match leave fr.df h with
                | some h => match resV P fr.tm fn.results.toList h with
                  | some (vs, h) => match vs with
                    | [v] => some (v, h)
                    | vs => some (.tuple ⟨vs⟩, h)
                  | none => none
                | none => none
              | false => none
            | none => none
          | false => none
        | none => none
      | none => none
  termination_by structural n => n
noncomputable def evRound (P : Program) (O : Orc) : Nat → Nat → List Value → Hp → Option (Value × Hp)
  | 0, _, _, _ => none
  | n + 1, l, args, h => match h.heap.get l with
    | some (.loop .ready _ _ tm nt ps assign body _) => match Nat.ble (l + 1) h.next with
      | true => setPs nt ps.toList args tm fun tm => touchK h l fun h => match evC P O n (some l) assign ⟨tm, nt, []⟩ h with
        | some (.normal, fr, h) => match h.heap.get l with
          | some (.loop .ready pe2 fn2 tm2 nt2 ps2 as2 bd2 df2) => writeK h l (.loop .busy pe2 fn2 tm2 nt2 ps2 as2 bd2 df2) fun h => match evC P O n (some l) body fr h with
            | some (ex, _, h) => match h.heap.get l with
              | some (.loop _ _ fn3 tm3 nt3 ps3 as3 bd3 df3) => match ex with
                | .normal => writeK h l (.loop .ready none fn3 tm3 nt3 ps3 as3 bd3 df3) fun h => some (.bool true, h)
                | .ret => writeK h l (.loop .done (some .ret) fn3 tm3 nt3 ps3 as3 bd3 df3) fun h => some (.bool false, h)
                | .exit id => writeK h l (.loop .done (some (.exit id)) fn3 tm3 nt3 ps3 as3 bd3 df3) fun h => some (.bool false, h)
                | .goto t => writeK h l (.loop .done (some (.goto t)) fn3 tm3 nt3 ps3 as3 bd3 df3) fun h => some (.bool false, h)
              | _ => none
            | none => none
          | _ => none
        | _ => none
      | false => none
    | _ => none
  termination_by structural n => n
noncomputable def evSeq (P : Program) (O : Orc) : Nat → Array Oper → List Oper → Fr → Hp → Option (Fr × Hp)
  | 0, _, _, _, _ => none
  | n + 1, ops, rest, fr, h => match rest with
    | [] => some (fr, h)
    | o :: rest => match wantedA ops fr.tm o with
      | true => match evOp P O n fr.tm o h with
        | some (v, h) => putT fr o.dst v fun fr => evSeq P O n ops rest fr h
        | none => none
      | false => putT fr o.dst (.tuple #[]) fun fr => evSeq P O n ops rest fr h
  termination_by structural n => n
noncomputable def evDraw (P : Program) (O : Orc) : Nat → Array Oper → List Oper → Nat → Fr → Hp → List (Nat × Nat × Nat) → Nat → Nat → Option (Fr × Hp × Nat × Nat)
  | 0, _, _, _, _, _, _, _, _ => none
  | n + 1, ops, rest, j, fr, h, acc, aT, aW => match rest with
    | [] => some (fr, h, aT, aW)
    | o :: rest => match wantedA ops fr.tm o with
      | true => match h with
        | ⟨hp, nx, _, _⟩ => match evOp P O n fr.tm o ⟨hp, nx, 0, 0⟩ with
          | some (v, ⟨hp, nx, t, w⟩) => match Nat.beq ((aW &&& t) ||| (aT &&& w)) 0 || apartK ops.toList j t w acc with
            | true => forceN (aT ||| t) fun aT => forceN (aW ||| w) fun aW => forceN (j + 1) fun j' => putT fr o.dst v fun fr => evDraw P O n ops rest j' fr ⟨hp, nx, 0, 0⟩ ((j, t, w) :: acc) aT aW
            | false => none
          | none => none
      | false => forceN (j + 1) fun j' => putT fr o.dst (.tuple #[]) fun fr => evDraw P O n ops rest j' fr h acc aT aW
  termination_by structural n => n
noncomputable def evAll (P : Program) (O : Orc) : Nat → Array Oper → Nat → Fr → Hp → Option (Fr × Hp)
  | 0, _, _, _, _ => none
  | n + 1, ops, L, fr, h => allEnd fr h (allK ops.toList L (fun i o => match wantedA ops fr.tm o with
    | true => match evOp P O n fr.tm o h with
      | some (v, h) => putT fr o.dst v fun fr => evAll P O n ops (L ||| (1 <<< i)) fr h
      | none => none
    | false => putT fr o.dst (.tuple #[]) fun fr => evAll P O n ops (L ||| (1 <<< i)) fr h) ops.toList 0 none)
  termination_by structural n => n
noncomputable def evC (P : Program) (O : Orc) : Nat → Option Nat → Code → Fr → Hp → Option (Ex × Fr × Hp)
  | 0, _, _, _, _ => none
  | n + 1, rd, c, fr, h => match c with
    | .skip => some (.normal, fr, h)
    | .label _ => some (.normal, fr, h)
    | .region _ ops draw => match draw with
      | false => match evSeq P O n ops ops.toList fr h with
        | some (fr, h) => some (.normal, fr, h)
        | none => none
      | true => match h with
        | ⟨hp, nx, t0, w0⟩ => match evDraw P O n ops ops.toList 0 fr ⟨hp, nx, 0, 0⟩ [] 0 0 with
          | some (fr, ⟨hp, nx, _, _⟩, t, w) => forceN (t0 ||| t) fun t => forceN (w0 ||| w) fun w => some (.normal, fr, ⟨hp, nx, t, w⟩)
          | none => match evAll P O n ops 0 fr ⟨hp, nx, 0, 0⟩ with
            | some (fr, ⟨hp, nx, t, w⟩) => some (.normal, fr, ⟨hp, nx, t0 ||| t, w0 ||| w⟩)
            | none => none
    | .seq a b => match evC P O n rd a fr h with
      | some (.normal, fr, h) => evC P O n rd b fr h
      | r => r
    | .cond c a b => match evO fr.tm c with
      | .bool true => evC P O n rd a fr h
      | .bool false => evC P O n rd b fr h
      | _ => none
    | .block id b => match evC P O n rd b fr h with
      | some (.exit id', fr, h) => match Nat.beq id' id with
        | true => some (.normal, fr, h)
        | false => some (.exit id', fr, h)
      | r => r
    | .loop b => match evC P O n rd b fr h with
      | some (.normal, fr, h) => evC P O n rd (.loop b) fr h
      | r => r
    | .rangeFunc f ps assign body => match fr with
      | ⟨tm, nt, df⟩ =>
        match rd with
        | none => newK h .deferred fun d h => newK h (.loop .ready none 0 tm nt ps assign body 0) fun l h => match evFn P O n (evO tm f) (.func (.yield l) #[] #[]) h with
          | some (_, h) => match h.heap.get l with
            | some (.loop st pend fn tm3 nt3 ps3 as3 bd3 df3) => match (match st with | .busy => false | _ => true) with
              | true => match Nat.ble (l + 1) h.next with
                | true => writeK h l (.loop .exhausted pend fn tm3 nt3 ps3 as3 bd3 df3) fun h => match pend with
                  | none => some (.normal, ⟨tm, nt, d :: df⟩, h)
                  | some c => evC P O n none c ⟨tm, nt, d :: df⟩ h
                | false => none
              | false => none
            | _ => none
          | none => none
        | some r => match h.heap.get r with
          | some (.loop ..) => touchK h r fun h => newK h (.loop .ready none 0 tm nt ps assign body 0) fun l h => match evFn P O n (evO tm f) (.func (.yield l) #[] #[]) h with
            | some (_, h) => match h.heap.get l with
              | some (.loop st pend fn tm3 nt3 ps3 as3 bd3 df3) => match (match st with | .busy => false | _ => true) with
                | true => match Nat.ble (l + 1) h.next with
                  | true => writeK h l (.loop .exhausted pend fn tm3 nt3 ps3 as3 bd3 df3) fun h => match pend with
                    | none => some (.normal, ⟨tm, nt, df⟩, h)
                    | some c => evC P O n (some r) c ⟨tm, nt, df⟩ h
                  | false => none
                | false => none
              | _ => none
            | none => none
          | _ => none
    | .exit id => some (.exit id, fr, h)
    | .goto l => some (.goto l, fr, h)
    | .ret => some (.ret, fr, h)
    | _ => none
  termination_by structural n => n
end
end

section
/- A checked evaluator of closed calls, part R: frames; what the evaluator's parts mean. -/
variable {P : Program} {O : Orc}

/-! ### frames -/
noncomputable def DF (K : Pm) : List Nat → List Deferred → Prop
  | [], ds => ds = []
  | d :: l, ds => ∃ p ds', K d = .live p ∧ p.esz = 0 ∧ ds = { target := .collected p.blk, args := #[] } :: ds' ∧ DF K l ds'
theorem DF.mono {K K' : Pm} (hm : Mono K K') : ∀ {l : List Nat} {ds : List Deferred}, DF K l ds → DF K' l ds
  | [], _, h => h
  | _ :: _, _, ⟨p, ds', h1, h2, h3, h4⟩ => ⟨p, ds', hm.live h1 h2, h2, h3, DF.mono hm h4⟩
structure TRel (K : Pm) (fr : Fr) (a : Act) : Prop where
  size : a.tmps.size = fr.nt
  val : ∀ t, VR K (tmOf fr.tm t) (a.tmps.getD t undef)
  df : DF K fr.df a.defers
theorem TRel.mono {K K' : Pm} (hm : Mono K K') {fr : Fr} {a : Act} (h : TRel K fr a) : TRel K' fr a := ⟨h.size, fun t => (h.val t).mono hm, h.df.mono hm⟩
theorem tmOf_put {tm tm' : Tr Value} {t : Nat} {v : Value} (h : ∀ m, tm'.get m = if m = t then some v else tm.get m) (u : Nat) : tmOf tm' u = if u = t then v else tmOf tm u := by
  unfold tmOf
  rw [h]
  by_cases e : u = t
  · rw [if_pos e, if_pos e]
  · rw [if_neg e, if_neg e]
theorem blt_lt {a b : Nat} (h : Nat.blt a b = true) : a < b := by simpa [Nat.blt_eq] using h
theorem putT_some {β : Type} {fr : Fr} {d : Option Tmp} {v : Value} {k : Fr → Option β} {r : β} (e : putT fr d v k = some r) :
    ∃ fr', k fr' = some r ∧ fr'.nt = fr.nt ∧ fr'.df = fr.df ∧ (∀ u, tmOf fr'.tm u = if d = some u then v else tmOf fr.tm u) ∧ ∀ t, d = some t → t < fr.nt := by
  unfold putT at e
  cases d with
  | none => exact ⟨fr, e, rfl, rfl, fun u => by simp, fun t h => by cases h⟩
  | some t =>
    obtain ⟨tm, nt, df⟩ := fr
    simp only at e
    split at e
    · rename_i hlt
      obtain ⟨tm', e, h⟩ := Tr.put_some e
      refine ⟨_, e, rfl, rfl, fun u => ?_, fun t' h' => by cases h'; exact blt_lt hlt⟩
      rw [tmOf_put h]
      by_cases hu : u = t
      · subst hu; simp
      · rw [if_neg hu, if_neg (by simpa using Ne.symm hu)]
    · cases e
theorem getD_set (a : Array Value) (t u : Nat) (v d : Value) (ht : t < a.size) : (a.setIfInBounds t v).getD u d = if t = u then v else a.getD u d := by
  by_cases h : t = u
  · subst h; simp [Array.getD, ht]
  · rw [if_neg h]
    simp only [Array.getD_eq_getD_getElem?]
    rw [Array.getElem?_setIfInBounds_ne h]
theorem TRel.put {K : Pm} {fr fr' : Fr} {a : Act} {d : Option Tmp} {v v' : Value} (h : TRel K fr a) (hv : VR K v v') (h1 : fr'.nt = fr.nt) (h2 : fr'.df = fr.df)
    (h3 : ∀ u, tmOf fr'.tm u = if d = some u then v else tmOf fr.tm u) (h4 : ∀ t, d = some t → t < fr.nt) : TRel K fr' (a.put d v') := by
  cases d with
  | none => exact ⟨h.size.trans h1.symm, fun t => by rw [h3]; simpa [Act.put] using h.val t, h2 ▸ h.df⟩
  | some t =>
    refine ⟨by simp [Act.put, h.size, h1], fun u => ?_, h2 ▸ h.df⟩
    simp only [Act.put]
    rw [h3, getD_set _ _ _ _ _ (by rw [h.size]; exact h4 t rfl)]
    by_cases hu : t = u
    · subst hu; simpa using hv
    · rw [if_neg (by simpa using hu), if_neg hu]; exact h.val u
theorem VR.of_bool {K : Pm} {v : Value} {b : Bool} (h : VR K v (.bool b)) : v = .bool b := by cases h; rfl
/-- Whether an operation is carried out: the same on both sides. -/
theorem wanted_eq {K : Pm} {tm : Tr Value} {ops : Array Oper} {a : Act} {o : Oper}
    (h : ∀ j w g t, o.guard = some (j, w) → ops[j]? = some g → g.dst = some t → VR K (tmOf tm t) (a.tmps.getD t undef)) :
    Region.wanted o (yielded ops a.tmps) = wantedA ops tm o := by
  unfold Region.wanted wantedA
  cases hg : o.guard with
  | none => rfl
  | some jw =>
    obtain ⟨j, w⟩ := jw
    simp only
    have e1 : ops.toList[j]? = ops[j]? := by simp
    rw [e1]
    cases ho : ops[j]? with
    | none => simp [yielded, ho]
    | some g =>
      simp only
      cases hd : g.dst with
      | none => simp [yielded, ho, hd]
      | some t =>
        simp only
        have hv := h j w g t hg ho hd
        have hy : yielded ops a.tmps j = match a.tmps.getD t undef with | .bool b => some b | _ => none := by
          simp only [yielded, ho, hd, Option.bind_some]
          by_cases ht : t < a.tmps.size
          · simp [Array.getD, ht]
            cases a.tmps[t] <;> rfl
          · simp [Array.getD, ht, undef]
        rw [hy]
        generalize a.tmps.getD t undef = v' at hv
        generalize tmOf tm t = v at hv
        cases hv <;> simp
noncomputable def Fok (K : Pm) (rd : Option Nat) (F : Fence) : Prop :=
  match rd with
  | none => F = Fence.wide
  | some l => ∃ p, K l = .live p ∧ p.esz = 0 ∧ F = Fence.wide.inRound p.blk
theorem Fok.mono {K K' : Pm} (hm : Mono K K') {rd : Option Nat} {F : Fence} (h : Fok K rd F) : Fok K' rd F := by
  cases rd with
  | none => exact h
  | some l => obtain ⟨p, h1, h2, h3⟩ := h; exact ⟨p, hm.live h1 h2, h2, h3⟩
/-- The fences that are met. -/
noncomputable def Fw (F : Fence) : Prop := F = Fence.wide ∨ ∃ l, F = Fence.wide.inRound l
theorem Fok.w {K : Pm} {rd : Option Nat} {F : Fence} (h : Fok K rd F) : Fw F := by
  cases rd with
  | none => exact .inl h
  | some l => obtain ⟨p, h1, h2, h3⟩ := h; exact .inr ⟨_, h3⟩
theorem Fw.fn {F : Fence} (h : Fw F) (f : FuncId) : F.fn f := by rcases h with rfl | ⟨l, rfl⟩ <;> trivial
theorem Fw.depth {F : Fence} (h : Fw F) : F.depth = none := by rcases h with rfl | ⟨l, rfl⟩ <;> rfl
theorem Fw.calls {F : Fence} (h : Fw F) {n : Nat} {f : FuncId} {args : Array Value} {w : World} {R : Ending → World → Prop} (hc : CallsIn Fence.wide n P f args w R) : CallsIn F n P f args w R := by
  rcases h with rfl | ⟨l, rfl⟩
  · exact hc
  · exact CallsIn.inRound l hc
theorem Fw.rounds {F : Fence} (h : Fw F) {n l : Nat} {f : FuncId} {tmps : Array Value} {as bd : Code} {w : World} {R : Ending → World → Prop} (hc : RoundIn Fence.wide n P l f tmps as bd w R) : RoundIn F n P l f tmps as bd w R := by
  rcases h with rfl | ⟨l', rfl⟩
  · exact hc
  · exact hc

noncomputable def Wf (h : Hp) : Prop := ∀ b, bit h.wr b → b < h.next
theorem PF.wf {h h' : Hp} (pf : PF h h') (hw : Wf h) : Wf h' := pf.low hw
theorem adm_first {K : Pm} {h h1 h2 : Hp} (pf : PF h1 h2) (ha : Adm K h h2) : Adm K h h1 := fun id h1 h2 => ha id h1 (Nat.lt_of_lt_of_le h2 pf.next)
theorem adm_second {K K1 : Pm} {h h1 h2 : Hp} {w w1 : World} {G : Nat → Prop} (pf : PF h h1) (hw : Wf h) (ha : Adm K h h2) (hp : Post COk K w K1 h1 w1 G) : Adm K1 h1 h2 := fun id a b => by
  rw [hp.off id fun hb => by have := pf.wf hw id hb; omega]
  exact ha id (Nat.le_trans pf.next a) b

/-! ### what the parts of the evaluator mean -/
noncomputable def Done (K : Pm) (w : World) (v : Value) (h' : Hp) (G : Nat → Prop) : Ending → World → Prop := fun e w' => ∃ K' v', e = .returned v' ∧ VR K' v v' ∧ Post COk K w K' h' w' G
noncomputable def OpS (P : Program) (O : Orc) (n : Nat) : Prop := ∀ tm o h v h', evOp P O n tm o h = some (v, h') →
  PF h h' ∧ ∀ K F, Fw F → ∀ (G : Nat → Prop), (∀ b, bit h'.tch b → G b) → ∀ w, Wf h → Pre COk K h w G → Adm K h h' → ∀ a next Q, (∀ x ∈ o.op.operands.toList, VR K (evO tm x) (a.eval x)) →
    (∀ K' v' w', VR K' v v' → Post COk K w K' h' w' G → next (a.put o.dst v') w') → o.wpIn F 0 P a w next Q
noncomputable def CallS (P : Program) (O : Orc) (n : Nat) : Prop := ∀ f args h v h', evCall P O n f args h = some (v, h') →
  PF h h' ∧ (∀ ar w, (callFunc f ar).run P w = .ok (.enter f ar) w) ∧ ∀ K (G : Nat → Prop), (∀ b, bit h'.tch b → G b) → ∀ w args0, LR K args args0 → Wf h → Pre COk K h w G → Adm K h h' →
    CallsIn Fence.wide 0 P f ⟨args0⟩ w (Done K w v h' G)
/-- Answers that are right. -/
noncomputable def OrcS (P : Program) (O : Orc) : Prop := ∀ f args h v h', O f args h = some (v, h') →
  PF h h' ∧ (∀ ar w, (callFunc f ar).run P w = .ok (.enter f ar) w) ∧ ∀ K (G : Nat → Prop), (∀ b, bit h'.tch b → G b) → ∀ w args0, LR K args args0 → Wf h → Pre COk K h w G → Adm K h h' →
    CallsIn Fence.wide 0 P f ⟨args0⟩ w (Done K w v h' G)
theorem noOrc_ok : OrcS P noOrc := fun f args h v h' e => by cases e
noncomputable def RoundS (P : Program) (O : Orc) (n : Nat) : Prop := ∀ l args h v h', evRound P O n l args h = some (v, h') →
  PF h h' ∧ ∀ K (G : Nat → Prop), (∀ b, bit h'.tch b → G b) → ∀ w args0, LR K args args0 → Wf h → Pre COk K h w G → Adm K h h' →
    ∃ p f tmps as bd, K l = .live p ∧ (Instr.yield p.blk ⟨args0⟩).run P w = .ok (.round p.blk f tmps as bd) w ∧ RoundIn Fence.wide 0 P p.blk f tmps as bd w (Done K w v h' G)
noncomputable def ValS (P : Program) (O : Orc) (n : Nat) : Prop := ∀ fv args h v h', evVal P O n fv args h = some (v, h') →
  PF h h' ∧ ∀ K (G : Nat → Prop), (∀ b, bit h'.tch b → G b) → ∀ w fv0 args0, VR K fv fv0 → LR K args args0 → Wf h → Pre COk K h w G → Adm K h h' →
    ∃ d, (Deferred.ofValue fv0 ⟨args0⟩).run P w = .ok d w ∧
      ((∃ f ar, (invoke d.target d.args).run P w = .ok (.enter f ar) w ∧ CallsIn Fence.wide 0 P f ar w (Done K w v h' G)) ∨
       (∃ l f tmps as bd, (invoke d.target d.args).run P w = .ok (.round l f tmps as bd) w ∧ RoundIn Fence.wide 0 P l f tmps as bd w (Done K w v h' G)))
noncomputable def FnS (P : Program) (O : Orc) (n : Nat) : Prop := ∀ fv arg h v h', evFn P O n fv arg h = some (v, h') →
  PF h h' ∧ ∀ K (G : Nat → Prop), (∀ b, bit h'.tch b → G b) → ∀ w fv0 arg0, VR K fv fv0 → VR K arg arg0 → Wf h → Pre COk K h w G → Adm K h h' →
    ∃ d f ar, (∀ w, (Deferred.ofValue fv0 #[arg0]).run P w = .ok d w) ∧ (∀ w, (invoke d.target d.args).run P w = .ok (.enter f ar) w) ∧ CallsIn Fence.wide 0 P f ar w (Done K w v h' G)
noncomputable def SeqS (P : Program) (O : Orc) (n : Nat) : Prop := ∀ (ops : Array Oper) (rest : List Oper) fr h fr' h', evSeq P O n ops rest fr h = some (fr', h') →
  PF h h' ∧ fr'.nt = fr.nt ∧ ∀ (k : Nat), opsOk rest = true → (∀ i : Nat, rest[i]? = ops[k + i]?) → ∀ K F, Fw F → ∀ (G : Nat → Prop), (∀ b, bit h'.tch b → G b) → ∀ w a, Wf h → Pre COk K h w G → Adm K h h' → TRel K fr a →
    ∀ Q, (∀ K' a' w', TRel K' fr' a' → Post COk K w K' h' w' G → Q .normal a' w') → wpOpsIn F 0 P ops Q (List.range' k rest.length) a w
noncomputable def CodeS (P : Program) (O : Orc) (n : Nat) : Prop := ∀ rd c fr h ex fr' h', evC P O n rd c fr h = some (ex, fr', h') →
  PF h h' ∧ fr'.nt = fr.nt ∧ (codeOk c = true → ∀ K F (G : Nat → Prop), Fok K rd F → (∀ b, bit h'.tch b → G b) → ∀ w a, Wf h → Pre COk K h w G → Adm K h h' → TRel K fr a →
    c.wpIn F 0 P (fun e a' w' => e = ex.out ∧ ∃ K', TRel K' fr' a' ∧ Post COk K w K' h' w' G) a w)
noncomputable def AllS (P : Program) (O : Orc) (n : Nat) : Prop := ∀ (ops : Array Oper) L fr h fr' h', evAll P O n ops L fr h = some (fr', h') →
  PF h h' ∧ fr'.nt = fr.nt ∧ fr'.df = fr.df ∧ (∀ t, (∀ o ∈ ops.toList, o.dst ≠ some t) → tmOf fr'.tm t = tmOf fr.tm t) ∧ (opsOk ops.toList = true → ∀ listed : Array Bool, listed.size = ops.size → (∀ i, listed.getD i false = L.testBit i) →
    ∀ K F, Fw F → ∀ (G : Nat → Prop), (∀ b, bit h'.tch b → G b) → ∀ w a, Wf h → Pre COk K h w G → Adm K h h' → TRel K fr a →
    ∀ Q, (∀ K' a' w', TRel K' fr' a' → Post COk K w K' h' w' G → Q .normal a' w') → ∀ fuel, listed.toList.count false ≤ fuel → wpAnyIn F 0 P .any ops Q fuel listed a w)
end
end Go.Proofs.YtnbndciididpoaaGreat.Ev
