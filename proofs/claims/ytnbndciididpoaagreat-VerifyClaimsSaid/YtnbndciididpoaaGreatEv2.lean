/- A checked evaluator of closed calls, text 2 of 7: over any program; no condition. -/
import Derived.Test.YtnbndciididpoaaGreatEv1
import Derived.Laws.StructEq
import Derived.ChangeKeysEq
namespace Go.Proofs.YtnbndciididpoaaGreat.Ev
open Go
set_option linter.unusedVariables false
set_option linter.unusedSimpArgs false
section
/- A checked evaluator of closed calls, part E: loads, stores, new variables, addresses. -/
variable {ok : Code → Prop} {P : Program}

/-- What an operation does: from each world of which h speaks. -/
noncomputable def Sims (ok : Code → Prop) (P : Program) (K : Pm) (h : Hp) (s : Sem Value) (v : Value) (h' : Hp) : Prop :=
  ∀ (G : Nat → Prop), (∀ b, bit h'.tch b → G b) → ∀ w, Pre ok K h w G → Adm K h h' →
    ∃ K' v' w', s.run P w = .ok v' w' ∧ VR K' v v' ∧ Post ok K w K' h' w' G

theorem Sims.quiet {K : Pm} {h : Hp} {s : Sem Value} {v v' : Value} (hs : ∀ w, s.run P w = .ok v' w) (hv : VR K v v') : Sims ok P K h s v h :=
  fun G hG w hp _ => ⟨K, v', w, hs w, hv, Post.same hp rfl⟩

/-! ### types -/
theorem run_info {t : TypeId} {i : TypeInfo} (h : P.info? t = some i) (w : World) : (typeInfo t).run P w = .ok i w := by
  simp [typeInfo, h]
theorem run_size {t : TypeId} {i : TypeInfo} (h : P.info? t = some i) (w : World) : (sizeOf t).run P w = .ok i.size w := by
  simp [sizeOf, typeInfo, h]
theorem run_zero {t : TypeId} {i : TypeInfo} {z : Value} (h : P.info? t = some i) (hz : i.zero = some z) (w : World) : (zeroValue t).run P w = .ok z w := by
  simp [zeroValue, typeInfo, h, hz]
noncomputable def sizeP (P : Program) (t : TypeId) : Option Nat := match P.info? t with | some i => some i.size | none => none
theorem sizeP_run {t : TypeId} {n : Nat} (h : sizeP P t = some n) (w : World) : (sizeOf t).run P w = .ok n w := by
  unfold sizeP at h
  cases hi : P.info? t with
  | none => rw [hi] at h; cases h
  | some i => rw [hi] at h; cases h; exact run_size hi w
noncomputable def zeroP (P : Program) (t : TypeId) : Option Value := match P.info? t with | some i => i.zero | none => none
theorem zeroP_run {t : TypeId} {z : Value} (h : zeroP P t = some z) (w : World) : (zeroValue t).run P w = .ok z w := by
  unfold zeroP at h
  cases hi : P.info? t with
  | none => rw [hi] at h; cases h
  | some i => rw [hi] at h; exact run_zero hi h w
noncomputable def aggOf (P : Program) (t : TypeId) : Option Bool :=
  match P.underlying t with
  | some (.struct _) => some true
  | some (.array _ _) => some true
  | some _ => some false
  | none => none
theorem run_isAgg {t : TypeId} {b : Bool} (h : aggOf P t = some b) (w : World) : (isAgg t).run P w = .ok b w := by
  unfold aggOf at h
  cases hu : P.underlying t with
  | none => simp [hu] at h
  | some d => cases d <;> simp [hu] at h <;> simp [isAgg, run_underlying hu, h]

/-! ### rows of cells -/
noncomputable def rd (tr : Tr Value) : Nat → Nat → Option (List Value)
  | 0, _ => some []
  | n + 1, i => match tr.get i with
    | some v => match rd tr n (i + 1) with
      | some l => some (v :: l)
      | none => none
    | none => none
theorem rd_some {tr : Tr Value} : ∀ {n i : Nat} {l : List Value}, rd tr n i = some l → l.length = n ∧ ∀ j, j < n → tr.get (i + j) = l[j]? := by
  intro n
  induction n with
  | zero => intro i l h; cases h; exact ⟨rfl, fun j hj => by omega⟩
  | succ n ih =>
    intro i l h
    simp only [rd] at h
    cases hv : tr.get i with
    | none => rw [hv] at h; cases h
    | some v =>
      rw [hv] at h
      cases hl : rd tr n (i + 1) with
      | none => simp only [hl] at h; cases h
      | some l' =>
        simp only [hl] at h; cases h
        obtain ⟨h1, h2⟩ := ih hl
        refine ⟨by simp [h1], fun j hj => ?_⟩
        cases j with
        | zero => simpa using hv
        | succ j => have := h2 j (by omega); rw [show i + (j + 1) = i + 1 + j by omega, this]; simp
theorem nil_no (i j : Nat) : ¬ (i ≤ j ∧ j < i + ([] : List Value).length) := fun h => by have h1 := h.1; have h2 := h.2; simp only [List.length_nil] at h2; omega
/-- Cells written one behind the other, where there are cells. -/
noncomputable def wrL {β : Type} : List Value → Tr Value → Nat → (Tr Value → Option β) → Option β
  | [], tr, _, k => k tr
  | v :: vs, tr, i, k => match tr.get i with
    | some _ => match v.oneCell' with
      | true => tr.put i (some v) fun tr' => forceN (i + 1) fun i => wrL vs tr' i k
      | false => none
    | none => none
theorem wrL_some {β : Type} : ∀ {vs : List Value} {tr : Tr Value} {i : Nat} {k : Tr Value → Option β} {r : β}, wrL vs tr i k = some r →
    ∃ tr', k tr' = some r ∧ (∀ j, tr'.get j = if i ≤ j ∧ j < i + vs.length then vs[j - i]? else tr.get j) ∧ (∀ j, j < vs.length → ∃ v, tr.get (i + j) = some v) ∧ ∀ v ∈ vs, v.oneCell' = true := by
  intro vs
  induction vs with
  | nil => intro tr i k r h; exact ⟨tr, h, fun j => by rw [if_neg (nil_no i j)], fun j hj => by simp at hj, fun v hv => by simp at hv⟩
  | cons v vs ih =>
    intro tr i k r h
    simp only [wrL] at h
    cases hg : tr.get i with
    | none => rw [hg] at h; cases h
    | some u =>
      rw [hg] at h
      cases ho : v.oneCell' with
      | false => simp only [ho] at h; cases h
      | true =>
        simp only [ho] at h
        obtain ⟨t1, h, h1⟩ := Tr.put_some h
        simp only [forceN_eq] at h
        obtain ⟨t2, h2, h3, h4, h5⟩ := ih h
        refine ⟨t2, h2, fun j => ?_, fun j hj => ?_, fun x hx => ?_⟩
        · rw [h3, h1]
          by_cases e : j = i
          · subst e; rw [if_neg (by omega), if_pos rfl, if_pos (by simp)]; simp
          · by_cases e2 : i + 1 ≤ j ∧ j < i + 1 + vs.length
            · rw [if_pos e2, if_pos (by simp; omega)]
              rw [show j - i = (j - (i + 1)) + 1 by omega]; simp
            · rw [if_neg e2, if_neg e, if_neg (by simp; omega)]
        · cases j with
          | zero => exact ⟨u, hg⟩
          | succ j =>
            obtain ⟨x, hx⟩ := h4 j (by simpa using hj)
            rw [h1, if_neg (by omega)] at hx
            exact ⟨x, by rw [show i + (j + 1) = i + 1 + j by omega]; exact hx⟩
        · rcases List.mem_cons.1 hx with rfl | hx
          · exact ho
          · exact h5 x hx
/-- Cells laid from i on. -/
noncomputable def fillK {β : Type} : List Value → Tr Value → Nat → (Tr Value → Option β) → Option β
  | [], tr, _, k => k tr
  | v :: vs, tr, i, k => tr.put i (some v) fun tr' => forceN (i + 1) fun i => fillK vs tr' i k
theorem fillK_some {β : Type} : ∀ {vs : List Value} {tr : Tr Value} {i : Nat} {k : Tr Value → Option β} {r : β}, fillK vs tr i k = some r →
    ∃ tr', k tr' = some r ∧ (∀ j, tr'.get j = if i ≤ j ∧ j < i + vs.length then vs[j - i]? else tr.get j) := by
  intro vs
  induction vs with
  | nil => intro tr i k r h; exact ⟨tr, h, fun j => by rw [if_neg (nil_no i j)]⟩
  | cons v vs ih =>
    intro tr i k r h
    simp only [fillK] at h
    obtain ⟨t1, h, h1⟩ := Tr.put_some h
    simp only [forceN_eq] at h
    obtain ⟨t2, h2, h3⟩ := ih h
    refine ⟨t2, h2, fun j => ?_⟩
    rw [h3, h1]
    by_cases e : j = i
    · subst e; rw [if_neg (by omega), if_pos rfl, if_pos (by simp)]; simp
    · by_cases e2 : i + 1 ≤ j ∧ j < i + 1 + vs.length
      · rw [if_pos e2, if_pos (by simp; omega)]
        rw [show j - i = (j - (i + 1)) + 1 by omega]; simp
      · rw [if_neg e2, if_neg e, if_neg (by simp; omega)]
noncomputable def rowK {β : Type} (vs : List Value) (k : Tr Value → Option β) : Option β := fillK vs .leaf 0 k
theorem rowK_some {β : Type} {vs : List Value} {k : Tr Value → Option β} {r : β} (h : rowK vs k = some r) : ∃ tr, k tr = some r ∧ ∀ j, tr.get j = vs[j]? := by
  obtain ⟨tr, h1, h2⟩ := fillK_some h
  refine ⟨tr, h1, fun j => ?_⟩
  rw [h2]
  by_cases e : j < vs.length
  · rw [if_pos (by omega)]; simp
  · rw [if_neg (by omega), List.getElem?_eq_none (by omega)]; rfl

theorem add_eq (g o j : Nat) : (⟨g, o, none⟩ : Addr).add j = ⟨g, o + j, none⟩ := by
  unfold Addr.add
  split
  · subst j; rfl
  · rfl

/-! ### load -/
noncomputable def aLoad (P : Program) (t : TypeId) (v : Value) (h : Hp) : Option (Value × Hp) :=
  match v with
  | .pointer (some ⟨b, off, none⟩) =>
    match h.heap.get b with
    | some (.cells tr _ _) =>
      match aggOf P t with
      | some true => match sizeP P t with
        | some n => match rd tr n off with
          | some l => touchK h b fun h => some (.agg ⟨l⟩, h)
          | none => none
        | none => none
      | some false => match tr.get off with
        | some v => touchK h b fun h => some (v, h)
        | none => none
      | none => none
    | some (.table tr) =>
      match aggOf P t with
      | some true => match sizeP P t with
        | some n => match rd tr n off with
          | some l => touchK h b fun h => some (.agg ⟨l⟩, h)
          | none => none
        | none => none
      | some false => match tr.get off with
        | some v => touchK h b fun h => some (v, h)
        | none => none
      | none => none
    | _ => none
  | _ => none
theorem cell_any {w : World} {b o : Nat} {c : Array Value} {e : TypeId} {fr : Nat × Nat} (h : w.heap[b]? = some (.cells c e fr)) : w.cell? ⟨b, o, none⟩ = c[o]? := by
  simp [World.cell?, h]
theorem cont_cells {K : Pm} {h : Hp} {w : World} {G : Nat → Prop} {b : Nat} {tr : Tr Value} {e : TypeId} {g : Nat} (hp : Pre ok K h w G) (hG : G b) (hb : h.heap.get b = some (.cells tr e g)) :
    ∃ p c, K b = .live p ∧ p.esz = g ∧ w.heap[p.blk]? = some (.cells c e (0, 0)) ∧ c.size = p.size ∧ ∀ i v, tr.get i = some v → ∃ v', c[p.sh + i]? = some v' ∧ VR K v v' := by
  obtain ⟨p, x, h1, h2, h3, c, rfl, h4, h5⟩ := hp.cont b hG _ hb
  exact ⟨p, c, h1, h3, h2, h4, h5⟩
/-- A run of cells that was read, on both sides. -/
theorem cells_read {K : Pm} {w : World} {p : Pl} {c : Array Value} {e : TypeId} {fr : Nat × Nat} {tr : Tr Value} {n off : Nat} {l : List Value} (hw : w.heap[p.blk]? = some (.cells c e fr))
    (hc : ∀ i v, tr.get i = some v → ∃ v', c[p.sh + i]? = some v' ∧ VR K v v') (hl : rd tr n off = some l) :
    ∃ l', LR K l l' ∧ (loadCells ⟨p.blk, p.sh + off, none⟩ n).run P w = .ok ⟨l'⟩ w ∧ (∀ j v, l'[j]? = some v → c[p.sh + off + j]? = some v) := by
  obtain ⟨h1, h2⟩ := rd_some hl
  have key : ∀ j, j < n → ∃ v v', l[j]? = some v ∧ c[p.sh + off + j]? = some v' ∧ VR K v v' := fun j hj => by
    have hx : l[j]? = some l[j] := List.getElem?_eq_getElem (by omega)
    obtain ⟨v', a, b⟩ := hc (off + j) _ ((h2 j hj).trans hx)
    exact ⟨_, v', hx, by rw [Nat.add_assoc]; exact a, b⟩
  let f : Nat → Value := fun j => (c[p.sh + off + j]?).getD undef
  refine ⟨(List.range n).map f, ⟨by simp [h1], fun i v v' hv hv' => ?_⟩, ?_, fun j v hv => ?_⟩
  · have hi : i < n := by have := (List.getElem?_eq_some_iff.1 hv).1; omega
    obtain ⟨x, x', a, b, d⟩ := key i hi
    rw [a] at hv; cases hv
    simp [f, hi, b] at hv'; subst hv'; exact d
  · exact run_loadCells w _ n f fun j hj => by
      obtain ⟨x, x', a, b, d⟩ := key j hj
      rw [add_eq, cell_any hw, b]; simp [f, b]
  · have hj : j < n := by have := (List.getElem?_eq_some_iff.1 hv).1; simpa using this
    obtain ⟨x, x', a, b, d⟩ := key j hj
    simp [f, hj, b] at hv; rw [b, hv]
theorem aLoad_pure {t : TypeId} {v r : Value} {h h' : Hp} (e : aLoad P t v h = some (r, h')) :
    PF h h' ∧ (h'.heap = h.heap ∧ h'.next = h.next ∧ h'.wr = h.wr) ∧ ∀ K v0, VR K v v0 → ∀ (G : Nat → Prop), (∀ b, bit h'.tch b → G b) → ∀ w, Pre ok K h w G →
      ∃ a v', v0 = .pointer (some a) ∧ (Instr.loadAt t v0).run P w = .ok v' w ∧ VR K r v' := by
  unfold aLoad at e
  split at e
  · rename_i b off
    split at e
    · rename_i tr el g hb
      cases ha : aggOf P t with
      | none => simp only [ha] at e; cases e
      | some q =>
        cases q with
        | true =>
          simp only [ha] at e
          cases hs : sizeP P t with
          | none => simp only [hs] at e; cases e
          | some n =>
            simp only [hs] at e
            cases hl : rd tr n off with
            | none => simp only [hl] at e; cases e
            | some l =>
              simp only [hl, touchK_eq, Option.some.injEq, Prod.mk.injEq] at e
              obtain ⟨rfl, rfl⟩ := e
              refine ⟨PF.touch _ _, ⟨rfl, rfl, rfl⟩, fun K v0 hv G hG w hp => ?_⟩
              obtain ⟨p, c, hk, _, hw, hcs, hc⟩ := cont_cells hp (hG b (bit_or.2 (.inr (bit_one.2 rfl)))) hb
              cases hv with
              | ptrDead hd => rw [hk] at hd; cases hd
              | ptr hk' =>
                rw [hk] at hk'; cases hk'
                obtain ⟨l', hlr, hrun, _⟩ := cells_read (P := P) hw hc hl
                exact ⟨_, .agg ⟨l'⟩, rfl, by simp [Instr.loadAt, Instr.sureAddr, loadVar, run_isAgg ha, sizeP_run hs, hrun], VR.agg_iff.2 ⟨⟨l'⟩, rfl, hlr⟩⟩
        | false =>
          simp only [ha] at e
          cases hg : tr.get off with
          | none => simp only [hg] at e; cases e
          | some u =>
            simp only [hg, touchK_eq, Option.some.injEq, Prod.mk.injEq] at e
            obtain ⟨rfl, rfl⟩ := e
            refine ⟨PF.touch _ _, ⟨rfl, rfl, rfl⟩, fun K v0 hv G hG w hp => ?_⟩
            obtain ⟨p, c, hk, _, hw, hcs, hc⟩ := cont_cells hp (hG b (bit_or.2 (.inr (bit_one.2 rfl)))) hb
            cases hv with
            | ptrDead hd => rw [hk] at hd; cases hd
            | ptr hk' =>
              rw [hk] at hk'; cases hk'
              obtain ⟨u', h1, h2⟩ := hc off u hg
              have hcell : w.cell? ⟨p.blk, p.sh + off, none⟩ = some u' := by rw [cell_of_row w _ _ _ _ _ hw, h1]
              exact ⟨_, u', rfl, by simp [Instr.loadAt, Instr.sureAddr, loadVar, run_isAgg ha, run_load, hcell], h2⟩
    · rename_i tr hb
      cases ha : aggOf P t with
      | none => simp only [ha] at e; cases e
      | some q =>
        cases q with
        | true =>
          simp only [ha] at e
          cases hs : sizeP P t with
          | none => simp only [hs] at e; cases e
          | some n =>
            simp only [hs] at e
            cases hl : rd tr n off with
            | none => simp only [hl] at e; cases e
            | some l =>
              simp only [hl, touchK_eq, Option.some.injEq, Prod.mk.injEq] at e
              obtain ⟨rfl, rfl⟩ := e
              refine ⟨PF.touch _ _, ⟨rfl, rfl, rfl⟩, fun K v0 hv G hG w hp => ?_⟩
              obtain ⟨p, x, hk, hw, _, c, el, fr, rfl, hc⟩ := hp.cont b (hG b (bit_or.2 (.inr (bit_one.2 rfl)))) _ hb
              cases hv with
              | ptrDead hd => rw [hk] at hd; cases hd
              | ptr hk' =>
                rw [hk] at hk'; cases hk'
                obtain ⟨l', hlr, hrun, _⟩ := cells_read (P := P) hw hc hl
                exact ⟨_, .agg ⟨l'⟩, rfl, by simp [Instr.loadAt, Instr.sureAddr, loadVar, run_isAgg ha, sizeP_run hs, hrun], VR.agg_iff.2 ⟨⟨l'⟩, rfl, hlr⟩⟩
        | false =>
          simp only [ha] at e
          cases hg : tr.get off with
          | none => simp only [hg] at e; cases e
          | some u =>
            simp only [hg, touchK_eq, Option.some.injEq, Prod.mk.injEq] at e
            obtain ⟨rfl, rfl⟩ := e
            refine ⟨PF.touch _ _, ⟨rfl, rfl, rfl⟩, fun K v0 hv G hG w hp => ?_⟩
            obtain ⟨p, x, hk, hw, _, c, el, fr, rfl, hc⟩ := hp.cont b (hG b (bit_or.2 (.inr (bit_one.2 rfl)))) _ hb
            cases hv with
            | ptrDead hd => rw [hk] at hd; cases hd
            | ptr hk' =>
              rw [hk] at hk'; cases hk'
              obtain ⟨u', h1, h2⟩ := hc off u hg
              have hcell : w.cell? ⟨p.blk, p.sh + off, none⟩ = some u' := by rw [cell_any hw, h1]
              exact ⟨_, u', rfl, by simp [Instr.loadAt, Instr.sureAddr, loadVar, run_isAgg ha, run_load, hcell], h2⟩
    · cases e
  · cases e
theorem aLoad_ok {t : TypeId} {v r : Value} {h h' : Hp} (e : aLoad P t v h = some (r, h')) :
    PF h h' ∧ ∀ K v0, VR K v v0 → Sims ok P K h (Instr.loadAt t v0) r h' := by
  obtain ⟨pf, ⟨h1, _, _⟩, hs⟩ := aLoad_pure (ok := ok) e
  exact ⟨pf, fun K v0 hv G hG w hp _ => let ⟨a, v', _, q1, q2⟩ := hs K v0 hv G hG w hp; ⟨K, v', w, q1, q2, Post.same hp h1⟩⟩
end

section
/- A checked evaluator of closed calls, part F: stores, new variables, addresses. -/
variable {ok : Code → Prop} {P : Program}

theorem put_setRow {w : World} {g : Nat} {c cs : Array Value} {t : TypeId} (hg : w.heap[g]? = some (.cells c t (0, 0))) : Put w g (.cells cs t (0, 0)) (w.setRow g cs) := by
  refine ⟨by simp only [World.setRow, Array.getElem?_modify, if_true, hg, Option.map_some], fun j hj => ?_, by simp [World.setRow], rfl, rfl, rfl⟩
  simp only [World.setRow, Array.getElem?_modify]
  rw [if_neg (fun e => hj e.symm)]
theorem seg_get {l vs : List Value} {o j : Nat} (h : o + vs.length ≤ l.length) : (l.take o ++ vs ++ l.drop (o + vs.length))[j]? = if o ≤ j ∧ j < o + vs.length then vs[j - o]? else l[j]? := by
  have hm : min o l.length = o := by omega
  simp only [List.getElem?_append, List.length_append, List.length_take, List.getElem?_take, List.getElem?_drop, hm]
  by_cases h1 : j < o
  · rw [if_pos (by omega), if_pos h1, if_pos h1, if_neg (by omega)]
  · by_cases h2 : j < o + vs.length
    · rw [if_pos h2, if_neg h1, if_pos (by omega)]
    · rw [if_neg h2, if_neg (by omega)]; congr 1; omega

/-- Cells written into a block. -/
noncomputable def aStoreCells {β : Type} (h : Hp) (b off : Nat) (vs : List Value) (k : Hp → Option β) : Option β :=
  match Nat.ble (b + 1) h.next with
  | true => match h.heap.get b with
    | some (.cells tr e g) => wrL vs tr off fun tr' => writeK h b (.cells tr' e g) k
    | _ => none
  | false => none
theorem aStoreCells_ok {β : Type} {h : Hp} {b off : Nat} {vs : List Value} {k : Hp → Option β} {r : β} (e : aStoreCells h b off vs k = some r) :
    ∃ h', k h' = some r ∧ bit h'.tch b ∧ PF h h' ∧ h'.next = h.next ∧ ∀ K vs', LR K vs vs' → ∀ (G : Nat → Prop), (∀ b, bit h'.tch b → G b) → ∀ w, Pre ok K h w G →
      ∃ p w', K b = .live p ∧ (storeCells ⟨p.blk, p.sh + off, none⟩ vs').run P w = .ok () w' ∧ Post ok K w K h' w' G := by
  unfold aStoreCells at e
  split at e
  · rename_i hbl
    split at e
    · rename_i tr el g hb
      obtain ⟨tr', e, h1, h2, h3⟩ := wrL_some e
      obtain ⟨H, e, hH⟩ := writeK_some e
      refine ⟨_, e, bit_or.2 (.inr (bit_one.2 rfl)), PF.write (Nat.le_of_ble_eq_true hbl) hH, rfl, fun K vs' hl G hG w hp => ?_⟩
      obtain ⟨p, c, hk, he, hw, hcs, hc⟩ := cont_cells hp (hG b (bit_or.2 (.inr (bit_one.2 rfl)))) hb
      rcases Nat.eq_zero_or_pos vs.length with h0 | h0
      · have hv0 : vs = [] := List.length_eq_zero_iff.1 h0
        subst hv0
        have hv0 : vs' = [] := List.length_eq_zero_iff.1 hl.1.symm
        subst hv0
        refine ⟨p, w, hk, rfl, Post.write hp hk hH ⟨hw, fun _ _ => rfl, rfl, rfl, rfl, rfl⟩ ⟨he, c, rfl, hcs, fun i v hi => ?_⟩⟩
        rw [h1, if_neg (nil_no _ _)] at hi
        exact hc i v hi
      have hfit : p.sh + off + vs'.length ≤ c.size := by
        rw [← hl.1]
        obtain ⟨v, hv⟩ := h2 (vs.length - 1) (by omega)
        obtain ⟨v', hv', _⟩ := hc _ _ hv
        have := (Array.getElem?_eq_some_iff.1 hv').1
        omega
      have h1c : ∀ v ∈ vs', v.oneCell' = true := fun v hv => by
        obtain ⟨i, hi, rfl⟩ := List.mem_iff_getElem.1 hv
        have hi' : i < vs.length := by rw [hl.1]; exact hi
        rw [(hl.2 i vs[i] _ (List.getElem?_eq_getElem hi') (List.getElem?_eq_getElem hi)).oneCell]
        exact h3 _ (List.getElem_mem hi')
      refine ⟨p, _, hk, run_storeCells_at P p.blk (p.sh + off) el vs' 0 c w hw (by simpa using hfit) h1c, Post.write hp hk hH (put_setRow hw) ⟨he, _, rfl, ?_, fun i v hi => ?_⟩⟩
      · simp; omega
      · rw [h1] at hi
        have hs := seg_get (l := c.toList) (vs := vs') (o := p.sh + off) (j := p.sh + i) (by simpa using hfit)
        simp only [Nat.add_zero, List.getElem?_toArray]
        rw [hs]
        by_cases hr : off ≤ i ∧ i < off + vs.length
        · rw [if_pos hr] at hi
          rw [if_pos (by rw [← hl.1]; omega)]
          obtain ⟨v', hv', hvr⟩ := hl.get hi
          exact ⟨v', by rw [show p.sh + i - (p.sh + off) = i - off by omega]; exact hv', hvr⟩
        · rw [if_neg hr] at hi
          rw [if_neg (by rw [← hl.1]; omega)]
          obtain ⟨v', hv', hvr⟩ := hc i v hi
          exact ⟨v', by simpa using hv', hvr⟩
    · cases e
  · cases e

noncomputable def aStore (P : Program) (t : TypeId) (a v : Value) (h : Hp) : Option (Value × Hp) :=
  match a with
  | .pointer (some ⟨b, off, none⟩) =>
    match sizeP P t with
    | some n => match Nat.beq (cellsOf v).length n with
      | true => aStoreCells h b off (cellsOf v) fun h => some (.tuple #[], h)
      | false => none
    | none => none
  | _ => none
/-- For operations that hand back nothing. -/
noncomputable def USims (ok : Code → Prop) (P : Program) (K : Pm) (h : Hp) (s : Sem Unit) (h' : Hp) : Prop :=
  ∀ (G : Nat → Prop), (∀ b, bit h'.tch b → G b) → ∀ w, Pre ok K h w G → Adm K h h' →
    ∃ K' w', s.run P w = .ok () w' ∧ Post ok K w K' h' w' G
theorem aStore_ok {t : TypeId} {a v r : Value} {h h' : Hp} (e : aStore P t a v h = some (r, h')) :
    r = .tuple #[] ∧ PF h h' ∧ ∀ K a0 v0, VR K a a0 → VR K v v0 → USims ok P K h (Instr.storeAt t a0 v0) h' := by
  unfold aStore at e
  split at e
  · rename_i b off
    cases hs : sizeP P t with
    | none => simp only [hs] at e; cases e
    | some n =>
      simp only [hs] at e
      cases hl : Nat.beq (cellsOf v).length n with
      | false => simp only [hl] at e; cases e
      | true =>
        simp only [hl] at e
        obtain ⟨h1, e, ht, pf, _, hst⟩ := aStoreCells_ok (ok := ok) (P := P) e
        simp only [Option.some.injEq, Prod.mk.injEq] at e
        obtain ⟨rfl, rfl⟩ := e
        refine ⟨rfl, pf, fun K a0 v0 ha hv G hG w hp _ => ?_⟩
        obtain ⟨p, w', hk, hrun, hpost⟩ := hst K (cellsOf v0) hv.cells G hG w hp
        refine ⟨K, w', ?_, hpost⟩
        cases ha with
        | ptrDead hd => rw [hk] at hd; cases hd
        | ptr hk' =>
          rw [hk] at hk'; cases hk'
          have hsz : v0.cells.size = n := by
            have := Nat.eq_of_beq_eq_true hl
            rw [← this, hv.cells.1, cellsOf_eq]; simp
          rw [cellsOf_eq] at hrun
          simp [Instr.storeAt, Instr.sureAddr, storeVar, sizeP_run hs, hsz, hrun]
  · cases e

/-! ### new rows -/
theorem row_new {K : Pm} {h : Hp} {w : World} {G : Nat → Prop} {l l' : List Value} {tr : Tr Value} {el : TypeId} {H : Tr AObj} (g : Nat) (rest : List Value) (hp : Pre ok K h w G) (ha : K h.next = .absent)
    (hH : ∀ m, H.get m = if m = h.next then some (.cells tr el g) else h.heap.get m) (ht : ∀ j, tr.get j = l[j]?) (hl : LR K l l') :
    Post ok K w (upK K h.next (.live ⟨w.heap.size, 0, g, (l' ++ rest).length⟩)) (newH h H) (w.alloc (.cells (l' ++ rest).toArray el)) G := by
  refine Post.alloc hp ha hH rfl ⟨rfl, _, rfl, by simp, fun i v hi => ?_⟩
  rw [ht] at hi
  obtain ⟨v', hv', hr⟩ := hl.get hi
  refine ⟨v', ?_, hr.mono (Mono.upd _ ha)⟩
  have : i < l'.length := (List.getElem?_eq_some_iff.1 hv').1
  simp only [Nat.zero_add, List.getElem?_toArray]
  rw [List.getElem?_append_left this]; exact hv'
/-- A new row of these cells: its number goes on. -/
noncomputable def aRow {β : Type} (h : Hp) (el : TypeId) (g : Nat) (l : List Value) (k : Nat → Hp → Option β) : Option β := rowK l fun tr => newK h (.cells tr el g) k
theorem aRow_ok {β : Type} {h : Hp} {el : TypeId} {g : Nat} {l : List Value} {k : Nat → Hp → Option β} {r : β} (e : aRow h el g l k = some r) :
    ∃ h', k h.next h' = some r ∧ PF h h' ∧ h'.next = h.next + 1 ∧ ∀ K l' rest, LR K l l' → ∀ (G : Nat → Prop) w, Pre ok K h w G → K h.next = .absent →
      Post ok K w (upK K h.next (.live ⟨w.heap.size, 0, g, (l' ++ rest).length⟩)) h' (w.alloc (.cells (l' ++ rest).toArray el)) G := by
  obtain ⟨tr, e, ht⟩ := rowK_some e
  obtain ⟨H, e, hH⟩ := newK_some e
  exact ⟨_, e, PF.new hH, rfl, fun K l' rest hl G w hp ha => row_new g rest hp ha hH ht hl⟩

noncomputable def aBox (el : TypeId) (v : Value) (h : Hp) : Option (Value × Hp) := aRow h el 0 (cellsOf v) fun n h => some (.pointer (some ⟨n, 0, none⟩), h)
theorem aBox_ok {el : TypeId} {v r : Value} {h h' : Hp} (e : aBox el v h = some (r, h')) :
    PF h h' ∧ ∀ K v0, VR K v v0 → Sims ok P K h (Instr.box el v0) r h' := by
  obtain ⟨h1, e, pf, hn, hpost⟩ := aRow_ok (ok := ok) e
  simp only [Option.some.injEq, Prod.mk.injEq] at e
  obtain ⟨rfl, rfl⟩ := e
  refine ⟨pf, fun K v0 hv G hG w hp ha => ?_⟩
  have ha := ha h.next (Nat.le_refl _) (by omega)
  refine ⟨_, .pointer (some ⟨w.heap.size, 0, none⟩), _, ?_, .ptr (upK_same _ _ _) 0, hpost K (cellsOf v0) [] hv.cells G w hp ha⟩
  simp [Instr.box, newVar, newRow, cellsOf_eq]
noncomputable def aAlloc (P : Program) (el : TypeId) (h : Hp) : Option (Value × Hp) :=
  match zeroP P el with
  | some z => match gnd 9 z with
    | true => aBox el z h
    | false => none
  | none => none
theorem aAlloc_ok {el : TypeId} {r : Value} {h h' : Hp} (e : aAlloc P el h = some (r, h')) :
    PF h h' ∧ ∀ K, Sims ok P K h (Instr.alloc el true (.tuple #[])) r h' := by
  unfold aAlloc at e
  cases hz : zeroP P el with
  | none => simp only [hz] at e; cases e
  | some z =>
    simp only [hz] at e
    cases hg : gnd 9 z with
    | false => simp only [hg] at e; cases e
    | true =>
      simp only [hg] at e
      obtain ⟨pf, hs⟩ := aBox_ok (ok := ok) (P := P) e
      refine ⟨pf, fun K G hG w hp ha => ?_⟩
      obtain ⟨K', v', w', h1, h2, h3⟩ := hs K z (gnd_vr 9 z hg K).1 G hG w hp ha
      refine ⟨K', v', w', ?_, h2, h3⟩
      rw [← h1]
      simp [Instr.alloc, Instr.box, zeroP_run hz]
end

section
/- A checked evaluator of closed calls, part G: addresses, parts, slices. -/
variable {ok : Code → Prop} {P : Program}

/-- An operation that touches no memory. -/
noncomputable def PSims (P : Program) (K : Pm) (s : Sem Value) (v : Value) : Prop := ∀ w, ∃ v', s.run P w = .ok v' w ∧ VR K v v'
theorem PSims.sims {K : Pm} {h : Hp} {s : Sem Value} {v : Value} (hs : PSims P K s v) : Sims ok P K h s v h :=
  fun G hG w hp _ => let ⟨v', h1, h2⟩ := hs w; ⟨K, v', w, h1, h2, Post.same hp rfl⟩

noncomputable def aFieldAddr (P : Program) (s : TypeId) (v : Value) (f : Nat) : Option Value :=
  match v with
  | .pointer (some ⟨b, off, none⟩) => match P.underlying s with
    | some (.struct fields) => match fields.toList[f]? with
      | some fd => match sizeP P fd.type with
        | some (_ + 1) => forceN (off + fd.offset) fun o => some (.pointer (some ⟨b, o, none⟩))
        | _ => none
      | none => none
    | _ => none
  | _ => none
theorem add_add (a : Addr) : ∀ n, (a.add n).block = a.block := fun n => by unfold Addr.add; split <;> rfl
theorem VR.ptr_add {K : Pm} {b off : Nat} {v0 : Value} (h : VR K (.pointer (some ⟨b, off, none⟩)) v0) : ∃ a, v0 = .pointer (some a) ∧ ∀ n, VR K (.pointer (some ⟨b, off + n, none⟩)) (.pointer (some (a.add n))) := by
  cases h with
  | ptr hk => exact ⟨_, rfl, fun n => by rw [add_eq, Nat.add_assoc]; exact .ptr hk _⟩
  | ptrDead hd a' => exact ⟨a', rfl, fun n => .ptrDead (a := ⟨b, off + n, none⟩) hd _⟩
theorem aFieldAddr_ok {s : TypeId} {v r : Value} {f : Nat} (e : aFieldAddr P s v f = some r) : ∀ K v0, VR K v v0 → PSims P K (Instr.fieldAt s v0 f) r := by
  unfold aFieldAddr at e
  split at e
  · rename_i b off
    split at e
    · rename_i fields hu
      cases hf : fields.toList[f]? with
      | none => simp only [hf] at e; cases e
      | some fd =>
        simp only [hf] at e
        split at e
        · rename_i n hs
          simp only [forceN_eq, Option.some.injEq] at e
          subst e
          intro K v0 hv w
          obtain ⟨a, rfl, ha⟩ := hv.ptr_add
          have hf' : fields[f]? = some fd := by simpa using hf
          exact ⟨_, by simp [Instr.fieldAt, run_underlying hu, hf', Instr.sureAddr, fieldPlace, sizeP_run hs], ha _⟩
        · cases e
    · cases e
  · cases e

/-- An index in its bounds. -/
noncomputable def aIndexAddr (P : Program) (t : TypeId) (x i : Value) : Option Value :=
  match i with
  | .int _ (.ofNat m) => match P.underlying t with
    | some (.array len elem) => match x with
      | .pointer (some ⟨b, off, none⟩) => match Nat.ble (m + 1) len with
        | true => match sizeP P elem with
          | some n => forceN (off + m * n) fun o => some (.pointer (some ⟨b, o, none⟩))
          | none => none
        | false => none
      | _ => none
    | some (.slice elem) => match x with
      | .slice (some ⟨b, off, _⟩) len _ => match Nat.ble (m + 1) len with
        | true => match sizeP P elem with
          | some n => forceN (off + m * n) fun o => some (.pointer (some ⟨b, o, none⟩))
          | none => none
        | false => none
      | _ => none
    | _ => none
  | _ => none
theorem VR.slice_add {K : Pm} {b off : Nat} {sp : Option Nat} {l c : Nat} {v0 : Value} (h : VR K (.slice (some ⟨b, off, sp⟩) l c) v0) (hl : 0 < l) :
    ∃ a c', v0 = .slice (some a) l c' ∧ ∀ n, VR K (.pointer (some ⟨b, off + n, none⟩)) (.pointer (some (a.add n))) := by
  cases h with
  | sliceX hk => exact ⟨_, _, rfl, fun n => by rw [add_eq, Nat.add_assoc]; exact .ptr hk _⟩
  | sliceZ => omega
  | slice hk => exact ⟨_, _, rfl, fun n => by rw [add_eq, Nat.add_assoc]; exact .ptr hk _⟩
  | sliceDead hd _ _ a' c' => exact ⟨a', c', rfl, fun n => .ptrDead (a := ⟨b, off + n, none⟩) hd _⟩
theorem aIndexAddr_ok {t : TypeId} {x i r : Value} (e : aIndexAddr P t x i = some r) : ∀ K x0 i0, VR K x x0 → VR K i i0 → PSims P K (Instr.indexAt t x0 i0) r := by
  unfold aIndexAddr at e
  split at e
  · rename_i k m
    split at e
    · rename_i len elem hu
      split at e
      · rename_i b off
        cases hm : Nat.ble (m + 1) len with
        | false => simp only [hm] at e; cases e
        | true =>
          simp only [hm] at e
          cases hs : sizeP P elem with
          | none => simp only [hs] at e; cases e
          | some n =>
            simp only [hs, forceN_eq, Option.some.injEq] at e
            subst e
            intro K x0 i0 hx hi w
            cases hi
            have hlt := Nat.le_of_ble_eq_true hm
            obtain ⟨a, rfl, ha⟩ := hx.ptr_add
            exact ⟨_, by simp [Instr.indexAt, asIntOf, run_underlying hu, Instr.sureAddr, sizeP_run hs, show m < len by omega], ha _⟩
      · cases e
    · rename_i elem hu
      split at e
      · rename_i b off sp len cap
        cases hm : Nat.ble (m + 1) len with
        | false => simp only [hm] at e; cases e
        | true =>
          simp only [hm] at e
          cases hs : sizeP P elem with
          | none => simp only [hs] at e; cases e
          | some n =>
            simp only [hs, forceN_eq, Option.some.injEq] at e
            subst e
            intro K x0 i0 hx hi w
            cases hi
            have hlt := Nat.le_of_ble_eq_true hm
            obtain ⟨a, c', rfl, ha⟩ := hx.slice_add (by omega)
            exact ⟨_, by simp [Instr.indexAt, asIntOf, run_underlying hu, sizeP_run hs, show m < len by omega], ha _⟩
      · cases e
    · cases e
  · cases e

/-! ### parts of values -/
noncomputable def takeL : Nat → Nat → List Value → Option (List Value)
  | 0, 0, _ => some []
  | 0, n + 1, v :: l => match takeL 0 n l with | some r => some (v :: r) | none => none
  | 0, _ + 1, [] => none
  | o + 1, n, _ :: l => takeL o n l
  | _ + 1, _, [] => none
theorem takeL_some : ∀ {o n : Nat} {l r : List Value}, takeL o n l = some r → r = (l.drop o).take n ∧ o + n ≤ l.length := by
  intro o n l
  induction l generalizing o n with
  | nil =>
    intro r h
    cases o with
    | zero => cases n with
      | zero => simp [takeL] at h; subst h; simp
      | succ n => simp [takeL] at h
    | succ o => simp [takeL] at h
  | cons v l ih =>
    intro r h
    cases o with
    | zero =>
      cases n with
      | zero => simp [takeL] at h; subst h; simp
      | succ n =>
        simp only [takeL] at h
        cases ht : takeL 0 n l with
        | none => rw [ht] at h; cases h
        | some q => rw [ht] at h; cases h; obtain ⟨h1, h2⟩ := ih ht; simp at h1; subst h1; simp; omega
    | succ o =>
      simp only [takeL] at h
      obtain ⟨h1, h2⟩ := ih h
      subst h1; simp; omega
theorem LR.take_drop {K : Pm} {l l' : List Value} (h : LR K l l') (o n : Nat) : LR K ((l.drop o).take n) ((l'.drop o).take n) := by
  refine ⟨by simp [h.1], fun i v v' hv hv' => ?_⟩
  rw [List.getElem?_take, List.getElem?_drop] at hv hv'
  by_cases hi : i < n
  · rw [if_pos hi] at hv hv'; exact h.2 _ _ _ hv hv'
  · rw [if_neg hi] at hv; cases hv
noncomputable def aPart (P : Program) (t : TypeId) (cs : List Value) (off : Nat) : Option Value :=
  match aggOf P t with
  | some true => match sizeP P t with
    | some n => match takeL off n cs with
      | some l => some (.agg ⟨l⟩)
      | none => none
    | none => none
  | some false => cs[off]?
  | none => none
theorem aPart_ok {t : TypeId} {cs : List Value} {off : Nat} {r : Value} (e : aPart P t cs off = some r) : ∀ K (cs0 : Array Value), LR K cs cs0.toList → PSims P K (part t cs0 off) r := by
  unfold aPart at e
  cases ha : aggOf P t with
  | none => simp only [ha] at e; cases e
  | some q =>
    cases q with
    | true =>
      simp only [ha] at e
      cases hs : sizeP P t with
      | none => simp only [hs] at e; cases e
      | some n =>
        simp only [hs] at e
        cases hl : takeL off n cs with
        | none => simp only [hl] at e; cases e
        | some l =>
          simp only [hl, Option.some.injEq] at e
          subst e
          intro K cs0 h w
          obtain ⟨rfl, h2⟩ := takeL_some hl
          refine ⟨.agg (cs0.extract off (off + n)), by simp [part, run_isAgg ha, sizeP_run hs], VR.agg_iff.2 ⟨_, rfl, ?_⟩⟩
          have := h.take_drop off n
          simpa [Array.toList_extract, List.extract_eq_take_drop] using this
    | false =>
      simp only [ha] at e
      intro K cs0 h w
      obtain ⟨v', hv', hr⟩ := h.get e
      have hv'' : cs0[off]? = some v' := by simpa using hv'
      exact ⟨v', by simp [part, run_isAgg ha, hv''], hr⟩
noncomputable def aField (P : Program) (t : TypeId) (v : Value) (f : Nat) : Option Value :=
  match v with
  | .agg cs => match P.underlying t with
    | some (.struct fields) => match fields.toList[f]? with
      | some fd => aPart P fd.type cs.toList fd.offset
      | none => none
    | _ => none
  | _ => none
theorem aField_ok {t : TypeId} {v r : Value} {f : Nat} (e : aField P t v f = some r) : ∀ K v0, VR K v v0 → PSims P K (Instr.field t v0 f) r := by
  unfold aField at e
  split at e
  · rename_i cs
    split at e
    · rename_i fields hu
      cases hf : fields.toList[f]? with
      | none => simp only [hf] at e; cases e
      | some fd =>
        simp only [hf] at e
        intro K v0 hv w
        obtain ⟨c', rfl, hl⟩ := VR.agg_iff.1 hv
        obtain ⟨v', h1, h2⟩ := aPart_ok e K c' hl w
        have hf' : fields[f]? = some fd := by simpa using hf
        exact ⟨v', by simp [Instr.field, run_underlying hu, hf', asAgg, h1], h2⟩
    · cases e
  · cases e
noncomputable def aIndex (P : Program) (t : TypeId) (x i : Value) : Option Value :=
  match i with
  | .int _ (.ofNat m) => match x with
    | .agg cs => match P.underlying t with
      | some (.array len elem) => match Nat.ble (m + 1) len with
        | true => match sizeP P elem with
          | some n => aPart P elem cs.toList (m * n)
          | none => none
        | false => none
      | _ => none
    | .string s => match P.underlying t with
      | some .string => match s.data.toList[m]? with
        | some b => forceN b.toNat fun b => some (.int .u8 (.ofNat b))
        | none => none
      | _ => none
    | _ => none
  | _ => none
theorem aIndex_ok {t : TypeId} {x i r : Value} (e : aIndex P t x i = some r) : ∀ K x0 i0, VR K x x0 → VR K i i0 → PSims P K (Instr.index t x0 i0) r := by
  unfold aIndex at e
  split at e
  · rename_i k m
    split at e
    · rename_i cs
      split at e
      · rename_i len elem hu
        cases hm : Nat.ble (m + 1) len with
        | false => simp only [hm] at e; cases e
        | true =>
          simp only [hm] at e
          cases hs : sizeP P elem with
          | none => simp only [hs] at e; cases e
          | some n =>
            simp only [hs] at e
            intro K x0 i0 hx hi w
            cases hi
            have hlt := Nat.le_of_ble_eq_true hm
            obtain ⟨c', rfl, hl⟩ := VR.agg_iff.1 hx
            obtain ⟨v', h1, h2⟩ := aPart_ok e K c' hl w
            exact ⟨v', by simp [Instr.index, asIntOf, run_underlying hu, sizeP_run hs, show m < len by omega, h1], h2⟩
      · cases e
    · rename_i s
      split at e
      · rename_i hu
        cases hb : s.data.toList[m]? with
        | none => simp only [hb] at e; cases e
        | some b =>
          simp only [hb, forceN_eq, Option.some.injEq] at e
          subst e
          intro K x0 i0 hx hi w
          cases hi; cases hx
          have hb' : s[m]? = some b := by
            have h1 : s.data[m]? = some b := by simpa using hb
            obtain ⟨h2, h3⟩ := Array.getElem?_eq_some_iff.1 h1
            have h4 : m < s.size := h2
            rw [getElem?_pos s m h4]
            exact congrArg some h3
          exact ⟨_, by simp [Instr.index, asIntOf, run_underlying hu, hb'], .int _ _⟩
      · cases e
    · cases e
  · cases e
noncomputable def aExtract (v : Value) (i : Nat) : Option Value :=
  match v with
  | .tuple vs => vs.toList[i]?
  | _ => none
theorem aExtract_ok {v r : Value} {i : Nat} (e : aExtract v i = some r) : ∀ K v0, VR K v v0 → PSims P K (Instr.extract v0 i) r := by
  unfold aExtract at e
  split at e
  · rename_i vs
    intro K v0 hv w
    obtain ⟨c', rfl, hl⟩ := VR.tuple_iff.1 hv
    obtain ⟨v', h1, h2⟩ := hl.get e
    have h1' : c'[i]? = some v' := by simpa using h1
    exact ⟨v', by simp [Instr.extract, h1'], h2⟩
  · cases e
end

section
/- A checked evaluator of closed calls, part H: arithmetic, comparisons, conversions. -/
variable {ok : Code → Prop} {P : Program}

/-- A value, worked out. -/
noncomputable def forceV {β : Type} (v : Value) (k : Value → β) : β :=
  match v with
  | .int kd n => forceI n fun n => k (.int kd n)
  | .bool true => k (.bool true)
  | .bool false => k (.bool false)
  | v => k v
@[simp] theorem forceV_eq {β : Type} (v : Value) (k : Value → β) : forceV v k = k v := by
  unfold forceV
  split <;> simp

/-- An operation that asks nothing of the world. -/
noncomputable def prun {α : Type} (P : Program) : Sem α → Option α
  | .pure a => some a
  | .program k => prun P (k P)
  | .mark _ k => prun P k
  | _ => none
theorem prun_run {α : Type} {s : Sem α} {a : α} (h : prun P s = some a) : ∀ w, s.run P w = .ok a w := by
  intro w
  induction s generalizing a w with
  | pure x => simp [prun] at h; subst h; rfl
  | program k ih => exact ih P h w
  | mark m k ih => exact ih h w
  | _ => simp [prun] at h
noncomputable def scal : Value → Bool
  | .int .. | .bool _ | .string _ => true
  | _ => false
theorem scal_eq {K : Pm} {v v' : Value} (h : scal v = true) (hv : VR K v v') : v' = v := by cases hv <;> first | rfl | (simp [scal] at h; done)
theorem scal_vr {K : Pm} {v : Value} (h : scal v = true) : VR K v v := by cases v <;> first | (simp [scal] at h; done) | constructor

/-! ### equal? -/
noncomputable def eqFs (eq : TypeId → Value → Value → Option Bool) (P : Program) (xs ys : List Value) : List Field → Option Bool
  | [] => some true
  | f :: fs => match f.name == "_" with
    | true => eqFs eq P xs ys fs
    | false => match aPart P f.type xs f.offset with
      | some a => match aPart P f.type ys f.offset with
        | some b => match eq f.type a b with
          | some true => eqFs eq P xs ys fs
          | some false => some false
          | none => none
        | none => none
      | none => none
noncomputable def eqEs (eq : TypeId → Value → Value → Option Bool) (P : Program) (el : TypeId) (c : Nat) (xs ys : List Value) : List Nat → Option Bool
  | [] => some true
  | i :: is => match aPart P el xs (i * c) with
    | some a => match aPart P el ys (i * c) with
      | some b => match eq el a b with
        | some true => eqEs eq P el c xs ys is
        | some false => some false
        | none => none
      | none => none
    | none => none
noncomputable def eqA (P : Program) : Nat → TypeId → Value → Value → Option Bool
  | 0, _, _, _ => none
  | n + 1, t, x, y =>
    match P.underlying t with
    | some .bool => match x, y with
      | .bool a, .bool b => some (a == b)
      | _, _ => none
    | some (.int _) => match x, y with
      | .int k a, .int k' b => if k = k' then some (a == b) else none
      | _, _ => none
    | some .string => match x, y with
      | .string a, .string b => some (a == b)
      | _, _ => none
    | some (.pointer _) => match x, y with
      | .pointer none, .pointer b => some b.isNone
      | .pointer (some _), .pointer none => some false
      | _, _ => none
    | some (.slice _) => match x, y with
      | .slice none _ _, .slice b _ _ => some b.isNone
      | .slice (some _) _ _, .slice none _ _ => some false
      | _, _ => none
    | some (.map _ _) => match x, y with
      | .map none, .map b => some b.isNone
      | .map (some _), .map none => some false
      | _, _ => none
    | some (.func _ _ _) => match x, y with
      | .nilFunc, .nilFunc => some true
      | .nilFunc, .func _ _ _ => some false
      | .func _ _ _, .nilFunc => some false
      | _, _ => none
    | some (.struct fields) => match x, y with
      | .agg xs, .agg ys => match P.stoodInHeld t with
        | false => eqFs (eqA P n) P xs.toList ys.toList fields.toList
        | true => none
      | _, _ => none
    | some (.array len elem) => match x, y with
      | .agg xs, .agg ys => match sizeP P elem with
        | some c => eqEs (eqA P n) P elem c xs.toList ys.toList (List.range len)
        | none => none
      | _, _ => none
    | _ => none
theorem eqEs_ok {eq : TypeId → Value → Value → Option Bool} {d : Nat} {K : Pm} {el : TypeId} {c : Nat}
    (heq : ∀ x y r, eq el x y = some r → ∀ x0 y0, VR K x x0 → VR K y y0 → ∀ w, (Op.equalIn d el x0 y0).run P w = .ok r w) (xs ys : List Value) (xs0 ys0 : Array Value) (hx : LR K xs xs0.toList) (hy : LR K ys ys0.toList) :
    ∀ (is : List Nat) r, eqEs eq P el c xs ys is = some r → ∀ w, (Op.eqItems d el c xs0 ys0 is).run P w = .ok r w := by
  intro is
  induction is with
  | nil => intro r h w; simp [eqEs] at h; subst h; rfl
  | cons i is ih =>
    intro r h w
    simp only [eqEs] at h
    cases ha : aPart P el xs (i * c) with
    | none => simp only [ha] at h; cases h
    | some a =>
      simp only [ha] at h
      cases hb : aPart P el ys (i * c) with
      | none => simp only [hb] at h; cases h
      | some b =>
        simp only [hb] at h
        obtain ⟨a', h1, h2⟩ := aPart_ok ha K xs0 hx w
        obtain ⟨b', h3, h4⟩ := aPart_ok hb K ys0 hy w
        cases hq : eq el a b with
        | none => simp only [hq] at h; cases h
        | some q =>
          have hrun := heq _ _ _ hq a' b' h2 h4 w
          simp only [hq] at h
          simp only [Op.eqItems, Sem.run_bind, h1, h3, hrun, Result.andThen_ok]
          cases q with
          | false => simp at h; subst h; rfl
          | true => simp only [] at h; simpa using ih r h w
theorem sizeP_info {t : TypeId} {n : Nat} (h : sizeP P t = some n) : ∃ i, P.info? t = some i ∧ n = P.cellsOf t := by
  unfold sizeP at h
  cases hi : P.info? t with
  | none => rw [hi] at h; cases h
  | some i => rw [hi] at h; cases h; exact ⟨i, rfl, by simp [Program.cellsOf, hi]⟩
theorem eqFs_ok {eq : TypeId → Value → Value → Option Bool} {d : Nat} {K : Pm}
    (heq : ∀ t x y r, eq t x y = some r → ∀ x0 y0, VR K x x0 → VR K y y0 → ∀ w, (Op.equalIn d t x0 y0).run P w = .ok r w) (xs ys : List Value) (xs0 ys0 : Array Value) (hx : LR K xs xs0.toList) (hy : LR K ys ys0.toList) :
    ∀ (fs : List Field) r, eqFs eq P xs ys fs = some r → ∀ w, (Op.eqFields d xs0 ys0 fs).run P w = .ok r w := by
  intro fs
  induction fs with
  | nil => intro r h w; simp [eqFs] at h; subst h; rfl
  | cons f fs ih =>
    intro r h w
    simp only [eqFs] at h
    cases hn : (f.name == "_") with
    | true =>
      simp only [hn] at h
      have hn' : f.name = "_" := by simpa using hn
      unfold Op.eqFields
      rw [if_neg (by simp [hn'])]
      exact ih r h w
    | false =>
      simp only [hn] at h
      have hn' : f.name ≠ "_" := by simpa using hn
      unfold Op.eqFields
      rw [if_pos hn']
      cases ha : aPart P f.type xs f.offset with
      | none => simp only [ha] at h; cases h
      | some a =>
        simp only [ha] at h
        cases hb : aPart P f.type ys f.offset with
        | none => simp only [hb] at h; cases h
        | some b =>
          simp only [hb] at h
          obtain ⟨a', h1, h2⟩ := aPart_ok ha K xs0 hx w
          obtain ⟨b', h3, h4⟩ := aPart_ok hb K ys0 hy w
          cases hq : eq f.type a b with
          | none => simp only [hq] at h; cases h
          | some q =>
            have hrun := heq _ _ _ _ hq a' b' h2 h4 w
            simp only [hq] at h
            cases q with
            | false => simp at h; subst h; simp [h1, h3, hrun]
            | true => simp only [] at h; simp [h1, h3, hrun, ih r h w]
theorem VR.slice_form {K : Pm} {b : Option Addr} {l c : Nat} {v' : Value} (h : VR K (.slice b l c) v') : ∃ b' c', v' = .slice b' l c' ∧ b'.isNone = b.isNone := by cases h <;> exact ⟨_, _, rfl, rfl⟩
theorem VR.ptr_form {K : Pm} {b : Option Addr} {v' : Value} (h : VR K (.pointer b) v') : ∃ b', v' = .pointer b' ∧ b'.isNone = b.isNone := by cases h <;> exact ⟨_, rfl, rfl⟩
theorem VR.map_form {K : Pm} {b : Option Nat} {v' : Value} (h : VR K (.map b) v') : ∃ b', v' = .map b' ∧ b'.isNone = b.isNone := by cases h <;> exact ⟨_, rfl, rfl⟩
theorem VR.func_form {K : Pm} {fn : Fn} {f c : Array Value} {v' : Value} (h : VR K (.func fn f c) v') : ∃ fn' f' c', v' = .func fn' f' c' := by cases h <;> exact ⟨_, _, _, rfl⟩
section
variable {d : Nat} {t : TypeId} (w : World)
theorem eqI_ptr {e : TypeId} (hu : P.underlying t = some (.pointer e)) (a b : Option Addr) (h : a.isNone = true ∨ b.isNone = true) : (Op.equalIn (d + 1) t (.pointer a) (.pointer b)).run P w = .ok (a.isNone && b.isNone) w := by
  simp only [Op.equalIn, Sem.run_bind, run_underlying hu, Result.andThen_ok]
  cases a <;> cases b <;> first | rfl | (simp at h)
theorem eqI_slice {e : TypeId} (hu : P.underlying t = some (.slice e)) (a b : Option Addr) (l c l' c' : Nat) (h : a.isNone = true ∨ b.isNone = true) : (Op.equalIn (d + 1) t (.slice a l c) (.slice b l' c')).run P w = .ok (a.isNone && b.isNone) w := by
  simp only [Op.equalIn, Sem.run_bind, run_underlying hu, Result.andThen_ok]
  cases a <;> cases b <;> first | rfl | (simp at h)
theorem eqI_map {k e : TypeId} (hu : P.underlying t = some (.map k e)) (a b : Option Nat) (h : a.isNone = true ∨ b.isNone = true) : (Op.equalIn (d + 1) t (.map a) (.map b)).run P w = .ok (a.isNone && b.isNone) w := by
  simp only [Op.equalIn, Sem.run_bind, run_underlying hu, Result.andThen_ok]
  cases a <;> cases b <;> first | rfl | (simp at h)
theorem eqI_fn0 {ps rs : Array TypeId} {vr : Bool} (hu : P.underlying t = some (.func ps rs vr)) : (Op.equalIn (d + 1) t .nilFunc .nilFunc).run P w = .ok true w := by
  simp only [Op.equalIn, Sem.run_bind, run_underlying hu, Result.andThen_ok]; rfl
theorem eqI_fn1 {ps rs : Array TypeId} {vr : Bool} (hu : P.underlying t = some (.func ps rs vr)) (fn : Fn) (f c : Array Value) : (Op.equalIn (d + 1) t .nilFunc (.func fn f c)).run P w = .ok false w := by
  simp only [Op.equalIn, Sem.run_bind, run_underlying hu, Result.andThen_ok]; rfl
theorem eqI_fn2 {ps rs : Array TypeId} {vr : Bool} (hu : P.underlying t = some (.func ps rs vr)) (fn : Fn) (f c : Array Value) : (Op.equalIn (d + 1) t (.func fn f c) .nilFunc).run P w = .ok false w := by
  simp only [Op.equalIn, Sem.run_bind, run_underlying hu, Result.andThen_ok]; rfl
end
theorem eqA_ok {K : Pm} : ∀ (n : Nat) (t : TypeId) (x y : Value) (r : Bool), eqA P n t x y = some r → ∀ x0 y0, VR K x x0 → VR K y y0 → ∀ d, n ≤ d → ∀ w, (Op.equalIn d t x0 y0).run P w = .ok r w := by
  intro n
  induction n with
  | zero => intro t x y r h; simp [eqA] at h
  | succ n ih =>
    intro t x y r h x0 y0 hx hy d hd w
    obtain ⟨d, rfl⟩ : ∃ e, d = e + 1 := ⟨d - 1, by omega⟩
    simp only [eqA] at h
    split at h
    · rename_i hu
      split at h
      · cases h; cases hx; cases hy; exact run_equalIn_bool' w d t _ _ hu
      · cases h
    · rename_i hu
      split at h
      · rename_i k a k' b
        split at h
        · rename_i hk; subst hk; cases h; cases hx; cases hy; exact run_equalIn_int w d t _ _ _ _ hu
        · cases h
      · cases h
    · rename_i hu
      split at h
      · cases h; cases hx; cases hy; rw [run_equalIn_string w d t _ _ hu, beq_toListBytes]
      · cases h
    · rename_i hu
      split at h
      · rename_i b; cases h; cases hx
        obtain ⟨b', rfl, hb⟩ := hy.ptr_form
        rw [eqI_ptr w hu _ _ (.inl rfl), ← hb]; rfl
      · cases h; cases hy
        obtain ⟨b', rfl, hb⟩ := hx.ptr_form
        rw [eqI_ptr w hu _ _ (.inr rfl), hb]; rfl
      · cases h
    · rename_i hu
      split at h
      · rename_i b _ _; cases h; cases hx
        obtain ⟨b', _, rfl, hb⟩ := hy.slice_form
        rw [eqI_slice w hu _ _ _ _ _ _ (.inl rfl), ← hb]; rfl
      · cases h; cases hy
        obtain ⟨b', _, rfl, hb⟩ := hx.slice_form
        rw [eqI_slice w hu _ _ _ _ _ _ (.inr rfl), hb]; rfl
      · cases h
    · rename_i hu
      split at h
      · rename_i b; cases h; cases hx
        obtain ⟨b', rfl, hb⟩ := hy.map_form
        rw [eqI_map w hu _ _ (.inl rfl), ← hb]; rfl
      · cases h; cases hy
        obtain ⟨b', rfl, hb⟩ := hx.map_form
        rw [eqI_map w hu _ _ (.inr rfl), hb]; rfl
      · cases h
    · rename_i hu
      split at h
      · cases h; cases hx; cases hy; exact eqI_fn0 w hu
      · cases h; cases hx
        obtain ⟨_, _, _, rfl⟩ := hy.func_form
        exact eqI_fn1 w hu _ _ _
      · cases h; cases hy
        obtain ⟨_, _, _, rfl⟩ := hx.func_form
        exact eqI_fn2 w hu _ _ _
      · cases h
    · rename_i fields hu
      split at h
      · rename_i xs ys
        split at h
        · rename_i hst
          obtain ⟨xs0, rfl, hx1⟩ := VR.agg_iff.1 hx
          obtain ⟨ys0, rfl, hy1⟩ := VR.agg_iff.1 hy
          have hf : P.fieldsOf t = fields := by simp [Program.fieldsOf, hu]
          rw [run_equalIn_struct w d t xs0 ys0 (by rw [hf]; exact hu) hst, hf]
          exact eqFs_ok (fun t x y r h x0 y0 hx hy w => ih t x y r h x0 y0 hx hy d (by omega) w) _ _ _ _ hx1 hy1 _ r h w
        · cases h
      · cases h
    · rename_i len elem hu
      split at h
      · rename_i xs ys
        split at h
        · rename_i c hs
          obtain ⟨xs0, rfl, hx1⟩ := VR.agg_iff.1 hx
          obtain ⟨ys0, rfl, hy1⟩ := VR.agg_iff.1 hy
          obtain ⟨i, hi, rfl⟩ := sizeP_info hs
          rw [run_equalIn_array w d xs0 ys0 hu hi]
          exact eqEs_ok (fun x y r h x0 y0 hx hy w => ih elem x y r h x0 y0 hx hy d (by omega) w) _ _ _ _ hx1 hy1 _ r h w
        · cases h
      · cases h
    · cases h

/-! ### operators -/
noncomputable def cmpOk (P : Program) (t : TypeId) (x y : Value) : Bool :=
  match x, y with
  | .pointer _, .pointer _ => true
  | .slice _ _ _, .slice _ _ _ => true
  | .map _, .map _ => true
  | .nilFunc, .nilFunc => true
  | .func _ _ _, .nilFunc => true
  | .nilFunc, .func _ _ _ => true
  | .agg _, .agg _ => !P.eqGuardType P.depth t
  | _, _ => false
noncomputable def aBin (P : Program) (op : BinOp) (t : TypeId) (x y : Value) (h : Hp) : Option (Value × Hp) :=
  match scal x && scal y with
  | true => match prun P (binOp op t x y) with
    | some v => match scal v with
      | true => forceV v fun v => some (v, h)
      | false => none
    | none => none
  | false =>
    match x, y with
    | .pointer (some ⟨b, o, none⟩), .pointer (some ⟨b', o', none⟩) =>
      match P.underlying t with
      | some (.pointer el) => match sizeP P el with
        | some (_ + 1) => match h.heap.get b, Nat.beq b b' with
          | some _, true => match op with
            | .eql => touchK h b fun h => forceV (.bool (Nat.beq o o')) fun v => some (v, h)
            | .neq => touchK h b fun h => forceV (.bool (!Nat.beq o o')) fun v => some (v, h)
            | _ => none
          | _, _ => none
        | _ => none
      | _ => none
    | x, y =>
      match cmpOk P t x y with
      | true => match eqA P 20 t x y with
        | some r => match op with
          | .eql => forceV (.bool r) fun v => some (v, h)
          | .neq => forceV (.bool (!r)) fun v => some (v, h)
          | _ => none
        | none => none
      | false => none
theorem scal_form {x : Value} (h : scal x = true) : (∃ k n, x = .int k n) ∨ (∃ b, x = .bool b) ∨ ∃ s, x = .string s := by
  cases x <;> first | (simp [scal] at h; done) | exact .inl ⟨_, _, rfl⟩ | exact .inr (.inl ⟨_, rfl⟩) | exact .inr (.inr ⟨_, rfl⟩)
theorem eqGuard_plain (op : BinOp) (t : TypeId) (ox oy : Operand) (x y : Value) (h1 : ¬ (x = .nilIface ∧ y = .nilIface)) (h2 : ∀ xs ys, x = .agg xs → y = .agg ys → P.eqGuardType P.depth t = false) (w : World) :
    (eqGuard op t ox oy x y).run P w = .ok () w := by
  unfold eqGuard
  cases op <;> first | rfl | skip
  all_goals
    cases x <;> cases y <;> first | rfl | (exact absurd ⟨rfl, rfl⟩ h1) | (simp [h2 _ _ rfl rfl]; done)

theorem sameAddr_same (a b : Addr) (h : a.block = b.block) (w : World) : (sameAddr a b).run P w = .ok (a == b) w := by
  simp [sameAddr, h]
theorem eqI_same {d : Nat} {t e : TypeId} (w : World) (hu : P.underlying t = some (.pointer e)) {n : Nat} (hs : sizeP P e = some (n + 1)) (a b : Addr) (h : a.block = b.block) :
    (Op.equalIn (d + 1) t (.pointer (some a)) (.pointer (some b))).run P w = .ok (a == b) w := by
  simp only [Op.equalIn, Sem.run_bind, run_underlying hu, Result.andThen_ok, sizeP_run hs]
  simp [sameAddr_same a b h]
theorem bin_eq (op : BinOp) (r : Bool) (t : TypeId) (ox oy : Operand) (x y : Value) (hc : cmpOk P t x y = true) (w : World) (he : (Op.equalIn 10000 t x y).run P w = .ok r w) (ho : op = .eql ∨ op = .neq) :
    (do eqGuard op t ox oy x y; binOp op t x y : Sem Value).run P w = .ok (.bool (if op = .eql then r else !r)) w := by
  have hg : (eqGuard op t ox oy x y).run P w = .ok () w := by
    refine eqGuard_plain op t ox oy x y ?_ ?_ w
    · rintro ⟨rfl, rfl⟩; simp [cmpOk] at hc
    · rintro xs ys rfl rfl; simpa [cmpOk] using hc
  have he' : (Op.equal t x y).run P w = .ok r w := he
  simp only [Sem.run_bind, hg, Result.andThen_ok]
  rcases ho with rfl | rfl
  · have : binOp .eql t x y = (do pure (.bool (← Op.equal t x y))) := by
      cases x <;> cases y <;> first | rfl | (simp [cmpOk] at hc; done)
    rw [this]; simp [he']
  · have : binOp .neq t x y = (do pure (.bool (!(← Op.equal t x y)))) := by
      cases x <;> cases y <;> first | rfl | (simp [cmpOk] at hc; done)
    rw [this]; simp [he']
theorem cmpOk_vr {K : Pm} {t : TypeId} {x y x0 y0 : Value} (h : cmpOk P t x y = true) (hx : VR K x x0) (hy : VR K y y0) : cmpOk P t x0 y0 = true := by
  cases hx <;> cases hy <;> first | rfl | exact h | (simp [cmpOk] at h; done)
theorem aBin_ok {op : BinOp} {t : TypeId} {x y r : Value} {h h' : Hp} (e : aBin P op t x y h = some (r, h')) :
    PF h h' ∧ ∀ K ox oy x0 y0, VR K x x0 → VR K y y0 → Sims ok P K h (do eqGuard op t ox oy x0 y0; binOp op t x0 y0) r h' := by
  unfold aBin at e
  split at e
  · rename_i hsc
    simp only [Bool.and_eq_true] at hsc
    cases hp : prun P (binOp op t x y) with
    | none => simp only [hp] at e; cases e
    | some v =>
      simp only [hp] at e
      cases hv : scal v with
      | false => simp only [hv] at e; cases e
      | true =>
        simp only [hv, forceV_eq, Option.some.injEq, Prod.mk.injEq] at e
        obtain ⟨rfl, rfl⟩ := e
        refine ⟨PF.refl _, fun K ox oy x0 y0 hx hy => PSims.sims fun w => ⟨v, ?_, scal_vr hv⟩⟩
        rw [scal_eq hsc.1 hx, scal_eq hsc.2 hy]
        have hg := eqGuard_plain (P := P) op t ox oy x y (by rintro ⟨rfl, _⟩; simp [scal] at hsc) (by rintro xs ys rfl; simp [scal] at hsc) w
        simp [hg, prun_run hp w]
  · split at e
    · rename_i b o b' o' hscal
      split at e
      · rename_i el hu
        split at e
        · rename_i n hs
          split at e
          · rename_i ob hob hbb
            have hbb := Nat.eq_of_beq_eq_true hbb
            subst hbb
            have key : ∀ K (G : Nat → Prop) w, Pre ok K h w G → G b → ∀ x0 y0, VR K (.pointer (some ⟨b, o, none⟩)) x0 → VR K (.pointer (some ⟨b, o', none⟩)) y0 →
                cmpOk P t x0 y0 = true ∧ (Op.equalIn 10000 t x0 y0).run P w = .ok (Nat.beq o o') w := by
              intro K G w hp hG x0 y0 hx hy
              obtain ⟨p, _, hk, _⟩ := hp.cont b hG _ hob
              cases hx with
              | ptrDead hd => rw [hk] at hd; cases hd
              | ptr hk1 =>
                rw [hk] at hk1; cases hk1
                cases hy with
                | ptrDead hd => rw [hk] at hd; cases hd
                | ptr hk2 =>
                  rw [hk] at hk2; cases hk2
                  refine ⟨rfl, ?_⟩
                  refine (eqI_same (d := 9999) w hu hs ⟨p.blk, p.sh + o, none⟩ ⟨p.blk, p.sh + o', none⟩ rfl).trans ?_
                  congr 1
                  by_cases ho : o = o'
                  · subst ho; simp
                  · have : Nat.beq o o' = false := by
                      cases hb : Nat.beq o o' with
                      | false => rfl
                      | true => exact absurd (Nat.eq_of_beq_eq_true hb) ho
                    rw [this]; simp; omega
            split at e
            · simp only [touchK_eq, forceV_eq, Option.some.injEq, Prod.mk.injEq] at e
              obtain ⟨rfl, rfl⟩ := e
              refine ⟨PF.touch _ _, fun K ox oy x0 y0 hx hy G hG w hp _ => ?_⟩
              obtain ⟨h1, h2⟩ := key K G w hp (hG b (bit_or.2 (.inr (bit_one.2 rfl)))) x0 y0 hx hy
              exact ⟨K, _, w, bin_eq .eql _ t ox oy x0 y0 h1 w h2 (.inl rfl), .bool _, Post.same hp rfl⟩
            · simp only [touchK_eq, forceV_eq, Option.some.injEq, Prod.mk.injEq] at e
              obtain ⟨rfl, rfl⟩ := e
              refine ⟨PF.touch _ _, fun K ox oy x0 y0 hx hy G hG w hp _ => ?_⟩
              obtain ⟨h1, h2⟩ := key K G w hp (hG b (bit_or.2 (.inr (bit_one.2 rfl)))) x0 y0 hx hy
              exact ⟨K, _, w, bin_eq .neq _ t ox oy x0 y0 h1 w h2 (.inr rfl), .bool _, Post.same hp rfl⟩
            · cases e
          · cases e
        · cases e
      · cases e
    · split at e
      · rename_i hc
        cases hq : eqA P 20 t x y with
        | none => simp only [hq] at e; cases e
        | some q =>
          simp only [hq] at e
          split at e
          · simp only [forceV_eq, Option.some.injEq, Prod.mk.injEq] at e
            obtain ⟨rfl, rfl⟩ := e
            refine ⟨PF.refl _, fun K ox oy x0 y0 hx hy => PSims.sims fun w => ⟨_, bin_eq .eql _ t ox oy x0 y0 (cmpOk_vr hc hx hy) w (eqA_ok 20 t x y q hq x0 y0 hx hy 10000 (by omega) w) (.inl rfl), .bool _⟩⟩
          · simp only [forceV_eq, Option.some.injEq, Prod.mk.injEq] at e
            obtain ⟨rfl, rfl⟩ := e
            refine ⟨PF.refl _, fun K ox oy x0 y0 hx hy => PSims.sims fun w => ⟨_, bin_eq .neq _ t ox oy x0 y0 (cmpOk_vr hc hx hy) w (eqA_ok 20 t x y q hq x0 y0 hx hy 10000 (by omega) w) (.inr rfl), .bool _⟩⟩
          · cases e
      · cases e

noncomputable def aUn (op : UnOp) (x : Value) (P : Program) : Option Value :=
  match scal x with
  | true => match prun P (Op.unary op x) with
    | some v => match scal v with
      | true => forceV v fun v => some v
      | false => none
    | none => none
  | false => none
theorem aUn_ok {op : UnOp} {x r : Value} (e : aUn op x P = some r) : ∀ K x0, VR K x x0 → PSims P K (Op.unary op x0) r := by
  unfold aUn at e
  split at e
  · rename_i hsc
    cases hp : prun P (Op.unary op x) with
    | none => simp only [hp] at e; cases e
    | some v =>
      simp only [hp] at e
      cases hv : scal v with
      | false => simp only [hv] at e; cases e
      | true =>
        simp only [hv, forceV_eq, Option.some.injEq] at e
        subst e
        intro K x0 hx w
        rw [scal_eq hsc hx]
        exact ⟨v, prun_run hp w, scal_vr hv⟩
  · cases e
noncomputable def aConv (P : Program) (src dst : TypeId) (x : Value) : Option Value :=
  match x with
  | .int _ _ => match P.underlying dst with
    | some (.int _) => match prun P (convert src dst x) with
      | some v => match scal v with
        | true => forceV v fun v => some v
        | false => none
      | none => none
    | _ => none
  | _ => none
theorem aConv_ok {src dst : TypeId} {x r : Value} (e : aConv P src dst x = some r) : ∀ K x0, VR K x x0 → PSims P K (convert src dst x0) r := by
  unfold aConv at e
  split at e
  · split at e
    · rename_i k n _ _ _
      cases hp : prun P (convert src dst (.int k n)) with
      | none => simp only [hp] at e; cases e
      | some v =>
        simp only [hp] at e
        cases hv : scal v with
        | false => simp only [hv] at e; cases e
        | true =>
          simp only [hv, forceV_eq, Option.some.injEq] at e
          subst e
          intro K x0 hx w
          cases hx
          exact ⟨v, prun_run hp w, scal_vr hv⟩
    · cases e
  · cases e
end
end Go.Proofs.YtnbndciididpoaaGreat.Ev
