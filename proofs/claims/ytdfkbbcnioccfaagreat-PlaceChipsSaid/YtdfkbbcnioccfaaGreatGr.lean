/- An answer that the evaluator may take: the greatest value of a map, by a function that ranges over it. Over any program; the condition: the function's contract. -/
import Derived.Test.YtdfkbbcnioccfaaGreatEv7
namespace Go.Proofs.YtdfkbbcnioccfaaGreat.Ev
open Go
set_option linter.unusedVariables false

/-- M is the greatest value of the entries, or 0; each entry was laid before the clock's now, no two at once. -/
structure MapMax (es : Array MapEntry) (clock : Nat) (M : Int) : Prop where
  born : ∀ e ∈ es.toList, e.born < clock
  nodup : (es.toList.map (·.born)).Nodup
  val : ∀ e ∈ es.toList, ∃ x, e.val = .int .i64 x ∧ 0 ≤ x ∧ x ≤ M
  met : M = 0 ∨ ∃ e ∈ es.toList, e.val = .int .i64 M
  low : 0 ≤ M
  high : M ≤ 10000

noncomputable def entX (v : Value) : Option Int := match v with
  | .int .i64 x => match decide (0 ≤ x) && decide (x ≤ 10000) with | true => some x | false => none
  | _ => none
noncomputable def mxE : List MapEntry → Option Int
  | [] => some 0
  | e :: r => match entX e.val with
    | some x => match mxE r with
      | some y => match decide (x ≤ y) with | true => some y | false => some x
      | none => none
    | none => none
noncomputable def hasN (b : Nat) : List MapEntry → Bool
  | [] => false
  | e :: r => match Nat.beq e.born b with | true => true | false => hasN b r
noncomputable def bornOk (clock : Nat) : List MapEntry → Bool
  | [] => true
  | e :: r => match Nat.blt e.born clock && !hasN e.born r with | true => bornOk clock r | false => false
theorem entX_eq {v : Value} {x : Int} (h : entX v = some x) : v = .int .i64 x ∧ 0 ≤ x ∧ x ≤ 10000 := by
  unfold entX at h
  split at h
  · rename_i y
    split at h
    · rename_i hd
      simp only [Option.some.injEq] at h
      subst h
      simp only [Bool.and_eq_true, decide_eq_true_eq] at hd
      exact ⟨rfl, hd⟩
    · cases h
  · cases h
theorem mxE_spec : ∀ {es : List MapEntry} {M : Int}, mxE es = some M → (∀ e ∈ es, ∃ x, e.val = .int .i64 x ∧ 0 ≤ x ∧ x ≤ M) ∧ (M = 0 ∨ ∃ e ∈ es, e.val = .int .i64 M) ∧ 0 ≤ M ∧ M ≤ 10000
  | [], M, h => by
    simp only [mxE, Option.some.injEq] at h
    subst h
    exact ⟨fun e he => by simp at he, .inl rfl, by decide, by decide⟩
  | e :: r, M, h => by
    simp only [mxE] at h
    split at h
    · rename_i x hx
      obtain ⟨h1, h2, h3⟩ := entX_eq hx
      split at h
      · rename_i y hy
        obtain ⟨g1, g2, g3, g4⟩ := mxE_spec hy
        split at h
        · rename_i hd
          simp only [Option.some.injEq] at h
          subst h
          have hd := of_decide_eq_true hd
          refine ⟨fun e' he => ?_, ?_, g3, g4⟩
          · rcases List.mem_cons.1 he with rfl | he
            · exact ⟨x, h1, h2, hd⟩
            · exact g1 e' he
          · rcases g2 with g2 | ⟨e', he, hv⟩
            · exact .inl g2
            · exact .inr ⟨e', List.mem_cons_of_mem _ he, hv⟩
        · rename_i hd
          simp only [Option.some.injEq] at h
          subst h
          have hd := of_decide_eq_false hd
          refine ⟨fun e' he => ?_, .inr ⟨e, List.mem_cons_self, h1⟩, h2, h3⟩
          rcases List.mem_cons.1 he with rfl | he
          · exact ⟨x, h1, h2, Int.le_refl _⟩
          · obtain ⟨z, a, b, c⟩ := g1 e' he
            exact ⟨z, a, b, by omega⟩
      · cases h
    · cases h
theorem hasN_spec {b : Nat} : ∀ {es : List MapEntry}, hasN b es = false → ∀ e ∈ es, e.born ≠ b
  | [], _ => fun e he => by simp at he
  | e :: r, h => fun e' he hb => by
    simp only [hasN] at h
    split at h
    · cases h
    · rename_i hd
      rcases List.mem_cons.1 he with rfl | he
      · rw [hb] at hd; simp at hd
      · exact hasN_spec h e' he hb
theorem bornOk_spec {clock : Nat} : ∀ {es : List MapEntry}, bornOk clock es = true → (∀ e ∈ es, e.born < clock) ∧ (es.map (·.born)).Nodup
  | [], _ => ⟨fun e he => by simp at he, by simp⟩
  | e :: r, h => by
    simp only [bornOk] at h
    split at h
    · rename_i hd
      simp only [Bool.and_eq_true, Bool.not_eq_true'] at hd
      obtain ⟨g1, g2⟩ := bornOk_spec h
      have hlt : e.born < clock := by
        have := hd.1
        simp only [Nat.blt_eq] at this
        exact this
      refine ⟨fun e' he => ?_, ?_⟩
      · rcases List.mem_cons.1 he with rfl | he
        · exact hlt
        · exact g1 e' he
      · rw [List.map_cons, List.nodup_cons]
        refine ⟨fun hm => ?_, g2⟩
        obtain ⟨e', he', hb⟩ := List.mem_map.1 hm
        exact hasN_spec hd.2 e' he' hb
    · cases h
/-- The answer to a call of fg. -/
noncomputable def grO (fg : Nat) : Orc := fun f args h => match Nat.beq f fg with
  | true => match args with
    | [.map (some b)] => match h.heap.get b with
      | some (.map es clock) => match bornOk clock es with
        | true => match mxE es with
          | some m => touchK h b fun h => some (.int .i64 m, h)
          | none => none
        | false => none
      | _ => none
    | _ => none
  | false => none
theorem grO_ok {P : Program} {fg : Nat} (hname : ∀ ar w, (callFunc fg ar).run P w = .ok (.enter fg ar) w)
    (hc : ∀ (b : Nat) (es : Array MapEntry) (clock : Nat) (M : Int) (w : World), w.heap[b]? = some (.map es clock) → MapMax es clock M → Calls P fg #[.map (some b)] w fun e w' => e = .returned (.int .i64 M) ∧ RowKit.Below w.heap.size w w') : OrcS P (grO fg) := by
  intro f args h v h' e
  unfold grO at e
  split at e
  · rename_i hf
    obtain rfl := Nat.eq_of_beq_eq_true hf
    split at e
    · rename_i b
      split at e
      · rename_i es clock hb
        split at e
        · rename_i hbo
          split at e
          · rename_i m hm
            simp only [touchK_eq, Option.some.injEq, Prod.mk.injEq] at e
            obtain ⟨rfl, rfl⟩ := e
            refine ⟨PF.touch _ _, hname, fun K G hG w args0 hl hw hp _ => ?_⟩
            obtain ⟨p, es', hk, _, hwb, hlen, hes⟩ := cont_map hp (hG _ (bit_or.2 (.inr (bit_one.2 rfl)))) hb
            obtain ⟨g1, g2, g3, g4⟩ := mxE_spec hm
            obtain ⟨k1, k2⟩ := bornOk_spec hbo
            have hval : ∀ i (hi : i < es.length), (es'[i]'(by omega)).born = es[i].born ∧ ∀ x, es[i].val = .int .i64 x → (es'[i]'(by omega)).val = .int .i64 x := fun i hi => by
              obtain ⟨_, a2, a3⟩ := hes i es[i] (es'[i]'(by omega)) (by simp [hi]) (by simp [show i < es'.size by omega])
              refine ⟨a2, fun x hx => ?_⟩
              rw [hx] at a3
              generalize (es'[i]'(by omega)).val = vv at a3 ⊢
              cases a3; rfl
            have hmem : ∀ e ∈ es'.toList, ∃ i, ∃ hi : i < es.length, e = es'[i]'(by omega) := fun e he => by
              obtain ⟨i, hi, rfl⟩ := List.getElem_of_mem he
              exact ⟨i, by simpa [hlen] using hi, by simp⟩
            have hborn : es'.toList.map (·.born) = es.map (·.born) := by
              apply List.ext_getElem (by simp [hlen])
              intro i h1 h2
              simp at h2
              simpa using (hval i h2).1
            have hM : MapMax es' clock m := by
              refine ⟨fun e he => ?_, by rw [hborn]; exact k2, fun e he => ?_, ?_, g3, g4⟩
              · obtain ⟨i, hi, rfl⟩ := hmem e he
                rw [(hval i hi).1]; exact k1 _ (List.getElem_mem hi)
              · obtain ⟨i, hi, rfl⟩ := hmem e he
                obtain ⟨x, a, b, c⟩ := g1 _ (List.getElem_mem hi)
                exact ⟨x, (hval i hi).2 x a, b, c⟩
              · rcases g2 with g2 | ⟨e, he, hv⟩
                · exact .inl g2
                · obtain ⟨i, hi, rfl⟩ := List.getElem_of_mem he
                  exact .inr ⟨es'[i]'(by omega), by simp, (hval i hi).2 m hv⟩
            have hargs : (⟨args0⟩ : Array Value) = #[.map (some p.blk)] := by
              obtain ⟨hl1, hl2⟩ := hl
              match args0, hl1 with
              | [a0], _ =>
                have hv := hl2 0 _ a0 rfl rfl
                clear hl2
                generalize hbb : b = bb at hv
                cases hv with
                | map hk' =>
                  rw [← hbb, hk] at hk'
                  injection hk' with hpp
                  rw [hpp]
            rw [hargs]
            refine (callsIn_wide.2 (hc p.blk es' clock m w hwb hM)).mono ?_
            rintro en w' ⟨rfl, hbl⟩
            refine ⟨K, _, rfl, .int _ _, ⟨⟨fun b p hb => Nat.lt_of_lt_of_le (hp.kok.lt b p hb) hbl.size, hp.kok.inj, hp.kok.gl⟩, fun b hb o ho => ?_, Mono.refl K, fun _ _ => rfl, fun _ _ h => .inl h, ⟨fun k hk _ => hbl.block k hk, hbl.size, hbl.os, hbl.tape, hbl.output⟩⟩⟩
            obtain ⟨p', x, h1, h3, h4⟩ := hp.cont b hb o ho
            exact ⟨p', x, h1, (hbl.block _ (hp.kok.lt _ _ h1)).trans h3, h4⟩
          · cases e
        · cases e
      · cases e
    · cases e
  · cases e
end Go.Proofs.YtdfkbbcnioccfaaGreat.Ev
