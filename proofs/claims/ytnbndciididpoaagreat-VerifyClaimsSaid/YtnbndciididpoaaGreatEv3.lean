/- A checked evaluator of closed calls, text 3 of 7: over any program; no condition. -/
import Derived.Test.YtnbndciididpoaaGreatEv2
import Derived.Laws.Append
import Derived.Laws.AppendOwn
import Derived.Lib.AppendZeros
namespace Go.Proofs.YtnbndciididpoaaGreat.Ev
open Go
set_option linter.unusedVariables false
set_option linter.unusedSimpArgs false
section
/- A checked evaluator of closed calls, part I: slices, literals, new slices and maps. -/
variable {ok : Code → Prop} {P : Program}

/-! ### slicing -/
noncomputable def OVR (K : Pm) (x x0 : Option Value) : Prop := (x = none ∧ x0 = none) ∨ ∃ v v0, x = some v ∧ x0 = some v0 ∧ VR K v v0
noncomputable def bnd : Option Value → Nat → Option Nat
  | none, d => some d
  | some (.int _ (.ofNat m)), _ => some m
  | _, _ => none
theorem bnd_same {K : Pm} {x x0 : Option Value} {d m : Nat} (h : bnd x d = some m) (hv : OVR K x x0) : x0 = x := by
  rcases hv with ⟨rfl, rfl⟩ | ⟨v, v0, rfl, rfl, hv⟩
  · rfl
  · unfold bnd at h
    split at h
    · rename_i he; cases he
    · rename_i he; injection he with he; subst he; cases hv; rfl
    · cases h
noncomputable def bounds3 (len cap : Nat) (lo hi mx : Option Value) : Option (Nat × Nat × Nat) :=
  match bnd mx cap with
  | some m => match Nat.ble m cap with
    | true => match bnd hi len with
      | some h => match Nat.ble h m with
        | true => match mx.isNone || hi.isSome with
          | true => match bnd lo 0 with
            | some l => match Nat.ble l h with
              | true => some (l, h, m)
              | false => none
            | none => none
          | false => none
        | false => none
      | none => none
    | false => none
  | none => none
theorem bnd_form {x : Option Value} {d m : Nat} (h : bnd x d = some m) : (x = none ∧ m = d) ∨ ∃ k, x = some (.int k ((m : Nat) : Int)) := by
  unfold bnd at h
  split at h
  · cases h; exact .inl ⟨rfl, rfl⟩
  · cases h; exact .inr ⟨_, rfl⟩
  · cases h
theorem run_sliceBound_nat (k : IntKind) (i y : Nat) (code : BoundsCode) (h : i ≤ y) (w : World) : (Instr.sliceBound (.int k ((i : Nat) : Int)) y code).run P w = .ok i w := by
  simp [Instr.sliceBound, asIntOf, h]
theorem bounds3_ok {len cap l h m : Nat} {lo hi mx : Option Value} (e : bounds3 len cap lo hi mx = some (l, h, m)) :
    bnd lo 0 = some l ∧ bnd hi len = some h ∧ bnd mx cap = some m ∧
    l ≤ h ∧ m ≤ cap ∧ (mx = none → m = cap) ∧ (hi = none → h = len) ∧ h ≤ m ∧ (mx ≠ none → hi ≠ none) ∧
    ∀ isSlice cap0, cap ≤ cap0 → ∀ w, (Instr.sliceBounds isSlice len cap0 lo hi mx).run P w = .ok (l, h, if mx.isNone then cap0 else m) w := by
  unfold bounds3 at e
  split at e
  · rename_i m' hm
    split at e
    · rename_i hmc
      split at e
      · rename_i h' hh
        split at e
        · rename_i hhm
          split at e
          · rename_i hmh
            split at e
            · rename_i l' hl
              split at e
              · rename_i hlh
                simp only [Option.some.injEq, Prod.mk.injEq] at e
                obtain ⟨rfl, rfl, rfl⟩ := e
                have hmc := Nat.le_of_ble_eq_true hmc
                have hlh := Nat.le_of_ble_eq_true hlh
                have f3 : h' ≤ m' := Nat.le_of_ble_eq_true hhm
                have f4 : mx ≠ none → hi ≠ none := fun hn => by
                  cases mx with
                  | none => exact absurd rfl hn
                  | some v => cases hi <;> simp_all
                refine ⟨hl, hh, hm, hlh, hmc, ?_, ?_, f3, f4, fun isSlice cap0 hc w => ?_⟩
                · rintro rfl; simpa [bnd] using hm.symm
                · rintro rfl; simpa [bnd] using hh.symm
                rcases bnd_form hl with ⟨rfl, rfl⟩ | ⟨kl, rfl⟩ <;> rcases bnd_form hh with ⟨rfl, rfl⟩ | ⟨kh, rfl⟩ <;> rcases bnd_form hm with ⟨rfl, rfl⟩ | ⟨km, rfl⟩
                · rfl
                · exact absurd rfl (f4 (by simp))
                · have h3 := f3
                  simp only [Instr.sliceBounds, Sem.run_bind, Sem.run_pure, Result.andThen_ok, run_sliceBound_nat _ _ _ _ (show h' ≤ cap0 by omega)]; rfl
                · have h3 := f3
                  simp only [Instr.sliceBounds, Sem.run_bind, Sem.run_pure, Result.andThen_ok, run_sliceBound_nat _ _ _ _ (show m' ≤ cap0 by omega), run_sliceBound_nat _ _ _ _ h3]; rfl
                · simp only [Instr.sliceBounds, Sem.run_bind, Sem.run_pure, Result.andThen_ok, run_sliceBound_nat _ _ _ _ hlh]; rfl
                · exact absurd rfl (f4 (by simp))
                · have h3 := f3
                  simp only [Instr.sliceBounds, Sem.run_bind, Sem.run_pure, Result.andThen_ok, run_sliceBound_nat _ _ _ _ (show h' ≤ cap0 by omega), run_sliceBound_nat _ _ _ _ hlh]; rfl
                · have h3 := f3
                  simp only [Instr.sliceBounds, Sem.run_bind, Sem.run_pure, Result.andThen_ok, run_sliceBound_nat _ _ _ _ (show m' ≤ cap0 by omega), run_sliceBound_nat _ _ _ _ h3, run_sliceBound_nat _ _ _ _ hlh]; rfl
              · cases e
            · cases e
          · cases e
        · cases e
      · cases e
    · cases e
  · cases e
noncomputable def aSlice (P : Program) (t : TypeId) (x : Value) (lo hi mx : Option Value) : Option Value :=
  match P.underlying t with
  | some (.array n elem) => match x with
    | .pointer (some ⟨b, off, none⟩) => match bounds3 n n lo hi mx with
      | some (l, h, m) => match sizeP P elem with
        | some s => forceN (off + l * s) fun o => forceN (h - l) fun len => forceN (m - l) fun cap => some (.slice (some ⟨b, o, some 0⟩) len cap)
        | none => none
      | none => none
    | _ => none
  | some (.slice elem) => match x with
    | .slice none n c => match bounds3 n c lo hi mx with
      | some (l, h, m) => match sizeP P elem with
        | some s => forceN (h - l) fun len => forceN (m - l) fun cap => some (.slice none len cap)
        | none => none
      | none => none
    | .slice (some ⟨b, off, some g⟩) n c => match bounds3 n c lo hi mx with
      | some (l, h, m) => match sizeP P elem with
        | some s => match Nat.beq g 0 || Nat.beq g s with
          | true => forceN (off + l * s) fun o => forceN (h - l) fun len => forceN (m - l) fun cap => some (.slice (some ⟨b, o, some (match mx with | some _ => 0 | none => g)⟩) len cap)
          | false => none
        | none => none
      | none => none
    | _ => none
  | _ => none
theorem run_slice_arr {t elem : TypeId} {n s l h m : Nat} {lo hi mx : Option Value} (hu : P.underlying t = some (.array n elem)) (hs : sizeP P elem = some s) (w : World)
    (hb : (Instr.sliceBounds false n n lo hi mx).run P w = .ok (l, h, m) w) (a : Addr) :
    (Instr.sliceAt t (.pointer (some a)) lo hi mx).run P w = .ok (.slice (some (if m = l then a else a.add (l * s))) (h - l) (m - l)) w := by
  simp only [Instr.sliceAt, Instr.sureAddr, Sem.run_bind, run_underlying hu, Result.andThen_ok, Sem.run_pure, hb, sizeP_run hs]
theorem run_slice_sl {t elem : TypeId} {n c s l h m : Nat} {lo hi mx : Option Value} (hu : P.underlying t = some (.slice elem)) (hs : sizeP P elem = some s) (w : World)
    (hb : (Instr.sliceBounds true n c lo hi mx).run P w = .ok (l, h, m) w) (a : Option Addr) :
    (Instr.sliceAt t (.slice a n c) lo hi mx).run P w = .ok (.slice (if m = l then a else a.map (·.add (l * s))) (h - l) (m - l)) w := by
  simp only [Instr.sliceAt, Instr.slice, Sem.run_bind, run_underlying hu, Result.andThen_ok, Sem.run_pure, hb, sizeP_run hs]
theorem aSlice_ok {t : TypeId} {x r : Value} {lo hi mx : Option Value} (e : aSlice P t x lo hi mx = some r) :
    ∀ K x0 lo0 hi0 mx0, VR K x x0 → OVR K lo lo0 → OVR K hi hi0 → OVR K mx mx0 → PSims P K (Instr.sliceAt t x0 lo0 hi0 mx0) r := by
  unfold aSlice at e
  split at e
  · rename_i n elem hu
    split at e
    · rename_i b off
      cases hb : bounds3 n n lo hi mx with
      | none => simp only [hb] at e; cases e
      | some q =>
        obtain ⟨l, h, m⟩ := q
        simp only [hb] at e
        cases hs : sizeP P elem with
        | none => simp only [hs] at e; cases e
        | some s =>
          simp only [hs, forceN_eq, Option.some.injEq] at e
          subst e
          intro K x0 lo0 hi0 mx0 hx h1 h2 h3 w
          obtain ⟨b1, b2, b3, a1, a2, a3, a4, a5, a6, hrun⟩ := bounds3_ok (P := P) hb
          obtain rfl := bnd_same b1 h1
          obtain rfl := bnd_same b2 h2
          obtain rfl := bnd_same b3 h3
          have hrun := hrun false n (Nat.le_refl _) w
          have hm0 : (if mx0.isNone then n else m) = m := by cases mx0 <;> simp_all
          rw [hm0] at hrun
          have hz : m = l → h - l = 0 ∧ m - l = 0 := fun hml => by omega
          cases hx with
          | ptr hk =>
            refine ⟨_, run_slice_arr hu hs w hrun _, ?_⟩
            by_cases hml : m = l
            · obtain ⟨z1, z2⟩ := hz hml
              rw [if_pos hml, z1, z2]; exact .sliceZ hk _ _ _
            · rw [if_neg hml, add_eq, Nat.add_assoc]; exact .sliceX hk _ _ _
          | ptrDead hd a' => exact ⟨_, run_slice_arr hu hs w hrun _, .sliceDead (a := ⟨b, off + l * s, some 0⟩) hd _ _ _ _ (fun _ => rfl) (Nat.le_refl _)⟩
    · cases e
  · rename_i elem hu
    split at e
    · rename_i n c
      cases hb : bounds3 n c lo hi mx with
      | none => simp only [hb] at e; cases e
      | some q =>
        obtain ⟨l, h, m⟩ := q
        simp only [hb] at e
        cases hs : sizeP P elem with
        | none => simp only [hs] at e; cases e
        | some s =>
          simp only [hs, forceN_eq, Option.some.injEq] at e
          subst e
          intro K x0 lo0 hi0 mx0 hx h1 h2 h3 w
          obtain ⟨b1, b2, b3, a1, a2, a3, a4, a5, a6, hrun⟩ := bounds3_ok (P := P) hb
          obtain rfl := bnd_same b1 h1
          obtain rfl := bnd_same b2 h2
          obtain rfl := bnd_same b3 h3
          have hrun := hrun true c (Nat.le_refl _) w
          have hm0 : (if mx0.isNone then c else m) = m := by cases mx0 <;> simp_all
          rw [hm0] at hrun
          cases hx
          refine ⟨_, run_slice_sl hu hs w hrun none, ?_⟩
          simp only [Option.map_none, ite_self]
          exact .sliceNil _ _
    · rename_i b off g n c
      cases hb : bounds3 n c lo hi mx with
      | none => simp only [hb] at e; cases e
      | some q =>
        obtain ⟨l, h, m⟩ := q
        simp only [hb] at e
        cases hs : sizeP P elem with
        | none => simp only [hs] at e; cases e
        | some s =>
          simp only [hs, forceN_eq] at e
          split at e
          · rename_i hg
            simp only [Option.some.injEq] at e
            subst e
            intro K x0 lo0 hi0 mx0 hx h1 h2 h3 w
            obtain ⟨b1, b2, b3, a1, a2, a3, a4, a5, a6, hrun⟩ := bounds3_ok (P := P) hb
            obtain rfl := bnd_same b1 h1
            obtain rfl := bnd_same b2 h2
            obtain rfl := bnd_same b3 h3
            -- the capacity is as it is said to be: of the old row, or of the new bound
            have exact_ : ∀ (a0 : Addr) (c0 sp : Nat), c ≤ c0 → (mx0 = none → c0 = c) → (∃ p, K b = .live p ∧ (m ≠ l → sp = 0 ∧ a0 = ⟨p.blk, p.sh + off, none⟩)) →
                ∃ v', (Instr.sliceAt t (.slice (some a0) n c0) lo0 hi0 mx0).run P w = .ok v' w ∧ VR K (.slice (some ⟨b, off + l * s, some sp⟩) (h - l) (m - l)) v' := by
              intro a0 c0 sp hc0 hmc ⟨p, hk, ha0⟩
              have hr := hrun true c0 hc0 w
              have hm2 : (if mx0.isNone then c0 else m) = m := by
                cases mx0 with
                | none => show c0 = m; rw [hmc rfl, a3 rfl]
                | some _ => rfl
              rw [hm2] at hr
              refine ⟨_, run_slice_sl hu hs w hr (some a0), ?_⟩
              by_cases hml : m = l
              · rw [if_pos hml, show h - l = 0 by omega, show m - l = 0 by omega]
                exact .sliceZ hk _ _ _
              · obtain ⟨rfl, rfl⟩ := ha0 hml
                rw [if_neg hml]
                simp only [Option.map_some, add_eq, Nat.add_assoc]
                exact .sliceX hk _ _ _
            cases hx with
            | sliceX hk =>
              refine exact_ _ c _ (Nat.le_refl _) (fun _ => rfl) ⟨_, hk, fun _ => ⟨?_, rfl⟩⟩
              cases mx0 <;> rfl
            | sliceZ hk _ _ a' => exact exact_ a' 0 _ (Nat.le_refl _) (fun _ => rfl) ⟨_, hk, fun hml => absurd (by omega) hml⟩
            | @slice b' p hk off' g' n' c1 c' hpg h0 hcc hroom =>
              cases hmx : mx0 with
              | some v =>
                rw [hmx] at exact_
                exact exact_ _ c' _ hcc (fun h => by cases h) ⟨_, hk, fun _ => ⟨rfl, rfl⟩⟩
              | none =>
                have hmc := a3 hmx
                have hr := hrun true c' hcc w
                rw [hmx] at hr
                refine ⟨_, run_slice_sl hu hs w hr (some _), ?_⟩
                simp only [Option.isNone_none, if_true]
                have hgs : g = s := by
                  simp only [Bool.or_eq_true] at hg
                  rcases hg with hg | hg
                  · exact absurd (Nat.eq_of_beq_eq_true hg) h0
                  · exact Nat.eq_of_beq_eq_true hg
                subst hgs
                by_cases hcl : c' = l
                · rw [if_pos hcl, show h - l = 0 by omega, show m - l = 0 by omega, show c' - l = 0 by omega]
                  exact .sliceZ hk _ _ _
                · rw [if_neg hcl]
                  simp only [Option.map_some, add_eq, Nat.add_assoc]
                  refine .slice hk _ g _ _ _ hpg h0 (by omega) ?_
                  have : l * g + (c' - l) * g = c' * g := by rw [← Nat.add_mul]; congr 1; omega
                  omega
            | sliceDead hd _ _ a' c' hc hle =>
              have hr := hrun true c' hle w
              cases hmx : mx0 with
              | some v =>
                rw [hmx] at hr
                refine ⟨_, run_slice_sl hu hs w hr (some a'), ?_⟩
                simp only [Option.isNone_some, Bool.false_eq_true, if_false]
                split <;> exact .sliceDead (a := ⟨b, off + l * s, some 0⟩) hd _ _ _ _ (fun _ => rfl) (Nat.le_refl _)
              | none =>
                have hmc := a3 hmx
                rw [hmx] at hr
                refine ⟨_, run_slice_sl hu hs w hr (some a'), ?_⟩
                simp only [Option.isNone_none, if_true]
                split <;> exact .sliceDead (a := ⟨b, off + l * s, some g⟩) hd _ _ _ _ (fun hg => by rw [hc hg, hmc]) (by omega)
          · cases e
    · cases e
  · cases e
end

section
/- A checked evaluator of closed calls, part J: the builtins; append. -/
variable {ok : Code → Prop} {P : Program}

theorem LR.append {K : Pm} {a a' b b' : List Value} (h : LR K a a') (k : LR K b b') : LR K (a ++ b) (a' ++ b') := by
  refine ⟨by simp [h.1, k.1], fun i v v' hv hv' => ?_⟩
  by_cases hi : i < a.length
  · rw [List.getElem?_append_left hi] at hv
    rw [List.getElem?_append_left (h.1 ▸ hi)] at hv'
    exact h.2 i v v' hv hv'
  · rw [List.getElem?_append_right (by omega)] at hv
    rw [List.getElem?_append_right (by rw [← h.1]; omega), ← h.1] at hv'
    exact k.2 _ v v' hv hv'

/-- The first n elements of a slice. -/
noncomputable def aCells (size n : Nat) (x : Value) (h : Hp) : Option (List Value × Hp) :=
  match x with
  | .slice a l _ => match Nat.ble n l with
    | true => match n * size with
      | 0 => some ([], h)
      | Nat.succ m => match a with
        | some ⟨b, off, _⟩ => match h.heap.get b with
          | some (.cells tr _ _) => match rd tr (Nat.succ m) off with
            | some vs => touchK h b fun h => some (vs, h)
            | none => none
          | _ => none
        | none => none
    | false => none
  | _ => none
theorem aCells_ok {size n : Nat} {x : Value} {h h' : Hp} {l : List Value} (e : aCells size n x h = some (l, h')) :
    PF h h' ∧ h'.heap = h.heap ∧ h'.next = h.next ∧ h'.wr = h.wr ∧ l.length = n * size ∧ ∀ K x0, VR K x x0 → ∀ (G : Nat → Prop), (∀ b, bit h'.tch b → G b) → ∀ w, Pre ok K h w G →
      ∃ l', LR K l l' ∧ ∀ w', w'.heap = w.heap → (Builtin.firstCells size n x0).run P w' = .ok ⟨l'⟩ w' := by
  unfold aCells at e
  split at e
  · rename_i a len cap
    split at e
    · rename_i hn
      have hn := Nat.le_of_ble_eq_true hn
      split at e
      · rename_i h0
        simp only [Option.some.injEq, Prod.mk.injEq] at e
        obtain ⟨rfl, rfl⟩ := e
        refine ⟨PF.refl _, rfl, rfl, rfl, h0.symm, fun K x0 hx G hG w hp => ⟨[], LR.nil K, fun w' _ => ?_⟩⟩
        obtain ⟨b', c', rfl, _⟩ := hx.slice_form
        cases b' with
        | none => rfl
        | some a' => simp only [Builtin.firstCells, h0]; rfl
      · rename_i m h0
        split at e
        · rename_i b off sp
          split at e
          · rename_i tr el g hb
            cases hr : rd tr (Nat.succ m) off with
            | none => simp only [hr] at e; cases e
            | some vs =>
              simp only [hr, touchK_eq, Option.some.injEq, Prod.mk.injEq] at e
              obtain ⟨rfl, rfl⟩ := e
              refine ⟨PF.touch _ _, rfl, rfl, rfl, by rw [(rd_some hr).1, h0], fun K x0 hx G hG w hp => ?_⟩
              obtain ⟨p, c, hk, _, hw, hcs, hc⟩ := cont_cells hp (hG b (bit_or.2 (.inr (bit_one.2 rfl)))) hb
              have key : ∀ w', w'.heap = w.heap → ∃ l', LR K vs l' ∧ (loadCells ⟨p.blk, p.sh + off, none⟩ (Nat.succ m)).run P w' = .ok ⟨l'⟩ w' := fun w' hw' => by
                obtain ⟨l', h1, h2, _⟩ := cells_read (P := P) (w := w') (by rw [hw']; exact hw) hc hr
                exact ⟨l', h1, h2⟩
              have key2 : ∃ l', LR K vs l' ∧ ∀ w', w'.heap = w.heap → (loadCells ⟨p.blk, p.sh + off, none⟩ (Nat.succ m)).run P w' = .ok ⟨l'⟩ w' := by
                obtain ⟨l', h1, h2, h3⟩ := cells_read (P := P) hw hc hr
                refine ⟨l', h1, fun w' hw' => ?_⟩
                obtain ⟨l2, k1, k2, k3⟩ := cells_read (P := P) (w := w') (by rw [hw']; exact hw) hc hr
                have : l2 = l' := by
                  apply List.ext_getElem?
                  intro j
                  by_cases hj : j < l2.length
                  · have hj' : j < l'.length := by rw [← h1.1, k1.1]; exact hj
                    have a1 := k3 j _ (List.getElem?_eq_getElem hj)
                    have a2 := h3 j _ (List.getElem?_eq_getElem hj')
                    rw [List.getElem?_eq_getElem hj, List.getElem?_eq_getElem hj', ← a1, ← a2]
                  · rw [List.getElem?_eq_none (by omega), List.getElem?_eq_none (by rw [← h1.1, k1.1]; omega)]
                rw [← this]; exact k2
              obtain ⟨l', hl', hrun⟩ := key2
              refine ⟨l', hl', fun w' hw' => ?_⟩
              have hnz : ¬ (n = 0) := fun e0 => by rw [e0, Nat.zero_mul] at h0; cases h0
              cases hx with
              | sliceX hk' => rw [hk] at hk'; cases hk'; simp only [Builtin.firstCells, h0]; exact hrun w' hw'
              | sliceZ hk' => omega
              | slice hk' => rw [hk] at hk'; cases hk'; simp only [Builtin.firstCells, h0]; exact hrun w' hw'
              | sliceDead hd => rw [hk] at hd; cases hd
          · cases e
        · cases e
    · cases e
  · cases e

/-- n times these cells. -/
noncomputable def repL (z : List Value) : Nat → List Value
  | 0 => []
  | n + 1 => z ++ repL z n
theorem repL_len (z : List Value) (n : Nat) : (repL z n).length = n * z.length := by
  induction n with
  | zero => simp [repL]
  | succ n ih => simp [repL, ih, Nat.succ_mul, Nat.add_comm]
theorem repL_get (z : List Value) (n i : Nat) (hi : i < n * z.length) : (repL z n)[i]? = z[i % z.length]? := by
  induction n generalizing i with
  | zero => simp at hi
  | succ n ih =>
    unfold repL
    by_cases h : i < z.length
    · rw [List.getElem?_append_left h, Nat.mod_eq_of_lt h]
    · rw [List.getElem?_append_right (by omega), ih (i - z.length) (by rw [Nat.succ_mul] at hi; omega)]
      congr 1
      conv => rhs; rw [show i = (i - z.length) + z.length by omega, Nat.add_mod_right]
theorem zeros_eq (z : Array Value) (n : Nat) : ((Array.range (n * z.size)).map fun i => z[i % z.size]!) = ⟨repL z.toList n⟩ := by
  apply Array.ext'
  apply List.ext_getElem?
  intro i
  by_cases hi : i < n * z.size
  · have hz : 0 < z.size := by
      rcases Nat.eq_zero_or_pos z.size with h | h
      · rw [h] at hi; omega
      · exact h
    have hlt : i % z.size < z.size := Nat.mod_lt _ hz
    have h1 : (repL z.toList n)[i]? = z.toList[i % z.size]? := by
      have := repL_get z.toList n i (by simpa using hi)
      simpa using this
    show _ = (repL z.toList n)[i]?
    rw [h1]
    simp [hi, hlt, getElem!_pos z (i % z.size) hlt]
  · rw [List.getElem?_eq_none (by simp; omega), List.getElem?_eq_none]
    show (repL z.toList n).length ≤ i
    rw [repL_len]; simpa using hi
theorem LR.rep {K : Pm} {z : List Value} (h : LR K z z) : ∀ n, LR K (repL z n) (repL z n)
  | 0 => LR.nil K
  | n + 1 => h.append (LR.rep h n)
/-- The zero cells of a type: they name no block. -/
noncomputable def zcells (P : Program) (t : TypeId) : Option (List Value) :=
  match zeroP P t with
  | some z => match gnd 9 z with
    | true => some (cellsOf z)
    | false => none
  | none => none
theorem zcells_ok {t : TypeId} {z : List Value} (h : zcells P t = some z) : ∃ v, zeroP P t = some v ∧ v.cells = ⟨z⟩ ∧ ∀ K, LR K z z := by
  unfold zcells at h
  cases hz : zeroP P t with
  | none => simp only [hz] at h; cases h
  | some v =>
    simp only [hz] at h
    cases hg : gnd 9 v with
    | false => simp only [hg] at h; cases h
    | true =>
      simp only [hg, Option.some.injEq] at h
      subst h
      exact ⟨v, rfl, by rw [cellsOf_eq], fun K => (gnd_vr 9 v hg K).1.cells⟩

theorem growBy_le (n : Nat) : ∀ r c, c ≤ 2 * n + 192 → Builtin.growBy n r c ≤ 2 * n + 192 := by
  intro r
  induction r with
  | zero => intro c h; exact h
  | succ r ih =>
    intro c h
    unfold Builtin.growBy
    split
    · exact h
    · exact ih _ (by omega)
theorem nextslicecap_le (n c : Nat) (h : c < n) : Builtin.nextslicecap n c ≤ 2 * n + 192 := by
  unfold Builtin.nextslicecap
  split
  · omega
  · split
    · omega
    · exact growBy_le n 4 c (by omega)

/-! ### append -/
/-- What is appended: cells, and how many elements. -/
noncomputable def aNews (P : Program) (elem : TypeId) (size : Nat) (xt : TypeId) (x : Value) (h : Hp) : Option (Nat × List Value × Hp) :=
  match P.underlying xt with
  | some (.int _) => match x with
    | .int .i64 (.ofNat n) => match Nat.ble n 1000000 && Nat.ble 1 n with
      | true => match zcells P elem with
        | some z => match P.info? elem with
          | some i => match Nat.ble (n * i.bytes) 140737488355328 && Nat.beq z.length size with
            | true => forceN n fun n => some (n, repL z n, h)
            | false => none
          | none => none
        | none => none
      | false => none
    | _ => none
  | some (.slice _) => match x with
    | .slice a n c => match aCells size n (.slice a n c) h with
      | some (l, h) => some (n, l, h)
      | none => none
    | _ => none
  | _ => none
noncomputable def aAppend (P : Program) (st xt : TypeId) (s x : Value) (h : Hp) : Option (Value × Hp) :=
  match P.underlying st with
  | some (.slice elem) => match P.info? elem with
    | some ie => match aNews P elem ie.size xt x h with
      | some (n, news, h1) => match s with
        | .slice base l c => forceN (l + n) fun need => match Nat.ble 1 ie.size with
         | true => match Nat.ble need c with
          | true => match news with
            | [] => some (.slice base need c, h1)
            | _ => match base with
              | some ⟨b, off, sp⟩ => aStoreCells h1 b (off + l * ie.size) news fun h2 => some (.slice (some ⟨b, off, sp⟩) need c, h2)
              | none => none
          | false => match Nat.ble (need * ie.bytes) 140737488355328 && Nat.ble need 1099511627776 with
            | true => match aCells ie.size l (.slice base l c) h1, zcells P elem with
              | some (old, h2), some z => match Nat.beq z.length ie.size with
                | true => match base with
                  | some ⟨b, _, some (Nat.succ g)⟩ => match h2.heap.get b with
                    | some (.cells _ el g') => match Nat.beq el elem && Nat.beq (Nat.succ g) ie.size && Nat.beq g' ie.size && Nat.ble (b + 1) h2.next && news.all (·.oneCell') with
                      | true => rowK (old ++ news) fun tr => turnK h2 b (.cells tr elem ie.size) fun id h3 => some (.slice (some ⟨id, 0, some ie.size⟩) need need, h3)
                      | false => none
                    | _ => none
                  | some ⟨_, _, none⟩ => none
                  | _ => aRow h2 elem ie.size (old ++ news) fun id h3 => some (.slice (some ⟨id, 0, some ie.size⟩) need need, h3)
                | false => none
              | _, _ => none
            | false => none
         | false => none
        | _ => none
      | none => none
    | none => none
  | _ => none
/-- What is appended, on the other side. -/
inductive News (P : Program) (elem xt : TypeId) (ie : TypeInfo) (n : Nat) (news : List Value) (w : World) : Value → Prop where
  | zeros (k : IntKind) (z : Value) (hu : P.underlying xt = some (.int k)) (h1 : n ≤ 1000000) (h0 : n ≠ 0) (h2 : n * ie.bytes ≤ 140737488355328) (hz : zeroP P elem = some z) (hzs : z.cells.size = ie.size)
      (hn : news = repL z.cells.toList n) : News P elem xt ie n news w (.int .i64 (n : Int))
  | slice (e : TypeId) (a : Option Addr) (c : Nat) (hu : P.underlying xt = some (.slice e)) (hl : news.length = n * ie.size)
      (hn : ∀ w', w'.heap = w.heap → (Builtin.firstCells ie.size n (.slice a n c)).run P w' = .ok ⟨news⟩ w') : News P elem xt ie n news w (.slice a n c)
theorem run_append_fits {st xt elem ty : TypeId} {ie : TypeInfo} {base : Option Addr} {l c n : Nat} {x : Value} {news : List Value} {w w' : World}
    (hu : P.underlying st = some (.slice elem)) (hi : P.info? elem = some ie) (hn : l + n ≤ c) (hx : News P elem xt ie n news w x) (hsz : 1 ≤ ie.size)
    (hs : match base with | some a => (storeCells (a.add (l * ie.size)) news).run P w = .ok () w' | none => w' = w) :
    (Builtin.append_ #[st, xt] ty #[.slice base l c, x]).run P w = .ok (.slice base (l + n) c) w' := by
  cases hx with
  | zeros k z hxu h1 h0 h2 hz hzs hnw =>
    have hw : IntKind.i64.wrap (n : Int) = n := by rw [IntKind.wrap_i64]; omega
    have hneg : ¬ ((n : Int) < 0) := by omega
    have h48i : ¬ (281474976710656 < (n : Int) * (ie.bytes : Int)) := by rw [← Int.natCast_mul]; omega
    have hzr : (zeroValue elem).run P w = .ok z w := zeroP_run hz w
    have hzc : Builtin.zeroCells z.cells n = ⟨news⟩ := by unfold Builtin.zeroCells; rw [zeros_eq, hnw]
    have hns : ¬ (n * ie.size = 0) := Nat.mul_ne_zero h0 (by omega)
    cases base with
    | none => subst hs; simp [Builtin.append_, run_underlying hu, run_underlying hxu, sizeOf, typeInfo, hi, asInt, asIntOf, hw, hn, hneg, h48i, hns, hzr, hzc]
    | some a =>
      have hs' : (storeCells (a.add (l * ie.size)) news).run P w = .ok () w' := hs
      simp [Builtin.append_, run_underlying hu, run_underlying hxu, sizeOf, typeInfo, hi, asInt, asIntOf, hw, hn, hneg, h48i, hns, hzr, hzc, hs']
  | slice e a c' hxu hl hnw =>
    have hnw := hnw w rfl
    cases base with
    | none => subst hs; simp [Builtin.append_, run_underlying hu, run_underlying hxu, sizeOf, typeInfo, hi, Builtin.lenOf, hn, hnw]
    | some b =>
      have hs' : (storeCells (b.add (l * ie.size)) news).run P w = .ok () w' := hs
      simp [Builtin.append_, run_underlying hu, run_underlying hxu, sizeOf, typeInfo, hi, Builtin.lenOf, hn, hnw, hs']
theorem run_append_grows {st xt elem ty : TypeId} {ie : TypeInfo} {base : Option Addr} {l c n : Nat} {x : Value} {news olds : List Value} {w : World} {z : Value}
    (hu : P.underlying st = some (.slice elem)) (hi : P.info? elem = some ie) (hn : c < l + n) (hx : News P elem xt ie n news w x) (hsz : 1 ≤ ie.size) (hz : zeroP P elem = some z)
    (h1 : (l + n) * ie.bytes ≤ 140737488355328) (h2 : l + n ≤ 1099511627776)
    (ho : ∀ w', w'.heap = w.heap → (Builtin.firstCells ie.size l (.slice base l c)).run P w' = .ok ⟨olds⟩ w') :
    (Builtin.append_ #[st, xt] ty #[.slice base l c, x]).run P w =
      .ok (.slice (some ⟨w.heap.size, 0, none⟩) (l + n) (grownCap w (l + n) c elem)) (w.drew.alloc (.cells ((olds ++ news) ++ repL z.cells.toList (grownCap w (l + n) c elem - (l + n))).toArray elem)) := by
  have hn' : ¬ (l + n ≤ c) := by omega
  have h63' : ¬ (9223372036854775807 < ((l : Int) + (n : Int))) := by omega
  have h48' : ¬ (281474976710656 < Builtin.nextslicecap (l + n) c * ie.bytes) := by have := growslice_fits hn h1; omega
  have hzr : (zeroValue elem).run P w.drew = .ok z w.drew := zeroP_run hz _
  have hold := ho w.drew rfl
  have hrest : Builtin.zeroCells z.cells (grownCap w (l + n) c elem - (l + n)) = ⟨repL z.cells.toList (grownCap w (l + n) c elem - (l + n))⟩ := by unfold Builtin.zeroCells; rw [zeros_eq]
  have fin : ∀ (A B C : List Value) (w0 : World), w0.alloc (.cells ((⟨A⟩ : Array Value) ++ (⟨B⟩ : Array Value) ++ (⟨C⟩ : Array Value)) elem) = w0.alloc (.cells ((A ++ B) ++ C).toArray elem) := fun A B C w0 => by simp
  cases hx with
  | zeros k z' hxu h1' h0 h2' hz' hzs hnw =>
    have : z' = z := by rw [hz] at hz'; exact (Option.some.inj hz').symm
    subst this
    have hw : IntKind.i64.wrap (n : Int) = n := by rw [IntKind.wrap_i64]; omega
    have hneg : ¬ ((n : Int) < 0) := by omega
    have h48i : ¬ (281474976710656 < (n : Int) * (ie.bytes : Int)) := by rw [← Int.natCast_mul]; omega
    have hzc : Builtin.zeroCells z'.cells n = ⟨news⟩ := by unfold Builtin.zeroCells; rw [zeros_eq, hnw]
    have hns : ¬ (n * ie.size = 0) := Nat.mul_ne_zero h0 (by omega)
    simp [Builtin.append_, run_underlying hu, run_underlying hxu, sizeOf, typeInfo, hi, asInt, asIntOf, hw, hn', hneg, h48i, hns, h63', h48', Question.forced, hold, newRow, hzr, hzc]
    simp only [grownCap] at hrest
    simp only [hrest, grownCap]
    simp
  | slice e a c' hxu hl hnw =>
    have hnw := hnw w.drew rfl
    simp [Builtin.append_, run_underlying hu, run_underlying hxu, sizeOf, typeInfo, hi, Builtin.lenOf, hn', h63', h48', Question.forced, hold, hnw, newRow, hzr]
    simp only [grownCap] at hrest
    simp only [hrest, grownCap]
    simp
end

section
/- A checked evaluator of closed calls, part K: append, on both sides. -/
variable {ok : Code → Prop} {P : Program}

theorem aNews_ok {elem xt : TypeId} {ie : TypeInfo} {x : Value} {h h' : Hp} {n : Nat} {news : List Value} (hi : P.info? elem = some ie) (e : aNews P elem ie.size xt x h = some (n, news, h')) :
    PF h h' ∧ h'.heap = h.heap ∧ h'.next = h.next ∧ h'.wr = h.wr ∧ news.length = n * ie.size ∧ ∀ K x0, VR K x x0 → ∀ (G : Nat → Prop), (∀ b, bit h'.tch b → G b) → ∀ w, Pre ok K h w G →
      ∃ news', LR K news news' ∧ News P elem xt ie n news' w x0 := by
  unfold aNews at e
  split at e
  · rename_i k hxu
    split at e
    · rename_i n'
      split at e
      · rename_i hn
        simp only [Bool.and_eq_true] at hn
        have hn1 := Nat.le_of_ble_eq_true hn.1
        have hn2 := Nat.le_of_ble_eq_true hn.2
        cases hz : zcells P elem with
        | none => simp only [hz] at e; cases e
        | some z =>
          simp only [hz, hi] at e
          split at e
          · rename_i hb
            simp only [Bool.and_eq_true] at hb
            have hb1 := Nat.le_of_ble_eq_true hb.1
            have hb2 := Nat.eq_of_beq_eq_true hb.2
            simp only [forceN_eq, Option.some.injEq, Prod.mk.injEq] at e
            obtain ⟨rfl, rfl, rfl⟩ := e
            obtain ⟨v, hv, hvc, hlr⟩ := zcells_ok hz
            refine ⟨PF.refl _, rfl, rfl, rfl, by rw [repL_len, hb2], fun K x0 hx G hG w hp => ⟨_, (hlr K).rep n', ?_⟩⟩
            cases hx
            exact .zeros k v hxu hn1 (by omega) hb1 hv (by rw [hvc]; simpa using hb2) (by rw [hvc])
          · cases e
      · cases e
    · cases e
  · rename_i el hxu
    split at e
    · rename_i a n' c
      cases hc : aCells ie.size n' (.slice a n' c) h with
      | none => simp only [hc] at e; cases e
      | some q =>
        obtain ⟨l, h1⟩ := q
        simp only [hc, Option.some.injEq, Prod.mk.injEq] at e
        obtain ⟨rfl, rfl, rfl⟩ := e
        obtain ⟨pf, e1, e2, e3, e4, hs⟩ := aCells_ok (ok := ok) (P := P) hc
        refine ⟨pf, e1, e2, e3, e4, fun K x0 hx G hG w hp => ?_⟩
        obtain ⟨l', h1, h2⟩ := hs K x0 hx G hG w hp
        obtain ⟨a', c', rfl, _⟩ := hx.slice_form
        exact ⟨l', h1, .slice el a' c' hxu (by rw [← h1.1, e4]) h2⟩
    · cases e
  · cases e

theorem Pre.same {K : Pm} {h h' : Hp} {w : World} {G : Nat → Prop} (hp : Pre ok K h w G) (e : h'.heap = h.heap) : Pre ok K h' w G := ⟨hp.kok, fun b hb => e ▸ hp.cont b hb⟩
theorem Post.of_drew {K K' : Pm} {h' : Hp} {w w' : World} {G : Nat → Prop} (h : Post ok K w.drew K' h' w' G) : Post ok K w K' h' w' G :=
  ⟨h.kok, h.cont, h.mono, h.off, h.new, ⟨h.frm.block, h.frm.size, h.frm.os, h.frm.tape, h.frm.output⟩⟩
theorem Pre.drew {K : Pm} {h : Hp} {w : World} {G : Nat → Prop} (hp : Pre ok K h w G) : Pre ok K h w.drew G := ⟨⟨hp.kok.lt, hp.kok.inj, hp.kok.gl⟩, hp.cont⟩

theorem aAppend_ok {st xt : TypeId} {s x r : Value} {h h' : Hp} (e : aAppend P st xt s x h = some (r, h')) :
    PF h h' ∧ ∀ K ty s0 x0, VR K s s0 → VR K x x0 → Sims ok P K h (Builtin.append_ #[st, xt] ty #[s0, x0]) r h' := by
  unfold aAppend at e
  split at e
  · rename_i elem hu
    cases hi : P.info? elem with
    | none => simp only [hi] at e; cases e
    | some ie =>
      simp only [hi] at e
      cases hn : aNews P elem ie.size xt x h with
      | none => simp only [hn] at e; cases e
      | some q =>
        obtain ⟨n, news, h1⟩ := q
        simp only [hn] at e
        obtain ⟨pf1, he1, he2, he3, hlen, hnews⟩ := aNews_ok (ok := ok) hi hn
        cases s with
        | slice base l c =>
          simp only [forceN_eq] at e
          split at e
          · rename_i hsz
            have hsz := Nat.le_of_ble_eq_true hsz
            cases hfit : Nat.ble (l + n) c with
            | true =>
              have hfit' := Nat.le_of_ble_eq_true hfit
              simp only [hfit] at e
              cases news with
              | nil =>
                simp only [Option.some.injEq, Prod.mk.injEq] at e
                obtain ⟨rfl, rfl⟩ := e
                refine ⟨pf1, fun K ty s0 x0 hs hx G hG w hp _ => ?_⟩
                obtain ⟨news', hl, hN⟩ := hnews K x0 hx G hG w hp
                have : news' = [] := List.length_eq_zero_iff.1 hl.1.symm
                subst this
                have hrun : ∀ (b' : Option Addr) c', c ≤ c' → (Builtin.append_ #[st, xt] ty #[.slice b' l c', x0]).run P w = .ok (.slice b' (l + n) c') w := fun b' c' hc =>
                  run_append_fits hu hi (by omega) hN hsz (by cases b' <;> rfl)
                have hpost : Post ok K w K h1 w G := Post.same hp he1
                cases hs with
                | sliceNil => exact ⟨K, _, w, hrun _ _ (Nat.le_refl _), .sliceNil _ _, hpost⟩
                | sliceX hk => exact ⟨K, _, w, hrun _ _ (Nat.le_refl _), .sliceX hk _ _ _, hpost⟩
                | sliceZ hk => exact ⟨K, _, w, hrun _ _ (Nat.le_refl _), by rw [show 0 + n = 0 by omega]; exact .sliceZ hk _ _ _, hpost⟩
                | slice hk _ _ _ _ _ hg h0 hc hr => exact ⟨K, _, w, hrun _ _ hc, .slice hk _ _ _ _ _ hg h0 hc hr, hpost⟩
                | sliceDead hd _ _ _ _ hc hle => exact ⟨K, _, w, hrun _ _ hle, .sliceDead hd _ _ _ _ hc hle, hpost⟩
              | cons v0 vs0 =>
                simp only at e
                cases base with
                | none => cases e
                | some ba =>
                  obtain ⟨b, off, sp⟩ := ba
                  simp only at e
                  obtain ⟨h2, e, hbt, pf2, hnx, hst⟩ := aStoreCells_ok (ok := ok) (P := P) e
                  simp only [Option.some.injEq, Prod.mk.injEq] at e
                  obtain ⟨rfl, rfl⟩ := e
                  refine ⟨pf1.trans pf2, fun K ty s0 x0 hs hx G hG w hp _ => ?_⟩
                  obtain ⟨news', hl, hN⟩ := hnews K x0 hx G (fun y hy => hG y (pf2.tch y hy)) w hp
                  obtain ⟨p, w', hk, hrun, hpost⟩ := hst K news' hl G hG w (hp.same he1)
                  have hn0 : n ≠ 0 := fun h0 => by subst h0; simp at hlen
                  have hrun' : ∀ c', c ≤ c' → (Builtin.append_ #[st, xt] ty #[.slice (some ⟨p.blk, p.sh + off, none⟩) l c', x0]).run P w = .ok (.slice (some ⟨p.blk, p.sh + off, none⟩) (l + n) c') w' := fun c' hc => by
                    refine run_append_fits hu hi (by omega) hN hsz ?_
                    show (storeCells ((⟨p.blk, p.sh + off, none⟩ : Addr).add (l * ie.size)) news').run P w = .ok () w'
                    rw [add_eq, Nat.add_assoc]; exact hrun
                  cases hs with
                  | sliceX hk' => rw [hk] at hk'; cases hk'; exact ⟨K, _, w', hrun' _ (Nat.le_refl _), .sliceX hk _ _ _, hpost⟩
                  | sliceZ hk' => omega
                  | slice hk' _ _ _ _ _ hg h0 hc hr => rw [hk] at hk'; cases hk'; exact ⟨K, _, w', hrun' _ hc, .slice hk _ _ _ _ _ hg h0 hc hr, hpost⟩
                  | sliceDead hd => rw [hk] at hd; cases hd
            | false =>
              have hgrow : c < l + n := by
                rcases Nat.lt_or_ge c (l + n) with h0 | h0
                · exact h0
                · rw [Nat.ble_eq_true_of_le h0] at hfit; cases hfit
              simp only [hfit] at e
              split at e
              · rename_i hbd
                simp only [Bool.and_eq_true] at hbd
                have hb1 := Nat.le_of_ble_eq_true hbd.1
                have hb2 := Nat.le_of_ble_eq_true hbd.2
                cases ho : aCells ie.size l (.slice base l c) h1 with
                | none => simp only [ho] at e; cases e
                | some q2 =>
                  obtain ⟨old, h2⟩ := q2
                  cases hz : zcells P elem with
                  | none => simp only [ho, hz] at e; cases e
                  | some z =>
                    simp only [ho, hz] at e
                    cases hzl : Nat.beq z.length ie.size with
                    | false => simp only [hzl] at e; cases e
                    | true =>
                      simp only [hzl] at e
                      have hzl := Nat.eq_of_beq_eq_true hzl
                      obtain ⟨pf2, f1, f2, f3, holen, hold⟩ := aCells_ok (ok := ok) (P := P) ho
                      obtain ⟨zv, hzv, hzc, _⟩ := zcells_ok hz
                      have hzl' : zv.cells.toList.length = ie.size := by rw [hzc]; exact hzl
                      have hheap : h2.heap = h.heap := f1.trans he1
                      -- what happens where the row must be copied
                      have fresh : ∀ (h3 : Hp) (G : Nat → Prop) (K : Pm) ty (b' : Option Addr) (c' : Nat) x0 w news' olds', c' < l + n → LR K news news' → LR K old olds' → News P elem xt ie n news' w x0 →
                          (∀ w', w'.heap = w.heap → (Builtin.firstCells ie.size l (.slice b' l c')).run P w' = .ok ⟨olds'⟩ w') →
                          (Builtin.append_ #[st, xt] ty #[.slice b' l c', x0]).run P w =
                            .ok (.slice (some ⟨w.heap.size, 0, none⟩) (l + n) (grownCap w (l + n) c' elem)) (w.drew.alloc (.cells ((olds' ++ news') ++ repL zv.cells.toList (grownCap w (l + n) c' elem - (l + n))).toArray elem)) ∧
                          l + n ≤ grownCap w (l + n) c' elem ∧
                          ((olds' ++ news') ++ repL zv.cells.toList (grownCap w (l + n) c' elem - (l + n))).length = grownCap w (l + n) c' elem * ie.size := by
                        intro h3 G K ty b' c' x0 w news' olds' hlt hl1 hl2 hN hO
                        have hge := grownCap_ge w (l + n) c' elem
                        refine ⟨run_append_grows hu hi hlt hN hsz hzv hb1 hb2 hO, hge, ?_⟩
                        rw [List.length_append, List.length_append, ← hl1.1, ← hl2.1, holen, hlen, repL_len, hzl', ← Nat.add_mul, ← Nat.add_mul]
                        congr 1; omega
                      -- an exact slice, or none
                      have plain : ∀ (e : aRow h2 elem ie.size (old ++ news) (fun id h3 => some (Value.slice (some ⟨id, 0, some ie.size⟩) (l + n) (l + n), h3)) = some (r, h')) (hex : ∀ K s0, VR K (.slice base l c) s0 → ∃ b', s0 = .slice b' l c),
                          PF h h' ∧ ∀ K ty s0 x0, VR K (.slice base l c) s0 → VR K x x0 → Sims ok P K h (Builtin.append_ #[st, xt] ty #[s0, x0]) r h' := by
                        intro e hex
                        obtain ⟨h3, e, pf3, hn3, hpost⟩ := aRow_ok (ok := ok) e
                        simp only [Option.some.injEq, Prod.mk.injEq] at e
                        obtain ⟨rfl, rfl⟩ := e
                        refine ⟨(pf1.trans pf2).trans pf3, fun K ty s0 x0 hs hx G hG w hp ha => ?_⟩
                        obtain ⟨news', hl1, hN⟩ := hnews K x0 hx G (fun y hy => hG y (pf3.tch y (pf2.tch y hy))) w hp
                        obtain ⟨olds', hl2, hO⟩ := hold K s0 hs G (fun y hy => hG y (pf3.tch y hy)) w (hp.same he1)
                        obtain ⟨b', rfl⟩ := hex K s0 hs
                        obtain ⟨hrun, hge, hl3⟩ := fresh h3 G K ty b' c x0 w news' olds' hgrow hl1 hl2 hN hO
                        have habs : K h2.next = .absent := ha h2.next (by rw [f2, he2]; exact Nat.le_refl _) (by omega)
                        have hq := hpost K (olds' ++ news') (repL zv.cells.toList (grownCap w (l + n) c elem - (l + n))) (hl2.append hl1) G w.drew ((hp.same hheap).drew) habs
                        refine ⟨_, _, _, hrun, ?_, hq.of_drew⟩
                        have := VR.slice (K := upK K h2.next (.live ⟨w.drew.heap.size, 0, ie.size, ((olds' ++ news') ++ repL zv.cells.toList (grownCap w (l + n) c elem - (l + n))).length⟩)) (upK_same _ _ _) 0 ie.size (l + n) (l + n) (grownCap w (l + n) c elem) rfl (by omega) hge (by simp only [hl3]; omega)
                        simpa using this
                      cases base with
                      | none => exact plain e fun K s0 hs => by cases hs; exact ⟨_, rfl⟩
                      | some ba =>
                        obtain ⟨b, off, sp⟩ := ba
                        cases sp with
                        | none => simp only at e; cases e
                        | some g =>
                          cases g with
                          | zero =>
                            refine plain e fun K s0 hs => ?_
                            cases hs with
                            | sliceX => exact ⟨_, rfl⟩
                            | sliceZ => exact ⟨_, rfl⟩
                            | slice _ _ _ _ _ _ _ h0 => exact absurd rfl h0
                            | sliceDead _ _ _ _ _ hc => rw [hc rfl]; exact ⟨_, rfl⟩
                          | succ g =>
                            simp only at e
                            cases hb : h2.heap.get b with
                            | none => simp only [hb] at e; cases e
                            | some ob =>
                              cases ob with
                              | cells tr0 el g' =>
                                simp only [hb] at e
                                split at e
                                · rename_i hq
                                  simp only [Bool.and_eq_true] at hq
                                  obtain ⟨⟨⟨⟨q1, q2⟩, q3⟩, q4⟩, q5⟩ := hq
                                  have q1 := Nat.eq_of_beq_eq_true q1
                                  have q2 := Nat.eq_of_beq_eq_true q2
                                  have q3 := Nat.eq_of_beq_eq_true q3
                                  have q4 := Nat.le_of_ble_eq_true q4
                                  subst q1
                                  obtain ⟨tr, e, htr⟩ := rowK_some e
                                  obtain ⟨H, e, hH⟩ := turnK_some e
                                  simp only [Option.some.injEq, Prod.mk.injEq] at e
                                  obtain ⟨rfl, rfl⟩ := e
                                  have pft : PF h2 (turnH h2 b H) := PF.turn q4 hH
                                  refine ⟨(pf1.trans pf2).trans pft, fun K ty s0 x0 hs hx G hG w hp ha => ?_⟩
                                  obtain ⟨news', hl1, hN⟩ := hnews K x0 hx G (fun y hy => hG y (pft.tch y (pf2.tch y hy))) w hp
                                  obtain ⟨olds', hl2, hO⟩ := hold K s0 hs G (fun y hy => hG y (pft.tch y hy)) w (hp.same he1)
                                  have habs : K h2.next = .absent := ha h2.next (by rw [f2, he2]; exact Nat.le_refl _) (Nat.lt_succ_self _)
                                  have hp2 : Pre ok K h2 w G := hp.same hheap
                                  have hGb : G b := hG b (bit_or.2 (.inl (bit_or.2 (.inr (bit_one.2 rfl)))))
                                  obtain ⟨p, c0, hk, hpe, hw, hcs, hc⟩ := cont_cells hp2 hGb hb
                                  have hp0 : p.esz ≠ 0 := by omega
                                  have hlr := hl2.append hl1
                                  -- elsewhere
                                  have away : ∀ a' c', c' < l + n → s0 = .slice (some a') l c' → ∃ K' v' w', (Builtin.append_ #[st, xt] ty #[s0, x0]).run P w = .ok v' w' ∧
                                      VR K' (.slice (some ⟨h2.next, 0, some ie.size⟩) (l + n) (l + n)) v' ∧ Post ok K w K' (turnH h2 b H) w' G := by
                                    rintro a' c' hlt rfl
                                    obtain ⟨hrun, hge, hl3⟩ := fresh h2 G K ty (some a') c' x0 w news' olds' hlt hl1 hl2 hN hO
                                    refine ⟨_, _, _, hrun, ?_, Post.turn (p' := ⟨w.heap.size, 0, ie.size, ((olds' ++ news') ++ repL zv.cells.toList (grownCap w (l + n) c' el - (l + n))).length⟩) hp2 hk hp0 habs hH ⟨rfl, _, rfl, by simp, fun i v hv => ?_⟩ (.inr ⟨rfl, w.drew, ⟨rfl, rfl, rfl, rfl⟩, rfl⟩)⟩
                                    · have := VR.slice (K := upK (upK K b .dead) h2.next (.live ⟨w.heap.size, 0, ie.size, ((olds' ++ news') ++ repL zv.cells.toList (grownCap w (l + n) c' el - (l + n))).length⟩)) (upK_same _ _ _) 0 ie.size (l + n) (l + n) (grownCap w (l + n) c' el) rfl (by omega) hge (by simp only [hl3]; omega)
                                      simpa using this
                                    · rw [htr] at hv
                                      obtain ⟨v', hv', hr⟩ := hlr.get hv
                                      have : i < (olds' ++ news').length := (List.getElem?_eq_some_iff.1 hv').1
                                      refine ⟨v', ?_, hr.mono (Mono.turn hk hp0 habs)⟩
                                      simp only [Nat.zero_add, List.getElem?_toArray]
                                      rw [List.getElem?_append_left this]; exact hv'
                                  cases hs with
                                  | sliceZ hk' => exact away _ 0 (by omega) rfl
                                  | sliceDead hd => rw [hk] at hd; cases hd
                                  | slice hk' _ _ _ _ c' hg h0 hcc hroom =>
                                    rw [hk] at hk'; cases hk'
                                    by_cases hin : l + n ≤ c'
                                    · -- in its place
                                      have hsize : (l + n) * ie.size ≤ c' * ie.size := Nat.mul_le_mul_right _ hin
                                      rw [Nat.add_mul] at hsize
                                      rw [show g + 1 = ie.size from q2] at hroom
                                      have hnl : news'.length = n * ie.size := by rw [← hl1.1, hlen]
                                      have hol : olds'.length = l * ie.size := by rw [← hl2.1, holen]
                                      have hone : ∀ v ∈ news', v.oneCell' = true := fun v hv => by
                                        obtain ⟨i, hi, rfl⟩ := List.mem_iff_getElem.1 hv
                                        have hi' : i < news.length := by rw [hl1.1]; exact hi
                                        rw [(hl1.2 i news[i] _ (List.getElem?_eq_getElem hi') (List.getElem?_eq_getElem hi)).oneCell]
                                        exact List.all_eq_true.1 q5 _ (List.getElem_mem hi')
                                      have hst := run_storeCells_at P p.blk (p.sh + off + l * ie.size) el news' 0 c0 w hw (by omega) hone
                                      have hold' : ∀ i, i < l * ie.size → olds'[i]? = c0[p.sh + off + i]? := by
                                        have h1 := hO w rfl
                                        simp only [Builtin.firstCells] at h1
                                        have h2 := run_loadCells (P := P) w ⟨p.blk, p.sh + off, none⟩ (l * ie.size) (fun j => (c0[p.sh + off + j]?).getD undef) fun j hj => by
                                          rw [add_eq, cell_of_row w _ _ _ _ _ hw]
                                          have : p.sh + off + j < c0.size := by omega
                                          simp [this]
                                        rw [h2] at h1
                                        injection h1 with h1
                                        intro i hi
                                        have h3 : olds' = (List.range (l * ie.size)).map fun j => (c0[p.sh + off + j]?).getD undef := by
                                          have := congrArg Array.toList h1
                                          simpa using this.symm
                                        have : p.sh + off + i < c0.size := by omega
                                        rw [h3]; simp [hi, this]
                                      refine ⟨_, _, _, run_append_fits hu hi hin hN hsz (w' := w.setRow p.blk _) (by
                                        show (storeCells ((⟨p.blk, p.sh + off, none⟩ : Addr).add (l * ie.size)) news').run P w = _
                                        rw [add_eq]; exact hst), ?_, Post.turn (p' := ⟨p.blk, p.sh + off, ie.size, p.size⟩) hp2 hk hp0 habs hH ⟨rfl, _, rfl, ?_, fun i v hv => ?_⟩ (.inl ⟨rfl, put_setRow hw⟩)⟩
                                      · have := VR.slice (K := upK (upK K b .dead) h2.next (.live ⟨p.blk, p.sh + off, ie.size, p.size⟩)) (upK_same _ _ _) 0 ie.size (l + n) (l + n) c' rfl (by omega) hin (by simp only; omega)
                                        simpa using this
                                      · simp; omega
                                      · rw [htr] at hv
                                        obtain ⟨v', hv', hr⟩ := hlr.get hv
                                        have hil : i < (olds' ++ news').length := (List.getElem?_eq_some_iff.1 hv').1
                                        rw [List.length_append, hol, hnl] at hil
                                        refine ⟨v', ?_, hr.mono (Mono.turn hk hp0 habs)⟩
                                        have hs := seg_get (l := c0.toList) (vs := news') (o := p.sh + off + l * ie.size) (j := p.sh + off + i) (by simp; omega)
                                        simp only [Nat.add_zero, List.getElem?_toArray]
                                        rw [hs]
                                        by_cases hlo : i < l * ie.size
                                        · rw [if_neg (by omega)]
                                          rw [List.getElem?_append_left (by omega), hold' i hlo] at hv'
                                          simpa using hv'
                                        · rw [if_pos (by omega)]
                                          rw [List.getElem?_append_right (by omega), hol] at hv'
                                          rw [← hv']; congr 1; omega
                                    · exact away _ c' (by omega) rfl
                                · cases e
                              | _ => simp only [hb] at e; cases e
              · cases e
          · cases e
        | _ => cases e
  · cases e
end
end Go.Proofs.YtnbndciididpoaaGreat.Ev
