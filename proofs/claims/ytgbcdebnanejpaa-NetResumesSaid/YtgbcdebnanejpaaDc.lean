/- The law for drawn regions whose operations that make memory wait for one another in a chain. Over any program. -/
import Derived.Test.YtgbcdebnanejpaaDl
import Derived.Test.YtgbcdebnanejpaaDq
namespace Go.Proofs.Ytgbcdebnanejpaa
set_option linter.unusedVariables false
open Go

def depsOf (l : List Oper) (i : Nat) : List Nat := match l[i]? with
  | none => []
  | some o => (o.after.toList.filter (Region.binds .any)).map (·.on)
/-- Each of T waits for the one before it. -/
def chainB (l : List Oper) (T : List Nat) : Bool := (List.range T.length).all fun k => (T.getD k 0 < l.length) && (k == 0 || (marks l l.length (depsOf l (T.getD k 0))).contains (T.getD (k - 1) 0)) && (List.range k).all fun j => T.getD j 0 != T.getD k 0
/-- The values: those of the chain, those that are known. -/
def mixV (T : List Nat) (hv lv : Nat → Value) : Nat → Value := fun j => if T.contains j then hv j else lv j
section
variable {P : Program} {Q : Exit → Act → World → Prop}
theorem wp_region_chain {id : Nat} {a : Act} {w : World} {l : List Oper} (T : List Nat) (lv : Nat → Value) (St : Nat → (Nat → Value) → World → Prop) (hT : chainB l T = true) (hm : P.follows .mixedOrders = true) (hlex : lexOkB l = true) (hdst : dstOk l = true) (hgd : l.all (fun o => o.guard.isNone) = true)
    (hI : St 0 (fun _ => undef) { w with drawn := w.drawn + 1 })
    (hstep : ∀ (s : Nat) (hv : Nat → Value) (W : World) (i : Nat) (o : Oper) (b : Act), l[i]? = some o → T.contains i = false → s ≤ T.length → (∀ k, k < T.length → (marks l l.length [T.getD k 0]).contains i = true → s ≤ k) → St s hv W →
      Has l (mixV T hv lv) a (fun j => ∃ e ∈ o.after, Region.binds .any e = true ∧ e.on = j) b → (∀ t, lateT l i t = true → b.tmps.getD t undef = a.tmps.getD t undef) → o.wp P b W (fun a' w' => a' = b.put o.dst (lv i) ∧ w' = W) Q)
    (hheavy : ∀ (k : Nat) (hv : Nat → Value) (W : World) (o : Oper) (b : Act), k < T.length → l[T.getD k 0]? = some o → St k hv W →
      Has l (mixV T hv lv) a (fun j => ∃ e ∈ o.after, Region.binds .any e = true ∧ e.on = j) b → (∀ t, lateT l (T.getD k 0) t = true → b.tmps.getD t undef = a.tmps.getD t undef) → o.wp P b W (fun a' w' => ∃ v, a' = b.put o.dst v ∧ St (k + 1) (setV hv (T.getD k 0) v) w') Q)
    (hdone : ∀ hv w b, St T.length hv w → b = puts (mixV T hv lv) l 0 a → Q .normal b w) : (Code.region id l.toArray true).wp P Q a w := by
  have hT1 : ∀ k, k < T.length → T.getD k 0 < l.length ∧ (k = 0 ∨ (marks l l.length (depsOf l (T.getD k 0))).contains (T.getD (k - 1) 0) = true) ∧ ∀ j, j < k → T.getD j 0 ≠ T.getD k 0 := fun k hk => by
    have h1 := List.all_eq_true.1 hT k (List.mem_range.2 hk)
    rw [Bool.and_eq_true, Bool.and_eq_true, Bool.or_eq_true] at h1
    obtain ⟨⟨h1, h2⟩, h3⟩ := h1
    refine ⟨by simpa using h1, by simpa using h2, fun j hj => ?_⟩
    have := List.all_eq_true.1 h3 j (List.mem_range.2 hj)
    simpa using this
  have hmem : ∀ k, k < T.length → T.contains (T.getD k 0) = true := fun k hk => by
    rw [List.contains_iff_mem, List.getD_eq_getElem?_getD, List.getElem?_eq_getElem hk]
    exact List.getElem_mem hk
  have hidx : ∀ i, T.contains i = true → ∃ k, k < T.length ∧ T.getD k 0 = i := fun i hi => by
    rw [List.contains_iff_mem] at hi
    obtain ⟨k, hk, e⟩ := List.mem_iff_getElem.1 hi
    exact ⟨k, hk, by rw [List.getD_eq_getElem?_getD, List.getElem?_eq_getElem hk]; exact e⟩
  have hinj : ∀ j k, j < T.length → k < T.length → T.getD j 0 = T.getD k 0 → j = k := fun j k hj hk e => by
    rcases Nat.lt_trichotomy j k with h | h | h
    · exact absurd e ((hT1 k hk).2.2 j h)
    · exact h
    · exact absurd e.symm ((hT1 j hj).2.2 k h)
  refine wp_region_any hm ?_
  refine wpAny_inv (fun L b W => ∃ val, b = accs L val l 0 a ∧ ClosedL l L ∧ ∃ s hv, s ≤ T.length ∧ (∀ k, k < T.length → (L.getD (T.getD k 0) false = true ↔ k < s)) ∧ St s hv W ∧ (∀ i, L.getD i false = true → val i = mixV T hv lv i)) (fun L b W i hs hi ⟨val, hb, hC, s, hv, hsT, hfl, hSt, hkn⟩ => ?_) (fun L b W hs hr ⟨val, hb, _, s, hv, hsT, hfl, hSt, hkn⟩ => ?_) _ _ _ _ (by simp) (by simp) ⟨fun _ => undef, by simpa using (init_false).symm, ?_, 0, fun _ => undef, Nat.zero_le _, fun k hk => ?_, by simpa using hI, fun i hi => ?_⟩
  · obtain ⟨h1, o, h2, h3⟩ := mem_ready.1 hi
    have ho : l[i]? = some o := by simpa using h2
    have hs' : L.size = l.length := by simpa using hs
    have hil := (List.getElem?_eq_some_iff.1 ho).1
    have hlF : L.getD i false = false := by
      have : i < L.size := by omega
      simp [this] at h1 ⊢; exact h1
    subst hb
    have hlate : ∀ t, lateT l i t = true → (accs L val l 0 a).tmps.getD t undef = a.tmps.getD t undef := fun t ht => accs_late t l 0 a fun j o' hj hd => by
      rw [Nat.zero_add]
      have h7 := List.all_eq_true.1 ht o' (List.mem_of_getElem? hj)
      simp only [hd, beq_self_eq_true, Bool.not_true, Bool.false_or, List.any_eq_true, Bool.and_eq_true, beq_iff_eq] at h7
      obtain ⟨e, he, hb, hon⟩ := h7
      cases hL : L.getD j false with
      | false => rfl
      | true => have := hC j o' hj hL e (by simpa using he) hb; rw [hon, hlF] at this; cases this
    have hup : ∀ k, L.getD k false = true → (L.setIfInBounds i true).getD k false = true := fun k hk => by
      simp only [Array.getD_eq_getD_getElem?] at hk ⊢
      by_cases e : i = k
      · subst e; rw [Array.getElem?_setIfInBounds_self]; simp [hs', hil]
      · rw [Array.getElem?_setIfInBounds_ne e]; exact hk
    have hC' : ClosedL l (L.setIfInBounds i true) := fun j o' hj hL e he hb => by
      by_cases e' : i = j
      · subst e'
        rw [ho] at hj; cases hj
        exact hup _ (h3 e he hb)
      · refine hup _ (hC j o' hj ?_ e he hb)
        simp only [Array.getD_eq_getD_getElem?] at hL ⊢
        rw [Array.getElem?_setIfInBounds_ne e'] at hL; exact hL
    have hself : (L.setIfInBounds i true).getD i false = true := by
      simp only [Array.getD_eq_getD_getElem?]; rw [Array.getElem?_setIfInBounds_self]; simp [hs', hil]
    have hset : ∀ j, j ≠ i → (L.setIfInBounds i true).getD j false = L.getD j false := fun j hj => by
      simp only [Array.getD_eq_getD_getElem?]; rw [Array.getElem?_setIfInBounds_ne (Ne.symm hj)]
    have hh0 := ghost_has (L := L) (val := val) (a := a) hdst
    have hh : Has l (mixV T hv lv) a (fun j => ∃ e ∈ o.after, Region.binds .any e = true ∧ e.on = j) (accs L val l 0 a) :=
      ⟨fun j o1 t g1 g2 g5 g4 => by
        obtain ⟨e, he, hb, rfl⟩ := g5
        have hd := h3 e he hb
        exact (hh0.got _ o1 t g1 g2 hd g4).trans (hkn _ hd), hh0.kept, hh0.defers⟩
    refine wpOp_mono (fun a' w' h => ?_) (wpOp_of (by simpa using ho) (by have := List.all_eq_true.1 hgd o (List.mem_of_getElem? ho); simpa using this) (?_ : o.wp P _ W (fun a' w' => ∃ v, a' = (accs L val l 0 a).put o.dst v ∧ ∃ s' hv', s' ≤ T.length ∧ (∀ k, k < T.length → ((L.setIfInBounds i true).getD (T.getD k 0) false = true ↔ k < s')) ∧ St s' hv' w' ∧ (∀ j, (L.setIfInBounds i true).getD j false = true → setV val i v j = mixV T hv' lv j)) Q))
    · obtain ⟨v, h4, h5⟩ := h
      exact ⟨_, ghost_step hdst hs' ho hlF h4, hC', h5⟩
    · cases hTi : T.contains i with
      | false =>
        have hne : ∀ k, k < T.length → T.getD k 0 ≠ i := fun k hk e => by rw [← e, hmem k hk] at hTi; cases hTi
        refine Oper.wp_mono (fun a' w' h => ⟨_, h.1, s, hv, hsT, fun k hk => by rw [hset _ (hne k hk)]; exact hfl k hk, by rw [h.2]; exact hSt, fun j hj => ?_⟩) (hstep s hv W i o _ ho hTi hsT (fun k hk hmk => ?_) hSt hh hlate)
        · by_cases e : j = i
          · subst e; rw [setV_eq]; unfold mixV; rw [hTi]; rfl
          · rw [setV_ne e]; exact hkn j (by rwa [hset j e] at hj)
        · rcases Nat.lt_or_ge k s with hlt | hge
          · have hL := (hfl k hk).2 hlt
            have := marks_true hC l.length [T.getD k 0] (fun j hj => by rw [List.mem_singleton.1 hj]; exact hL) i (by simpa using hmk)
            rw [hlF] at this; cases this
          · exact hge
      | true =>
        obtain ⟨k, hk, rfl⟩ := hidx i hTi
        have hsk : s = k := by
          have hle : s ≤ k := by
            rcases Nat.lt_or_ge k s with hlt | hge
            · have := (hfl k hk).2 hlt
              rw [hlF] at this; cases this
            · exact hge
          rcases (hT1 k hk).2.1 with h0 | h0
          · omega
          · have hd : ∀ j ∈ depsOf l (T.getD k 0), L.getD j false = true := fun j hj => by
              unfold depsOf at hj
              rw [ho] at hj
              simp only [List.mem_map, List.mem_filter] at hj
              obtain ⟨e, ⟨q1, q2⟩, rfl⟩ := hj
              exact h3 e (by simpa using q1) q2
            have := marks_true hC l.length _ hd (T.getD (k - 1) 0) (by simpa using h0)
            have := (hfl (k - 1) (by omega)).1 this
            omega
        subst hsk
        refine Oper.wp_mono (fun a' w' h => ?_) (hheavy s hv W o _ hk ho hSt hh hlate)
        obtain ⟨v, h4, h5⟩ := h
        refine ⟨v, h4, s + 1, setV hv (T.getD s 0) v, hk, fun k' hk' => ?_, h5, fun j hj => ?_⟩
        · by_cases e : k' = s
          · subst e; rw [hself]; simp
          · rw [hset _ (fun q => e (hinj _ _ hk' hk q)), hfl k' hk']; omega
        · by_cases e : j = T.getD s 0
          · subst e; rw [setV_eq]; unfold mixV; rw [hmem s hk]; simp [setV]
          · rw [setV_ne e, hkn j (by rwa [hset j e] at hj)]
            unfold mixV
            rw [setV_ne e]
  · intro j o hj hL
    have hjl := (List.getElem?_eq_some_iff.1 hj).1
    simp [Array.getD_eq_getD_getElem?, hjl] at hL
  · have : (Array.replicate l.toArray.size false).getD (T.getD k 0) false = false := by rw [Array.getD_eq_getD_getElem?, Array.getElem?_replicate]; split <;> rfl
    rw [this]; simp
  · have : (Array.replicate l.toArray.size false).getD i false = false := by rw [Array.getD_eq_getD_getElem?, Array.getElem?_replicate]; split <;> rfl
    rw [this] at hi; cases hi
  · have hL := all_true (m := l.length) (by simpa using hs) (all_listedB (fun i o h e he hb => lexOkB_spec hlex i o (by simpa using h) e he hb) hs hr)
    subst hL hb
    have hsl : s = T.length := by
      rcases Nat.lt_or_ge s T.length with hlt | hge
      · have := (hfl s hlt).1 (by have := (hT1 s hlt).1; rw [Array.getD_eq_getD_getElem?, Array.getElem?_replicate, if_pos this]; rfl)
        omega
      · omega
    subst hsl
    refine hdone hv W _ hSt ?_
    rw [← accs_all (val := mixV T hv lv) (N := l.length) l 0 a (by omega)]
    exact accs_vals _ _ _ fun j _ hj => hkn _ hj
end
end Go.Proofs.Ytgbcdebnanejpaa
