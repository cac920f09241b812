/- Claims; the drawn region of verify.Check that looks a kind up. Over this seat's program. (mk_Vk.py wrote this.) -/
import Derived.Test.YtnbndciididpoaaGreatVj
import Derived.Test.YtnbndciididpoaaGreatNz
namespace Go.Proofs.YtnbndciididpoaaGreat
set_option linter.unusedVariables false
open Go.RowKit Go.Shelf

structure Clm where
  kd : Int
  ns : List Int
  fr : Int
  to : Int
  lo : Int
  hi : Int
def clmV (c : Clm) (a : Option Addr) (cap : Nat) : Value := .agg #[.int .i64 c.kd, .slice a c.ns.length cap, .int .i64 c.fr, .int .i64 c.to, .int .i64 c.lo, .int .i64 c.hi]
def nsE (nn : Nat) (seen : List Int) : List Int → Int
  | [] => 0
  | x :: r => if inR x 0 ((nn : Int) - 1) = false then 3 else if seen.contains x = true then 5 else nsE nn (seen ++ [x]) r
/-- What the claim's own check says. -/
def claimE (nn : Nat) (c : Clm) : Int :=
  if (c.kd = 1 ∨ c.kd = 2) ∧ c.ns ≠ [] then
    (if nsE nn [] c.ns ≠ 0 then nsE nn [] c.ns else if c.fr < 0 ∨ c.to < c.fr ∨ 10000 < c.to ∨ c.lo < 0 ∨ c.hi < 0 then 3 else 0)
  else 2
theorem nsE_step {nn k : Nat} {l : List Int} {x : Int} (h : l[k]? = some x) : nsE nn (l.take k) (l.drop k) = if inR x 0 ((nn : Int) - 1) = false then 3 else if (l.take k).contains x = true then 5 else nsE nn (l.take (k + 1)) (l.drop (k + 1)) := by
  have hk := (List.getElem?_eq_some_iff.1 h)
  obtain ⟨h1, h2⟩ := hk
  rw [List.drop_eq_getElem_cons h1, h2, List.take_add_one, h]
  rfl
def kC0 (k : Int) : Value := if k = 2 then .func (.func 119) #[] #[] else if k = 1 then .func (.func 117) #[] #[] else .nilFunc
def kC1 (k : Int) : Value := if k = 2 then .func (.func 120) #[] #[] else if k = 1 then .func (.func 118) #[] #[] else .nilFunc
def kN (k : Int) : Bool := decide (k = 1 ∨ k = 2)
theorem kinds_look {W : World} {b : Nat} (h : MapIs W b 2 kindsF) (k : Int) (hk : (Lit.int .i64 k).wf = true) :
    (Instr.lookup 140 (.map (some b)) (.int .i64 k) true).run Tryz.prog W = .ok (.tuple #[.agg #[kC0 k, kC1 k], .bool (kN k)]) W := by
  rw [h.look Tryz.underlying140 (z := .agg #[.nilFunc, .nilFunc]) (by kernel_rfl) k hk, kindsF_at]
  unfold kC0 kC1 kN kFirst kCount
  by_cases h2 : k = 2
  · simp [h2]
  · by_cases h1 : k = 1
    · simp [h1]
    · simp [h1, h2]
/-- What the region's operations work out. -/
def klK (pb : Nat) (k : Int) : Nat → Value
  | 1 => .pointer (some ⟨pb, 0, none⟩)
  | 2 => .int .i64 k
  | 3 => .tuple #[.agg #[kC0 k, kC1 k], .bool (kN k)]
  | 4 => .tuple #[.agg #[kC0 k, kC1 k], .bool (kN k)]
  | 5 => .agg #[kC0 k, kC1 k]
  | 6 => .bool (kN k)
  | 9 => .bool (kN k)
  | _ => undef
/-- What holds in the region that looks a kind up: the map is wanted until the lookup. -/
structure KlR (W0 : World) (Kv : Nat → Value) (L : Array Bool) (val : Nat → Value) (W : World) : Prop where
  known : ∀ j, [0, 7, 8].contains j = false → L.getD j false = true → val j = Kv j
  bel : Below W0.heap.size W0 W
  m0 : L.getD 0 false = true → L.getD 3 false = false → ∃ b, val 0 = .map (some b) ∧ MapIs W b 2 kindsF
  m7 : L.getD 7 false = true → ∃ g c0 c1, val 7 = .pointer (some ⟨g, 0, none⟩) ∧ W0.heap.size ≤ g ∧ W.heap[g]? = some (.cells #[c0, c1] 139)
  p3 : L.getD 4 false = true → L.getD 3 false = true
  p4 : L.getD 5 false = true → L.getD 4 false = true
section
variable {W0 W : World} {Kv : Nat → Value} {L : Array Bool} {val : Nat → Value}
theorem KlR.init (N : Nat) : KlR W0 Kv (Array.replicate N false) (fun _ => undef) { W0 with drawn := W0.drawn + 1 } := by
  have y : ∀ j, (Array.replicate N false).getD j false = true → False := fun j h => by
    simp [Array.getD_eq_getD_getElem?, Array.getElem?_replicate] at h
    split at h <;> simp_all
  exact ⟨fun j _ h => (y _ h).elim, ⟨rfl, rfl, rfl, Nat.le_refl _, fun _ _ => rfl⟩, fun h => (y _ h).elim, fun h => (y _ h).elim, fun h => (y _ h).elim, fun h => (y _ h).elim⟩
theorem set_mono {i j : Nat} (h : L.getD j false = true) : (L.setIfInBounds i true).getD j false = true := by
  by_cases e : j = i
  · subst e; exact getD_set_eq3 (size_of h)
  · rw [gdD e]; exact h
theorem KlR.skip (h : KlR W0 Kv L val W) (i : Nat) (hi : [0, 7, 8].contains i = false) (h4 : i = 4 → L.getD 3 false = true) (h5 : i = 5 → L.getD 4 false = true) (u : Value) (hu : u = Kv i) :
    KlR W0 Kv (L.setIfInBounds i true) (setV val i u) W := by
  obtain ⟨n0, n7⟩ : 0 ≠ i ∧ 7 ≠ i := by refine ⟨?_, ?_⟩ <;> (rintro rfl; simp at hi)
  refine ⟨fun j hj hl => ?_, h.bel, fun l0 l3 => ?_, fun l7 => ?_, fun l => ?_, fun l => ?_⟩
  · by_cases e : j = i
    · subst e; rw [setV_eq]; exact hu
    · rw [setV_ne e]; exact h.known j hj (by rwa [gdD e] at hl)
  · rw [setV_ne n0]
    rw [gdD n0] at l0
    refine h.m0 l0 ?_
    cases e : L.getD 3 false with
    | false => rfl
    | true => rw [set_mono e] at l3; cases l3
  · rw [setV_ne n7]; rw [gdD n7] at l7; exact h.m7 l7
  · by_cases e : i = 4
    · exact set_mono (h4 e)
    · rw [gdD (fun q => e q.symm)] at l; exact set_mono (h.p3 l)
  · by_cases e : i = 5
    · exact set_mono (h5 e)
    · rw [gdD (fun q => e q.symm)] at l; exact set_mono (h.p4 l)
theorem KlR.zero {W' : World} {b : Nat} (h : KlR W0 Kv L val W) (hm : MapIs W' b 2 kindsF) (hb : Below W.heap.size W W') :
    KlR W0 Kv (L.setIfInBounds 0 true) (setV val 0 (.map (some b))) W' := by
  refine ⟨fun j hj hl => ?_, h.bel.trans (hb.mono h.bel.size), fun _ _ => ⟨b, setV_eq, hm⟩, fun l7 => ?_, fun l => ?_, fun l => ?_⟩
  · have e : j ≠ 0 := by rintro rfl; simp at hj
    rw [setV_ne e]; exact h.known j hj (by rwa [gdD e] at hl)
  · rw [setV_ne (by decide)]; rw [gdD (by decide)] at l7
    obtain ⟨g, c0, c1, e, h1, h2⟩ := h.m7 l7
    exact ⟨g, c0, c1, e, h1, (hb.block g (lt_of_block h2)).trans h2⟩
  · rw [gdD (by decide)] at l; exact set_mono (h.p3 l)
  · rw [gdD (by decide)] at l; exact set_mono (h.p4 l)
theorem KlR.seven (h : KlR W0 Kv L val W) (c0 c1 : Value) :
    KlR W0 Kv (L.setIfInBounds 7 true) (setV val 7 (.pointer (some ⟨W.heap.size, 0, none⟩))) (W.alloc (.cells #[c0, c1] 139)) := by
  have hz := h.bel.size
  refine ⟨fun j hj hl => ?_, h.bel.alloc hz _, fun l0 l3 => ?_, fun _ => ⟨_, c0, c1, setV_eq, hz, alloc_new_at _ _ _ rfl⟩, fun l => ?_, fun l => ?_⟩
  · have e : j ≠ 7 := by rintro rfl; simp at hj
    rw [setV_ne e]; exact h.known j hj (by rwa [gdD e] at hl)
  · rw [setV_ne (by decide)]; rw [gdD (by decide)] at l0 l3
    obtain ⟨b, e, hm⟩ := h.m0 l0 l3
    exact ⟨b, e, hm.of_block (Below.heap_alloc _ _ _ hm.lt)⟩
  · rw [gdD (by decide)] at l; exact set_mono (h.p3 l)
  · rw [gdD (by decide)] at l; exact set_mono (h.p4 l)
theorem KlR.eight {g : Nat} (h : KlR W0 Kv L val W) (l5 : L.getD 5 false = true) (l7 : L.getD 7 false = true) (e7 : val 7 = .pointer (some ⟨g, 0, none⟩)) (u v0 v1 : Value) :
    KlR W0 Kv (L.setIfInBounds 8 true) (setV val 8 u) ((W.setCell ⟨g, 0, none⟩ v0).setCell ⟨g, 1, none⟩ v1) := by
  have l3 := h.p3 (h.p4 l5)
  obtain ⟨g', c0, c1, e, h1, h2⟩ := h.m7 l7
  obtain rfl : g' = g := by rw [e7] at e; cases e; rfl
  refine ⟨fun j hj hl => ?_, Below.setCell (Below.setCell h.bel h1 _) h1 _, fun _ q => ?_, fun _ => ?_, fun l => ?_, fun l => ?_⟩
  · have e : j ≠ 8 := by rintro rfl; simp at hj
    rw [setV_ne e]; exact h.known j hj (by rwa [gdD e] at hl)
  · rw [gdD (by decide), l3] at q; cases q
  · rw [setV_ne (by decide)]
    refine ⟨g', v0, v1, e7, h1, ?_⟩
    have h3 := setCell_own (i := 1) v1 (setCell_own (i := 0) v0 h2)
    simpa using h3
  · rw [gdD (by decide)] at l; exact set_mono (h.p3 l)
  · rw [gdD (by decide)] at l; exact set_mono (h.p4 l)
end
end Go.Proofs.YtnbndciididpoaaGreat
