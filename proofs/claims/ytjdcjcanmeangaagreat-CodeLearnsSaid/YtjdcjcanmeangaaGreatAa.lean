/- Codes: the mathematics of rates, and lists of ints in memory. Over this seat's program; no condition. -/
import Derived.Test.YtjdcjcanmeangaaGreatRows
import Derived.WalkKit
import Derived.WalkSpells
import Derived.Laws.EntriesVeiled
import Derived.WalkLawsBesides
import Derived.Deep.QuietTactic
import Derived.BigQuiet
import Derived.WalkSmall
import Derived.OwnWalk
import Derived.StillTailTactics
import Derived.LoopIn
import Derived.LoopNIn
import Derived.BigRegion
import Derived.TacticsInMore
import Derived.Deep.Cut
import Derived.Deep.RegionWith
import Derived.Deep.RegionHeld3
import Derived.OwnWalkIn
import Derived.Deep.DeepMust
import Derived.Lib.Hide
import Derived.Lib.SmallJoins
namespace Go.Proofs.YtjdcjcanmeangaaGreat
set_option linter.unusedVariables false
open Go.RowKit

def rtB (v m t : Nat) : Bool := (t + 1) * v / m != t * v / m
def rtL (v m n : Nat) : List Int := (List.range n).filterMap fun t : Nat => if rtB v m t then some (t : Int) else none
theorem rtL_succ (v m n : Nat) : rtL v m (n + 1) = rtL v m n ++ if rtB v m n then [(n : Int)] else [] := by
  unfold rtL
  rw [List.range_succ, List.filterMap_append]
  congr 1
  by_cases h : rtB v m n <;> simp [h]
theorem rtL_le (v m n : Nat) : (rtL v m n).length ≤ n := by
  have := List.length_filterMap_le (fun t : Nat => if rtB v m t then some (t : Int) else none) (List.range n)
  simpa [rtL] using this
/-- One tick more has at most one spike more. -/
theorem step_div (v m t : Nat) (hm : 0 < m) (hv : v ≤ m) : (t + 1) * v / m = t * v / m ∨ (t + 1) * v / m = t * v / m + 1 := by
  have h0 : t * v / m ≤ (t + 1) * v / m := Nat.div_le_div_right (Nat.mul_le_mul_right _ (by omega))
  have h1 : (t + 1) * v / m ≤ t * v / m + 1 := by
    rw [← Nat.add_div_right _ hm]
    refine Nat.div_le_div_right ?_
    rw [Nat.succ_mul]; omega
  omega
theorem rtL_length (v m : Nat) (hm : 0 < m) (hv : v ≤ m) : ∀ n, (rtL v m n).length = n * v / m
  | 0 => by simp [rtL]
  | n + 1 => by
    rw [rtL_succ, List.length_append, rtL_length v m hm hv n]
    have := step_div v m n hm hv
    by_cases h : rtB v m n
    · have h' := h
      simp only [rtB, bne_iff_ne, ne_eq] at h'
      simp only [h, if_true, List.length_cons, List.length_nil]; omega
    · have h' := h
      simp only [rtB, bne_iff_ne, ne_eq, Decidable.not_not] at h'
      simp only [h]
      rw [if_neg (by simp), List.length_nil]; omega
/-- What Unrate finds among the values below k. -/
def unS (P : Nat → Bool) : Nat → Option (Nat × Nat)
  | 0 => none
  | k + 1 => if P k then some (((unS P k).map (·.1)).getD k, k) else unS P k
theorem unS_spec (P : Nat → Bool) : ∀ k, (unS P k = none ∧ ∀ j, j < k → P j = false) ∨ ∃ a b, unS P k = some (a, b) ∧ a ≤ b ∧ b < k ∧ P a = true ∧ P b = true ∧ ∀ j, j < k → P j = true → a ≤ j ∧ j ≤ b
  | 0 => .inl ⟨rfl, fun j h => by omega⟩
  | k + 1 => by
    cases hp : P k with
    | false =>
      have e : unS P (k + 1) = unS P k := by simp [unS, hp]
      rw [e]
      rcases unS_spec P k with ⟨h1, h2⟩ | ⟨a, b, h1, h2, h3, h4, h5, h6⟩
      · exact .inl ⟨h1, fun j hj => by rcases Nat.lt_or_ge j k with h | h; exact h2 j h; rw [show j = k by omega]; exact hp⟩
      · refine .inr ⟨a, b, h1, h2, by omega, h4, h5, fun j hj hpj => ?_⟩
        rcases Nat.lt_or_ge j k with h | h
        · exact h6 j h hpj
        · rw [show j = k by omega, hp] at hpj; cases hpj
    | true =>
      rcases unS_spec P k with ⟨h1, h2⟩ | ⟨a, b, h1, h2, h3, h4, h5, h6⟩
      · refine .inr ⟨k, k, by simp [unS, hp, h1], Nat.le_refl _, by omega, hp, hp, fun j hj hpj => ?_⟩
        rcases Nat.lt_or_ge j k with h | h
        · rw [h2 j h] at hpj; cases hpj
        · omega
      · refine .inr ⟨a, k, by simp [unS, hp, h1], by omega, by omega, h4, hp, fun j hj hpj => ?_⟩
        rcases Nat.lt_or_ge j k with h | h
        · have := h6 j h hpj; omega
        · omega
/-- Spikes are spread evenly. -/
theorem spread (v m a w : Nat) (hm : 0 < m) : (a + w) * v / m - a * v / m = w * v / m ∨ (a + w) * v / m - a * v / m = w * v / m + 1 := by
  rw [Nat.add_mul]
  generalize a * v = x
  generalize w * v = y
  have h1 := Nat.div_add_mod x m
  have h2 := Nat.div_add_mod y m
  have h3 := Nat.mod_lt x hm
  have h4 := Nat.mod_lt y hm
  have e : (x + y) / m = x / m + y / m + (x % m + y % m) / m := by
    have : x + y = (x % m + y % m) + m * (x / m + y / m) := by rw [Nat.mul_add]; omega
    rw [this, Nat.add_mul_div_left _ _ hm]; omega
  have h5 : (x % m + y % m) / m < 2 := (Nat.div_lt_iff_lt_mul hm).2 (by omega)
  rw [e]
  generalize (x % m + y % m) / m = q at *
  generalize x / m = p at *
  generalize y / m = r at *
  omega

/-- How many ticks of a list are in a window. -/
def inW (a b : Nat) (t : Int) : Bool := decide ((a : Int) ≤ t) && decide (t < (b : Int))
def cntW (a b : Nat) (l : List Int) : Nat := (l.filter (inW a b)).length
theorem cntW_append (a b : Nat) (l r : List Int) : cntW a b (l ++ r) = cntW a b l + cntW a b r := by simp [cntW]
theorem cntW_one (a b : Nat) (t : Int) : cntW a b [t] = if inW a b t then 1 else 0 := by
  unfold cntW; by_cases h : inW a b t <;> simp [h]
theorem cntW_low (v m a b : Nat) : ∀ n, n ≤ a → cntW a b (rtL v m n) = 0
  | 0, _ => by simp [rtL, cntW]
  | n + 1, h => by
    rw [rtL_succ, cntW_append, cntW_low v m a b n (by omega)]
    by_cases hb : rtB v m n
    · have : inW a b (n : Int) = false := by simp only [inW, Bool.and_eq_false_iff, decide_eq_false_iff_not]; exact .inl (by omega)
      simp [hb, cntW_one, this]
    · simp [hb, cntW]
theorem cntW_mid (v m a b : Nat) (hm : 0 < m) (hv : v ≤ m) : ∀ k, a + k ≤ b → cntW a b (rtL v m (a + k)) + a * v / m = (a + k) * v / m
  | 0, h => by rw [Nat.add_zero, cntW_low v m a b a (Nat.le_refl _)]; omega
  | k + 1, h => by
    have ih := cntW_mid v m a b hm hv k (by omega)
    rw [← Nat.add_assoc, rtL_succ, cntW_append]
    have hs := step_div v m (a + k) hm hv
    by_cases hb : rtB v m (a + k)
    · have h1 : inW a b ((a + k : Nat) : Int) = true := by simp only [inW, Bool.and_eq_true, decide_eq_true_eq]; omega
      have h' := hb
      simp only [rtB, bne_iff_ne, ne_eq] at h'
      rw [if_pos hb, cntW_one, if_pos h1]
      omega
    · have h' := hb
      simp only [rtB, bne_iff_ne, ne_eq, Decidable.not_not] at h'
      rw [if_neg hb, show cntW a b [] = 0 from rfl]
      omega
theorem cntW_high (v m a b : Nat) : ∀ k, cntW a b (rtL v m (b + k)) = cntW a b (rtL v m b)
  | 0 => rfl
  | k + 1 => by
    rw [← Nat.add_assoc, rtL_succ, cntW_append, cntW_high v m a b k]
    by_cases hb : rtB v m (b + k)
    · have : inW a b ((b + k : Nat) : Int) = false := by simp only [inW, Bool.and_eq_false_iff, decide_eq_false_iff_not]; exact .inr (by omega)
      rw [if_pos hb, cntW_one, this]; simp
    · rw [if_neg hb]; simp [cntW]
/-- The window holds as many as the value asks for, or one more. -/
theorem cntW_all (v m a w n : Nat) (hm : 0 < m) (hv : v ≤ m) (h : a + w ≤ n) : cntW a (a + w) (rtL v m n) = w * v / m ∨ cntW a (a + w) (rtL v m n) = w * v / m + 1 := by
  have h1 := cntW_high v m a (a + w) (n - (a + w))
  rw [show a + w + (n - (a + w)) = n by omega] at h1
  have h2 := cntW_mid v m a (a + w) hm hv w (Nat.le_refl _)
  have h3 := spread v m a w hm
  rw [h1]
  omega
theorem rtL_mem {v m n : Nat} {t : Int} (h : t ∈ rtL v m n) : ∃ k : Nat, t = k ∧ k < n := by
  simp only [rtL, List.mem_filterMap, List.mem_range] at h
  obtain ⟨k, hk, h⟩ := h
  split at h
  · cases h; exact ⟨k, rfl, hk⟩
  · cases h
theorem rtL_asc (v m : Nat) : ∀ (n i : Nat) (x y : Int), (rtL v m n)[i]? = some x → (rtL v m n)[i + 1]? = some y → x < y
  | 0, i, x, y, h, _ => by simp [rtL] at h
  | n + 1, i, x, y, h1, h2 => by
    rw [rtL_succ] at h1 h2
    rcases Nat.lt_or_ge (i + 1) (rtL v m n).length with h | h
    · rw [List.getElem?_append_left (by omega)] at h1 h2
      exact rtL_asc v m n i x y h1 h2
    · by_cases hb : rtB v m n
      · rw [if_pos hb] at h1 h2
        rw [List.getElem?_append_right h] at h2
        have hi : i + 1 = (rtL v m n).length := by
          have := (List.getElem?_eq_some_iff.1 h2).1
          simp at this; omega
        rw [show i + 1 - (rtL v m n).length = 0 by omega] at h2
        simp at h2
        rw [List.getElem?_append_left (by omega)] at h1
        obtain ⟨k, rfl, hk⟩ := rtL_mem (List.mem_of_getElem? h1)
        omega
      · rw [if_neg hb, List.append_nil] at h2
        have := (List.getElem?_eq_some_iff.1 h2).1
        omega
/-- The values that Unrate finds are those between the ends: the counts rise. -/
theorem mono_div {n m i j : Nat} (h : i ≤ j) : n * i / m ≤ n * j / m := Nat.div_le_div_right (Nat.mul_le_mul_left _ h)
def inR (x a b : Int) : Bool := decide (a ≤ x) && decide (x ≤ b)
theorem alloc_new_at (W : World) (o : Obj) (k : Nat) (h : k = W.heap.size) : (W.alloc o).heap[k]? = some o := by subst h; exact heap_alloc_new W o
theorem bcell {W w1 : World} (hb : Below W.heap.size W w1) : (∀ b o, b < W.heap.size → w1.cell? ⟨b, o, none⟩ = W.cell? ⟨b, o, none⟩) ∧ (∀ b o, b < W.heap.size → w1.frozen? ⟨b, o, none⟩ = W.frozen? ⟨b, o, none⟩) :=
  ⟨fun b o h => hb.cell (p := ⟨b, o, none⟩) h, fun b o h => hb.frozen (p := ⟨b, o, none⟩) h⟩
theorem lt_of_block {W : World} {b : Nat} {o : Obj} (h : W.heap[b]? = some o) : b < W.heap.size := (Array.getElem?_eq_some_iff.1 h).1
theorem cells2 {W : World} {b : Nat} {v0 v1 : Value} {t : TypeId} (h : W.heap[b]? = some (.cells #[v0, v1] t)) : W.cell? ⟨b, 0, none⟩ = some v0 ∧ W.cell? ⟨b, 1, none⟩ = some v1 ∧ W.frozen? ⟨b, 0, none⟩ = false ∧ W.frozen? ⟨b, 1, none⟩ = false := by simp [World.cell?, World.frozen?, h]
theorem ownsRow_of_block {A A' : World} {base : Nat} {e : TypeId} {size : Nat} {v : Value} {n : Nat} {xs : List Value} (h : A.ownsRow base e size v n xs) (hb : ∀ g, v.ownBlock = some g → A'.heap[g]? = A.heap[g]?) : A'.ownsRow base e size v n xs := by
  refine ⟨h.1, ?_⟩
  rcases h.2 with hn | ⟨g, cap, cur, rfl, hbg, hgg, rest⟩
  · exact Or.inl hn
  · exact Or.inr ⟨g, cap, cur, rfl, hbg, (hb g rfl).trans hgg, rest⟩
theorem cells_new {W : World} {b : Nat} {l : List Value} {t : TypeId} {m : Nat × Nat} (h : W.heap[b]? = some (.cells ⟨l⟩ t m)) : ∀ (j : Nat) u, l[j]? = some u → W.cell? ((⟨b, 0, none⟩ : Addr).add j) = some u := fun j u hu => by
  have e : (⟨b, 0, none⟩ : Addr).add j = ⟨b, j, none⟩ := by unfold Addr.add; split <;> simp_all
  rw [e]
  simp [World.cell?, h, hu]
def KAt (k : IntKind) (W : World) (sv : Value) (zs : List Int) : Prop :=
  (sv = .slice none 0 0 ∧ zs = []) ∨ ∃ b off cap, sv = .slice (some ⟨b, off, none⟩) zs.length cap ∧ b < W.heap.size ∧ ∀ j z, zs[j]? = some z → W.cell? ⟨b, off + j, none⟩ = some (.int k z)
theorem KAt.below {k : IntKind} {W w1 : World} {sv : Value} {zs : List Int} (h : KAt k W sv zs) (hb : Below W.heap.size W w1) : KAt k w1 sv zs := by
  rcases h with h | ⟨b, off, cap, e, hl, h⟩
  · exact Or.inl h
  · exact Or.inr ⟨b, off, cap, e, Nat.lt_of_lt_of_le hl hb.size, fun j z hz => ((bcell hb).1 _ _ hl).trans (h j z hz)⟩
theorem KAt.at {kd : IntKind} {W : World} {a : Option Addr} {n cap : Nat} {l : List Int} (h : KAt kd W (.slice a n cap) l) {k : Nat} {z : Int} (hk : l[k]? = some z) : ∃ b off, a = some ⟨b, off, none⟩ ∧ b < W.heap.size ∧ W.cell? ⟨b, off + k, none⟩ = some (.int kd z) := by
  rcases h with ⟨_, rfl⟩ | ⟨b, off, cap', e, hl, h⟩
  · simp at hk
  · cases e; exact ⟨b, off, rfl, hl, h k z hk⟩
def iCs (l : List Int) : List Value := l.map (Value.int .i64)
theorem kat_of_owns {W : World} {base : Nat} {e : TypeId} {v : Value} {l : List Int} (h : W.ownsRow base e 1 v l.length (iCs l)) : KAt .i64 W v l := by
  rcases h.2 with ⟨rfl, h0⟩ | ⟨g, cap, cur, rfl, hb, hg, _, _, _, ht⟩
  · exact Or.inl ⟨rfl, List.eq_nil_of_length_eq_zero h0⟩
  · refine Or.inr ⟨g, 0, cap, rfl, (Array.getElem?_eq_some_iff.1 hg).1, fun j z hz => ?_⟩
    have h1 := h.cells (g := g) rfl j (.int .i64 z) (by simp [iCs, hz])
    have hadd : (⟨g, 0, none⟩ : Addr).add j = ⟨g, 0 + j, none⟩ := by unfold Addr.add; split <;> simp_all
    rwa [hadd] at h1
theorem info3 : (Tryz.prog.info? 3).map (fun i => (i.zero, i.size, i.bytes)) = some (some (.int .i64 0), 1, 8) := by kernel_rfl

theorem inR_true {x a b : Int} : inR x a b = true ↔ a ≤ x ∧ x ≤ b := by simp [inR]
theorem inR_false {x a b : Int} : inR x a b = false ↔ x < a ∨ b < x := by
  rw [← Bool.not_eq_true, inR_true]; omega
theorem kat_new (w : World) (x : Int) : KAt .i64 (w.alloc (.cells #[.int .i64 x] 3)) (.slice (some ⟨w.heap.size, 0, none⟩) 1 1) [x] := by
  refine Or.inr ⟨w.heap.size, 0, 1, rfl, by simp, fun j z hz => ?_⟩
  have h := alloc_new_at w (.cells #[.int .i64 x] 3) w.heap.size rfl
  cases j with
  | zero => simp at hz; subst hz; show (w.alloc (.cells #[.int .i64 x] 3)).cell? ⟨w.heap.size, 0, none⟩ = _; unfold World.cell?; rw [h]; rfl
  | succ j => simp at hz
end Go.Proofs.YtjdcjcanmeangaaGreat
