/- A checked evaluator of closed calls, text 1 of 7: over any program; no condition. -/
import Derived.RangeFuncLeaves
import Derived.RangeFuncOwn
import Derived.Laws.Sem
import Derived.Laws.World
import Derived.Laws.Cells
import Derived.Laws.Rows
import Derived.Laws.Tables
import Derived.Laws.CopyRow
import Derived.ChangeKeysEq
namespace Go.Proofs.YtnbndciididpoaaGreat.Ev
open Go
set_option linter.unusedVariables false
set_option linter.unusedSimpArgs false
section
/- A checked evaluator of closed calls, part A: tries, and what an abstract value says of a value. Over any program. -/
/-! ### Numbers, worked out before they are handed on -/
noncomputable def forceN {β : Type} (n : Nat) (k : Nat → β) : β := match n with | 0 => k 0 | Nat.succ m => k (Nat.succ m)
@[simp] theorem forceN_eq {β : Type} (n : Nat) (k : Nat → β) : forceN n k = k n := by cases n <;> rfl
noncomputable def forceI {β : Type} (n : Int) (k : Int → β) : β :=
  match n with
  | .ofNat m => forceN m fun m => k (.ofNat m)
  | .negSucc m => forceN m fun m => k (.negSucc m)
@[simp] theorem forceI_eq {β : Type} (n : Int) (k : Int → β) : forceI n k = k n := by cases n <;> simp [forceI]

/-! ### Tries -/
inductive Tr (α : Type) where
  | leaf
  | node (l : Tr α) (v : Option α) (r : Tr α)
namespace Tr
variable {α β : Type}
noncomputable def left : Tr α → Tr α | leaf => leaf | node l _ _ => l
noncomputable def right : Tr α → Tr α | leaf => leaf | node _ _ r => r
noncomputable def val : Tr α → Option α | leaf => none | node _ v _ => v
noncomputable def getS (v : Option α) (gl gr : Nat → Option α) (n : Nat) : Option α :=
  Nat.rec (motive := fun _ => Option α) v (fun m _ => Nat.rec (motive := fun _ => Option α) (gl (Nat.div m (nat_lit 2))) (fun _ _ => gr (Nat.div m (nat_lit 2))) (Nat.mod m (nat_lit 2))) n
noncomputable def get (t : Tr α) : Nat → Option α :=
  Tr.rec (motive := fun _ => Nat → Option α) (fun _ => none) (fun _ v _ gl gr n => getS v gl gr n) t
noncomputable def set : Nat → Tr α → Nat → Option α → Tr α
  | 0, t, _, _ => t
  | f + 1, t, n, a => match n with
    | 0 => node t.left a t.right
    | m + 1 => match Nat.beq (m % 2) 0 with
      | true => node (set f t.left (m / 2) a) t.val t.right
      | false => node t.left t.val (set f t.right (m / 2) a)
/-- The same, built before it is handed on. -/
def kL (k : Tr α → β) (v : Option α) (r : Tr α) (l' : Tr α) : β := k (node l' v r)
def kR (k : Tr α → β) (l : Tr α) (v : Option α) (r' : Tr α) : β := k (node l v r')
noncomputable def setS (ih : Tr α → Nat → Option α → (Tr α → β) → β) (a : Option α) (k : Tr α → β) (l : Tr α) (v : Option α) (r : Tr α) (m : Nat) : β :=
  Nat.rec (motive := fun _ => β) (ih l (Nat.div m (nat_lit 2)) a (kL k v r)) (fun _ _ => ih r (Nat.div m (nat_lit 2)) a (kR k l v)) (Nat.mod m (nat_lit 2))
noncomputable def setN (ih : Tr α → Nat → Option α → (Tr α → β) → β) (n : Nat) (a : Option α) (k : Tr α → β) (l : Tr α) (v : Option α) (r : Tr α) : β :=
  Nat.rec (motive := fun _ => β) (k (node l a r)) (fun m _ => setS ih a k l v r m) n
noncomputable def setT (ih : Tr α → Nat → Option α → (Tr α → β) → β) (t : Tr α) (n : Nat) (a : Option α) (k : Tr α → β) : β :=
  Tr.rec (motive := fun _ => β) (setN ih n a k leaf none leaf) (fun l v r _ _ => setN ih n a k l v r) t
noncomputable def setK (f : Nat) : Tr α → Nat → Option α → (Tr α → β) → β :=
  Nat.rec (motive := fun _ => Tr α → Nat → Option α → (Tr α → β) → β) (fun t _ _ k => k t) (fun _ ih => setT ih) f
theorem rec_even {m : Nat} {x : β} {y : Nat → β → β} (h : Nat.beq (m % 2) 0 = true) : Nat.rec (motive := fun _ => β) x y (Nat.mod m (nat_lit 2)) = x := by
  have h' : Nat.mod m (nat_lit 2) = 0 := Nat.eq_of_beq_eq_true h
  rw [h']; rfl
theorem rec_odd {m : Nat} {x y : β} (h : Nat.beq (m % 2) 0 = false) : Nat.rec (motive := fun _ => β) x (fun _ _ => y) (Nat.mod m (nat_lit 2)) = y := by
  have h' : Nat.mod m (nat_lit 2) = 1 := by
    rcases Nat.mod_two_eq_zero_or_one m with h' | h'
    · rw [h'] at h; cases h
    · exact h'
  rw [h']; rfl
theorem setK_eq (f : Nat) : ∀ (t : Tr α) (n : Nat) (a : Option α) (k : Tr α → β), setK f t n a k = k (set f t n a) := by
  induction f with
  | zero => intros; rfl
  | succ f ih =>
    intro t n a k
    cases t with
    | leaf =>
      cases n with
      | zero => rfl
      | succ m =>
        cases h : Nat.beq (m % 2) 0
        · simp only [set, h, left, right, val]
          exact (rec_odd h).trans (ih _ _ _ _)
        · simp only [set, h, left, right, val]
          exact (rec_even h).trans (ih _ _ _ _)
    | node l v r =>
      cases n with
      | zero => rfl
      | succ m =>
        cases h : Nat.beq (m % 2) 0
        · simp only [set, h, left, right, val]
          exact (rec_odd h).trans (ih _ _ _ _)
        · simp only [set, h, left, right, val]
          exact (rec_even h).trans (ih _ _ _ _)
theorem get_leaf (n : Nat) : (leaf : Tr α).get n = none := rfl
theorem get_val0 (t : Tr α) : t.get 0 = t.val := by cases t <;> rfl
theorem get_even (t : Tr α) (m : Nat) (h : Nat.beq (m % 2) 0 = true) : t.get (m + 1) = t.left.get (m / 2) := by
  cases t with
  | leaf => rfl
  | node l v r => exact rec_even h
theorem get_odd (t : Tr α) (m : Nat) (h : Nat.beq (m % 2) 0 = false) : t.get (m + 1) = t.right.get (m / 2) := by
  cases t with
  | leaf => rfl
  | node l v r => exact rec_odd h
theorem get_set (f : Nat) : ∀ (t : Tr α) (n m : Nat) (a : Option α), n + 1 < 2 ^ f → (set f t n a).get m = if m = n then a else t.get m := by
  induction f with
  | zero => intro t n m a h; simp at h
  | succ f ih =>
    intro t n m a h
    cases n with
    | zero =>
      cases m with
      | zero => rw [get_val0]; simp [set, val]
      | succ m => cases hp : Nat.beq (m % 2) 0 <;> simp [set, hp, get_even, get_odd, left, right]
    | succ n =>
      have hb : n / 2 + 1 < 2 ^ f := by rw [Nat.pow_succ] at h; omega
      cases hn : Nat.beq (n % 2) 0
      · simp only [set, hn]
        cases m with
        | zero => rw [get_val0, get_val0]; simp [val]
        | succ m =>
          cases hm : Nat.beq (m % 2) 0
          · rw [get_odd _ _ hm, get_odd _ _ hm]; simp only [right]
            rw [ih _ _ _ _ hb]
            have e1 : n % 2 = 1 := by rcases Nat.mod_two_eq_zero_or_one n with h | h <;> simp_all
            have e2 : m % 2 = 1 := by rcases Nat.mod_two_eq_zero_or_one m with h | h <;> simp_all
            have : (m / 2 = n / 2) = (m + 1 = n + 1) := by apply propext; omega
            simp [this]
          · rw [get_even _ _ hm, get_even _ _ hm]; simp only [left]
            have e1 : n % 2 = 1 := by rcases Nat.mod_two_eq_zero_or_one n with h | h <;> simp_all
            have e2 : m % 2 = 0 := by simpa using hm
            rw [if_neg (by omega)]
      · simp only [set, hn]
        cases m with
        | zero => rw [get_val0, get_val0]; simp [val]
        | succ m =>
          cases hm : Nat.beq (m % 2) 0
          · rw [get_odd _ _ hm, get_odd _ _ hm]; simp only [right]
            have e1 : n % 2 = 0 := by simpa using hn
            have e2 : m % 2 = 1 := by rcases Nat.mod_two_eq_zero_or_one m with h | h <;> simp_all
            rw [if_neg (by omega)]
          · rw [get_even _ _ hm, get_even _ _ hm]; simp only [left]
            rw [ih _ _ _ _ hb]
            have e1 : n % 2 = 0 := by simpa using hn
            have e2 : m % 2 = 0 := by simpa using hm
            have : (m / 2 = n / 2) = (m + 1 = n + 1) := by apply propext; omega
            simp [this]
/-- Put at a place below 2^24 - 1, else given up. -/
noncomputable def put (t : Tr α) (n : Nat) (a : Option α) (k : Tr α → Option β) : Option β :=
  Bool.rec (motive := fun _ => Option β) none (setK (nat_lit 24) t n a k) (Nat.ble n (nat_lit 16000000))
theorem put_some {t : Tr α} {n : Nat} {a : Option α} {k : Tr α → Option β} {b : β} (h : put t n a k = some b) :
    ∃ t', k t' = some b ∧ ∀ m, t'.get m = if m = n then a else t.get m := by
  unfold put at h
  cases hb : Nat.ble n (nat_lit 16000000) with
  | false => rw [hb] at h; cases h
  | true =>
    rw [hb] at h
    simp only at h
    rw [setK_eq] at h
    refine ⟨_, h, fun m => get_set 24 t n m a ?_⟩
    have : n ≤ 16000000 := Nat.le_of_ble_eq_true hb
    omega
end Tr

/-! ### Places: what an abstract block stands for -/
structure Pl where
  blk : Nat
  sh : Nat
  /-- 0: slices of it have the capacity that they are said to have; else: a row that append made, of elements of so many cells -/
  esz : Nat
  size : Nat
inductive Sp where
  | absent
  | dead
  | live (p : Pl)
abbrev Pm := Nat → Sp

inductive VR (K : Pm) : Value → Value → Prop where
  | bool (b) : VR K (.bool b) (.bool b)
  | int (k n) : VR K (.int k n) (.int k n)
  | float (k n) : VR K (.float k n) (.float k n)
  | complex (k m n) : VR K (.complex k m n) (.complex k m n)
  | string (s) : VR K (.string s) (.string s)
  | ptrNil : VR K (.pointer none) (.pointer none)
  | ptr {b : Nat} {p : Pl} (h : K b = .live p) (off : Nat) : VR K (.pointer (some ⟨b, off, none⟩)) (.pointer (some ⟨p.blk, p.sh + off, none⟩))
  | ptrDead {a : Addr} (h : K a.block = .dead) (a' : Addr) : VR K (.pointer (some a)) (.pointer (some a'))
  | sliceNil (l c) : VR K (.slice none l c) (.slice none l c)
  | sliceX {b : Nat} {p : Pl} (h : K b = .live p) (off l c : Nat) : VR K (.slice (some ⟨b, off, some 0⟩) l c) (.slice (some ⟨p.blk, p.sh + off, none⟩) l c)
  | sliceZ {b : Nat} {p : Pl} (h : K b = .live p) (off : Nat) (sp : Option Nat) (a' : Addr) : VR K (.slice (some ⟨b, off, sp⟩) 0 0) (.slice (some a') 0 0)
  | slice {b : Nat} {p : Pl} (h : K b = .live p) (off g l c c' : Nat) (hg : p.esz = g) (h0 : g ≠ 0) (h1 : c ≤ c') (h2 : p.sh + off + c' * g ≤ p.size) :
      VR K (.slice (some ⟨b, off, some g⟩) l c) (.slice (some ⟨p.blk, p.sh + off, none⟩) l c')
  | sliceDead {a : Addr} (h : K a.block = .dead) (l c : Nat) (a' : Addr) (c' : Nat) (hc : a.spot = some 0 → c' = c) (hle : c ≤ c') : VR K (.slice (some a) l c) (.slice (some a') l c')
  | mapNil : VR K (.map none) (.map none)
  | map {b : Nat} {p : Pl} (h : K b = .live p) (h0 : p.esz = 0) : VR K (.map (some b)) (.map (some p.blk))
  | chanNil : VR K (.chan none) (.chan none)
  | func (fn : Fn) (hn : ∀ l, fn ≠ .yield l) (f f' c c' : Array Value) (hf : f.size = f'.size) (hc : c.size = c'.size)
      (rf : ∀ (i : Nat) v v', f[i]? = some v → f'[i]? = some v' → VR K v v') (rc : ∀ (i : Nat) v v', c[i]? = some v → c'[i]? = some v' → VR K v v') :
      VR K (.func fn f c) (.func fn f' c')
  | yield {l : Nat} {p : Pl} (h : K l = .live p) (h0 : p.esz = 0) : VR K (.func (.yield l) #[] #[]) (.func (.yield p.blk) #[] #[])
  | nilFunc : VR K .nilFunc .nilFunc
  | nilIface : VR K .nilIface .nilIface
  | iface (t : TypeId) {v v' : Value} (h : VR K v v') : VR K (.iface t v) (.iface t v')
  | agg (c c' : Array Value) (hc : c.size = c'.size) (rc : ∀ (i : Nat) v v', c[i]? = some v → c'[i]? = some v' → VR K v v') : VR K (.agg c) (.agg c')
  | tuple (c c' : Array Value) (hc : c.size = c'.size) (rc : ∀ (i : Nat) v v', c[i]? = some v → c'[i]? = some v' → VR K v v') : VR K (.tuple c) (.tuple c')

/-- Places that were there stay what they are; rows that append made, may die. -/
noncomputable def Mono (K K' : Pm) : Prop := ∀ b, K b = .absent ∨ K' b = K b ∨ (K' b = .dead ∧ ∀ p, K b = .live p → p.esz ≠ 0)
theorem Mono.refl (K : Pm) : Mono K K := fun b => .inr (.inl rfl)
theorem Mono.trans {K K' K'' : Pm} (h : Mono K K') (k : Mono K' K'') : Mono K K'' := fun b => by
  rcases h b with h1 | h1 | ⟨h1, h2⟩
  · exact .inl h1
  · rcases k b with k1 | k1 | ⟨k1, k2⟩
    · exact .inl (h1 ▸ k1)
    · exact .inr (.inl (k1.trans h1))
    · exact .inr (.inr ⟨k1, fun p hp => k2 p (h1.trans hp)⟩)
  · rcases k b with k1 | k1 | ⟨k1, k2⟩
    · rw [h1] at k1; cases k1
    · exact .inr (.inr ⟨k1.trans h1, h2⟩)
    · exact .inr (.inr ⟨k1, h2⟩)
theorem Mono.live {K K' : Pm} (h : Mono K K') {b : Nat} {p : Pl} (hb : K b = .live p) (h0 : p.esz = 0) : K' b = .live p := by
  rcases h b with h1 | h1 | ⟨h1, h2⟩
  · rw [hb] at h1; cases h1
  · exact h1.trans hb
  · exact absurd h0 (h2 p hb)

theorem VR.mono {K K' : Pm} (hm : Mono K K') {v v' : Value} (h : VR K v v') : VR K' v v' := by
  induction h with
  | bool => exact .bool _
  | int => exact .int _ _
  | float => exact .float _ _
  | complex => exact .complex _ _ _
  | string => exact .string _
  | ptrNil => exact .ptrNil
  | ptr h off =>
    rcases hm _ with m | m | m
    · rw [h] at m; cases m
    · exact .ptr (m.trans h) off
    · exact .ptrDead m.1 _
  | ptrDead h a' =>
    rcases hm _ with m | m | m
    · rw [h] at m; cases m
    · exact .ptrDead (m.trans h) _
    · exact .ptrDead m.1 _
  | sliceNil => exact .sliceNil _ _
  | sliceX h off l c =>
    rcases hm _ with m | m | m
    · rw [h] at m; cases m
    · exact .sliceX (m.trans h) off l c
    · exact .sliceDead m.1 _ _ _ _ (fun _ => rfl) (Nat.le_refl _)
  | sliceZ h off sp a' =>
    rcases hm _ with m | m | m
    · rw [h] at m; cases m
    · exact .sliceZ (m.trans h) off sp a'
    · exact .sliceDead m.1 _ _ _ _ (fun _ => rfl) (Nat.le_refl _)
  | slice h off g l c c' hg h0 h1 h2 =>
    rcases hm _ with m | m | m
    · rw [h] at m; cases m
    · exact .slice (m.trans h) off g l c c' hg h0 h1 h2
    · exact .sliceDead m.1 _ _ _ _ (fun hs => absurd (Option.some.inj hs) h0) h1
  | sliceDead h l c a' c' hc hle =>
    rcases hm _ with m | m | m
    · rw [h] at m; cases m
    · exact .sliceDead (m.trans h) _ _ _ _ hc hle
    · exact .sliceDead m.1 _ _ _ _ hc hle
  | mapNil => exact .mapNil
  | map h h0 => exact .map (hm.live h h0) h0
  | chanNil => exact .chanNil
  | func fn hn f f' c c' hf hc rf rc ihf ihc => exact .func fn hn f f' c c' hf hc ihf ihc
  | yield h h0 => exact .yield (hm.live h h0) h0
  | nilFunc => exact .nilFunc
  | nilIface => exact .nilIface
  | iface t h ih => exact .iface t ih
  | agg c c' hc rc ih => exact .agg c c' hc ih
  | tuple c c' hc rc ih => exact .tuple c c' hc ih
end

section
/- A checked evaluator of closed calls, part B: abstract heaps, what they say of a world, what an operation leaves. -/
inductive AObj where
  /-- g: 0, or of how many cells the elements of a row are that append made -/
  | cells (tr : Tr Value) (elem : TypeId) (g : Nat)
  | map (es : List MapEntry) (clock : Nat)
  | loop (st : LoopState) (pend : Option Code) (fn : FuncId) (tm : Tr Value) (nt : Nat) (ps : Array Tmp) (assign body : Code) (df : Nat)
  | deferred
  | taken
  | strIter (s : ByteArray) (pos : Nat)
  /-- a package-level variable that is only read -/
  | table (tr : Tr Value)

/-- The abstract heap, the next number, what was touched and what was written (as bits). -/
structure Hp where
  heap : Tr AObj
  next : Nat
  tch : Nat
  wr : Nat

abbrev bit (m b : Nat) : Prop := m.testBit b = true
theorem bit_or {m n b : Nat} : bit (m ||| n) b ↔ bit m b ∨ bit n b := by simp [bit, Nat.testBit_or]
theorem bit_one {a b : Nat} : bit (1 <<< a) b ↔ a = b := by
  simp [bit, Nat.one_shiftLeft, Nat.testBit_two_pow]

noncomputable def tmOf (tm : Tr Value) (t : Nat) : Value := match tm.get t with | some v => v | none => .tuple #[]

/-- What an abstract object says of an object (ok: what is asked of code that is stored). -/
noncomputable def OR (ok : Code → Prop) (K : Pm) (p : Pl) : AObj → Obj → Prop
  | .cells tr e g, x => p.esz = g ∧ ∃ c : Array Value, x = .cells c e (0, 0) ∧ c.size = p.size ∧ ∀ i v, tr.get i = some v → ∃ v', c[p.sh + i]? = some v' ∧ VR K v v'
  | .map es clock, x => p.esz = 0 ∧ ∃ es' : Array MapEntry, x = .map es' clock ∧ es'.size = es.length ∧
      ∀ (i : Nat) (e e' : MapEntry), es[i]? = some e → es'[i]? = some e' → e'.key = e.key ∧ e'.born = e.born ∧ VR K e.val e'.val
  | .loop st pend fn tm nt ps assign body df, x => p.esz = 0 ∧ ok assign ∧ ok body ∧ (∀ c, pend = some c → ok c) ∧ ∃ r : Loop, x = .loop r ∧ r.state = st ∧ r.pending = pend ∧ r.params = ps ∧
      r.assign = assign ∧ r.body = body ∧ r.tmps.size = nt ∧ (∀ t, VR K (tmOf tm t) (r.tmps.getD t undef))
  | .deferred, x => p.esz = 0 ∧ x = .deferred (some [])
  | .taken, x => p.esz = 0 ∧ x = .deferred none
  | .strIter s pos, x => p.esz = 0 ∧ x = .stringIter s pos
  | .table tr, x => p.esz = 0 ∧ ∃ (c : Array Value) (e : TypeId) (fr : Nat × Nat), x = .cells c e fr ∧ ∀ i v, tr.get i = some v → ∃ v', c[p.sh + i]? = some v' ∧ VR K v v'

theorem OR.mono {ok : Code → Prop} {K K' : Pm} (hm : Mono K K') {p : Pl} {o : AObj} {x : Obj} (h : OR ok K p o x) : OR ok K' p o x := by
  cases o with
  | cells tr e g =>
    obtain ⟨h0, c, h1, h2, h3⟩ := h
    exact ⟨h0, c, h1, h2, fun i v hi => let ⟨v', a, b⟩ := h3 i v hi; ⟨v', a, b.mono hm⟩⟩
  | map es clock =>
    obtain ⟨h0, es', h1, h2, h3⟩ := h
    exact ⟨h0, es', h1, h2, fun i e e' hi hi' => let ⟨a, b, c⟩ := h3 i e e' hi hi'; ⟨a, b, c.mono hm⟩⟩
  | loop =>
    obtain ⟨h0, h1, h2, h2', r, h3, h4, h5, h7, h8, h9, h10, h11⟩ := h
    exact ⟨h0, h1, h2, h2', r, h3, h4, h5, h7, h8, h9, h10, fun t => (h11 t).mono hm⟩
  | deferred => exact h
  | taken => exact h
  | strIter => exact h
  | table tr =>
    obtain ⟨h0, c, e, fr, h1, h3⟩ := h
    exact ⟨h0, c, e, fr, h1, fun i v hi => let ⟨v', a, b⟩ := h3 i v hi; ⟨v', a, b.mono hm⟩⟩

noncomputable def Cont (ok : Code → Prop) (K : Pm) (H : Tr AObj) (w : World) (b : Nat) : Prop :=
  ∀ o, H.get b = some o → ∃ p x, K b = .live p ∧ w.heap[p.blk]? = some x ∧ OR ok K p o x

structure KOk (K : Pm) (w : World) : Prop where
  lt : ∀ b p, K b = .live p → p.blk < w.heap.size
  inj : ∀ b b' p p', K b = .live p → K b' = .live p' → p.blk = p'.blk → b = b'
  /-- the first numbers are those of package-level variables -/
  gl : ∀ b, b < 64 → K b = .dead ∨ ∃ n, K b = .live ⟨b, 0, 0, n⟩
theorem KOk.high {K : Pm} {w : World} (h : KOk K w) {b : Nat} (ha : K b = .absent) : 64 ≤ b := by
  rcases Nat.lt_or_ge b 64 with hl | hl
  · rcases h.gl b hl with e | ⟨n, e⟩ <;> rw [ha] at e <;> cases e
  · exact hl
theorem KOk.high' {K : Pm} {w : World} (h : KOk K w) {b : Nat} {p : Pl} (hb : K b = .live p) (h0 : p.esz ≠ 0) : 64 ≤ b := by
  rcases Nat.lt_or_ge b 64 with hl | hl
  · rcases h.gl b hl with e | ⟨n, e⟩ <;> rw [hb] at e <;> cases e
    exact absurd rfl h0
  · exact hl

/-- Nothing but the blocks of what was written has turned; the world around as it was. -/
structure Frm (K : Pm) (wr : Nat) (w w' : World) : Prop where
  block : ∀ k, k < w.heap.size → (∀ b p, bit wr b → K b = .live p → p.blk ≠ k) → w'.heap[k]? = w.heap[k]?
  size : w.heap.size ≤ w'.heap.size
  os : w'.os = w.os
  tape : w'.tape = w.tape
  output : w'.output = w.output

theorem Frm.refl (K : Pm) (wr : Nat) (w : World) : Frm K wr w w := ⟨fun _ _ _ => rfl, Nat.le_refl _, rfl, rfl, rfl⟩
theorem Frm.drew (K : Pm) (wr : Nat) (w : World) : Frm K wr w w.drew := ⟨fun _ _ _ => rfl, Nat.le_refl _, rfl, rfl, rfl⟩

/-- What must hold before: G: the blocks that are to be known. -/
structure Pre (ok : Code → Prop) (K : Pm) (h : Hp) (w : World) (G : Nat → Prop) : Prop where
  kok : KOk K w
  cont : ∀ b, G b → Cont ok K h.heap w b

structure Post (ok : Code → Prop) (K : Pm) (w : World) (K' : Pm) (h' : Hp) (w' : World) (G : Nat → Prop) : Prop where
  kok : KOk K' w'
  cont : ∀ b, G b → Cont ok K' h'.heap w' b
  mono : Mono K K'
  off : ∀ b, ¬ bit h'.wr b → K' b = K b
  new : ∀ b p', K' b = .live p' → K b = .live p' ∨ w.heap.size ≤ p'.blk ∨ ∃ b0 p0, bit h'.wr b0 ∧ K b0 = .live p0 ∧ p0.blk = p'.blk
  frm : Frm K h'.wr w w'

theorem Post.pre {ok : Code → Prop} {K K' : Pm} {h' : Hp} {w w' : World} {G : Nat → Prop} (h : Post ok K w K' h' w' G) : Pre ok K' h' w' G := ⟨h.kok, h.cont⟩

/-- What holds of the evaluator's own book-keeping. -/
structure PF (h h' : Hp) : Prop where
  next : h.next ≤ h'.next
  wr : ∀ b, bit h.wr b → bit h'.wr b
  tch : ∀ b, bit h.tch b → bit h'.tch b
  heap : ∀ b, ¬ bit h'.wr b → h'.heap.get b = h.heap.get b
  fresh : ∀ b, h.next ≤ b → b < h'.next → bit h'.wr b
  low : (∀ b, bit h.wr b → b < h.next) → ∀ b, bit h'.wr b → b < h'.next
  sub : (∀ b, bit h.wr b → bit h.tch b) → ∀ b, bit h'.wr b → bit h'.tch b
theorem PF.refl (h : Hp) : PF h h := ⟨Nat.le_refl _, fun _ h => h, fun _ h => h, fun _ _ => rfl, fun b h1 h2 => by omega, fun h => h, fun h => h⟩
theorem PF.trans {a b c : Hp} (h : PF a b) (k : PF b c) : PF a c :=
  ⟨Nat.le_trans h.next k.next, fun x hx => k.wr x (h.wr x hx), fun x hx => k.tch x (h.tch x hx),
   fun x hx => (k.heap x hx).trans (h.heap x fun hw => hx (k.wr x hw)),
   fun x h1 h2 => if hl : x < b.next then k.wr x (h.fresh x h1 hl) else k.fresh x (by omega) h2,
   fun hl => k.low (h.low hl), fun hs => k.sub (h.sub hs)⟩

noncomputable def Adm (K : Pm) (h h' : Hp) : Prop := ∀ id, h.next ≤ id → id < h'.next → K id = .absent

/-- One behind the other. -/
theorem Post.trans {ok : Code → Prop} {K K1 K2 : Pm} {h1 h2 : Hp} {w w1 w2 : World} {G : Nat → Prop} (pf : ∀ b, bit h1.wr b → bit h2.wr b)
    (a : Post ok K w K1 h1 w1 G) (b : Post ok K1 w1 K2 h2 w2 G) : Post ok K w K2 h2 w2 G where
  kok := b.kok
  cont := b.cont
  mono := a.mono.trans b.mono
  off := fun x hx => (b.off x hx).trans (a.off x fun h => hx (pf x h))
  new := fun x p' hx => by
    rcases b.new x p' hx with h | h | ⟨b0, p0, h0, h1, h2⟩
    · rcases a.new x p' h with h | h | ⟨b0, p0, h0, h1, h2⟩
      · exact .inl h
      · exact .inr (.inl h)
      · exact .inr (.inr ⟨b0, p0, pf _ h0, h1, h2⟩)
    · exact .inr (.inl (Nat.le_trans a.frm.size h))
    · rcases a.new b0 p0 h1 with h | h | ⟨b1, p1, h3, h4, h5⟩
      · exact .inr (.inr ⟨b0, p0, h0, h, h2⟩)
      · exact .inr (.inl (h2 ▸ h))
      · exact .inr (.inr ⟨b1, p1, pf _ h3, h4, h5.trans h2⟩)
  frm := by
    refine ⟨fun k hk hn => ?_, Nat.le_trans a.frm.size b.frm.size, b.frm.os.trans a.frm.os, b.frm.tape.trans a.frm.tape, b.frm.output.trans a.frm.output⟩
    rw [b.frm.block k (Nat.lt_of_lt_of_le hk a.frm.size), a.frm.block k hk fun x p hx hp => hn x p (pf x hx) hp]
    intro x p hx hp
    intro he
    rcases a.new x p hp with h | h | ⟨b0, p0, h0, h1, h2⟩
    · exact hn x p hx h he
    · omega
    · exact hn b0 p0 (pf _ h0) h1 (h2.trans he)
end

section
/- A checked evaluator of closed calls, part C: the steps that a heap can take. -/
variable {ok : Code → Prop}

noncomputable def touchH (h : Hp) (b : Nat) : Hp := ⟨h.heap, h.next, h.tch ||| 1 <<< b, h.wr⟩
noncomputable def writeH (h : Hp) (b : Nat) (H : Tr AObj) : Hp := ⟨H, h.next, h.tch ||| 1 <<< b, h.wr ||| 1 <<< b⟩
noncomputable def newH (h : Hp) (H : Tr AObj) : Hp := ⟨H, h.next + 1, h.tch ||| 1 <<< h.next, h.wr ||| 1 <<< h.next⟩
/-- b dies, a new one stands in its place. -/
noncomputable def turnH (h : Hp) (b : Nat) (H : Tr AObj) : Hp := ⟨H, h.next + 1, h.tch ||| 1 <<< b ||| 1 <<< h.next, h.wr ||| 1 <<< b ||| 1 <<< h.next⟩

section
variable {β : Type}
noncomputable def touchK (h : Hp) (b : Nat) (k : Hp → β) : β := match h with | ⟨hp, n, t, w⟩ => forceN (t ||| 1 <<< b) fun t => k ⟨hp, n, t, w⟩
theorem touchK_eq (h : Hp) (b : Nat) (k : Hp → β) : touchK h b k = k (touchH h b) := by cases h; simp [touchK, touchH]
/-- Another object in the place of b. -/
noncomputable def writeK (h : Hp) (b : Nat) (o : AObj) (k : Hp → Option β) : Option β :=
  match h with
  | ⟨hp, n, t, w⟩ => hp.put b (some o) fun hp => forceN (t ||| 1 <<< b) fun t => forceN (w ||| 1 <<< b) fun w => k ⟨hp, n, t, w⟩
theorem writeK_some {h : Hp} {b : Nat} {o : AObj} {k : Hp → Option β} {r : β} (e : writeK h b o k = some r) :
    ∃ H, k (writeH h b H) = some r ∧ ∀ m, H.get m = if m = b then some o else h.heap.get m := by
  cases h
  unfold writeK at e
  obtain ⟨H, e, hH⟩ := Tr.put_some e
  simp only [forceN_eq] at e
  exact ⟨H, e, hH⟩
noncomputable def newK (h : Hp) (o : AObj) (k : Nat → Hp → Option β) : Option β :=
  match h with
  | ⟨hp, n, t, w⟩ => hp.put n (some o) fun hp => forceN (t ||| 1 <<< n) fun t => forceN (w ||| 1 <<< n) fun w => forceN (n + 1) fun n' => k n ⟨hp, n', t, w⟩
theorem newK_some {h : Hp} {o : AObj} {k : Nat → Hp → Option β} {r : β} (e : newK h o k = some r) :
    ∃ H, k h.next (newH h H) = some r ∧ ∀ m, H.get m = if m = h.next then some o else h.heap.get m := by
  cases h
  unfold newK at e
  obtain ⟨H, e, hH⟩ := Tr.put_some e
  simp only [forceN_eq] at e
  exact ⟨H, e, hH⟩
noncomputable def turnK (h : Hp) (b : Nat) (o : AObj) (k : Nat → Hp → Option β) : Option β :=
  match h with
  | ⟨hp, n, t, w⟩ => hp.put b none fun hp => hp.put n (some o) fun hp => forceN (t ||| 1 <<< b ||| 1 <<< n) fun t => forceN (w ||| 1 <<< b ||| 1 <<< n) fun w =>
      forceN (n + 1) fun n' => k n ⟨hp, n', t, w⟩
theorem turnK_some {h : Hp} {b : Nat} {o : AObj} {k : Nat → Hp → Option β} {r : β} (e : turnK h b o k = some r) :
    ∃ H, k h.next (turnH h b H) = some r ∧ ∀ m, H.get m = if m = h.next then some o else if m = b then none else h.heap.get m := by
  cases h
  unfold turnK at e
  obtain ⟨H1, e, hH1⟩ := Tr.put_some e
  obtain ⟨H, e, hH⟩ := Tr.put_some e
  simp only [forceN_eq] at e
  exact ⟨H, e, fun m => by rw [hH, hH1]⟩
end

/-! ### the book-keeping of each -/
theorem PF.touch (h : Hp) (b : Nat) : PF h (touchH h b) :=
  ⟨Nat.le_refl _, fun _ h => h, fun x hx => bit_or.2 (.inl hx), fun _ _ => rfl, fun x h1 h2 => by have : x < h.next := h2; omega, fun h => h, fun hs x hx => bit_or.2 (.inl (hs x hx))⟩
theorem PF.write {h : Hp} {b : Nat} {o : AObj} {H : Tr AObj} (hb : b < h.next) (hH : ∀ m, H.get m = if m = b then some o else h.heap.get m) : PF h (writeH h b H) :=
  ⟨Nat.le_refl _, fun x hx => bit_or.2 (.inl hx), fun x hx => bit_or.2 (.inl hx),
   fun x hx => by
    show H.get x = _
    rw [hH, if_neg]
    rintro rfl
    exact hx (bit_or.2 (.inr (bit_one.2 rfl))),
   fun x h1 h2 => by have : x < h.next := h2; omega,
   fun hl x hx => by
    rcases bit_or.1 hx with hx | hx
    · exact hl x hx
    · have := bit_one.1 hx; subst this; exact hb,
   fun hs x hx => by
    rcases bit_or.1 hx with hx | hx
    · exact bit_or.2 (.inl (hs x hx))
    · exact bit_or.2 (.inr hx)⟩
theorem PF.new {h : Hp} {o : AObj} {H : Tr AObj} (hH : ∀ m, H.get m = if m = h.next then some o else h.heap.get m) : PF h (newH h H) :=
  ⟨Nat.le_succ _, fun x hx => bit_or.2 (.inl hx), fun x hx => bit_or.2 (.inl hx),
   fun x hx => by
    show H.get x = _
    rw [hH, if_neg]
    rintro rfl
    exact hx (bit_or.2 (.inr (bit_one.2 rfl))),
   fun x h1 h2 => by
    have h2 : x < h.next + 1 := h2
    exact bit_or.2 (.inr (bit_one.2 (by omega))),
   fun hl x hx => by
    show x < h.next + 1
    rcases bit_or.1 hx with hx | hx
    · have := hl x hx; omega
    · have := bit_one.1 hx; omega,
   fun hs x hx => by
    rcases bit_or.1 hx with hx | hx
    · exact bit_or.2 (.inl (hs x hx))
    · exact bit_or.2 (.inr hx)⟩
theorem PF.turn {h : Hp} {b : Nat} {o : AObj} {H : Tr AObj} (hb : b < h.next) (hH : ∀ m, H.get m = if m = h.next then some o else if m = b then none else h.heap.get m) : PF h (turnH h b H) :=
  ⟨Nat.le_succ _, fun x hx => bit_or.2 (.inl (bit_or.2 (.inl hx))), fun x hx => bit_or.2 (.inl (bit_or.2 (.inl hx))),
   fun x hx => by
    show H.get x = _
    rw [hH, if_neg, if_neg]
    · rintro rfl
      exact hx (bit_or.2 (.inl (bit_or.2 (.inr (bit_one.2 rfl)))))
    · rintro rfl
      exact hx (bit_or.2 (.inr (bit_one.2 rfl))),
   fun x h1 h2 => by
    have h2 : x < h.next + 1 := h2
    exact bit_or.2 (.inr (bit_one.2 (by omega))),
   fun hl x hx => by
    show x < h.next + 1
    rcases bit_or.1 hx with hx | hx
    · rcases bit_or.1 hx with hx | hx
      · have := hl x hx; omega
      · have := bit_one.1 hx; omega
    · have := bit_one.1 hx; omega,
   fun hs x hx => by
    rcases bit_or.1 hx with hx | hx
    · rcases bit_or.1 hx with hx | hx
      · exact bit_or.2 (.inl (bit_or.2 (.inl (hs x hx))))
      · exact bit_or.2 (.inl (bit_or.2 (.inr hx)))
    · exact bit_or.2 (.inr hx)⟩

/-! ### what each says of the world -/
theorem Cont.mono {K K' : Pm} {H : Tr AObj} {w : World} {b : Nat} (hm : Mono K K') (hk : K' b = K b) (h : Cont ok K H w b) : Cont ok K' H w b := fun o ho => by
  obtain ⟨p, x, h1, h2, h3⟩ := h o ho
  exact ⟨p, x, hk.trans h1, h2, h3.mono hm⟩

theorem Post.same {K : Pm} {h h' : Hp} {w : World} {G : Nat → Prop} (hp : Pre ok K h w G) (he : h'.heap = h.heap) : Post ok K w K h' w G :=
  ⟨hp.kok, fun b hb => he ▸ hp.cont b hb, Mono.refl K, fun _ _ => rfl, fun _ _ h => .inl h, Frm.refl _ _ _⟩
theorem Post.drew {K : Pm} {h h' : Hp} {w : World} {G : Nat → Prop} (hp : Pre ok K h w G) (he : h'.heap = h.heap) : Post ok K w K h' w.drew G :=
  ⟨⟨hp.kok.lt, hp.kok.inj, hp.kok.gl⟩, fun b hb => he ▸ hp.cont b hb, Mono.refl K, fun _ _ => rfl, fun _ _ h => .inl h, Frm.drew _ _ _⟩

/-- w' is w, but for the block k, where x' stands. -/
structure Put (w : World) (k : Nat) (x : Obj) (w' : World) : Prop where
  at_ : w'.heap[k]? = some x
  other : ∀ j, j ≠ k → w'.heap[j]? = w.heap[j]?
  size : w'.heap.size = w.heap.size
  os : w'.os = w.os
  tape : w'.tape = w.tape
  output : w'.output = w.output

theorem Post.write {K : Pm} {h : Hp} {w w' : World} {G : Nat → Prop} {b : Nat} {p : Pl} {o : AObj} {x : Obj} {H : Tr AObj} (hp : Pre ok K h w G) (hk : K b = .live p)
    (hH : ∀ m, H.get m = if m = b then some o else h.heap.get m) (hw : Put w p.blk x w') (hor : OR ok K p o x) : Post ok K w K (writeH h b H) w' G where
  kok := ⟨fun y q hq => by rw [hw.size]; exact hp.kok.lt y q hq, hp.kok.inj, hp.kok.gl⟩
  cont := fun y hy o' ho' => by
    have ho' : H.get y = some o' := ho'
    rw [hH] at ho'
    by_cases e : y = b
    · subst e
      rw [if_pos rfl] at ho'
      obtain rfl := Option.some.inj ho'
      exact ⟨p, x, hk, hw.at_, hor⟩
    · rw [if_neg e] at ho'
      obtain ⟨q, z, h1, h2, h3⟩ := hp.cont y hy o' ho'
      exact ⟨q, z, h1, (hw.other _ fun he => e (hp.kok.inj _ _ _ _ h1 hk he)).trans h2, h3⟩
  mono := Mono.refl K
  off := fun _ _ => rfl
  new := fun _ _ h => .inl h
  frm := ⟨fun k hkl hn => hw.other k fun he => hn b p (bit_or.2 (.inr (bit_one.2 rfl))) hk he.symm, by rw [hw.size]; exact Nat.le_refl _, hw.os, hw.tape, hw.output⟩

noncomputable def upK (K : Pm) (b : Nat) (s : Sp) : Pm := fun x => if x = b then s else K x
theorem upK_same (K : Pm) (b : Nat) (s : Sp) : upK K b s b = s := if_pos rfl
theorem upK_other (K : Pm) {b x : Nat} (s : Sp) (h : x ≠ b) : upK K b s x = K x := if_neg h
theorem Mono.upd {K : Pm} {b : Nat} (s : Sp) (h : K b = .absent) : Mono K (upK K b s) := fun x => by
  by_cases e : x = b
  · subst e; exact .inl h
  · exact .inr (.inl (upK_other K s e))

theorem Post.alloc {K : Pm} {h : Hp} {w : World} {G : Nat → Prop} {p : Pl} {o : AObj} {x : Obj} {H : Tr AObj} (hp : Pre ok K h w G) (ha : K h.next = .absent)
    (hH : ∀ m, H.get m = if m = h.next then some o else h.heap.get m) (hpb : p.blk = w.heap.size) (hor : OR ok (upK K h.next (.live p)) p o x) :
    Post ok K w (upK K h.next (.live p)) (newH h H) (w.alloc x) G where
  kok := by
    refine ⟨fun y q hq => ?_, fun y y' q q' hq hq' he => ?_, fun b hb => ?_⟩
    · simp only [World.size_alloc]
      by_cases e : y = h.next
      · rw [e, upK_same] at hq; cases hq; omega
      · rw [upK_other K _ e] at hq; have := hp.kok.lt y q hq; omega
    · by_cases e : y = h.next <;> by_cases e' : y' = h.next
      · rw [e, e']
      · rw [e, upK_same] at hq; rw [upK_other K _ e'] at hq'; cases hq
        have := hp.kok.lt y' q' hq'; omega
      · rw [e', upK_same] at hq'; rw [upK_other K _ e] at hq; cases hq'
        have := hp.kok.lt y q hq; omega
      · rw [upK_other K _ e] at hq; rw [upK_other K _ e'] at hq'
        exact hp.kok.inj _ _ _ _ hq hq' he
    · rw [upK_other K _ (by have := hp.kok.high ha; omega)]; exact hp.kok.gl b hb
  cont := fun y hy o' ho' => by
    have ho' : H.get y = some o' := ho'
    rw [hH] at ho'
    by_cases e : y = h.next
    · subst e
      rw [if_pos rfl] at ho'
      obtain rfl := Option.some.inj ho'
      exact ⟨p, x, upK_same _ _ _, by rw [hpb]; exact heap_alloc_new w x, hor⟩
    · rw [if_neg e] at ho'
      obtain ⟨q, z, h1, h2, h3⟩ := hp.cont y hy o' ho'
      exact ⟨q, z, (upK_other K _ e).trans h1, (heap_alloc_old w x _ (hp.kok.lt _ _ h1)).trans h2, h3.mono (Mono.upd _ ha)⟩
  mono := Mono.upd _ ha
  off := fun y hy => upK_other K _ fun e => hy (e ▸ bit_or.2 (.inr (bit_one.2 rfl)))
  new := fun y p' hy => by
    by_cases e : y = h.next
    · rw [e, upK_same] at hy; cases hy; exact .inr (.inl (by omega))
    · rw [upK_other K _ e] at hy; exact .inl hy
  frm := ⟨fun k hkl hn => heap_alloc_old w x k hkl, by simp, rfl, rfl, rfl⟩

theorem Mono.turn {K : Pm} {b n : Nat} {p : Pl} {s : Sp} (hk : K b = .live p) (h0 : p.esz ≠ 0) (ha : K n = .absent) : Mono K (upK (upK K b .dead) n s) := fun x => by
  by_cases e : x = n
  · subst e; exact .inl ha
  · rw [upK_other _ _ e]
    by_cases e' : x = b
    · subst e'; rw [upK_same]; exact .inr (.inr ⟨rfl, fun q hq => by rw [hk] at hq; cases hq; exact h0⟩)
    · rw [upK_other _ _ e']; exact .inr (.inl rfl)

/-- A row that append made grows: in its place, or elsewhere. -/
theorem Post.turn {K : Pm} {h : Hp} {w w' : World} {G : Nat → Prop} {b : Nat} {p p' : Pl} {o : AObj} {x : Obj} {H : Tr AObj} (hp : Pre ok K h w G) (hk : K b = .live p) (h0 : p.esz ≠ 0)
    (ha : K h.next = .absent) (hH : ∀ m, H.get m = if m = h.next then some o else if m = b then none else h.heap.get m)
    (hor : OR ok (upK (upK K b .dead) h.next (.live p')) p' o x)
    (hw : (p'.blk = p.blk ∧ Put w p.blk x w') ∨ (p'.blk = w.heap.size ∧ ∃ w0 : World, (w0.heap = w.heap ∧ w0.os = w.os ∧ w0.tape = w.tape ∧ w0.output = w.output) ∧ w' = w0.alloc x)) :
    Post ok K w (upK (upK K b .dead) h.next (.live p')) (turnH h b H) w' G := by
  have hbn : b ≠ h.next := fun e => by rw [e, ha] at hk; cases hk
  have hlive : ∀ y q, upK (upK K b .dead) h.next (.live p') y = .live q → (y = h.next ∧ q = p') ∨ (y ≠ h.next ∧ y ≠ b ∧ K y = .live q) := fun y q hq => by
    by_cases e : y = h.next
    · rw [e, upK_same] at hq; cases hq; exact .inl ⟨e, rfl⟩
    · rw [upK_other _ _ e] at hq
      by_cases e' : y = b
      · rw [e', upK_same] at hq; cases hq
      · rw [upK_other _ _ e'] at hq; exact .inr ⟨e, e', hq⟩
  have hsz : w.heap.size ≤ w'.heap.size ∧ p'.blk < w'.heap.size ∧ w'.heap[p'.blk]? = some x ∧ (∀ k, k < w.heap.size → k ≠ p.blk → w'.heap[k]? = w.heap[k]?) ∧ (w'.os = w.os ∧ w'.tape = w.tape ∧ w'.output = w.output) := by
    rcases hw with ⟨e, hw⟩ | ⟨e, w0, ⟨hw0, h1, h2, h3⟩, rfl⟩
    · exact ⟨by rw [hw.size]; exact Nat.le_refl _, by rw [hw.size, e]; exact hp.kok.lt _ _ hk, by rw [e]; exact hw.at_, fun k _ hn => hw.other k hn, hw.os, hw.tape, hw.output⟩
    · refine ⟨by rw [World.size_alloc, hw0]; omega, by rw [World.size_alloc, hw0]; omega, ?_, fun k hk _ => ?_, h1, h2, h3⟩
      · rw [e, ← hw0]; exact heap_alloc_new w0 x
      · rw [← hw0]; exact heap_alloc_old w0 x k (by rw [hw0]; exact hk)
  obtain ⟨hs1, hs2, hs3, hs4, hs5⟩ := hsz
  have hpne : ∀ y q, y ≠ b → K y = .live q → q.blk ≠ p'.blk := fun y q hy hq he => by
    rcases hw with ⟨e, _⟩ | ⟨e, _⟩
    · exact hy (hp.kok.inj _ _ _ _ hq hk (he.trans e))
    · have := hp.kok.lt y q hq; omega
  refine ⟨⟨fun y q hq => ?_, fun y y' q q' hq hq' he => ?_, fun y hy => by
      rw [upK_other _ _ (by have := hp.kok.high ha; omega), upK_other _ _ (by have := hp.kok.high' hk h0; omega)]; exact hp.kok.gl y hy⟩, fun y hy o' ho' => ?_, Mono.turn hk h0 ha, fun y hy => ?_, fun y q hq => ?_, ⟨fun k hkl hn => ?_, hs1, hs5.1, hs5.2.1, hs5.2.2⟩⟩
  · rcases hlive y q hq with ⟨_, rfl⟩ | ⟨_, _, h1⟩
    · exact hs2
    · have := hp.kok.lt y q h1; omega
  · rcases hlive y q hq with ⟨e, rfl⟩ | ⟨e, e2, h1⟩ <;> rcases hlive y' q' hq' with ⟨e', rfl⟩ | ⟨e', e2', h1'⟩
    · rw [e, e']
    · exact absurd he.symm (hpne _ _ e2' h1')
    · exact absurd he (hpne _ _ e2 h1)
    · exact hp.kok.inj _ _ _ _ h1 h1' he
  · have ho' : H.get y = some o' := ho'
    rw [hH] at ho'
    by_cases e : y = h.next
    · subst e
      rw [if_pos rfl] at ho'
      obtain rfl := Option.some.inj ho'
      exact ⟨p', x, upK_same _ _ _, hs3, hor⟩
    · rw [if_neg e] at ho'
      by_cases e' : y = b
      · rw [if_pos e'] at ho'; cases ho'
      · rw [if_neg e'] at ho'
        obtain ⟨q, z, h1, h2, h3⟩ := hp.cont y hy o' ho'
        refine ⟨q, z, (upK_other _ _ e).trans ((upK_other _ _ e').trans h1), ?_, h3.mono (Mono.turn hk h0 ha)⟩
        rw [hs4 _ (hp.kok.lt _ _ h1) fun he => e' (hp.kok.inj _ _ _ _ h1 hk he)]; exact h2
  · rw [upK_other, upK_other]
    · rintro rfl; exact hy (bit_or.2 (.inl (bit_or.2 (.inr (bit_one.2 rfl)))))
    · rintro rfl; exact hy (bit_or.2 (.inr (bit_one.2 rfl)))
  · rcases hlive y q hq with ⟨_, rfl⟩ | ⟨_, _, h1⟩
    · rcases hw with ⟨e, _⟩ | ⟨e, _⟩
      · exact .inr (.inr ⟨b, p, bit_or.2 (.inl (bit_or.2 (.inr (bit_one.2 rfl)))), hk, e.symm⟩)
      · exact .inr (.inl (by omega))
    · exact .inl h1
  · exact hs4 k hkl fun he => hn b p (bit_or.2 (.inl (bit_or.2 (.inr (bit_one.2 rfl))))) hk he.symm
end

section
/- A checked evaluator of closed calls, part D: values, operation by operation. -/
variable {ok : Code → Prop} {P : Program}

/-! ### Lists of values -/
noncomputable def LR (K : Pm) (l l' : List Value) : Prop := l.length = l'.length ∧ ∀ (i : Nat) v v', l[i]? = some v → l'[i]? = some v' → VR K v v'
theorem LR.nil (K : Pm) : LR K [] [] := ⟨rfl, fun i v v' h => by simp at h⟩
theorem LR.cons {K : Pm} {v v' : Value} {l l' : List Value} (h : VR K v v') (k : LR K l l') : LR K (v :: l) (v' :: l') :=
  ⟨by simp [k.1], fun i x x' hx hx' => by
    cases i with
    | zero => simp at hx hx'; subst hx hx'; exact h
    | succ i => exact k.2 i x x' (by simpa using hx) (by simpa using hx')⟩
theorem LR.of_cons {K : Pm} {v v' : Value} {l l' : List Value} (h : LR K (v :: l) (v' :: l')) : VR K v v' ∧ LR K l l' :=
  ⟨h.2 0 v v' rfl rfl, by simpa using h.1, fun i x x' hx hx' => h.2 (i + 1) x x' (by simpa using hx) (by simpa using hx')⟩
theorem LR.mono {K K' : Pm} (hm : Mono K K') {l l' : List Value} (h : LR K l l') : LR K' l l' := ⟨h.1, fun i v v' a b => (h.2 i v v' a b).mono hm⟩
theorem LR.get {K : Pm} {l l' : List Value} (h : LR K l l') {i : Nat} {v : Value} (hv : l[i]? = some v) : ∃ v', l'[i]? = some v' ∧ VR K v v' := by
  have hl : i < l'.length := by have := (List.getElem?_eq_some_iff.1 hv).1; rw [← h.1]; exact this
  exact ⟨l'[i], List.getElem?_eq_getElem hl, h.2 i v _ hv (List.getElem?_eq_getElem hl)⟩
theorem LR.none {K : Pm} {l l' : List Value} (h : LR K l l') {i : Nat} (hv : l[i]? = none) : l'[i]? = none := by
  rw [List.getElem?_eq_none_iff] at hv ⊢; rw [← h.1]; exact hv
theorem VR.agg_iff {K : Pm} {c : Array Value} {v' : Value} : VR K (.agg c) v' ↔ ∃ c', v' = .agg c' ∧ LR K c.toList c'.toList := by
  constructor
  · intro h
    cases h with
    | agg _ c' hc rc => exact ⟨c', rfl, by simpa using hc, fun i v v' a b => rc i v v' (by simpa using a) (by simpa using b)⟩
  · rintro ⟨c', rfl, h1, h2⟩
    exact .agg c c' (by simpa using h1) fun i v v' a b => h2 i v v' (by simpa using a) (by simpa using b)
theorem VR.tuple_iff {K : Pm} {c : Array Value} {v' : Value} : VR K (.tuple c) v' ↔ ∃ c', v' = .tuple c' ∧ LR K c.toList c'.toList := by
  constructor
  · intro h
    cases h with
    | tuple _ c' hc rc => exact ⟨c', rfl, by simpa using hc, fun i v v' a b => rc i v v' (by simpa using a) (by simpa using b)⟩
  · rintro ⟨c', rfl, h1, h2⟩
    exact .tuple c c' (by simpa using h1) fun i v v' a b => h2 i v v' (by simpa using a) (by simpa using b)
theorem VR.func_iff {K : Pm} {fn : Fn} (hn : ∀ l, fn ≠ .yield l) {f c : Array Value} {v' : Value} :
    VR K (.func fn f c) v' ↔ ∃ f' c', v' = .func fn f' c' ∧ LR K f.toList f'.toList ∧ LR K c.toList c'.toList := by
  constructor
  · intro h
    cases h with
    | func _ _ _ f' _ c' hf hc rf rc =>
      exact ⟨f', c', rfl, ⟨by simpa using hf, fun i v v' a b => rf i v v' (by simpa using a) (by simpa using b)⟩, by simpa using hc, fun i v v' a b => rc i v v' (by simpa using a) (by simpa using b)⟩
    | yield h h0 => exact absurd rfl (hn _)
  · rintro ⟨f', c', rfl, h, k⟩
    exact .func fn hn f f' c c' (by simpa using h.1) (by simpa using k.1) (fun i v v' a b => h.2 i v v' (by simpa using a) (by simpa using b)) fun i v v' a b => k.2 i v v' (by simpa using a) (by simpa using b)
theorem VR.undef (K : Pm) : VR K (.tuple #[]) undef := VR.tuple_iff.2 ⟨#[], rfl, LR.nil K⟩
/-- The cells of a value, as a list. -/
noncomputable def cellsOf : Value → List Value
  | .agg cs => cs.toList
  | v => [v]
theorem cellsOf_eq (v : Value) : cellsOf v = v.cells.toList := by cases v <;> rfl
theorem VR.cells {K : Pm} {v v' : Value} (h : VR K v v') : LR K (cellsOf v) (cellsOf v') := by
  cases h with
  | agg c c' hc rc => exact (VR.agg_iff.1 (.agg c c' hc rc)).elim fun x hx => by cases hx.1; exact hx.2
  | _ => exact LR.cons (by constructor <;> assumption) (LR.nil K)
theorem VR.oneCell {K : Pm} {v v' : Value} (h : VR K v v') : v'.oneCell' = v.oneCell' := by cases h <;> rfl

/-! ### Values that name no block -/
noncomputable def gnd : Nat → Value → Bool
  | n + 1, .agg cs => cs.toList.all (gnd n)
  | n + 1, .tuple cs => cs.toList.all (gnd n)
  | n + 1, .iface _ v => gnd n v
  | n + 1, .func (.func _) f c => f.toList.all (gnd n) && c.toList.all (gnd n)
  | _, .bool _ | _, .int .. | _, .float .. | _, .complex .. | _, .string _ | _, .pointer none | _, .slice none _ _ | _, .map none | _, .chan none | _, .nilFunc | _, .nilIface => true
  | _, _ => false
theorem gnd_list {n : Nat} (ih : ∀ v, gnd n v = true → ∀ K, VR K v v ∧ ∀ v', VR K v v' → v' = v) {l : List Value} (h : l.all (gnd n) = true) (K : Pm) :
    LR K l l ∧ ∀ l', LR K l l' → l' = l := by
  induction l with
  | nil => exact ⟨LR.nil K, fun l' h => by have := h.1; exact List.length_eq_zero_iff.1 this.symm⟩
  | cons v l ihl =>
    simp only [List.all_cons, Bool.and_eq_true] at h
    obtain ⟨a, b⟩ := ihl h.2
    refine ⟨LR.cons (ih v h.1 K).1 a, fun l' hl => ?_⟩
    cases l' with
    | nil => have := hl.1; simp at this
    | cons v' l' =>
      obtain ⟨h1, h2⟩ := hl.of_cons
      rw [(ih v h.1 K).2 v' h1, b l' h2]
theorem gnd_vr : ∀ (n : Nat) (v : Value), gnd n v = true → ∀ K, VR K v v ∧ ∀ v', VR K v v' → v' = v := by
  intro n
  induction n with
  | zero =>
    intro v h K
    cases v with
    | bool => exact ⟨.bool _, fun v' h => by cases h; rfl⟩
    | int => exact ⟨.int _ _, fun v' h => by cases h; rfl⟩
    | float => exact ⟨.float _ _, fun v' h => by cases h; rfl⟩
    | complex => exact ⟨.complex _ _ _, fun v' h => by cases h; rfl⟩
    | string => exact ⟨.string _, fun v' h => by cases h; rfl⟩
    | pointer a => cases a <;> first | (simp [gnd] at h; done) | exact ⟨.ptrNil, fun v' h => by cases h; rfl⟩
    | slice a l c => cases a <;> first | (simp [gnd] at h; done) | exact ⟨.sliceNil _ _, fun v' h => by cases h; rfl⟩
    | map a => cases a <;> first | (simp [gnd] at h; done) | exact ⟨.mapNil, fun v' h => by cases h; rfl⟩
    | chan a => cases a <;> first | (simp [gnd] at h; done) | exact ⟨.chanNil, fun v' h => by cases h; rfl⟩
    | func => simp [gnd] at h
    | nilFunc => exact ⟨.nilFunc, fun v' h => by cases h; rfl⟩
    | iface => simp [gnd] at h
    | nilIface => exact ⟨.nilIface, fun v' h => by cases h; rfl⟩
    | agg => simp [gnd] at h
    | tuple => simp [gnd] at h
  | succ n ih =>
    intro v h K
    cases v with
    | bool => exact ⟨.bool _, fun v' h => by cases h; rfl⟩
    | int => exact ⟨.int _ _, fun v' h => by cases h; rfl⟩
    | float => exact ⟨.float _ _, fun v' h => by cases h; rfl⟩
    | complex => exact ⟨.complex _ _ _, fun v' h => by cases h; rfl⟩
    | string => exact ⟨.string _, fun v' h => by cases h; rfl⟩
    | pointer a => cases a <;> first | (simp [gnd] at h; done) | exact ⟨.ptrNil, fun v' h => by cases h; rfl⟩
    | slice a l c => cases a <;> first | (simp [gnd] at h; done) | exact ⟨.sliceNil _ _, fun v' h => by cases h; rfl⟩
    | map a => cases a <;> first | (simp [gnd] at h; done) | exact ⟨.mapNil, fun v' h => by cases h; rfl⟩
    | chan a => cases a <;> first | (simp [gnd] at h; done) | exact ⟨.chanNil, fun v' h => by cases h; rfl⟩
    | func fn f c =>
      cases fn <;> first | (simp [gnd] at h; done) | skip
      simp only [gnd, Bool.and_eq_true] at h
      obtain ⟨a1, a2⟩ := gnd_list ih h.1 K
      obtain ⟨b1, b2⟩ := gnd_list ih h.2 K
      refine ⟨(VR.func_iff (by simp)).2 ⟨f, c, rfl, a1, b1⟩, fun v' hv => ?_⟩
      obtain ⟨f', c', rfl, h1, h2⟩ := (VR.func_iff (by simp)).1 hv
      rw [Array.toList_inj.1 (a2 _ h1), Array.toList_inj.1 (b2 _ h2)]
    | nilFunc => exact ⟨.nilFunc, fun v' h => by cases h; rfl⟩
    | iface t v =>
      obtain ⟨a, b⟩ := ih v h K
      exact ⟨.iface t a, fun v' h => by cases h with | iface _ h => rw [b _ h]⟩
    | nilIface => exact ⟨.nilIface, fun v' h => by cases h; rfl⟩
    | agg cs =>
      obtain ⟨a, b⟩ := gnd_list ih (l := cs.toList) h K
      refine ⟨VR.agg_iff.2 ⟨cs, rfl, a⟩, fun v' hv => ?_⟩
      obtain ⟨c', rfl, hl⟩ := VR.agg_iff.1 hv
      rw [Array.toList_inj.1 (b _ hl)]
    | tuple cs =>
      obtain ⟨a, b⟩ := gnd_list ih (l := cs.toList) h K
      refine ⟨VR.tuple_iff.2 ⟨cs, rfl, a⟩, fun v' hv => ?_⟩
      obtain ⟨c', rfl, hl⟩ := VR.tuple_iff.1 hv
      rw [Array.toList_inj.1 (b _ hl)]
end
end Go.Proofs.YtnbndciididpoaaGreat.Ev
