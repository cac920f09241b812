/- net.checkOrder and the specification's Permutation. -/
import Derived.Test.YtgbcdebnanejpaaRa
import Derived.Laws.MakeOwn
namespace Go.Proofs.Ytgbcdebnanejpaa
set_option linter.unusedVariables false
open Go.RowKit Go.Shelf

theorem info4 : (Try.prog.info? 4).map (fun i => (i.zero, i.size, i.bytes)) = some (some (.bool false), 1, 1) := by kernel_rfl
/-- Block g holds the truth values t 0 .. t (n - 1). -/
def HadAt (W : World) (g n : Nat) (t : Nat → Bool) : Prop :=
  ∃ cur : Array Value, W.heap[g]? = some (.cells cur 4) ∧ ∀ j, j < n → cur[j]? = some (.bool (t j))
theorem HadAt.cell {W : World} {g n j : Nat} {t : Nat → Bool} (h : HadAt W g n t) (hj : j < n) : W.cell? ⟨g, j, none⟩ = some (.bool (t j)) ∧ W.frozen? ⟨g, j, none⟩ = false := by
  obtain ⟨cur, h1, h2⟩ := h
  have := h2 j hj
  simp [World.cell?, World.frozen?, h1, this]
theorem HadAt.set {W : World} {g n j : Nat} {t t' : Nat → Bool} {x : Bool} (h : HadAt W g n t) (hj : j < n) (ht : ∀ i, t' i = if i = j then x else t i) : HadAt (W.setCell ⟨g, j, none⟩ (.bool x)) g n t' := by
  obtain ⟨cur, h1, h2⟩ := h
  refine ⟨cur.setIfInBounds j (.bool x), by simp [World.setCell, Array.getElem?_modify, h1], fun i hi => ?_⟩
  rw [ht]
  have hjs : j < cur.size := (Array.getElem?_eq_some_iff.1 (h2 j hj)).1
  by_cases e : i = j
  · subst e; simp [hjs]
  · rw [if_neg e, Array.getElem?_setIfInBounds_ne (by omega)]; exact h2 i hi
theorem HadAt.lt {W : World} {g n : Nat} {t : Nat → Bool} (h : HadAt W g n t) : g < W.heap.size := by
  obtain ⟨cur, h1, h2⟩ := h
  exact (Array.getElem?_eq_some_iff.1 h1).1
theorem make_bools (n : Nat) (hn : n ≤ 100000) (W : World) :
    (Instr.makeSlice 47 (.int .i64 (n : Int)) (.int .i64 (n : Int))).run Try.prog W = .ok (.slice (some ⟨W.heap.size, 0, none⟩) n n) (W.alloc (.cells (List.replicate n (Value.bool false)).toArray 4)) := by
  obtain ⟨i, h1, h2, h3, h4⟩ := info_parts info4
  have hr := run_make (P := Try.prog) W 47 4 i (.bool false) Try.underlying47 h1 h2 .i64 .i64 n n (by omega) (by omega) (by rw [h4]; omega) (by omega)
  rw [hr, h3]
  have e : madeCells (Value.bool false).cells ((n : Int).toNat * 1) = (List.replicate n (Value.bool false)).toArray := by
    apply Array.toList_inj.1
    rw [Int.toNat_natCast, Nat.mul_one, show (Value.bool false).cells = #[.bool false] from rfl, toList_madeCells_one]
  rw [e]
  simp
theorem hadAt_new (W : World) (n g : Nat) (hg : g = W.heap.size) : HadAt (W.alloc (.cells (List.replicate n (Value.bool false)).toArray 4)) g n (fun _ => false) :=
  ⟨_, alloc_new_at _ _ _ hg, fun j hj => by simp [hj]⟩
theorem IntsAt.get {W : World} {a : Option Addr} {n cap : Nat} {l : List Int} (h : IntsAt W (.slice a n cap) l) {k : Nat} {x : Int} (hk : l[k]? = some x) : ∃ b off, a = some ⟨b, off, none⟩ ∧ b < W.heap.size ∧ W.cell? ⟨b, off + k, none⟩ = some (.int .i64 x) := by
  rcases h with ⟨_, rfl⟩ | ⟨b, off, cap', e, h⟩
  · simp at hk
  · cases e
    have hl : k < l.length := (List.getElem?_eq_some_iff.1 hk).1
    have h1 := h k hl
    rw [hk, Option.getD_some] at h1
    refine ⟨b, off, rfl, ?_, h1⟩
    by_cases hb : b < W.heap.size
    · exact hb
    · have : W.heap[b]? = none := Array.getElem?_eq_none (by omega)
      simp [World.cell?, this] at h1

/-- What both checks of an order return. -/
def permF (n : Nat) : List Int → List Int → Int
  | _, [] => 0
  | seen, x :: r => if x < 0 ∨ (n : Int) ≤ x then 3 else if x ∈ seen then 5 else permF n (seen ++ [x]) r
def permE (l : List Int) (n : Nat) : Int := if l.length ≠ n then 13 else permF n [] l
def seenB (l : List Int) (j q : Nat) : Bool := decide ((q : Int) ∈ l.take j)
def PermOut (X : Int) (w : World) (e : Ending) (w' : World) : Prop := e = .returned (.int .i64 X) ∧ Below w.heap.size w w'
theorem drop_cons {l : List Int} {j : Nat} {x : Int} (h : l[j]? = some x) : l.drop j = x :: l.drop (j + 1) ∧ l.take (j + 1) = l.take j ++ [x] := by
  obtain ⟨hl, he⟩ := List.getElem?_eq_some_iff.1 h
  exact ⟨by rw [List.drop_eq_getElem_cons hl, he], by rw [List.take_add_one, h]; rfl⟩
theorem seenB_succ {l : List Int} {j : Nat} {x : Nat} (h : l[j]? = some (x : Int)) (q : Nat) : seenB l (j + 1) q = if q = x then true else seenB l j q := by
  unfold seenB
  rw [(drop_cons h).2]
  by_cases e : q = x
  · simp [e]
  · rw [if_neg e]
    have : ¬ (q : Int) = (x : Int) := by omega
    simp [this]

set_option maxRecDepth 100000 in
set_option maxHeartbeats 4000000 in
theorem order_any (l : List Int) (n : Nat) (a : Option Addr) (c : Nat) (hn : n ≤ 100000) (hl : l.length ≤ 100000) (w : World) (hi : IntsAt w (.slice a l.length c) l) :
    Calls Try.prog 72 #[.slice a l.length c, .int .i64 n] w (PermOut (permE l n) w) := by
  obtain ⟨X, hX⟩ : ∃ X, X = permE l n := ⟨_, rfl⟩
  rw [← hX]
  obtain ⟨m, hm⟩ : ∃ m, m = l.length := ⟨_, rfl⟩
  rw [← hm] at hi hl ⊢
  have HX := Lib.hid hX
  have HM := Lib.hid hm
  have HI := Lib.hid hi
  clear hX hm hi
  by_cases hne : m = n
  · subst hne
    have hX : X = permF m [] l := by rw [HX.out, permE, if_neg (by have := HM.out; omega)]
    have HX := Lib.hid hX
    clear hX
    have hmk := make_bools m hn
    go_enter Try.func72, Try.ntmps72
    go_wp2
    go_loopw [16] (fun i wr => ∃ j : Nat, j ≤ m ∧ i = .int .i64 j ∧ Below w.heap.size w wr ∧ HadAt wr w.heap.size m (seenB l j) ∧ X = permF m (l.take j) (l.drop j)) (fun i _ => m - (intOf i).toNat)
    case atStart =>
      refine ⟨0, Nat.zero_le _, rfl, (Below.refl _ _).alloc (Nat.le_refl _) _, ?_, HX.out⟩
      obtain ⟨cur, g1, g2⟩ := hadAt_new w m _ rfl
      exact ⟨cur, g1, fun q hq => by rw [g2 q hq]; simp [seenB]⟩
    case round =>
      obtain ⟨j, hj, rfl, hb, hh, hx⟩ := hrel
      have HB := Lib.hid hb
      have HH := Lib.hid hh
      have HXX := Lib.hid hx
      clear hb hh hx
      by_cases hlt : j < m
      · obtain ⟨x, hx⟩ : ∃ x, l[j]? = some x := ⟨_, List.getElem?_eq_getElem (by rw [← HM.out]; exact hlt)⟩
        obtain ⟨b, off, rfl, hbl, hc0⟩ := HI.out.get hx
        have hc : wr.cell? ⟨b, off + j, none⟩ = some (.int .i64 x) := ((bcell HB.out).1 _ _ hbl).trans hc0
        have hi0 : (0 : Int) ≤ (j : Int) := Int.natCast_nonneg _
        have hi1 : (j : Int) < (m : Int) := by omega
        have ham := fun W => namong_any x 0 ((m : Int) - 1) W
        have HXJ := Lib.hid hx
        clear hx hc0
        by_cases hr : 0 ≤ x ∧ x < (m : Int)
        · obtain ⟨y, rfl⟩ : ∃ y : Nat, x = (y : Int) := ⟨x.toNat, by omega⟩
          have hin : inR (y : Int) 0 ((m : Int) - 1) = true := inR_true.2 (by omega)
          rw [hin] at ham
          have HA := Lib.hid ham
          have hy : y < m := by omega
          have hy0 : (0 : Int) ≤ (y : Int) := Int.natCast_nonneg _
          have hy1 : (y : Int) < (m : Int) := by omega
          obtain ⟨hcy, hfy⟩ := HH.out.cell hy
          have hlw : w.heap.size < wr.heap.size := HH.out.lt
          clear ham hin hr
          cases hs : seenB l j y with
          | true =>
            rw [hs] at hcy
            have hX2 : X = 5 := by
              rw [HXX.out, (drop_cons HXJ.out).1, permF, if_neg (by omega), if_pos (by simpa [seenB] using hs)]
            have HX2 := Lib.hid hX2
            clear hX2 hs
            go_wp2_with (go_at_call 55; refine (HA.out _).mono ?_; rintro e w' ⟨rfl, rfl⟩)
            go_ret
            exact ⟨ret_int HX2.out.symm, HB.out⟩
          | false =>
            rw [hs] at hcy
            have hX2 : X = permF m (l.take (j + 1)) (l.drop (j + 1)) := by
              rw [HXX.out, (drop_cons HXJ.out).1, permF, if_neg (by omega), if_neg (by simpa [seenB] using hs), (drop_cons HXJ.out).2]
            have HX2 := Lib.hid hX2
            clear hX2 hs
            go_wp2_with (go_at_call 55; refine (HA.out _).mono ?_; rintro e w' ⟨rfl, rfl⟩)
            go_roundw
            case rel => exact ⟨j + 1, by omega, by go_num, HB.out.setCell (by simp) _, HH.out.set hy (fun q => seenB_succ HXJ.out q), HX2.out⟩
            case measure => simp [intOf]; omega
        · have hin : inR x 0 ((m : Int) - 1) = false := inR_false.2 (by omega)
          rw [hin] at ham
          have HA := Lib.hid ham
          have hX2 : X = 3 := by rw [HXX.out, (drop_cons HXJ.out).1, permF, if_pos (by omega)]
          have HX2 := Lib.hid hX2
          clear ham hin hr hX2
          go_wp2_with (go_at_call 55; refine (HA.out _).mono ?_; rintro e w' ⟨rfl, rfl⟩)
          go_ret
          exact ⟨ret_int HX2.out.symm, HB.out⟩
      · obtain rfl : j = m := by omega
        have hX2 : X = 0 := by rw [HXX.out, List.drop_eq_nil_of_le (by have := HM.out; omega), permF]
        have HX2 := Lib.hid hX2
        clear hX2 hlt
        go_wp2
        go_ret
        exact ⟨ret_int HX2.out.symm, HB.out⟩
  · have hX : X = 13 := by rw [HX.out, permE, if_pos (by have := HM.out; omega)]
    have z : ((m : Int) == (n : Int)) = false := by simp; omega
    have HX := Lib.hid hX
    clear hX
    go_enter Try.func72, Try.ntmps72
    go_wp2
    go_ret
    exact ⟨ret_int HX.out.symm, Below.refl _ _⟩
set_option maxRecDepth 100000 in
set_option maxHeartbeats 4000000 in
theorem rorder_any (l : List Int) (n : Nat) (a : Option Addr) (c : Nat) (hn : n ≤ 100000) (hl : l.length ≤ 100000) (w : World) (hi : IntsAt w (.slice a l.length c) l) :
    Calls Try.prog 74 #[.slice a l.length c, .int .i64 n] w (PermOut (permE l n) w) := by
  obtain ⟨X, hX⟩ : ∃ X, X = permE l n := ⟨_, rfl⟩
  rw [← hX]
  obtain ⟨m, hm⟩ : ∃ m, m = l.length := ⟨_, rfl⟩
  rw [← hm] at hi hl ⊢
  have HX := Lib.hid hX
  have HM := Lib.hid hm
  have HI := Lib.hid hi
  clear hX hm hi
  by_cases hne : m = n
  · subst hne
    have hX : X = permF m [] l := by rw [HX.out, permE, if_neg (by have := HM.out; omega)]
    have HX := Lib.hid hX
    clear hX
    have hmk := make_bools m hn
    go_enter Try.func74, Try.ntmps74
    go_wp2
    go_loopw [6] (fun i wr => ∃ j : Nat, j ≤ m ∧ i = .int .i64 j ∧ Below w.heap.size w wr ∧ HadAt wr w.heap.size m (seenB l j) ∧ X = permF m (l.take j) (l.drop j)) (fun i _ => m - (intOf i).toNat)
    case atStart =>
      refine ⟨0, Nat.zero_le _, rfl, (Below.refl _ _).alloc (Nat.le_refl _) _, ?_, HX.out⟩
      obtain ⟨cur, g1, g2⟩ := hadAt_new w m _ rfl
      exact ⟨cur, g1, fun q hq => by rw [g2 q hq]; simp [seenB]⟩
    case round =>
      obtain ⟨j, hj, rfl, hb, hh, hx⟩ := hrel
      have HB := Lib.hid hb
      have HH := Lib.hid hh
      have HXX := Lib.hid hx
      clear hb hh hx
      by_cases hlt : j < m
      · obtain ⟨x, hx⟩ : ∃ x, l[j]? = some x := ⟨_, List.getElem?_eq_getElem (by rw [← HM.out]; exact hlt)⟩
        obtain ⟨b, off, rfl, hbl, hc0⟩ := HI.out.get hx
        have hc : wr.cell? ⟨b, off + j, none⟩ = some (.int .i64 x) := ((bcell HB.out).1 _ _ hbl).trans hc0
        have hi0 : (0 : Int) ≤ (j : Int) := Int.natCast_nonneg _
        have hi1 : (j : Int) < (m : Int) := by omega
        have HXJ := Lib.hid hx
        clear hx hc0
        by_cases hr : 0 ≤ x ∧ x < (m : Int)
        · obtain ⟨y, rfl⟩ : ∃ y : Nat, x = (y : Int) := ⟨x.toNat, by omega⟩
          have hy : y < m := by omega
          have hy0 : (0 : Int) ≤ (y : Int) := Int.natCast_nonneg _
          have hy1 : (y : Int) < (m : Int) := by omega
          obtain ⟨hcy, hfy⟩ := HH.out.cell hy
          have hlw : w.heap.size < wr.heap.size := HH.out.lt
          clear hr
          cases hs : seenB l j y with
          | true =>
            rw [hs] at hcy
            have hX2 : X = 5 := by
              rw [HXX.out, (drop_cons HXJ.out).1, permF, if_neg (by omega), if_pos (by simpa [seenB] using hs)]
            have HX2 := Lib.hid hX2
            clear hX2 hs
            go_wp2
            go_ret
            exact ⟨ret_int HX2.out.symm, HB.out⟩
          | false =>
            rw [hs] at hcy
            have hX2 : X = permF m (l.take (j + 1)) (l.drop (j + 1)) := by
              rw [HXX.out, (drop_cons HXJ.out).1, permF, if_neg (by omega), if_neg (by simpa [seenB] using hs), (drop_cons HXJ.out).2]
            have HX2 := Lib.hid hX2
            clear hX2 hs
            go_wp2
            go_roundw
            case rel => exact ⟨j + 1, by omega, by go_num, HB.out.setCell (by simp) _, HH.out.set hy (fun q => seenB_succ HXJ.out q), HX2.out⟩
            case measure => simp [intOf]; omega
        · have hX2 : X = 3 := by rw [HXX.out, (drop_cons HXJ.out).1, permF, if_pos (by omega)]
          have HX2 := Lib.hid hX2
          clear hX2
          by_cases hx0 : x < 0
          · have z : (x < 0) = True := by simp [hx0]
            clear hr hx0
            go_wp2
            go_ret
            exact ⟨ret_int HX2.out.symm, HB.out⟩
          · have z : (x < 0) = False := by simp [hx0]
            have z1 : ((m : Int) ≤ x) = True := by simp; omega
            clear hr hx0
            go_wp2
            go_ret
            exact ⟨ret_int HX2.out.symm, HB.out⟩
      · obtain rfl : j = m := by omega
        have hX2 : X = 0 := by rw [HXX.out, List.drop_eq_nil_of_le (by have := HM.out; omega), permF]
        have HX2 := Lib.hid hX2
        clear hX2 hlt
        go_wp2
        go_ret
        exact ⟨ret_int HX2.out.symm, HB.out⟩
  · have hX : X = 13 := by rw [HX.out, permE, if_pos (by have := HM.out; omega)]
    have z : ((m : Int) == (n : Int)) = false := by simp; omega
    have HX := Lib.hid hX
    clear hX
    go_enter Try.func74, Try.ntmps74
    go_wp2
    go_ret
    exact ⟨ret_int HX.out.symm, Below.refl _ _⟩
end Go.Proofs.Ytgbcdebnanejpaa
