/- sameNet of two networks that read as the same. -/
import Derived.Test.YtgbcdebnanejpaaN5
import Derived.Laws.MakeOwn
import Derived.OwnWalkIn
import Derived.Test.YtgbcdebnanejpaaD3
namespace Go.Proofs.Ytgbcdebnanejpaa
set_option linter.unusedVariables false
open Go.RowKit Go.Shelf

set_option maxRecDepth 100000 in
set_option maxHeartbeats 4000000 in
theorem sameNet_any (ps : List Prm) (inp : Int) (ss : List Syn) (a1 a2 b1 b2 : Option Addr) (c1 c2 d1 d2 : Nat) (h1 : ps.length ≤ 100000) (h2 : ss.length ≤ 100000) (w : World)
    (hp : PsAt w (.slice a1 ps.length c1) ps) (hs : SsAt w (.slice a2 ss.length c2) ss) (hp' : PsAt w (.slice b1 ps.length d1) ps) (hs' : SsAt w (.slice b2 ss.length d2) ss) :
    Calls Try.prog 29 #[.agg #[.slice a1 ps.length c1, .int .i64 inp, .slice a2 ss.length c2], .agg #[.slice b1 ps.length d1, .int .i64 inp, .slice b2 ss.length d2]] w fun e w' => e = .returned (.bool true) ∧ Below w.heap.size w w' := by
  obtain ⟨k, hk⟩ : ∃ k, k = ps.length := ⟨_, rfl⟩
  obtain ⟨m, hm⟩ : ∃ m, m = ss.length := ⟨_, rfl⟩
  rw [← hk] at h1 hp hp' ⊢
  rw [← hm] at h2 hs hs' ⊢
  have HP := Lib.hid hp
  have HS := Lib.hid hs
  have HP' := Lib.hid hp'
  have HS' := Lib.hid hs'
  have HKK := Lib.hid hk
  have HMM := Lib.hid hm
  clear hp hs hp' hs' hk hm
  go_enter Try.func29, Try.ntmps29
  go_wp2
  go_loopw [5] (fun i wr => ∃ j : Nat, j ≤ k ∧ i = .int .i64 j ∧ Below w.heap.size w wr ∧ NetBox wr w.heap.size (.slice a1 k c1) inp (.slice a2 m c2) ∧ NetBox wr (w.heap.size + 1) (.slice b1 k d1) inp (.slice b2 m d2)) (fun i _ => k - (intOf i).toNat)
  case atStart => exact ⟨0, Nat.zero_le _, rfl, ((Below.refl _ _).alloc (Nat.le_refl _) _).alloc (by simp) _, (Below.heap_alloc _ _ _ (by simp)).trans (alloc_new_at _ _ _ rfl), alloc_new_at _ _ _ (by simp)⟩
  case round =>
    obtain ⟨j, hj, rfl, hb, hb1, hb2⟩ := hrel
    have HB := Lib.hid hb
    have HB1 := Lib.hid hb1
    have HB2 := Lib.hid hb2
    clear hb hb1 hb2
    obtain ⟨u0, u1, u2⟩ := cells3 HB1.out
    obtain ⟨v0, v1, v2⟩ := cells3 HB2.out
    have hl1 : w.heap.size < wr.heap.size := lt_of_block HB1.out
    have hl2 : w.heap.size + 1 < wr.heap.size := lt_of_block HB2.out
    by_cases hlt : j < k
    · obtain ⟨q, hq⟩ : ∃ q, ps[j]? = some q := ⟨_, List.getElem?_eq_getElem (by rw [← HKK.out]; exact hlt)⟩
      obtain ⟨b, off, rfl, hbl, hc⟩ := (HP.out.below HB.out).at hq
      obtain ⟨b', off', rfl, hbl', hc'⟩ := (HP'.out.below HB.out).at hq
      obtain ⟨_, _, _, _, _, _, _, _⟩ := hc
      obtain ⟨_, _, _, _, _, _, _, _⟩ := hc'
      have hi0 : (0 : Int) ≤ (j : Int) := Int.natCast_nonneg _
      have hi1 : (j : Int) < (k : Int) := by omega
      clear hq
      go_wp2
      go_quiet (fail)
      go_wp2
      go_roundw
      case rel => exact ⟨j + 1, by omega, by go_num, by first | exact HB.out | exact below_drewN HB.out _ | exact HB.out.drew, HB1.out, HB2.out⟩
      case measure => simp [intOf]; omega
    · obtain rfl : j = k := by omega
      clear hlt
      go_wp2
      go_loopw [6] (fun i wr => ∃ t : Nat, t ≤ m ∧ i = .int .i64 t ∧ Below w.heap.size w wr ∧ NetBox wr w.heap.size (.slice a1 j c1) inp (.slice a2 m c2) ∧ NetBox wr (w.heap.size + 1) (.slice b1 j d1) inp (.slice b2 m d2)) (fun i _ => m - (intOf i).toNat)
      case atStart => exact ⟨0, Nat.zero_le _, rfl, HB.out, HB1.out, HB2.out⟩
      case round =>
        obtain ⟨t, ht, rfl, hb, hb1, hb2⟩ := hrel
        clear u0 u1 u2 v0 v1 v2 hl1 hl2
        have HB := Lib.hid hb
        have HB1 := Lib.hid hb1
        have HB2 := Lib.hid hb2
        clear hb hb1 hb2
        obtain ⟨u0, u1, u2⟩ := cells3 HB1.out
        obtain ⟨v0, v1, v2⟩ := cells3 HB2.out
        have hl1 : w.heap.size < wr.heap.size := lt_of_block HB1.out
        have hl2 : w.heap.size + 1 < wr.heap.size := lt_of_block HB2.out
        by_cases hlt : t < m
        · obtain ⟨s, hs⟩ : ∃ s, ss[t]? = some s := ⟨_, List.getElem?_eq_getElem (by rw [← HMM.out]; exact hlt)⟩
          obtain ⟨b, off, rfl, hbl, hc⟩ := (HS.out.below HB.out).at hs
          obtain ⟨b', off', rfl, hbl', hc'⟩ := (HS'.out.below HB.out).at hs
          obtain ⟨_, _, _, _⟩ := hc
          obtain ⟨_, _, _, _⟩ := hc'
          have hi0 : (0 : Int) ≤ (t : Int) := Int.natCast_nonneg _
          have hi1 : (t : Int) < (m : Int) := by omega
          clear hs
          go_wp2
          go_quiet (fail)
          go_wp2
          go_roundw
          case rel => exact ⟨t + 1, by omega, by go_num, by first | exact HB.out | exact below_drewN HB.out _ | exact HB.out.drew, HB1.out, HB2.out⟩
          case measure => simp [intOf]; omega
        · obtain rfl : t = m := by omega
          clear hlt
          go_wp2
          go_ret
          exact ⟨rfl, HB.out⟩
end Go.Proofs.Ytgbcdebnanejpaa
namespace Go.Proofs.Ytgbcdebnanejpaa
set_option linter.unusedVariables false
open Go.RowKit Go.Shelf

theorem info4 : (Try.prog.info? 4).map (fun i => (i.zero, i.size, i.bytes)) = some (some (.bool false), 1, 1) := by kernel_rfl
/-- Block g holds the truth values t 0 .. t (n - 1). -/
def HadAt (W : World) (g n : Nat) (t : Nat → Bool) : Prop :=
  ∃ cur : Array Value, W.heap[g]? = some (.cells cur 4) ∧ ∀ j, j < n → cur[j]? = some (.bool (t j))
theorem HadAt.cell {W : World} {g n j : Nat} {t : Nat → Bool} (h : HadAt W g n t) (hj : j < n) : W.cell? ⟨g, j, none⟩ = some (.bool (t j)) ∧ W.frozen? ⟨g, j, none⟩ = false := by
  obtain ⟨cur, h1, h2⟩ := h
  have := h2 j hj
  simp [World.cell?, World.frozen?, h1, this]
theorem HadAt.set {W : World} {g n j : Nat} {t t' : Nat → Bool} {x : Bool} (h : HadAt W g n t) (hj : j < n) (ht : ∀ i, t' i = if i = j then x else t i) : HadAt (W.setCell ⟨g, j, none⟩ (.bool x)) g n t' := by
  obtain ⟨cur, h1, h2⟩ := h
  refine ⟨cur.setIfInBounds j (.bool x), by simp [World.setCell, Array.getElem?_modify, h1], fun i hi => ?_⟩
  rw [ht]
  have hjs : j < cur.size := (Array.getElem?_eq_some_iff.1 (h2 j hj)).1
  by_cases e : i = j
  · subst e; simp [hjs]
  · rw [if_neg e, Array.getElem?_setIfInBounds_ne (by omega)]; exact h2 i hi
theorem HadAt.lt {W : World} {g n : Nat} {t : Nat → Bool} (h : HadAt W g n t) : g < W.heap.size := by
  obtain ⟨cur, h1, h2⟩ := h
  exact (Array.getElem?_eq_some_iff.1 h1).1
theorem make_bools (n : Nat) (hn : n ≤ 100000) (W : World) :
    (Instr.makeSlice 47 (.int .i64 (n : Int)) (.int .i64 (n : Int))).run Try.prog W = .ok (.slice (some ⟨W.heap.size, 0, none⟩) n n) (W.alloc (.cells (List.replicate n (Value.bool false)).toArray 4)) := by
  obtain ⟨i, h1, h2, h3, h4⟩ := info_parts info4
  have hr := run_make (P := Try.prog) W 47 4 i (.bool false) Try.underlying47 h1 h2 .i64 .i64 n n (by omega) (by omega) (by rw [h4]; omega) (by omega)
  rw [hr, h3]
  have e : madeCells (Value.bool false).cells ((n : Int).toNat * 1) = (List.replicate n (Value.bool false)).toArray := by
    apply Array.toList_inj.1
    rw [Int.toNat_natCast, Nat.mul_one, show (Value.bool false).cells = #[.bool false] from rfl, toList_madeCells_one]
  rw [e]
  simp
theorem hadAt_new (W : World) (n g : Nat) (hg : g = W.heap.size) : HadAt (W.alloc (.cells (List.replicate n (Value.bool false)).toArray 4)) g n (fun _ => false) :=
  ⟨_, alloc_new_at _ _ _ hg, fun j hj => by simp [hj]⟩
theorem IntsAt.get {W : World} {a : Option Addr} {n cap : Nat} {l : List Int} (h : IntsAt W (.slice a n cap) l) {k : Nat} {x : Int} (hk : l[k]? = some x) : ∃ b off, a = some ⟨b, off, none⟩ ∧ b < W.heap.size ∧ W.cell? ⟨b, off + k, none⟩ = some (.int .i64 x) := by
  rcases h with ⟨_, rfl⟩ | ⟨b, off, cap', e, h⟩
  · simp at hk
  · cases e
    have hl : k < l.length := (List.getElem?_eq_some_iff.1 hk).1
    have h1 := h k hl
    rw [hk, Option.getD_some] at h1
    refine ⟨b, off, rfl, ?_, h1⟩
    by_cases hb : b < W.heap.size
    · exact hb
    · have : W.heap[b]? = none := Array.getElem?_eq_none (by omega)
      simp [World.cell?, this] at h1

/-- What both checks of an order return. -/
def permF (n : Nat) : List Int → List Int → Int
  | _, [] => 0
  | seen, x :: r => if x < 0 ∨ (n : Int) ≤ x then 3 else if x ∈ seen then 5 else permF n (seen ++ [x]) r
def permE (l : List Int) (n : Nat) : Int := if l.length ≠ n then 13 else permF n [] l
def seenB (l : List Int) (j q : Nat) : Bool := decide ((q : Int) ∈ l.take j)
def PermOut (X : Int) (w : World) (e : Ending) (w' : World) : Prop := e = .returned (.int .i64 X) ∧ Below w.heap.size w w'
theorem drop_cons {l : List Int} {j : Nat} {x : Int} (h : l[j]? = some x) : l.drop j = x :: l.drop (j + 1) ∧ l.take (j + 1) = l.take j ++ [x] := by
  obtain ⟨hl, he⟩ := List.getElem?_eq_some_iff.1 h
  exact ⟨by rw [List.drop_eq_getElem_cons hl, he], by rw [List.take_add_one, h]; rfl⟩
theorem seenB_succ {l : List Int} {j : Nat} {x : Nat} (h : l[j]? = some (x : Int)) (q : Nat) : seenB l (j + 1) q = if q = x then true else seenB l j q := by
  unfold seenB
  rw [(drop_cons h).2]
  by_cases e : q = x
  · simp [e]
  · rw [if_neg e]
    have : ¬ (q : Int) = (x : Int) := by omega
    simp [this]

set_option maxRecDepth 100000 in
set_option maxHeartbeats 4000000 in
theorem order_any (l : List Int) (n : Nat) (a : Option Addr) (c : Nat) (hn : n ≤ 100000) (hl : l.length ≤ 100000) (w : World) (hi : IntsAt w (.slice a l.length c) l) :
    Calls Try.prog 72 #[.slice a l.length c, .int .i64 n] w (PermOut (permE l n) w) := by
  obtain ⟨X, hX⟩ : ∃ X, X = permE l n := ⟨_, rfl⟩
  rw [← hX]
  obtain ⟨m, hm⟩ : ∃ m, m = l.length := ⟨_, rfl⟩
  rw [← hm] at hi hl ⊢
  have HX := Lib.hid hX
  have HM := Lib.hid hm
  have HI := Lib.hid hi
  clear hX hm hi
  by_cases hne : m = n
  · subst hne
    have hX : X = permF m [] l := by rw [HX.out, permE, if_neg (by have := HM.out; omega)]
    have HX := Lib.hid hX
    clear hX
    have hmk := make_bools m hn
    go_enter Try.func72, Try.ntmps72
    go_wp2
    go_loopw [16] (fun i wr => ∃ j : Nat, j ≤ m ∧ i = .int .i64 j ∧ Below w.heap.size w wr ∧ HadAt wr w.heap.size m (seenB l j) ∧ X = permF m (l.take j) (l.drop j)) (fun i _ => m - (intOf i).toNat)
    case atStart =>
      refine ⟨0, Nat.zero_le _, rfl, (Below.refl _ _).alloc (Nat.le_refl _) _, ?_, HX.out⟩
      obtain ⟨cur, g1, g2⟩ := hadAt_new w m _ rfl
      exact ⟨cur, g1, fun q hq => by rw [g2 q hq]; simp [seenB]⟩
    case round =>
      obtain ⟨j, hj, rfl, hb, hh, hx⟩ := hrel
      have HB := Lib.hid hb
      have HH := Lib.hid hh
      have HXX := Lib.hid hx
      clear hb hh hx
      by_cases hlt : j < m
      · obtain ⟨x, hx⟩ : ∃ x, l[j]? = some x := ⟨_, List.getElem?_eq_getElem (by rw [← HM.out]; exact hlt)⟩
        obtain ⟨b, off, rfl, hbl, hc0⟩ := HI.out.get hx
        have hc : wr.cell? ⟨b, off + j, none⟩ = some (.int .i64 x) := ((bcell HB.out).1 _ _ hbl).trans hc0
        have hi0 : (0 : Int) ≤ (j : Int) := Int.natCast_nonneg _
        have hi1 : (j : Int) < (m : Int) := by omega
        have ham := fun W => namong_any x 0 ((m : Int) - 1) W
        have HXJ := Lib.hid hx
        clear hx hc0
        by_cases hr : 0 ≤ x ∧ x < (m : Int)
        · obtain ⟨y, rfl⟩ : ∃ y : Nat, x = (y : Int) := ⟨x.toNat, by omega⟩
          have hin : inR (y : Int) 0 ((m : Int) - 1) = true := inR_true.2 (by omega)
          rw [hin] at ham
          have HA := Lib.hid ham
          have hy : y < m := by omega
          have hy0 : (0 : Int) ≤ (y : Int) := Int.natCast_nonneg _
          have hy1 : (y : Int) < (m : Int) := by omega
          obtain ⟨hcy, hfy⟩ := HH.out.cell hy
          have hlw : w.heap.size < wr.heap.size := HH.out.lt
          clear ham hin hr
          cases hs : seenB l j y with
          | true =>
            rw [hs] at hcy
            have hX2 : X = 5 := by
              rw [HXX.out, (drop_cons HXJ.out).1, permF, if_neg (by omega), if_pos (by simpa [seenB] using hs)]
            have HX2 := Lib.hid hX2
            clear hX2 hs
            go_wp2_with (go_at_call 55; refine (HA.out _).mono ?_; rintro e w' ⟨rfl, rfl⟩)
            go_ret
            exact ⟨ret_int HX2.out.symm, HB.out⟩
          | false =>
            rw [hs] at hcy
            have hX2 : X = permF m (l.take (j + 1)) (l.drop (j + 1)) := by
              rw [HXX.out, (drop_cons HXJ.out).1, permF, if_neg (by omega), if_neg (by simpa [seenB] using hs), (drop_cons HXJ.out).2]
            have HX2 := Lib.hid hX2
            clear hX2 hs
            go_wp2_with (go_at_call 55; refine (HA.out _).mono ?_; rintro e w' ⟨rfl, rfl⟩)
            go_roundw
            case rel => exact ⟨j + 1, by omega, by go_num, HB.out.setCell (by simp) _, HH.out.set hy (fun q => seenB_succ HXJ.out q), HX2.out⟩
            case measure => simp [intOf]; omega
        · have hin : inR x 0 ((m : Int) - 1) = false := inR_false.2 (by omega)
          rw [hin] at ham
          have HA := Lib.hid ham
          have hX2 : X = 3 := by rw [HXX.out, (drop_cons HXJ.out).1, permF, if_pos (by omega)]
          have HX2 := Lib.hid hX2
          clear ham hin hr hX2
          go_wp2_with (go_at_call 55; refine (HA.out _).mono ?_; rintro e w' ⟨rfl, rfl⟩)
          go_ret
          exact ⟨ret_int HX2.out.symm, HB.out⟩
      · obtain rfl : j = m := by omega
        have hX2 : X = 0 := by rw [HXX.out, List.drop_eq_nil_of_le (by have := HM.out; omega), permF]
        have HX2 := Lib.hid hX2
        clear hX2 hlt
        go_wp2
        go_ret
        exact ⟨ret_int HX2.out.symm, HB.out⟩
  · have hX : X = 13 := by rw [HX.out, permE, if_pos (by have := HM.out; omega)]
    have z : ((m : Int) == (n : Int)) = false := by simp; omega
    have HX := Lib.hid hX
    clear hX
    go_enter Try.func72, Try.ntmps72
    go_wp2
    go_ret
    exact ⟨ret_int HX.out.symm, Below.refl _ _⟩
set_option maxRecDepth 100000 in
set_option maxHeartbeats 4000000 in
theorem rorder_any (l : List Int) (n : Nat) (a : Option Addr) (c : Nat) (hn : n ≤ 100000) (hl : l.length ≤ 100000) (w : World) (hi : IntsAt w (.slice a l.length c) l) :
    Calls Try.prog 74 #[.slice a l.length c, .int .i64 n] w (PermOut (permE l n) w) := by
  obtain ⟨X, hX⟩ : ∃ X, X = permE l n := ⟨_, rfl⟩
  rw [← hX]
  obtain ⟨m, hm⟩ : ∃ m, m = l.length := ⟨_, rfl⟩
  rw [← hm] at hi hl ⊢
  have HX := Lib.hid hX
  have HM := Lib.hid hm
  have HI := Lib.hid hi
  clear hX hm hi
  by_cases hne : m = n
  · subst hne
    have hX : X = permF m [] l := by rw [HX.out, permE, if_neg (by have := HM.out; omega)]
    have HX := Lib.hid hX
    clear hX
    have hmk := make_bools m hn
    go_enter Try.func74, Try.ntmps74
    go_wp2
    go_loopw [6] (fun i wr => ∃ j : Nat, j ≤ m ∧ i = .int .i64 j ∧ Below w.heap.size w wr ∧ HadAt wr w.heap.size m (seenB l j) ∧ X = permF m (l.take j) (l.drop j)) (fun i _ => m - (intOf i).toNat)
    case atStart =>
      refine ⟨0, Nat.zero_le _, rfl, (Below.refl _ _).alloc (Nat.le_refl _) _, ?_, HX.out⟩
      obtain ⟨cur, g1, g2⟩ := hadAt_new w m _ rfl
      exact ⟨cur, g1, fun q hq => by rw [g2 q hq]; simp [seenB]⟩
    case round =>
      obtain ⟨j, hj, rfl, hb, hh, hx⟩ := hrel
      have HB := Lib.hid hb
      have HH := Lib.hid hh
      have HXX := Lib.hid hx
      clear hb hh hx
      by_cases hlt : j < m
      · obtain ⟨x, hx⟩ : ∃ x, l[j]? = some x := ⟨_, List.getElem?_eq_getElem (by rw [← HM.out]; exact hlt)⟩
        obtain ⟨b, off, rfl, hbl, hc0⟩ := HI.out.get hx
        have hc : wr.cell? ⟨b, off + j, none⟩ = some (.int .i64 x) := ((bcell HB.out).1 _ _ hbl).trans hc0
        have hi0 : (0 : Int) ≤ (j : Int) := Int.natCast_nonneg _
        have hi1 : (j : Int) < (m : Int) := by omega
        have HXJ := Lib.hid hx
        clear hx hc0
        by_cases hr : 0 ≤ x ∧ x < (m : Int)
        · obtain ⟨y, rfl⟩ : ∃ y : Nat, x = (y : Int) := ⟨x.toNat, by omega⟩
          have hy : y < m := by omega
          have hy0 : (0 : Int) ≤ (y : Int) := Int.natCast_nonneg _
          have hy1 : (y : Int) < (m : Int) := by omega
          obtain ⟨hcy, hfy⟩ := HH.out.cell hy
          have hlw : w.heap.size < wr.heap.size := HH.out.lt
          clear hr
          cases hs : seenB l j y with
          | true =>
            rw [hs] at hcy
            have hX2 : X = 5 := by
              rw [HXX.out, (drop_cons HXJ.out).1, permF, if_neg (by omega), if_pos (by simpa [seenB] using hs)]
            have HX2 := Lib.hid hX2
            clear hX2 hs
            go_wp2
            go_ret
            exact ⟨ret_int HX2.out.symm, HB.out⟩
          | false =>
            rw [hs] at hcy
            have hX2 : X = permF m (l.take (j + 1)) (l.drop (j + 1)) := by
              rw [HXX.out, (drop_cons HXJ.out).1, permF, if_neg (by omega), if_neg (by simpa [seenB] using hs), (drop_cons HXJ.out).2]
            have HX2 := Lib.hid hX2
            clear hX2 hs
            go_wp2
            go_roundw
            case rel => exact ⟨j + 1, by omega, by go_num, HB.out.setCell (by simp) _, HH.out.set hy (fun q => seenB_succ HXJ.out q), HX2.out⟩
            case measure => simp [intOf]; omega
        · have hX2 : X = 3 := by rw [HXX.out, (drop_cons HXJ.out).1, permF, if_pos (by omega)]
          have HX2 := Lib.hid hX2
          clear hX2
          by_cases hx0 : x < 0
          · have z : (x < 0) = True := by simp [hx0]
            clear hr hx0
            go_wp2
            go_ret
            exact ⟨ret_int HX2.out.symm, HB.out⟩
          · have z : (x < 0) = False := by simp [hx0]
            have z1 : ((m : Int) ≤ x) = True := by simp; omega
            clear hr hx0
            go_wp2
            go_ret
            exact ⟨ret_int HX2.out.symm, HB.out⟩
      · obtain rfl : j = m := by omega
        have hX2 : X = 0 := by rw [HXX.out, List.drop_eq_nil_of_le (by have := HM.out; omega), permF]
        have HX2 := Lib.hid hX2
        clear hX2 hlt
        go_wp2
        go_ret
        exact ⟨ret_int HX2.out.symm, HB.out⟩
  · have hX : X = 13 := by rw [HX.out, permE, if_pos (by have := HM.out; omega)]
    have z : ((m : Int) == (n : Int)) = false := by simp; omega
    have HX := Lib.hid hX
    clear hX
    go_enter Try.func74, Try.ntmps74
    go_wp2
    go_ret
    exact ⟨ret_int HX.out.symm, Below.refl _ _⟩
end Go.Proofs.Ytgbcdebnanejpaa
namespace Go.Proofs.Ytgbcdebnanejpaa.Rn
set_option linter.unusedVariables false
open Go.RowKit Go.Shelf

theorem info96 : (Try.prog.info? 96).map (fun i => (i.zero, i.size, i.bytes)) = some (some (.agg #[.int .i64 0, .int .i64 0, .int .i64 0, .int .i64 0]), 4, 32) := by kernel_rfl
def synV (s : Syn) : List Value := [.int .i64 s.fr, .int .i64 s.to, .int .i64 s.wt, .int .i64 s.dl]
def synCs (l : List Syn) : List Value := l.flatMap synV
theorem synCs_length (l : List Syn) : (synCs l).length = l.length * 4 := by
  induction l with
  | nil => rfl
  | cons s l ih => simp [synCs, synV] at *; omega
theorem synCs_snoc (l : List Syn) (s : Syn) : synCs (l ++ [s]) = synCs l ++ synV s := by simp [synCs]
theorem synCs_get : ∀ (l : List Syn) (i c : Nat) (s : Syn), c < 4 → l[i]? = some s → (synCs l)[i * 4 + c]? = (synV s)[c]?
  | [], i, c, r, _, h => by simp at h
  | x :: rs, 0, c, r, hc, h => by
    simp at h; subst h
    rw [synCs, List.flatMap_cons, List.getElem?_append_left (by simp [synV]; omega)]
    simp
  | x :: rs, i + 1, c, r, hc, h => by
    rw [synCs, List.flatMap_cons, List.getElem?_append_right (by simp [synV]; omega)]
    have := synCs_get rs i c r hc (by simpa using h)
    rw [← this, synCs]
    congr 1
    simp [synV]; omega
theorem synV_one {u : Value} {l : List Syn} (h : u ∈ synCs l) : u.oneCell' = true := by
  obtain ⟨s, _, hs⟩ := List.mem_flatMap.1 h
  simp [synV] at hs
  rcases hs with rfl | rfl | rfl | rfl <;> rfl
theorem ssAt_of_owns {W : World} {base : Nat} {v : Value} {l : List Syn} (h : W.ownsRow base 96 4 v l.length (synCs l)) : SsAt W v l := by
  rcases h.2 with ⟨rfl, h0⟩ | ⟨g, cap, cur, rfl, hb, hg, _, _, _, ht⟩
  · exact Or.inl ⟨rfl, List.eq_nil_of_length_eq_zero h0⟩
  · refine Or.inr ⟨g, 0, cap, rfl, (Array.getElem?_eq_some_iff.1 hg).1, fun k r hk => ?_⟩
    have key : ∀ c u, c < 4 → (synV r)[c]? = some u → W.cell? ⟨g, 0 + k * 4 + c, none⟩ = some u := fun c u hc hu => by
      have h1 := h.cells (g := g) rfl (k * 4 + c) u (by rw [synCs_get l k c r hc hk]; exact hu)
      have hadd : (⟨g, 0, none⟩ : Addr).add (k * 4 + c) = ⟨g, k * 4 + c, none⟩ := by unfold Addr.add; split <;> simp_all
      rw [hadd] at h1
      rw [show 0 + k * 4 + c = k * 4 + c by omega]; exact h1
    exact ⟨key 0 _ (by omega) rfl, key 1 _ (by omega) rfl, key 2 _ (by omega) rfl, key 3 _ (by omega) rfl⟩
theorem synCs_cell {W : World} {b off m : Nat} {l : List Syn} (h : ∀ k s, l[k]? = some s → SynCells W b (off + k * 4) s) : ∀ (j : Nat) u, (synCs l)[j]? = some u → W.cell? ⟨b, off + j, none⟩ = some u := fun j u hu => by
  have hj : j < l.length * 4 := by rw [← synCs_length]; exact (List.getElem?_eq_some_iff.1 hu).1
  obtain ⟨s, hs⟩ : ∃ s, l[j / 4]? = some s := ⟨_, List.getElem?_eq_getElem (by omega)⟩
  have h1 := synCs_get l (j / 4) (j % 4) s (by omega) hs
  rw [show j / 4 * 4 + j % 4 = j by omega, hu] at h1
  obtain ⟨c0, c1, c2, c3⟩ := h _ _ hs
  have hq : j = j / 4 * 4 + j % 4 := by omega
  have hm : j % 4 = 0 ∨ j % 4 = 1 ∨ j % 4 = 2 ∨ j % 4 = 3 := by omega
  rcases hm with e | e | e | e <;> rw [e] at h1 hq <;> simp [synV] at h1 <;> subst h1 <;> rw [hq]
  · exact c0
  · rw [← Nat.add_assoc]; exact c1
  · rw [← Nat.add_assoc]; exact c2
  · rw [← Nat.add_assoc]; exact c3

/-- What Clone leaves. -/
def Cloned (ss : List Syn) (w : World) (e : Ending) (w' : World) : Prop :=
  ∃ v, e = .returned v ∧ w'.ownsRow w.heap.size 96 4 v ss.length (synCs ss) ∧ Below w.heap.size w w'
set_option maxHeartbeats 1000000 in
set_option maxRecDepth 100000 in
theorem clone_any (a : Option Addr) (cap : Nat) (ss : List Syn) (hl : ss.length ≤ 100000) (w : World) (hS : SsAt w (.slice a ss.length cap) ss) :
    Calls Try.prog 73 #[.slice a ss.length cap] w (Cloned ss w) := by
  obtain ⟨i0, hi, hz0, hzz1, hzz2⟩ := info_parts info96
  obtain ⟨n, hn⟩ : ∃ n, n = ss.length := ⟨_, rfl⟩
  rw [← hn] at hl hS ⊢
  have HL := Lib.hid hn
  rcases hS with ⟨h1, rfl⟩ | ⟨b, off, c', h1, hbl, hc⟩
  · obtain ⟨rfl, rfl, rfl⟩ : a = none ∧ n = 0 ∧ cap = 0 := by cases h1; exact ⟨rfl, rfl, rfl⟩
    have heq : ∀ W, (binOp .eql 23 (.slice none 0 0) (.slice none 0 0)).run Try.prog W = .ok (.bool true) W := fun W => by
      simp [binOp, run_equal_slice_nil W 23 96 _ _ _ Try.underlying23]
    clear hn h1
    go_enter Try.func73, Try.ntmps73
    go_wp2
    go_ret
    exact ⟨_, rfl, ⟨rfl, .inl ⟨rfl, rfl⟩⟩, Below.refl _ _⟩
  · obtain ⟨rfl, rfl⟩ : a = some ⟨b, off, none⟩ ∧ cap = c' := by cases h1; exact ⟨rfl, rfl⟩
    have hnews : ∀ (j : Nat) u, (synCs ss)[j]? = some u → (w.alloc (.cells #[] 96)).cell? ((⟨b, off, none⟩ : Addr).add j) = some u := fun j u hu => by
      rw [show (⟨b, off, none⟩ : Addr).add j = ⟨b, off + j, none⟩ by unfold Addr.add; split <;> simp_all]
      rw [World.cell?_of_block (w := w) (Below.heap_alloc _ _ _ hbl)]
      exact synCs_cell (m := 0) hc j u hu
    have hone : ∀ u ∈ synCs ss, u.oneCell' = true := fun u hu => synV_one hu
    have hown : (w.alloc (.cells #[] 96)).ownsRow w.heap.size 96 4 (.slice (some ⟨w.heap.size, 0, none⟩) 0 0) 0 [] :=
      ⟨rfl, .inr ⟨w.heap.size, 0, #[], rfl, Nat.le_refl _, alloc_new_at _ _ _ rfl, Nat.le_refl _, by unfold maxLen; omega, rfl, rfl⟩⟩
    have hlen : (synCs ss).length = n * 4 := by rw [synCs_length, hn]
    have HN := Lib.hid hnews
    have HO := Lib.hid hown
    have HE := Lib.hid hone
    have HC := Lib.hid hlen
    clear hnews hown hc hone hn h1 hlen
    have heq : ∀ W, (binOp .eql 23 (.slice (some ⟨b, off, none⟩) n cap) (.slice none 0 0)).run Try.prog W = .ok (.bool false) W := fun W => by
      simp [binOp, run_equal_slice_nil W 23 96 _ _ _ Try.underlying23]
    go_enter Try.func73, Try.ntmps73
    go_wp2_with (at_builtin; refine wpList_append_own _ rfl _ _ 23 rfl w.heap.size 96 i0 (.agg #[.int .i64 0, .int .i64 0, .int .i64 0, .int .i64 0]) 4 32 Try.underlying23 hi hz0 hzz1 hzz2 rfl (by decide) (.slice (some ⟨w.heap.size, 0, none⟩) 0 0) 0 _ rfl HO.out ⟨b, off, none⟩ n cap (synCs ss) rfl HC.out HN.out HE.out (by unfold maxLen; omega) (by omega) (by simp) ?_; intro v' w3 hown' hgrow _; have HO' := Lib.hid hown'; have HG := Lib.hid hgrow; clear hown' hgrow)
    go_ret
    have h1 := HO'.out
    have h2 := HG.out
    have hs := h2.size
    rw [World.size_alloc] at hs
    have hb : Below w.heap.size w w3 := ⟨h2.os, h2.tape, h2.output, by omega, fun k hk => by
      rw [h2.block k (by rw [World.size_alloc]; omega) (fun e => by simp [Value.ownBlock] at e; omega), Below.heap_alloc _ _ _ (by omega)]⟩
    refine ⟨v', rfl, ?_, hb⟩
    rw [← HL.out]
    simpa using h1
end Go.Proofs.Ytgbcdebnanejpaa.Rn
namespace Go.Proofs.Ytgbcdebnanejpaa.Rn
set_option linter.unusedVariables false
open Go.RowKit Go.Shelf

def zP : Prm := ⟨0, 0, 0, 0, 0, 0, 0, 0⟩
/-- The neurons, after j of them have been put in their new places. -/
def fillP (ps : List Prm) (l : List Int) : Nat → List Prm
  | 0 => List.replicate ps.length zP
  | j + 1 => (fillP ps l j).set (l[j]?.getD 0).toNat (ps[j]?.getD zP)
theorem fillP_length (ps : List Prm) (l : List Int) : ∀ j, (fillP ps l j).length = ps.length
  | 0 => by simp [fillP]
  | j + 1 => by simp [fillP, fillP_length ps l j]
def toI (l : List Int) (x : Int) : Int := l[x.toNat]?.getD 0
def renS (l : List Int) (s : Syn) : Syn := ⟨if 0 ≤ s.fr then toI l s.fr else s.fr, toI l s.to, s.wt, s.dl⟩
def renN (n : NetM) (l : List Int) : NetM := ⟨fillP n.ps l n.ps.length, n.inp, n.ss.map (renS l)⟩
/-- The synapses, after j of them have been renamed. -/
def midR (ss : List Syn) (l : List Int) (j : Nat) : List Syn := (ss.take j).map (renS l) ++ ss.drop j
theorem midR_length (ss : List Syn) (l : List Int) (j : Nat) : (midR ss l j).length = ss.length := by
  simp [midR]; omega
theorem midR_zero (ss : List Syn) (l : List Int) : midR ss l 0 = ss := by simp [midR]
theorem midR_all (ss : List Syn) (l : List Int) : midR ss l ss.length = ss.map (renS l) := by simp [midR]
theorem midR_at (ss : List Syn) (l : List Int) {j : Nat} {s : Syn} (h : ss[j]? = some s) : (midR ss l j)[j]? = some s := by
  have hj := (List.getElem?_eq_some_iff.1 h).1
  rw [midR, List.getElem?_append_right (by simp; omega)]
  simp
  rw [show j - min j ss.length = 0 by omega, Nat.add_zero]; exact h
theorem midR_succ (ss : List Syn) (l : List Int) {j : Nat} {s : Syn} (h : ss[j]? = some s) : midR ss l (j + 1) = (midR ss l j).set j (renS l s) := by
  obtain ⟨hj, he⟩ := List.getElem?_eq_some_iff.1 h
  unfold midR
  rw [List.set_append_right _ _ (by simp; omega)]
  have e1 : ss.drop j = s :: ss.drop (j + 1) := by rw [List.drop_eq_getElem_cons hj, he]
  rw [e1, List.take_add_one, h]
  have e2 : j - ((ss.take j).map (renS l)).length = 0 := by simp; omega
  rw [e2]
  simp
/-- What a check of all leaves: an error and no network, or the network. -/
def RenOut (X : Int) (N : NetM) (w : World) (e : Ending) (w' : World) : Prop := ∃ v, e = .returned (.tuple #[v, .int .i64 X]) ∧ NetAt w' v N ∧ Below w.heap.size w w'
def netZ : NetM := ⟨[], 0, []⟩
theorem netZ_at (W : World) : NetAt W (.agg #[.slice none 0 0, .int .i64 0, .slice none 0 0]) netZ := ⟨none, 0, none, 0, rfl, Or.inl ⟨rfl, rfl⟩, Or.inl ⟨rfl, rfl⟩⟩

/-- Eight cells of an array. -/
structure C8 (cur : Array Value) (o : Nat) (p : Prm) : Prop where
  c0 : cur[o]? = some (.int .i64 p.lk)
  c1 : cur[o + 1]? = some (.int .i64 p.lv)
  c2 : cur[o + 2]? = some (.int .i64 p.bi)
  c3 : cur[o + 3]? = some (.int .i64 p.th)
  c4 : cur[o + 4]? = some (.int .i64 p.rk)
  c5 : cur[o + 5]? = some (.int .i64 p.rs)
  c6 : cur[o + 6]? = some (.int .i64 p.fl)
  c7 : cur[o + 7]? = some (.int .i64 p.re)
/-- Block g holds a list of neurons. -/
def PRow (W : World) (g : Nat) (l : List Prm) : Prop := ∃ cur, W.heap[g]? = some (.cells cur 39) ∧ ∀ j p, l[j]? = some p → C8 cur (j * 8) p
theorem PRow.lt {W : World} {g : Nat} {l : List Prm} (h : PRow W g l) : g < W.heap.size := by
  obtain ⟨cur, h1, _⟩ := h
  exact lt_of_block h1
theorem PRow.of_block {W W' : World} {g : Nat} {l : List Prm} (h : PRow W g l) (e : W'.heap[g]? = W.heap[g]?) : PRow W' g l := by
  obtain ⟨cur, h1, h2⟩ := h
  exact ⟨cur, e.trans h1, h2⟩
theorem PRow.psAt {W : World} {g : Nat} {l : List Prm} (h : PRow W g l) (cap : Nat) : PsAt W (.slice (some ⟨g, 0, none⟩) l.length cap) l := by
  obtain ⟨cur, h1, h2⟩ := h
  refine Or.inr ⟨g, 0, cap, rfl, lt_of_block h1, fun k p hk => ?_⟩
  rw [Nat.zero_add]
  obtain ⟨c0, c1, c2, c3, c4, c5, c6, c7⟩ := h2 k p hk
  exact ⟨by simp [World.cell?, h1, c0], by simp [World.cell?, h1, c1], by simp [World.cell?, h1, c2], by simp [World.cell?, h1, c3], by simp [World.cell?, h1, c4], by simp [World.cell?, h1, c5], by simp [World.cell?, h1, c6], by simp [World.cell?, h1, c7]⟩
/-- A neuron is stored. -/
def put8 (W : World) (g o : Nat) (p : Prm) : World :=
  (((((((W.setCell ⟨g, o, none⟩ (.int .i64 p.lk)).setCell ⟨g, o + 1, none⟩ (.int .i64 p.lv)).setCell ⟨g, o + 2, none⟩ (.int .i64 p.bi)).setCell ⟨g, o + 3, none⟩ (.int .i64 p.th)).setCell ⟨g, o + 4, none⟩ (.int .i64 p.rk)).setCell ⟨g, o + 5, none⟩ (.int .i64 p.rs)).setCell ⟨g, o + 6, none⟩ (.int .i64 p.fl)).setCell ⟨g, o + 7, none⟩ (.int .i64 p.re)
theorem PRow.put {W : World} {g : Nat} {l : List Prm} (h : PRow W g l) {x : Nat} (hx : x < l.length) (p : Prm) : PRow (put8 W g (x * 8) p) g (l.set x p) := by
  obtain ⟨cur, h1, h2⟩ := h
  refine ⟨(((((((cur.setIfInBounds (x * 8) (.int .i64 p.lk)).setIfInBounds (x * 8 + 1) (.int .i64 p.lv)).setIfInBounds (x * 8 + 2) (.int .i64 p.bi)).setIfInBounds (x * 8 + 3) (.int .i64 p.th)).setIfInBounds (x * 8 + 4) (.int .i64 p.rk)).setIfInBounds (x * 8 + 5) (.int .i64 p.rs)).setIfInBounds (x * 8 + 6) (.int .i64 p.fl)).setIfInBounds (x * 8 + 7) (.int .i64 p.re), by simp [put8, World.setCell, Array.getElem?_modify, h1], fun j q hj => ?_⟩
  have hs : x * 8 + 7 < cur.size := by
    obtain ⟨q', hq'⟩ : ∃ q', l[x]? = some q' := ⟨_, List.getElem?_eq_getElem hx⟩
    exact (Array.getElem?_eq_some_iff.1 (h2 x q' hq').c7).1
  by_cases e : j = x
  · subst e
    rw [List.getElem?_set_self hx] at hj
    cases hj
    constructor <;> simp [Array.getElem?_setIfInBounds] <;> omega
  · rw [List.getElem?_set_ne (fun h => e h.symm)] at hj
    obtain ⟨c0, c1, c2, c3, c4, c5, c6, c7⟩ := h2 j q hj
    have key : ∀ o, j * 8 ≤ o → o < j * 8 + 8 → ∀ c, c < 8 → x * 8 + c ≠ o := fun o h1 h2 c h3 => by omega
    have k0 : ∀ o, j * 8 ≤ o → o < j * 8 + 8 → x * 8 ≠ o := fun o h1 h2 => by omega
    constructor
    all_goals (repeat rw [Array.getElem?_setIfInBounds_ne (by omega)])
    all_goals assumption
theorem put8_old {W : World} {g o b : Nat} {p : Prm} (h : b ≠ g) : (put8 W g o p).heap[b]? = W.heap[b]? := by
  simp [put8, World.setCell, Array.getElem?_modify, Ne.symm h]
theorem put8_size {W : World} {g o : Nat} {p : Prm} : (put8 W g o p).heap.size = W.heap.size := by simp [put8]

theorem info39 : (Try.prog.info? 39).map (fun i => (i.zero, i.size, i.bytes)) = some (some (.agg #[.int .i64 0, .int .i64 0, .int .i64 0, .int .i64 0, .int .i64 0, .int .i64 0, .int .i64 0, .int .i64 0]), 8, 64) := by kernel_rfl
def zRow (n : Nat) : Array Value := madeCells #[.int .i64 0, .int .i64 0, .int .i64 0, .int .i64 0, .int .i64 0, .int .i64 0, .int .i64 0, .int .i64 0] (n * 8)
theorem make_rows (n : Nat) (hn : n ≤ 100000) (W : World) :
    (Instr.makeSlice 22 (.int .i64 (n : Int)) (.int .i64 (n : Int))).run Try.prog W = .ok (.slice (some ⟨W.heap.size, 0, none⟩) n n) (W.alloc (.cells (zRow n) 39)) := by
  obtain ⟨i, h1, h2, h3, h4⟩ := info_parts info39
  have hr := run_make (P := Try.prog) W 22 39 i (.agg #[.int .i64 0, .int .i64 0, .int .i64 0, .int .i64 0, .int .i64 0, .int .i64 0, .int .i64 0, .int .i64 0]) Try.underlying22 h1 h2 .i64 .i64 n n (by omega) (by omega) (by rw [h4]; omega) (by omega)
  rw [hr, h3]
  rfl
theorem zRow_get {n j : Nat} (h : j < n * 8) : (zRow n)[j]? = some (.int .i64 0) := by
  have hm : j % 8 = 0 ∨ j % 8 = 1 ∨ j % 8 = 2 ∨ j % 8 = 3 ∨ j % 8 = 4 ∨ j % 8 = 5 ∨ j % 8 = 6 ∨ j % 8 = 7 := by omega
  rcases hm with e | e | e | e | e | e | e | e <;> simp [zRow, madeCells, h, e]
theorem pRow_new {W : World} {g n : Nat} (h : W.heap[g]? = some (.cells (zRow n) 39)) : PRow W g (List.replicate n zP) := by
  refine ⟨_, h, fun j p hj => ?_⟩
  obtain ⟨hl, he⟩ := List.getElem?_eq_some_iff.1 hj
  simp at hl he
  subst he
  constructor <;> exact zRow_get (by omega)
end Go.Proofs.Ytgbcdebnanejpaa.Rn
