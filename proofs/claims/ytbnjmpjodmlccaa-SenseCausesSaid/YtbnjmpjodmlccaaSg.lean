/- Appending an event to a list of one's own; what sensors return; sense.Feel. Over this seat's program; the conditions are named. -/
import Derived.Test.YtbnjmpjodmlccaaSf
namespace Go.Proofs.Ytbnjmpjodmlccaa
set_option linter.unusedVariables false
open Go.RowKit Go.Shelf

theorem wpList_app_ev {ops : Array Oper} {rest : List Oper} {o : Oper} {a : Act} {Q : Exit → Act → World → Prop} (W : World) (hgd : o.guard = none) (s x : Operand)
    (ho : o.op = .call { callee := .builtin .append, args := #[s, x], argTypes := #[26, 26] }) (base : Nat) (L : List Evx) (v : Value) (hs : a.eval s = v) (hown : W.ownsRow base 63 2 v L.length (evxCs L))
    (g : Nat) (X Y : Int) (hx : a.eval x = .slice (some ⟨g, 0, none⟩) 1 1) (hg : W.heap[g]? = some (.cells #[.int .i64 X, .int .i64 Y] 63)) (hl : L.length ≤ 1000000) (hbase : base ≤ W.heap.size)
    (h : ∀ v' W', W'.ownsRow base 63 2 v' (L ++ [(⟨X, Y⟩ : Evx)]).length (evxCs (L ++ [(⟨X, Y⟩ : Evx)])) → Below base W W' → wpList Try.prog ops Q rest (a.put o.dst v') W') : wpList Try.prog ops Q (o :: rest) a W := by
  obtain ⟨i0, hi, hz0, hzz1, hzz2⟩ := info_parts info63
  refine wpList_append_where W hgd s x 26 ho base 63 i0 (.agg #[.int .i64 0, .int .i64 0]) 2 16 Try.underlying26 hi hz0 hzz1 hzz2 rfl (by decide) v _ _ hs hown ⟨g, 0, none⟩ 1 1 (by decide) [.int .i64 X, .int .i64 Y] hx rfl (cells_new hg) (by simp [Value.oneCell']) (by unfold maxLen; omega) (by omega) hbase ?_
  intro v' w' h1 h2 _
  have e2 : evxCs (L ++ [(⟨X, Y⟩ : Evx)]) = evxCs L ++ [.int .i64 X, .int .i64 Y] := evxCs_snoc _ _
  refine h v' w' (by rw [e2, List.length_append]; exact h1) ⟨h2.os, h2.tape, h2.output, h2.size, fun k hk => h2.block k (by omega) (fun e => ?_)⟩
  have := (hown.lt k e.symm).1
  omega
/-- within of one number, laid in a block. -/
theorem within_at (a b x : Int) (W : World) (g : Nat) (hg : W.heap[g]? = some (.cells #[.int .i64 x] 3)) :
    Calls Try.prog 51 #[.int .i64 a, .int .i64 b, .slice (some ⟨g, 0, none⟩) 1 1] W fun e w' => e = .returned (.bool (inR x a b)) ∧ W = w' := by
  refine (within_any a b [x] _ 1 1 rfl (by omega) W (.inr ⟨g, 0, 1, rfl, lt_of_block hg, fun j z hz => ?_⟩)).mono ?_
  · cases j with
    | zero => simp at hz; subst hz; exact (cells1 hg).1
    | succ j => simp at hz
  · rintro e w' ⟨rfl, rfl⟩
    exact ⟨by simp, rfl⟩
/-- What a sensor, or a stream's function, returns: a list of events and an error. -/
def EvGot (L : List Evx) (er : Int) (w : World) (e : Ending) (w' : World) : Prop := ∃ v, e = .returned (.tuple #[v, .int .i64 er]) ∧ EvxsAt w' v L ∧ Below w.heap.size w w'
theorem evGot_err {w w' : World} {er : Int} (hb : Below w.heap.size w w') : EvGot [] er w (.returned (.tuple #[.slice none 0 0, .int .i64 er])) w' := ⟨_, rfl, .inl ⟨rfl, rfl⟩, hb⟩
/-- The error of Feel, and its events. -/
def feE (T B : Int) (l : List Int) : Int := if (inR T 1 1000 && inR B 0 T) = false then 3 else if 4096 < l.length then 9 else if (l.all fun x => inR x (-1000) 1000) = false then 3 else 0
def feL (T B : Int) (l : List Int) : List Evx := if feE T B l = 0 then whL T B l else []
theorem feL_le (T B : Int) (l : List Int) : (feL T B l).length ≤ 4096 := by
  unfold feL
  split
  · rename_i h
    unfold feE at h
    split at h
    · cases h
    · split at h
      · cases h
      · have := whL_le T B l; omega
  · simp

set_option maxRecDepth 100000 in
set_option maxHeartbeats 2000000 in
theorem feel_any (T B : Int) (l : List Int) (hl : l.length ≤ 10000) (a : Option Addr) (cap : Nat) (w : World) (hk : KAt .i64 w (.slice a l.length cap) l) :
    Calls Try.prog 25 #[.agg #[.int .i64 T, .int .i64 B], .slice a l.length cap] w (EvGot (feL T B l) (feE T B l) w) := by
  obtain ⟨n, hn⟩ : ∃ n, n = l.length := ⟨_, rfl⟩
  have HK := Lib.hid hk
  have HN := Lib.hid hn
  rw [← hn] at hl HK ⊢
  obtain ⟨E, hE⟩ : ∃ E, E = feE T B l := ⟨_, rfl⟩
  obtain ⟨L, hL⟩ : ∃ L, L = feL T B l := ⟨_, rfl⟩
  have hLL : L = if E = 0 then whL T B l else [] := by rw [hL, hE]; rfl
  rw [← hE, ← hL]
  unfold feE at hE
  rw [← hn] at hE
  have HL := Lib.hid hLL
  have HE := Lib.hid hE
  clear hk hn hL hLL hE
  have b0 : Below w.heap.size w (w.alloc (.cells #[.int .i64 T, .int .i64 B] 50)) := (Below.refl _ _).alloc (Nat.le_refl _) _
  have x0 : (w.alloc (.cells #[.int .i64 T, .int .i64 B] 50)).heap[w.heap.size]? = some (.cells #[.int .i64 T, .int .i64 B] 50) := alloc_new_at _ _ _ rfl
  have HB0 := Lib.hid b0
  have HX0 := Lib.hid x0
  clear b0 x0
  cases h1 : inR T 1 1000 with
  | false =>
    have hE := HE.out
    simp [h1] at hE
    clear HE
    subst hE
    have hL := HL.out
    simp at hL
    subst hL
    go_enter Try.func25, Try.ntmps25
    go_wp2_with (go_at_call 51; refine (within_at _ _ _ _ _ (alloc_new_at _ _ _ (by simp))).mono ?_; rintro e w1 ⟨rfl, rfl⟩; rw [h1])
    exact bodyPost_ret (v := .tuple #[.slice none 0 0, .int .i64 3]) (by simp [results, Try.results25, go_sem]) rfl (evGot_err (HB0.out.alloc (by simp) _))
  | true =>
  cases h2 : inR B 0 T with
  | false =>
    have hE := HE.out
    simp [h1, h2] at hE
    clear HE
    subst hE
    have hL := HL.out
    simp at hL
    subst hL
    go_enter Try.func25, Try.ntmps25
    go_wp2_with (fail)
    go_at_call 51
    refine (within_at _ _ _ _ _ (alloc_new_at _ _ _ (by simp))).mono ?_
    rintro e w' ⟨rfl, rfl⟩
    rw [h1]
    have x1 := (Below.heap_alloc (w.alloc (.cells #[.int .i64 T, .int .i64 B] 50)) (.cells #[.int .i64 T] 3) _ (lt_of_block HX0.out)).trans HX0.out
    have hb1 := HB0.out.alloc HB0.out.size (.cells #[.int .i64 T] 3)
    generalize (w.alloc (.cells #[.int .i64 T, .int .i64 B] 50)).alloc (.cells #[.int .i64 T] 3) = w1 at *
    obtain ⟨c0, c1, _, _⟩ := cells2 x1
    have HB1 := Lib.hid hb1
    have hlt := lt_of_block x1
    clear hb1 x1
    go_wp2_with (go_at_call 51; refine (within_at _ _ _ _ _ (alloc_new_at _ _ _ rfl)).mono ?_; rintro e w2 ⟨rfl, rfl⟩; rw [h2])
    exact bodyPost_ret (v := .tuple #[.slice none 0 0, .int .i64 3]) (by simp [results, Try.results25, go_sem]) rfl (evGot_err (HB1.out.alloc HB1.out.size _))
  | true =>
  go_enter Try.func25, Try.ntmps25
  go_wp2_with (fail)
  go_at_call 51
  refine (within_at _ _ _ _ _ (alloc_new_at _ _ _ (by simp))).mono ?_
  rintro e w' ⟨rfl, rfl⟩
  rw [h1]
  have x1 := (Below.heap_alloc (w.alloc (.cells #[.int .i64 T, .int .i64 B] 50)) (.cells #[.int .i64 T] 3) _ (lt_of_block HX0.out)).trans HX0.out
  have hb1 := HB0.out.alloc HB0.out.size (.cells #[.int .i64 T] 3)
  generalize (w.alloc (.cells #[.int .i64 T, .int .i64 B] 50)).alloc (.cells #[.int .i64 T] 3) = w1 at *
  obtain ⟨c0, c1, _, _⟩ := cells2 x1
  have HB1 := Lib.hid hb1
  have hlt := lt_of_block x1
  have HX1 := Lib.hid x1
  clear hb1 x1
  go_wp2_with (fail)
  go_at_call 51
  refine (within_at _ _ _ _ _ (alloc_new_at _ _ _ rfl)).mono ?_
  rintro e w' ⟨rfl, rfl⟩
  rw [h2]
  have x2 := (Below.heap_alloc w1 (.cells #[.int .i64 B] 3) _ (lt_of_block HX1.out)).trans HX1.out
  have hb2 := HB1.out.alloc HB1.out.size (.cells #[.int .i64 B] 3)
  generalize w1.alloc (.cells #[.int .i64 B] 3) = w2 at *
  obtain ⟨d0, d1, _, _⟩ := cells2 x2
  have HB2 := Lib.hid hb2
  have hlt2 := lt_of_block x2
  clear hb2 c0 c1
  have HX2 := Lib.hid x2
  clear x2
  by_cases hbig : 4096 < n
  · have hE := HE.out
    simp [h1, h2, hbig] at hE
    clear HE
    subst hE
    have hL := HL.out
    simp at hL
    subst hL
    have g1 : ((4096 : Int) < (n : Int)) = True := by simp only [eq_iff_iff, iff_true]; omega
    clear h1 h2
    go_wp2
    exact bodyPost_ret (v := .tuple #[.slice none 0 0, .int .i64 9]) (by simp [results, Try.results25, go_sem]) rfl (evGot_err HB2.out)
  have g1 : ((4096 : Int) < (n : Int)) = False := by simp only [eq_iff_iff, iff_false]; omega
  have hW := fun (W : World) (hb : Below w.heap.size w W) => within_any (-1000) 1000 l a n cap HN.out (by omega) W (HK.out.below hb)
  have HW := Lib.hid hW
  clear hW
  cases h3 : (l.all fun x => inR x (-1000) 1000) with
  | false =>
    have hE := HE.out
    simp [h1, h2, hbig, h3] at hE
    clear HE
    subst hE
    have hL := HL.out
    simp at hL
    subst hL
    clear h1 h2
    go_wp2_with (go_at_call 51; refine (HW.out _ HB2.out).mono ?_; rintro e w3 ⟨rfl, rfl⟩; rw [h3])
    exact bodyPost_ret (v := .tuple #[.slice none 0 0, .int .i64 3]) (by simp [results, Try.results25, go_sem]) rfl (evGot_err HB2.out)
  | true =>
    have hE := HE.out
    simp [h1, h2, hbig, h3] at hE
    clear HE
    subst hE
    have hL := HL.out
    simp at hL
    subst hL
    have hok : WhOk T B := by
      have k1 := inR_true.1 h1
      have k2 := inR_true.1 h2
      exact ⟨k1.1, k1.2, k2.1, k2.2⟩
    have hv : ∀ x ∈ l, -1000 ≤ x ∧ x ≤ 1000 := fun x hx => inR_true.1 (List.all_eq_true.1 h3 x hx)
    have HV := Lib.hid hv
    have HOK := Lib.hid hok
    clear h1 h2 hv hok
    go_wp2_with (fail)
    go_at_call 51
    refine (HW.out _ HB2.out).mono ?_
    rintro e w3 ⟨rfl, rfl⟩
    rw [h3]
    clear h3
    go_wp2_with (fail)
    go_at_call 62
    refine (felt_any T B _ _ ⟨_, _, _, rfl⟩).mono ?_
    rintro e w4 ⟨bl, bw, rfl, hbl, hbw, hb4⟩
    have HB4 := Lib.hid (HB2.out.trans (hb4.mono HB2.out.size))
    have hG := felt1_gives T B HOK.out l n cap a HN.out (by omega) HV.out bl bw w4 hbl hbw (HK.out.below HB4.out)
    have hcap : ∀ b, (b = bl ∨ b = bw ∨ dataB (.slice a n cap) b) → b < w4.heap.size := by
      rintro b (rfl | rfl | hb)
      · exact lt_of_block hbl
      · exact lt_of_block hbw
      · exact (HK.out.below HB4.out).lt hb
    have HGA := Lib.hid (gather_any (whL T B l) (by have := whL_le T B l; have := HN.out; omega) _ _ enters_felt1 w4 _ hG hcap)
    clear hb4 hbl hbw hG hcap d0 d1
    go_wp2_with (fail)
    go_at_call 47
    refine HGA.out.mono ?_
    rintro e w5 ⟨v, rfl, ho, hb5⟩
    have HO := Lib.hid ho
    have HB5 := Lib.hid hb5
    clear ho hb5
    obtain ⟨va, vc, rfl⟩ := own_slC HO.out
    go_wp2
    exact bodyPost_ret (v := .tuple #[.slice va (whL T B l).length vc, .int .i64 0]) (by simp [results, Try.results25, go_sem]) rfl ⟨_, rfl, evxAt_of_owns HO.out, HB4.out.trans (HB5.out.mono HB4.out.size)⟩
end Go.Proofs.Ytbnjmpjodmlccaa
