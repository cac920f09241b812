/- For every mesh, every two routers and at most 100 targets (and every longer list) the law MeshRoutes returns true: Check, Distance, Route and Tree return what the specification's do, and the examples hold. The condition: the package-level tables hold what their initialisers lay (the card ties it to the program's text). (mk_routes.py wrote this.) -/
import Derived.Test.YtlkcpnhepadenaaDoorRn
import Derived.Test.YtlkcpnhepadenaaDoorCards
import Derived.Test.YtlkcpnhepadenaaDoorTie
import Derived.SevenTiedAt
import Derived.Deep.Cut
namespace Go.Proofs.YtlkcpnhepadenaaDoor.meshRoutes
set_option linter.unusedVariables false
open Go.ChangeShapes Go.WideShapes Go.ChangeAt Go.RowKit Go.Proofs.YtlkcpnhepadenaaDoor.Lf

/-- What the operations of the first comparison come to. -/
def lawV (A H R c d er : Int) : Nat → Value
  | 0 => .agg #[.int .i64 A, .int .i64 H, .int .i64 R]
  | 1 => .int .i64 c
  | 2 => .agg #[.int .i64 A, .int .i64 H, .int .i64 R]
  | 3 => .int .i64 c
  | 4 => .bool false
  | 5 => .bool false
  | 6 => .int .i64 d
  | 7 => .int .i64 d
  | 8 => .bool false
  | 9 => .bool false
  | 10 => .bool false
  | 11 => .int .i64 er
  | 12 => .int .i64 er
  | 13 => .bool false
  | 14 => .bool false
  | _ => undef

set_option maxRecDepth 100000 in
set_option maxHeartbeats 4000000 in
theorem walk_few (A H R x y : Int) (a : Option Addr) (cap : Nat) (zs : List Int) (hl : zs.length ≤ 100) (w : World) (hg : Ev.GlobIn tables w) (hI : IntsAt w (.slice a zs.length cap) zs) :
    Calls Tryd.prog 3 #[.agg #[.int .i64 A, .int .i64 H, .int .i64 R], .int .i64 x, .int .i64 y, .slice a zs.length cap] w fun e w' => e = .returned (.bool true) ∧ Below w.heap.size w w' := by
  obtain ⟨n, hn⟩ : ∃ n, n = zs.length := ⟨_, rfl⟩
  rw [← hn] at hl hI ⊢
  have g0 : ((100 : Int) < (n : Int)) = False := by simp; omega
  obtain ⟨d, er, L, hL, r1, r2, r3, r4⟩ := routes_any A H R x y
  obtain ⟨er2, L2, hL2, t1, t2⟩ := trees_any A H R x a n cap zs hn hl w hI
  have hck := check_any A H R
  have hrck := rcheck_any A H R
  generalize chkM A H R = c at hck hrck
  have n1 : (er != er) = false := by simp
  have n2 : (er2 == er2) = true := by simp
  have n3 : (d != d) = false := by simp
  have n4 : (c != c) = false := by simp
  have R1 := Lib.hid r1
  have R2 := Lib.hid r2
  have R3 := Lib.hid r3
  have R4 := Lib.hid r4
  have T1 := Lib.hid t1
  have T2 := Lib.hid t2
  have HCK := Lib.hid hck
  have HRCK := Lib.hid hrck
  have HL := Lib.hid hL
  have HL2 := Lib.hid hL2
  have HG := Lib.hid hg
  clear r1 r2 r3 r4 t1 t2 hck hrck hL hL2 hg hI hn
  go_enter Tryd.func3, Tryd.ntmps3
  go_upto_region 4 with (go_at_call 14; refine (spec_any A H R _).mono ?_; rintro e w1 ⟨rfl, hb1⟩; have zs0 : w.heap.size < w1.heap.size := (by have h9 := hb1.size; simp at h9; omega); have S0 := Lib.hid ((hb1.block w.heap.size (by simp)).trans (alloc_new_at _ _ _ rfl)); have B0 := Lib.hid ((((Below.refl _ _).alloc (Nat.le_refl _) _).trans (hb1.mono (by simp))) : Below w.heap.size w w1); clear hb1)
  obtain ⟨X, hX⟩ : ∃ X, w1.alloc (.cells #[.int .i64 A, .int .i64 H, .int .i64 R] 26) = X := ⟨_, rfl⟩
  obtain ⟨p, hp⟩ : ∃ p, p = w1.heap.size := ⟨_, rfl⟩
  have fm0 : X.heap[p]? = some (.cells #[.int .i64 A, .int .i64 H, .int .i64 R] 26) := by rw [← hX]; exact alloc_new_at _ _ _ hp
  have fs0 : X.heap[w.heap.size]? = some (.cells #[.int .i64 A, .int .i64 H, .int .i64 R] 23) := by rw [← hX]; exact (Below.heap_alloc _ _ _ zs0).trans S0.out
  have bx0 : Below w.heap.size w X := by rw [← hX]; exact B0.out.alloc (by omega) _
  rw [hX, ← hp]
  obtain ⟨_, _, _⟩ := cells3 fm0
  obtain ⟨_, _, _⟩ := cells3 fs0
  have zm0 := lt_of_block fm0
  have zs0 := lt_of_block fs0
  have hpw : w.heap.size < p := by omega
  have FM0 := Lib.hid fm0
  have FS0 := Lib.hid fs0
  have BX0 := Lib.hid bx0
  clear fm0 fs0 bx0 hX hp S0 B0
  go_upto_region 6 with (first | (go_at_call 15; refine (R1.out _).mono ?_; rintro e w2 ⟨rfl, hb1⟩; have fm1 := (hb1.block _ zm0).trans FM0.out; have fs1 := (hb1.block _ zs0).trans FS0.out; obtain ⟨_, _, _⟩ := cells3 fm1; obtain ⟨_, _, _⟩ := cells3 fs1; have zm1 := lt_of_block fm1; have zs1 := lt_of_block fs1; have FM1 := Lib.hid fm1; have FS1 := Lib.hid fs1; have BX1 := Lib.hid (BX0.out.trans (hb1.mono (by omega))); clear hb1 fm1 fs1) | (go_at_call 16; refine (R2.out _).mono ?_; rintro e w3 ⟨rfl, hb2⟩; have fm2 := (hb2.block _ zm1).trans FM1.out; have fs2 := (hb2.block _ zs1).trans FS1.out; obtain ⟨_, _, _⟩ := cells3 fm2; obtain ⟨_, _, _⟩ := cells3 fs2; have zm2 := lt_of_block fm2; have zs2 := lt_of_block fs2; have FM2 := Lib.hid fm2; have FS2 := Lib.hid fs2; have BX2 := Lib.hid (BX1.out.trans (hb2.mono (by omega))); clear hb2 fm2 fs2))
  refine wp_region_reads (lawV A H R c d er) (fun _ => true) (fun _ => false) (Below w3.heap.size w3) (by kernel_rfl) (by kernel_rfl) (by kernel_rfl) (by kernel_rfl) (by simp [dstIn]) ?gv ?un (Below.refl _ _).drew ?stp ?dn
  case gv =>
    intro i hi
    simp [isGd] at hi
    have hi' : i = 5 ∨ i = 10 := by omega
    rcases hi' with rfl | rfl <;> rfl
  case un => intro i hi hw; simp at hw
  case stp =>
    intro W1 i o b' ho hwt hI hh
    have hi := (List.getElem?_eq_some_iff.1 ho).1
    have hc : i = 0 ∨ i = 1 ∨ i = 2 ∨ i = 3 ∨ i = 4 ∨ i = 5 ∨ i = 6 ∨ i = 7 ∨ i = 8 ∨ i = 9 ∨ i = 10 ∨ i = 11 ∨ i = 12 ∨ i = 13 ∨ i = 14 := by simp at hi; omega
    obtain ⟨_, _, _⟩ := cells3 ((hI.block _ zm2).trans FM2.out)
    obtain ⟨_, _, _⟩ := cells3 ((hI.block _ zs2).trans FS2.out)
    have HI := Lib.hid hI
    clear hi hI
    have k4 := hh.kept 4 (by simp)
    simp at k4
    have k9 := hh.kept 9 (by simp)
    simp at k9
    have k10 := hh.kept 10 (by simp)
    simp at k10
    have k11 := hh.kept 11 (by simp)
    simp at k11
    have k12 := hh.kept 12 (by simp)
    simp at k12
    have k13 := hh.kept 13 (by simp)
    simp at k13
    rcases hc with rfl | rfl | rfl | rfl | rfl | rfl | rfl | rfl | rfl | rfl | rfl | rfl | rfl | rfl | rfl
    · simp only [List.getElem?_cons_zero, Option.some.injEq] at ho
      subst ho
      go_simp
      exact ⟨rfl, HI.out⟩
    · simp only [List.getElem?_cons_zero, List.getElem?_cons_succ, Option.some.injEq] at ho
      subst ho
      have g0 := hh.got 0 _ 36 rfl rfl ⟨⟨0, .data⟩, by simp, rfl, rfl⟩ (by simp)
      simp [lawV] at g0
      go_simp
      go_at_call 17
      refine (HCK.out _).mono ?_
      rintro e w6 ⟨rfl, hb6⟩
      exact ⟨rfl, HI.out.trans (hb6.mono HI.out.size)⟩
    · simp only [List.getElem?_cons_zero, List.getElem?_cons_succ, Option.some.injEq] at ho
      subst ho
      go_simp
      exact ⟨rfl, HI.out⟩
    · simp only [List.getElem?_cons_zero, List.getElem?_cons_succ, Option.some.injEq] at ho
      subst ho
      have g2 := hh.got 2 _ 38 rfl rfl ⟨⟨2, .data⟩, by simp, rfl, rfl⟩ (by simp)
      simp [lawV] at g2
      go_simp
      go_at_call 18
      refine (HRCK.out _).mono ?_
      rintro e w6 ⟨rfl, hb6⟩
      exact ⟨rfl, HI.out.trans (hb6.mono HI.out.size)⟩
    · simp only [List.getElem?_cons_zero, List.getElem?_cons_succ, Option.some.injEq] at ho
      subst ho
      have g1 := hh.got 1 _ 37 rfl rfl ⟨⟨1, .data⟩, by simp, rfl, rfl⟩ (by simp)
      have g3 := hh.got 3 _ 39 rfl rfl ⟨⟨3, .data⟩, by simp, rfl, rfl⟩ (by simp)
      simp [lawV] at g1 g3
      go_simp
      exact ⟨rfl, HI.out⟩
    · simp only [List.getElem?_cons_zero, List.getElem?_cons_succ, Option.some.injEq] at ho
      subst ho
      have g4 := hh.got 4 _ 40 rfl rfl ⟨⟨4, .data⟩, by simp, rfl, rfl⟩ (by simp)
      simp [lawV] at g4
      go_simp
      exact ⟨rfl, HI.out⟩
    · simp only [List.getElem?_cons_zero, List.getElem?_cons_succ, Option.some.injEq] at ho
      subst ho
      go_simp
      exact ⟨rfl, HI.out⟩
    · simp only [List.getElem?_cons_zero, List.getElem?_cons_succ, Option.some.injEq] at ho
      subst ho
      go_simp
      exact ⟨rfl, HI.out⟩
    · simp only [List.getElem?_cons_zero, List.getElem?_cons_succ, Option.some.injEq] at ho
      subst ho
      have g6 := hh.got 6 _ 42 rfl rfl ⟨⟨6, .data⟩, by simp, rfl, rfl⟩ (by simp)
      have g7 := hh.got 7 _ 43 rfl rfl ⟨⟨7, .data⟩, by simp, rfl, rfl⟩ (by simp)
      simp [lawV] at g6 g7
      go_simp
      exact ⟨rfl, HI.out⟩
    · simp only [List.getElem?_cons_zero, List.getElem?_cons_succ, Option.some.injEq] at ho
      subst ho
      have g5 := hh.got 5 _ 41 rfl rfl ⟨⟨5, .data⟩, by simp, rfl, rfl⟩ (by simp)
      have g8 := hh.got 8 _ 44 rfl rfl ⟨⟨8, .data⟩, by simp, rfl, rfl⟩ (by simp)
      simp [lawV] at g5 g8
      go_simp
      exact ⟨rfl, HI.out⟩
    · simp only [List.getElem?_cons_zero, List.getElem?_cons_succ, Option.some.injEq] at ho
      subst ho
      have g9 := hh.got 9 _ 45 rfl rfl ⟨⟨9, .data⟩, by simp, rfl, rfl⟩ (by simp)
      simp [lawV] at g9
      go_simp
      exact ⟨rfl, HI.out⟩
    · simp only [List.getElem?_cons_zero, List.getElem?_cons_succ, Option.some.injEq] at ho
      subst ho
      go_simp
      exact ⟨rfl, HI.out⟩
    · simp only [List.getElem?_cons_zero, List.getElem?_cons_succ, Option.some.injEq] at ho
      subst ho
      go_simp
      exact ⟨rfl, HI.out⟩
    · simp only [List.getElem?_cons_zero, List.getElem?_cons_succ, Option.some.injEq] at ho
      subst ho
      have g11 := hh.got 11 _ 47 rfl rfl ⟨⟨11, .data⟩, by simp, rfl, rfl⟩ (by simp)
      have g12 := hh.got 12 _ 48 rfl rfl ⟨⟨12, .data⟩, by simp, rfl, rfl⟩ (by simp)
      simp [lawV] at g11 g12
      go_simp
      exact ⟨rfl, HI.out⟩
    · simp only [List.getElem?_cons_zero, List.getElem?_cons_succ, Option.some.injEq] at ho
      subst ho
      have g10 := hh.got 10 _ 46 rfl rfl ⟨⟨10, .data⟩, by simp, rfl, rfl⟩ (by simp)
      have g13 := hh.got 13 _ 49 rfl rfl ⟨⟨13, .data⟩, by simp, rfl, rfl⟩ (by simp)
      simp [lawV] at g10 g13
      go_simp
      exact ⟨rfl, HI.out⟩
  case dn =>
    intro w4 b' hb3 hb
    simp only [puts, lawV] at hb
    subst hb
    simp only [Act.put, List.setIfInBounds_toArray, List.set_cons_succ, List.set_cons_zero]
    have fm3 := (hb3.block _ zm2).trans FM2.out; have fs3 := (hb3.block _ zs2).trans FS2.out; obtain ⟨_, _, _⟩ := cells3 fm3; obtain ⟨_, _, _⟩ := cells3 fs3; have zm3 := lt_of_block fm3; have zs3 := lt_of_block fs3; have FM3 := Lib.hid fm3; have FS3 := Lib.hid fs3; have BX3 := Lib.hid (BX2.out.trans (hb3.mono (by omega))); clear hb3 fm3 fs3
    go_wp2_with (first | (go_at_call 19; refine (R3.out _).mono ?_; rintro e w5 ⟨a5, c5, rfl, hi5, hb4⟩; have I5 := Lib.hid hi5; clear hi5; have fm4 := (hb4.block _ zm3).trans FM3.out; have fs4 := (hb4.block _ zs3).trans FS3.out; obtain ⟨_, _, _⟩ := cells3 fm4; obtain ⟨_, _, _⟩ := cells3 fs4; have zm4 := lt_of_block fm4; have zs4 := lt_of_block fs4; have FM4 := Lib.hid fm4; have FS4 := Lib.hid fs4; have BX4 := Lib.hid (BX3.out.trans (hb4.mono (by omega))); clear hb4 fm4 fs4) | (go_at_call 20; refine (R4.out _).mono ?_; rintro e w6 ⟨a6, c6, rfl, hi6, hb5⟩; have J5 := Lib.hid (I5.out.below hb5); have I6 := Lib.hid hi6; clear hi6; have fm5 := (hb5.block _ zm4).trans FM4.out; have fs5 := (hb5.block _ zs4).trans FS4.out; obtain ⟨_, _, _⟩ := cells3 fm5; obtain ⟨_, _, _⟩ := cells3 fs5; have zm5 := lt_of_block fm5; have zs5 := lt_of_block fs5; have FM5 := Lib.hid fm5; have FS5 := Lib.hid fs5; have BX5 := Lib.hid (BX4.out.trans (hb5.mono (by omega))); clear hb5 fm5 fs5))
    go_at_call 21
    refine (numbers_same _ _ _ _ L (by have := HL.out; omega) _ J5.out I6.out).mono ?_
    rintro e w7 ⟨rfl, hb6⟩
    have fm6 := (hb6.block _ zm5).trans FM5.out; have fs6 := (hb6.block _ zs5).trans FS5.out; obtain ⟨_, _, _⟩ := cells3 fm6; obtain ⟨_, _, _⟩ := cells3 fs6; have zm6 := lt_of_block fm6; have zs6 := lt_of_block fs6; have FM6 := Lib.hid fm6; have FS6 := Lib.hid fs6; have BX6 := Lib.hid (BX5.out.trans (hb6.mono (by omega))); clear hb6 fm6 fs6
    go_wp2_with (first | (go_at_call 22; refine (T1.out _ BX6.out).mono ?_; rintro e w8 ⟨a8, c8, rfl, hi8, hb7⟩; have I8 := Lib.hid hi8; clear hi8; have fm7 := (hb7.block _ zm6).trans FM6.out; have fs7 := (hb7.block _ zs6).trans FS6.out; obtain ⟨_, _, _⟩ := cells3 fm7; obtain ⟨_, _, _⟩ := cells3 fs7; have zm7 := lt_of_block fm7; have zs7 := lt_of_block fs7; have FM7 := Lib.hid fm7; have FS7 := Lib.hid fs7; have BX7 := Lib.hid (BX6.out.trans (hb7.mono (by omega))); clear hb7 fm7 fs7) | (go_at_call 23; refine (T2.out _ BX7.out).mono ?_; rintro e w9 ⟨a9, c9, rfl, hi9, hb8⟩; have J8 := Lib.hid (I8.out.below hb8); have I9 := Lib.hid hi9; clear hi9; have fm8 := (hb8.block _ zm7).trans FM7.out; have fs8 := (hb8.block _ zs7).trans FS7.out; obtain ⟨_, _, _⟩ := cells3 fm8; obtain ⟨_, _, _⟩ := cells3 fs8; have zm8 := lt_of_block fm8; have zs8 := lt_of_block fs8; have FM8 := Lib.hid fm8; have FS8 := Lib.hid fs8; have BX8 := Lib.hid (BX7.out.trans (hb8.mono (by omega))); clear hb8 fm8 fs8))
    go_at_call 21
    refine (numbers_same _ _ _ _ L2 (by have := HL2.out; omega) _ J8.out I9.out).mono ?_
    rintro e w10 ⟨rfl, hb9⟩
    have fm9 := (hb9.block _ zm8).trans FM8.out; have fs9 := (hb9.block _ zs8).trans FS8.out; obtain ⟨_, _, _⟩ := cells3 fm9; obtain ⟨_, _, _⟩ := cells3 fs9; have zm9 := lt_of_block fm9; have zs9 := lt_of_block fs9; have FM9 := Lib.hid fm9; have FS9 := Lib.hid fs9; have BX9 := Lib.hid (BX8.out.trans (hb9.mono (by omega))); clear hb9 fm9 fs9
    go_wp2_with (go_at_call 13; refine (works_any _ (HG.out.below BX9.out)).mono ?_; rintro e w11 ⟨rfl, hb10⟩; have Q5 := Lib.hid (BX9.out.trans (hb10.mono (by omega))); clear hb10)
    go_ret
    exact ⟨rfl, Q5.out⟩

set_option maxRecDepth 100000 in
set_option maxHeartbeats 1000000 in
theorem walk_many (v : Value) (x y : Int) (a : Option Addr) (n cap : Nat) (hl : 100 < n) (hm : n ≤ 9223372036854775807) (w : World) (hg : Ev.GlobIn tables w) :
    Calls Tryd.prog 3 #[v, .int .i64 x, .int .i64 y, .slice a n cap] w fun e w' => e = .returned (.bool true) ∧ Below w.heap.size w w' := by
  have g1 : ((100 : Int) < (n : Int)) = True := by simp; omega
  have HG := Lib.hid hg
  have b1 : Below w.heap.size w (w.alloc (.cells v.cells 23)) := (Below.refl _ _).alloc (Nat.le_refl _) _
  have B1 := Lib.hid b1
  clear hg b1
  go_enter Tryd.func3, Tryd.ntmps3
  go_wp2_with (go_at_call 13; refine (works_any _ (HG.out.below B1.out)).mono ?_; rintro e w5 ⟨rfl, hb5⟩)
  go_ret
  exact ⟨rfl, B1.out.trans (hb5.mono B1.out.size)⟩

theorem walk (A H R x y : Int) (a : Option Addr) (cap : Nat) (zs : List Int) (hm : zs.length ≤ 9223372036854775807) (w : World) (hg : Ev.GlobIn tables w) (hI : IntsAt w (.slice a zs.length cap) zs) :
    Calls Tryd.prog 3 #[.agg #[.int .i64 A, .int .i64 H, .int .i64 R], .int .i64 x, .int .i64 y, .slice a zs.length cap] w fun e w' => e = .returned (.bool true) ∧ Below w.heap.size w w' := by
  by_cases hl : zs.length ≤ 100
  · exact walk_few A H R x y a cap zs hl w hg hI
  · exact walk_many _ x y a zs.length cap (by omega) hm w hg

set_option maxRecDepth 100000 in
theorem lifted (os : Os) (started : os.Started) (H : Type) (enc : TypeId × Value → H) :
    ReturnsInHanded {} Tryd.checked os 3 .any (fun w args => (Rows.meshRoutesSpec.pre enc Tryd.prog Tryd.f3 [] false w args ∧ laidMetH Tryd.prog laid2 w) ∧ sizedMet enc Tryd.prog Tryd.f3 (OpenSpec.ofChange Rows.meshRoutesSpec) false w args)
      (Rows.meshRoutesSpec.post enc Tryd.prog Tryd.f3 false true false false) := by
  refine returnsInHanded_of_change_and (C := Tryd.checked) (X := fun w _ => laidMetH Tryd.prog laid2 w) (fun _ _ _ hh h => h.of_heap hh) own started (by kernel_rfl) Tryd.func3
    (ChangeSpec.witness_shaped (enc := enc) (C := Tryd.checked) (os := os) (X := fun w _ => laidMetH Tryd.prog laid2 w) false (World.doorLaid Tryd.prog 19 os) #[.agg #[.int .i64 0, .int .i64 0, .int .i64 0], .int .i64 0, .int .i64 0, .slice none 0 0] 8 rfl (World.shaped_of_RefB (by kernel_rfl) (by kernel_rfl)) (by kernel_rfl) (by kernel_rfl) (by kernel_rfl) (door_met os _)) ?_
  intro W base args ds gs before hval0 hW _ _ hL _
  have hval : ∀ (j : Nat) t v, Tryd.f3.params[j]? = some t → args[j]? = some v → Value.okWide Tryd.prog W .any base t v := hval0
  have hW' := hW
  obtain ⟨p, q, hA0, hV, rfl, hfz, hnd⟩ := hW
  have hA : DataW.TrodAll enc Tryd.prog W 0 (fun _ => true) true Tryd.f3.params.toList args.toList ds p := hA0
  rw [Tryd.params3] at hA hval
  have hAll := hA
  obtain ⟨v0, vs0, d0, ds0, p0, q0, hargs, rfl, rfl, h0, r0⟩ := trodAll_cons hA
  obtain ⟨v1, vs1, d1, ds1, p1, q1, rfl, rfl, rfl, h1, r1⟩ := trodAll_cons r0
  obtain ⟨v2, vs2, d2, ds2, p2, q2, rfl, rfl, rfl, h2, r2⟩ := trodAll_cons r1
  obtain ⟨v3, vs3, d3, ds3, p3, q3, rfl, rfl, rfl, h3, r3⟩ := trodAll_cons r2
  obtain ⟨rfl, rfl, rfl⟩ := trodAll_nil r3
  obtain rfl : args = #[v0, v1, v2, v3] := by cases args; simp_all
  obtain ⟨rfl, rfl⟩ := trodVars_none hV
  obtain ⟨A0, H0, R0, rfl⟩ := open_spec (hval 0 23 v0 rfl rfl) h0
  obtain ⟨a1, rfl, rfl, rfl, w1⟩ := open_int Tryd.underlying3 (hval 1 3 v1 rfl rfl) h1
  obtain ⟨a2, rfl, rfl, rfl, w2⟩ := open_int Tryd.underlying3 (hval 2 3 v2 rfl rfl) h2
  obtain ⟨sa3, sn3, sc3, zs3, rfl, hl3, hi3, hm3⟩ := open_slice_ints (hval 3 24 v3 rfl rfl) h3
  subst hl3
  have hG := tables_of_laid hL
  clear hA0 hval0 hL
  refine (walk A0 H0 R0 a1 a2 sa3 sc3 zs3 hm3 W hG hi3).mono fun e W' ⟨he, bel⟩ => ?_
  subst he
  have hback := trodAll_below bel [23, 3, 3, 24] (by intro t ht; simp at ht; rcases ht with rfl | rfl | rfl | rfl <;> exact ⟨by kernel_rfl, of_decide_eq_true (by kernel_rfl)⟩) hAll
  exact ⟨_, rfl, _, _, _, [], _, [], hW', trodAll_mk1 (shut_bool Tryd.underlying4 _), hback, rfl, bel.frame _, fun h => by cases h⟩

theorem over : Rows.meshRoutesRow.holds Tryd.pinned (OpenSpec.ofChange Rows.meshRoutesSpec) :=
  OpenClaim.holds_of_wide 3 Tryd.f3 rfl rfl rfl rfl rfl rfl rfl ⟨rfl, rfl, rfl, rfl, rfl⟩ rfl rfl rfl rfl rfl (by kernel_rfl) Tryd.func3 (by kernel_rfl)
    (of_decide_eq_true (by kernel_rfl)) (by unfold Func.isWrapper; first | (rw [if_pos (by decide +kernel)]; kernel_rfl) | (rw [if_neg (by decide +kernel)]; exact ⟨rfl, rfl⟩))
    (fun os started H enc _ => lifted os started H enc)

theorem proved : Rows.MeshRoutesCardSaid :=
  Claim7.holds_tied_plain_at .later [] [.data, .data] true (true, "b59ee36b3a81e410288fb087d07f6e24e760e63666c234228ef18b30e2139d21") false
    over (fun _ h => by cases h) (by kernel_rfl) (fun _ h => by cases h) meshRoutes_row_tie rfl ⟨rfl, rfl⟩ (by kernel_rfl) rfl
    (fun f fn hf hfn => by
      obtain rfl : f = 3 := Option.some.inj ((show Tryd.prog.funcNamed "ganglion/ganglionlaw04.MeshRoutes" = some 3 by kernel_rfl).symm.trans hf) |>.symm
      obtain rfl : fn = Tryd.f3 := (Option.some.inj (Tryd.func3.symm.trans hfn)).symm
      exact ⟨by kernel_rfl, fun j t ht => by
        rw [Tryd.params3] at ht
        have hm : t ∈ [23, 3, 3, 24] := by simpa using Array.mem_of_getElem? ht
        have hall : ([23, 3, 3, 24].all fun u => !Tryd.prog.wantsStandIn u) = true := by kernel_rfl
        exact (show Tryd.prog.wantsStandIn t = false by simpa using List.all_eq_true.1 hall t hm)⟩)
    (by kernel_rfl)

end Go.Proofs.YtlkcpnhepadenaaDoor.meshRoutes
