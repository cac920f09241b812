/- Barriers: the mathematics, and the small functions of a mesh. Over this seat's program. -/
import Derived.Test.YtlkcpnhepadenaaDoorRows
import Derived.WalkKit
import Derived.WalkSpells
import Derived.Laws.EntriesVeiled
import Derived.WalkLawsBesides
import Derived.Deep.QuietTactic
import Derived.BigQuiet
import Derived.WalkSmall
import Derived.Lib.Hide
namespace Go.Proofs.YtlkcpnhepadenaaDoor
set_option linter.unusedVariables false
open Go.RowKit
/-- The greatest of f 0 .. f n. -/
def mx (f : Nat → Int) : Nat → Int
  | 0 => f 0
  | n + 1 => max (mx f n) (f (n + 1))
theorem mx_ge (f : Nat → Int) : ∀ n j, j ≤ n → f j ≤ mx f n
  | 0, j, h => by have : j = 0 := by omega
                  subst this; exact Int.le_refl _
  | n + 1, j, h => by
    simp only [mx]
    rcases Nat.lt_or_ge n j with hj | hj
    · have : j = n + 1 := by omega
      subst this; omega
    · have := mx_ge f n j hj; omega
theorem mx_le (f : Nat → Int) (c : Int) : ∀ n, (∀ j, j ≤ n → f j ≤ c) → mx f n ≤ c
  | 0, h => h 0 (Nat.le_refl _)
  | n + 1, h => by
    have h1 := mx_le f c n fun j hj => h j (by omega)
    have h2 := h (n + 1) (Nat.le_refl _)
    simp only [mx]; omega
theorem mx_congr {f g : Nat → Int} : ∀ n, (∀ j, j ≤ n → f j = g j) → mx f n = mx g n
  | 0, h => h 0 (Nat.le_refl _)
  | n + 1, h => by
    simp only [mx]
    rw [mx_congr n fun j hj => h j (by omega), h (n + 1) (Nat.le_refl _)]
theorem mx_add (f : Nat → Int) (c : Int) : ∀ n, mx (fun j => f j + c) n = mx f n + c
  | 0 => rfl
  | n + 1 => by simp only [mx]; rw [mx_add f c n]; omega
/-- One of them made greater. -/
theorem mx_up (f g : Nat → Int) (p : Nat) (v : Int) (hp : g p = max (f p) v) (hg : ∀ j, j ≠ p → g j = f j) : ∀ n, p ≤ n → mx g n = max (mx f n) v
  | 0, h => by
    have : p = 0 := by omega
    subst this; exact hp
  | n + 1, h => by
    simp only [mx]
    rcases Nat.lt_or_ge n p with hn | hn
    · have : p = n + 1 := by omega
      subst this
      rw [mx_congr (f := g) (g := f) n fun j hj => hg j (by omega), hp]; omega
    · rw [mx_up f g p v hp hg n hn, hg (n + 1) (by omega)]; omega

/-- To which router one reports, and how far it is from the router 0. -/
def par (W k : Nat) : Nat := if k % W = 0 then k - W else k - 1
def dep (W k : Nat) : Nat := k % W + k / W
theorem par_lt {W k : Nat} (hW : 0 < W) (hk : 0 < k) : par W k < k := by
  unfold par; split <;> omega
theorem mod_zero_ge {W k : Nat} (hk : 0 < k) (h : k % W = 0) : W ≤ k := Nat.le_of_dvd hk (Nat.dvd_of_mod_eq_zero h)
theorem dep_par {W k : Nat} (hW : 0 < W) (hk : 0 < k) : dep W (par W k) + 1 = dep W k := by
  unfold par dep
  split
  · rename_i h
    have h1 := mod_zero_ge hk h
    have h2 : k = k - W + W := by omega
    have h3 : k / W = (k - W) / W + 1 := by conv => lhs; rw [h2]
                                            rw [Nat.add_div_right _ hW]
    have h4 : k % W = (k - W) % W := by conv => lhs; rw [h2]
                                        rw [Nat.add_mod_right]
    omega
  · rename_i h
    have h1 : k = W * (k / W) + k % W := (Nat.div_add_mod k W).symm
    have h2 : k - 1 = k % W - 1 + W * (k / W) := by omega
    have h3 : k % W < W := Nat.mod_lt _ hW
    have h4 : (k - 1) / W = k / W := by rw [h2, Nat.add_mul_div_left _ _ hW, Nat.div_eq_of_lt (by omega)]; omega
    have h5 : (k - 1) % W = k % W - 1 := by rw [h2, Nat.add_mul_mod_self_left, Nat.mod_eq_of_lt (by omega)]
    omega
theorem dep_zero (W : Nat) : dep W 0 = 0 := by simp [dep]
theorem dep_le {W H k : Nat} (hW : 0 < W) (hk : k < W * H) : dep W k + 2 ≤ W + H := by
  unfold dep
  have h1 : k % W < W := Nat.mod_lt _ hW
  have h2 : k / W < H := Nat.div_lt_of_lt_mul hk
  omega
/-- When the last report comes to the router 0. -/
def last (W : Nat) (t : Nat → Int) (n : Nat) : Int := mx (fun j => t j + (dep W j : Nat)) (n - 1)
/-- One report: i tells the router before it. -/
def tell (W i : Nat) (t : Nat → Int) : Nat → Int := fun j => if j = par W i then max (t j) (t i + 1) else t j
theorem tell_last {W i : Nat} (hW : 0 < W) (t : Nat → Int) : mx (fun j => tell W (i + 1) t j + (dep W j : Nat)) i = mx (fun j => t j + (dep W j : Nat)) (i + 1) := by
  have h1 := par_lt (k := i + 1) hW (by omega)
  have h2 := dep_par (k := i + 1) hW (by omega)
  rw [mx_up (fun j => t j + (dep W j : Nat)) (fun j => tell W (i + 1) t j + (dep W j : Nat)) (par W (i + 1)) (t (i + 1) + (dep W (i + 1) : Nat)) ?_ ?_ i (by omega)]
  · rfl
  · simp only [tell]; rw [if_pos trivial]; omega
  · intro j hj
    simp only [tell]; rw [if_neg hj]
/-- All reports of n routers down to i. -/
theorem last_add (W : Nat) (t : Nat → Int) (c : Int) (n : Nat) : last W (fun j => t j + c) n = last W t n + c := by
  unfold last
  rw [← mx_add]
  exact mx_congr _ fun j _ => by show t j + c + _ = t j + _ + c; omega
theorem last_congr {W : Nat} {t u : Nat → Int} {n : Nat} (h : ∀ j, j < n → t j = u j) (hn : 0 < n) : last W t n = last W u n :=
  mx_congr _ fun j hj => by rw [h j (by omega)]
theorem last_ge {W : Nat} {t : Nat → Int} {n j : Nat} (h : j < n) : t j + (dep W j : Nat) ≤ last W t n := mx_ge (fun j => t j + (dep W j : Nat)) _ j (by omega)
theorem last_le {W H : Nat} {t : Nat → Int} {n : Nat} {c : Int} (hW : 0 < W) (hn : n = W * H) (h0 : 0 < n) (h : ∀ j, j < n → t j ≤ c) : last W t n ≤ c + ((W + H - 2 : Nat) : Int) :=
  mx_le _ _ _ fun j hj => by
    have h1 := h j (by omega)
    have h2 := dep_le (H := H) (k := j) hW (by omega)
    show t j + (dep W j : Nat) ≤ _
    omega
/-- What a router reports that hears from those behind it: R must be so. -/
theorem reports_last {W n : Nat} (hW : 0 < W) (hn : 0 < n) {t R : Nat → Int} (h1 : ∀ r, r < n → t r ≤ R r) (h2 : ∀ k, 0 < k → k < n → R k + 1 ≤ R (par W k))
    (h3 : ∀ r c, r < n → t r ≤ c → (∀ k, 0 < k → k < n → par W k = r → R k + 1 ≤ c) → R r ≤ c) : R 0 = last W t n := by
  have up : ∀ m r, r < n → n - r ≤ m → R r + (dep W r : Nat) ≤ last W t n := by
    intro m
    induction m with
    | zero => intro r hr hm; omega
    | succ m ih =>
      intro r hr hm
      have hl := last_ge (W := W) (t := t) hr
      have := h3 r (last W t n - (dep W r : Nat)) hr (by omega) fun k hk hkn hp => by
        have hlt := par_lt hW hk
        have hd := dep_par hW hk
        rw [hp] at hlt hd
        have := ih k hkn (by omega)
        omega
      omega
  have dn : ∀ m k, k ≤ m → k < n → R k + (dep W k : Nat) ≤ R 0 := by
    intro m
    induction m with
    | zero => intro k hk _; have : k = 0 := by omega
              subst this; simp [dep_zero]
    | succ m ih =>
      intro k hk hkn
      rcases Nat.eq_zero_or_pos k with rfl | hp
      · simp [dep_zero]
      · have a1 := par_lt hW hp
        have a2 := dep_par hW hp
        have a3 := ih (par W k) (by omega) (by omega)
        have a4 := h2 k hp hkn
        omega
  apply Int.le_antisymm
  · have := up n 0 hn (by omega); simpa [dep_zero] using this
  · refine mx_le _ _ _ fun j hj => ?_
    have a1 := dn j j (Nat.le_refl _) (by omega)
    have a2 := h1 j (by omega)
    show t j + (dep W j : Nat) ≤ _
    omega

def inR (x a b : Int) : Bool := decide (a ≤ x) && decide (x ≤ b)
theorem inR_true {x a b : Int} : inR x a b = true ↔ a ≤ x ∧ x ≤ b := by simp [inR]
theorem inR_false {x a b : Int} : inR x a b = false ↔ x < a ∨ b < x := by
  rw [← Bool.not_eq_true, inR_true]; omega
/-- The error of a mesh. -/
def chkM (W H R : Int) : Int := if inR W 1 8 && inR H 1 8 && inR R 1 64 then 0 else 3
theorem chkM_ok {W H R : Int} (h : chkM W H R = 0) : (1 ≤ W ∧ W ≤ 8) ∧ (1 ≤ H ∧ H ≤ 8) ∧ 1 ≤ R ∧ R ≤ 64 := by
  unfold chkM at h
  by_cases hc : (inR W 1 8 && inR H 1 8 && inR R 1 64) = true
  · simp only [Bool.and_eq_true, inR_true] at hc; exact ⟨hc.1.1, hc.1.2, hc.2⟩
  · rw [if_neg hc] at h; cases h
theorem ret_int {k : IntKind} {a b : Int} (h : a = b) : Ending.returned (.int k a) = .returned (.int k b) := by rw [h]
theorem bcell {W w1 : World} (hb : Below W.heap.size W w1) : (∀ b o, b < W.heap.size → w1.cell? ⟨b, o, none⟩ = W.cell? ⟨b, o, none⟩) ∧ (∀ b o, b < W.heap.size → w1.frozen? ⟨b, o, none⟩ = W.frozen? ⟨b, o, none⟩) :=
  ⟨fun b o h => hb.cell (p := ⟨b, o, none⟩) h, fun b o h => hb.frozen (p := ⟨b, o, none⟩) h⟩

set_option maxHeartbeats 400000 in
theorem among_any (x a b : Int) (w : World) :
    Calls Tryd.prog 49 #[.int .i64 x, .int .i64 a, .int .i64 b] w fun e w' => e = .returned (.bool (inR x a b)) ∧ w = w' := by
  by_cases h1 : a ≤ x
  · go_enter Tryd.func49, Tryd.ntmps49
    go_wp2
    go_ret
    exact ⟨by simp [inR, *], rfl⟩
  · go_enter Tryd.func49, Tryd.ntmps49
    go_wp2
    go_ret
    exact ⟨by simp [inR]; omega, rfl⟩

set_option maxHeartbeats 400000 in
theorem check_any (W H R : Int) (w : World) :
    Calls Tryd.prog 17 #[.agg #[.int .i64 W, .int .i64 H, .int .i64 R]] w fun e w' => e = .returned (.int .i64 (chkM W H R)) ∧ Below w.heap.size w w' := by
  obtain ⟨X, hX⟩ : ∃ X : Int, X = chkM W H R := ⟨_, rfl⟩
  rw [← hX]
  have HX := Lib.hid hX
  clear hX
  go_enter Tryd.func17, Tryd.ntmps17
  go_wp2_with (go_at_call 49; refine (among_any _ _ _ _).mono ?_; rintro e w' ⟨rfl, rfl⟩)
  all_goals go_ret
  all_goals refine ⟨ret_int ?_, ((Below.refl _ _).alloc (Nat.le_refl _) _)⟩
  all_goals rw [HX.out]
  all_goals clear HX
  all_goals simp_all [chkM]

set_option maxHeartbeats 400000 in
theorem rcheck_any (W H R : Int) (w : World) :
    Calls Tryd.prog 18 #[.agg #[.int .i64 W, .int .i64 H, .int .i64 R]] w fun e w' => e = .returned (.int .i64 (chkM W H R)) ∧ Below w.heap.size w w' := by
  obtain ⟨X, hX⟩ : ∃ X : Int, X = chkM W H R := ⟨_, rfl⟩
  rw [← hX]
  have HX := Lib.hid hX
  clear hX
  go_enter Tryd.func18, Tryd.ntmps18
  go_wp2
  all_goals go_ret
  all_goals refine ⟨ret_int ?_, ((Below.refl _ _).alloc (Nat.le_refl _) _)⟩
  all_goals rw [HX.out]
  all_goals clear HX
  all_goals (unfold chkM inR; simp only [Bool.and_eq_true, decide_eq_true_eq]; split <;> first | rfl | omega)

set_option maxHeartbeats 400000 in
theorem routers_any (W H R : Int) (h1 : 1 ≤ W ∧ W ≤ 8) (h2 : 1 ≤ H ∧ H ≤ 8) (X : Int) (hX : W * H = X) (hx1 : 1 ≤ X) (hx2 : X ≤ 64) (w : World) :
    Calls Tryd.prog 55 #[.agg #[.int .i64 W, .int .i64 H, .int .i64 R]] w fun e w' => e = .returned (.int .i64 X) ∧ Below w.heap.size w w' := by
  go_enter Tryd.func55, Tryd.ntmps55
  go_wp2
  go_ret
  exact ⟨rfl, ((Below.refl _ _).alloc (Nat.le_refl _) _)⟩

theorem rem_nat {k W : Nat} : Int.tmod (k : Int) (W : Int) = ((k % W : Nat) : Int) := (Int.ofNat_tmod k W).symm
theorem quo_nat {k W : Nat} : Int.tdiv (k : Int) (W : Int) = ((k / W : Nat) : Int) := (Int.ofNat_tdiv k W).symm
theorem par_of_zero {W k : Nat} (h : k % W = 0) : par W k = k - W := by unfold par; rw [if_pos h]
theorem par_of_pos {W k : Nat} (h : ¬ k % W = 0) : par W k = k - 1 := by unfold par; rw [if_neg h]

set_option maxHeartbeats 400000 in
theorem above_any (W k : Nat) (H R : Int) (h1 : 1 ≤ W) (h2 : W ≤ 8) (hk : 0 < k) (hk2 : k ≤ 64) (w : World) :
    Calls Tryd.prog 77 #[.agg #[.int .i64 (W : Int), .int .i64 H, .int .i64 R], .int .i64 (k : Int)] w fun e w' => e = .returned (.int .i64 ((par W k : Nat) : Int)) ∧ Below w.heap.size w w' := by
  have hW0 : ((W : Int) == 0) = false := by simp; omega
  have hr := rem_nat (k := k) (W := W)
  by_cases hm : k % W = 0
  · have hge := mod_zero_ge hk hm
    rw [par_of_zero hm]
    have e : ((k - W : Nat) : Int) = (k : Int) - (W : Int) := by omega
    rw [e]
    rw [hm] at hr
    have g : ((0 : Int) < Int.tmod (k : Int) (W : Int)) = False := by rw [hr]; simp
    go_enter Tryd.func77, Tryd.ntmps77
    go_wp2
    go_ret
    exact ⟨rfl, ((Below.refl _ _).alloc (Nat.le_refl _) _)⟩
  · rw [par_of_pos hm]
    have e : ((k - 1 : Nat) : Int) = (k : Int) - 1 := by omega
    rw [e]
    have g : ((0 : Int) < Int.tmod (k : Int) (W : Int)) = True := by rw [hr]; simp; omega
    go_enter Tryd.func77, Tryd.ntmps77
    go_wp2
    go_ret
    exact ⟨rfl, ((Below.refl _ _).alloc (Nat.le_refl _) _)⟩
end Go.Proofs.YtlkcpnhepadenaaDoor
