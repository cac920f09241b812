/- Renumber's errors; what a good order is. -/
import Derived.Test.YtgbcdebnanejpaaRe
namespace Go.Proofs.Ytgbcdebnanejpaa.Rn
set_option linter.unusedVariables false
open Go.RowKit Go.Shelf

def renE (n : NetM) (l : List Int) : Int := if ncheck n ≠ 0 then ncheck n else permE l n.ps.length
def renR (n : NetM) (l : List Int) : NetM := if renE n l = 0 then renN n l else netZ
theorem permF_zero {n : Nat} : ∀ (l seen : List Int), permF n seen l = 0 → ∀ x ∈ l, 0 ≤ x ∧ x < (n : Int)
  | [], _, _, x, hx => by simp at hx
  | y :: r, seen, h, x, hx => by
    unfold permF at h
    by_cases h1 : y < 0 ∨ (n : Int) ≤ y
    · rw [if_pos h1] at h; omega
    · rw [if_neg h1] at h
      by_cases h2 : y ∈ seen
      · rw [if_pos h2] at h; omega
      · rw [if_neg h2] at h
        rcases List.mem_cons.1 hx with rfl | hx
        · omega
        · exact permF_zero r _ h x hx
theorem permE_zero {n : Nat} {l : List Int} (h : permE l n = 0) : l.length = n ∧ ∀ x ∈ l, 0 ≤ x ∧ x < (n : Int) := by
  unfold permE at h
  by_cases h1 : l.length ≠ n
  · rw [if_pos h1] at h; omega
  · rw [if_neg h1] at h
    exact ⟨by simpa using h1, permF_zero l [] h⟩

theorem _root_.Go.Proofs.Ytgbcdebnanejpaa.IntsAt.below' {W w1 : World} {sv : Value} {l : List Int} (h : IntsAt W sv l) (hb : Below W.heap.size W w1) : IntsAt w1 sv l := by
  rcases h with h | ⟨b, off, cap, e, h⟩
  · exact Or.inl h
  · refine Or.inr ⟨b, off, cap, e, fun j hj => ?_⟩
    have h1 := h j hj
    have hl : b < W.heap.size := World.block_lt_of_cell? W _ h1
    exact ((bcell hb).1 _ _ hl).trans h1
theorem netBox_set {W : World} {g : Nat} {a0 c0 a c : Value} {b0 b : Int} (h : NetBox W g a0 b0 c0) : NetBox (((W.setCell ⟨g, 0, none⟩ a).setCell ⟨g, 1, none⟩ (.int .i64 b)).setCell ⟨g, 2, none⟩ c) g a b c := by
  unfold NetBox at *
  simp [World.setCell, Array.getElem?_modify, h]
set_option maxRecDepth 100000 in
set_option maxHeartbeats 4000000 in
theorem ren_bad1 (n : NetM) (l : List Int) (a1 a2 al : Option Addr) (c1 c2 cl : Nat) (he : ncheck n ≠ 0) (w : World)
    (hp : PsAt w (.slice a1 n.ps.length c1) n.ps) (hs : SsAt w (.slice a2 n.ss.length c2) n.ss) :
    Calls Try.prog 30 #[.agg #[.slice a1 n.ps.length c1, .int .i64 n.inp, .slice a2 n.ss.length c2], .slice al l.length cl] w (RenOut (renE n l) (renR n l) w) := by
  have hE : renE n l = ncheck n := if_pos he
  have hR : renR n l = netZ := if_neg (by rw [hE]; exact he)
  rw [hE, hR]
  have hck : ∀ w1, Below w.heap.size w w1 → Calls Try.prog 19 #[.agg #[.slice a1 n.ps.length c1, .int .i64 n.inp, .slice a2 n.ss.length c2]] w1 fun e w' => e = .returned (.int .i64 (ncheck n)) ∧ Below w1.heap.size w1 w' := fun w1 hb => ncheck_any n a1 a2 c1 c2 w1 (hp.below hb) (hs.below hb)
  have hne : (ncheck n != 0) = true := by simp [he]
  generalize ncheck n = X at *
  generalize n.ps.length = k at *
  generalize n.ss.length = m at *
  generalize n.inp = I at *
  have HCK := Lib.hid hck
  clear hck hp hs hE hR he
  go_enter Try.func30, Try.ntmps30
  go_wp2_with (go_at_call 19; refine (HCK.out _ (((Below.refl _ _).alloc (Nat.le_refl _) _).alloc (by simp) _)).mono ?_; rintro e w1 ⟨rfl, hb1⟩; have hbx1 : NetBox w1 (w.heap.size + 1) (.slice none 0 0) 0 (.slice none 0 0) := (hb1.block _ (by simp)).trans (alloc_new_at _ _ _ (by simp)); obtain ⟨_, _, _, _, _, _⟩ := cells3f hbx1; have hz1 : w.heap.size + 1 < w1.heap.size := lt_of_block hbx1)
  have hb2 : Below w.heap.size w w1 := (((Below.refl _ _).alloc (Nat.le_refl _) _).alloc (by simp) _).trans (hb1.mono (by simp; omega))
  have hS := netBox_set (a := .slice none 0 0) (b := 0) (c := .slice none 0 0) hbx1
  have hB := ((hb2.setCell (p := ⟨w.heap.size + 1, 0, none⟩) (by simp) (.slice none 0 0)).setCell (p := ⟨w.heap.size + 1, 1, none⟩) (by simp) (.int .i64 0)).setCell (p := ⟨w.heap.size + 1, 2, none⟩) (by simp) (.slice none 0 0)
  generalize ((w1.setCell ⟨w.heap.size + 1, 0, none⟩ (.slice none 0 0)).setCell ⟨w.heap.size + 1, 1, none⟩ (.int .i64 0)).setCell ⟨w.heap.size + 1, 2, none⟩ (.slice none 0 0) = S at *
  obtain ⟨d0, d1, d2, _, _, _⟩ := cells3f hS
  exact bodyPost_ret (v := .tuple #[.agg #[.slice none 0 0, .int .i64 0, .slice none 0 0], .int .i64 X]) (by simp [results, Try.results30, go_sem, d0, d1, d2]) rfl ⟨_, rfl, netZ_at _, hB⟩
set_option maxRecDepth 100000 in
set_option maxHeartbeats 4000000 in
theorem ren_bad2 (n : NetM) (l : List Int) (a1 a2 al : Option Addr) (c1 c2 cl : Nat) (he : ncheck n = 0) (hq : permE l n.ps.length ≠ 0) (hl : l.length ≤ 100000) (w : World)
    (hp : PsAt w (.slice a1 n.ps.length c1) n.ps) (hs : SsAt w (.slice a2 n.ss.length c2) n.ss) (hi : IntsAt w (.slice al l.length cl) l) :
    Calls Try.prog 30 #[.agg #[.slice a1 n.ps.length c1, .int .i64 n.inp, .slice a2 n.ss.length c2], .slice al l.length cl] w (RenOut (renE n l) (renR n l) w) := by
  have hE : renE n l = permE l n.ps.length := if_neg (by simpa using he)
  have hR : renR n l = netZ := if_neg (by rw [hE]; exact hq)
  rw [hE, hR]
  have hck : ∀ w1, Below w.heap.size w w1 → Calls Try.prog 19 #[.agg #[.slice a1 n.ps.length c1, .int .i64 n.inp, .slice a2 n.ss.length c2]] w1 fun e w' => e = .returned (.int .i64 0) ∧ Below w1.heap.size w1 w' := fun w1 hb => by
    have := ncheck_any n a1 a2 c1 c2 w1 (hp.below hb) (hs.below hb)
    rwa [he] at this
  have hps := (netOk_of he).p1
  have hor : ∀ w1, Below w.heap.size w w1 → Calls Try.prog 72 #[.slice al l.length cl, .int .i64 n.ps.length] w1 (PermOut (permE l n.ps.length) w1) := fun w1 hb => order_any l n.ps.length al cl (by omega) hl w1 (hi.below' hb)
  have hne : (permE l n.ps.length != 0) = true := by simp [hq]
  generalize permE l n.ps.length = X at *
  generalize n.ps.length = k at *
  generalize n.ss.length = m at *
  generalize n.inp = I at *
  generalize l.length = q at *
  have HCK := Lib.hid hck
  have HOR := Lib.hid hor
  clear hck hp hs hi hE hR he hor hq
  go_enter Try.func30, Try.ntmps30
  go_wp2_with (first | (go_at_call 19; refine (HCK.out _ (((Below.refl _ _).alloc (Nat.le_refl _) _).alloc (by simp) _)).mono ?_; rintro e w1 ⟨rfl, hb1⟩; have hbx1 : NetBox w1 (w.heap.size + 1) (.slice none 0 0) 0 (.slice none 0 0) := (hb1.block _ (by simp)).trans (alloc_new_at _ _ _ (by simp)); have hbx0 : NetBox w1 w.heap.size (.slice a1 k c1) I (.slice a2 m c2) := (hb1.block _ (by simp <;> omega)).trans ((Below.heap_alloc _ _ _ (by simp)).trans (alloc_new_at _ _ _ rfl)); obtain ⟨_, _, _, _, _, _⟩ := cells3f hbx0; have hz1 : w.heap.size + 1 < w1.heap.size := lt_of_block hbx1; have hb2 : Below w.heap.size w w1 := (((Below.refl _ _).alloc (Nat.le_refl _) _).alloc (by simp) _).trans (hb1.mono (by simp; omega))) | (go_at_call 72; refine (HOR.out _ hb2).mono ?_; rintro e w2 ⟨rfl, hb3⟩; have hbx2 : NetBox w2 (w.heap.size + 1) (.slice none 0 0) 0 (.slice none 0 0) := (hb3.block _ hz1).trans hbx1; obtain ⟨_, _, _, _, _, _⟩ := cells3f hbx2; have hz2 : w.heap.size + 1 < w2.heap.size := lt_of_block hbx2))
  have hb4 : Below w.heap.size w w2 := hb2.trans (hb3.mono (by omega))
  have hS := netBox_set (a := .slice none 0 0) (b := 0) (c := .slice none 0 0) hbx2
  have hB := ((hb4.setCell (p := ⟨w.heap.size + 1, 0, none⟩) (by simp) (.slice none 0 0)).setCell (p := ⟨w.heap.size + 1, 1, none⟩) (by simp) (.int .i64 0)).setCell (p := ⟨w.heap.size + 1, 2, none⟩) (by simp) (.slice none 0 0)
  generalize ((w2.setCell ⟨w.heap.size + 1, 0, none⟩ (.slice none 0 0)).setCell ⟨w.heap.size + 1, 1, none⟩ (.int .i64 0)).setCell ⟨w.heap.size + 1, 2, none⟩ (.slice none 0 0) = S at *
  obtain ⟨d0, d1, d2, _, _, _⟩ := cells3f hS
  exact bodyPost_ret (v := .tuple #[.agg #[.slice none 0 0, .int .i64 0, .slice none 0 0], .int .i64 X]) (by simp [results, Try.results30, go_sem, d0, d1, d2]) rfl ⟨_, rfl, netZ_at _, hB⟩
end Go.Proofs.Ytgbcdebnanejpaa.Rn
