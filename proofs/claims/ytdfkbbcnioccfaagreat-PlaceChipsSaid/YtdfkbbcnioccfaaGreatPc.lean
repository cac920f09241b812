/- place.CheckChip, and the specification's. Over this seat's program. -/
import Derived.Test.YtdfkbbcnioccfaaGreatPb
namespace Go.Proofs.YtdfkbbcnioccfaaGreat
set_option linter.unusedVariables false
open Go.RowKit

/-- A list of ints that is an argument. -/
def DeadAt (W : World) (D : Value) (zs : List Int) : Prop := ∃ sa b off cap, D = .slice sa zs.length cap ∧ (0 < zs.length → sa = some ⟨b, off, none⟩) ∧ zs.length ≤ cap ∧ RowAt W b off zs
theorem DeadAt.below {w W : World} {D : Value} {zs : List Int} (h : DeadAt w D zs) (hb : Below w.heap.size w W) : DeadAt W D zs := by
  obtain ⟨sa, b, off, cap, h1, h2, h3, h4⟩ := h
  exact ⟨sa, b, off, cap, h1, h2, h3, h4.below hb⟩
/-- The error of a chip. -/
def numE (N S E B : Int) : Bool := inR N 1 64 && inR S 1 4096 && inR E 1 1024 && inR B 2 16
def chipE (W H R N S E B : Int) (zs : List Int) : Int :=
  if chkM W H R ≠ 0 then 3 else if numE N S E B = false then 3 else deadE (W * H) [] zs
theorem chipE_mesh {W H R N S E B : Int} {zs : List Int} (h : chkM W H R ≠ 0) : chipE W H R N S E B zs = chkM W H R := by
  unfold chipE; rw [if_pos h, chkM_ne h]
theorem chipE_num {W H R N S E B : Int} {zs : List Int} (h : chkM W H R = 0) (hn : numE N S E B = false) : chipE W H R N S E B zs = 3 := by
  unfold chipE; rw [if_neg (by simp [h]), if_pos hn]
theorem chipE_dead {W H R N S E B : Int} {zs : List Int} (h : chkM W H R = 0) (hn : numE N S E B = true) : chipE W H R N S E B zs = deadE (W * H) [] zs := by
  unfold chipE; rw [if_neg (by simp [h]), if_neg (by simp [hn])]

/-- The box of a chip. -/
def BoxAt (W : World) (b t : Nat) (Wd Hg R N S E B : Int) (D : Value) : Prop := W.heap[b]? = some (.cells #[.int .i64 Wd, .int .i64 Hg, .int .i64 R, .int .i64 N, .int .i64 S, .int .i64 E, .int .i64 B, D] t)
theorem BoxAt.below {w W : World} {b t : Nat} {Wd Hg R N S E B : Int} {D : Value} (h : BoxAt w b t Wd Hg R N S E B D) (hb : Below w.heap.size w W) : BoxAt W b t Wd Hg R N S E B D :=
  (hb.block b (lt_of_block h)).trans h

set_option maxRecDepth 100000 in
set_option maxHeartbeats 4000000 in
theorem checkChip_any (Wd Hg R N S E B : Int) (D : Value) (zs : List Int) (hl : zs.length ≤ 1000) (w : World) (hD : DeadAt w D zs) :
    Calls Tryz.prog 15 #[chipV Wd Hg R N S E B D] w fun e w' => e = .returned (.int .i64 (chipE Wd Hg R N S E B zs)) ∧ Below w.heap.size w w' := by
  obtain ⟨sa, db, off, cap, rfl, hsa, hcap, hI⟩ := hD
  obtain ⟨n, hn⟩ : ∃ n, zs.length = n := ⟨_, rfl⟩
  rw [hn] at hl hsa hcap ⊢
  obtain ⟨D, hDV⟩ : ∃ D, D = Value.slice sa n cap := ⟨_, rfl⟩
  rw [← hDV]
  obtain ⟨X, hX⟩ : ∃ X, chipE Wd Hg R N S E B zs = X := ⟨_, rfl⟩
  rw [hX]
  have hb0 : Below w.heap.size w (w.alloc (.cells #[.int .i64 Wd, .int .i64 Hg, .int .i64 R, .int .i64 N, .int .i64 S, .int .i64 E, .int .i64 B, D] 26)) := (Below.refl _ _).alloc (Nat.le_refl _) _
  have hbx : BoxAt (w.alloc (.cells #[.int .i64 Wd, .int .i64 Hg, .int .i64 R, .int .i64 N, .int .i64 S, .int .i64 E, .int .i64 B, D] 26)) w.heap.size 26 Wd Hg R N S E B D := alloc_new_at _ _ _ rfl
  have HX := Lib.hid hX
  have HB0 := Lib.hid hb0
  have HBX := Lib.hid hbx
  have HI := Lib.hid hI
  have HN := Lib.hid hn
  have HSA := Lib.hid hsa
  have HDV := Lib.hid hDV
  have HCK := Lib.hid (check_any Wd Hg R)
  clear hX hb0 hbx hI hn hsa hDV
  unfold chipV
  by_cases hM : chkM Wd Hg R = 0
  · have gM : (chkM Wd Hg R != 0) = false := by simp [hM]
    have HM := Lib.hid hM
    have hok := chkM_ok hM
    have hm := mul_le64 hok.1 hok.2.1
    obtain ⟨P, hP⟩ : ∃ P, Wd * Hg = P := ⟨_, rfl⟩
    rw [hP] at hm
    have HEX := Lib.hid (fun x D => exists_any Wd Hg R N S E B x D hok.1 hok.2.1 P hP hm.1 hm.2)
    have HP := Lib.hid hP
    clear hok hm hP hM
    by_cases hN : numE N S E B = true
    · have hx := HX.out
      rw [chipE_dead HM.out hN, HP.out] at hx
      have HX2 := Lib.hid hx
      have hN' := hN
      simp only [numE, Bool.and_eq_true] at hN'
      obtain ⟨⟨⟨n1, n2⟩, n3⟩, n4⟩ := hN'
      clear hx hN HX
      generalize chkM Wd Hg R = M at *
      go_enter Tryz.func15, Tryz.ntmps15
      go_upto_region 2 with (go_at_call 42; refine (HCK.out _).mono ?_; rintro e w1 ⟨rfl, hb1⟩; have hbx1 := HBX.out.below hb1; obtain ⟨_, _, _, _, _, _, _, _⟩ := cells8 hbx1; have B1 := Lib.hid (HB0.out.trans (hb1.mono HB0.out.size)); have HBX1 := Lib.hid hbx1; clear hb1 hbx1)
      obtain rfl := HDV.out
      go_wp2_with (go_at_call 43; refine (among_any _ _ _ _).mono ?_; rintro e w' ⟨rfl, rfl⟩; first | rw [n1] | rw [n2] | rw [n3] | rw [n4])
      go_loopw [37] (fun i wr => ∃ k : Nat, k ≤ n ∧ i = .int .i64 k ∧ Below w1.heap.size w1 wr ∧ deadE P (zs.take k) (zs.drop k) = X) (fun i _ => n - (intOf i).toNat)
      case atStart => exact ⟨0, Nat.zero_le _, rfl, Below.refl _ _, HX2.out⟩
      case round =>
        obtain ⟨k, hk, rfl, hb, hd⟩ := hrel
        have hbw := B1.out.trans (hb.mono B1.out.size)
        have hbr := HBX1.out.below hb
        obtain ⟨_, _, _, _, _, _, _, _⟩ := cells8 hbr
        have hrow := HI.out.below hbw
        have HBW := Lib.hid hbw
        have HBR := Lib.hid hbr
        have HB := Lib.hid hb
        by_cases hlt : k < n
        · have hk0 : (0 : Int) ≤ (k : Int) := Int.natCast_nonneg _
          have hk1 : (k : Int) < (n : Int) := by omega
          have hkc : (k : Int) ≤ (cap : Int) := by omega
          obtain rfl := HSA.out (by omega)
          have hat := deadE_at (by rw [HN.out]; exact hlt) hd
          have c1 := (hrow k (by rw [HN.out]; exact hlt)).1
          obtain ⟨z, hz⟩ : ∃ z, zs[k]?.getD 0 = z := ⟨_, rfl⟩
          rw [hz] at c1 hat
          have HT := Lib.hid (hrow.take (k := k))
          have HZ := Lib.hid hz
          clear hbw hbr hrow hb hd hz
          rcases hat with ⟨h1, h2⟩ | ⟨h1, h2, h3⟩ | ⟨h1, h2, h3⟩
          · subst h2
            go_wp2_with (go_at_call 44; refine (HEX.out _ _ _).mono ?_; rintro e w2 ⟨rfl, hb2⟩; have B2 := Lib.hid (HBW.out.trans (hb2.mono HBW.out.size)); clear hb2)
            go_ret
            exact ⟨rfl, B2.out⟩
          · subst h3
            have hm : decide (z ∈ zs.take k) = true := decide_eq_true h2
            clear h2
            go_wp2_with (first
              | (go_at_call 44; refine (HEX.out _ _ _).mono ?_; rintro e w2 ⟨rfl, hb2⟩; have hbr2 := HBR.out.below hb2; obtain ⟨_, _, _, _, _, _, _, _⟩ := cells8 hbr2; have HT2 := Lib.hid (HT.out.below hb2); have B2 := Lib.hid (HBW.out.trans (hb2.mono HBW.out.size)); clear hb2 hbr2)
              | (go_at_call 45; refine (contains_any z (some ⟨db, off, none⟩) db off k cap (zs.take k) (by have := HN.out; simp; omega) (by omega) (fun _ => rfl) _ HT2.out).mono ?_; rintro e w3 ⟨rfl, rfl⟩))
            go_ret
            exact ⟨rfl, B2.out⟩
          · have hm : decide (z ∈ zs.take k) = false := decide_eq_false h2
            have HD3 := Lib.hid h3
            clear h2 h3
            go_wp2_with (first
              | (go_at_call 44; refine (HEX.out _ _ _).mono ?_; rintro e w2 ⟨rfl, hb2⟩; have hbr2 := HBR.out.below hb2; obtain ⟨_, _, _, _, _, _, _, _⟩ := cells8 hbr2; have HT2 := Lib.hid (HT.out.below hb2); have B2 := Lib.hid (HB.out.trans (hb2.mono HB.out.size)); clear hb2 hbr2)
              | (go_at_call 45; refine (contains_any z (some ⟨db, off, none⟩) db off k cap (zs.take k) (by have := HN.out; simp; omega) (by omega) (fun _ => rfl) _ HT2.out).mono ?_; rintro e w3 ⟨rfl, rfl⟩))
            go_roundw
            case rel => exact ⟨k + 1, by omega, by go_num, B2.out, HD3.out⟩
            case measure => simp [intOf]; omega
        · obtain rfl : k = n := by omega
          have h0 : X = 0 := by
            have := HN.out
            subst this
            exact deadE_end hd
          subst h0
          clear hlt hbw hbr hrow hb hd hk
          go_wp2
          go_ret
          exact ⟨rfl, HBW.out⟩
    · have hN' : numE N S E B = false := by simpa using hN
      have hx := HX.out
      rw [chipE_num HM.out hN'] at hx
      subst hx
      simp only [numE, Bool.and_eq_false_iff] at hN'
      clear hN
      generalize chkM Wd Hg R = M at *
      go_enter Tryz.func15, Tryz.ntmps15
      go_upto_region 2 with (go_at_call 42; refine (HCK.out _).mono ?_; rintro e w1 ⟨rfl, hb1⟩; have hbx1 := HBX.out.below hb1; obtain ⟨_, _, _, _, _, _, _, _⟩ := cells8 hbx1; have B1 := Lib.hid (HB0.out.trans (hb1.mono HB0.out.size)); have HBX1 := Lib.hid hbx1; clear hb1 hbx1)
      cases m1 : inR N 1 64 with
      | false =>
        go_wp2_with (go_at_call 43; refine (among_any _ _ _ _).mono ?_; rintro e w' ⟨rfl, rfl⟩; first | rw [m1])
        go_ret
        exact ⟨rfl, B1.out⟩
      | true =>
        cases m2 : inR S 1 4096 with
        | false =>
          go_wp2_with (go_at_call 43; refine (among_any _ _ _ _).mono ?_; rintro e w' ⟨rfl, rfl⟩; first | rw [m1] | rw [m2])
          go_ret
          exact ⟨rfl, B1.out⟩
        | true =>
          cases m3 : inR E 1 1024 with
          | false =>
            go_wp2_with (go_at_call 43; refine (among_any _ _ _ _).mono ?_; rintro e w' ⟨rfl, rfl⟩; first | rw [m1] | rw [m2] | rw [m3])
            go_ret
            exact ⟨rfl, B1.out⟩
          | true =>
            cases m4 : inR B 2 16 with
            | false =>
              go_wp2_with (go_at_call 43; refine (among_any _ _ _ _).mono ?_; rintro e w' ⟨rfl, rfl⟩; first | rw [m1] | rw [m2] | rw [m3] | rw [m4])
              go_ret
              exact ⟨rfl, B1.out⟩
            | true =>
              rw [m1, m2, m3, m4] at hN'
              simp at hN'
  · have gM : (chkM Wd Hg R != 0) = true := by simp [hM]
    have hx := HX.out
    rw [chipE_mesh hM] at hx
    subst hx
    clear hM HX
    go_enter Tryz.func15, Tryz.ntmps15
    go_wp2_with (go_at_call 42; refine (HCK.out _).mono ?_; rintro e w1 ⟨rfl, hb1⟩; have B1 := Lib.hid (HB0.out.trans (hb1.mono HB0.out.size)); clear hb1)
    go_ret
    exact ⟨rfl, B1.out⟩
end Go.Proofs.YtdfkbbcnioccfaaGreat
