/- motif.Count. Over this seat's program. (mk_Gh.py wrote this.) -/
import Derived.Test.YtmgdildbngbibaaGg
namespace Go.Proofs.Ytmgdildbngbibaa
set_option linter.unusedVariables false
open Go.RowKit Go.Shelf

def tapE (inp : Int) (t : Tap) : Int := if inR t.ip 0 (inp - 1) = false then 4 else if (inR t.wt 0 32768 && inR t.dl 1 16) = false then 3 else 0
/-- The first error of taps, or else E. -/
def firstT (inp E : Int) : List Tap → Int
  | [] => E
  | t :: r => if tapE inp t ≠ 0 then tapE inp t else firstT inp E r
def cntE (inp : Int) (l : List Tap) (th : Int) : Int := if inR inp 1 256 = false then 3 else if 512 < l.length then 9 else firstT inp (if inR th 1 1048576 = false then 3 else 0) l
def tapS (t : Tap) : Syn := ⟨-1 - t.ip, 0, t.wt, t.dl⟩
def cntN (inp : Int) (l : List Tap) (th : Int) : NetM := ⟨[⟨0, 0, 0, th, 1, 0, 0, 0⟩], inp, l.map tapS⟩
def cntR (inp : Int) (l : List Tap) (th : Int) : NetM := if cntE inp l th = 0 then cntN inp l th else netZ
theorem tapE_le {inp : Int} {t : Tap} (h : tapE inp t = 0) : inR t.ip 0 (inp - 1) = true ∧ inR t.wt 0 32768 = true ∧ inR t.dl 1 16 = true := by
  unfold tapE at h
  cases h1 : inR t.ip 0 (inp - 1) <;> cases h2 : inR t.wt 0 32768 <;> cases h3 : inR t.dl 1 16 <;> simp_all
theorem firstT_at {inp E0 E : Int} {l : List Tap} {k : Nat} {t : Tap} (ht : l[k]? = some t) (h : firstT inp E0 (l.drop k) = E) :
    (tapE inp t ≠ 0 ∧ tapE inp t = E) ∨ (tapE inp t = 0 ∧ firstT inp E0 (l.drop (k + 1)) = E) := by
  obtain ⟨hk, he⟩ := List.getElem?_eq_some_iff.1 ht
  rw [List.drop_eq_getElem_cons hk, he] at h
  simp only [firstT] at h
  by_cases h1 : tapE inp t ≠ 0
  · rw [if_pos h1] at h; exact .inl ⟨h1, h⟩
  · rw [if_neg h1] at h; exact .inr ⟨Decidable.not_not.1 h1, h⟩
theorem firstT_all {inp E0 : Int} : ∀ {l : List Tap}, firstT inp E0 l = 0 → (∀ t ∈ l, tapE inp t = 0) ∧ E0 = 0
  | [], h => ⟨fun t ht => by simp at ht, h⟩
  | t :: r, h => by
    simp only [firstT] at h
    by_cases h1 : tapE inp t ≠ 0
    · rw [if_pos h1] at h; exact absurd h h1
    · rw [if_neg h1] at h
      obtain ⟨h2, h3⟩ := firstT_all h
      exact ⟨fun u hu => by
        rcases List.mem_cons.1 hu with rfl | hu
        · exact Decidable.not_not.1 h1
        · exact h2 u hu, h3⟩
def cnK (B : Nat) (tb : Nat) (X Y Z : Int) : Nat → Value
  | 0 => .pointer (some ⟨B, 0, none⟩)
  | 1 => .pointer (some ⟨tb, 0, none⟩)
  | 2 => .int .i64 X
  | 3 => .int .i64 (-1 - X)
  | 4 => .pointer (some ⟨tb, 1, none⟩)
  | 5 => .int .i64 Y
  | 6 => .pointer (some ⟨tb, 2, none⟩)
  | 7 => .int .i64 Z
  | _ => undef
/-- Three cells of a block hold a tap. -/
def TBox (W : World) (b : Nat) (x y z : Int) : Prop := W.heap[b]? = some (.cells #[.int .i64 x, .int .i64 y, .int .i64 z] 70)
def cnPre (W6 : World) (W : World) : Prop := Below W6.heap.size W6 W
def cnM (W1 : World) (B tb : Nat) (X Y Z : Int) (ps : List Prm) (inp : Int) (SN : List Syn) (v : Value) (W : World) : Prop := v = .tuple #[] ∧ Below W1.heap.size W1 W ∧ TBox W tb X Y Z ∧ ∃ v5 v6, BdAt W B ps inp SN v5 v6
def noZ (v : Value) (W : World) : Prop := False
set_option maxRecDepth 100000 in
set_option maxHeartbeats 4000000 in
theorem count_any (inp : Int) (l : List Tap) (th : Int) (a : Option Addr) (cap : Nat) (hl : l.length ≤ 100000) (w : World) (hT : TapsAt w (.slice a l.length cap) l) :
    Calls Try.prog 30 #[.int .i64 inp, .slice a l.length cap, .int .i64 th] w (NetGot (cntE inp l th) (cntR inp l th) w) := by
  obtain ⟨n, hn⟩ : ∃ n, n = l.length := ⟨_, rfl⟩
  obtain ⟨E, hE⟩ : ∃ E, cntE inp l th = E := ⟨_, rfl⟩
  obtain ⟨N, hN⟩ : ∃ N, cntR inp l th = N := ⟨_, rfl⟩
  rw [hE, hN]
  unfold cntR at hN
  rw [hE] at hN
  rw [← hn] at hl hT ⊢
  have HT := Lib.hid hT
  have HN := Lib.hid hn
  have HNN := Lib.hid hN
  clear hT hN
  have hzr : E ≠ 0 → N = netZ := fun h => by have := HNN.out; rw [if_neg h] at this; exact this.symm
  have HZR := Lib.hid hzr
  clear hzr
  unfold cntE at hE
  rw [← hn] at hE
  clear hn
  go_enter Try.func30, Try.ntmps30
  go_upto_region 1 with (fail)
  have hbx := (alloc_new_at w (.cells #[.slice none 0 0, .int .i64 0, .slice none 0 0] 32) w.heap.size rfl)
  have hbl : Below w.heap.size w (w.alloc (.cells #[.slice none 0 0, .int .i64 0, .slice none 0 0] 32)) := (Below.refl _ _).alloc (Nat.le_refl _) _
  generalize w.alloc (.cells #[.slice none 0 0, .int .i64 0, .slice none 0 0] 32) = W1 at *
  have hR := lt_of_block hbx
  have HBX := Lib.hid hbx
  have HBL := Lib.hid hbl
  have zend : ∀ (E : Int) (W : World), E ≠ 0 → Below W1.heap.size W1 W → NetGot E netZ w (.returned (.tuple #[.agg #[.slice none 0 0, .int .i64 0, .slice none 0 0], .int .i64 E])) (((W.setCell ⟨w.heap.size, 0, none⟩ (.slice none 0 0)).setCell ⟨w.heap.size, 1, none⟩ (.int .i64 0)).setCell ⟨w.heap.size, 2, none⟩ (.slice none 0 0)) := fun E W _ hb =>
    ⟨_, rfl, netZ_at _, (set3 ((hb.block _ hR).trans HBX.out) _ _ _).2.2 _ _ (Nat.le_refl _) (HBL.out.trans (hb.mono HBL.out.size))⟩
  have HZ := Lib.hid zend
  clear hbx hbl zend
  obtain ⟨y0, y1, y2⟩ := cells3 HBX.out
  have yf0 : W1.frozen? ⟨w.heap.size, 0, none⟩ = false := by simp [World.frozen?, HBX.out]
  have yf1 : W1.frozen? ⟨w.heap.size, 1, none⟩ = false := by simp [World.frozen?, HBX.out]
  have yf2 : W1.frozen? ⟨w.heap.size, 2, none⟩ = false := by simp [World.frozen?, HBX.out]
  cases c1 : inR inp 1 256 with
  | false =>
    rw [if_pos c1] at hE
    subst hE
    obtain rfl := HZR.out (by decide)
    go_wp2_with (go_at_call 60; refine (mamong_any _ _ _ _).mono ?_; rintro e w' ⟨rfl, rfl⟩)
    exact bodyPost_ret (res_net rfl _ (set3 HBX.out _ _ _).1 _ rfl rfl) rfl (HZ.out _ _ (by decide) (Below.refl _ _))
  | true =>
    rw [if_neg (by rw [c1]; decide)] at hE
    have hinp := inR_true.1 c1
    by_cases c2 : 512 < n
    · have g2 : ((512 : Int) < (n : Int)) = True := by simp; omega
      rw [if_pos c2] at hE
      subst hE
      obtain rfl := HZR.out (by decide)
      go_wp2_with (go_at_call 60; refine (mamong_any _ _ _ _).mono ?_; rintro e w' ⟨rfl, rfl⟩)
      exact bodyPost_ret (res_net rfl _ (set3 HBX.out _ _ _).1 _ rfl rfl) rfl (HZ.out _ _ (by decide) (Below.refl _ _))
    · have g2 : ((512 : Int) < (n : Int)) = False := by simp; omega
      rw [if_neg c2] at hE
      have HE := Lib.hid hE
      clear hE
      go_wp2_with (go_at_call 60; refine (mamong_any _ _ _ _).mono ?_; rintro e w' ⟨rfl, rfl⟩)
      clear y0 y1 y2 yf0 yf1 yf2 g2
      go_loopw [23] (fun s wr => ∃ k : Nat, k ≤ n ∧ s = .int .i64 k ∧ Below W1.heap.size W1 wr ∧ firstT inp (if inR th 1 1048576 = false then 3 else 0) (l.drop k) = E) (fun s _ => n - (intOf s).toNat)
      case atStart => exact ⟨0, Nat.zero_le _, rfl, Below.refl _ _, HE.out⟩
      case round =>
        obtain ⟨k, hk, rfl, hb, hf⟩ := hrel
        have HB := Lib.hid hb
        have HF := Lib.hid hf
        clear hb hf
        have hzw := HB.out.size
        have hbr := (HB.out.block _ hR).trans HBX.out
        have HBR := Lib.hid hbr
        obtain ⟨y0, y1, y2⟩ := cells3 hbr
        have yf0 : wr.frozen? ⟨w.heap.size, 0, none⟩ = false := by simp [World.frozen?, hbr]
        have yf1 : wr.frozen? ⟨w.heap.size, 1, none⟩ = false := by simp [World.frozen?, hbr]
        have yf2 : wr.frozen? ⟨w.heap.size, 2, none⟩ = false := by simp [World.frozen?, hbr]
        clear hbr
        by_cases hlt : k < n
        · obtain ⟨x, hx⟩ : ∃ x, l[k]? = some x := ⟨_, List.getElem?_eq_getElem (by rw [← HN.out]; exact hlt)⟩
          have hi0 : (0 : Int) ≤ (k : Int) := Int.natCast_nonneg _
          have hi1 : (k : Int) < (n : Int) := by omega
          have hc := firstT_at hx HF.out
          obtain ⟨b, off, rfl, hbl, hcl⟩ := (HT.out.below (HBL.out.trans (HB.out.mono HBL.out.size))).at hx
          obtain ⟨X, Y, Z⟩ := x
          obtain ⟨u1, u2, u3⟩ := hcl
          simp only at u1 u2 u3
          have HC := Lib.hid hc
          clear hx hc
          go_upto_region 8 with (fail)
          have hbn := HB.out.alloc (by omega) (.cells #[.int .i64 X, .int .i64 Y, .int .i64 Z] 70)
          have htb : TBox (wr.alloc (.cells #[.int .i64 X, .int .i64 Y, .int .i64 Z] 70)) wr.heap.size X Y Z := alloc_new_at _ _ _ rfl
          generalize wr.alloc (.cells #[.int .i64 X, .int .i64 Y, .int .i64 Z] 70) = W5 at *
          have HBN := Lib.hid hbn
          clear y0 y1 y2 yf0 yf1 yf2
          have hbr := (HBN.out.block _ hR).trans HBX.out
          obtain ⟨y0, y1, y2⟩ := cells3 hbr
          have yf0 : W5.frozen? ⟨w.heap.size, 0, none⟩ = false := by simp [World.frozen?, hbr]
          have yf1 : W5.frozen? ⟨w.heap.size, 1, none⟩ = false := by simp [World.frozen?, hbr]
          have yf2 : W5.frozen? ⟨w.heap.size, 2, none⟩ = false := by simp [World.frozen?, hbr]
          obtain ⟨q0, q1, q2⟩ := cells3 htb
          clear hbn hbr htb u1 u2 u3
          cases gX : inR X 0 (inp - 1) with
          | false =>
            have e1 : tapE inp ⟨X, Y, Z⟩ = 4 := by unfold tapE; rw [if_pos gX]
            obtain rfl : E = 4 := by
              rcases HC.out with ⟨_, q⟩ | ⟨q, _⟩
              · rw [← q, e1]
              · rw [e1] at q; cases q
            obtain rfl := HZR.out (by decide)
            clear e1
            go_wp2_with (go_at_call 60; refine (mamong_any _ _ _ _).mono ?_; rintro e w' ⟨rfl, rfl⟩)
            exact bodyPost_ret (res_net rfl _ (set3 ((HBN.out.block _ hR).trans HBX.out) _ _ _).1 _ rfl rfl) rfl (HZ.out _ _ (by decide) HBN.out)
          | true =>
            have hE3 : (inR Y 0 32768 && inR Z 1 16) = false → E = 3 := fun q => by
              have e1 : tapE inp ⟨X, Y, Z⟩ = 3 := by unfold tapE; rw [if_neg (by simp [gX]), if_pos q]
              rcases HC.out with ⟨_, q⟩ | ⟨q, _⟩
              · rw [← q, e1]
              · rw [e1] at q; cases q
            cases gY : inR Y 0 32768 with
            | false =>
              obtain rfl := hE3 (by rw [gY]; rfl)
              obtain rfl := HZR.out (by decide)
              clear hE3
              go_wp2_with (go_at_call 60; refine (mamong_any _ _ _ _).mono ?_; rintro e w' ⟨rfl, rfl⟩)
              exact bodyPost_ret (res_net rfl _ (set3 ((HBN.out.block _ hR).trans HBX.out) _ _ _).1 _ rfl rfl) rfl (HZ.out _ _ (by decide) HBN.out)
            | true =>
              cases gZ : inR Z 1 16 with
              | false =>
                obtain rfl := hE3 (by rw [gY, gZ]; rfl)
                obtain rfl := HZR.out (by decide)
                clear hE3
                go_wp2_with (go_at_call 60; refine (mamong_any _ _ _ _).mono ?_; rintro e w' ⟨rfl, rfl⟩)
                exact bodyPost_ret (res_net rfl _ (set3 ((HBN.out.block _ hR).trans HBX.out) _ _ _).1 _ rfl rfl) rfl (HZ.out _ _ (by decide) HBN.out)
              | true =>
                clear hE3
                have hnx : firstT inp (if inR th 1 1048576 = false then 3 else 0) (l.drop (k + 1)) = E := by
                  rcases HC.out with ⟨q, _⟩ | ⟨_, q⟩
                  · exact absurd (by unfold tapE; rw [if_neg (by simp [gX]), if_neg (by simp [gY, gZ])]) q
                  · exact q
                have HNX := Lib.hid hnx
                clear hnx
                go_wp2_with (go_at_call 60; refine (mamong_any _ _ _ _).mono ?_; rintro e w' ⟨rfl, rfl⟩)
                go_roundw
                case rel => exact ⟨k + 1, by omega, by go_num, HBN.out, HNX.out⟩
                case measure => simp [intOf]; omega
        · obtain rfl : k = n := by omega
          have hE0 : (if inR th 1 1048576 = false then (3 : Int) else 0) = E := by
            have := HF.out
            rw [List.drop_of_length_le (by rw [← HN.out]; exact Nat.le_refl _)] at this
            exact this
          clear hlt hk
          cases gT : inR th 1 1048576 with
          | false =>
            rw [if_pos gT] at hE0
            subst hE0
            obtain rfl := HZR.out (by decide)
            go_wp2_with (go_at_call 60; refine (mamong_any _ _ _ _).mono ?_; rintro e w' ⟨rfl, rfl⟩)
            exact bodyPost_ret (res_net rfl _ (set3 ((HB.out.block _ hR).trans HBX.out) _ _ _).1 _ rfl rfl) rfl (HZ.out _ _ (by decide) HB.out)
          | true =>
            rw [if_neg (by simp [gT])] at hE0
            subst hE0
            have hok := (firstT_all HE.out).1
            have hNe : N = cntN inp l th := by have := HNN.out; rw [if_pos rfl] at this; exact this.symm
            have HOK := Lib.hid hok
            have HNE := Lib.hid hNe
            clear hok hNe y0 y1 y2 yf0 yf1 yf2
            go_wp2_with (fail)
            go_at_call 60
            refine (mamong_any _ _ _ _).mono ?_
            rintro e w' ⟨rfl, rfl⟩
            go_wp2_with (fail)
            go_at_call 48
            refine (start_any inp _).mono ?_
            rintro e w' ⟨rfl, rfl⟩
            have hbd0 := bdAt_new wr inp
            have hbl2 : Below W1.heap.size W1 (wr.alloc (.cells #[.slice none 0 0, .int .i64 inp, .slice none 0 0] 122)) := HB.out.alloc hzw _
            obtain ⟨B, hBB⟩ : ∃ B, B = wr.heap.size := ⟨_, rfl⟩
            rw [← hBB] at hbd0 ⊢
            generalize wr.alloc (.cells #[.slice none 0 0, .int .i64 inp, .slice none 0 0] 122) = W2 at *
            have HBD0 := Lib.hid hbd0
            have HBL2 := Lib.hid hbl2
            have hB1 := lt_of_block hbd0.blk
            have hRB : W1.heap.size ≤ B := by omega
            clear hbd0 hbl2 hBB
            go_wp2_with (fail)
            go_at_call 72
            refine (adder_any _).mono ?_
            rintro e W3 ⟨rfl, hp3, hb3⟩
            have HP3 := Lib.hid hp3
            have HB3 := Lib.hid hb3
            clear hp3 hb3
            go_wp2_with (fail)
            go_at_call 49
            refine (neurons_one _ th B _ [] inp [] (.slice none 0 0) (.slice none 0 0) (by simp) _ (HBD0.out.below HB3.out) HP3.out ⟨by omega, by simp [Value.ownBlock], by simp [Value.ownBlock]⟩).mono ?_
            rintro e W4 ⟨rfl, v1, v2, hbd4, hfr4⟩
            have HBD4 := Lib.hid hbd4
            have HB4 := Lib.hid (HBL2.out.trans ((HB3.out.mono (show W1.heap.size ≤ W2.heap.size by omega)).trans (hfr4.bel.mono hRB)))
            clear hbd4 hfr4
            go_wp2
            go_loopw [59] (fun s wr => ∃ j : Nat, j ≤ k ∧ s = .int .i64 j ∧ Below W1.heap.size W1 wr ∧ ∃ v3 v4, BdAt wr B [⟨0, 0, 0, th, 1, 0, 0, 0⟩] inp ((l.take j).map tapS) v3 v4) (fun s _ => k - (intOf s).toNat)
            case atStart => exact ⟨0, Nat.zero_le _, rfl, HB4.out, v1, v2, by simpa using HBD4.out⟩
            case round =>
              obtain ⟨j, hj, rfl, hb, v3, v4, hbd⟩ := hrel
              have HB5 := Lib.hid hb
              have HBD := Lib.hid hbd
              clear hb hbd
              have hzw5 := HB5.out.size
              by_cases hlt : j < k
              · obtain ⟨x, hx⟩ : ∃ x, l[j]? = some x := ⟨_, List.getElem?_eq_getElem (by rw [← HN.out]; exact hlt)⟩
                have hi0 : (0 : Int) ≤ (j : Int) := Int.natCast_nonneg _
                have hi1 : (j : Int) < (k : Int) := by omega
                obtain ⟨b, off, rfl, hbl, hcl⟩ := (HT.out.below (HBL.out.trans (HB5.out.mono HBL.out.size))).at hx
                have htk := tapE_le (HOK.out x (List.mem_of_getElem? hx))
                have hsn : (l.take (j + 1)).map tapS = (l.take j).map tapS ++ [tapS x] := by rw [List.take_add_one, hx]; simp
                obtain ⟨X, Y, Z⟩ := x
                obtain ⟨u1, u2, u3⟩ := hcl
                simp only at u1 u2 u3
                have hXr := inR_true.1 htk.1
                simp only at hXr
                obtain ⟨SN, hSN⟩ : ∃ SN, SN = (l.take (j + 1)).map tapS := ⟨_, rfl⟩
                rw [← hSN] at hsn
                have HSN := Lib.hid hsn
                have HSE := Lib.hid hSN
                clear hSN
                have hlen : ((l.take j).map tapS).length ≤ 100000 := by simp; have := HN.out; omega
                have HLEN := Lib.hid hlen
                clear hx htk hsn hlen
                go_upto_region 20 with (fail)
                have HTB := Lib.hid (show TBox (wr.alloc (.cells #[.int .i64 X, .int .i64 Y, .int .i64 Z] 70)) wr.heap.size X Y Z from alloc_new_at _ _ _ rfl)
                have HB6 := Lib.hid (HB5.out.alloc hzw5 (.cells #[.int .i64 X, .int .i64 Y, .int .i64 Z] 70))
                have HBD6 := Lib.hid (HBD.out.below ((Below.refl _ _).alloc (Nat.le_refl wr.heap.size) (.cells #[.int .i64 X, .int .i64 Y, .int .i64 Z] 70)))
                have hsz6 : (wr.alloc (.cells #[.int .i64 X, .int .i64 Y, .int .i64 Z] 70)).heap.size = wr.heap.size + 1 := by simp
                have hBw : B < wr.heap.size := lt_of_block HBD.out.blk
                have htv3 : ∀ g, v3.ownBlock = some g → g < wr.heap.size := fun g hg => (HBD.out.rn.lt g hg).2
                have htv4 : ∀ g, v4.ownBlock = some g → g < wr.heap.size := fun g hg => (HBD.out.rs.lt g hg).2
                have HV3 := Lib.hid htv3
                have HV4 := Lib.hid htv4
                obtain ⟨tb, htb⟩ : ∃ tb, tb = wr.heap.size := ⟨_, rfl⟩
                rw [← htb] at HTB hsz6 hBw HV3 HV4 ⊢
                clear htv3 htv4
                generalize wr.alloc (.cells #[.int .i64 X, .int .i64 Y, .int .i64 Z] 70) = W6 at *
                clear HB5 HBD hzw5 htb u1 u2 u3
                refine wp_region_late (CsR 8 [] (cnPre W6) (cnM W1 B tb X Y Z [⟨0, 0, 0, th, 1, 0, 0, 0⟩] inp SN) noZ (cnK B tb X Y Z)) (by kernel_rfl) (by kernel_rfl) (by kernel_rfl) (by kernel_rfl) (CsR.init _ ⟨rfl, rfl, rfl, Nat.le_refl _, fun _ _ => rfl⟩) ?stp ?dn
                case dn =>
                  intro val W b' hI hb
                  obtain ⟨h8, hb7, _, v5, v6, hbd7⟩ := hI.mid (by simp) (by simp)
                  have kn : ∀ q, q < 8 → val q = cnK B tb X Y Z q := fun q hq => hI.known q hq (replT (by show q < 9; omega))
                  simp only [puts, h8, kn 0 (by decide), kn 1 (by decide), kn 2 (by decide), kn 3 (by decide), kn 4 (by decide), kn 5 (by decide), kn 6 (by decide), kn 7 (by decide), cnK] at hb
                  have HB7 := Lib.hid hb7
                  have HBD7 := Lib.hid hbd7
                  clear hI h8 hb7 hbd7 kn
                  subst hb
                  simp only [Act.put, List.setIfInBounds_toArray, List.set_cons_succ, List.set_cons_zero]
                  go_wp2
                  go_roundw
                  case rel => exact ⟨j + 1, by omega, by go_num, HB7.out, v5, v6, by rw [← HSE.out]; exact HBD7.out⟩
                  case measure => simp [intOf]; omega
                case stp =>
                  intro L val W i' o b' hs ho hlF hdd hI hh hlate
                  have hi' := (List.getElem?_eq_some_iff.1 ho).1
                  have hcs : i' = 0 ∨ i' = 1 ∨ i' = 2 ∨ i' = 3 ∨ i' = 4 ∨ i' = 5 ∨ i' = 6 ∨ i' = 7 ∨ i' = 8 := by simp at hi'; omega
                  have hLs : L.size = 9 := by simp at hs; omega
                  have HI := Lib.hid hI
                  have HLF := Lib.hid hlF
                  have HD := Lib.hid hdd
                  clear hi' hs hI hlF hdd
                  rcases hcs with rfl | rfl | rfl | rfl | rfl | rfl | rfl | rfl | rfl
                  · simp only [List.getElem?_cons_zero, Option.some.injEq] at ho
                    subst ho
                    have k10 := hh.kept 10 (by simp)
                    simp at k10
                    go_simp
                    exact ⟨_, rfl, HI.out.skip 0 (by decide) _ rfl⟩
                  · simp only [List.getElem?_cons_zero, List.getElem?_cons_succ, Option.some.injEq] at ho
                    subst ho
                    have k12 := hh.kept 12 (by simp)
                    simp at k12
                    go_simp
                    exact ⟨_, rfl, HI.out.skip 1 (by decide) _ rfl⟩
                  · simp only [List.getElem?_cons_zero, List.getElem?_cons_succ, Option.some.injEq] at ho
                    subst ho
                    have l1 : L.getD 1 false = true := HD.out ⟨1, .data⟩ (by simp) rfl
                    have g1 := hh.got 1 _ 64 rfl rfl l1 (by simp)
                    rw [HI.out.known 1 (by decide) l1] at g1
                    simp [cnK] at g1
                    have htbw : TBox W tb X Y Z := HI.out.all (fun W h => (Below.block h _ (lt_of_block HTB.out)).trans HTB.out) (fun _ W h => h.2.2.1) (fun _ W h => h.elim)
                    obtain ⟨q0, q1, q2⟩ := cells3 htbw
                    clear htbw
                    clear l1
                    go_simp
                    exact ⟨_, rfl, HI.out.skip 2 (by decide) _ rfl⟩
                  · simp only [List.getElem?_cons_zero, List.getElem?_cons_succ, Option.some.injEq] at ho
                    subst ho
                    have l2 : L.getD 2 false = true := HD.out ⟨2, .data⟩ (by simp) rfl
                    have g2 := hh.got 2 _ 65 rfl rfl l2 (by simp)
                    rw [HI.out.known 2 (by decide) l2] at g2
                    simp [cnK] at g2
                    clear l2
                    go_simp
                    go_at_call 53
                    refine (input_any X (by omega) _).mono ?_
                    rintro e w' ⟨rfl, rfl⟩
                    exact ⟨_, rfl, HI.out.skip 3 (by decide) _ rfl⟩
                  · simp only [List.getElem?_cons_zero, List.getElem?_cons_succ, Option.some.injEq] at ho
                    subst ho
                    have k12 := hh.kept 12 (by simp)
                    simp at k12
                    go_simp
                    exact ⟨_, rfl, HI.out.skip 4 (by decide) _ rfl⟩
                  · simp only [List.getElem?_cons_zero, List.getElem?_cons_succ, Option.some.injEq] at ho
                    subst ho
                    have l4 : L.getD 4 false = true := HD.out ⟨4, .data⟩ (by simp) rfl
                    have g4 := hh.got 4 _ 67 rfl rfl l4 (by simp)
                    rw [HI.out.known 4 (by decide) l4] at g4
                    simp [cnK] at g4
                    have htbw : TBox W tb X Y Z := HI.out.all (fun W h => (Below.block h _ (lt_of_block HTB.out)).trans HTB.out) (fun _ W h => h.2.2.1) (fun _ W h => h.elim)
                    obtain ⟨q0, q1, q2⟩ := cells3 htbw
                    clear htbw
                    clear l4
                    go_simp
                    exact ⟨_, rfl, HI.out.skip 5 (by decide) _ rfl⟩
                  · simp only [List.getElem?_cons_zero, List.getElem?_cons_succ, Option.some.injEq] at ho
                    subst ho
                    have k12 := hh.kept 12 (by simp)
                    simp at k12
                    go_simp
                    exact ⟨_, rfl, HI.out.skip 6 (by decide) _ rfl⟩
                  · simp only [List.getElem?_cons_zero, List.getElem?_cons_succ, Option.some.injEq] at ho
                    subst ho
                    have l6 : L.getD 6 false = true := HD.out ⟨6, .data⟩ (by simp) rfl
                    have g6 := hh.got 6 _ 69 rfl rfl l6 (by simp)
                    rw [HI.out.known 6 (by decide) l6] at g6
                    simp [cnK] at g6
                    have htbw : TBox W tb X Y Z := HI.out.all (fun W h => (Below.block h _ (lt_of_block HTB.out)).trans HTB.out) (fun _ W h => h.2.2.1) (fun _ W h => h.elim)
                    obtain ⟨q0, q1, q2⟩ := cells3 htbw
                    clear htbw
                    clear l6
                    go_simp
                    exact ⟨_, rfl, HI.out.skip 7 (by decide) _ rfl⟩
                  · simp only [List.getElem?_cons_zero, List.getElem?_cons_succ, Option.some.injEq] at ho
                    subst ho
                    have l0 : L.getD 0 false = true := HD.out ⟨0, .data⟩ (by simp) rfl
                    have g0 := hh.got 0 _ 63 rfl rfl l0 (by simp)
                    rw [HI.out.known 0 (by decide) l0] at g0
                    simp [cnK] at g0
                    have l3 : L.getD 3 false = true := HD.out ⟨3, .data⟩ (by simp) rfl
                    have g3 := hh.got 3 _ 66 rfl rfl l3 (by simp)
                    rw [HI.out.known 3 (by decide) l3] at g3
                    simp [cnK] at g3
                    have l5 : L.getD 5 false = true := HD.out ⟨5, .data⟩ (by simp) rfl
                    have g5 := hh.got 5 _ 68 rfl rfl l5 (by simp)
                    rw [HI.out.known 5 (by decide) l5] at g5
                    simp [cnK] at g5
                    have l7 : L.getD 7 false = true := HD.out ⟨7, .data⟩ (by simp) rfl
                    have g7 := hh.got 7 _ 70 rfl rfl l7 (by simp)
                    rw [HI.out.known 7 (by decide) l7] at g7
                    simp [cnK] at g7
                    clear l0 l3 l5 l7
                    have hpre := HI.out.pre HLF.out
                    go_simp
                    have HPRE := Lib.hid (show Below W6.heap.size W6 W from hpre)
                    clear hpre
                    have LD := Lib.hid HD
                    go_at_call 52
                    refine (synapse_any ⟨-1 - X, 0, Y, Z⟩ B _ inp _ v3 v4 HLEN.out _ (HBD6.out.below HPRE.out)).mono ?_
                    rintro e W8 ⟨rfl, v5, v6, hbd8, hfr8⟩
                    exact ⟨_, rfl, HI.out.call (by omega) HLF.out (fun i hi => by simp at hi) _ ⟨rfl, HB6.out.trans ((HPRE.out.mono (by have := HB6.out.size; omega)).trans (hfr8.bel.mono hRB)), (hfr8.oth tb (by have := HPRE.out.size; omega) (by omega) (fun e => by have := HV3.out _ e; omega) (fun e => by have := HV4.out _ e; omega)).trans ((HPRE.out.block _ (by omega)).trans HTB.out), v5, v6, by rw [HSN.out]; exact hbd8⟩⟩
              · obtain rfl : j = k := by omega
                clear hlt hj
                obtain ⟨SS, hSS⟩ : ∃ SS, SS = (l.take j).map tapS := ⟨_, rfl⟩
                have hbd := HBD.out
                rw [← hSS] at hbd
                have hSE : SS = l.map tapS := by rw [hSS, List.take_of_length_le (by rw [← HN.out]; exact Nat.le_refl _)]
                have HSE := Lib.hid hSE
                obtain ⟨a3, c3, rfl⟩ := own_slC hbd.rn
                obtain ⟨a4, c4, rfl⟩ := own_slC hbd.rs
                have HBE := Lib.hid hbd
                have hbb := hbd.blk
                obtain ⟨m, hm⟩ : ∃ m, m = SS.length := ⟨_, rfl⟩
                rw [← hm] at hbb
                have HM := Lib.hid hm
                simp only [List.length_cons, List.length_nil, Nat.zero_add] at hbb
                have hbr := (HB5.out.block _ hR).trans HBX.out
                obtain ⟨q0, q1, q2⟩ := cells3 hbb
                obtain ⟨y0, y1, y2⟩ := cells3 hbr
                have yf0 : wr.frozen? ⟨w.heap.size, 0, none⟩ = false := by simp [World.frozen?, hbr]
                have yf1 : wr.frozen? ⟨w.heap.size, 1, none⟩ = false := by simp [World.frozen?, hbr]
                have yf2 : wr.frozen? ⟨w.heap.size, 2, none⟩ = false := by simp [World.frozen?, hbr]
                have HBR := Lib.hid hbr
                clear hSS hbd hSE hbb hm hbr HBD
                go_wp2
                refine bodyPost_ret (res_net rfl _ (set3 HBR.out _ _ _).1 _ rfl rfl) rfl ⟨_, rfl, ?_, (set3 HBR.out _ _ _).2.2 _ _ (Nat.le_refl _) (HBL.out.trans (HB5.out.mono HBL.out.size))⟩
                have hne := (set3 HBR.out (.slice a3 1 c3) (.int .i64 inp) (.slice a4 m c4)).2.1
                have hfin : BdAt (((wr.setCell ⟨w.heap.size, 0, none⟩ (.slice a3 1 c3)).setCell ⟨w.heap.size, 1, none⟩ (.int .i64 inp)).setCell ⟨w.heap.size, 2, none⟩ (.slice a4 m c4)) B [⟨0, 0, 0, th, 1, 0, 0, 0⟩] inp SS (.slice a3 1 c3) (.slice a4 m c4) := by
                  have h := HBE.out
                  rw [← HM.out] at h
                  exact ⟨(hne B (by omega)).trans h.blk, ownsRow_of_block h.rn fun g hg => hne g (by have := (h.rn.lt g hg).1; omega), by rw [← HM.out]; have h2 := h.rs; rw [← HM.out] at h2; exact ownsRow_of_block h2 fun g hg => hne g (by have := (h2.lt g hg).1; omega), h.ne⟩
                have h1 := hfin.net
                rw [HNE.out]
                unfold cntN
                rw [← HSE.out]
                exact h1
end Go.Proofs.Ytmgdildbngbibaa
