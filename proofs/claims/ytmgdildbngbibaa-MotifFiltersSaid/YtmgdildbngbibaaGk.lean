/- checkMarks and motif.Pattern. Over this seat's program. (mk_Gk.py wrote this.) -/
import Derived.Test.YtmgdildbngbibaaGj
import Derived.Test.YtmgdildbngbibaaGh
namespace Go.Proofs.Ytmgdildbngbibaa
set_option linter.unusedVariables false
open Go.RowKit Go.Shelf

def mrkE (inp : Int) (x : Mrk) : Int := if inR x.ip 0 (inp - 1) = false then 4 else if inR x.of 0 15 = false then 3 else 0
def mkF (inp : Int) (l : List Mrk) (i : Nat) : Int := match l[i]? with
  | some x => if mrkE inp x ≠ 0 then mrkE inp x else if hasM l i x.ip x.of = true then 5 else 0
  | none => 0
/-- The first of f i, f (i + 1), .. that is not 0, of so many, or else E. -/
def firstF (f : Nat → Int) (E : Int) : Nat → Nat → Int
  | 0, _ => E
  | m + 1, i => if f i ≠ 0 then f i else firstF f E m (i + 1)
def chkM (inp : Int) (l : List Mrk) (E : Int) : Int := if 64 < l.length then 9 else if l.length = 0 then 2 else firstF (mkF inp l) E l.length 0
def patE (inp : Int) (l : List Mrk) (miss : Int) : Int := if inR inp 1 256 = false then 3 else chkM inp l (if inR miss 0 ((l.length : Int) - 1) = false then 3 else 0)
def mrkS (x : Mrk) : Syn := ⟨-1 - x.ip, 0, 1, 16 - x.of⟩
def patN (inp : Int) (l : List Mrk) (miss : Int) : NetM := ⟨[⟨2, 256, 0, (l.length : Int) - miss, 0, 0, 0, 0⟩], inp, l.map mrkS⟩
def patR (inp : Int) (l : List Mrk) (miss : Int) : NetM := if patE inp l miss = 0 then patN inp l miss else netZ
theorem firstF_at {f : Nat → Int} {E0 E : Int} {n k : Nat} (hk : k < n) (h : firstF f E0 (n - k) k = E) : (f k ≠ 0 ∧ f k = E) ∨ (f k = 0 ∧ firstF f E0 (n - (k + 1)) (k + 1) = E) := by
  rw [show n - k = (n - (k + 1)) + 1 by omega] at h
  simp only [firstF] at h
  by_cases h1 : f k ≠ 0
  · rw [if_pos h1] at h; exact .inl ⟨h1, h⟩
  · rw [if_neg h1] at h; exact .inr ⟨Decidable.not_not.1 h1, h⟩
theorem firstF_end {f : Nat → Int} {E0 E : Int} {n : Nat} (h : firstF f E0 (n - n) n = E) : E = E0 := by
  rw [Nat.sub_self] at h; exact h.symm
theorem firstF_all {f : Nat → Int} {E0 : Int} (h0 : E0 = 0 ∨ True) : ∀ {m i : Nat}, firstF f E0 m i = 0 → (∀ j, i ≤ j → j < i + m → f j = 0) ∧ E0 = 0
  | 0, i, h => ⟨fun j h1 h2 => by omega, h⟩
  | m + 1, i, h => by
    simp only [firstF] at h
    by_cases h1 : f i ≠ 0
    · rw [if_pos h1] at h; exact absurd h h1
    · rw [if_neg h1] at h
      obtain ⟨h2, h3⟩ := firstF_all h0 h
      refine ⟨fun j h4 h5 => ?_, h3⟩
      by_cases e : j = i
      · subst e; exact Decidable.not_not.1 h1
      · exact h2 j (by omega) (by omega)
/-- The error of marks alone (E = 0), and that with what comes behind it. -/
theorem firstF_or {f : Nat → Int} {E : Int} : ∀ {m i : Nat}, firstF f E m i = if firstF f 0 m i ≠ 0 then firstF f 0 m i else E
  | 0, i => by simp [firstF]
  | m + 1, i => by
    by_cases h1 : f i ≠ 0
    · have e1 : firstF f 0 (m + 1) i = f i := by simp only [firstF]; rw [if_pos h1]
      have e2 : firstF f E (m + 1) i = f i := by simp only [firstF]; rw [if_pos h1]
      rw [e1, e2, if_pos h1]
    · have e1 : firstF f 0 (m + 1) i = firstF f 0 m (i + 1) := by simp only [firstF]; rw [if_neg h1]
      have e2 : firstF f E (m + 1) i = firstF f E m (i + 1) := by simp only [firstF]; rw [if_neg h1]
      rw [e1, e2]; exact firstF_or
theorem chkM_or (inp : Int) (l : List Mrk) (E : Int) : chkM inp l E = if chkM inp l 0 ≠ 0 then chkM inp l 0 else E := by
  unfold chkM
  by_cases h1 : 64 < l.length
  · simp [h1]
  · rw [if_neg h1, if_neg h1]
    by_cases h2 : l.length = 0
    · simp [h2]
    · rw [if_neg h2, if_neg h2]; exact firstF_or
structure PatOk (inp : Int) (l : List Mrk) : Prop where
  len : 1 ≤ l.length ∧ l.length ≤ 64
  ok : ∀ x ∈ l, inR x.ip 0 (inp - 1) = true ∧ inR x.of 0 15 = true
theorem chkM_ok {inp : Int} {l : List Mrk} {E : Int} (h : chkM inp l E = 0) : PatOk inp l ∧ E = 0 := by
  unfold chkM at h
  by_cases h1 : 64 < l.length
  · rw [if_pos h1] at h; cases h
  · rw [if_neg h1] at h
    by_cases h2 : l.length = 0
    · rw [if_pos h2] at h; cases h
    · rw [if_neg h2] at h
      obtain ⟨h3, h4⟩ := firstF_all (.inr trivial) h
      refine ⟨⟨by omega, fun x hx => ?_⟩, h4⟩
      obtain ⟨j, hj⟩ := List.getElem?_of_mem hx
      have hjl := (List.getElem?_eq_some_iff.1 hj).1
      have h5 := h3 j (by omega) (by omega)
      unfold mkF at h5
      rw [hj] at h5
      simp only at h5
      by_cases h6 : mrkE inp x ≠ 0
      · rw [if_pos h6] at h5; exact absurd h5 h6
      · rw [Decidable.not_not] at h6
        unfold mrkE at h6
        cases h7 : inR x.ip 0 (inp - 1) <;> cases h8 : inR x.of 0 15 <;> simp_all
set_option maxRecDepth 100000 in
set_option maxHeartbeats 2000000 in
theorem mcheck_any (inp : Int) (hinp : 1 ≤ inp ∧ inp ≤ 256) (l : List Mrk) (a : Option Addr) (cap : Nat) (hl : l.length ≤ 100000) (hwf : ∀ s ∈ l, (Lit.int .i64 s.ip).wf = true ∧ (Lit.int .i64 s.of).wf = true) (w : World) (hM : MrksAt w (.slice a l.length cap) l) :
    Calls Try.prog 74 #[.int .i64 inp, .slice a l.length cap] w fun e w' => e = .returned (.int .i64 (chkM inp l 0)) ∧ Below w.heap.size w w' := by
  have HRP := Lib.hid (repeated_any l a cap hl hwf w hM)
  obtain ⟨n, hn⟩ : ∃ n, n = l.length := ⟨_, rfl⟩
  obtain ⟨E, hE⟩ : ∃ E, chkM inp l 0 = E := ⟨_, rfl⟩
  rw [hE]
  rw [← hn] at hl hM HRP ⊢
  have HM := Lib.hid hM
  have HN := Lib.hid hn
  unfold chkM at hE
  rw [← hn] at hE
  clear hM hwf hn
  by_cases c1 : 64 < n
  · have g1 : ((64 : Int) < (n : Int)) = True := by simp; omega
    rw [if_pos c1] at hE
    subst hE
    go_enter Try.func74, Try.ntmps74
    go_wp2
    go_ret
    exact ⟨rfl, Below.refl _ _⟩
  · have g1 : ((64 : Int) < (n : Int)) = False := by simp; omega
    rw [if_neg c1] at hE
    by_cases c2 : n = 0
    · subst c2
      rw [if_pos rfl] at hE
      subst hE
      clear g1
      go_enter Try.func74, Try.ntmps74
      go_wp2
      go_ret
      exact ⟨rfl, Below.refl _ _⟩
    · have g2 : ((n : Int) == 0) = false := by simp; omega
      rw [if_neg c2] at hE
      have HE := Lib.hid hE
      clear hE
      go_enter Try.func74, Try.ntmps74
      go_wp2_with (fail)
      go_at_call 91
      refine HRP.out.mono ?_
      rintro e w1 ⟨r, rfl, hrp, hb1⟩
      have HRA := Lib.hid hrp
      have HB1 := Lib.hid hb1
      have hr : r ≤ n := by have := hrp.1; have := HN.out; omega
      clear hrp hb1 HRP g1 g2
      go_wp2
      go_loopw [18] (fun s wr => ∃ k : Nat, k ≤ n ∧ s = .int .i64 k ∧ Below w.heap.size w wr ∧ firstF (mkF inp l) 0 (n - k) k = E ∧ k ≤ r) (fun s _ => n - (intOf s).toNat)
      case atStart => exact ⟨0, Nat.zero_le _, rfl, HB1.out, HE.out, Nat.zero_le _⟩
      case round =>
        obtain ⟨k, hk, rfl, hb, hf, hkr⟩ := hrel
        have HB := Lib.hid hb
        have HF := Lib.hid hf
        clear hb hf
        by_cases hlt : k < n
        · obtain ⟨x, hx⟩ : ∃ x, l[k]? = some x := ⟨_, List.getElem?_eq_getElem (by rw [← HN.out]; exact hlt)⟩
          have hi0 : (0 : Int) ≤ (k : Int) := Int.natCast_nonneg _
          have hi1 : (k : Int) < (n : Int) := by omega
          have hc := firstF_at hlt HF.out
          have hmk : mkF inp l k = if mrkE inp x ≠ 0 then mrkE inp x else if hasM l k x.ip x.of = true then 5 else 0 := by unfold mkF; rw [hx]
          rw [hmk] at hc
          obtain ⟨b, off, rfl, hbl, hcl⟩ := (HM.out.below HB.out).at hx
          obtain ⟨X, Y⟩ := x
          obtain ⟨u1, u2⟩ := hcl
          simp only at u1 u2 hc
          have HC := Lib.hid hc
          have HX := Lib.hid hx
          clear hx hc hmk
          go_upto_region 9 with (fail)
          have hbn := HB.out.alloc HB.out.size (.cells #[.int .i64 X, .int .i64 Y] 76)
          have htb : KBox (wr.alloc (.cells #[.int .i64 X, .int .i64 Y] 76)) wr.heap.size X Y := alloc_new_at _ _ _ rfl
          generalize wr.alloc (.cells #[.int .i64 X, .int .i64 Y] 76) = W5 at *
          have HBN := Lib.hid hbn
          obtain ⟨q0, q1, _, _⟩ := cells2 htb
          clear hbn htb u1 u2
          cases gX : inR X 0 (inp - 1) with
          | false =>
            have e1 : mrkE inp ⟨X, Y⟩ = 4 := by unfold mrkE; rw [if_pos gX]
            obtain rfl : E = 4 := by
              have h := HC.out
              rw [e1] at h
              rcases h with ⟨_, q⟩ | ⟨q, _⟩ <;> simp at q
              exact q.symm
            clear e1
            go_wp2_with (go_at_call 60; refine (mamong_any _ _ _ _).mono ?_; rintro e w' ⟨rfl, rfl⟩)
            go_ret
            exact ⟨rfl, HBN.out⟩
          | true =>
            cases gY : inR Y 0 15 with
            | false =>
              have e1 : mrkE inp ⟨X, Y⟩ = 3 := by unfold mrkE; rw [if_neg (by simp [gX]), if_pos gY]
              obtain rfl : E = 3 := by
                have h := HC.out
                rw [e1] at h
                rcases h with ⟨_, q⟩ | ⟨q, _⟩ <;> simp at q
                exact q.symm
              clear e1
              go_wp2_with (go_at_call 60; refine (mamong_any _ _ _ _).mono ?_; rintro e w' ⟨rfl, rfl⟩)
              go_ret
              exact ⟨rfl, HBN.out⟩
            | true =>
              have e1 : mrkE inp ⟨X, Y⟩ = 0 := by unfold mrkE; rw [if_neg (by simp [gX]), if_neg (by simp [gY])]
              have h := HC.out
              rw [e1] at h
              by_cases hkr2 : k = r
              · subst hkr2
                have hd : hasM l k X Y = true := (hasM_dup HX.out).2 (HRA.out.2.2 (by rw [← HN.out]; exact hlt))
                rw [hd] at h
                obtain rfl : E = 5 := by
                  rcases h with ⟨_, q⟩ | ⟨q, _⟩ <;> simp at q
                  exact q.symm
                clear h hd e1
                go_wp2_with (go_at_call 60; refine (mamong_any _ _ _ _).mono ?_; rintro e w' ⟨rfl, rfl⟩)
                go_ret
                exact ⟨rfl, HBN.out⟩
              · have hd : hasM l k X Y = false := by
                  cases e : hasM l k X Y with
                  | false => rfl
                  | true => exact absurd ((hasM_dup HX.out).1 e) (HRA.out.2.1 k (by omega))
                rw [hd] at h
                have hnx : firstF (mkF inp l) 0 (n - (k + 1)) (k + 1) = E := by
                  rcases h with ⟨q, _⟩ | ⟨_, q⟩
                  · simp at q
                  · exact q
                have HNX := Lib.hid hnx
                have gk : ((k : Int) == (r : Int)) = false := by simp; omega
                clear h hd e1 hnx
                go_wp2_with (go_at_call 60; refine (mamong_any _ _ _ _).mono ?_; rintro e w' ⟨rfl, rfl⟩)
                go_roundw
                case rel => exact ⟨k + 1, by omega, by go_num, HBN.out, HNX.out, by omega⟩
                case measure => simp [intOf]; omega
        · obtain rfl : k = n := by omega
          have hE0 := firstF_end HF.out
          subst hE0
          clear hlt hk
          go_wp2
          go_ret
          exact ⟨rfl, HB.out⟩
def ptK (B : Nat) (tb : Nat) (X Y : Int) : Nat → Value
  | 0 => .pointer (some ⟨B, 0, none⟩)
  | 1 => .pointer (some ⟨tb, 0, none⟩)
  | 2 => .int .i64 X
  | 3 => .int .i64 (-1 - X)
  | 4 => .pointer (some ⟨tb, 1, none⟩)
  | 5 => .int .i64 Y
  | 6 => .int .i64 (16 - Y)
  | _ => undef
def ptM (W1 : World) (B tb : Nat) (X Y : Int) (ps : List Prm) (inp : Int) (SN : List Syn) (v : Value) (W : World) : Prop := v = .tuple #[] ∧ Below W1.heap.size W1 W ∧ KBox W tb X Y ∧ ∃ v5 v6, BdAt W B ps inp SN v5 v6
set_option maxRecDepth 100000 in
set_option maxHeartbeats 4000000 in
theorem pattern_any (inp : Int) (l : List Mrk) (miss : Int) (hms : (Lit.int .i64 miss).wf = true) (a : Option Addr) (cap : Nat) (hl : l.length ≤ 100000) (hwf : ∀ s ∈ l, (Lit.int .i64 s.ip).wf = true ∧ (Lit.int .i64 s.of).wf = true) (w : World) (hT : MrksAt w (.slice a l.length cap) l) :
    Calls Try.prog 32 #[.int .i64 inp, .slice a l.length cap, .int .i64 miss] w (NetGot (patE inp l miss) (patR inp l miss) w) := by
  have HCK := Lib.hid (fun h W (hb : Below w.heap.size w W) => mcheck_any inp h l a cap hl hwf W (hT.below hb))
  obtain ⟨n, hn⟩ : ∃ n, n = l.length := ⟨_, rfl⟩
  obtain ⟨E, hE⟩ : ∃ E, patE inp l miss = E := ⟨_, rfl⟩
  obtain ⟨N, hN⟩ : ∃ N, patR inp l miss = N := ⟨_, rfl⟩
  rw [hE, hN]
  unfold patR at hN
  rw [hE] at hN
  rw [← hn] at hl hT HCK ⊢
  have HT := Lib.hid hT
  have HN := Lib.hid hn
  have HNN := Lib.hid hN
  clear hT hN hwf
  have hzr : E ≠ 0 → N = netZ := fun h => by have := HNN.out; rw [if_neg h] at this; exact this.symm
  have HZR := Lib.hid hzr
  clear hzr
  unfold patE at hE
  rw [chkM_or, ← hn] at hE
  clear hn
  go_enter Try.func32, Try.ntmps32
  go_upto_region 1 with (fail)
  have hbx := (alloc_new_at w (.cells #[.slice none 0 0, .int .i64 0, .slice none 0 0] 32) w.heap.size rfl)
  have hbl : Below w.heap.size w (w.alloc (.cells #[.slice none 0 0, .int .i64 0, .slice none 0 0] 32)) := (Below.refl _ _).alloc (Nat.le_refl _) _
  generalize w.alloc (.cells #[.slice none 0 0, .int .i64 0, .slice none 0 0] 32) = W1 at *
  have hR := lt_of_block hbx
  have HBX := Lib.hid hbx
  have HBL := Lib.hid hbl
  have zend : ∀ (E : Int) (W : World), E ≠ 0 → Below W1.heap.size W1 W → NetGot E netZ w (.returned (.tuple #[.agg #[.slice none 0 0, .int .i64 0, .slice none 0 0], .int .i64 E])) (((W.setCell ⟨w.heap.size, 0, none⟩ (.slice none 0 0)).setCell ⟨w.heap.size, 1, none⟩ (.int .i64 0)).setCell ⟨w.heap.size, 2, none⟩ (.slice none 0 0)) := fun E W _ hb =>
    ⟨_, rfl, netZ_at _, (set3 ((hb.block _ hR).trans HBX.out) _ _ _).2.2 _ _ (Nat.le_refl _) (HBL.out.trans (hb.mono HBL.out.size))⟩
  have HZ := Lib.hid zend
  clear hbx hbl zend
  obtain ⟨y0, y1, y2⟩ := cells3 HBX.out
  have yf0 : W1.frozen? ⟨w.heap.size, 0, none⟩ = false := by simp [World.frozen?, HBX.out]
  have yf1 : W1.frozen? ⟨w.heap.size, 1, none⟩ = false := by simp [World.frozen?, HBX.out]
  have yf2 : W1.frozen? ⟨w.heap.size, 2, none⟩ = false := by simp [World.frozen?, HBX.out]
  cases c1 : inR inp 1 256 with
  | false =>
    rw [if_pos c1] at hE
    subst hE
    obtain rfl := HZR.out (by decide)
    go_wp2_with (go_at_call 60; refine (mamong_any _ _ _ _).mono ?_; rintro e w' ⟨rfl, rfl⟩)
    exact bodyPost_ret (res_net rfl _ (set3 HBX.out _ _ _).1 _ rfl rfl) rfl (HZ.out _ _ (by decide) (Below.refl _ _))
  | true =>
    rw [if_neg (by rw [c1]; decide)] at hE
    have hinp := inR_true.1 c1
    obtain ⟨C, hC⟩ : ∃ C, C = chkM inp l 0 := ⟨_, rfl⟩
    have hck := HCK.out hinp
    rw [← hC] at hE hck
    have HCC := Lib.hid hC
    have HK := Lib.hid hck
    clear hC hck HCK
    by_cases c2 : C ≠ 0
    · have g2 : (C != 0) = true := by simp [c2]
      rw [if_pos c2] at hE
      subst hE
      obtain rfl := HZR.out c2
      go_wp2_with (fail)
      go_at_call 60
      refine (mamong_any _ _ _ _).mono ?_
      rintro e w' ⟨rfl, rfl⟩
      go_wp2_with (fail)
      go_at_call 74
      refine (HK.out _ HBL.out).mono ?_
      rintro e W2 ⟨rfl, hb2⟩
      have HB2 := Lib.hid hb2
      have hbr := (hb2.block _ hR).trans HBX.out
      clear y0 y1 y2 yf0 yf1 yf2 hb2
      obtain ⟨y0, y1, y2⟩ := cells3 hbr
      have yf0 : W2.frozen? ⟨w.heap.size, 0, none⟩ = false := by simp [World.frozen?, hbr]
      have yf1 : W2.frozen? ⟨w.heap.size, 1, none⟩ = false := by simp [World.frozen?, hbr]
      have yf2 : W2.frozen? ⟨w.heap.size, 2, none⟩ = false := by simp [World.frozen?, hbr]
      have HBR := Lib.hid hbr
      clear hbr
      go_wp2
      exact bodyPost_ret (res_net rfl _ (set3 HBR.out _ _ _).1 _ rfl rfl) rfl (HZ.out _ _ c2 HB2.out)
    · obtain rfl : C = 0 := Decidable.not_not.1 c2
      have hpo := (chkM_ok HCC.out.symm).1
      have hlen := hpo.len
      rw [← HN.out] at hlen
      have HPO := Lib.hid hpo.ok
      rw [if_neg (by simp)] at hE
      clear hpo c2
      go_wp2_with (fail)
      go_at_call 60
      refine (mamong_any _ _ _ _).mono ?_
      rintro e w' ⟨rfl, rfl⟩
      go_wp2_with (fail)
      go_at_call 74
      refine (HK.out _ HBL.out).mono ?_
      rintro e W2 ⟨rfl, hb2⟩
      have HB2 := Lib.hid hb2
      have hbr := (hb2.block _ hR).trans HBX.out
      clear y0 y1 y2 yf0 yf1 yf2
      have hzw := hb2.size
      obtain ⟨y0, y1, y2⟩ := cells3 hbr
      have yf0 : W2.frozen? ⟨w.heap.size, 0, none⟩ = false := by simp [World.frozen?, hbr]
      have yf1 : W2.frozen? ⟨w.heap.size, 1, none⟩ = false := by simp [World.frozen?, hbr]
      have yf2 : W2.frozen? ⟨w.heap.size, 2, none⟩ = false := by simp [World.frozen?, hbr]
      have HBR := Lib.hid hbr
      clear hbr hb2
      cases gM : inR miss 0 ((n : Int) - 1) with
      | false =>
        rw [if_pos gM] at hE
        subst hE
        obtain rfl := HZR.out (by decide)
        go_wp2_with (go_at_call 60; refine (mamong_any _ _ _ _).mono ?_; rintro e w' ⟨rfl, rfl⟩)
        exact bodyPost_ret (res_net rfl _ (set3 HBR.out _ _ _).1 _ rfl rfl) rfl (HZ.out _ _ (by decide) HB2.out)
      | true =>
        rw [if_neg (by simp [gM])] at hE
        subst hE
        have hmr := inR_true.1 gM
        have hNe : N = patN inp l miss := by have := HNN.out; rw [if_pos rfl] at this; exact this.symm
        have HNE := Lib.hid hNe
        clear hNe y0 y1 y2 yf0 yf1 yf2
        go_wp2_with (fail)
        go_at_call 60
        refine (mamong_any _ _ _ _).mono ?_
        rintro e w' ⟨rfl, rfl⟩
        go_wp2_with (fail)
        go_at_call 48
        refine (start_any inp _).mono ?_
        rintro e w' ⟨rfl, rfl⟩
        have hbd0 := bdAt_new W2 inp
        have hbl2 : Below W1.heap.size W1 (W2.alloc (.cells #[.slice none 0 0, .int .i64 inp, .slice none 0 0] 122)) := HB2.out.alloc hzw _
        obtain ⟨B, hBB⟩ : ∃ B, B = W2.heap.size := ⟨_, rfl⟩
        rw [← hBB] at hbd0 ⊢
        generalize W2.alloc (.cells #[.slice none 0 0, .int .i64 inp, .slice none 0 0] 122) = W3 at *
        have HBD0 := Lib.hid hbd0
        have HBL2 := Lib.hid hbl2
        have hB1 := lt_of_block hbd0.blk
        have hRB : W1.heap.size ≤ B := by omega
        clear hbd0 hbl2 hBB
        go_wp2_with (fail)
        go_at_call 50
        refine (gate_any _).mono ?_
        rintro e W4 ⟨rfl, hp4, hb4⟩
        have HP4 := Lib.hid hp4
        have HB4 := Lib.hid hb4
        obtain ⟨th, hth⟩ : ∃ th : Int, th = (n : Int) - miss := ⟨_, rfl⟩
        have HTH := Lib.hid hth
        clear hp4 hb4
        have hwt : wrap64 ((n : Int) - miss) = th := by rw [hth]; unfold wrap64; omega
        clear hth
        go_wp2_with (fail)
        go_at_call 49
        rw [show ((n : Int) - miss) = th from HTH.out.symm]
        refine (neurons_one _ th B _ [] inp [] (.slice none 0 0) (.slice none 0 0) (by simp) _ (HBD0.out.below HB4.out) HP4.out ⟨by omega, by simp [Value.ownBlock], by simp [Value.ownBlock]⟩).mono ?_
        rintro e W5 ⟨rfl, v1, v2, hbd5, hfr5⟩
        have HBD5 := Lib.hid hbd5
        have HB5 := Lib.hid (HBL2.out.trans ((HB4.out.mono (show W1.heap.size ≤ W3.heap.size by omega)).trans (hfr5.bel.mono hRB)))
        clear hbd5 hfr5 hwt
        go_wp2
        go_loopw [42] (fun s wr => ∃ j : Nat, j ≤ n ∧ s = .int .i64 j ∧ Below W1.heap.size W1 wr ∧ ∃ v3 v4, BdAt wr B [⟨2, 256, 0, th, 0, 0, 0, 0⟩] inp ((l.take j).map mrkS) v3 v4) (fun s _ => n - (intOf s).toNat)
        case atStart => exact ⟨0, Nat.zero_le _, rfl, HB5.out, v1, v2, by simpa using HBD5.out⟩
        case round =>
          obtain ⟨j, hj, rfl, hb, v3, v4, hbd⟩ := hrel
          have HB5 := Lib.hid hb
          have HBD := Lib.hid hbd
          clear hb hbd
          have hzw5 := HB5.out.size
          by_cases hlt : j < n
          · obtain ⟨x, hx⟩ : ∃ x, l[j]? = some x := ⟨_, List.getElem?_eq_getElem (by rw [← HN.out]; exact hlt)⟩
            have hi0 : (0 : Int) ≤ (j : Int) := Int.natCast_nonneg _
            have hi1 : (j : Int) < (n : Int) := by omega
            obtain ⟨b, off, rfl, hbl, hcl⟩ := (HT.out.below (HBL.out.trans (HB5.out.mono HBL.out.size))).at hx
            have htk := HPO.out x (List.mem_of_getElem? hx)
            have hsn : (l.take (j + 1)).map mrkS = (l.take j).map mrkS ++ [mrkS x] := by rw [List.take_add_one, hx]; simp
            obtain ⟨X, Y⟩ := x
            obtain ⟨u1, u2⟩ := hcl
            simp only at u1 u2
            have hXr := inR_true.1 htk.1
            have hYr := inR_true.1 htk.2
            simp only at hXr hYr
            obtain ⟨SN, hSN⟩ : ∃ SN, SN = (l.take (j + 1)).map mrkS := ⟨_, rfl⟩
            rw [← hSN] at hsn
            have HSN := Lib.hid hsn
            have HSE := Lib.hid hSN
            clear hSN
            have hlen : ((l.take j).map mrkS).length ≤ 100000 := by simp; have := HN.out; omega
            have HLEN := Lib.hid hlen
            clear hx htk hsn hlen
            go_upto_region 13 with (fail)
            have HTB := Lib.hid (show KBox (wr.alloc (.cells #[.int .i64 X, .int .i64 Y] 76)) wr.heap.size X Y from alloc_new_at _ _ _ rfl)
            have HB6 := Lib.hid (HB5.out.alloc hzw5 (.cells #[.int .i64 X, .int .i64 Y] 76))
            have HBD6 := Lib.hid (HBD.out.below ((Below.refl _ _).alloc (Nat.le_refl wr.heap.size) (.cells #[.int .i64 X, .int .i64 Y] 76)))
            have hsz6 : (wr.alloc (.cells #[.int .i64 X, .int .i64 Y] 76)).heap.size = wr.heap.size + 1 := by simp
            have hBw : B < wr.heap.size := lt_of_block HBD.out.blk
            have htv3 : ∀ g, v3.ownBlock = some g → g < wr.heap.size := fun g hg => (HBD.out.rn.lt g hg).2
            have htv4 : ∀ g, v4.ownBlock = some g → g < wr.heap.size := fun g hg => (HBD.out.rs.lt g hg).2
            have HV3 := Lib.hid htv3
            have HV4 := Lib.hid htv4
            obtain ⟨tb, htb⟩ : ∃ tb, tb = wr.heap.size := ⟨_, rfl⟩
            rw [← htb] at HTB hsz6 hBw HV3 HV4 ⊢
            clear htv3 htv4
            generalize wr.alloc (.cells #[.int .i64 X, .int .i64 Y] 76) = W6 at *
            clear HB5 HBD hzw5 htb u1 u2
            refine wp_region_late (CsR 7 [] (cnPre W6) (ptM W1 B tb X Y [⟨2, 256, 0, th, 0, 0, 0, 0⟩] inp SN) noZ (ptK B tb X Y)) (by kernel_rfl) (by kernel_rfl) (by kernel_rfl) (by kernel_rfl) (CsR.init _ ⟨rfl, rfl, rfl, Nat.le_refl _, fun _ _ => rfl⟩) ?stp ?dn
            case dn =>
              intro val W b' hI hb
              obtain ⟨h8, hb7, _, v5, v6, hbd7⟩ := hI.mid (by simp) (by simp)
              have kn : ∀ q, q < 7 → val q = ptK B tb X Y q := fun q hq => hI.known q hq (replT (by show q < 8; omega))
              simp only [puts, h8, kn 0 (by decide), kn 1 (by decide), kn 2 (by decide), kn 3 (by decide), kn 4 (by decide), kn 5 (by decide), kn 6 (by decide), ptK] at hb
              have HB7 := Lib.hid hb7
              have HBD7 := Lib.hid hbd7
              clear hI h8 hb7 hbd7 kn
              subst hb
              simp only [Act.put, List.setIfInBounds_toArray, List.set_cons_succ, List.set_cons_zero]
              go_wp2
              go_roundw
              case rel => exact ⟨j + 1, by omega, by go_num, HB7.out, v5, v6, by rw [← HSE.out]; exact HBD7.out⟩
              case measure => simp [intOf]; omega
            case stp =>
              intro L val W i' o b' hs ho hlF hdd hI hh hlate
              have hi' := (List.getElem?_eq_some_iff.1 ho).1
              have hcs : i' = 0 ∨ i' = 1 ∨ i' = 2 ∨ i' = 3 ∨ i' = 4 ∨ i' = 5 ∨ i' = 6 ∨ i' = 7 := by simp at hi'; omega
              have hLs : L.size = 8 := by simp at hs; omega
              have HI := Lib.hid hI
              have HLF := Lib.hid hlF
              have HD := Lib.hid hdd
              clear hi' hs hI hlF hdd
              rcases hcs with rfl | rfl | rfl | rfl | rfl | rfl | rfl | rfl
              · simp only [List.getElem?_cons_zero, Option.some.injEq] at ho
                subst ho
                have k9 := hh.kept 9 (by simp)
                simp at k9
                go_simp
                exact ⟨_, rfl, HI.out.skip 0 (by decide) _ rfl⟩
              · simp only [List.getElem?_cons_zero, List.getElem?_cons_succ, Option.some.injEq] at ho
                subst ho
                have k11 := hh.kept 11 (by simp)
                simp at k11
                go_simp
                exact ⟨_, rfl, HI.out.skip 1 (by decide) _ rfl⟩
              · simp only [List.getElem?_cons_zero, List.getElem?_cons_succ, Option.some.injEq] at ho
                subst ho
                have l1 : L.getD 1 false = true := HD.out ⟨1, .data⟩ (by simp) rfl
                have g1 := hh.got 1 _ 47 rfl rfl l1 (by simp)
                rw [HI.out.known 1 (by decide) l1] at g1
                simp [ptK] at g1
                have htbw : KBox W tb X Y := HI.out.all (fun W h => (Below.block h _ (lt_of_block HTB.out)).trans HTB.out) (fun _ W h => h.2.2.1) (fun _ W h => h.elim)
                obtain ⟨q0, q1, _, _⟩ := cells2 htbw
                clear htbw
                clear l1
                go_simp
                exact ⟨_, rfl, HI.out.skip 2 (by decide) _ rfl⟩
              · simp only [List.getElem?_cons_zero, List.getElem?_cons_succ, Option.some.injEq] at ho
                subst ho
                have l2 : L.getD 2 false = true := HD.out ⟨2, .data⟩ (by simp) rfl
                have g2 := hh.got 2 _ 48 rfl rfl l2 (by simp)
                rw [HI.out.known 2 (by decide) l2] at g2
                simp [ptK] at g2
                clear l2
                go_simp
                go_at_call 53
                refine (input_any X (by omega) _).mono ?_
                rintro e w' ⟨rfl, rfl⟩
                exact ⟨_, rfl, HI.out.skip 3 (by decide) _ rfl⟩
              · simp only [List.getElem?_cons_zero, List.getElem?_cons_succ, Option.some.injEq] at ho
                subst ho
                have k11 := hh.kept 11 (by simp)
                simp at k11
                go_simp
                exact ⟨_, rfl, HI.out.skip 4 (by decide) _ rfl⟩
              · simp only [List.getElem?_cons_zero, List.getElem?_cons_succ, Option.some.injEq] at ho
                subst ho
                have l4 : L.getD 4 false = true := HD.out ⟨4, .data⟩ (by simp) rfl
                have g4 := hh.got 4 _ 50 rfl rfl l4 (by simp)
                rw [HI.out.known 4 (by decide) l4] at g4
                simp [ptK] at g4
                have htbw : KBox W tb X Y := HI.out.all (fun W h => (Below.block h _ (lt_of_block HTB.out)).trans HTB.out) (fun _ W h => h.2.2.1) (fun _ W h => h.elim)
                obtain ⟨q0, q1, _, _⟩ := cells2 htbw
                clear htbw
                clear l4
                go_simp
                exact ⟨_, rfl, HI.out.skip 5 (by decide) _ rfl⟩
              · simp only [List.getElem?_cons_zero, List.getElem?_cons_succ, Option.some.injEq] at ho
                subst ho
                have l5 : L.getD 5 false = true := HD.out ⟨5, .data⟩ (by simp) rfl
                have g5 := hh.got 5 _ 51 rfl rfl l5 (by simp)
                rw [HI.out.known 5 (by decide) l5] at g5
                simp [ptK] at g5
                have hw6 : IntKind.i64.wrap (16 - Y) = 16 - Y := by simp [IntKind.wrap, IntKind.bits, IntKind.signed]; split <;> omega
                clear l5
                go_simp
                exact ⟨_, rfl, HI.out.skip 6 (by decide) _ rfl⟩
              · simp only [List.getElem?_cons_zero, List.getElem?_cons_succ, Option.some.injEq] at ho
                subst ho
                have l0 : L.getD 0 false = true := HD.out ⟨0, .data⟩ (by simp) rfl
                have g0 := hh.got 0 _ 46 rfl rfl l0 (by simp)
                rw [HI.out.known 0 (by decide) l0] at g0
                simp [ptK] at g0
                have l3 : L.getD 3 false = true := HD.out ⟨3, .data⟩ (by simp) rfl
                have g3 := hh.got 3 _ 49 rfl rfl l3 (by simp)
                rw [HI.out.known 3 (by decide) l3] at g3
                simp [ptK] at g3
                have l6 : L.getD 6 false = true := HD.out ⟨6, .data⟩ (by simp) rfl
                have g6 := hh.got 6 _ 52 rfl rfl l6 (by simp)
                rw [HI.out.known 6 (by decide) l6] at g6
                simp [ptK] at g6
                clear l0 l3 l6
                have hpre := HI.out.pre HLF.out
                go_simp
                have HPRE := Lib.hid (show Below W6.heap.size W6 W from hpre)
                clear hpre
                go_at_call 52
                refine (synapse_any ⟨-1 - X, 0, 1, 16 - Y⟩ B _ inp _ v3 v4 HLEN.out _ (HBD6.out.below HPRE.out)).mono ?_
                rintro e W8 ⟨rfl, v5, v6, hbd8, hfr8⟩
                exact ⟨_, rfl, HI.out.call (by omega) HLF.out (fun i hi => by simp at hi) _ ⟨rfl, HB6.out.trans ((HPRE.out.mono (by have := HB6.out.size; omega)).trans (hfr8.bel.mono hRB)), (hfr8.oth tb (by have := HPRE.out.size; omega) (by omega) (fun e => by have := HV3.out _ e; omega) (fun e => by have := HV4.out _ e; omega)).trans ((HPRE.out.block _ (by omega)).trans HTB.out), v5, v6, by rw [HSN.out]; exact hbd8⟩⟩
          · obtain rfl : j = n := by omega
            clear hlt hj
            obtain ⟨SS, hSS⟩ : ∃ SS, SS = (l.take j).map mrkS := ⟨_, rfl⟩
            have hbd := HBD.out
            rw [← hSS] at hbd
            have hSE : SS = l.map mrkS := by rw [hSS, List.take_of_length_le (by rw [← HN.out]; exact Nat.le_refl _)]
            have HSE := Lib.hid hSE
            obtain ⟨a3, c3, rfl⟩ := own_slC hbd.rn
            obtain ⟨a4, c4, rfl⟩ := own_slC hbd.rs
            have HBE := Lib.hid hbd
            have hbb := hbd.blk
            obtain ⟨m, hm⟩ : ∃ m, m = SS.length := ⟨_, rfl⟩
            rw [← hm] at hbb
            have HM := Lib.hid hm
            simp only [List.length_cons, List.length_nil, Nat.zero_add] at hbb
            have hbr := (HB5.out.block _ hR).trans HBX.out
            obtain ⟨q0, q1, q2⟩ := cells3 hbb
            obtain ⟨y0, y1, y2⟩ := cells3 hbr
            have yf0 : wr.frozen? ⟨w.heap.size, 0, none⟩ = false := by simp [World.frozen?, hbr]
            have yf1 : wr.frozen? ⟨w.heap.size, 1, none⟩ = false := by simp [World.frozen?, hbr]
            have yf2 : wr.frozen? ⟨w.heap.size, 2, none⟩ = false := by simp [World.frozen?, hbr]
            have HBR := Lib.hid hbr
            clear hSS hbd hSE hbb hm hbr HBD
            go_wp2
            refine bodyPost_ret (res_net rfl _ (set3 HBR.out _ _ _).1 _ rfl rfl) rfl ⟨_, rfl, ?_, (set3 HBR.out _ _ _).2.2 _ _ (Nat.le_refl _) (HBL.out.trans (HB5.out.mono HBL.out.size))⟩
            have hne := (set3 HBR.out (.slice a3 1 c3) (.int .i64 inp) (.slice a4 m c4)).2.1
            have hfin : BdAt (((wr.setCell ⟨w.heap.size, 0, none⟩ (.slice a3 1 c3)).setCell ⟨w.heap.size, 1, none⟩ (.int .i64 inp)).setCell ⟨w.heap.size, 2, none⟩ (.slice a4 m c4)) B [⟨2, 256, 0, th, 0, 0, 0, 0⟩] inp SS (.slice a3 1 c3) (.slice a4 m c4) := by
              have h := HBE.out
              rw [← HM.out] at h
              exact ⟨(hne B (by omega)).trans h.blk, ownsRow_of_block h.rn fun g hg => hne g (by have := (h.rn.lt g hg).1; omega), by rw [← HM.out]; have h2 := h.rs; rw [← HM.out] at h2; exact ownsRow_of_block h2 fun g hg => hne g (by have := (h2.lt g hg).1; omega), h.ne⟩
            have h1 := hfin.net
            rw [HNE.out]
            unfold patN
            rw [← HSE.out, ← HN.out, ← HTH.out]
            exact h1
end Go.Proofs.Ytmgdildbngbibaa
