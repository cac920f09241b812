/- The specification's Pattern. Over this seat's program. (mk_Gl.py wrote this.) -/
import Derived.Test.YtmgdildbngbibaaGk
import Derived.Test.YtmgdildbngbibaaGi
namespace Go.Proofs.Ytmgdildbngbibaa
set_option linter.unusedVariables false
open Go.RowKit Go.Shelf

def rpK (inp : Int) (n cap b off k : Nat) (X Y : Int) (vs : Value) : Nat → Value
  | 0 => .agg #[.slice none 0 0, .int .i64 inp, vs]
  | 1 => .slice (some ⟨b, off, none⟩) n cap
  | 2 => .int .i64 (k : Int)
  | 3 => .pointer (some ⟨b, off + k * 2, none⟩)
  | 4 => .pointer (some ⟨b, off + k * 2, none⟩)
  | 5 => .int .i64 X
  | 6 => .int .i64 (-1 - X)
  | 7 => .slice (some ⟨b, off, none⟩) n cap
  | 8 => .int .i64 (k : Int)
  | 9 => .pointer (some ⟨b, off + k * 2, none⟩)
  | 10 => .pointer (some ⟨b, off + k * 2 + 1, none⟩)
  | 11 => .int .i64 Y
  | 12 => .int .i64 (16 - Y)
  | _ => undef
set_option maxRecDepth 100000 in
set_option maxHeartbeats 6000000 in
theorem rpattern_any (inp : Int) (l : List Mrk) (miss : Int) (hms : (Lit.int .i64 miss).wf = true) (a : Option Addr) (cap : Nat) (hl : l.length ≤ 100000) (w : World) (hT : MrksAt w (.slice a l.length cap) l) :
    Calls Try.prog 33 #[.int .i64 inp, .slice a l.length cap, .int .i64 miss] w (NetGot (patE inp l miss) (patR inp l miss) w) := by
  obtain ⟨n, hn⟩ : ∃ n, n = l.length := ⟨_, rfl⟩
  obtain ⟨E, hE⟩ : ∃ E, patE inp l miss = E := ⟨_, rfl⟩
  obtain ⟨N, hN⟩ : ∃ N, patR inp l miss = N := ⟨_, rfl⟩
  rw [hE, hN]
  unfold patR at hN
  rw [hE] at hN
  rw [← hn] at hl hT ⊢
  have HT := Lib.hid hT
  have HN := Lib.hid hn
  have HNN := Lib.hid hN
  clear hT hN
  have hzr : E ≠ 0 → N = netZ := fun h => by have := HNN.out; rw [if_neg h] at this; exact this.symm
  have HZR := Lib.hid hzr
  clear hzr
  unfold patE chkM at hE
  rw [← hn] at hE
  clear hn
  go_enter Try.func33, Try.ntmps33
  go_upto_region 1 with (fail)
  have hbx := (alloc_new_at w (.cells #[.slice none 0 0, .int .i64 0, .slice none 0 0] 32) w.heap.size rfl)
  have hbl : Below w.heap.size w (w.alloc (.cells #[.slice none 0 0, .int .i64 0, .slice none 0 0] 32)) := (Below.refl _ _).alloc (Nat.le_refl _) _
  generalize w.alloc (.cells #[.slice none 0 0, .int .i64 0, .slice none 0 0] 32) = W1 at *
  have hR := lt_of_block hbx
  have HBX := Lib.hid hbx
  have HBL := Lib.hid hbl
  have zend : ∀ (E : Int) (W : World), E ≠ 0 → Below W1.heap.size W1 W → NetGot E netZ w (.returned (.tuple #[.agg #[.slice none 0 0, .int .i64 0, .slice none 0 0], .int .i64 E])) (((W.setCell ⟨w.heap.size, 0, none⟩ (.slice none 0 0)).setCell ⟨w.heap.size, 1, none⟩ (.int .i64 0)).setCell ⟨w.heap.size, 2, none⟩ (.slice none 0 0)) := fun E W _ hb =>
    ⟨_, rfl, netZ_at _, (set3 ((hb.block _ hR).trans HBX.out) _ _ _).2.2 _ _ (Nat.le_refl _) (HBL.out.trans (hb.mono HBL.out.size))⟩
  have HZ := Lib.hid zend
  clear hbx hbl zend
  obtain ⟨y0, y1, y2⟩ := cells3 HBX.out
  have yf0 : W1.frozen? ⟨w.heap.size, 0, none⟩ = false := by simp [World.frozen?, HBX.out]
  have yf1 : W1.frozen? ⟨w.heap.size, 1, none⟩ = false := by simp [World.frozen?, HBX.out]
  have yf2 : W1.frozen? ⟨w.heap.size, 2, none⟩ = false := by simp [World.frozen?, HBX.out]
  cases c1 : inR inp 1 256 with
  | false =>
    rw [if_pos c1] at hE
    subst hE
    obtain rfl := HZR.out (by decide)
    go_wp2_with (go_at_call 59; refine (rwithin9_any _ _ _ _).mono ?_; rintro e w' ⟨rfl, rfl⟩)
    exact bodyPost_ret (res_net rfl _ (set3 HBX.out _ _ _).1 _ rfl rfl) rfl (HZ.out _ _ (by decide) (Below.refl _ _))
  | true =>
    rw [if_neg (by rw [c1]; decide)] at hE
    have hinp := inR_true.1 c1
    by_cases c2 : 64 < n
    · have g2 : ((64 : Int) < (n : Int)) = True := by simp; omega
      rw [if_pos c2] at hE
      subst hE
      obtain rfl := HZR.out (by decide)
      go_wp2_with (go_at_call 59; refine (rwithin9_any _ _ _ _).mono ?_; rintro e w' ⟨rfl, rfl⟩)
      exact bodyPost_ret (res_net rfl _ (set3 HBX.out _ _ _).1 _ rfl rfl) rfl (HZ.out _ _ (by decide) (Below.refl _ _))
    · have g2 : ((64 : Int) < (n : Int)) = False := by simp; omega
      rw [if_neg c2] at hE
      by_cases c3 : n = 0
      · subst c3
        rw [if_pos rfl] at hE
        subst hE
        obtain rfl := HZR.out (by decide)
        clear g2
        go_wp2_with (go_at_call 59; refine (rwithin9_any _ _ _ _).mono ?_; rintro e w' ⟨rfl, rfl⟩)
        exact bodyPost_ret (res_net rfl _ (set3 HBX.out _ _ _).1 _ rfl rfl) rfl (HZ.out _ _ (by decide) (Below.refl _ _))
      have g3 : ((n : Int) == 0) = false := by simp; omega
      rw [if_neg c3] at hE
      have HE := Lib.hid hE
      clear hE
      go_upto_region 8 with (go_at_call 59; refine (rwithin9_any _ _ _ _).mono ?_; rintro e w' ⟨rfl, rfl⟩)
      have hbo := alloc_new_at W1 (.cells #[.slice none 0 0, .int .i64 inp, .slice none 0 0] 32) W1.heap.size rfl
      have hbl2 : Below W1.heap.size W1 (W1.alloc (.cells #[.slice none 0 0, .int .i64 inp, .slice none 0 0] 32)) := (Below.refl _ _).alloc (Nat.le_refl _) _
      obtain ⟨O, hO⟩ : ∃ O, O = W1.heap.size := ⟨_, rfl⟩
      rw [← hO] at hbo ⊢
      generalize W1.alloc (.cells #[.slice none 0 0, .int .i64 inp, .slice none 0 0] 32) = W2 at *
      have hOl := lt_of_block hbo
      have HBO := Lib.hid hbo
      have HBL2 := Lib.hid hbl2
      have HO := Lib.hid hO
      have hRO : w.heap.size < O := by omega
      clear y0 y1 y2 yf0 yf1 yf2 g2 g3 hbo hbl2 hO
      go_wp2
      go_loopw [9] (fun s wr => ∃ k : Nat, k ≤ n ∧ s = .int .i64 k ∧ Below O W2 wr ∧ firstF (mkF inp l) (if inR miss 0 ((n : Int) - 1) = false then 3 else 0) (n - k) k = E ∧ ∃ va vc, wr.heap[O]? = some (.cells #[.slice none 0 0, .int .i64 inp, .slice va k vc] 32) ∧ wr.ownsRow (O + 1) 128 4 (.slice va k vc) k (synCs ((l.take k).map mrkS))) (fun s _ => n - (intOf s).toNat)
      case atStart => exact ⟨0, Nat.zero_le _, rfl, Below.refl _ _, HE.out, none, 0, HBO.out, ⟨rfl, .inl ⟨rfl, rfl⟩⟩⟩
      case round =>
        obtain ⟨k, hk, rfl, hb, hf, va, vc, hbo, hro⟩ := hrel
        have HB := Lib.hid hb
        have HF := Lib.hid hf
        have HO5 := Lib.hid hbo
        have HR5 := Lib.hid hro
        have hbW : Below W1.heap.size W1 wr := by have := HO.out; subst this; exact HBL2.out.trans HB.out
        have HBW := Lib.hid hbW
        have hzw := HB.out.size
        have hbr := (HBW.out.block _ hR).trans HBX.out
        clear hb hf hro hbW
        obtain ⟨y0, y1, y2⟩ := cells3 hbr
        have yf0 : wr.frozen? ⟨w.heap.size, 0, none⟩ = false := by simp [World.frozen?, hbr]
        have yf1 : wr.frozen? ⟨w.heap.size, 1, none⟩ = false := by simp [World.frozen?, hbr]
        have yf2 : wr.frozen? ⟨w.heap.size, 2, none⟩ = false := by simp [World.frozen?, hbr]
        clear hbr hbo
        by_cases hlt : k < n
        · obtain ⟨x, hx⟩ : ∃ x, l[k]? = some x := ⟨_, List.getElem?_eq_getElem (by rw [← HN.out]; exact hlt)⟩
          have hi0 : (0 : Int) ≤ (k : Int) := Int.natCast_nonneg _
          have hi1 : (k : Int) < (n : Int) := by omega
          have hc := firstF_at hlt HF.out
          have hmk : mkF inp l k = if mrkE inp x ≠ 0 then mrkE inp x else if hasM l k x.ip x.of = true then 5 else 0 := by unfold mkF; rw [hx]
          rw [hmk] at hc
          have hsn : (l.take (k + 1)).map mrkS = (l.take k).map mrkS ++ [mrkS x] := by rw [List.take_add_one, hx]; simp
          obtain ⟨b, off, rfl, hbl, hcl⟩ := HT.out.at hx
          have hcl := hcl.below (HBL.out.trans (HBW.out.mono HBL.out.size)) hbl
          obtain ⟨X, Y⟩ := x
          obtain ⟨u1, u2⟩ := hcl
          simp only at u1 u2 hc
          have U1 := Lib.hid u1
          have U2 := Lib.hid u2
          have HC := Lib.hid hc
          have HX := Lib.hid hx
          obtain ⟨SN, hSN⟩ : ∃ SN, SN = (l.take (k + 1)).map mrkS := ⟨_, rfl⟩
          rw [← hSN] at hsn
          have HSN := Lib.hid hsn
          have HSE := Lib.hid hSN
          clear hx hc hsn hSN hmk
          cases gX : inR X 0 (inp - 1) with
          | false =>
            have e1 : mrkE inp ⟨X, Y⟩ = 4 := by unfold mrkE; rw [if_pos gX]
            obtain rfl : E = 4 := by
              have h := HC.out
              rw [e1] at h
              rcases h with ⟨_, q⟩ | ⟨q, _⟩ <;> simp at q
              exact q.symm
            obtain rfl := HZR.out (by decide)
            clear e1
            go_wp2_with (go_at_call 59; refine (rwithin9_any _ _ _ _).mono ?_; rintro e w' ⟨rfl, rfl⟩)
            exact bodyPost_ret (res_net rfl _ (set3 ((HBW.out.block _ hR).trans HBX.out) _ _ _).1 _ rfl rfl) rfl (HZ.out _ _ (by decide) HBW.out)
          | true =>
            cases gY : inR Y 0 15 with
            | false =>
              have e1 : mrkE inp ⟨X, Y⟩ = 3 := by unfold mrkE; rw [if_neg (by simp [gX]), if_pos gY]
              obtain rfl : E = 3 := by
                have h := HC.out
                rw [e1] at h
                rcases h with ⟨_, q⟩ | ⟨q, _⟩ <;> simp at q
                exact q.symm
              obtain rfl := HZR.out (by decide)
              clear e1
              go_wp2_with (go_at_call 59; refine (rwithin9_any _ _ _ _).mono ?_; rintro e w' ⟨rfl, rfl⟩)
              exact bodyPost_ret (res_net rfl _ (set3 ((HBW.out.block _ hR).trans HBX.out) _ _ _).1 _ rfl rfl) rfl (HZ.out _ _ (by decide) HBW.out)
            | true =>
              have e1 : mrkE inp ⟨X, Y⟩ = 0 := by unfold mrkE; rw [if_neg (by simp [gX]), if_neg (by simp [gY])]
              have hc2 : (hasM l k X Y = true → E = 5) ∧ (hasM l k X Y = false → firstF (mkF inp l) (if inR miss 0 ((n : Int) - 1) = false then 3 else 0) (n - (k + 1)) (k + 1) = E) := by
                have h := HC.out
                rw [e1] at h
                refine ⟨fun q => ?_, fun q => ?_⟩ <;> rw [q] at h
                · rcases h with ⟨_, q⟩ | ⟨q, _⟩ <;> simp at q
                  exact q.symm
                · rcases h with ⟨q, _⟩ | ⟨_, q⟩
                  · simp at q
                  · exact q
              have HC2 := Lib.hid hc2
              have hXr := inR_true.1 gX
              have hYr := inR_true.1 gY
              clear e1 hc2
              go_upto_region 16 with (go_at_call 59; refine (rwithin9_any _ _ _ _).mono ?_; rintro e w' ⟨rfl, rfl⟩)
              clear gX gY y0 y1 y2 yf0 yf1 yf2 u1 u2
              generalize wr = wo at *
              go_loopw [10] (fun s wr => ∃ i : Nat, i ≤ k ∧ s = .int .i64 i ∧ Below wo.heap.size wo wr ∧ hasM l i X Y = false) (fun s _ => k - (intOf s).toNat)
              case atStart => exact ⟨0, Nat.zero_le _, rfl, Below.refl _ _, by simp [hasM]⟩
              case round =>
                obtain ⟨i, hi, rfl, hbi, hno⟩ := hrel
                have HBI := Lib.hid hbi
                have HNO := Lib.hid hno
                have HBV := Lib.hid (HBW.out.trans (hbi.mono HBW.out.size))
                have hzi := hbi.size
                have hbr := (HBV.out.block _ hR).trans HBX.out
                have u1 := (World.cell?_of_block (hbi.block b (by omega))).trans U1.out
                have u2 := (World.cell?_of_block (hbi.block b (by omega))).trans U2.out
                obtain ⟨y0, y1, y2⟩ := cells3 hbr
                have yf0 : wr.frozen? ⟨w.heap.size, 0, none⟩ = false := by simp [World.frozen?, hbr]
                have yf1 : wr.frozen? ⟨w.heap.size, 1, none⟩ = false := by simp [World.frozen?, hbr]
                have yf2 : wr.frozen? ⟨w.heap.size, 2, none⟩ = false := by simp [World.frozen?, hbr]
                clear hbi hno hbr
                by_cases hik : i < k
                · obtain ⟨z, hz⟩ : ∃ z, l[i]? = some z := ⟨_, List.getElem?_eq_getElem (by rw [← HN.out]; omega)⟩
                  obtain ⟨b', off', hbb, hbl', hcl'⟩ := HT.out.at hz
                  cases hbb
                  have hcl' := hcl'.below (HBL.out.trans (HBV.out.mono HBL.out.size)) hbl'
                  have hns : hasM l (i + 1) X Y = (hasM l i X Y || (z.ip == X && z.of == Y)) := by unfold hasM; rw [List.take_add_one, hz]; simp
                  have hms2 : (z.ip = X ∧ z.of = Y) → hasM l k X Y = true := fun h => by
                    unfold hasM
                    rw [List.any_eq_true]
                    exact ⟨z, List.mem_of_getElem? (show (l.take k)[i]? = some z by rw [List.getElem?_take, if_pos hik]; exact hz), by simp [h]⟩
                  obtain ⟨X2, Y2⟩ := z
                  obtain ⟨v1, v2⟩ := hcl'
                  simp only at v1 v2 hns hms2
                  have hj0 : (0 : Int) ≤ (i : Int) := Int.natCast_nonneg _
                  have hj1 : (i : Int) < (k : Int) := by omega
                  have hj2 : (i : Int) < (n : Int) := by omega
                  have HNS := Lib.hid hns
                  have HMS := Lib.hid hms2
                  clear hz hns hms2
                  by_cases hq : X2 = X ∧ Y2 = Y
                  · obtain ⟨rfl, rfl⟩ := hq
                    obtain rfl := HC2.out.1 (HMS.out ⟨rfl, rfl⟩)
                    obtain rfl := HZR.out (by decide)
                    go_upto_region 18 with (fail)
                    go_quiet (fail)
                    have hbd : Below W1.heap.size W1 (wr.drewN nq) := below_drewN HBV.out nq
                    go_wp2
                    exact bodyPost_ret (res_net rfl _ (set3 ((hbd.block _ hR).trans HBX.out) _ _ _).1 _ rfl rfl) rfl (HZ.out _ _ (by decide) hbd)
                  · by_cases hx2 : X2 = X
                    · have gy : (Y2 == Y) = false := by simp only [beq_eq_false_iff_ne]; exact fun e => hq ⟨hx2, e⟩
                      have hno2 : hasM l (i + 1) X Y = false := by rw [HNS.out, HNO.out, gy]; simp
                      have HNO2 := Lib.hid hno2
                      subst hx2
                      clear hq hno2
                      go_upto_region 18 with (fail)
                      go_quiet (fail)
                      go_wp2
                      go_roundw
                      case rel => exact ⟨i + 1, by omega, by go_num, by first | exact HBI.out | exact below_drewN HBI.out _, HNO2.out⟩
                      case measure => simp [intOf]; omega
                    · have gx : (X2 == X) = false := by simp only [beq_eq_false_iff_ne]; exact hx2
                      have hno2 : hasM l (i + 1) X Y = false := by rw [HNS.out, HNO.out, gx]; simp
                      have HNO2 := Lib.hid hno2
                      clear hq hno2 hx2
                      go_upto_region 18 with (fail)
                      go_quiet (fail)
                      go_wp2
                      go_roundw
                      case rel => exact ⟨i + 1, by omega, by go_num, by first | exact HBI.out | exact below_drewN HBI.out _, HNO2.out⟩
                      case measure => simp [intOf]; omega
                · obtain rfl : i = k := by omega
                  have HO6 := Lib.hid ((HBI.out.block O (lt_of_block HO5.out)).trans HO5.out)
                  have HR6 := Lib.hid (ownsBelow HR5.out HBI.out)
                  have HB6 := Lib.hid (HB.out.trans (HBI.out.mono (by have := lt_of_block HO5.out; omega)))
                  have V1 := Lib.hid u1
                  have V2 := Lib.hid u2
                  have hOl2 := lt_of_block HO6.out
                  have HNX := Lib.hid (HC2.out.2 HNO.out)
                  clear hik hi y0 y1 y2 yf0 yf1 yf2 u1 u2
                  go_upto_region 20 with (fail)
                  refine wp_region_late (CsR 13 [0] (rcPre wr) (rcM O wr inp (.slice va i vc) i SN) (rcZ O wr inp i SN) (rpK inp n cap b off i X Y (.slice va i vc))) (by kernel_rfl) (by kernel_rfl) (by kernel_rfl) (by kernel_rfl) (CsR.init _ ⟨rfl, rfl, rfl, Nat.le_refl _, fun _ _ => rfl⟩) ?stp ?dn
                  case dn =>
                    intro val W b' hI hb
                    obtain ⟨a7, c7, hr7, hb7, ho7⟩ := hI.fin (by simp)
                    have HR7 := Lib.hid hr7
                    have HB7 := Lib.hid hb7
                    have HO7 := Lib.hid ho7
                    have kn : ∀ q, q < 13 → val q = rpK inp n cap b off i X Y (.slice va i vc) q := fun q hq => hI.known q hq (replT (by show q < 15; omega))
                    obtain ⟨v17, hv17⟩ : ∃ v, v = val 13 := ⟨_, rfl⟩
                    simp only [puts, ← hv17, kn 0 (by decide), kn 1 (by decide), kn 2 (by decide), kn 3 (by decide), kn 4 (by decide), kn 5 (by decide), kn 6 (by decide), kn 7 (by decide), kn 8 (by decide), kn 9 (by decide), kn 10 (by decide), kn 11 (by decide), kn 12 (by decide), rpK] at hb
                    clear hI hr7 hb7 ho7 kn hv17
                    subst hb
                    simp only [Act.put, List.setIfInBounds_toArray, List.set_cons_succ, List.set_cons_zero]
                    go_wp2
                    go_roundw
                    case rel => exact ⟨i + 1, by omega, by go_num, HB6.out.trans HB7.out, HNX.out, a7, c7, HO7.out, by rw [← HSE.out]; exact HR7.out⟩
                    case measure => simp [intOf]; omega
                  case stp =>
                    intro L val W i' o b' hs ho hlF hdd hI hh hlate
                    have hi' := (List.getElem?_eq_some_iff.1 ho).1
                    have hcs : i' = 0 ∨ i' = 1 ∨ i' = 2 ∨ i' = 3 ∨ i' = 4 ∨ i' = 5 ∨ i' = 6 ∨ i' = 7 ∨ i' = 8 ∨ i' = 9 ∨ i' = 10 ∨ i' = 11 ∨ i' = 12 ∨ i' = 13 ∨ i' = 14 := by simp at hi'; omega
                    have hLs : L.size = 15 := by simp at hs; omega
                    have HI := Lib.hid hI
                    have HLF := Lib.hid hlF
                    have HD := Lib.hid hdd
                    clear hi' hs hI hlF hdd
                    rcases hcs with rfl | rfl | rfl | rfl | rfl | rfl | rfl | rfl | rfl | rfl | rfl | rfl | rfl | rfl | rfl
                    · simp only [List.getElem?_cons_zero, Option.some.injEq] at ho
                      subst ho
                      have k8 := hh.kept 8 (by simp)
                      simp at k8
                      have hpre := HI.out.early (i := 0) (by simp) HLF.out
                      obtain ⟨q0, q1, q2⟩ := cells3 ((Below.block hpre O (by omega)).trans HO6.out)
                      clear hpre
                      go_simp
                      exact ⟨_, rfl, HI.out.skip 0 (by decide) _ rfl⟩
                    · simp only [List.getElem?_cons_zero, List.getElem?_cons_succ, Option.some.injEq] at ho
                      subst ho
                      have k1 := hh.kept 1 (by simp)
                      simp at k1
                      go_simp
                      exact ⟨_, rfl, HI.out.skip 1 (by decide) _ rfl⟩
                    · simp only [List.getElem?_cons_zero, List.getElem?_cons_succ, Option.some.injEq] at ho
                      subst ho
                      have k9 := hh.kept 9 (by simp)
                      simp at k9
                      go_simp
                      exact ⟨_, rfl, HI.out.skip 2 (by decide) _ rfl⟩
                    · simp only [List.getElem?_cons_zero, List.getElem?_cons_succ, Option.some.injEq] at ho
                      subst ho
                      have l1 : L.getD 1 false = true := HD.out ⟨1, .data⟩ (by simp) rfl
                      have g1 := hh.got 1 _ 65 rfl rfl l1 (by simp)
                      rw [HI.out.known 1 (by decide) l1] at g1
                      simp [rpK] at g1
                      have l2 : L.getD 2 false = true := HD.out ⟨2, .data⟩ (by simp) rfl
                      have g2 := hh.got 2 _ 66 rfl rfl l2 (by simp)
                      rw [HI.out.known 2 (by decide) l2] at g2
                      simp [rpK] at g2
                      clear l1 l2
                      go_simp
                      exact ⟨_, rfl, HI.out.skip 3 (by decide) _ rfl⟩
                    · simp only [List.getElem?_cons_zero, List.getElem?_cons_succ, Option.some.injEq] at ho
                      subst ho
                      have l3 : L.getD 3 false = true := HD.out ⟨3, .data⟩ (by simp) rfl
                      have g3 := hh.got 3 _ 67 rfl rfl l3 (by simp)
                      rw [HI.out.known 3 (by decide) l3] at g3
                      simp [rpK] at g3
                      clear l3
                      go_simp
                      exact ⟨_, rfl, HI.out.skip 4 (by decide) _ rfl⟩
                    · simp only [List.getElem?_cons_zero, List.getElem?_cons_succ, Option.some.injEq] at ho
                      subst ho
                      have l4 : L.getD 4 false = true := HD.out ⟨4, .data⟩ (by simp) rfl
                      have g4 := hh.got 4 _ 68 rfl rfl l4 (by simp)
                      rw [HI.out.known 4 (by decide) l4] at g4
                      simp [rpK] at g4
                      have hbk : W.heap[b]? = wr.heap[b]? := HI.out.all (fun W h => Below.block h _ (by omega)) (fun _ W h => by obtain ⟨_, _, _, _, h, _⟩ := h; exact h.block b (by omega)) (fun _ W h => by obtain ⟨_, _, _, h, _⟩ := h; exact h.block b (by omega))
                      have q0 := (World.cell?_of_block hbk).trans V1.out
                      clear hbk
                      clear l4
                      go_simp
                      exact ⟨_, rfl, HI.out.skip 5 (by decide) _ rfl⟩
                    · simp only [List.getElem?_cons_zero, List.getElem?_cons_succ, Option.some.injEq] at ho
                      subst ho
                      have l5 : L.getD 5 false = true := HD.out ⟨5, .data⟩ (by simp) rfl
                      have g5 := hh.got 5 _ 69 rfl rfl l5 (by simp)
                      rw [HI.out.known 5 (by decide) l5] at g5
                      simp [rpK] at g5
                      clear l5
                      go_simp
                      go_at_call 57
                      refine (rinput_any X (by omega) _).mono ?_
                      rintro e w' ⟨rfl, rfl⟩
                      exact ⟨_, rfl, HI.out.skip 6 (by decide) _ rfl⟩
                    · simp only [List.getElem?_cons_zero, List.getElem?_cons_succ, Option.some.injEq] at ho
                      subst ho
                      have k1 := hh.kept 1 (by simp)
                      simp at k1
                      go_simp
                      exact ⟨_, rfl, HI.out.skip 7 (by decide) _ rfl⟩
                    · simp only [List.getElem?_cons_zero, List.getElem?_cons_succ, Option.some.injEq] at ho
                      subst ho
                      have k9 := hh.kept 9 (by simp)
                      simp at k9
                      go_simp
                      exact ⟨_, rfl, HI.out.skip 8 (by decide) _ rfl⟩
                    · simp only [List.getElem?_cons_zero, List.getElem?_cons_succ, Option.some.injEq] at ho
                      subst ho
                      have l7 : L.getD 7 false = true := HD.out ⟨7, .data⟩ (by simp) rfl
                      have g7 := hh.got 7 _ 71 rfl rfl l7 (by simp)
                      rw [HI.out.known 7 (by decide) l7] at g7
                      simp [rpK] at g7
                      have l8 : L.getD 8 false = true := HD.out ⟨8, .data⟩ (by simp) rfl
                      have g8 := hh.got 8 _ 72 rfl rfl l8 (by simp)
                      rw [HI.out.known 8 (by decide) l8] at g8
                      simp [rpK] at g8
                      clear l7 l8
                      go_simp
                      exact ⟨_, rfl, HI.out.skip 9 (by decide) _ rfl⟩
                    · simp only [List.getElem?_cons_zero, List.getElem?_cons_succ, Option.some.injEq] at ho
                      subst ho
                      have l9 : L.getD 9 false = true := HD.out ⟨9, .data⟩ (by simp) rfl
                      have g9 := hh.got 9 _ 73 rfl rfl l9 (by simp)
                      rw [HI.out.known 9 (by decide) l9] at g9
                      simp [rpK] at g9
                      clear l9
                      go_simp
                      exact ⟨_, rfl, HI.out.skip 10 (by decide) _ rfl⟩
                    · simp only [List.getElem?_cons_zero, List.getElem?_cons_succ, Option.some.injEq] at ho
                      subst ho
                      have l10 : L.getD 10 false = true := HD.out ⟨10, .data⟩ (by simp) rfl
                      have g10 := hh.got 10 _ 74 rfl rfl l10 (by simp)
                      rw [HI.out.known 10 (by decide) l10] at g10
                      simp [rpK] at g10
                      have hbk : W.heap[b]? = wr.heap[b]? := HI.out.all (fun W h => Below.block h _ (by omega)) (fun _ W h => by obtain ⟨_, _, _, _, h, _⟩ := h; exact h.block b (by omega)) (fun _ W h => by obtain ⟨_, _, _, h, _⟩ := h; exact h.block b (by omega))
                      have q1 := (World.cell?_of_block hbk).trans V2.out
                      clear hbk
                      clear l10
                      go_simp
                      exact ⟨_, rfl, HI.out.skip 11 (by decide) _ rfl⟩
                    · simp only [List.getElem?_cons_zero, List.getElem?_cons_succ, Option.some.injEq] at ho
                      subst ho
                      have l11 : L.getD 11 false = true := HD.out ⟨11, .data⟩ (by simp) rfl
                      have g11 := hh.got 11 _ 75 rfl rfl l11 (by simp)
                      rw [HI.out.known 11 (by decide) l11] at g11
                      simp [rpK] at g11
                      have hw6 : IntKind.i64.wrap (16 - Y) = 16 - Y := by simp [IntKind.wrap, IntKind.bits, IntKind.signed]; split <;> omega
                      clear l11
                      go_simp
                      exact ⟨_, rfl, HI.out.skip 12 (by decide) _ rfl⟩
                    · simp only [List.getElem?_cons_zero, List.getElem?_cons_succ, Option.some.injEq] at ho
                      subst ho
                      have l0 : L.getD 0 false = true := HD.out ⟨0, .data⟩ (by simp) rfl
                      have L0 := Lib.hid l0
                      have g0 := hh.got 0 _ 64 rfl rfl l0 (by simp)
                      rw [HI.out.known 0 (by decide) l0] at g0
                      simp [rpK] at g0
                      have l6 : L.getD 6 false = true := HD.out ⟨6, .data⟩ (by simp) rfl
                      have g6 := hh.got 6 _ 70 rfl rfl l6 (by simp)
                      rw [HI.out.known 6 (by decide) l6] at g6
                      simp [rpK] at g6
                      have l12 : L.getD 12 false = true := HD.out ⟨12, .data⟩ (by simp) rfl
                      have g12 := hh.got 12 _ 76 rfl rfl l12 (by simp)
                      rw [HI.out.known 12 (by decide) l12] at g12
                      simp [rpK] at g12
                      clear l0 l6 l12
                      have hpre := HI.out.pre HLF.out
                      go_simp
                      have HPRE := Lib.hid (show Below wr.heap.size wr W from hpre)
                      clear hpre
                      have hzp := HPRE.out.size
                      go_at_call 56
                      refine (wire_any ⟨-1 - X, 0, 1, 16 - Y⟩ (O + 1) none 0 0 inp ((l.take i).map mrkS) (.slice va i vc) (by simp; omega) _ (by omega) (by have h := ownsBelow HR6.out HPRE.out; rw [show ((l.take i).map mrkS).length = i by simp; have := HN.out; omega]; exact h)).mono ?_
                      rintro e W8 ⟨vs8, rfl, hr8, hb8, hf8, hw8⟩
                      have hq8 : ((l.take i).map mrkS ++ [(⟨-1 - X, 0, 1, 16 - Y⟩ : Syn)]).length = i + 1 := by simp; have := HN.out; omega
                      rw [hq8] at hr8
                      obtain ⟨a8, c8, rfl⟩ := own_slC hr8
                      exact ⟨_, rfl, HI.out.call (by omega) HLF.out (fun i hi => by simp at hi; subst hi; exact ⟨by decide, L0.out⟩) _ ⟨a8, c8, rfl, by rw [HSN.out]; exact hr8, (HPRE.out.mono (by omega)).trans (hb8.mono (by omega)), (hb8.block O (by omega)).trans ((HPRE.out.block O (by omega)).trans HO6.out)⟩⟩
                    · simp only [List.getElem?_cons_zero, List.getElem?_cons_succ, Option.some.injEq] at ho
                      subst ho
                      have k8 := hh.kept 8 (by simp)
                      simp at k8
                      have l13 : L.getD 13 false = true := HD.out ⟨13, .data⟩ (by simp) rfl
                      have L13 := Lib.hid l13
                      have g13 := hh.got 13 _ 77 rfl rfl l13 (by simp)
                      have hmid := HI.out.mid l13 HLF.out
                      obtain ⟨a8, c8, e8, hr8, hb8, ho8⟩ := hmid
                      rw [e8] at g13
                      simp at g13
                      obtain ⟨q0, q1, q2⟩ := cells3 ho8
                      have qf0 : W.frozen? ⟨O, 0, none⟩ = false := by simp [World.frozen?, ho8]
                      have qf1 : W.frozen? ⟨O, 1, none⟩ = false := by simp [World.frozen?, ho8]
                      have qf2 : W.frozen? ⟨O, 2, none⟩ = false := by simp [World.frozen?, ho8]
                      have hs3 := set3 ho8 (.slice none 0 0) (.int .i64 inp) (.slice a8 (i + 1) c8)
                      have hz : rcZ O wr inp i SN (val 13) (((W.setCell ⟨O, 0, none⟩ (.slice none 0 0)).setCell ⟨O, 1, none⟩ (.int .i64 inp)).setCell ⟨O, 2, none⟩ (.slice a8 (i + 1) c8)) := ⟨a8, c8, ownsRow_of_block hr8 fun g hg => hs3.2.1 g (by have := (hr8.lt g hg).1; omega), hs3.2.2 _ _ (Nat.le_refl _) hb8, hs3.1⟩
                      have HZS := Lib.hid (fun u => HI.out.store (by omega) L13.out u hz)
                      clear hz hs3 hr8 hb8 ho8 e8 l13
                      go_simp
                      exact ⟨_, HZS.out undef⟩
        · obtain rfl : k = n := by omega
          have hE0 := (firstF_end HF.out).symm
          clear hlt hk
          obtain ⟨x0, x1, x2⟩ := cells3 HO5.out
          have xf0 : wr.frozen? ⟨O, 0, none⟩ = false := by simp [World.frozen?, HO5.out]
          have xf1 : wr.frozen? ⟨O, 1, none⟩ = false := by simp [World.frozen?, HO5.out]
          have xf2 : wr.frozen? ⟨O, 2, none⟩ = false := by simp [World.frozen?, HO5.out]
          cases gM : inR miss 0 ((k : Int) - 1) with
          | false =>
            rw [if_pos gM] at hE0
            subst hE0
            obtain rfl := HZR.out (by decide)
            go_wp2_with (go_at_call 59; refine (rwithin9_any _ _ _ _).mono ?_; rintro e w' ⟨rfl, rfl⟩)
            exact bodyPost_ret (res_net rfl _ (set3 ((HBW.out.block _ hR).trans HBX.out) _ _ _).1 _ rfl rfl) rfl (HZ.out _ _ (by decide) HBW.out)
          | true =>
            rw [if_neg (by simp [gM])] at hE0
            subst hE0
            have hNe : N = patN inp l miss := by have := HNN.out; rw [if_pos rfl] at this; exact this.symm
            have HNE := Lib.hid hNe
            clear hNe
            have hmr := inR_true.1 gM
            go_upto_region 23 with (go_at_call 59; refine (rwithin9_any _ _ _ _).mono ?_; rintro e w' ⟨rfl, rfl⟩)
            go_wp2_with (fail)
            go_at_call 55
            refine (rgate_any ((k : Int) - miss) _).mono ?_
            rintro e W5 ⟨rfl, hb5⟩
            have hbo5 := (hb5.block O (lt_of_block HO5.out)).trans HO5.out
            have hb1 : Below W1.heap.size W1 W5 := HBW.out.trans (hb5.mono HBW.out.size)
            have hr5 := ownsBelow HR5.out hb5
            have hlO := lt_of_block hbo5
            have hbo6 := (Below.heap_alloc W5 (.cells #[.int .i64 2, .int .i64 256, .int .i64 0, .int .i64 ((k : Int) - miss), .int .i64 0, .int .i64 0, .int .i64 0, .int .i64 0] 125) O hlO).trans hbo5
            have xg : (W5.alloc (.cells #[.int .i64 2, .int .i64 256, .int .i64 0, .int .i64 ((k : Int) - miss), .int .i64 0, .int .i64 0, .int .i64 0, .int .i64 0] 125)).frozen? ⟨O, 0, none⟩ = false := by simp only [World.frozen?, hbo6]; rfl
            have xc := (cells3 hbo6).1
            obtain ⟨S7, hS7⟩ : ∃ S, S = W5.setCell ⟨O, 0, none⟩ (.slice (some ⟨W5.heap.size, 0, none⟩) 1 1) := ⟨_, rfl⟩
            have hs7 : S7.heap.size = W5.heap.size := by rw [hS7]; exact setCell_sz
            have hso : ∀ b, b ≠ O → S7.heap[b]? = W5.heap[b]? := fun b hb => by rw [hS7]; exact setCell_o hb
            have hsO : S7.heap[O]? = some (.cells #[.slice (some ⟨W5.heap.size, 0, none⟩) 1 1, .int .i64 inp, .slice va k vc] 32) := by
              rw [hS7]; have h1 := setCell_own (i := 0) (.slice (some ⟨W5.heap.size, 0, none⟩) 1 1) hbo5; simpa using h1
            have hsb : Below W1.heap.size W1 S7 := by rw [hS7]; exact Below.setCell hb1 (show W1.heap.size ≤ O by have := HO.out; omega) _
            have hr7 : S7.ownsRow (O + 1) 128 4 (.slice va k vc) k (synCs ((l.take k).map mrkS)) := ownsRow_of_block hr5 fun g hg => hso g (by have := (hr5.lt g hg).1; omega)
            have hb7 := hsb.alloc hsb.size (.cells #[.int .i64 2, .int .i64 256, .int .i64 0, .int .i64 ((k : Int) - miss), .int .i64 0, .int .i64 0, .int .i64 0, .int .i64 0] 125)
            have hbO7 := (Below.heap_alloc S7 (.cells #[.int .i64 2, .int .i64 256, .int .i64 0, .int .i64 ((k : Int) - miss), .int .i64 0, .int .i64 0, .int .i64 0, .int .i64 0] 125) O (by omega)).trans hsO
            have hbP7 := alloc_new_at S7 (.cells #[.int .i64 2, .int .i64 256, .int .i64 0, .int .i64 ((k : Int) - miss), .int .i64 0, .int .i64 0, .int .i64 0, .int .i64 0] 125) W5.heap.size hs7.symm
            have hr8 := hr7.alloc (.cells #[.int .i64 2, .int .i64 256, .int .i64 0, .int .i64 ((k : Int) - miss), .int .i64 0, .int .i64 0, .int .i64 0, .int .i64 0] 125)
            have HB7 := Lib.hid hb7
            have HBO7 := Lib.hid hbO7
            have HBP7 := Lib.hid hbP7
            have HR8 := Lib.hid hr8
            have HS7 := Lib.hid hS7
            have hOg : O < W5.heap.size := hlO
            clear hbo5 hb1 hr5 hbo6 x0 x1 x2 xf0 xf1 xf2 y0 y1 y2 yf0 yf1 yf2 hb5 hs7 hso hsO hsb hr7 hb7 hbO7 hbP7 hr8 hS7
            unfold prmA
            go_upto_region 24 with (fail)
            rw [← HS7.out]
            generalize S7.alloc (.cells #[.int .i64 2, .int .i64 256, .int .i64 0, .int .i64 ((k : Int) - miss), .int .i64 0, .int .i64 0, .int .i64 0, .int .i64 0] 125) = W7 at *
            obtain ⟨g5, hg5⟩ : ∃ g, g = W5.heap.size := ⟨_, rfl⟩
            rw [← hg5] at HBO7 HBP7 hOg ⊢
            clear HS7 xg xc hlO
            have hbr := (HB7.out.block _ hR).trans HBX.out
            have HBR := Lib.hid hbr
            obtain ⟨x0, x1, x2⟩ := cells3 HBO7.out
            obtain ⟨y0, y1, y2⟩ := cells3 hbr
            have yf0 : W7.frozen? ⟨w.heap.size, 0, none⟩ = false := by simp [World.frozen?, hbr]
            have yf1 : W7.frozen? ⟨w.heap.size, 1, none⟩ = false := by simp [World.frozen?, hbr]
            have yf2 : W7.frozen? ⟨w.heap.size, 2, none⟩ = false := by simp [World.frozen?, hbr]
            clear hbr hg5
            go_wp2
            have hne := (set3 HBR.out (.slice (some ⟨g5, 0, none⟩) 1 1) (.int .i64 inp) (.slice va k vc)).2.1
            refine bodyPost_ret (res_net rfl _ (set3 HBR.out _ _ _).1 _ rfl rfl) rfl ⟨_, rfl, ?_, (set3 HBR.out _ _ _).2.2 _ _ (Nat.le_refl _) (HBL.out.trans (HB7.out.mono HBL.out.size))⟩
            rw [HNE.out]
            have hlk : (l.take k).map mrkS = l.map mrkS := by rw [List.take_of_length_le (by rw [← HN.out]; exact Nat.le_refl _)]
            have hlen : (l.map mrkS).length = k := by simp; exact HN.out.symm
            refine ⟨some ⟨g5, 0, none⟩, 1, va, vc, by unfold patN; rw [hlen]; rfl, ?_, ?_⟩
            · refine Or.inr ⟨g5, 0, 1, rfl, ?_, fun j p hj => ?_⟩
              · exact lt_of_block ((hne g5 (by omega)).trans HBP7.out)
              · have hj0 : j = 0 := by have := (List.getElem?_eq_some_iff.1 hj).1; simp [patN] at this; omega
                subst hj0
                simp [patN] at hj
                subst hj
                rw [← HN.out]
                obtain ⟨d0, d1, d2, d3, d4, d5, d6, d7⟩ := cells8 ((hne g5 (by omega)).trans HBP7.out)
                exact ⟨d0, d1, d2, d3, d4, d5, d6, d7⟩
            · have h8 : (((W7.setCell ⟨w.heap.size, 0, none⟩ (.slice (some ⟨g5, 0, none⟩) 1 1)).setCell ⟨w.heap.size, 1, none⟩ (.int .i64 inp)).setCell ⟨w.heap.size, 2, none⟩ (.slice va k vc)).ownsRow (O + 1) 128 4 (.slice va k vc) (l.map mrkS).length (synCs (l.map mrkS)) := by
                rw [hlen, ← hlk]
                exact ownsRow_of_block HR8.out fun g hg => hne g (by have := (HR8.out.lt g hg).1; omega)
              have h9 := ssAt_of_owns h8
              unfold patN
              rw [hlen]
              exact h9
end Go.Proofs.Ytmgdildbngbibaa
