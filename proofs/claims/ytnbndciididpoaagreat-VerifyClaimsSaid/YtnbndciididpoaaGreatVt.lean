/- The specification's holds. Over this seat's program. (mk_Vt.py wrote this.) -/
import Derived.Test.YtnbndciididpoaaGreatVs
import Derived.Test.YtnbndciididpoaaGreatVm
namespace Go.Proofs.YtnbndciididpoaaGreat
set_option linter.unusedVariables false
open Go.RowKit Go.Shelf

theorem fsT_nil (c : Clm) (i : Int) : fsT c i [] = c.to := rfl
theorem fsT_yes {c : Clm} {i : Int} {l : List Evx} {x : Evx} (h : x.id = i) (hc : inC c x = true) : fsT c i (l ++ [x]) = min (fsT c i l) x.tk := by
  unfold fsT atN
  rw [List.filter_append, show List.filter (fun y : Evx => decide (y.id = i) && inC c y) [x] = [x] from by simp [h, hc], mnT_snoc]
theorem fsT_no {c : Clm} {i : Int} {l : List Evx} {x : Evx} (h : ¬ (x.id = i ∧ inC c x = true)) : fsT c i (l ++ [x]) = fsT c i l := by
  unfold fsT atN
  rw [List.filter_append, show List.filter (fun y : Evx => decide (y.id = i) && inC c y) [x] = [] from by simp; exact fun a => by simpa using fun b => h ⟨a, b⟩, List.append_nil]
theorem mnT_bds {lo v : Int} : ∀ (l : List Evx), lo ≤ v → (∀ x ∈ l, lo ≤ x.tk) → lo ≤ mnT v l ∧ mnT v l ≤ v
  | [], h, _ => ⟨h, Int.le_refl _⟩
  | x :: l, h, hx => by
    have h1 := hx x (by simp)
    have := mnT_bds (lo := lo) (v := min v x.tk) l (by omega) (fun y hy => hx y (by simp [hy]))
    have e : mnT v (x :: l) = mnT (min v x.tk) l := rfl
    rw [e]; omega
theorem fsT_bds {c : Clm} (h : ClmOk c) (i : Int) (l : List Evx) : 0 ≤ fsT c i l ∧ fsT c i l ≤ 10000 := by
  have := h.f0; have := h.f1; have := h.t1
  have := mnT_bds (lo := 0) (v := c.to) (atN c i l) (by omega) (fun x hx => by
    unfold atN at hx
    have := (List.mem_filter.1 hx).2
    simp [inC, inR] at this
    omega)
  unfold fsT; omega
/-- The i-th neuron of a claim. -/
def ntN (c : Clm) (q : Nat) : Int := (c.ns[q]?).getD 0
/-- The row of the first spikes, behind the spikes of l; of the first j neurons behind those of r. -/
def fsJ (c : Clm) (l r : List Evx) (j q : Nat) : Int := if q < j then fsT c (ntN c q) r else fsT c (ntN c q) l
theorem fsJ_step {c : Clm} {l : List Evx} {x : Evx} {j : Nat} {y : Int} (hj : c.ns[j]? = some y) (q : Nat) :
    fsJ c l (l ++ [x]) (j + 1) q = if q = j then fsT c y (l ++ [x]) else fsJ c l (l ++ [x]) j q := by
  unfold fsJ
  by_cases e : q = j
  · subst e; rw [if_pos (by omega), if_pos rfl]; unfold ntN; rw [hj]; rfl
  · rw [if_neg e]
    by_cases e2 : q < j
    · rw [if_pos (by omega), if_pos e2]
    · rw [if_neg (by omega), if_neg e2]
theorem fsJ_at {c : Clm} {l r : List Evx} {j : Nat} {y : Int} (hj : c.ns[j]? = some y) : fsJ c l r j j = fsT c y l := by
  unfold fsJ ntN; rw [if_neg (by omega), hj]; rfl
theorem fsJ_no {c : Clm} {l : List Evx} {x : Evx} {j : Nat} {y : Int} (hj : c.ns[j]? = some y) (h : ¬ (x.id = y ∧ inC c x = true)) (q : Nat) : fsJ c l (l ++ [x]) (j + 1) q = fsJ c l (l ++ [x]) j q := by
  rw [fsJ_step hj]
  by_cases e : q = j
  · subst e; rw [if_pos rfl, fsT_no h, fsJ_at hj]
  · rw [if_neg e]
theorem fsJ_yes {c : Clm} {l : List Evx} {x : Evx} {j : Nat} {y : Int} (hj : c.ns[j]? = some y) (h1 : x.id = y) (h2 : inC c x = true) (q : Nat) : fsJ c l (l ++ [x]) (j + 1) q = if q = j then min (fsT c y l) x.tk else fsJ c l (l ++ [x]) j q := by
  rw [fsJ_step hj, fsT_yes h1 h2]
structure HlW (kd fr to lo hi : Int) (na : Option Addr) (K nc cb rb : Nat) (w : World) (f : Nat → Int) (W : World) : Prop where
  bel : Below w.heap.size w W
  box : CBoxR W cb (.int .i64 kd) (.slice na K nc) (.int .i64 fr) (.int .i64 to) (.int .i64 lo) (.int .i64 hi)
  row : RowAt W rb K f
section
variable {kd fr to lo hi : Int} {na : Option Addr} {K nc cb rb : Nat} {w W : World} {f : Nat → Int}
theorem HlW.set (h : HlW kd fr to lo hi na K nc cb rb w f W) (h1 : w.heap.size ≤ rb) (h2 : cb ≠ rb) {i : Nat} (hik : i < K) (x : Int) :
    HlW kd fr to lo hi na K nc cb rb w (fun j => if j = i then x else f j) (W.setCell ⟨rb, i, none⟩ (.int .i64 x)) :=
  ⟨Below.setCell (p := ⟨rb, i, none⟩) h.bel h1 _, (Below.heap_setCell _ _ _ _ (by show cb ≠ rb; exact h2)).trans h.box, h.row.set hik x⟩
theorem HlW.drew (h : HlW kd fr to lo hi na K nc cb rb w f W) : HlW kd fr to lo hi na K nc cb rb w f W.drew := ⟨h.bel.drew, h.box, h.row⟩
theorem HlW.drewN (h : HlW kd fr to lo hi na K nc cb rb w f W) (n : Nat) : HlW kd fr to lo hi na K nc cb rb w f (W.drewN n) :=
  ⟨below_drewN h.bel n, ((below_drewN (Below.refl W.heap.size W) n).block cb (lt_of_block h.box)).trans h.box, ((below_drewN (Below.refl W.heap.size W) n).block rb (lt_of_block h.row)).trans h.row⟩
theorem HlW.congr {g : Nat → Int} (h : HlW kd fr to lo hi na K nc cb rb w f W) (e : ∀ i, i < K → f i = g i) : HlW kd fr to lo hi na K nc cb rb w g W := ⟨h.bel, h.box, h.row.congr e⟩
end
attribute [local go_sem high] run_min2v
set_option maxRecDepth 100000 in
set_option maxHeartbeats 8000000 in
theorem rhl_any (c : Clm) (hok : ClmOk c) (hne : c.ns ≠ []) (hnd : c.ns.Nodup) (hkd : c.kd = 1 ∨ c.kd = 2) (na sa : Option Addr) (nc m sc : Nat) (sp : List Evx) (hm : m = sp.length) (hl : m ≤ 10000) (w : World) (hK : KAt .i64 w (.slice na c.ns.length nc) c.ns) (hS : EvxsAt w (.slice sa m sc) sp) :
    Calls Tryz.prog 70 #[clmV c na nc, .slice sa m sc] w fun e w' => e = .returned (.bool (holdsB c sp)) ∧ Below w.heap.size w w' := by
  obtain ⟨Z, hZ⟩ : ∃ Z, Z = holdsB c sp := ⟨_, rfl⟩
  rw [← hZ]
  have hfi := first_iff (c := c) hne hnd sp
  have hbd := fsT_bds hok
  have hns := fun {i : Nat} {y : Int} (h : c.ns[i]? = some y) (x : Evx) => inN_step hnd h x
  have hn20 := hok.n20
  have ht0 := hok.f1
  have ht1 := hok.t1
  have hf0 := hok.f0
  obtain ⟨C, hC⟩ : ∃ C, C = c := ⟨_, rfl⟩
  rw [← hC] at hZ hfi hbd hns
  obtain ⟨kd, ns, fr, to, lo, hi⟩ := c
  unfold clmV
  simp only at hK hkd hn20 ht0 ht1 hne hf0 ⊢
  obtain ⟨K, hKl⟩ : ∃ K, K = ns.length := ⟨_, rfl⟩
  rw [← hKl] at hK hn20 ⊢
  have hKp : 0 < K := by rw [hKl]; exact List.length_pos_iff.2 hne
  have HZ := Lib.hid hZ
  have HFI := Lib.hid hfi
  have HBD := Lib.hid hbd
  have HNS := Lib.hid (show ∀ (i : Nat) (y : Int), C.ns[i]? = some y → ∀ x, inN C (i + 1) x = inN C i x + if x.id = y ∧ inC C x = true then 1 else 0 from fun i y h x => hns h x)
  have HKL := Lib.hid hKl
  have HKA := Lib.hid hK
  have HSA := Lib.hid hS
  have HM := Lib.hid hm
  have HCC := Lib.hid hC
  have HKD := Lib.hid hkd
  clear hZ hfi hbd hns hKl hK hS hm hC hok hnd hne hkd
  have hmk := fun W => make_row K (by omega) W
  go_enter Tryz.func70, Tryz.ntmps70
  go_upto_region 2 with (fail)
  have hr0 : HlW kd fr to lo hi na K nc w.heap.size (w.heap.size + 1) w (fun _ => 0) ((w.alloc (.cells #[.int .i64 kd, .slice na K nc, .int .i64 fr, .int .i64 to, .int .i64 lo, .int .i64 hi] 54)).alloc (.cells (rowC K fun _ => 0).toArray 3)) :=
    ⟨((Below.refl _ _).alloc (Nat.le_refl _) _).alloc (by simp) _, (Below.heap_alloc _ _ _ (by simp)).trans (alloc_new_at _ _ _ rfl), alloc_new_at _ _ _ (by simp)⟩
  obtain ⟨cb, hcb⟩ : ∃ x, x = w.heap.size := ⟨_, rfl⟩
  obtain ⟨rb, hrb⟩ : ∃ x, x = w.heap.size + 1 := ⟨_, rfl⟩
  rw [← hrb] at hr0
  rw [← hcb] at hr0
  have HR0 := Lib.hid hr0
  have hw1 : w.heap.size ≤ rb := by omega
  have hw2 : cb ≠ rb := by omega
  clear hr0 hmk
  rw [← hrb, ← hcb]
  generalize (w.alloc (.cells #[.int .i64 kd, .slice na K nc, .int .i64 fr, .int .i64 to, .int .i64 lo, .int .i64 hi] 54)).alloc (.cells (rowC K fun _ => 0).toArray 3) = W1 at *
  clear hcb hrb
  go_wp2
  go_loopw [6] (fun st wr => ∃ j : Nat, j ≤ K ∧ st = .int .i64 j ∧ HlW kd fr to lo hi na K nc cb rb w (fun q => if q < j then to else 0) wr) (fun st _ => K - (intOf st).toNat)
  case atStart => exact ⟨0, Nat.zero_le _, rfl, HR0.out.congr (fun i _ => by rw [if_neg (by omega)])⟩
  case round =>
    obtain ⟨j, hj, rfl, h⟩ := hrel
    have HH := Lib.hid h
    obtain ⟨q0, q1, q2, q3, q4, q5⟩ := cells6 h.box
    have hi0 : (0 : Int) ≤ (j : Int) := Int.natCast_nonneg _
    by_cases hlt : j < K
    · obtain ⟨y0, f0⟩ := h.row.cell (i := j) hlt
      have hi1 : (j : Int) < (K : Int) := by omega
      have HS := Lib.hid (h.set hw1 hw2 hlt to)
      clear h
      go_wp2
      go_roundw
      case rel => exact ⟨j + 1, by omega, by go_num, HS.out.congr (fun i _ => by
        by_cases e : i = j
        · rw [if_pos e, if_pos (by omega)]
        · rw [if_neg e]
          by_cases e2 : i < j
          · rw [if_pos e2, if_pos (by omega)]
          · rw [if_neg e2, if_neg (by omega)])⟩
      case measure => simp [intOf]; omega
    have hjK : j = K := by omega
    clear h hlt hi0 q0 q1 q2 q3 q4 q5
    subst hjK
    have HB := Lib.hid (HH.out.congr (g := fun q => fsT C (ntN C q) (sp.take 0)) (fun i hi => by rw [if_pos hi, List.take_zero, fsT_nil, HCC.out]))
    clear HH HR0
    generalize wr = W2 at *
    have hjj : ((j : Int) < (j : Int)) = False := by simp
    go_wp2
    clear hjj
    go_loopw [7, 8] (fun s7 s8 wr => ∃ k : Nat, k ≤ m ∧ s8 = .int .i64 k ∧ s7 = .int .i64 ((ownL C (sp.take k)).length : Nat) ∧ HlW kd fr to lo hi na j nc cb rb w (fun q => fsT C (ntN C q) (sp.take k)) wr) (fun _ s8 _ => m - (intOf s8).toNat)
    case atStart => exact ⟨0, Nat.zero_le _, rfl, by simp [ownL], HB.out⟩
    case round =>
      obtain ⟨k, hk, rfl, rfl, h⟩ := hrel
      have hN1 : (ownL C (sp.take k)).length ≤ 10000 := by have := ownL_le C (sp.take k); rw [List.length_take] at this; omega
      have HSNK := Lib.hid (fun (x : Evx) (hx : sp[k]? = some x) => show sp.take (k + 1) = sp.take k ++ [x] from by rw [List.take_add_one, hx]; rfl)
      obtain ⟨N, hN⟩ : ∃ N, N = (ownL C (sp.take k)).length := ⟨_, rfl⟩
      obtain ⟨L, hL⟩ : ∃ L, L = sp.take k := ⟨_, rfl⟩
      rw [← hN] at hN1 ⊢
      rw [← hL] at hN h HSNK
      have HN := Lib.hid hN
      have HL := Lib.hid hL
      have HH := Lib.hid h
      have hk0 : (0 : Int) ≤ (k : Int) := Int.natCast_nonneg _
      clear hN hL
      by_cases hlt : k < m
      · obtain ⟨x, hx⟩ : ∃ x, sp[k]? = some x := ⟨_, List.getElem?_eq_getElem (by rw [← HM.out]; exact hlt)⟩
        have hk1 : (k : Int) < (m : Int) := by omega
        have HX := Lib.hid hx
        have HSN := Lib.hid (HSNK.out x hx)
        clear hx h HSNK
        generalize wr = W3 at *
        go_wp2
        go_loopw [7, 9] (fun s7 s9 wr => ∃ i : Nat, i ≤ j ∧ s9 = .int .i64 i ∧ s7 = .int .i64 ((N + inN C i x : Nat)) ∧ HlW kd fr to lo hi na j nc cb rb w (fsJ C L (L ++ [x]) i) wr) (fun _ s9 _ => j - (intOf s9).toNat)
        case atStart => exact ⟨0, Nat.zero_le _, rfl, by rw [inN_zero]; rfl, HH.out.congr (fun q _ => by unfold fsJ; rw [if_neg (by omega)])⟩
        case round =>
          obtain ⟨i, hi', rfl, rfl, h⟩ := hrel
          have hJ1 : inN C i x ≤ 1 := by unfold inN; split <;> omega
          have HG := Lib.hid h
          have hi0 : (0 : Int) ≤ (i : Int) := Int.natCast_nonneg _
          obtain ⟨q0, q1, q2, q3, q4, q5⟩ := cells6 h.box
          by_cases hlti : i < j
          · obtain ⟨U, hU⟩ : ∃ x, ns[i]? = some x := ⟨_, List.getElem?_eq_getElem (by rw [← HKL.out]; exact hlti)⟩
            have hUC : C.ns[i]? = some U := by rw [HCC.out]; exact hU
            have hi1 : (i : Int) < (j : Int) := by omega
            have hst := HNS.out i U hUC x
            have HNO := Lib.hid (fun h => fsJ_no (l := L) (x := x) hUC h)
            have HYES := Lib.hid (fun h h2 => fsJ_yes (l := L) (x := x) hUC h h2)
            obtain ⟨y0, f0⟩ := h.row.cell (i := i) hlti
            rw [fsJ_at hUC] at y0
            have hbm := HBD.out U L
            have hmv := fsJ_at (c := C) (l := L) (r := L ++ [x]) hUC
            obtain ⟨M, hM⟩ : ∃ M, M = fsT C U L := ⟨_, rfl⟩
            rw [← hM] at y0 hbm HYES hmv
            have HMV := Lib.hid hmv
            obtain ⟨kb, koff, rfl, _, u0⟩ := (HKA.out.below h.bel).at hU
            obtain ⟨eb, eoff, rfl, _, hcl⟩ := (HSA.out.below h.bel).at HX.out
            have hic : inC C x = (decide (fr ≤ x.tk) && decide (x.tk ≤ to - 1)) := by rw [HCC.out]; rfl
            obtain ⟨A, hA⟩ : ∃ A, A = N + inN C i x := ⟨_, rfl⟩
            have hAl : A ≤ 10001 := by omega
            rw [← hA]
            have HA := Lib.hid hA
            have HST := Lib.hid hst
            have HIC := Lib.hid hic
            obtain ⟨X, Y⟩ := x
            obtain ⟨u1, u2⟩ := hcl
            simp only at u1 u2
            have hbm1 := hbm.1
            have hbm2 := hbm.2
            clear h hst hic hA hM hU hUC hbm hJ1 hmv
            by_cases hall : Y = U ∧ fr ≤ X ∧ X < to
            · obtain ⟨c1, c2, c3⟩ := hall
              have g1 : (Y == U) = true := by simp [c1]
              have g1' : (Y = U) = True := by simp [c1]
              have g2 : (fr ≤ X) = True := by simp only [eq_iff_iff, iff_true]; exact c2
              have g3 : (X < to) = True := by simp only [eq_iff_iff, iff_true]; exact c3
              have hin : inC C ⟨X, Y⟩ = true := by rw [HIC.out]; simp; omega
              have HY := Lib.hid (HYES.out c1 hin)
              have HJ := Lib.hid (show inN C (i + 1) ⟨X, Y⟩ = inN C i ⟨X, Y⟩ + 1 from by rw [HST.out, if_pos ⟨c1, hin⟩])
              clear HIC HYES HNO HST hin
              go_upto_region 13 with (fail)
              go_quiet (fail)
              have HG2 := Lib.hid (HG.out.drewN nq)
              clear g1 g1' g2 g3 q0 q1 q2 q3 q4 q5 u0 u1 u2 y0 f0
              generalize wr.drewN nq = W5 at *
              have hyv : fsJ C L (L ++ [⟨X, Y⟩]) i i = M := HMV.out
              obtain ⟨y0, f0⟩ := HG2.out.row.cell (i := i) hlti
              rw [hyv] at y0
              obtain ⟨eb', eoff', ee, _, u1, _⟩ := (HSA.out.below HG2.out.bel).at HX.out
              obtain ⟨rfl, rfl⟩ : eb = eb' ∧ eoff = eoff' := by cases ee; exact ⟨rfl, rfl⟩
              simp only at u1
              clear ee hyv
              go_upto_region 15 with (fail)
              go_still_tail 13, (by kernel_rfl)
              change wpList _ _ _ _ _ W5.drew
              have HG3 := Lib.hid HG2.out.drew
              clear y0 f0 u1
              generalize W5.drew = W6 at *
              obtain ⟨y0, f0⟩ := HG3.out.row.cell (i := i) hlti
              have HS := Lib.hid (HG3.out.set hw1 hw2 hlti (min M X))
              go_wp2
              go_roundw
              case rel => exact ⟨i + 1, by omega, by go_num, by rw [HJ.out, ← Nat.add_assoc, ← HA.out]; go_num, HS.out.congr (fun q _ => (HY.out q).symm)⟩
              case measure => simp [intOf]; omega
            · have HN2 := Lib.hid (show ¬ (Y = U ∧ inC C ⟨X, Y⟩ = true) from fun hh => hall ⟨hh.1, by have := hh.2; rw [HIC.out] at this; simp at this; omega⟩)
              have HY := Lib.hid (HNO.out HN2.out)
              have HJ := Lib.hid (show inN C (i + 1) ⟨X, Y⟩ = inN C i ⟨X, Y⟩ from by rw [HST.out, if_neg HN2.out, Nat.add_zero])
              clear HIC HYES HNO HST HN2
              go_upto_region 13 with (fail)
              by_cases c1 : Y = U
              · have g1 : (Y == U) = true := by simp [c1]
                have g1' : (Y = U) = True := by simp [c1]
                by_cases c2 : fr ≤ X
                · have g2 : (fr ≤ X) = True := by simp only [eq_iff_iff, iff_true]; exact c2
                  have g3 : (X < to) = False := by simp only [eq_iff_iff, iff_false]; exact fun h => hall ⟨c1, c2, h⟩
                  clear c1 c2 hall
                  go_quiet (fail)
                  go_wp2
                  go_roundw
                  case rel => exact ⟨i + 1, by omega, by go_num, by rw [HJ.out, ← HA.out], (HG.out.drewN nq).congr (fun q _ => (HY.out q).symm)⟩
                  case measure => simp [intOf]; omega
                · have g2 : (fr ≤ X) = False := by simp only [eq_iff_iff, iff_false]; exact c2
                  clear c1 c2 hall
                  go_quiet (fail)
                  go_wp2
                  go_roundw
                  case rel => exact ⟨i + 1, by omega, by go_num, by rw [HJ.out, ← HA.out], (HG.out.drewN nq).congr (fun q _ => (HY.out q).symm)⟩
                  case measure => simp [intOf]; omega
              · have g1 : (Y == U) = false := by simp [c1]
                have g1' : (Y = U) = False := by simp [c1]
                clear c1 hall
                go_quiet (fail)
                go_wp2
                go_roundw
                case rel => exact ⟨i + 1, by omega, by go_num, by rw [HJ.out, ← HA.out], (HG.out.drewN nq).congr (fun q _ => (HY.out q).symm)⟩
                case measure => simp [intOf]; omega
          have hij : i = j := by omega
          clear h hlti hi0 q0 q2 q3 q4 q5
          subst hij
          have HB2 := Lib.hid (HG.out.congr (g := fun q => fsT C (ntN C q) (sp.take (k + 1))) (fun q hq => by unfold fsJ; rw [if_pos hq, HSN.out]))
          have HN2 := Lib.hid (show ((ownL C (sp.take (k + 1))).length : Nat) = N + inN C i x from by rw [HSN.out, inN_all, ← HN.out, HCC.out, ← HCC.out]; rw [show C.ns.length = i from by rw [HCC.out]; exact HKL.out.symm])
          have hjj : ((i : Int) < (i : Int)) = False := by simp
          clear HG HH HB
          go_wp2
          go_roundw
          case rel => exact ⟨k + 1, by omega, by go_num, by rw [HN2.out], HB2.out⟩
          case measure => simp [intOf]; omega
      have hkm : k = m := by omega
      subst hkm
      have hL0 : L = sp := by rw [HL.out, HM.out, List.take_length]
      clear h HSNK hlt hk0 HB hk
      subst hL0
      have HN3 := Lib.hid (show N = (ownL C L).length from HN.out)
      clear HL HN
      generalize wr = W3 at *
      have HCN := Lib.hid HH.out.box
      have HCF := Lib.hid (show C.lo = lo ∧ C.hi = hi ∧ C.kd = kd ∧ C.to = to from by rw [HCC.out]; exact ⟨rfl, rfl, rfl, rfl⟩)
      obtain ⟨q0, q1, q2, q3, q4, q5⟩ := cells6 HCN.out
      have hkk : ((k : Int) < (k : Int)) = False := by simp
      have HC1 := Lib.hid (show ∀ i : Nat, i < j → ∃ y, C.ns[i]? = some y ∧ ntN C i = y from fun i hi => ⟨_, by rw [HCC.out]; exact List.getElem?_eq_getElem (by rw [← HKL.out]; exact hi), by unfold ntN; rw [HCC.out, List.getElem?_eq_getElem (by rw [← HKL.out]; exact hi)]; rfl⟩)
      have HC2 := Lib.hid (show ∀ (i : Nat) (y : Int), C.ns[i]? = some y → i < j ∧ ntN C i = y from fun i y hy => by
        refine ⟨?_, by unfold ntN; rw [hy]; rfl⟩
        rw [HCC.out] at hy
        have := (List.getElem?_eq_some_iff.1 hy).1
        rw [HKL.out]; exact this)
      rcases HKD.out with hkd | hkd
      · subst hkd
        have HZF := Lib.hid (show Z = firstB C L from by rw [HZ.out]; unfold holdsB; rw [if_neg (by rw [HCF.out.2.2.1]; decide)])
        go_wp2
        clear q0 q1 q2 q3 q4 q5 hkk
        go_loopw [10] (fun st wr => ∃ i : Nat, 1 ≤ i ∧ i ≤ j ∧ st = .int .i64 i ∧ HlW 1 fr to lo hi na j nc cb rb w (fun q => fsT C (ntN C q) L) wr ∧ Hid (∀ q, 1 ≤ q → q < i → fsT C (ntN C 0) L < fsT C (ntN C q) L)) (fun st _ => j - (intOf st).toNat)
        case atStart => exact ⟨1, Nat.le_refl _, hKp, rfl, HH.out, Lib.hid (fun q a b => by omega)⟩
        case round =>
          obtain ⟨i, hi1, hij, rfl, h, HQ⟩ := hrel
          have HG := Lib.hid h
          have hi0 : (0 : Int) ≤ (i : Int) := Int.natCast_nonneg _
          have hj0 : (0 : Int) < (j : Int) := by omega
          obtain ⟨y0, f0⟩ := h.row.cell (i := 0) hKp
          obtain ⟨M0, hM0⟩ : ∃ M, M = fsT C (ntN C 0) L := ⟨_, rfl⟩
          rw [← hM0] at y0 HQ
          have HM0 := Lib.hid hM0
          clear hM0
          by_cases hlt : i < j
          · have hi2 : (i : Int) < (j : Int) := by omega
            obtain ⟨y1, f1⟩ := h.row.cell (i := i) hlt
            obtain ⟨M1, hM1⟩ : ∃ M, M = fsT C (ntN C i) L := ⟨_, rfl⟩
            rw [← hM1] at y1
            have HM1 := Lib.hid hM1
            clear hM1 h
            by_cases c : M1 ≤ M0
            · have g : (M1 ≤ M0) = True := by simp only [eq_iff_iff, iff_true]; exact c
              have HR := Lib.hid (show Z = false from by
                rw [HZF.out]
                cases e : firstB C L with
                | false => rfl
                | true =>
                  obtain ⟨y, hy, hy2⟩ := HC1.out i hlt
                  obtain ⟨y3, hy3, hy4⟩ := HC1.out 0 hKp
                  have := (HFI.out.1 e).1 i y hi1 hy
                  rw [← hy2, show n0 C = ntN C 0 from rfl, ← HM0.out, ← HM1.out] at this
                  omega)
              clear c
              go_upto_region 21 with (fail)
              go_quiet (fail)
              go_wp2
              go_ret
              exact ⟨by rw [HR.out]; rfl, (HG.out.drewN nq).bel⟩
            · have g : (M1 ≤ M0) = False := by simp only [eq_iff_iff, iff_false]; exact c
              go_upto_region 21 with (fail)
              go_quiet (fail)
              clear g
              go_wp2
              go_roundw
              case rel => exact ⟨i + 1, by omega, by omega, by go_num, HG.out.drewN nq, Lib.hid (fun q a b => by
                by_cases e : q = i
                · subst e; rw [← HM0.out, ← HM1.out]; omega
                · rw [← HM0.out]; exact HQ.out q a (by omega))⟩
              case measure => simp [intOf]; omega
          have hij2 : i = j := by omega
          clear h hlt hij
          subst hij2
          have hii : ((i : Int) < (i : Int)) = False := by simp
          obtain ⟨q0, q1, q2, q3, q4, q5⟩ := cells6 HG.out.box
          have HALL := Lib.hid (show ∀ (t : Nat) (y : Int), 1 ≤ t → C.ns[t]? = some y → M0 < fsT C y L from fun t y h1 hy => by
            obtain ⟨h2, h3⟩ := HC2.out t y hy
            rw [← h3]; exact HQ.out t h1 h2)
          by_cases c : M0 < to
          · have g : (M0 < to) = True := by simp only [eq_iff_iff, iff_true]; exact c
            have HR := Lib.hid (show Z = true from by
              rw [HZF.out]
              refine HFI.out.2 ⟨fun t y h1 hy => ?_, ?_⟩
              · rw [show n0 C = ntN C 0 from rfl, ← HM0.out]; exact HALL.out t y h1 hy
              · rw [show n0 C = ntN C 0 from rfl, ← HM0.out, HCF.out.2.2.2]; exact c)
            clear c
            go_upto_region 23 with (fail)
            go_quiet (fail)
            go_wp2
            go_ret
            exact ⟨by rw [HR.out]; rfl, (HG.out.drewN nq).bel⟩
          · have g : (M0 < to) = False := by simp only [eq_iff_iff, iff_false]; exact c
            have HR := Lib.hid (show Z = false from by
              rw [HZF.out]
              cases e : firstB C L with
              | false => rfl
              | true =>
                have := (HFI.out.1 e).2
                rw [show n0 C = ntN C 0 from rfl, ← HM0.out, HCF.out.2.2.2] at this
                exact absurd this c)
            clear c
            go_upto_region 23 with (fail)
            go_quiet (fail)
            go_wp2
            go_ret
            exact ⟨by rw [HR.out]; rfl, (HG.out.drewN nq).bel⟩
      · subst hkd
        have HZF := Lib.hid (show Z = inR (N : Int) lo hi from by rw [HZ.out]; unfold holdsB; rw [if_pos HCF.out.2.2.1, ← HN3.out, HCF.out.1, HCF.out.2.1])
        by_cases a : lo ≤ (N : Int)
        · have g1 : (lo ≤ (N : Int)) = True := by simp only [eq_iff_iff, iff_true]; exact a
          by_cases b : (N : Int) ≤ hi
          · have g2 : ((N : Int) ≤ hi) = True := by simp only [eq_iff_iff, iff_true]; exact b
            have HR := Lib.hid (show Z = true from by rw [HZF.out]; simp [inR, a, b])
            clear a b
            go_wp2
            go_ret
            exact ⟨by rw [HR.out]; rfl, HH.out.bel⟩
          · have g2 : ((N : Int) ≤ hi) = False := by simp only [eq_iff_iff, iff_false]; exact b
            have HR := Lib.hid (show Z = false from by rw [HZF.out]; simp [inR, a, b])
            clear a b
            go_wp2
            go_ret
            exact ⟨by rw [HR.out]; rfl, HH.out.bel⟩
        · have g1 : (lo ≤ (N : Int)) = False := by simp only [eq_iff_iff, iff_false]; exact a
          have HR := Lib.hid (show Z = false from by rw [HZF.out]; simp [inR, a])
          clear a
          go_wp2
          go_ret
          exact ⟨by rw [HR.out]; rfl, HH.out.bel⟩
end Go.Proofs.YtnbndciididpoaaGreat
