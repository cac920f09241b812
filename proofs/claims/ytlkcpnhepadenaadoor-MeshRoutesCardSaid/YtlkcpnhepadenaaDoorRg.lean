/- Routes: mesh.Tree. Over this seat's program. -/
import Derived.Test.YtlkcpnhepadenaaDoorRf
import Derived.Test.YtlkcpnhepadenaaDoorBi
namespace Go.Proofs.YtlkcpnhepadenaaDoor
set_option linter.unusedVariables false
open Go.RowKit Go.Shelf
attribute [local go_sem] Oper.semAt_some

/-- The mark that a range over a function leaves. -/
def mark (D : Nat) : Deferred := { target := .collected D, args := #[] }
theorem leaves_marks {F : Fence} {n : Nat} {P : Program} {fn : Func} {tmps : Array Value} {R : Ending → World → Prop} : ∀ (Ds : List Nat) (w : World), (∀ D ∈ Ds, w.heap[D]? = some (.deferred (some []))) → Ds.Nodup →
    (∀ w', w'.os = w.os → w'.tape = w.tape → w'.output = w.output → w'.heap.size = w.heap.size → (∀ b, b ∉ Ds → w'.heap[b]? = w.heap[b]?) → LeavesIn F n P fn tmps R [] .returning w') → LeavesInM F n P fn tmps R (Ds.map mark) .returning w
  | [], w, _, _, h => h w rfl rfl rfl rfl fun _ _ => rfl
  | D :: Ds, w, hD, hn, h => by
    refine ⟨by simp, .inl ⟨D, _, rfl, run_takeDeferred (hD D (by simp)), ?_⟩⟩
    have hn' := List.nodup_cons.1 hn
    refine leaves_marks Ds _ (fun D' h' => ?_) hn'.2 (fun w' e1 e2 e3 e4 e5 => ?_)
    · rw [World.putObj_heap_other (fun e => hn'.1 (by rw [← e]; exact h'))]
      exact hD D' (by simp [h'])
    · refine h w' e1 e2 e3 (by rw [e4]; simp) fun b hb => ?_
      rw [e5 b fun h' => hb (by simp [h']), World.putObj_heap_other (fun e => hb (by simp [e]))]

def orM (x y : Int) : Int := bits BinOp.or IntKind.i64 x y
def updM (f : Nat → Int) (x : Nat × Nat) : Nat → Int := fun r => if r = x.1 then orM (f x.1) (x.2 : Int) else f r
def wayM (W a : Nat) (f : Nat → Int) (t : Nat) : Nat → Int := (rtL W a t).foldl updM f
/-- The outputs of each router in a tree. -/
def treeM (W a : Nat) (ts : List Nat) : Nat → Int := ts.foldl (wayM W a) (fun _ => 0)

theorem cons_of {α : Type} {l : List α} {k : Nat} (h : l.length = k + 1) : ∃ x r, l = x :: r ∧ r.length = k := by
  cases l with
  | nil => simp at h
  | cons x r => exact ⟨x, r, rfl, by simpa using h⟩
theorem arr63 {L : Array Value} (h : L.size = 63) : ∃ t0 t1 t2 t3 t4 t5 t6 t7 t8 t9 t10 t11 t12 t13 t14 t15 t16 t17 t18 t19 t20 t21 t22 t23 t24 t25 t26 t27 t28 t29 t30 t31 t32 t33 t34 t35 t36 t37 t38 t39 t40 t41 t42 t43 t44 t45 t46 t47 t48 t49 t50 t51 t52 t53 t54 t55 t56 t57 t58 t59 t60 t61 t62 : Value, L = #[t0, t1, t2, t3, t4, t5, t6, t7, t8, t9, t10, t11, t12, t13, t14, t15, t16, t17, t18, t19, t20, t21, t22, t23, t24, t25, t26, t27, t28, t29, t30, t31, t32, t33, t34, t35, t36, t37, t38, t39, t40, t41, t42, t43, t44, t45, t46, t47, t48, t49, t50, t51, t52, t53, t54, t55, t56, t57, t58, t59, t60, t61, t62] := by
  obtain ⟨l⟩ := L
  have g : l.length = 63 := h
  clear h
  obtain ⟨t0, l0, rfl, g0⟩ := cons_of g
  obtain ⟨t1, l1, rfl, g1⟩ := cons_of g0
  obtain ⟨t2, l2, rfl, g2⟩ := cons_of g1
  obtain ⟨t3, l3, rfl, g3⟩ := cons_of g2
  obtain ⟨t4, l4, rfl, g4⟩ := cons_of g3
  obtain ⟨t5, l5, rfl, g5⟩ := cons_of g4
  obtain ⟨t6, l6, rfl, g6⟩ := cons_of g5
  obtain ⟨t7, l7, rfl, g7⟩ := cons_of g6
  obtain ⟨t8, l8, rfl, g8⟩ := cons_of g7
  obtain ⟨t9, l9, rfl, g9⟩ := cons_of g8
  obtain ⟨t10, l10, rfl, g10⟩ := cons_of g9
  obtain ⟨t11, l11, rfl, g11⟩ := cons_of g10
  obtain ⟨t12, l12, rfl, g12⟩ := cons_of g11
  obtain ⟨t13, l13, rfl, g13⟩ := cons_of g12
  obtain ⟨t14, l14, rfl, g14⟩ := cons_of g13
  obtain ⟨t15, l15, rfl, g15⟩ := cons_of g14
  obtain ⟨t16, l16, rfl, g16⟩ := cons_of g15
  obtain ⟨t17, l17, rfl, g17⟩ := cons_of g16
  obtain ⟨t18, l18, rfl, g18⟩ := cons_of g17
  obtain ⟨t19, l19, rfl, g19⟩ := cons_of g18
  obtain ⟨t20, l20, rfl, g20⟩ := cons_of g19
  obtain ⟨t21, l21, rfl, g21⟩ := cons_of g20
  obtain ⟨t22, l22, rfl, g22⟩ := cons_of g21
  obtain ⟨t23, l23, rfl, g23⟩ := cons_of g22
  obtain ⟨t24, l24, rfl, g24⟩ := cons_of g23
  obtain ⟨t25, l25, rfl, g25⟩ := cons_of g24
  obtain ⟨t26, l26, rfl, g26⟩ := cons_of g25
  obtain ⟨t27, l27, rfl, g27⟩ := cons_of g26
  obtain ⟨t28, l28, rfl, g28⟩ := cons_of g27
  obtain ⟨t29, l29, rfl, g29⟩ := cons_of g28
  obtain ⟨t30, l30, rfl, g30⟩ := cons_of g29
  obtain ⟨t31, l31, rfl, g31⟩ := cons_of g30
  obtain ⟨t32, l32, rfl, g32⟩ := cons_of g31
  obtain ⟨t33, l33, rfl, g33⟩ := cons_of g32
  obtain ⟨t34, l34, rfl, g34⟩ := cons_of g33
  obtain ⟨t35, l35, rfl, g35⟩ := cons_of g34
  obtain ⟨t36, l36, rfl, g36⟩ := cons_of g35
  obtain ⟨t37, l37, rfl, g37⟩ := cons_of g36
  obtain ⟨t38, l38, rfl, g38⟩ := cons_of g37
  obtain ⟨t39, l39, rfl, g39⟩ := cons_of g38
  obtain ⟨t40, l40, rfl, g40⟩ := cons_of g39
  obtain ⟨t41, l41, rfl, g41⟩ := cons_of g40
  obtain ⟨t42, l42, rfl, g42⟩ := cons_of g41
  obtain ⟨t43, l43, rfl, g43⟩ := cons_of g42
  obtain ⟨t44, l44, rfl, g44⟩ := cons_of g43
  obtain ⟨t45, l45, rfl, g45⟩ := cons_of g44
  obtain ⟨t46, l46, rfl, g46⟩ := cons_of g45
  obtain ⟨t47, l47, rfl, g47⟩ := cons_of g46
  obtain ⟨t48, l48, rfl, g48⟩ := cons_of g47
  obtain ⟨t49, l49, rfl, g49⟩ := cons_of g48
  obtain ⟨t50, l50, rfl, g50⟩ := cons_of g49
  obtain ⟨t51, l51, rfl, g51⟩ := cons_of g50
  obtain ⟨t52, l52, rfl, g52⟩ := cons_of g51
  obtain ⟨t53, l53, rfl, g53⟩ := cons_of g52
  obtain ⟨t54, l54, rfl, g54⟩ := cons_of g53
  obtain ⟨t55, l55, rfl, g55⟩ := cons_of g54
  obtain ⟨t56, l56, rfl, g56⟩ := cons_of g55
  obtain ⟨t57, l57, rfl, g57⟩ := cons_of g56
  obtain ⟨t58, l58, rfl, g58⟩ := cons_of g57
  obtain ⟨t59, l59, rfl, g59⟩ := cons_of g58
  obtain ⟨t60, l60, rfl, g60⟩ := cons_of g59
  obtain ⟨t61, l61, rfl, g61⟩ := cons_of g60
  obtain ⟨t62, l62, rfl, g62⟩ := cons_of g61
  obtain rfl := List.eq_nil_of_length_eq_zero g62
  exact ⟨_, _, _, _, _, _, _, _, _, _, _, _, _, _, _, _, _, _, _, _, _, _, _, _, _, _, _, _, _, _, _, _, _, _, _, _, _, _, _, _, _, _, _, _, _, _, _, _, _, _, _, _, _, _, _, _, _, _, _, _, _, _, _, rfl⟩

/-- What a route's loop of Tree holds. -/
structure TrI (W a t n lB g sB B : Nat) (Hn R : Int) (f0 : Nat → Int) (Ds : List Nat) (w : World) (k : Nat) (A : World) : Prop where
  cell : A.heap[lB]? = some (.cells #[.slice (some ⟨g, 0, none⟩) n n] 24)
  row : TimesAt A g n (((rtL W a t).take k).foldl updM f0)
  spec : MSpecAt A sB W Hn R
  marks : ∀ D ∈ Ds, A.heap[D]? = some (.deferred (some []))
  below : Below B w A
theorem TrI.keep {W a t n lB g sB B : Nat} {Hn R : Int} {f0 : Nat → Int} {Ds : List Nat} {w : World} {k : Nat} {A A' : World} (h : TrI W a t n lB g sB B Hn R f0 Ds w k A) (hb : ∀ b, b = lB ∨ b = g ∨ b = sB ∨ b ∈ Ds → A'.heap[b]? = A.heap[b]?) (hB : Below B w A') : TrI W a t n lB g sB B Hn R f0 Ds w k A' :=
  ⟨(hb _ (by simp)).trans h.cell, h.row.of_block (hb _ (by simp)), (hb _ (by simp)).trans h.spec, fun D hD => (hb _ (by simp [hD])).trans (h.marks D hD), hB⟩

/-- What Tree returns where there is no error. -/
def TreeOk (W a n : Nat) (ts : List Nat) (w : World) (e : Ending) (w' : World) : Prop :=
  ∃ g, e = .returned (.tuple #[.slice (some ⟨g, 0, none⟩) n n, .int .i64 0]) ∧ TimesAt w' g n (treeM W a ts) ∧ Below w.heap.size w w'

set_option maxRecDepth 100000 in
set_option maxHeartbeats 4000000 in
theorem tree_in (W a Hn : Nat) (R : Int) (h1 : 1 ≤ W) (h2 : W ≤ 8) (hH : 1 ≤ Hn) (hH2 : Hn ≤ 8) (hR : 1 ≤ R ∧ R ≤ 64) (ha : a < W * Hn) (ts : List Nat) (hts : ∀ t ∈ ts, t < W * Hn) (hne : ts ≠ []) (sa : Option Addr) (m cap : Nat) (hm : m = ts.length) (hm2 : m ≤ 100)
    (w : World) (hI : IntsAt w (.slice sa m cap) (ts.map fun t : Nat => (t : Int))) :
    CallsIn Fence.wide 0 Tryd.prog 22 #[.agg #[.int .i64 (W : Int), .int .i64 (Hn : Int), .int .i64 R], .int .i64 (a : Int), .slice sa m cap] w (TreeOk W a (W * Hn) ts w) := by
  have hck : chkM W Hn R = 0 := by
    unfold chkM; rw [if_pos]; simp only [Bool.and_eq_true, inR_true]; omega
  have hc : ∀ w, Calls Tryd.prog 17 #[.agg #[.int .i64 (W : Int), .int .i64 (Hn : Int), .int .i64 R]] w fun e w' => e = .returned (.int .i64 0) ∧ Below w.heap.size w w' := fun w => by have := check_any W Hn R w; rw [hck] at this; exact this
  have h64 : W * Hn ≤ 64 := Nat.mul_le_mul h2 hH2
  have h65 : 1 * 1 ≤ W * Hn := Nat.mul_le_mul h1 hH
  have hX : (W : Int) * (Hn : Int) = ((W * Hn : Nat) : Int) := by push_cast; rfl
  have hrt := routers_any W Hn R (by omega) (by omega) ((W * Hn : Nat) : Int) hX (by omega) (by omega)
  have hex : ∀ x w, x < W * Hn → Calls Tryd.prog 50 #[.agg #[.int .i64 (W : Int), .int .i64 (Hn : Int), .int .i64 R], .int .i64 (x : Int)] w fun e w' => e = .returned (.bool true) ∧ Below w.heap.size w w' := fun x w hx => by
    have := exists_any W Hn R x ((W * Hn : Nat) : Int) (by omega) (by omega) hX (by omega) (by omega) w
    rw [inR_true.2 (by omega)] at this
    exact this
  have hzr := make_zeros (W * Hn) (by omega)
  have hgv : ∀ t, 0 < (rtL W a t).length ∧ ∀ x ∈ rtL W a t, t < W * Hn → x.1 < W * Hn := fun t => ⟨by rw [rtL_length]; omega, fun x hx ht => by
    unfold rtL at hx
    simp only [List.mem_map] at hx
    obtain ⟨k, _, rfl⟩ := hx
    exact itr_in h1 ha ht k⟩
  have hgi := fun (t bf bs bt : Nat) (ht : t < W * Hn) (w0 : World) (p1 : IntAt w0 bf a) (p2 : MSpecAt w0 bs W Hn R) (p3 : IntAt w0 bt t) => route1_gives W a t Hn R h1 h2 hH hH2 ha ht bf bs bt w0 p1 p2 p3
  obtain ⟨n, hn⟩ : ∃ n, n = W * Hn := ⟨_, rfl⟩
  rw [← hn] at hrt hzr hgi h64 h65 hex ha hts hgv ⊢
  have hm0 : 0 < m := by rw [hm]; exact List.length_pos_iff.2 hne
  obtain ⟨tb, to, rfl, _⟩ := intsAt_cell hI 0 (by simp; omega)
  have htl : ∀ j, j < m → ∃ t, ts[j]? = some t ∧ t < n ∧ w.cell? ⟨tb, to + j, none⟩ = some (.int .i64 (t : Int)) ∧ tb < w.heap.size := fun j hj => by
    obtain ⟨b, o, e, hc⟩ := intsAt_cell hI j (by simp; omega)
    cases e
    have hjl : j < ts.length := by omega
    refine ⟨ts[j], by simp [hjl], hts _ (List.getElem_mem hjl), ?_, World.block_lt_of_cell? w _ hc⟩
    rw [hc]; simp [hjl]
  have HCK := Lib.hid hc
  have HEX := Lib.hid hex
  have HA := Lib.hid ha
  have HRT := Lib.hid hrt
  have HGI := Lib.hid hgi
  have HGV := Lib.hid hgv
  have HTL := Lib.hid htl
  have HM := Lib.hid hm
  have HN := Lib.hid hn
  clear hck hc hex ha hrt hgi hgv htl hm hn hX h1 h2 hH hH2 hR hI hts hne
  have hn1 : (1 : Int) ≤ (n : Int) := by omega
  have hn2 : (n : Int) ≤ 64 := by omega
  refine callsIn_of_wp_marks Tryd.func22 rfl trivial ?_ rfl
  simp only [Tryd.ntmps22, List.size_toArray, List.length_cons, List.length_nil, Nat.reduceAdd, Nat.reduceSub, Array.replicate_succ, Array.replicate_zero, List.push_toArray, List.append_toArray, List.nil_append, List.cons_append]
  gi_wp2_with (refine ⟨trivial, rfl, ?_⟩; first
    | (gi_at_call 17; refine (callsIn_wide.2 (HCK.out _)).mono ?_; rintro e wx ⟨rfl, hb⟩; have fx : MSpecAt wx w.heap.size W Hn R := (hb.block _ (by simp)).trans (alloc_new_at _ _ _ rfl); obtain ⟨_, _, _⟩ := cells3 fx; have zx := fx.lt; have BX := Lib.hid (((Below.refl _ _).alloc (Nat.le_refl _) _).trans (hb.mono (by simp)) : Below w.heap.size w wx); have FX := Lib.hid fx; clear hb fx)
    | (gi_at_call 50; refine (callsIn_wide.2 (HEX.out a _ HA.out)).mono ?_; rintro e wy ⟨rfl, hb⟩; have FY := Lib.hid ((hb.block _ zx).trans FX.out : MSpecAt wy w.heap.size W Hn R); have BY := Lib.hid (BX.out.trans (hb.mono (by omega))); have zy := lt_of_block FY.out; clear hb))
  gi_loopw [27] (fun s27 wr => ∃ j : Nat, j ≤ m ∧ s27 = .int .i64 j ∧ Below wy.heap.size wy wr) (fun s27 _ => m - (intOf s27).toNat)
  case atStart => exact ⟨0, Nat.zero_le _, rfl, Below.refl _ _⟩
  case round =>
    obtain ⟨j, hj, rfl, hb⟩ := hrel
    have hj0 : (0 : Int) ≤ (j : Int) := Int.natCast_nonneg _
    have fr : MSpecAt wr w.heap.size W Hn R := (hb.block _ zy).trans FY.out
    obtain ⟨_, _, _⟩ := cells3 fr
    have FR := Lib.hid fr
    have zr := fr.lt
    have HB := Lib.hid hb
    clear fr hb
    by_cases hlt : j < m
    · have hj1 : (j : Int) < (m : Int) := by omega
      obtain ⟨t, _, htn, hct, htb⟩ := HTL.out j hlt
      have hc1 : wr.cell? ⟨tb, to + j, none⟩ = some (.int .i64 (t : Int)) := (((BY.out.trans (HB.out.mono (by omega)))).cell (p := ⟨tb, to + j, none⟩) htb).trans hct
      clear hct
      gi_wp2_with (refine ⟨trivial, rfl, ?_⟩; gi_at_call 50; refine (callsIn_wide.2 (HEX.out t _ htn)).mono ?_; rintro e w3 ⟨rfl, hb3⟩; have HB3 := Lib.hid hb3; clear hb3)
      go_roundw
      case rel => exact ⟨j + 1, hlt, by go_num, HB.out.trans (HB3.out.mono HB.out.size)⟩
      case measure => simp [intOf]; omega
    · obtain rfl : m = j := by omega
      have hm3 : ((m : Int) == 0) = false := by simp; omega
      gi_wp2_with (refine ⟨trivial, rfl, ?_⟩; gi_at_call 55; refine (callsIn_wide.2 (HRT.out _)).mono ?_; rintro e w1 ⟨rfl, hb1⟩; have FZ := Lib.hid ((hb1.block _ zr).trans FR.out : MSpecAt w1 w.heap.size W Hn R); have BZ := Lib.hid ((BY.out.trans (HB.out.mono (by omega))).trans (hb1.mono (by omega)) : Below w.heap.size w w1); have zz := lt_of_block FZ.out; clear hb1)
      obtain ⟨W2, hW2⟩ : ∃ W2, (w1.alloc (.cells (Array.replicate n (Value.int .i64 0)) 3)).alloc (.cells #[.slice (some ⟨w1.heap.size, 0, none⟩) n n] 24) = W2 := ⟨_, rfl⟩
      have q1 : TimesAt W2 w1.heap.size n (fun _ => 0) := by
        refine ⟨Array.replicate n (Value.int .i64 0), ?_, fun j hj => by simp [hj]⟩
        rw [← hW2, Below.heap_alloc _ _ _ (by simp)]; exact alloc_new_at _ _ _ rfl
      have q2 : W2.heap[w1.heap.size + 1]? = some (.cells #[.slice (some ⟨w1.heap.size, 0, none⟩) n n] 24) := by rw [← hW2]; exact alloc_new_at _ _ _ (by simp)
      have q3 : MSpecAt W2 w.heap.size W Hn R := by
        unfold MSpecAt; rw [← hW2, Below.heap_alloc _ _ _ (by simp; omega), Below.heap_alloc _ _ _ (by omega)]; exact FZ.out
      have q4 : Below w.heap.size w W2 := by rw [← hW2]; exact (BZ.out.alloc (by omega) _).alloc (by simp; omega) _
      rw [hW2]
      have hT0 : TrI W a 0 n (w1.heap.size + 1) w1.heap.size w.heap.size w.heap.size Hn R (treeM W a (ts.take 0)) [] w 0 W2 := ⟨q2, q1, q3, fun D hD => by simp at hD, q4⟩
      have hz2 : w1.heap.size + 2 = W2.heap.size := by rw [← hW2]; simp
      clear hW2 q1 q2 q3 q4
      have HT0 := Lib.hid hT0
      clear hT0
      refine wpIn_loop (fun A W' => ∃ (j : Nat) (Ds : List Nat), A.tmps.size = 63 ∧ A.tmps.getD 1 undef = .int .i64 (a : Int) ∧ A.tmps.getD 3 undef = .pointer (some ⟨w.heap.size, 0, none⟩) ∧ A.tmps.getD 11 undef = .pointer (some ⟨w1.heap.size + 1, 0, none⟩) ∧ A.tmps.getD 42 undef = .slice (some ⟨tb, to, none⟩) m cap ∧ A.tmps.getD 43 undef = .int .i64 (m : Int) ∧ A.tmps.getD 44 undef = .int .i64 (j : Int) ∧ A.defers = Ds.map mark ∧ j ≤ m ∧ Ds.Nodup ∧ (∀ D ∈ Ds, W2.heap.size ≤ D) ∧ TrI W a 0 n (w1.heap.size + 1) w1.heap.size w.heap.size w.heap.size Hn R (treeM W a (ts.take j)) Ds w 0 W') (fun A _ => m - (intOf (A.tmps.getD 44 undef)).toNat) ⟨0, [], by simp, by simp, by simp, by simp, by simp, by simp, by simp, rfl, Nat.zero_le _, List.nodup_nil, fun D hD => by simp at hD, HT0.out⟩ ?_
      rintro ⟨tm, df⟩ W' ⟨j, Ds, e63, e1, e3, e11, e42, e43, e44, edf, hj', hnd, hDs, hT⟩
      obtain ⟨t0, t1, t2, t3, t4, t5, t6, t7, t8, t9, t10, t11, t12, t13, t14, t15, t16, t17, t18, t19, t20, t21, t22, t23, t24, t25, t26, t27, t28, t29, t30, t31, t32, t33, t34, t35, t36, t37, t38, t39, t40, t41, t42, t43, t44, t45, t46, t47, t48, t49, t50, t51, t52, t53, t54, t55, t56, t57, t58, t59, t60, t61, t62, rfl⟩ := arr63 e63
      simp at e1 e3 e11 e42 e43 e44 edf
      subst e1 e3 e11 e42 e43 e44 edf
      clear e63
      have hj0 : (0 : Int) ≤ (j : Int) := Int.natCast_nonneg _
      obtain ⟨_, _, _⟩ := cells3 hT.spec
      obtain ⟨lB, hlB⟩ : ∃ lB, lB = w1.heap.size + 1 := ⟨_, rfl⟩
      obtain ⟨g, hg⟩ : ∃ g, g = w1.heap.size := ⟨_, rfl⟩
      obtain ⟨sB, hsB⟩ : ∃ sB, sB = w.heap.size := ⟨_, rfl⟩
      obtain ⟨f0, hf0⟩ : ∃ f0, f0 = treeM W a (ts.take j) := ⟨_, rfl⟩
      rw [← hlB, ← hg, ← hf0] at hT
      rw [← hlB]
      have hT : TrI W a 0 n lB g sB w.heap.size Hn R f0 Ds w 0 W' := by rw [hsB]; exact hT
      have lt1 := lt_of_block hT.cell
      have lt2 := hT.row.lt
      have lt3 := hT.spec.lt
      have lt4 : ∀ D ∈ Ds, D < W'.heap.size := fun D hD => lt_of_block (hT.marks D hD)
      have hTb := hT.below
      have HT := Lib.hid hT
      have HDS := Lib.hid hDs
      have HND := Lib.hid hnd
      have LT4 := Lib.hid lt4
      have HF0 := Lib.hid hf0
      have HTB := Lib.hid hTb
      have HLB := Lib.hid hlB
      have HG0 := Lib.hid hg
      have HSB := Lib.hid hsB
      have hlg : lB = g + 1 := by rw [hlB, hg]
      have hgB : sB < g := by rw [hg, hsB]; omega
      have hz2' : lB < W2.heap.size ∧ W2.heap.size = lB + 1 := by omega
      have HZ2 := Lib.hid hz2'
      have HGB := Lib.hid (show lB = g + 1 ∧ sB < g from ⟨hlg, hgB⟩)
      clear hDs hnd lt4 hf0 hlB hg hsB hz2' hlg hgB
      by_cases hlt : j < m
      · have hj1 : (j : Int) < (m : Int) := by omega
        obtain ⟨t, htj, htn, hct, htb⟩ := HTL.out j hlt
        have hc1 : W'.cell? ⟨tb, to + j, none⟩ = some (.int .i64 (t : Int)) := (hTb.cell (p := ⟨tb, to + j, none⟩) htb).trans hct
        have HTJ := Lib.hid htj
        clear hct htj hTb hT
        gi_wp2_with (refine ⟨trivial, rfl, ?_⟩; gi_at_call 51; refine (callsIn_wide.2 (route_any W Hn R a t _)).mono ?_; rintro e w5 ⟨bf, bs, bt, rfl, g1, g2, g3, g4, g5, g6, hb5⟩)
        have hz5 := hb5.size
        have hT5 : TrI W a t n lB g sB w.heap.size Hn R f0 Ds w 0 w5 :=
          ⟨(hb5.block _ lt1).trans HT.out.cell, HT.out.row.of_block (hb5.block _ lt2), (hb5.block _ lt3).trans HT.out.spec, fun D hD => (hb5.block _ (LT4.out D hD)).trans (HT.out.marks D hD), HTB.out.trans (hb5.mono HTB.out.size)⟩
        have hG := HGI.out t bf bs bt htn w5 g4 g5 g6
        have hcl : ∀ b, (b = bf ∨ b = bs ∨ b = bt) → b < w5.heap.size := by
          have e1 := g4.lt
          have e2 := g5.lt
          have e3 := g6.lt
          rintro b (rfl | rfl | rfl) <;> assumption
        have hown : ∀ b, b = g → ¬ (b = bf ∨ b = bs ∨ b = bt) := by rintro b rfl hc; omega
        have hwl := HTB.out.size
        refine wp_range1 (gf := 80) rfl entersR1 hG (Nat.le_refl _) (fun b hb => ⟨hcl b hb, rfl⟩) (fun _ => rfl) (fun b => b = g)
          (fun b hb => ⟨hown b hb, by omega⟩) (fun _ k A => TrI W a t n lB g sB w.heap.size Hn R f0 Ds w k A) (fun _ _ _ _ => False)
          (fun G k A A' hi hb => hi.keep (fun b hb' => hb.block b (by rcases hb' with rfl | rfl | rfl | h; exact lt_of_block hi.cell; exact hi.row.lt; exact hi.spec.lt; exact lt_of_block (hi.marks b h)) (fun hc => by rcases hb' with rfl | rfl | rfl | h; omega; omega; omega; have := LT4.out b h; omega)) (hi.below.trans (hb.below (by have := hi.below.size; omega) (fun b hb' hc => by omega))))
          (fun _ _ _ _ _ hi _ => hi) hT5 ?hround ?hdone ?hstop
        case hstop =>
          intro D c G k W6 _ _ _ _ hi _
          exact hi.elim
        case hdone =>
          rintro D G W6 hD hnG hGb hI6 hK
          have HI6 := Lib.hid hI6
          have HK := Lib.hid hK
          clear hI6 hK hT5 hG
          gi_wp2
          refine ⟨⟨j + 1, D :: Ds, by simp, by simp, by simp, by simp [HLB.out], by simp, by simp, by simp, by simp [mark], hlt, List.nodup_cons.2 ⟨fun h => by have := LT4.out D h; omega, HND.out⟩, ?_, ?_⟩, ?_⟩
          · intro D' hD'
            rcases List.mem_cons.1 hD' with rfl | h
            · have := HZ2.out; omega
            · exact HDS.out D' h
          · have h6 := HI6.out
            have e1 : treeM W a (ts.take (j + 1)) = wayM W a f0 t := by
              unfold treeM; rw [take_snoc_of HTJ.out, List.foldl_append, HF0.out]; rfl
            rw [e1, ← HG0.out]
            refine ⟨h6.cell, ?_, HSB.out ▸ h6.spec, ?_, h6.below⟩
            · have := h6.row
              rw [List.take_of_length_le (Nat.le_refl _)] at this
              exact this
            · intro D' hD'
              rcases List.mem_cons.1 hD' with rfl | h
              · exact HK.out
              · exact h6.marks D' h
          · simp [intOf]; omega
        case hround =>
          rintro l2 G k ⟨X1, X2⟩ A hl2 hGb hszA hIk hx
          have hX1 : X1 < n := (HGV.out t).2 _ (List.mem_of_getElem? hx) htn
          have hsn : ((rtL W a t).take (k + 1)).foldl updM f0 = updM (((rtL W a t).take k).foldl updM f0) (X1, X2) := by rw [take_snoc_of hx, List.foldl_append]; rfl
          have HSN := Lib.hid hsn
          have hx0 : (0 : Int) ≤ (X1 : Int) := Int.natCast_nonneg _
          have hx1 : (X1 : Int) < (n : Int) := by omega
          clear hx hsn hT5 hG
          unfold encR
          gi_wp2
          refine ⟨Bel.refl _ _ _, ?_⟩
          rintro W3 hsW hI3
          obtain ⟨f, hf⟩ : ∃ f, f = ((rtL W a t).take k).foldl updM f0 := ⟨_, rfl⟩
          rw [← hf] at HSN
          have hrow := hI3.row
          rw [← hf] at hrow
          obtain ⟨c0, _⟩ := cells1 hI3.cell
          obtain ⟨r0, rf⟩ := hrow.cell hX1
          have HSZ := Lib.hid hsW.size
          have H3 := Lib.hid hI3
          have HRW := Lib.hid hrow
          clear hsW hI3 hIk hf hrow
          gi_wp2
          have hsz := HSZ.out
          have hgb := HGB.out
          refine ⟨G, ⟨fun _ h => h, fun _ h => Or.inl h, fun b hb => ?_⟩, ⟨?_, ?_, ?_, fun D hD => ?_, ?_⟩, ?_⟩
          · have := (hGb b hb).2
            simp [World.setCell]; omega
          · exact (Below.heap_setCell _ _ _ _ (by show lB ≠ g; omega)).trans H3.out.cell
          · rw [HSN.out]; exact HRW.out.set hX1 (fun i => rfl)
          · exact (Below.heap_setCell _ _ _ _ (by show sB ≠ g; omega)).trans H3.out.spec
          · have := HDS.out D hD
            have := HZ2.out
            exact (Below.heap_setCell _ _ _ _ (by show D ≠ g; omega)).trans (H3.out.marks D hD)
          · exact H3.out.below.setCell (p := ⟨g, X1, none⟩) (by have := HSB.out; show w.heap.size ≤ g; omega) _
          · exact (Bel.refl _ _ _).setCell (p := ⟨g, X1, none⟩) (Or.inl (Or.inl rfl)) _
      · obtain rfl : m = j := by omega
        obtain ⟨c0, _⟩ := cells1 HT.out.cell
        clear hT hTb
        gi_wp2
        refine leaves_marks Ds _ HT.out.marks HND.out (fun w' e1 e2 e3 e4 e5 => ?_)
        have hgb := HGB.out
        have hz2 := HZ2.out
        refine ⟨.tuple #[.slice (some ⟨g, 0, none⟩) n n, .int .i64 0], ?_, ⟨g, rfl, ?_, ?_⟩⟩
        · simp [results, Tryd.results22, go_sem]
        · have h6 := HT.out.row.of_block (e5 g (fun hD => by have := HDS.out g hD; omega))
          rw [HF0.out] at h6
          rw [HM.out, List.take_of_length_le (Nat.le_refl _)] at h6
          exact h6
        · exact HT.out.below.trans ⟨e1, e2, e3, by omega, fun b hb => e5 b (fun hD => by have := HDS.out b hD; have := HSB.out; omega)⟩
end Go.Proofs.YtlkcpnhepadenaaDoor
