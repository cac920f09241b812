/- The builder: a neuron more, a synapse more; the specification's wire. Over this seat's program. (mk_Ge.py wrote this.) -/
import Derived.Test.YtmgdildbngbibaaGd
import Derived.Test.YtmgdildbngbibaaDq
namespace Go.Proofs.Ytmgdildbngbibaa
set_option linter.unusedVariables false
open Go.RowKit Go.Shelf

/-- A builder in block B. -/
structure BdAt (W : World) (B : Nat) (ps : List Prm) (inp : Int) (ss : List Syn) (vn vs : Value) : Prop where
  blk : W.heap[B]? = some (.cells #[vn, .int .i64 inp, vs] 122)
  rn : W.ownsRow (B + 1) 125 8 vn ps.length (prmCs ps)
  rs : W.ownsRow (B + 1) 128 4 vs ss.length (synCs ss)
  ne : ∀ g, vn.ownBlock = some g → vs.ownBlock ≠ some g
theorem BdAt.below {W W' : World} {B : Nat} {ps : List Prm} {inp : Int} {ss : List Syn} {vn vs : Value} (h : BdAt W B ps inp ss vn vs) (hb : Below W.heap.size W W') : BdAt W' B ps inp ss vn vs :=
  ⟨(hb.block B (lt_of_block h.blk)).trans h.blk, ownsBelow h.rn hb, ownsBelow h.rs hb, h.ne⟩
theorem bdAt_new (W : World) (inp : Int) : BdAt (W.alloc (.cells #[.slice none 0 0, .int .i64 inp, .slice none 0 0] 122)) W.heap.size [] inp [] (.slice none 0 0) (.slice none 0 0) :=
  ⟨alloc_new_at _ _ _ rfl, ⟨rfl, .inl ⟨rfl, rfl⟩⟩, ⟨rfl, .inl ⟨rfl, rfl⟩⟩, fun g h => by simp [Value.ownBlock] at h⟩
theorem BdAt.net {W : World} {B : Nat} {ps : List Prm} {inp : Int} {ss : List Syn} {vn vs : Value} (h : BdAt W B ps inp ss vn vs) : NetAt W (.agg #[vn, .int .i64 inp, vs]) ⟨ps, inp, ss⟩ := by
  obtain ⟨a1, c1, h1⟩ := own_slC h.rn
  obtain ⟨a2, c2, h2⟩ := own_slC h.rs
  exact ⟨a1, c1, a2, c2, by rw [h1, h2], by rw [← h1]; exact psAt_of_owns h.rn, by rw [← h2]; exact ssAt_of_owns h.rs⟩
/-- What adding to a builder leaves. -/
structure BdFr (B : Nat) (vn0 vs0 vn vs : Value) (w w' : World) : Prop where
  bel : Below B w w'
  oth : ∀ b, b < w.heap.size → b ≠ B → vn0.ownBlock ≠ some b → vs0.ownBlock ≠ some b → w'.heap[b]? = w.heap[b]?
  vn : ∀ g, vn.ownBlock = some g → vn0.ownBlock = some g ∨ w.heap.size ≤ g
  vs : ∀ g, vs.ownBlock = some g → vs0.ownBlock = some g ∨ w.heap.size ≤ g
theorem BdFr.refl (B : Nat) (vn vs : Value) (w : World) : BdFr B vn vs vn vs w w := ⟨Below.refl _ _, fun _ _ _ _ _ => rfl, fun _ h => .inl h, fun _ h => .inl h⟩
theorem BdFr.trans {B : Nat} {a0 b0 a1 b1 a2 b2 : Value} {w w1 w2 : World} (h : BdFr B a0 b0 a1 b1 w w1) (k : BdFr B a1 b1 a2 b2 w1 w2) (ha : ∀ g, a0.ownBlock = some g → g < w.heap.size) (hb : ∀ g, b0.ownBlock = some g → g < w.heap.size) : BdFr B a0 b0 a2 b2 w w2 := by
  have hz := h.bel.size
  refine ⟨h.bel.trans k.bel, fun b h1 h2 h3 h4 => ?_, fun g hg => ?_, fun g hg => ?_⟩
  · refine (k.oth b (by omega) h2 (fun e => ?_) (fun e => ?_)).trans (h.oth b h1 h2 h3 h4)
    · rcases h.vn b e with q | q
      · exact h3 q
      · omega
    · rcases h.vs b e with q | q
      · exact h4 q
      · omega
  · rcases k.vn g hg with q | q
    · exact h.vn g q
    · exact .inr (by omega)
  · rcases k.vs g hg with q | q
    · exact h.vs g q
    · exact .inr (by omega)
/-- A world in between that is as it was below its end. -/
theorem BdFr.below {B : Nat} {a0 b0 : Value} {w w1 : World} (h : Below w.heap.size w w1) (hB : B ≤ w.heap.size) : BdFr B a0 b0 a0 b0 w w1 := ⟨h.mono hB, fun b hb _ _ _ => h.block b hb, fun _ h => .inl h, fun _ h => .inl h⟩
def BdGot (B : Nat) (vn0 vs0 : Value) (ps : List Prm) (inp : Int) (ss : List Syn) (w : World) (e : Ending) (w' : World) : Prop :=
  e = .returned (.tuple #[]) ∧ ∃ vn vs, BdAt w' B ps inp ss vn vs ∧ BdFr B vn0 vs0 vn vs w w'

def neK (B kp : Nat) (vn : Value) (p : Prm) : Nat → Value
  | 5 => vn
  | 6 => .agg #[.int .i64 p.lk, .int .i64 p.lv, .int .i64 p.bi, .int .i64 p.th, .int .i64 p.rk, .int .i64 p.rs, .int .i64 p.fl, .int .i64 p.re]
  | _ => .pointer (some ⟨B, 0, none⟩)
set_option maxRecDepth 100000 in
set_option maxHeartbeats 4000000 in
theorem neuron_any (p : Prm) (B : Nat) (ps : List Prm) (inp : Int) (ss : List Syn) (vn vs : Value) (hl : ps.length ≤ 100000) (w : World) (h : BdAt w B ps inp ss vn vs) :
    Calls Try.prog 51 #[.pointer (some ⟨B, 0, none⟩), prmA p] w (BdGot B vn vs (ps ++ [p]) inp ss w) := by
  obtain ⟨va, vc, rfl⟩ := own_slC h.rn
  have hBl := lt_of_block h.blk
  obtain ⟨n, hn⟩ : ∃ n, n = ps.length := ⟨_, rfl⟩
  have HN := Lib.hid hn
  have HB := Lib.hid h
  have hnv : ∀ g, (Value.slice va ps.length vc).ownBlock = some g → g < w.heap.size := fun g hg => (h.rn.lt g hg).2
  rw [← hn] at hl hnv
  have HNV := Lib.hid hnv
  have hB' := h
  rw [← hn] at hB'
  clear h hn hnv
  have hb0 := hB'.blk
  clear hB'
  unfold prmA
  go_enter Try.func51, Try.ntmps51
  go_upto_region 1 with (fail)
  have HP := Lib.hid (show PAt (w.alloc (.cells #[.int .i64 p.lk, .int .i64 p.lv, .int .i64 p.bi, .int .i64 p.th, .int .i64 p.rk, .int .i64 p.rs, .int .i64 p.fl, .int .i64 p.re] 125)) w.heap.size p from alloc_new_at _ _ _ rfl)
  have HBA := Lib.hid (HB.out.below ((Below.refl _ _).alloc (Nat.le_refl w.heap.size) (.cells #[.int .i64 p.lk, .int .i64 p.lv, .int .i64 p.bi, .int .i64 p.th, .int .i64 p.rk, .int .i64 p.rs, .int .i64 p.fl, .int .i64 p.re] 125)))
  have hsz : (w.alloc (.cells #[.int .i64 p.lk, .int .i64 p.lv, .int .i64 p.bi, .int .i64 p.th, .int .i64 p.rk, .int .i64 p.rs, .int .i64 p.fl, .int .i64 p.re] 125)).heap.size = w.heap.size + 1 := by simp
  have HBL := Lib.hid (show Below w.heap.size w (w.alloc (.cells #[.int .i64 p.lk, .int .i64 p.lv, .int .i64 p.bi, .int .i64 p.th, .int .i64 p.rk, .int .i64 p.rs, .int .i64 p.fl, .int .i64 p.re] 125)) from (Below.refl _ _).alloc (Nat.le_refl _) _)
  generalize w.alloc (.cells #[.int .i64 p.lk, .int .i64 p.lv, .int .i64 p.bi, .int .i64 p.th, .int .i64 p.rk, .int .i64 p.rs, .int .i64 p.fl, .int .i64 p.re] 125) = W0 at *
  have HSZ := Lib.hid hsz
  have hlt : w.heap.size < W0.heap.size := by omega
  have hBW : B < W0.heap.size := by omega
  have hro := HBA.out.rn
  rw [← HN.out] at hro
  have HRO := Lib.hid hro
  clear hro hsz hb0
  refine wp_region_late (GmR 125 8 W0 B (B + 1) B 0 n #[.slice va n vc, .int .i64 inp, vs] 122 5 7 8 12 (prmCs ps) [.int .i64 p.lk, .int .i64 p.lv, .int .i64 p.bi, .int .i64 p.th, .int .i64 p.rk, .int .i64 p.rs, .int .i64 p.fl, .int .i64 p.re] (.slice va n vc) (neK B w.heap.size (.slice va n vc) p)) (by kernel_rfl) (by kernel_rfl) (by kernel_rfl) (by kernel_rfl) (GmR.init _ ⟨Nat.le_refl _, by omega, hBW, by omega⟩ (by have := HBA.out.blk; rw [← HN.out] at this; exact this) HRO.out (fun e => by have := (HRO.out.lt _ e).1; omega)) ?stp ?dn
  case dn =>
    intro val W b' hI hb
    have hma := hI.ma (by simp)
    have hbs := hI.bs (by simp)
    have hne : ∀ g, (val 8).ownBlock = some g → vs.ownBlock ≠ some g := fun g hg hvs => by
      rcases hma.2.2 with e | ⟨g', e, hg'⟩
      · exact HB.out.ne g (by rw [← HN.out, ← e]; exact hg) hvs
      · rw [e] at hg; cases hg
        have := (HB.out.rs.lt _ hvs).2
        have := HSZ.out
        omega
    have hrs : W.ownsRow (B + 1) 128 4 vs ss.length (synCs ss) := ownsRow_of_block HBA.out.rs fun g hg => hI.oth g (HBA.out.rs.lt g hg).2 (fun e => by have := (HBA.out.rs.lt g hg).1; omega) (fun e => HBA.out.ne g (by rw [← HN.out]; exact e) hg)
    have hfin : BdAt W B (ps ++ [p]) inp ss (val 8) vs := ⟨by simpa using hbs, by
      have h1 := hma.1
      rw [prmCs_append, prmCs_one, List.length_append, ← HN.out]; exact h1, hrs, hne⟩
    have hbel : BdFr B (.slice va ps.length vc) vs (val 8) vs w W := ⟨(HBL.out.mono (by omega)).trans hI.bel, fun b h1 h2 h3 _ => (hI.oth b (by omega) h2 (by rw [HN.out]; exact h3)).trans (HBL.out.block b h1), fun g hg => by
      rcases hma.2.2 with e | ⟨g', e, hg'⟩
      · rw [e, HN.out] at hg; exact .inl hg
      · rw [e] at hg; cases hg; exact .inr (by omega), fun g hg => .inl hg⟩
    subst hb
    have HF := Lib.hid hfin
    have HBE := Lib.hid hbel
    clear hI hma hbs hne hrs hfin hbel
    simp only [puts]
    go_wp2
    exact bodyPost_ret (v := .tuple #[]) (by simp [results, Try.results51, go_sem]) rfl ⟨rfl, _, _, HF.out, HBE.out⟩
  case stp =>
    intro L val W i' o b' hs ho hlF hdd hI hh hlate
    have hi' := (List.getElem?_eq_some_iff.1 ho).1
    have hcs : i' = 0 ∨ i' = 1 ∨ i' = 2 ∨ i' = 3 ∨ i' = 4 ∨ i' = 5 ∨ i' = 6 ∨ i' = 7 ∨ i' = 8 ∨ i' = 9 ∨ i' = 10 ∨ i' = 11 ∨ i' = 12 := by simp at hi'; omega
    have hLs : 12 < L.size := by simp at hs; omega
    have HI := Lib.hid hI
    have HLF := Lib.hid hlF
    have HD := Lib.hid hdd
    clear hi' hs hI hlF hdd
    rcases hcs with rfl | rfl | rfl | rfl | rfl | rfl | rfl | rfl | rfl | rfl | rfl | rfl | rfl
    · simp only [List.getElem?_cons_zero, Option.some.injEq] at ho
      subst ho
      have k0 := hh.kept 0 (by simp)
      simp at k0
      go_simp
      exact ⟨_, rfl, HI.out.skip 0 (by decide) (by decide) (by decide) _ rfl⟩
    · simp only [List.getElem?_cons_zero, List.getElem?_cons_succ, Option.some.injEq] at ho
      subst ho
      have k0 := hh.kept 0 (by simp)
      simp at k0
      go_simp
      exact ⟨_, rfl, HI.out.skip 1 (by decide) (by decide) (by decide) _ rfl⟩
    · simp only [List.getElem?_cons_zero, List.getElem?_cons_succ, Option.some.injEq] at ho
      subst ho
      have l1 : L.getD 1 false = true := HD.out ⟨1, .data⟩ (by simp) rfl
      have g1 := hh.got 1 _ 5 rfl rfl l1 (by simp)
      rw [HI.out.known 1 (by decide) (by decide) (by decide) l1] at g1
      simp [neK] at g1
      clear l1
      go_simp
      exact ⟨_, rfl, HI.out.skip 2 (by decide) (by decide) (by decide) _ rfl⟩
    · simp only [List.getElem?_cons_zero, List.getElem?_cons_succ, Option.some.injEq] at ho
      subst ho
      have l2 : L.getD 2 false = true := HD.out ⟨2, .data⟩ (by simp) rfl
      have g2 := hh.got 2 _ 6 rfl rfl l2 (by simp)
      rw [HI.out.known 2 (by decide) (by decide) (by decide) l2] at g2
      simp [neK] at g2
      clear l2
      go_simp
      exact ⟨_, rfl, HI.out.skip 3 (by decide) (by decide) (by decide) _ rfl⟩
    · simp only [List.getElem?_cons_zero, List.getElem?_cons_succ, Option.some.injEq] at ho
      subst ho
      have l3 : L.getD 3 false = true := HD.out ⟨3, .data⟩ (by simp) rfl
      have g3 := hh.got 3 _ 7 rfl rfl l3 (by simp)
      rw [HI.out.known 3 (by decide) (by decide) (by decide) l3] at g3
      simp [neK] at g3
      clear l3
      go_simp
      exact ⟨_, rfl, HI.out.skip 4 (by decide) (by decide) (by decide) _ rfl⟩
    · simp only [List.getElem?_cons_zero, List.getElem?_cons_succ, Option.some.injEq] at ho
      subst ho
      have l4 : L.getD 4 false = true := HD.out ⟨4, .data⟩ (by simp) rfl
      have g4 := hh.got 4 _ 8 rfl rfl l4 (by simp)
      rw [HI.out.known 4 (by decide) (by decide) (by decide) l4] at g4
      simp [neK] at g4
      have fa := not_of HI.out.dl HLF.out
      have fs := not_of HI.out.ds fa
      obtain ⟨z0, z1, z2⟩ := cells3 (HI.out.bx0 fs)
      clear fa fs
      clear l4
      go_simp
      exact ⟨_, rfl, HI.out.skip 5 (by decide) (by decide) (by decide) _ rfl⟩
    · simp only [List.getElem?_cons_zero, List.getElem?_cons_succ, Option.some.injEq] at ho
      subst ho
      have k3 := hh.kept 3 (by simp)
      simp at k3
      have hpb : PAt W w.heap.size p := (HI.out.oth _ hlt (by omega) (fun e => by have := HNV.out _ e; omega)).trans HP.out
      obtain ⟨_, _, _, _, _, _, _, _⟩ := cells8 hpb
      clear hpb
      go_simp
      exact ⟨_, rfl, HI.out.skip 6 (by decide) (by decide) (by decide) _ rfl⟩
    · simp only [List.getElem?_cons_zero, List.getElem?_cons_succ, Option.some.injEq] at ho
      subst ho
      have l6 : L.getD 6 false = true := HD.out ⟨6, .data⟩ (by simp) rfl
      have g6 := hh.got 6 _ 10 rfl rfl l6 (by simp)
      rw [HI.out.known 6 (by decide) (by decide) (by decide) l6] at g6
      simp [neK] at g6
      clear l6
      go_simp
      exact ⟨_, rfl, HI.out.make (by omega) (by decide) HLF.out⟩
    · simp only [List.getElem?_cons_zero, List.getElem?_cons_succ, Option.some.injEq] at ho
      subst ho
      have l5 : L.getD 5 false = true := HD.out ⟨5, .data⟩ (by simp) rfl
      have l7 : L.getD 7 false = true := HD.out ⟨7, .data⟩ (by simp) rfl
      have e0 : b'.eval (.tmp 9) = _ := (hh.got 5 _ 9 rfl rfl l5 (by simp)).trans (HI.out.known 5 (by decide) (by decide) (by decide) l5)
      have ep : b'.eval (.tmp 11) = val 7 := hh.got 7 _ 11 rfl rfl l7 (by simp)
      simp only [neK] at e0
      obtain ⟨v', w', hr, hw'⟩ := HI.out.app el_P (by decide) rfl (fun u hu => prmV_one (l := [p]) (by rw [prmCs_one]; exact hu)) (by omega) (by decide) (by decide) HLF.out l7 (by exact l5) (by omega) 29
      unfold Oper.wp execOp
      simp only [resolve, invoke, builtin, Sem.run_bind, Sem.run_pure, Result.andThen_ok, List.map_toArray, List.map_cons, List.map_nil, e0, ep, hr]
      exact ⟨_, rfl, hw'⟩
    · simp only [List.getElem?_cons_zero, List.getElem?_cons_succ, Option.some.injEq] at ho
      subst ho
      have l0 : L.getD 0 false = true := HD.out ⟨0, .data⟩ (by simp) rfl
      have g0 := hh.got 0 _ 4 rfl rfl l0 (by simp)
      rw [HI.out.known 0 (by decide) (by decide) (by decide) l0] at g0
      simp [neK] at g0
      clear l0
      go_simp
      exact ⟨_, rfl, HI.out.skip 9 (by decide) (by decide) (by decide) _ rfl⟩
    · simp only [List.getElem?_cons_zero, List.getElem?_cons_succ, Option.some.injEq] at ho
      subst ho
      have l9 : L.getD 9 false = true := HD.out ⟨9, .data⟩ (by simp) rfl
      have g9 := hh.got 9 _ 13 rfl rfl l9 (by simp)
      rw [HI.out.known 9 (by decide) (by decide) (by decide) l9] at g9
      simp [neK] at g9
      clear l9
      go_simp
      exact ⟨_, rfl, HI.out.skip 10 (by decide) (by decide) (by decide) _ rfl⟩
    · simp only [List.getElem?_cons_zero, List.getElem?_cons_succ, Option.some.injEq] at ho
      subst ho
      have l10 : L.getD 10 false = true := HD.out ⟨10, .data⟩ (by simp) rfl
      have g10 := hh.got 10 _ 14 rfl rfl l10 (by simp)
      rw [HI.out.known 10 (by decide) (by decide) (by decide) l10] at g10
      simp [neK] at g10
      clear l10
      go_simp
      exact ⟨_, rfl, HI.out.skip 11 (by decide) (by decide) (by decide) _ rfl⟩
    · simp only [List.getElem?_cons_zero, List.getElem?_cons_succ, Option.some.injEq] at ho
      subst ho
      have l11 : L.getD 11 false = true := HD.out ⟨11, .data⟩ (by simp) rfl
      have g11 := hh.got 11 _ 15 rfl rfl l11 (by simp)
      rw [HI.out.known 11 (by decide) (by decide) (by decide) l11] at g11
      simp [neK] at g11
      have l8 : L.getD 8 false = true := HD.out ⟨8, .data⟩ (by simp) rfl
      have g8 := hh.got 8 _ 12 rfl rfl l8 (by simp)
      obtain ⟨z0, z1, z2⟩ := cells3 (HI.out.bx0 HLF.out)
      have zf : W.frozen? ⟨B, 0, none⟩ = false := by simp [World.frozen?, HI.out.bx0 HLF.out]
      obtain ⟨a7, c7, e7⟩ := own_slC (HI.out.ma l8).1
      have hfl := HI.out.fill (by omega) (by decide) (by decide) HLF.out l8
      rw [e7] at g8
      simp at g8
      simp only [e7] at hfl
      have HFL := Lib.hid hfl
      clear l11 l8
      clear hfl e7
      go_simp
      exact ⟨_, HFL.out undef⟩
end Go.Proofs.Ytmgdildbngbibaa
