/- The specification's Reach. Over this seat's program. (mk_Vb.py wrote this.) -/
import Derived.Test.YtgbcdebnanejpaaVa
import Derived.Test.YtgbcdebnanejpaaN5
import Derived.Test.YtgbcdebnanejpaaNm
import Derived.Test.YtgbcdebnanejpaaD2
import Derived.Test.YtgbcdebnanejpaaE1
namespace Go.Proofs.Ytgbcdebnanejpaa
set_option linter.unusedVariables false
open Go.RowKit Go.Shelf

def rv8 (a1 : Option Addr) (k c1 : Nat) (inp : Int) (a2 : Option Addr) (mm c2 tb to j m cap : Nat) (z : Int) (B : Bool) : Nat → Value
  | 0 => .agg #[.slice a1 k c1, .int .i64 inp, .slice a2 mm c2]
  | 1 => .slice (some ⟨tb, to, none⟩) m cap
  | 2 => .int .i64 (j : Int)
  | 3 => .pointer (some ⟨tb, to + j, none⟩)
  | 4 => .int .i64 z
  | 5 => .bool B
  | 6 => .bool (!B)
  | _ => undef
def metM (g : Int → Bool) : Int → Option Value := fun x => if g x = true then some (.bool true) else none
theorem metM_get (g : Int → Bool) (x : Int) : (metM g x).getD (.bool false) = .bool (g x) := by
  unfold metM; cases h : g x <;> simp
theorem metM_upd (g : Int → Bool) (x : Int) : upd1 (metM g) x (some (.bool true)) = metM (fun y => if y = x then true else g y) := by
  funext y; unfold upd1 metM
  by_cases e : y = x <;> simp [e]
theorem metM_none : (fun _ => none : Int → Option Value) = metM (fun _ => false) := by funext y; simp [metM]
theorem zero4 (w : World) : (zeroValue 4).run Try.prog w = .ok (.bool false) w := by kernel_rfl
theorem MapIs.met {W : World} {mb c : Nat} {g : Int → Bool} (h : MapIs W mb c (metM g)) (x : Int) (hx : (Lit.int .i64 x).wf = true) : (Instr.lookup 131 (.map (some mb)) (.int .i64 x) false).run Try.prog W = .ok (.bool (g x)) W := by
  rw [h.look1 Try.underlying131 (zero4 W) x hx, metM_get]
noncomputable def gW (W : World) (mb : Nat) (x : Int) : Bool := match (Instr.lookup 131 (.map (some mb)) (.int .i64 x) false).run Try.prog W with
  | .ok (.bool b) _ => b
  | _ => false
theorem gW_eq {W : World} {mb c : Nat} {g : Int → Bool} (h : MapIs W mb c (metM g)) {x : Int} (hx : (Lit.int .i64 x).wf = true) : gW W mb x = g x := by
  unfold gW; rw [h.met x hx]
def moreN : Value → Nat
  | .bool true => 1
  | _ => 0
theorem offN_congr {f f' : Nat → Bool} : ∀ n, (∀ r, r < n → f r = f' r) → offN f n = offN f' n
  | 0, _ => rfl
  | n + 1, h => by simp only [offN]; rw [offN_congr n fun r hr => h r (by omega), h n (by omega)]
theorem offN_add {g : Int → Bool} {t : Int} {n : Nat} (h0 : 0 ≤ t) (hn : t.toNat < n) (hg : g t = false) : offN (fun r : Nat => if (r : Int) = t then true else g r) n + 1 = offN (fun r : Nat => g r) n := by
  have h1 := offN_mark (f := fun r : Nat => g r) (t := t.toNat) (by show g ((t.toNat : Nat) : Int) = false; rw [Int.toNat_of_nonneg h0]; exact hg) n hn
  rw [← h1]
  congr 1
  refine offN_congr n fun r hr => ?_
  unfold markF
  by_cases e : (r : Int) = t
  · rw [if_pos e, if_pos (by omega)]
  · rw [if_neg e, if_neg (by omega)]
/-- Block b holds the truth values f 0 .. f (n - 1). -/
def BoolsAt (W : World) (g n : Nat) (f : Nat → Bool) : Prop := ∃ cur : Array Value, W.heap[g]? = some (.cells cur 4) ∧ ∀ j, j < n → cur[j]? = some (.bool (f j))
theorem BoolsAt.cell {W : World} {g n j : Nat} {f : Nat → Bool} (h : BoolsAt W g n f) (hj : j < n) : W.cell? ⟨g, j, none⟩ = some (.bool (f j)) ∧ W.frozen? ⟨g, j, none⟩ = false := by
  obtain ⟨cur, h1, h2⟩ := h
  have := h2 j hj
  simp [World.cell?, World.frozen?, h1, this]
theorem BoolsAt.of_block {W W' : World} {g n : Nat} {f : Nat → Bool} (h : BoolsAt W g n f) (hb : W'.heap[g]? = W.heap[g]?) : BoolsAt W' g n f := by
  obtain ⟨cur, h1, h2⟩ := h
  exact ⟨cur, hb.trans h1, h2⟩
theorem BoolsAt.set {W : World} {g n j : Nat} {f f' : Nat → Bool} {x : Bool} (h : BoolsAt W g n f) (hj : j < n) (ht : ∀ i, f' i = if i = j then x else f i) : BoolsAt (W.setCell ⟨g, j, none⟩ (.bool x)) g n f' := by
  obtain ⟨cur, h1, h2⟩ := h
  refine ⟨cur.setIfInBounds j (.bool x), by simp [World.setCell, Array.getElem?_modify, h1], fun i hi => ?_⟩
  rw [ht]
  have hjs : j < cur.size := (Array.getElem?_eq_some_iff.1 (h2 j hj)).1
  by_cases e : i = j
  · subst e; simp [hjs]
  · rw [if_neg e, Array.getElem?_setIfInBounds_ne (by omega)]; exact h2 i hi
theorem BoolsAt.lt {W : World} {g n : Nat} {f : Nat → Bool} (h : BoolsAt W g n f) : g < W.heap.size := by
  obtain ⟨cur, h1, _⟩ := h; exact (Array.getElem?_eq_some_iff.1 h1).1
theorem info4V : (Try.prog.info? 4).map (fun i => (i.zero, i.size, i.bytes)) = some (some (.bool false), 1, 1) := by kernel_rfl
theorem make_boolsV (n : Nat) (hn : n ≤ 10000) (W : World) :
    (Instr.makeSlice 47 (.int .i64 (n : Int)) (.int .i64 (n : Int))).run Try.prog W = .ok (.slice (some ⟨W.heap.size, 0, none⟩) n n) (W.alloc (.cells (List.replicate n (Value.bool false)).toArray 4)) := by
  obtain ⟨i, h1, h2, h3, h4⟩ := info_parts info4V
  have hr := run_make (P := Try.prog) W 47 4 i (.bool false) Try.underlying47 h1 h2 .i64 .i64 n n (by omega) (by omega) (by rw [h4]; omega) (by omega)
  rw [hr, h3]
  have e : madeCells (Value.bool false).cells ((n : Int).toNat * 1) = (List.replicate n (Value.bool false)).toArray := by
    apply Array.toList_inj.1
    rw [Int.toNat_natCast, Nat.mul_one, show (Value.bool false).cells = #[.bool false] from rfl, toList_madeCells_one]
  rw [e]
  simp
noncomputable def rchB (ss : List Syn) (zs : List Int) (r : Nat) : Bool := @decide (Rch ss zs r) (Classical.propDecidable _)
theorem rchB_iff {ss : List Syn} {zs : List Int} {r : Nat} {b : Bool} (h : b = true ↔ Rch ss zs r) : b = rchB ss zs r := by
  unfold rchB
  by_cases hR : Rch ss zs r
  · rw [h.2 hR]; exact (@decide_eq_true _ (Classical.propDecidable _) hR).symm
  · have : b = false := by cases b; rfl; exact absurd (h.1 rfl) hR
    rw [this]; exact (@decide_eq_false _ (Classical.propDecidable _) hR).symm
/-- What Reach returns where there is no error. -/
def ReachOk (n : NetM) (zs : List Int) (w : World) (e : Ending) (w' : World) : Prop :=
  ∃ g, e = .returned (.tuple #[.slice (some ⟨g, 0, none⟩) n.ps.length n.ps.length, .int .i64 0]) ∧ BoolsAt w' g n.ps.length (rchB n.ss zs) ∧ Below w.heap.size w w'

set_option maxRecDepth 100000 in
set_option maxHeartbeats 1000000 in
theorem rreach_ok (n : NetM) (hok : ncheck n = 0) (a1 a2 : Option Addr) (c1 c2 k mm : Nat) (inp : Int) (hk : k = n.ps.length) (hmm : mm = n.ss.length) (hinp : inp = n.inp) (zs : List Int) (hz : ∀ z ∈ zs, srcOk k inp z = true) (sa : Option Addr) (m cap : Nat) (hm : m = zs.length) (hm2 : m ≤ 100) (w : World)
    (hp : PsAt w (.slice a1 k c1) n.ps) (hs : SsAt w (.slice a2 mm c2) n.ss) (hI : IntsAt w (.slice sa m cap) zs) :
    Calls Try.prog 33 #[.agg #[.slice a1 k c1, .int .i64 inp, .slice a2 mm c2], .slice sa m cap] w (ReachOk n zs w) := by
  have hN := netOk_of hok
  have hck : ∀ W, Below w.heap.size w W → Calls Try.prog 20 #[.agg #[.slice a1 k c1, .int .i64 inp, .slice a2 mm c2]] W fun e w' => e = .returned (.int .i64 0) ∧ Below W.heap.size W w' := fun W hb => by
    subst hk hmm hinp
    have := rncheck_any n a1 a2 c1 c2 W (hp.below hb) (hs.below hb)
    rw [hok] at this
    exact this
  have p0 : 1 ≤ k := by rw [hk]; exact hN.p0
  have p1 : k ≤ 1024 := by rw [hk]; exact hN.p1
  have i0 : 0 ≤ inp := by rw [hinp]; exact hN.i0
  have i1 : inp ≤ 256 := by rw [hinp]; exact hN.i1
  have s1 : mm ≤ 8192 := by rw [hmm]; exact hN.s1
  have hsrc : ∀ z ∈ zs, ∀ W, Calls Try.prog 57 #[.agg #[.slice a1 k c1, .int .i64 inp, .slice a2 mm c2], .int .i64 z] W fun e w' => e = .returned (.bool true) ∧ Below W.heap.size W w' := fun z hzm W => by
    have := rsrc_any a1 k c1 inp (.slice a2 mm c2) z i0 i1 p1 W
    rw [hz z hzm] at this
    exact this
  have hzr : ∀ z ∈ zs, -256 ≤ z ∧ z ≤ 1023 := fun z hzm => by have := hz z hzm; simp [srcOk, inR] at this; omega
  have hsr : ∀ s ∈ n.ss, (-256 ≤ s.fr ∧ s.fr ≤ 1023) ∧ 0 ≤ s.to ∧ s.to.toNat < k := fun s hsm => by
    have := hN.ss s hsm
    rw [← hk, ← hinp] at this
    simp [synOk, srcOk, inR] at this
    omega
  have hwf : ∀ x : Int, -256 ≤ x → x ≤ 1023 → (Lit.int .i64 x).wf = true := fun x a b => wf64 (by omega) (by omega)
  have htl : ∀ j, j < m → ∃ tb to, sa = some ⟨tb, to, none⟩ ∧ w.cell? ⟨tb, to + j, none⟩ = some (.int .i64 (zs[j]?.getD 0)) ∧ tb < w.heap.size ∧ zs[j]?.getD 0 ∈ zs := fun j hj => by
    rcases hI with ⟨_, rfl⟩ | ⟨b, off, cap', e, hc⟩
    · simp at hm; omega
    · cases e
      have hc := hc j (by omega)
      exact ⟨b, off, rfl, hc, World.block_lt_of_cell? w _ hc, by rw [List.getElem?_eq_getElem (by omega)]; exact List.getElem_mem _⟩
  have hss : ∀ W, Below w.heap.size w W → ∀ i s, n.ss[i]? = some s → ∃ b off, a2 = some ⟨b, off, none⟩ ∧ b < w.heap.size ∧ SynCells W b (off + i * 4) s := fun W hb i s hi => by
    obtain ⟨b, off, e, hl, hc⟩ := hs.at hi
    exact ⟨b, off, e, hl, hc.below hb hl⟩
  have hmz := make_boolsV k (by omega)
  unfold ReachOk
  rw [← hk]
  have hk0 : (0 : Int) ≤ (k : Int) := Int.natCast_nonneg _
  have HCK := Lib.hid hck
  have HSR := Lib.hid hsrc
  have HZR := Lib.hid hzr
  have HSS := Lib.hid hss
  have HSO := Lib.hid hsr
  have HTL := Lib.hid htl
  have HWF := Lib.hid hwf
  have HM := Lib.hid hm
  have HMM := Lib.hid hmm
  clear hck hsrc hzr hss hsr htl hwf hm hmm hk hinp hok hN hp hs hI hz
  have hmk := @run_makeMap Try.prog
  go_enter Try.func33, Try.ntmps33
  go_wp2_with (go_at_call 20; refine (HCK.out _ ((Below.refl _ _).alloc (Nat.le_refl _) _)).mono ?_; rintro e w1 ⟨rfl, hb1⟩; have hbx1 : NetBox w1 w.heap.size (.slice a1 k c1) inp (.slice a2 mm c2) := (hb1.block _ (by simp)).trans (alloc_new_at _ _ _ rfl); have hz1 := lt_of_block hbx1; have B1 := Lib.hid (((Below.refl _ _).alloc (Nat.le_refl _) _).trans (hb1.mono (by simp)) : Below w.heap.size w w1); have BX1 := Lib.hid hbx1; clear hb1 hbx1)
  have hm0 : MapIs (w1.alloc (.map #[] 0)) w1.heap.size 0 (metM fun _ => false) := by rw [← metM_none]; exact MapIs.made w1
  obtain ⟨mb, hmb⟩ : ∃ mb, mb = w1.heap.size := ⟨_, rfl⟩
  have b0 : Below w.heap.size w (w1.alloc (.map #[] 0)) := B1.out.alloc (by omega) _
  have x0 : NetBox (w1.alloc (.map #[] 0)) w.heap.size (.slice a1 k c1) inp (.slice a2 mm c2) := (Below.heap_alloc _ _ _ hz1).trans BX1.out
  have hmbw : w.heap.size < mb := by omega
  rw [← hmb] at hm0 ⊢
  have M0 := Lib.hid hm0
  have B0 := Lib.hid b0
  have X0 := Lib.hid x0
  clear hm0 b0 x0 hmb
  go_loopw [8] (fun s8 wr => ∃ j : Nat, j ≤ m ∧ s8 = .int .i64 j ∧ (∃ cnt, cnt ≤ j ∧ MapIs wr mb cnt (metM fun x => decide (x ∈ zs.take j))) ∧ NetBox wr w.heap.size (.slice a1 k c1) inp (.slice a2 mm c2) ∧ Below w.heap.size w wr) (fun s8 _ => m - (intOf s8).toNat)
  case atStart => exact ⟨0, Nat.zero_le _, rfl, ⟨0, Nat.le_refl _, by simpa using M0.out⟩, X0.out, B0.out⟩
  case round =>
    obtain ⟨j, hj, rfl, ⟨cnt, hcnt, hmap⟩, hbx, hb⟩ := hrel
    have hj0 : (0 : Int) ≤ (j : Int) := Int.natCast_nonneg _
    have hzr := lt_of_block hbx
    have hmbl := hmap.lt
    have HMAP := Lib.hid hmap
    have HBX := Lib.hid hbx
    have HB := Lib.hid hb
    clear hmap hbx hb
    by_cases hlt : j < m
    · have hj1 : (j : Int) < (m : Int) := by omega
      obtain ⟨tb, to, rfl, hct, htb0, hzm⟩ := HTL.out j hlt
      have hzj : zs[j]? = some (zs[j]?.getD 0) := by have := HM.out; rw [List.getElem?_eq_getElem (by omega)]; rfl
      obtain ⟨z, hz⟩ : ∃ z, z = zs[j]?.getD 0 := ⟨_, rfl⟩
      rw [← hz] at hct hzm hzj
      have HC1 := Lib.hid ((HB.out.cell (p := ⟨tb, to + j, none⟩) htb0).trans hct)
      have HSRC := Lib.hid (HSR.out z hzm)
      have hzr2 := HZR.out z hzm
      have hzw := HWF.out z hzr2.1 hzr2.2
      have HZJ := Lib.hid hzj
      have htb : tb < wr.heap.size := by have := HB.out.size; omega
      clear hct hz hzj hzr2
      go_wp2
      refine wp_region_fix (rv8 a1 k c1 inp a2 mm c2 tb to j m cap z true) (fun _ => true) (fun _ => true) (fun _ => Below wr.heap.size wr) (by kernel_rfl) (by kernel_rfl) (by kernel_rfl) (by kernel_rfl) (by simp [dstIn]) ?gv ?un (Below.refl _ _).drew (fun _ _ _ _ h => h) ?stp ?dn
      case gv => intro i hi; simp [isGd] at hi
      case un => intro i hi hw; simp at hw
      case stp =>
        intro L W1 i o b' hs ho hwt hlF hcl hd hI hh hlate
        have hi := (List.getElem?_eq_some_iff.1 ho).1
        have hc : i = 0 ∨ i = 1 ∨ i = 2 ∨ i = 3 ∨ i = 4 ∨ i = 5 ∨ i = 6 := by simp at hi; omega
        obtain ⟨_, _, _⟩ := cells3 ((hI.block _ hzr).trans HBX.out)
        have hc1 := ((bcell hI).1 _ _ htb).trans HC1.out
        have HI := Lib.hid hI
        clear hi hI hs hlF hcl hd
        have k1 := hh.kept 1 (by simp)
        simp at k1
        have k2 := hh.kept 2 (by simp)
        simp at k2
        have k8 := hh.kept 8 (by simp)
        simp at k8
        rcases hc with rfl | rfl | rfl | rfl | rfl | rfl | rfl
        · simp only [List.getElem?_cons_zero, Option.some.injEq] at ho
          subst ho
          go_simp
          exact ⟨rfl, HI.out⟩
        · simp only [List.getElem?_cons_zero, List.getElem?_cons_succ, Option.some.injEq] at ho
          subst ho
          go_simp
          exact ⟨rfl, HI.out⟩
        · simp only [List.getElem?_cons_zero, List.getElem?_cons_succ, Option.some.injEq] at ho
          subst ho
          go_simp
          exact ⟨rfl, HI.out⟩
        · simp only [List.getElem?_cons_zero, List.getElem?_cons_succ, Option.some.injEq] at ho
          subst ho
          have g1 := hh.got 1 _ 27 rfl rfl ⟨⟨1, .data⟩, by simp, rfl, rfl⟩ (by simp)
          have g2 := hh.got 2 _ 28 rfl rfl ⟨⟨2, .data⟩, by simp, rfl, rfl⟩ (by simp)
          simp [rv8] at g1 g2
          go_simp
          exact ⟨rfl, HI.out⟩
        · simp only [List.getElem?_cons_zero, List.getElem?_cons_succ, Option.some.injEq] at ho
          subst ho
          have g3 := hh.got 3 _ 29 rfl rfl ⟨⟨3, .data⟩, by simp, rfl, rfl⟩ (by simp)
          simp [rv8] at g3
          go_simp
          exact ⟨rfl, HI.out⟩
        · simp only [List.getElem?_cons_zero, List.getElem?_cons_succ, Option.some.injEq] at ho
          subst ho
          have g0 := hh.got 0 _ 26 rfl rfl ⟨⟨0, .data⟩, by simp, rfl, rfl⟩ (by simp)
          have g4 := hh.got 4 _ 30 rfl rfl ⟨⟨4, .data⟩, by simp, rfl, rfl⟩ (by simp)
          simp [rv8] at g0 g4
          go_simp
          go_at_call 57
          refine (HSRC.out _).mono ?_
          rintro e w6 ⟨rfl, hb6⟩
          exact ⟨rfl, HI.out.trans (hb6.mono HI.out.size)⟩
        · simp only [List.getElem?_cons_zero, List.getElem?_cons_succ, Option.some.injEq] at ho
          subst ho
          have g5 := hh.got 5 _ 31 rfl rfl ⟨⟨5, .data⟩, by simp, rfl, rfl⟩ (by simp)
          simp [rv8] at g5
          go_simp
          exact ⟨rfl, HI.out⟩
      case dn =>
        intro W1 b' hI hb
        simp only [puts, rv8] at hb
        subst hb
        simp only [Act.put, List.setIfInBounds_toArray, List.set_cons_succ, List.set_cons_zero]
        obtain ⟨W3, hrun, hm3, hg3⟩ := (HMAP.out.of_block (hI.block _ hmbl)).update (by unfold maxLen; omega) Try.underlying131 z hzw (.bool true)
        have hc1 := ((bcell hI).1 _ _ htb).trans HC1.out
        have HI := Lib.hid hI
        have HM3 := Lib.hid hm3
        have HG3 := Lib.hid hg3
        clear hI hm3 hg3
        go_wp2
        go_roundw
        case rel =>
          have hg := HG3.out
          have hke : ∀ b, b ≠ mb → b < W1.heap.size → W3.heap[b]? = W1.heap[b]? := fun b hb hl => hg.block b hl (fun e => hb (Option.some.inj e))
          refine ⟨j + 1, hlt, by go_num, ⟨cnt + 1, by omega, ?_⟩, (hke _ (by omega) (by have := HI.out.size; omega)).trans ((HI.out.block _ hzr).trans HBX.out), HB.out.trans ((HI.out.mono (by omega)).trans ⟨hg.os, hg.tape, hg.output, hg.size, fun b hb => hke b (by omega) (by have := HI.out.size; omega)⟩)⟩
          have h6 := HM3.out
          rw [metM_upd] at h6
          have e : (fun y => if y = z then true else decide (y ∈ zs.take j)) = fun y => decide (y ∈ zs.take (j + 1)) := by
            funext y
            rw [List.take_add_one, HZJ.out]
            by_cases e : y = z <;> simp [e]
          rw [e] at h6
          exact h6
        case measure => simp [intOf]; omega
    · obtain rfl : m = j := by omega
      have hall : zs.take m = zs := by rw [HM.out]; exact List.take_of_length_le (Nat.le_refl _)
      have hmt : MetI n.ss zs (fun x => decide (x ∈ zs.take m)) := ⟨fun x hx => .base (by rw [hall] at hx; simpa using hx), fun x hx => by rw [hall]; simpa using hx⟩
      obtain ⟨g0, hg0⟩ : ∃ g0 : Int → Bool, g0 = fun x => decide (x ∈ zs.take m) := ⟨_, rfl⟩
      rw [← hg0] at hmt
      have hmap := HMAP.out
      rw [← hg0] at hmap
      have hle := offN_le (fun r : Nat => g0 r) k
      have HMT := Lib.hid hmt
      have HM0 := Lib.hid hmap
      have HLE := Lib.hid hle
      clear hall hmt hg0 hmap hle hmbl hlt hj
      go_wp2
      generalize wr = wo at *
      go_loopw [9] (fun s9 wr => ∃ (more : Bool) (g : Int → Bool) (cnt : Nat), s9 = .bool more ∧ MapIs wr mb cnt (metM g) ∧ MetI n.ss zs g ∧ cnt + offN (fun r : Nat => g r) k ≤ m + k ∧ (more = false → ∀ s ∈ n.ss, s.wt ≠ 0 → g s.fr = true → g s.to = true) ∧ NetBox wr w.heap.size (.slice a1 k c1) inp (.slice a2 mm c2) ∧ Below w.heap.size w wr)
        (fun s9 wr => offN (fun r : Nat => gW wr mb r) k + moreN s9)
      case atStart => exact ⟨true, g0, cnt, rfl, HM0.out, HMT.out, by have := HLE.out; omega, fun h => (by cases h), HBX.out, HB.out⟩
      case round =>
        obtain ⟨more, g, cnt, rfl, hmap, hmt, hcnt, hclo, hbx, hb⟩ := hrel
        have hzr := lt_of_block hbx
        have hgw : offN (fun r : Nat => gW wr mb r) k = offN (fun r : Nat => g r) k := offN_congr k fun r hr => gW_eq hmap (wf64 (by omega) (by omega))
        have HMAP := Lib.hid hmap
        have HMT := Lib.hid hmt
        have HCNT := Lib.hid hcnt
        have HCLO := Lib.hid hclo
        have HBX := Lib.hid hbx
        have HB := Lib.hid hb
        have HGW := Lib.hid hgw
        clear hmap hmt hcnt hclo hbx hb hgw
        cases more with
        | true =>
          go_wp2
          go_loopw [9, 10] (fun s9 s10 wr => ∃ (i : Nat) (more : Bool) (g' : Int → Bool) (cnt' : Nat), i ≤ mm ∧ s10 = .int .i64 i ∧ s9 = .bool more ∧ MapIs wr mb cnt' (metM g') ∧ MetI n.ss zs g' ∧ cnt' + offN (fun r : Nat => g' r) k ≤ m + k ∧ (more = false → g' = g ∧ ∀ s ∈ n.ss.take i, s.wt ≠ 0 → g' s.fr = true → g' s.to = true) ∧ (more = true → offN (fun r : Nat => g' r) k + 1 ≤ offN (fun r : Nat => g r) k) ∧ NetBox wr w.heap.size (.slice a1 k c1) inp (.slice a2 mm c2) ∧ Below w.heap.size w wr) (fun _ s10 _ => mm - (intOf s10).toNat)
          case atStart => exact ⟨0, false, g, cnt, Nat.zero_le _, rfl, rfl, HMAP.out, HMT.out, HCNT.out, fun _ => ⟨rfl, fun s hs => by simp at hs⟩, fun h => (by cases h), HBX.out, HB.out⟩
          case round =>
            obtain ⟨i, more, g', cnt', hi, rfl, rfl, hmap, hmt, hcnt, hno, hyes, hbx, hb⟩ := hrel
            have hi0 : (0 : Int) ≤ (i : Int) := Int.natCast_nonneg _
            have hzr := lt_of_block hbx
            obtain ⟨_, _, _⟩ := cells3 hbx
            have hmbl := hmap.lt
            have JMAP := Lib.hid hmap
            have JMT := Lib.hid hmt
            have JCNT := Lib.hid hcnt
            have JNO := Lib.hid hno
            have JYES := Lib.hid hyes
            have JBX := Lib.hid hbx
            have JB := Lib.hid hb
            clear hmap hmt hcnt hno hyes hbx hb
            by_cases hlt : i < mm
            · have hi1 : (i : Int) < (mm : Int) := by omega
              obtain ⟨s, hs⟩ : ∃ s, n.ss[i]? = some s := ⟨_, List.getElem?_eq_getElem (by rw [← HMM.out]; exact hlt)⟩
              obtain ⟨sb, so, rfl, hsb, hsc⟩ := HSS.out wr JB.out i s hs
              obtain ⟨_, _, _, _⟩ := hsc
              have hsm := List.mem_of_getElem? hs
              obtain ⟨hsf, hst0, hst1⟩ := HSO.out s hsm
              have HSI := Lib.hid hs
              have HSM := Lib.hid hsm
              clear hs hsm
              have hX : MapIs (wr.alloc (.cells #[.int .i64 s.fr, .int .i64 s.to, .int .i64 s.wt, .int .i64 s.dl] 96)) mb cnt' (metM g') := JMAP.out.of_block (Below.heap_alloc _ _ _ hmbl)
              have bX : NetBox (wr.alloc (.cells #[.int .i64 s.fr, .int .i64 s.to, .int .i64 s.wt, .int .i64 s.dl] 96)) w.heap.size (.slice a1 k c1) inp (.slice (some ⟨sb, so, none⟩) mm c2) := (Below.heap_alloc _ _ _ hzr).trans JBX.out
              have eX : Below w.heap.size w (wr.alloc (.cells #[.int .i64 s.fr, .int .i64 s.to, .int .i64 s.wt, .int .i64 s.dl] 96)) := JB.out.alloc (by omega) _
              have wf1 := HWF.out s.fr hsf.1 hsf.2
              have wf2 := HWF.out s.to (by omega) (by omega)
              have l1 := hX.met s.fr wf1
              have l2 := hX.met s.to wf2
              have hsame : ∀ h : more = false, (s.wt ≠ 0 → g' s.fr = true → g' s.to = true) → ∀ s' ∈ n.ss.take (i + 1), s'.wt ≠ 0 → g' s'.fr = true → g' s'.to = true := fun h h1 s' hs' => by
                rw [List.take_add_one, HSI.out] at hs'
                rcases List.mem_append.1 hs' with h2 | h2
                · exact (JNO.out h).2 s' h2
                · simp at h2; rw [h2]; exact h1
              have KX := Lib.hid hX
              have KB := Lib.hid bX
              have KE := Lib.hid eX
              have KS := Lib.hid hsame
              clear hX bX eX hsame
              by_cases hw0 : s.wt = 0
              · have g1 : (s.wt != 0) = false := by simp [hw0]
                have HW0 := Lib.hid hw0
                clear hw0
                go_wp2
                go_roundw
                case rel => exact ⟨i + 1, more, g', cnt', hlt, by go_num, rfl, KX.out, JMT.out, JCNT.out, fun h => ⟨(JNO.out h).1, KS.out h fun h1 => absurd HW0.out h1⟩, JYES.out, KB.out, KE.out⟩
                case measure => simp [intOf]; omega
              · have g1 : (s.wt != 0) = true := by simp [hw0]
                have HW0 := Lib.hid hw0
                clear hw0
                cases hgf : g' s.fr with
                | false =>
                  rw [hgf] at l1
                  have HGF := Lib.hid hgf
                  clear hgf
                  go_wp2
                  go_roundw
                  case rel => exact ⟨i + 1, more, g', cnt', hlt, by go_num, rfl, KX.out, JMT.out, JCNT.out, fun h => ⟨(JNO.out h).1, KS.out h fun _ h2 => by rw [HGF.out] at h2; cases h2⟩, JYES.out, KB.out, KE.out⟩
                  case measure => simp [intOf]; omega
                | true =>
                  rw [hgf] at l1
                  have HGF := Lib.hid hgf
                  clear hgf
                  cases hgt : g' s.to with
                  | true =>
                    rw [hgt] at l2
                    have HGT := Lib.hid hgt
                    clear hgt
                    go_wp2
                    go_roundw
                    case rel => exact ⟨i + 1, more, g', cnt', hlt, by go_num, rfl, KX.out, JMT.out, JCNT.out, fun h => ⟨(JNO.out h).1, KS.out h fun _ _ => HGT.out⟩, JYES.out, KB.out, KE.out⟩
                    case measure => simp [intOf]; omega
                  | false =>
                    rw [hgt] at l2
                    have hoa := offN_add hst0 hst1 hgt
                    have hof := offN_le (fun r : Nat => g' r) k
                    have hcn := JCNT.out
                    have HGT := Lib.hid hgt
                    clear hgt
                    obtain ⟨W3, hrun, hm3, hg3⟩ := KX.out.update (by unfold maxLen; omega) Try.underlying131 s.to wf2 (.bool true)
                    have HOA := Lib.hid hoa
                    have HM3 := Lib.hid hm3
                    have HG3 := Lib.hid hg3
                    have HCN := Lib.hid hcn
                    clear hoa hof hm3 hg3 hcn
                    go_wp2
                    go_roundw
                    case rel =>
                      have hg := HG3.out
                      have hsz : (wr.alloc (.cells #[.int .i64 s.fr, .int .i64 s.to, .int .i64 s.wt, .int .i64 s.dl] 96)).heap.size = wr.heap.size + 1 := by simp
                      have hke : ∀ b, b ≠ mb → b < wr.heap.size + 1 → W3.heap[b]? = (wr.alloc (.cells #[.int .i64 s.fr, .int .i64 s.to, .int .i64 s.wt, .int .i64 s.dl] 96)).heap[b]? := fun b hb hl => hg.block b (by omega) (fun e => hb (Option.some.inj e))
                      have h6 := HM3.out
                      rw [metM_upd] at h6
                      have h7 := HOA.out
                      have h8 := HCN.out
                      refine ⟨i + 1, true, _, cnt' + 1, hlt, by go_num, rfl, h6, JMT.out.add HSM.out HW0.out HGF.out, by omega, fun h => (by cases h), fun _ => ?_, (hke _ (by omega) (by omega)).trans KB.out, KE.out.trans ⟨hg.os, hg.tape, hg.output, hg.size, fun b hb => hke b (by omega) (by omega)⟩⟩
                      cases more with
                      | true => have := JYES.out rfl; omega
                      | false => rw [← (JNO.out rfl).1]; omega
                    case measure => simp [intOf]; omega
            · obtain rfl : mm = i := by omega
              clear hlt hi
              go_wp2
              go_roundw
              case rel =>
                refine ⟨more, g', cnt', rfl, JMAP.out, JMT.out, JCNT.out, fun h s hs => ?_, JBX.out, JB.out⟩
                have := (JNO.out h).2
                rw [HMM.out, List.take_of_length_le (Nat.le_refl _)] at this
                exact this s hs
              case measure =>
                rw [HGW.out, offN_congr k fun r hr => gW_eq JMAP.out (wf64 (by omega) (by omega))]
                cases more with
                | true => have := JYES.out rfl; simp [moreN]; omega
                | false => rw [(JNO.out rfl).1]; simp [moreN]
        | false =>
          obtain ⟨_, _, _⟩ := cells3 HBX.out
          have hmbl := HMAP.out.lt
          have hfin := HMT.out.final (HCLO.out rfl)
          have HFIN := Lib.hid hfin
          clear hfin
          go_wp2
          obtain ⟨W2, hW2⟩ : ∃ W2, wr.alloc (.cells (Array.replicate k (Value.bool false)) 4) = W2 := ⟨_, rfl⟩
          obtain ⟨og, hog⟩ : ∃ og, og = wr.heap.size := ⟨_, rfl⟩
          have q1 : BoolsAt W2 og k (fun _ => false) := ⟨Array.replicate k (Value.bool false), by rw [← hW2]; exact alloc_new_at _ _ _ hog, fun j hj => by simp [hj]⟩
          have q2 : MapIs W2 mb cnt (metM g) := HMAP.out.of_block (by rw [← hW2]; exact Below.heap_alloc _ _ _ hmbl)
          have q3 : Below w.heap.size w W2 := by rw [← hW2]; exact HB.out.alloc (by omega) _
          rw [hW2, ← hog]
          have hogm : mb < og ∧ w.heap.size < og := by omega
          have Q1 := Lib.hid q1
          have Q2 := Lib.hid q2
          have Q3 := Lib.hid q3
          clear hW2 hog q1 q2 q3 hmbl
          go_loopw [13] (fun s13 wr => ∃ i : Nat, i ≤ k ∧ s13 = .int .i64 i ∧ BoolsAt wr og k (fun r => if r < i then g r else false) ∧ MapIs wr mb cnt (metM g) ∧ Below w.heap.size w wr) (fun s13 _ => k - (intOf s13).toNat)
          case atStart => exact ⟨0, Nat.zero_le _, rfl, by simpa using Q1.out, Q2.out, Q3.out⟩
          case round =>
            obtain ⟨i, hi, rfl, hbo, hmap, hb⟩ := hrel
            have hi0 : (0 : Int) ≤ (i : Int) := Int.natCast_nonneg _
            have hogl := hbo.lt
            have JBO := Lib.hid hbo
            have JMAP := Lib.hid hmap
            have JB := Lib.hid hb
            clear hbo hmap hb
            by_cases hlt : i < k
            · have hi1 : (i : Int) < (k : Int) := by omega
              have l1 := JMAP.out.met (i : Int) (wf64 (by omega) (by omega))
              obtain ⟨_, _⟩ := JBO.out.cell hlt
              go_wp2
              go_roundw
              case rel =>
                refine ⟨i + 1, hlt, by go_num, JBO.out.set hlt fun r => ?_, JMAP.out.of_block (Below.heap_setCell _ _ _ _ (by show mb ≠ og; omega)), JB.out.setCell (p := ⟨og, i, none⟩) (by show w.heap.size ≤ og; omega) _⟩
                by_cases e : r = i
                · subst e; simp
                · rw [if_neg e]
                  by_cases h : r < i
                  · rw [if_pos h, if_pos (by omega)]
                  · rw [if_neg h, if_neg (by omega)]
              case measure => simp [intOf]; omega
            · obtain rfl : k = i := by omega
              go_wp2
              refine bodyPost_ret (v := .tuple #[.slice (some ⟨og, 0, none⟩) k k, .int .i64 0]) (by simp [results, Try.results33, go_sem]) rfl ⟨og, rfl, ?_, JB.out⟩
              obtain ⟨cur, h1, h2⟩ := JBO.out
              refine ⟨cur, h1, fun r hr => ?_⟩
              rw [h2 r hr]
              show some (Value.bool (if r < k then g r else false)) = _
              rw [if_pos hr, rchB_iff (HFIN.out r)]
end Go.Proofs.Ytgbcdebnanejpaa
