/- A tick of a simulation. (mk_Nu.py wrote this.) -/
import Derived.Test.YtgbcdebnanejpaaN1
import Derived.StillTailTactics
namespace Go.Proofs.Ytgbcdebnanejpaa
set_option linter.unusedVariables false
open Go.RowKit Go.Shelf

/-- All neurons of a simulation are in valid states. -/
def StOk (ps : List Prm) (st : List (Int × Int)) : Prop := ∀ i p, ps[i]? = some p → validP p (sAt st i).1 (sAt st i).2 = 0
/-- What the first loop of tick finds. -/
structure Tick1 (n : NetM) (B : Nat) (z : SimZ) (t : Nat) (st : List (Int × Int)) (due : Due) (w : World) (k : Nat) (v : Value) (A : World) : Prop where
  sim : SimAt n A B z t t (midS n.ps st (due t) k) due
  row : A.ownsRow w.heap.size 3 1 v (spkN n.ps st (due t) k).length ((spkN n.ps st (due t) k).map (Value.int .i64))
  bel : Bel z.mut w.heap.size w A
def TickOut (n : NetM) (B : Nat) (z : SimZ) (t : Nat) (st : List (Int × Int)) (due : Due) (ids : List Int) (w : World) (e : Ending) (w' : World) : Prop :=
  ∃ v, e = .returned v ∧ w'.ownsRow w.heap.size 3 1 v (tickO n t ⟨st, due⟩).length ((tickO n t ⟨st, due⟩).map (Value.int .i64)) ∧ SimAt n w' B z (t + 1) (t + 1) (tickM n t ⟨st, due⟩ ids).st (tickM n t ⟨st, due⟩ ids).due ∧ Bel z.mut w.heap.size w w'
def tickK (p : Prm) (bs sb rb k nn : Nat) (V R d X1 X2 : Int) (sp : Bool) : Nat → Value
  | 0 => .agg #[.int .i64 p.lk, .int .i64 p.lv, .int .i64 p.bi, .int .i64 p.th, .int .i64 p.rk, .int .i64 p.rs, .int .i64 p.fl, .int .i64 p.re]
  | 1 => .pointer (some ⟨bs, 0, none⟩)
  | 2 => .pointer (some ⟨bs, 0, none⟩)
  | 3 => .pointer (some ⟨bs, 5, none⟩)
  | 4 => .slice (some ⟨sb, 0, none⟩) nn nn
  | 5 => .int .i64 (k : Int)
  | 6 => .pointer (some ⟨sb, k * 2, none⟩)
  | 7 => .agg #[.int .i64 V, .int .i64 R]
  | 8 => .slice (some ⟨rb, 0, none⟩) nn nn
  | 9 => .int .i64 (k : Int)
  | 10 => .pointer (some ⟨rb, k, none⟩)
  | 11 => .int .i64 d
  | 12 => .tuple #[.agg #[.int .i64 X1, .int .i64 X2], .bool sp, .int .i64 0]
  | 13 => .tuple #[.agg #[.int .i64 X1, .int .i64 X2], .bool sp, .int .i64 0]
  | 14 => .agg #[.int .i64 X1, .int .i64 X2]
  | 15 => .bool sp
  | 16 => .int .i64 0
  | 19 => .bool sp
  | 20 => .int .i64 0
  | _ => undef
theorem cons_of' {α : Type} {l : List α} {n : Nat} (h : l.length = n + 1) : ∃ x r, l = x :: r ∧ r.length = n := by
  cases l with
  | nil => simp at h
  | cons x r => exact ⟨x, r, rfl, by simpa using h⟩
theorem arr101 {L : Array Value} (h : L.size = 101) : ∃ t0 t1 t2 t3 t4 t5 t6 t7 t8 t9 t10 t11 t12 t13 t14 t15 t16 t17 t18 t19 t20 t21 t22 t23 t24 t25 t26 t27 t28 t29 t30 t31 t32 t33 t34 t35 t36 t37 t38 t39 t40 t41 t42 t43 t44 t45 t46 t47 t48 t49 t50 t51 t52 t53 t54 t55 t56 t57 t58 t59 t60 t61 t62 t63 t64 t65 t66 t67 t68 t69 t70 t71 t72 t73 t74 t75 t76 t77 t78 t79 t80 t81 t82 t83 t84 t85 t86 t87 t88 t89 t90 t91 t92 t93 t94 t95 t96 t97 t98 t99 t100 : Value, L = #[t0, t1, t2, t3, t4, t5, t6, t7, t8, t9, t10, t11, t12, t13, t14, t15, t16, t17, t18, t19, t20, t21, t22, t23, t24, t25, t26, t27, t28, t29, t30, t31, t32, t33, t34, t35, t36, t37, t38, t39, t40, t41, t42, t43, t44, t45, t46, t47, t48, t49, t50, t51, t52, t53, t54, t55, t56, t57, t58, t59, t60, t61, t62, t63, t64, t65, t66, t67, t68, t69, t70, t71, t72, t73, t74, t75, t76, t77, t78, t79, t80, t81, t82, t83, t84, t85, t86, t87, t88, t89, t90, t91, t92, t93, t94, t95, t96, t97, t98, t99, t100] := by
  obtain ⟨l⟩ := L
  have g0 : l.length = 101 := h
  clear h
  obtain ⟨t0, l0, rfl, g1⟩ := cons_of' g0
  obtain ⟨t1, l1, rfl, g2⟩ := cons_of' g1
  obtain ⟨t2, l2, rfl, g3⟩ := cons_of' g2
  obtain ⟨t3, l3, rfl, g4⟩ := cons_of' g3
  obtain ⟨t4, l4, rfl, g5⟩ := cons_of' g4
  obtain ⟨t5, l5, rfl, g6⟩ := cons_of' g5
  obtain ⟨t6, l6, rfl, g7⟩ := cons_of' g6
  obtain ⟨t7, l7, rfl, g8⟩ := cons_of' g7
  obtain ⟨t8, l8, rfl, g9⟩ := cons_of' g8
  obtain ⟨t9, l9, rfl, g10⟩ := cons_of' g9
  obtain ⟨t10, l10, rfl, g11⟩ := cons_of' g10
  obtain ⟨t11, l11, rfl, g12⟩ := cons_of' g11
  obtain ⟨t12, l12, rfl, g13⟩ := cons_of' g12
  obtain ⟨t13, l13, rfl, g14⟩ := cons_of' g13
  obtain ⟨t14, l14, rfl, g15⟩ := cons_of' g14
  obtain ⟨t15, l15, rfl, g16⟩ := cons_of' g15
  obtain ⟨t16, l16, rfl, g17⟩ := cons_of' g16
  obtain ⟨t17, l17, rfl, g18⟩ := cons_of' g17
  obtain ⟨t18, l18, rfl, g19⟩ := cons_of' g18
  obtain ⟨t19, l19, rfl, g20⟩ := cons_of' g19
  obtain ⟨t20, l20, rfl, g21⟩ := cons_of' g20
  obtain ⟨t21, l21, rfl, g22⟩ := cons_of' g21
  obtain ⟨t22, l22, rfl, g23⟩ := cons_of' g22
  obtain ⟨t23, l23, rfl, g24⟩ := cons_of' g23
  obtain ⟨t24, l24, rfl, g25⟩ := cons_of' g24
  obtain ⟨t25, l25, rfl, g26⟩ := cons_of' g25
  obtain ⟨t26, l26, rfl, g27⟩ := cons_of' g26
  obtain ⟨t27, l27, rfl, g28⟩ := cons_of' g27
  obtain ⟨t28, l28, rfl, g29⟩ := cons_of' g28
  obtain ⟨t29, l29, rfl, g30⟩ := cons_of' g29
  obtain ⟨t30, l30, rfl, g31⟩ := cons_of' g30
  obtain ⟨t31, l31, rfl, g32⟩ := cons_of' g31
  obtain ⟨t32, l32, rfl, g33⟩ := cons_of' g32
  obtain ⟨t33, l33, rfl, g34⟩ := cons_of' g33
  obtain ⟨t34, l34, rfl, g35⟩ := cons_of' g34
  obtain ⟨t35, l35, rfl, g36⟩ := cons_of' g35
  obtain ⟨t36, l36, rfl, g37⟩ := cons_of' g36
  obtain ⟨t37, l37, rfl, g38⟩ := cons_of' g37
  obtain ⟨t38, l38, rfl, g39⟩ := cons_of' g38
  obtain ⟨t39, l39, rfl, g40⟩ := cons_of' g39
  obtain ⟨t40, l40, rfl, g41⟩ := cons_of' g40
  obtain ⟨t41, l41, rfl, g42⟩ := cons_of' g41
  obtain ⟨t42, l42, rfl, g43⟩ := cons_of' g42
  obtain ⟨t43, l43, rfl, g44⟩ := cons_of' g43
  obtain ⟨t44, l44, rfl, g45⟩ := cons_of' g44
  obtain ⟨t45, l45, rfl, g46⟩ := cons_of' g45
  obtain ⟨t46, l46, rfl, g47⟩ := cons_of' g46
  obtain ⟨t47, l47, rfl, g48⟩ := cons_of' g47
  obtain ⟨t48, l48, rfl, g49⟩ := cons_of' g48
  obtain ⟨t49, l49, rfl, g50⟩ := cons_of' g49
  obtain ⟨t50, l50, rfl, g51⟩ := cons_of' g50
  obtain ⟨t51, l51, rfl, g52⟩ := cons_of' g51
  obtain ⟨t52, l52, rfl, g53⟩ := cons_of' g52
  obtain ⟨t53, l53, rfl, g54⟩ := cons_of' g53
  obtain ⟨t54, l54, rfl, g55⟩ := cons_of' g54
  obtain ⟨t55, l55, rfl, g56⟩ := cons_of' g55
  obtain ⟨t56, l56, rfl, g57⟩ := cons_of' g56
  obtain ⟨t57, l57, rfl, g58⟩ := cons_of' g57
  obtain ⟨t58, l58, rfl, g59⟩ := cons_of' g58
  obtain ⟨t59, l59, rfl, g60⟩ := cons_of' g59
  obtain ⟨t60, l60, rfl, g61⟩ := cons_of' g60
  obtain ⟨t61, l61, rfl, g62⟩ := cons_of' g61
  obtain ⟨t62, l62, rfl, g63⟩ := cons_of' g62
  obtain ⟨t63, l63, rfl, g64⟩ := cons_of' g63
  obtain ⟨t64, l64, rfl, g65⟩ := cons_of' g64
  obtain ⟨t65, l65, rfl, g66⟩ := cons_of' g65
  obtain ⟨t66, l66, rfl, g67⟩ := cons_of' g66
  obtain ⟨t67, l67, rfl, g68⟩ := cons_of' g67
  obtain ⟨t68, l68, rfl, g69⟩ := cons_of' g68
  obtain ⟨t69, l69, rfl, g70⟩ := cons_of' g69
  obtain ⟨t70, l70, rfl, g71⟩ := cons_of' g70
  obtain ⟨t71, l71, rfl, g72⟩ := cons_of' g71
  obtain ⟨t72, l72, rfl, g73⟩ := cons_of' g72
  obtain ⟨t73, l73, rfl, g74⟩ := cons_of' g73
  obtain ⟨t74, l74, rfl, g75⟩ := cons_of' g74
  obtain ⟨t75, l75, rfl, g76⟩ := cons_of' g75
  obtain ⟨t76, l76, rfl, g77⟩ := cons_of' g76
  obtain ⟨t77, l77, rfl, g78⟩ := cons_of' g77
  obtain ⟨t78, l78, rfl, g79⟩ := cons_of' g78
  obtain ⟨t79, l79, rfl, g80⟩ := cons_of' g79
  obtain ⟨t80, l80, rfl, g81⟩ := cons_of' g80
  obtain ⟨t81, l81, rfl, g82⟩ := cons_of' g81
  obtain ⟨t82, l82, rfl, g83⟩ := cons_of' g82
  obtain ⟨t83, l83, rfl, g84⟩ := cons_of' g83
  obtain ⟨t84, l84, rfl, g85⟩ := cons_of' g84
  obtain ⟨t85, l85, rfl, g86⟩ := cons_of' g85
  obtain ⟨t86, l86, rfl, g87⟩ := cons_of' g86
  obtain ⟨t87, l87, rfl, g88⟩ := cons_of' g87
  obtain ⟨t88, l88, rfl, g89⟩ := cons_of' g88
  obtain ⟨t89, l89, rfl, g90⟩ := cons_of' g89
  obtain ⟨t90, l90, rfl, g91⟩ := cons_of' g90
  obtain ⟨t91, l91, rfl, g92⟩ := cons_of' g91
  obtain ⟨t92, l92, rfl, g93⟩ := cons_of' g92
  obtain ⟨t93, l93, rfl, g94⟩ := cons_of' g93
  obtain ⟨t94, l94, rfl, g95⟩ := cons_of' g94
  obtain ⟨t95, l95, rfl, g96⟩ := cons_of' g95
  obtain ⟨t96, l96, rfl, g97⟩ := cons_of' g96
  obtain ⟨t97, l97, rfl, g98⟩ := cons_of' g97
  obtain ⟨t98, l98, rfl, g99⟩ := cons_of' g98
  obtain ⟨t99, l99, rfl, g100⟩ := cons_of' g99
  obtain ⟨t100, l100, rfl, g101⟩ := cons_of' g100
  obtain rfl := List.eq_nil_of_length_eq_zero g101
  exact ⟨_, _, _, _, _, _, _, _, _, _, _, _, _, _, _, _, _, _, _, _, _, _, _, _, _, _, _, _, _, _, _, _, _, _, _, _, _, _, _, _, _, _, _, _, _, _, _, _, _, _, _, _, _, _, _, _, _, _, _, _, _, _, _, _, _, _, _, _, _, _, _, _, _, _, _, _, _, _, _, _, _, _, _, _, _, _, _, _, _, _, _, _, _, _, _, _, _, _, _, _, _, rfl⟩

set_option maxRecDepth 100000 in
set_option maxHeartbeats 8000000 in
theorem tick_any (n : NetM) (hok : NetOk n) (B : Nat) (z : SimZ) (t : Nat) (st : List (Int × Int)) (due : Due) (ht : (t : Int) ≤ 4294967000) (hst : StOk n.ps st) (ids : List Int) (hid : ∀ x ∈ ids, 0 ≤ x ∧ x < n.inp) (ai : Option Addr) (ci : Nat) (hil : ids.length ≤ 65536) (w : World) (h : SimAt n w B z t t st due)
    (hi : IntsAt w (.slice ai ids.length ci) ids) (hiM : ∀ g, (Value.slice ai ids.length ci).ownBlock = some g → ¬ z.mut g) :
    Calls Try.prog 61 #[.pointer (some ⟨z.bs, 0, none⟩), .slice ai ids.length ci] w (TickOut n B z t st due ids w) := by
  have hin := h.isIn
  obtain ⟨d0, d1, d2, d3, d4, d5⟩ := h.head
  obtain ⟨an, cn, hnv⟩ := h.ps.form
  rw [hnv] at d1
  have hrs := h.rowSlice t
  have hlen := h.len
  have H := Lib.hid h
  have HIN := Lib.hid hin
  have HI := Lib.hid hi
  have HIM := Lib.hid hiM
  have HNV := Lib.hid hnv
  have HOK := Lib.hid hok
  have HST := Lib.hid hst
  have HID := Lib.hid hid
  have HLEN := Lib.hid hlen
  have hnn := hok.p1
  clear h hin hi hiM hnv hok hst hid hlen
  go_enter Try.func61, Try.ntmps61
  go_wp2
  go_region_held3 (fun w' => w'.cell? ⟨z.bs, 4, none⟩ = some (.int .i64 (t : Int)) ∧ w'.cell? ⟨z.bs, 6 + t % 16, none⟩ = some (.slice (some ⟨z.rb (t % 16), 0, none⟩) n.ps.length n.ps.length)) (go_keep) ((go_at_call 80; refine (row_any z.bs 6 t (.slice (some ⟨z.rb (t % 16), 0, none⟩) n.ps.length n.ps.length) (by omega) _ (by assumption)).mono ?_; rintro e w' ⟨rfl, rfl⟩))
  clear hrs
  go_wp2
  have hT0 : Tick1 n B z t st due w 0 (.slice none 0 0) w.drew := by
    refine ⟨?_, World.ownsRow_nil _ _ _ _, (Bel.refl _ _ _).drew⟩
    rw [midS_zero]; exact H.out.keepN HIN.out fun b _ => rfl
  have HT0 := Lib.hid hT0
  clear hT0 d0 d1 d2 d3 d4 d5
  go_loopw [5, 29] (fun v i wr => ∃ k : Nat, k ≤ n.ps.length ∧ i = .int .i64 k ∧ Tick1 n B z t st due w k v wr) (fun _ i _ => n.ps.length - (intOf i).toNat)
  case atStart => exact ⟨0, Nat.zero_le _, rfl, HT0.out⟩
  case round =>
    obtain ⟨k, hk, rfl, hT⟩ := hrel
    have HT := Lib.hid hT
    by_cases hlt : k < n.ps.length
    · obtain ⟨p, hp⟩ : ∃ p, n.ps[k]? = some p := ⟨_, List.getElem?_eq_getElem hlt⟩
      have hps := hT.sim.ps
      rw [HNV.out] at hps
      obtain ⟨b, off, rfl, hbl, hc⟩ := hps.at hp
      obtain ⟨_, _, _, _, _, _, _, _⟩ := hc
      have hi0 : (0 : Int) ≤ (k : Int) := Int.natCast_nonneg _
      have hi1 : (k : Int) < (n.ps.length : Int) := by omega
      have hpA : pAt n.ps k = p := by simp [pAt, hp]
      have hsA : sAt (midS n.ps st (due t) k) k = sAt st k := by rw [sAt_midS _ _ _ _ _ (by rw [HLEN.out]; exact hlt), if_neg (by omega)]
      obtain ⟨⟨V, R⟩, hVR⟩ : ∃ X : Int × Int, X = sAt st k := ⟨_, rfl⟩
      obtain ⟨⟨X1, X2⟩, hX⟩ : ∃ X : Int × Int, X = newS n.ps st (due t) k := ⟨_, rfl⟩
      obtain ⟨sp, hsp⟩ : ∃ sp, sp = spkB n.ps st (due t) k := ⟨_, rfl⟩
      obtain ⟨d, hd⟩ : ∃ d, d = due t k := ⟨_, rfl⟩
      have hgo := fun W => tick_ok p V R d (by have := HST.out k p hp; rw [← hVR] at this; exact this) W
      have hx : (X1, X2) = (tV p V R d, tR p V R d) := by rw [hX]; unfold newS; rw [hpA, ← hVR, ← hd]
      have hs' : sp = tS p V R d := by rw [hsp]; unfold spkB; rw [hpA, ← hVR, ← hd]
      obtain ⟨hx1, hx2⟩ : X1 = tV p V R d ∧ X2 = tR p V R d := by simpa using hx
      rw [← hx1, ← hx2, ← hs'] at hgo
      have HGO := Lib.hid hgo
      have HX := Lib.hid hX
      have HSP := Lib.hid hsp
      have HSA := Lib.hid hsA
      have HVR := Lib.hid hVR
      have HD0 := Lib.hid hd
      clear hT hp hps hpA hsA hVR hX hsp hd hgo hx hs' hx1 hx2
      go_wp2
      have hW0 : SimAt n (wr.alloc (.cells #[.int .i64 p.lk, .int .i64 p.lv, .int .i64 p.bi, .int .i64 p.th, .int .i64 p.rk, .int .i64 p.rs, .int .i64 p.fl, .int .i64 p.re] 39)) B z t t (midS n.ps st (due t) k) due := HT.out.sim.keepN HT.out.sim.isIn fun b hb => Below.heap_alloc _ _ _ hb
      have hpb : (wr.alloc (.cells #[.int .i64 p.lk, .int .i64 p.lv, .int .i64 p.bi, .int .i64 p.th, .int .i64 p.rk, .int .i64 p.rs, .int .i64 p.fl, .int .i64 p.re] 39)).heap[wr.heap.size]? = some (.cells #[.int .i64 p.lk, .int .i64 p.lv, .int .i64 p.bi, .int .i64 p.th, .int .i64 p.rk, .int .i64 p.rs, .int .i64 p.fl, .int .i64 p.re] 39) := alloc_new_at _ _ _ rfl
      have hsz : (wr.alloc (.cells #[.int .i64 p.lk, .int .i64 p.lv, .int .i64 p.bi, .int .i64 p.th, .int .i64 p.rk, .int .i64 p.rs, .int .i64 p.fl, .int .i64 p.re] 39)).heap.size = wr.heap.size + 1 := by simp
      have hold : ∀ b, b < wr.heap.size → (wr.alloc (.cells #[.int .i64 p.lk, .int .i64 p.lv, .int .i64 p.bi, .int .i64 p.th, .int .i64 p.rk, .int .i64 p.rs, .int .i64 p.fl, .int .i64 p.re] 39)).heap[b]? = wr.heap[b]? := fun b hb => Below.heap_alloc _ _ _ hb
      have hwo : (wr.alloc (.cells #[.int .i64 p.lk, .int .i64 p.lv, .int .i64 p.bi, .int .i64 p.th, .int .i64 p.rk, .int .i64 p.rs, .int .i64 p.fl, .int .i64 p.re] 39)).os = wr.os ∧ (wr.alloc (.cells #[.int .i64 p.lk, .int .i64 p.lv, .int .i64 p.bi, .int .i64 p.th, .int .i64 p.rk, .int .i64 p.rs, .int .i64 p.fl, .int .i64 p.re] 39)).tape = wr.tape ∧ (wr.alloc (.cells #[.int .i64 p.lk, .int .i64 p.lv, .int .i64 p.bi, .int .i64 p.th, .int .i64 p.rk, .int .i64 p.rs, .int .i64 p.fl, .int .i64 p.re] 39)).output = wr.output := ⟨rfl, rfl, rfl⟩
      generalize wr.alloc (.cells #[.int .i64 p.lk, .int .i64 p.lv, .int .i64 p.bi, .int .i64 p.th, .int .i64 p.rk, .int .i64 p.rs, .int .i64 p.fl, .int .i64 p.re] 39) = W0 at *
      generalize hPB : wr.heap.size = PB at *
      have HPB := Lib.hid hPB
      have HOLD := Lib.hid hold
      have HWO := Lib.hid hwo
      have HW0 := Lib.hid hW0
      have HPBK := Lib.hid hpb
      clear hPB hold hwo hW0 hpb
      refine wp_region_ghost (TickR W0 X1 X2 (tickK p z.bs z.sb (z.rb (t % 16)) k n.ps.length V R d X1 X2 sp)) (by kernel_rfl) (by kernel_rfl) (by kernel_rfl) (by kernel_rfl) (TickR.init _) ?stp ?dn
      case dn =>
        intro val W b' hI hh hbs
        have hb := has_all (by kernel_rfl) hh hbs
        obtain ⟨g, gN, gv, u', v', gb, gx⟩ := hI.al (by simp)
        obtain ⟨rfl, rfl⟩ := gx (by simp)
        have kn : ∀ j, j < 21 → j ≠ 17 → j ≠ 18 → val j = tickK p z.bs z.sb (z.rb (t % 16)) k n.ps.length V R d X1 X2 sp j := fun j h1 h2 h3 => hI.known j h2 h3 (by simp [Array.getD_eq_getD_getElem?, h1])
        have w18 : ∀ a : Act, a.put none (val 18) = a := fun a => rfl
        simp only [puts, gv, w18, kn 0 (by decide) (by decide) (by decide), kn 1 (by decide) (by decide) (by decide), kn 2 (by decide) (by decide) (by decide), kn 3 (by decide) (by decide) (by decide), kn 4 (by decide) (by decide) (by decide), kn 5 (by decide) (by decide) (by decide), kn 6 (by decide) (by decide) (by decide), kn 7 (by decide) (by decide) (by decide), kn 8 (by decide) (by decide) (by decide), kn 9 (by decide) (by decide) (by decide), kn 10 (by decide) (by decide) (by decide), kn 11 (by decide) (by decide) (by decide), kn 12 (by decide) (by decide) (by decide), kn 13 (by decide) (by decide) (by decide), kn 14 (by decide) (by decide) (by decide), kn 15 (by decide) (by decide) (by decide), kn 16 (by decide) (by decide) (by decide), kn 19 (by decide) (by decide) (by decide), kn 20 (by decide) (by decide) (by decide), tickK] at hb
        have HIR := Lib.hid hI
        have HGB := Lib.hid gb
        clear hI hh gb gv kn w18 hbs
        subst hb
        simp only [Act.put, List.setIfInBounds_toArray, List.set_cons_succ, List.set_cons_zero]
        have hsW : SimAt n W B z t t (midS n.ps st (due t) k) due := HW0.out.keepN HW0.out.isIn HIR.out.keep
        obtain ⟨_, _, _, _, _, _⟩ := hsW.head
        obtain ⟨_, _, _, _⟩ := st_cells hsW.stb k (by rw [hsW.len]; exact hlt)
        obtain ⟨_, _, _, _⟩ := cells2 HGB.out
        have HSW := Lib.hid hsW
        clear hsW
        go_wp2
        go_still_tail 7, (by kernel_rfl)
        change wpList _ _ _ _ _ W.drew
        have hsD : SimAt n W.drew B z t t (midS n.ps st (due t) k) due := HSW.out.keepN HSW.out.isIn (fun b _ => (rfl : W.drew.heap[b]? = W.heap[b]?))
        have hWd : ∀ b : Nat, W.drew.heap[b]? = W.heap[b]? := fun b => rfl
        have hWz : W.drew.heap.size = W.heap.size := rfl
        have hWo : W.drew.os = W.os ∧ W.drew.tape = W.tape ∧ W.drew.output = W.output := ⟨rfl, rfl, rfl⟩
        generalize W.drew = W7 at *
        obtain ⟨_, _, _, _⟩ := st_cells hsD.stb k (by rw [hsD.len]; exact hlt)
        have HSD := Lib.hid hsD
        have HWD := Lib.hid hWd
        have HWO7 := Lib.hid hWo
        clear hsD hWd hWo
        have hnS : midS n.ps st (due t) (k + 1) = (midS n.ps st (due t) k).set k (X1, X2) := by rw [midS_succ _ _ _ _ (by rw [HLEN.out]; exact hlt), ← HX.out]
        have hnK : spkN n.ps st (due t) (k + 1) = spkN n.ps st (due t) k ++ if sp then [(k : Int)] else [] := by rw [spkN_succ, ← HSP.out]
        have hkS := spkN_length n.ps st (due t) k
        obtain ⟨C, hC⟩ : ∃ C, C = (W7.setCell ⟨z.sb, k * 2, none⟩ (.int .i64 X1)).setCell ⟨z.sb, k * 2 + 1, none⟩ (.int .i64 X2) := ⟨_, rfl⟩
        have hCo : ∀ b, b ≠ z.sb → C.heap[b]? = W7.heap[b]? := fun b hb => by rw [hC, Below.heap_setCell _ _ _ _ (by exact hb), Below.heap_setCell _ _ _ _ (by exact hb)]
        have hCs : SimAt n C B z t t (midS n.ps st (due t) (k + 1)) due := by
          rw [hnS]
          refine HSD.out.newSt (by rw [List.length_set, midS_length, HLEN.out]) (fun b _ hne => hCo b hne) ?_
          rw [hC]; exact st_block HSD.out.stb k (by rw [HSD.out.len]; exact hlt) X1 X2
        have hCz : PB + 1 ≤ C.heap.size := by
          have h1 : C.heap.size = W7.heap.size := by rw [hC]; simp
          have := HIR.out.sz
          omega
        have hPW := HPB.out
        have hCw : ∀ b, b < PB → b ≠ z.sb → C.heap[b]? = wr.heap[b]? := fun b h1 h2 => (hCo b h2).trans ((HWD.out b).trans ((HIR.out.keep b (by omega)).trans (HOLD.out b h1)))
        have hR := ownsRow_of_block (A' := C) HT.out.row fun g hg => hCw g (by have := (HT.out.row.lt g hg).2; omega) (by have := (HT.out.row.lt g hg).1; have := HIN.out.sb; omega)
        have hB : Bel z.mut w.heap.size w C := HT.out.bel.trans ⟨by rw [hC]; exact HWO7.out.1.trans (HIR.out.os.trans HWO.out.1), by rw [hC]; exact HWO7.out.2.1.trans (HIR.out.tape.trans HWO.out.2.1), by rw [hC]; exact HWO7.out.2.2.trans (HIR.out.output.trans HWO.out.2.2), by omega, fun b h1 h2 => hCw b (by have := HT.out.bel.size; omega) (fun e => h2 (e ▸ Or.inr (Or.inl rfl)))⟩
        have HB := Lib.hid hB
        have HR := Lib.hid hR
        have HCS := Lib.hid hCs
        have HCZ := Lib.hid hCz
        have HNK := Lib.hid hnK
        clear hB hR hCs hCz hnK hnS hCo hCw
        obtain ⟨i0, hi, hz0, hzz1, hzz2⟩ := info_parts Try.info3
        subst hC
        cases sp with
        | false =>
          have HT1 := Lib.hid (show Tick1 n B z t st due w (k + 1) u5 ((W7.setCell ⟨z.sb, k * 2, none⟩ (.int .i64 X1)).setCell ⟨z.sb, k * 2 + 1, none⟩ (.int .i64 X2)) from ⟨HCS.out, by rw [HNK.out]; simpa using HR.out, HB.out⟩)
          go_wp2
          go_roundw
          case rel => exact ⟨k + 1, by omega, by go_num, HT1.out⟩
          case measure => simp [intOf]; omega
        | true =>
          have hwz : w.heap.size ≤ ((W7.setCell ⟨z.sb, k * 2, none⟩ (.int .i64 X1)).setCell ⟨z.sb, k * 2 + 1, none⟩ (.int .i64 X2)).heap.size := by have := HCZ.out; have := HB.out.size; omega
          go_upto_region 9 with (fail)
          generalize ((W7.setCell ⟨z.sb, k * 2, none⟩ (.int .i64 X1)).setCell ⟨z.sb, k * 2 + 1, none⟩ (.int .i64 X2)) = C at *
          go_wp2_with (at_builtin; (refine wpList_append_own _ rfl _ _ 44 rfl w.heap.size 3 i0 (.int .i64 0) 1 8 Try.underlying44 hi hz0 hzz1 hzz2 rfl (by decide) u5 _ _ rfl (HR.out.alloc _) ⟨C.heap.size, 0, none⟩ 1 1 [.int .i64 (k : Int)] rfl rfl (cell_one_new _ _ _) (by simp [Value.oneCell']) (by unfold maxLen; omega) (by omega) (by simp; omega) ?_; intro v' w3 hown' hgrow _; have HO := Lib.hid hown'; have HG := Lib.hid hgrow; clear hown' hgrow))
          have hs3 := HG.out.size
          rw [World.size_alloc] at hs3
          have old : ∀ g, g < w.heap.size → w3.heap[g]? = C.heap[g]? := fun g h => by
            rw [HG.out.block g (by rw [World.size_alloc]; omega) (fun e => by have := (HR.out.lt g e.symm).1; omega), Below.heap_alloc _ _ _ (by omega)]
          go_roundw
          case rel =>
            refine ⟨k + 1, by omega, by go_num, ?_, ?_, ?_⟩
            · exact HCS.out.keepN HIN.out old
            · rw [HNK.out]; simpa using HO.out
            · exact HB.out.trans ⟨HG.out.os, HG.out.tape, HG.out.output, by omega, fun b h1 _ => old b h1⟩
          case measure => simp [intOf]; omega
      case stp =>
        intro L val W i' o b' hs ho hlF hdd hI hh
        have hi' := (List.getElem?_eq_some_iff.1 ho).1
        have hcs : i' = 0 ∨ i' = 1 ∨ i' = 2 ∨ i' = 3 ∨ i' = 4 ∨ i' = 5 ∨ i' = 6 ∨ i' = 7 ∨ i' = 8 ∨ i' = 9 ∨ i' = 10 ∨ i' = 11 ∨ i' = 12 ∨ i' = 13 ∨ i' = 14 ∨ i' = 15 ∨ i' = 16 ∨ i' = 17 ∨ i' = 18 ∨ i' = 19 ∨ i' = 20 := by simp at hi'; omega
        have hLs : 20 < L.size := by simp at hs; omega
        have hcw : ∀ b o, b < W0.heap.size → W.cell? ⟨b, o, none⟩ = W0.cell? ⟨b, o, none⟩ := fun b o hb => by unfold World.cell?; rw [hI.keep b hb]
        have hin := HW0.out.isIn
        obtain ⟨_, _, _, _, _, e5⟩ := HW0.out.head
        obtain ⟨s0, s1, _, _⟩ := st_cells HW0.out.stb k (by rw [HW0.out.len]; exact hlt)
        rw [HSA.out, ← HVR.out] at s0 s1
        have r0 := ((HW0.out.row t (by omega) (by omega)).cell hlt).1
        rw [← HD0.out] at r0
        obtain ⟨p0, p1, p2, p3, p4, p5, p6, p7⟩ := cells8 HPBK.out
        rw [← hcw _ _ hin.bs] at e5
        rw [← hcw _ _ hin.sb] at s0 s1
        rw [← hcw _ _ (hin.rb _ (Nat.mod_lt _ (by omega)))] at r0
        rw [← hcw _ _ (by omega)] at p0 p1 p2 p3 p4 p5 p6 p7
        have HI := Lib.hid hI
        have HLF := Lib.hid hlF
        have HD := Lib.hid hdd
        clear hi' hs hI hlF hdd hcw hin
        rcases hcs with rfl | rfl | rfl | rfl | rfl | rfl | rfl | rfl | rfl | rfl | rfl | rfl | rfl | rfl | rfl | rfl | rfl | rfl | rfl | rfl | rfl
        · simp only [List.getElem?_cons_zero, Option.some.injEq] at ho
          subst ho
          have k8 := hh.kept 8 (by simp)
          simp at k8
          go_simp
          exact ⟨_, rfl, HI.out.skip 0 (by omega) (by omega) _ rfl _ (Below.refl _ _)⟩
        · simp only [List.getElem?_cons_zero, List.getElem?_cons_succ, Option.some.injEq] at ho
          subst ho
          have k0 := hh.kept 0 (by simp)
          simp at k0
          go_simp
          exact ⟨_, rfl, HI.out.skip 1 (by omega) (by omega) _ rfl _ (Below.refl _ _)⟩
        · simp only [List.getElem?_cons_zero, List.getElem?_cons_succ, Option.some.injEq] at ho
          subst ho
          have l1 : L.getD 1 false = true := HD.out ⟨1, .data⟩ (by simp) rfl
          have g1 := hh.got 1 _ 36 rfl rfl l1 (by simp)
          rw [HI.out.known 1 (by omega) (by omega) l1] at g1
          simp [tickK] at g1
          clear l1
          go_simp
          exact ⟨_, rfl, HI.out.skip 2 (by omega) (by omega) _ rfl _ (Below.refl _ _)⟩
        · simp only [List.getElem?_cons_zero, List.getElem?_cons_succ, Option.some.injEq] at ho
          subst ho
          have l2 : L.getD 2 false = true := HD.out ⟨2, .data⟩ (by simp) rfl
          have g2 := hh.got 2 _ 37 rfl rfl l2 (by simp)
          rw [HI.out.known 2 (by omega) (by omega) l2] at g2
          simp [tickK] at g2
          clear l2
          go_simp
          exact ⟨_, rfl, HI.out.skip 3 (by omega) (by omega) _ rfl _ (Below.refl _ _)⟩
        · simp only [List.getElem?_cons_zero, List.getElem?_cons_succ, Option.some.injEq] at ho
          subst ho
          have l3 : L.getD 3 false = true := HD.out ⟨3, .data⟩ (by simp) rfl
          have g3 := hh.got 3 _ 38 rfl rfl l3 (by simp)
          rw [HI.out.known 3 (by omega) (by omega) l3] at g3
          simp [tickK] at g3
          clear l3
          go_simp
          exact ⟨_, rfl, HI.out.skip 4 (by omega) (by omega) _ rfl _ (Below.refl _ _)⟩
        · simp only [List.getElem?_cons_zero, List.getElem?_cons_succ, Option.some.injEq] at ho
          subst ho
          have k7 := hh.kept 7 (by simp)
          simp at k7
          go_simp
          exact ⟨_, rfl, HI.out.skip 5 (by omega) (by omega) _ rfl _ (Below.refl _ _)⟩
        · simp only [List.getElem?_cons_zero, List.getElem?_cons_succ, Option.some.injEq] at ho
          subst ho
          have l4 : L.getD 4 false = true := HD.out ⟨4, .data⟩ (by simp) rfl
          have g4 := hh.got 4 _ 39 rfl rfl l4 (by simp)
          rw [HI.out.known 4 (by omega) (by omega) l4] at g4
          simp [tickK] at g4
          have l5 : L.getD 5 false = true := HD.out ⟨5, .data⟩ (by simp) rfl
          have g5 := hh.got 5 _ 40 rfl rfl l5 (by simp)
          rw [HI.out.known 5 (by omega) (by omega) l5] at g5
          simp [tickK] at g5
          clear l4 l5
          go_simp
          exact ⟨_, rfl, HI.out.skip 6 (by omega) (by omega) _ rfl _ (Below.refl _ _)⟩
        · simp only [List.getElem?_cons_zero, List.getElem?_cons_succ, Option.some.injEq] at ho
          subst ho
          have l6 : L.getD 6 false = true := HD.out ⟨6, .data⟩ (by simp) rfl
          have g6 := hh.got 6 _ 41 rfl rfl l6 (by simp)
          rw [HI.out.known 6 (by omega) (by omega) l6] at g6
          simp [tickK] at g6
          clear l6
          go_simp
          exact ⟨_, rfl, HI.out.skip 7 (by omega) (by omega) _ rfl _ (Below.refl _ _)⟩
        · simp only [List.getElem?_cons_zero, List.getElem?_cons_succ, Option.some.injEq] at ho
          subst ho
          have k6 := hh.kept 6 (by simp)
          simp at k6
          go_simp
          exact ⟨_, rfl, HI.out.skip 8 (by omega) (by omega) _ rfl _ (Below.refl _ _)⟩
        · simp only [List.getElem?_cons_zero, List.getElem?_cons_succ, Option.some.injEq] at ho
          subst ho
          have k7 := hh.kept 7 (by simp)
          simp at k7
          go_simp
          exact ⟨_, rfl, HI.out.skip 9 (by omega) (by omega) _ rfl _ (Below.refl _ _)⟩
        · simp only [List.getElem?_cons_zero, List.getElem?_cons_succ, Option.some.injEq] at ho
          subst ho
          have l8 : L.getD 8 false = true := HD.out ⟨8, .data⟩ (by simp) rfl
          have g8 := hh.got 8 _ 43 rfl rfl l8 (by simp)
          rw [HI.out.known 8 (by omega) (by omega) l8] at g8
          simp [tickK] at g8
          have l9 : L.getD 9 false = true := HD.out ⟨9, .data⟩ (by simp) rfl
          have g9 := hh.got 9 _ 44 rfl rfl l9 (by simp)
          rw [HI.out.known 9 (by omega) (by omega) l9] at g9
          simp [tickK] at g9
          clear l8 l9
          go_simp
          exact ⟨_, rfl, HI.out.skip 10 (by omega) (by omega) _ rfl _ (Below.refl _ _)⟩
        · simp only [List.getElem?_cons_zero, List.getElem?_cons_succ, Option.some.injEq] at ho
          subst ho
          have l10 : L.getD 10 false = true := HD.out ⟨10, .data⟩ (by simp) rfl
          have g10 := hh.got 10 _ 45 rfl rfl l10 (by simp)
          rw [HI.out.known 10 (by omega) (by omega) l10] at g10
          simp [tickK] at g10
          clear l10
          go_simp
          exact ⟨_, rfl, HI.out.skip 11 (by omega) (by omega) _ rfl _ (Below.refl _ _)⟩
        · simp only [List.getElem?_cons_zero, List.getElem?_cons_succ, Option.some.injEq] at ho
          subst ho
          have l0 : L.getD 0 false = true := HD.out ⟨0, .data⟩ (by simp) rfl
          have g0 := hh.got 0 _ 35 rfl rfl l0 (by simp)
          rw [HI.out.known 0 (by omega) (by omega) l0] at g0
          simp [tickK] at g0
          have l7 : L.getD 7 false = true := HD.out ⟨7, .data⟩ (by simp) rfl
          have g7 := hh.got 7 _ 42 rfl rfl l7 (by simp)
          rw [HI.out.known 7 (by omega) (by omega) l7] at g7
          simp [tickK] at g7
          have l11 : L.getD 11 false = true := HD.out ⟨11, .data⟩ (by simp) rfl
          have g11 := hh.got 11 _ 46 rfl rfl l11 (by simp)
          rw [HI.out.known 11 (by omega) (by omega) l11] at g11
          simp [tickK] at g11
          clear l0 l7 l11
          go_simp
          refine (HGO.out _).mono ?_
          rintro e w' ⟨rfl, hb⟩
          exact ⟨_, rfl, HI.out.skip 12 (by omega) (by omega) _ rfl _ hb⟩
        · simp only [List.getElem?_cons_zero, List.getElem?_cons_succ, Option.some.injEq] at ho
          subst ho
          have l12 : L.getD 12 false = true := HD.out ⟨12, .data⟩ (by simp) rfl
          have g12 := hh.got 12 _ 47 rfl rfl l12 (by simp)
          rw [HI.out.known 12 (by omega) (by omega) l12] at g12
          simp [tickK] at g12
          clear l12
          go_simp
          exact ⟨_, rfl, HI.out.skip 13 (by omega) (by omega) _ rfl _ (Below.refl _ _)⟩
        · simp only [List.getElem?_cons_zero, List.getElem?_cons_succ, Option.some.injEq] at ho
          subst ho
          have l13 : L.getD 13 false = true := HD.out ⟨13, .data⟩ (by simp) rfl
          have g13 := hh.got 13 _ 34 rfl rfl l13 (by simp)
          rw [HI.out.known 13 (by omega) (by omega) l13] at g13
          simp [tickK] at g13
          clear l13
          go_simp
          exact ⟨_, rfl, HI.out.skip 14 (by omega) (by omega) _ rfl _ (Below.refl _ _)⟩
        · simp only [List.getElem?_cons_zero, List.getElem?_cons_succ, Option.some.injEq] at ho
          subst ho
          have l13 : L.getD 13 false = true := HD.out ⟨13, .data⟩ (by simp) rfl
          have g13 := hh.got 13 _ 34 rfl rfl l13 (by simp)
          rw [HI.out.known 13 (by omega) (by omega) l13] at g13
          simp [tickK] at g13
          clear l13
          go_simp
          exact ⟨_, rfl, HI.out.skip 15 (by omega) (by omega) _ rfl _ (Below.refl _ _)⟩
        · simp only [List.getElem?_cons_zero, List.getElem?_cons_succ, Option.some.injEq] at ho
          subst ho
          have l13 : L.getD 13 false = true := HD.out ⟨13, .data⟩ (by simp) rfl
          have g13 := hh.got 13 _ 34 rfl rfl l13 (by simp)
          rw [HI.out.known 13 (by omega) (by omega) l13] at g13
          simp [tickK] at g13
          clear l13
          go_simp
          exact ⟨_, rfl, HI.out.skip 16 (by omega) (by omega) _ rfl _ (Below.refl _ _)⟩
        · simp only [List.getElem?_cons_zero, List.getElem?_cons_succ, Option.some.injEq] at ho
          subst ho
          have h18 : L.getD 18 false = false := by
            cases e : L.getD 18 false with
            | false => rfl
            | true => have := HI.out.d18 e; rw [HLF.out] at this; cases this
          have HH18 := Lib.hid h18
          clear h18
          go_simp
          exact ⟨_, rfl, HI.out.alloc (by omega) HH18.out⟩
        · simp only [List.getElem?_cons_zero, List.getElem?_cons_succ, Option.some.injEq] at ho
          subst ho
          have l17 : L.getD 17 false = true := HD.out ⟨17, .data⟩ (by simp) rfl
          have g17 := hh.got 17 _ 9 rfl rfl l17 (by simp)
          have l14 : L.getD 14 false = true := HD.out ⟨14, .data⟩ (by simp) rfl
          have g14 := hh.got 14 _ 48 rfl rfl l14 (by simp)
          rw [HI.out.known 14 (by omega) (by omega) l14] at g14
          simp [tickK] at g14
          obtain ⟨g, gN, gv, u, v, gb, _⟩ := HI.out.al l17
          rw [gv] at g17
          simp at g17
          obtain ⟨_, _, _, _⟩ := cells2 gb
          have HL17 := Lib.hid l17
          have HGV := Lib.hid gv
          have HGB := Lib.hid gb
          clear l17 l14 gv gb
          go_simp
          exact ⟨undef, HI.out.fill gN HGV.out HGB.out HL17.out⟩
        · simp only [List.getElem?_cons_zero, List.getElem?_cons_succ, Option.some.injEq] at ho
          subst ho
          have l15 : L.getD 15 false = true := HD.out ⟨15, .data⟩ (by simp) rfl
          have g15 := hh.got 15 _ 49 rfl rfl l15 (by simp)
          rw [HI.out.known 15 (by omega) (by omega) l15] at g15
          simp [tickK] at g15
          clear l15
          go_simp
          exact ⟨_, rfl, HI.out.skip 19 (by omega) (by omega) _ rfl _ (Below.refl _ _)⟩
        · simp only [List.getElem?_cons_zero, List.getElem?_cons_succ, Option.some.injEq] at ho
          subst ho
          have l16 : L.getD 16 false = true := HD.out ⟨16, .data⟩ (by simp) rfl
          have g16 := hh.got 16 _ 50 rfl rfl l16 (by simp)
          rw [HI.out.known 16 (by omega) (by omega) l16] at g16
          simp [tickK] at g16
          clear l16
          go_simp
          exact ⟨_, rfl, HI.out.skip 20 (by omega) (by omega) _ rfl _ (Below.refl _ _)⟩
    · obtain rfl : k = n.ps.length := by omega
      have hd1 := HT.out.sim.rowSlice t
      obtain ⟨_, _, _, _, _, _⟩ := HT.out.sim.head
      have hrw := HT.out.row
      obtain ⟨L, hL⟩ : ∃ L, L = spkN n.ps st (due t) n.ps.length := ⟨_, rfl⟩
      obtain ⟨stN, hS⟩ : ∃ stN, stN = midS n.ps st (due t) n.ps.length := ⟨_, rfl⟩
      have hT := HT.out
      have hLr : ∀ x ∈ L, 0 ≤ x ∧ x ≤ 1023 := fun x hx => by rw [hL] at hx; have := spkN_range hx; omega
      have hLl : L.length ≤ 1024 := by rw [hL]; have := spkN_length n.ps st (due t) n.ps.length; omega
      have hT1 : SimAt n wr B z t t stN due ∧ wr.ownsRow w.heap.size 3 1 u5 L.length (L.map (Value.int .i64)) ∧ Bel z.mut w.heap.size w wr := by rw [hL, hS]; exact ⟨hT.sim, hT.row, hT.bel⟩
      have hgoal : ∀ e w', (∃ v, e = .returned v ∧ w'.ownsRow w.heap.size 3 1 v L.length (L.map (Value.int .i64)) ∧ SimAt n w' B z (t + 1) (t + 1) stN ((ids.map fun x => -1 - x).foldl (sendM n.ss t) (L.foldl (sendM n.ss t) due)) ∧ Bel z.mut w.heap.size w w') → TickOut n B z t st due ids w e w' := by
        rintro e w' ⟨v, h1, h2, h3, h4⟩
        rw [hL] at h2 h3
        rw [hS] at h3
        rw [← List.foldl_append] at h3
        exact ⟨v, h1, h2, h3, h4⟩
      obtain ⟨va, vc, hv⟩ : ∃ va vc, u5 = .slice va L.length vc := by
        have hr := hT1.2.1
        rcases hr.2 with ⟨h1, h2⟩ | ⟨g, cap, cur, h1, _⟩
        · exact ⟨none, 0, by rw [h1, h2]⟩
        · exact ⟨_, _, h1⟩
      rw [hv] at hT1
      subst hv
      have HT1 := Lib.hid hT1
      have HLR := Lib.hid hLr
      have HGOAL := Lib.hid hgoal
      clear HT hT hL hS hLr hT1 hgoal hrw hk hlt hd1
      have hn1 : 1 ≤ n.ps.length := HOK.out.p0
      have hm0 : (0 : Int) ≤ (L.length : Int) := Int.natCast_nonneg _
      go_wp2_with (fail)
      go_still_tail 7, (by kernel_rfl)
      change wpList _ _ _ _ _ wr.drew
      have hT2 : SimAt n wr.drew B z t t stN due ∧ wr.drew.ownsRow w.heap.size 3 1 (.slice va L.length vc) L.length (L.map (Value.int .i64)) ∧ Bel z.mut w.heap.size w wr.drew :=
        ⟨HT1.out.1.keepN HT1.out.1.isIn (fun b _ => (rfl : wr.drew.heap[b]? = wr.heap[b]?)), ownsRow_of_block HT1.out.2.1 fun g _ => (rfl : wr.drew.heap[g]? = wr.heap[g]?), HT1.out.2.2.drew⟩
      generalize wr.drew = W1 at *
      have HT2 := Lib.hid hT2
      clear hT2 HT1
      go_wp2_with (go_at_call 94; refine (over_any n B z t stN due ht hn1 W1 HT2.out.1).mono ?_; rintro e w2 ⟨⟨_, rfl⟩, hs2, hb2⟩; have HS2 := Lib.hid hs2; have HB2 := Lib.hid hb2; clear hs2 hb2)
      have hI2 : Tick2 n B z t stN due L w (.slice va L.length vc) w2 := ⟨HS2.out, ownsRow_of_block HT2.out.2.1 fun g hg => HB2.out.block g (HT2.out.2.1.lt g hg).2 (fun hmm => by have := HIN.out.mut hmm; have := (HT2.out.2.1.lt g hg).1; omega), HT2.out.2.2.trans (HB2.out.mono HT2.out.2.2.size fun _ _ h => h)⟩
      have HI2 := Lib.hid hI2
      clear hI2 HS2 HB2 HT2
      go_loopw [74] (fun s wr => ∃ j : Nat, j ≤ L.length ∧ s = .int .i64 j ∧ Tick2 n B z t stN ((L.take j).foldl (sendM n.ss t) due) L w (.slice va L.length vc) wr) (fun s _ => L.length - (intOf s).toNat)
      case atStart => exact ⟨0, Nat.zero_le _, rfl, HI2.out⟩
      case round =>
        obtain ⟨j, hj, rfl, hI⟩ := hrel
        have hj0 : (0 : Int) ≤ (j : Int) := Int.natCast_nonneg _
        have HI3 := Lib.hid hI
        by_cases hlt : j < L.length
        · have hj1 : ((j : Int) < (L.length : Int)) = True := by simp; omega
          have hrow := hI.row
          obtain ⟨g, cap, hv⟩ := own_form hrow (by omega)
          cases hv
          obtain ⟨x, hx⟩ : ∃ x, L[j]? = some x := ⟨_, List.getElem?_eq_getElem hlt⟩
          have hc : wr.cell? ⟨g, j, none⟩ = some (.int .i64 x) := by rw [hrow.cellAt j (by omega)]; simp [hx]
          have hxr := HLR.out x (List.mem_of_getElem? hx)
          have hsend := callsIn_wide.1 (send_in n HOK.out B z t stN _ ht x (by omega) wr hI.sim)
          have HSEND := Lib.hid hsend
          have HX := Lib.hid hx
          clear hI hrow hx hsend hxr
          go_wp2_with (go_at_call 95; refine HSEND.out.mono ?_; rintro e w3 ⟨⟨_, rfl⟩, hs3, hb3⟩; have HS3 := Lib.hid hs3; have HB3 := Lib.hid hb3; clear hs3 hb3)
          go_roundw
          case rel => exact ⟨j + 1, hlt, by go_num, by rw [foldl_take HX.out]; exact HI3.out.send HIN.out HS3.out HB3.out⟩
          case measure => simp [intOf]; omega
        · obtain rfl : j = L.length := by omega
          have hj1 : ((L.length : Int) < (L.length : Int)) = False := by simp
          have hI4 := hI
          rw [List.take_of_length_le (Nat.le_refl _)] at hI4
          obtain ⟨due2, hd2⟩ : ∃ due2, due2 = L.foldl (sendM n.ss t) due := ⟨_, rfl⟩
          rw [← hd2] at hI4
          have HI4 := Lib.hid hI4
          have HD2 := Lib.hid hd2
          clear hI HI3 hI4 hd2 hj hlt
          go_wp2
          go_loopw [84] (fun s wr => ∃ i : Nat, i ≤ ids.length ∧ s = .int .i64 i ∧ Tick2 n B z t stN (((ids.take i).map fun x => -1 - x).foldl (sendM n.ss t) due2) L w (.slice va L.length vc) wr) (fun s _ => ids.length - (intOf s).toNat)
          case atStart => exact ⟨0, Nat.zero_le _, rfl, HI4.out⟩
          case round =>
            obtain ⟨i, hi, rfl, hI⟩ := hrel
            have hi0 : (0 : Int) ≤ (i : Int) := Int.natCast_nonneg _
            have HI3 := Lib.hid hI
            by_cases hlt : i < ids.length
            · have hi1 : ((i : Int) < (ids.length : Int)) = True := by simp; omega
              obtain ⟨b, off, rfl, hc⟩ := intsAt_cell (HI.out.bel HIM.out hI.bel) i hlt
              obtain ⟨x, hx⟩ : ∃ x, ids[i]? = some x := ⟨_, List.getElem?_eq_getElem hlt⟩
              rw [hx, Option.getD_some] at hc
              obtain ⟨hx0, hx1⟩ := HID.out x (List.mem_of_getElem? hx)
              have hin1 := HOK.out.i1
              have hx2 : x ≤ 255 := by omega
              have hsend := callsIn_wide.1 (send_in n HOK.out B z t stN _ ht (-1 - x) (by omega) wr hI.sim)
              have HSEND := Lib.hid hsend
              have HX := Lib.hid hx
              clear hI hx hsend hx1 hin1
              go_wp2_with (go_at_call 95; refine HSEND.out.mono ?_; rintro e w3 ⟨⟨_, rfl⟩, hs3, hb3⟩; have HS3 := Lib.hid hs3; have HB3 := Lib.hid hb3; clear hs3 hb3)
              go_roundw
              case rel => exact ⟨i + 1, hlt, by go_num, by rw [List.map_take, foldl_take (x := -1 - x) (by simp [HX.out]), ← List.map_take]; exact HI3.out.send HIN.out HS3.out HB3.out⟩
              case measure => simp [intOf]; omega
            · obtain rfl : i = ids.length := by omega
              have hi1 : ((ids.length : Int) < (ids.length : Int)) = False := by simp
              obtain ⟨_, _, _, _, h4, _⟩ := hI.sim.head
              have h4f := hI.sim.nowCell
              have hic := hI.sim.incr
              rw [List.take_of_length_le (Nat.le_refl _)] at hic
              have HIC := Lib.hid hic
              have hrow := hI.row
              have HROW := Lib.hid hrow
              have HBL := Lib.hid hI.bel
              have ht0 : (0 : Int) ≤ (t : Int) := Int.natCast_nonneg _
              clear hI HI3 hic hrow hi hlt
              go_wp2
              go_ret
              refine HGOAL.out _ _ ⟨_, rfl, ?_, ?_, ?_⟩
              · exact ownsRow_of_block HROW.out fun g hg => HIC.out.2.block g (HROW.out.lt g hg).2 (fun hmm => by have := HIN.out.mut hmm; have := (HROW.out.lt g hg).1; omega)
              · rw [← HD2.out]; exact HIC.out.1
              · exact HBL.out.trans (HIC.out.2.mono HBL.out.size fun _ _ h => h)
end Go.Proofs.Ytgbcdebnanejpaa
