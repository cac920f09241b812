/- The law's ref: rules handed to the specification. Over this seat's program. -/
import Derived.Test.YtipodippfddlpaaLr
import Derived.OwnWalkIn
namespace Go.Proofs.Ytipodippfddlpaa.Lrn
set_option linter.unusedVariables false
open Go.RowKit Go.Shelf

theorem Try.info40 : (Try.prog.info? 40).map (fun i => (i.zero, i.size, i.bytes)) = some (some (.agg #[.int .i64 0, .int .i64 0, .int .i64 0, .int .i64 0, .int .i64 0, .int .i64 0, .int .i64 0, .int .i64 0, .int .i64 0, .bool false]), 10, 80) := by kernel_rfl
def rulV (r : Rul) : List Value := [.int .i64 r.kd, .int .i64 r.up, .int .i64 r.dn, .int .i64 r.sh, .int .i64 r.ga, .int .i64 r.ke, .int .i64 r.fa, .int .i64 r.lo, .int .i64 r.hi, .bool r.sm]
theorem flat_get : ∀ (rs : List Rul) (i c : Nat) (r : Rul), c < 10 → rs[i]? = some r → (rs.flatMap rulV)[i * 10 + c]? = (rulV r)[c]?
  | [], i, c, r, _, h => by simp at h
  | x :: rs, 0, c, r, hc, h => by
    simp at h; subst h
    rw [List.flatMap_cons, List.getElem?_append_left (by simp [rulV]; omega)]
    simp
  | x :: rs, i + 1, c, r, hc, h => by
    rw [List.flatMap_cons, List.getElem?_append_right (by simp [rulV]; omega)]
    have := flat_get rs i c r hc (by simpa using h)
    rw [← this]
    congr 1
    simp [rulV]; omega
theorem cells_new {W : World} {b : Nat} {l : List Value} {t : TypeId} {m : Nat × Nat} (h : W.heap[b]? = some (.cells ⟨l⟩ t m)) : ∀ (j : Nat) u, l[j]? = some u → W.cell? ((⟨b, 0, none⟩ : Addr).add j) = some u := fun j u hu => by
  have e : (⟨b, 0, none⟩ : Addr).add j = ⟨b, j, none⟩ := by unfold Addr.add; split <;> simp_all
  rw [e]
  simp [World.cell?, h, hu]
theorem rlsAt_of_owns {W : World} {base : Nat} {v : Value} {rs : List Rul} (h : W.ownsRow base 40 10 v rs.length (rs.flatMap rulV)) : RlsAt W v rs := by
  rcases h.2 with ⟨rfl, h0⟩ | ⟨g, cap, cur, rfl, hb, hg, _, _, _, ht⟩
  · exact Or.inl ⟨rfl, List.eq_nil_of_length_eq_zero h0⟩
  · refine Or.inr ⟨g, 0, cap, rfl, (Array.getElem?_eq_some_iff.1 hg).1, fun k r hk => ?_⟩
    have key : ∀ c u, c < 10 → (rulV r)[c]? = some u → W.cell? ⟨g, 0 + k * 10 + c, none⟩ = some u := fun c u hc hu => by
      have h1 := h.cells (g := g) rfl (k * 10 + c) u (by rw [flat_get rs k c r hc hk]; exact hu)
      have hadd : (⟨g, 0, none⟩ : Addr).add (k * 10 + c) = ⟨g, k * 10 + c, none⟩ := by unfold Addr.add; split <;> simp_all
      rw [hadd] at h1
      rw [show 0 + k * 10 + c = k * 10 + c by omega]; exact h1
    exact ⟨key 0 _ (by omega) rfl, key 1 _ (by omega) rfl, key 2 _ (by omega) rfl, key 3 _ (by omega) rfl, key 4 _ (by omega) rfl, key 5 _ (by omega) rfl, key 6 _ (by omega) rfl, key 7 _ (by omega) rfl, key 8 _ (by omega) rfl, key 9 _ (by omega) rfl⟩

/-- What ref leaves. -/
def RefGot (rs : List Rul) (w : World) (e : Ending) (w' : World) : Prop := ∃ a cap, e = .returned (.slice a rs.length cap) ∧ RlsAt w' (.slice a rs.length cap) rs ∧ Below w.heap.size w w'
set_option maxRecDepth 100000 in
set_option maxHeartbeats 2000000 in
theorem ref_any (rs : List Rul) (ar : Option Addr) (cr : Nat) (hl : rs.length ≤ 17) (w : World) (hr : RlsAt w (.slice ar rs.length cr) rs) :
    Calls Try.prog 17 #[.slice ar rs.length cr] w (RefGot rs w) := by
  obtain ⟨i0, hi, hz0, hzz1, hzz2⟩ := info_parts Try.info40
  obtain ⟨m, hm⟩ : ∃ m, m = rs.length := ⟨_, rfl⟩
  rw [← hm] at hl hr ⊢
  have HM := Lib.hid hm
  have HR := Lib.hid hr
  clear hm hr
  go_enter Try.func17, Try.ntmps17
  go_wp2
  go_loopw [3, 4] (fun s3 s4 wr => ∃ k : Nat, k ≤ m ∧ s4 = .int .i64 k ∧ wr.ownsRow w.heap.size 40 10 s3 k ((rs.take k).flatMap rulV) ∧ Below w.heap.size w wr) (fun _ s4 _ => m - (intOf s4).toNat)
  case atStart => exact ⟨0, Nat.zero_le _, by go_num, ⟨by simp, .inl ⟨rfl, rfl⟩⟩, Below.refl _ _⟩
  case round =>
    obtain ⟨k, hk, rfl, ho, hb⟩ := hrel
    have HO := Lib.hid ho
    have HB := Lib.hid hb
    have hzw : w.heap.size ≤ wr.heap.size := hb.size
    clear ho hb
    by_cases hlt : k < m
    · have hk0 : (0 : Int) ≤ (k : Int) := Int.natCast_nonneg _
      have hk1 : (k : Int) < (m : Int) := by omega
      obtain ⟨b, off, rfl, hbl, hc⟩ := (HR.out.below HB.out).at (ruleAt_get (k := k) (by have := HM.out; omega))
      obtain ⟨r, hrr⟩ : ∃ r, r = ruleAt rs k := ⟨_, rfl⟩
      rw [← hrr] at hc
      obtain ⟨u0, u1, u2, u3', u4', u5, u6, u7, u8, u9⟩ := hc
      have HRR := Lib.hid hrr
      clear hrr
      have hnew : (wr.alloc (.cells #[.int .i64 r.kd, .int .i64 r.up, .int .i64 r.dn, .int .i64 r.sh, .int .i64 r.ga, .int .i64 r.ke, .int .i64 r.fa, .int .i64 r.lo, .int .i64 r.hi, .bool r.sm] 40)).heap[wr.heap.size]? = some (.cells ⟨rulV r⟩ 40) := alloc_new_at _ _ _ rfl
      have HNEW := Lib.hid hnew
      clear hnew
      go_wp2_with (at_builtin; refine wpList_append_own _ rfl _ _ 33 rfl w.heap.size 40 i0 _ 10 80 Try.underlying33 hi hz0 hzz1 hzz2 rfl (by decide) u3 k _ rfl (HO.out.alloc _) ⟨wr.heap.size, 0, none⟩ 1 1 (rulV r) rfl rfl (cells_new HNEW.out) (by simp [rulV, Value.oneCell']) (by unfold maxLen; omega) (by omega) (by simp; omega) ?_; intro v' w7 hown' hgrow _; have HO7 := Lib.hid hown'; have HG := Lib.hid hgrow; clear hown' hgrow)
      have hG := HG.out
      have hsz := hG.size
      rw [World.size_alloc] at hsz
      have old : ∀ g, g < w.heap.size → w7.heap[g]? = wr.heap[g]? := fun g h => by
        rw [hG.block g (by rw [World.size_alloc]; omega) (fun e => by have := (HO.out.lt g e.symm).1; omega), Below.heap_alloc _ _ _ (by omega)]
      have hbw := HB.out
      refine ⟨⟨k + 1, by omega, by go_num, ?_, ⟨hG.os.trans hbw.os, hG.tape.trans hbw.tape, hG.output.trans hbw.output, by omega, fun g h => (old g h).trans (hbw.block g h)⟩⟩, by simp [intOf]; omega⟩
      rw [List.take_add_one, ruleAt_get (k := k) (by have := HM.out; omega), ← HRR.out, List.flatMap_append]
      simpa using HO7.out
    · have hkm : m = k := by omega
      subst hkm
      clear hlt hk
      have hin : RlsAt wr u3 rs := by
        refine rlsAt_of_owns (base := w.heap.size) ?_
        have h := HO.out
        have h9 := HM.out
        rw [List.take_of_length_le (by omega)] at h
        rw [← h9]; exact h
      obtain ⟨av, cv, he⟩ := hin.form
      have HI := Lib.hid hin
      have HE := Lib.hid he
      clear hin he
      go_wp2
      go_ret
      exact ⟨av, cv, by rw [← HE.out]; rfl, by rw [← HE.out]; exact HI.out, HB.out⟩
end Go.Proofs.Ytipodippfddlpaa.Lrn
