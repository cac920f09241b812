/- What a network and a claim that are a law's arguments read as. -/
import Derived.Test.YtnbndciididpoaaGreatNz
import Derived.Test.YtnbndciididpoaaGreatVo
import Derived.ChangeSlices
namespace Go.Proofs.YtnbndciididpoaaGreat
set_option linter.unusedVariables false
open Go.ChangeShapes Go.WideShapes Go.ChangeAt Go.RowKit

section
variable {H : Type} {enc : TypeId × Value → H} {P : Program} {w : World} {base : Nat} {spare : Nat → Bool} {held : Bool}
/-- A slice of structs whose fields are all ints: each cell holds an int. -/
theorem open_slice_rows {t e i0 m : Nat} {fs : Array Field} {fuel b off n cap : Nat} {x : DataW H × List MemPlace} (ht : P.underlying t = some (.slice e)) (hs : P.underlying e = some (.struct fs)) (hi : P.underlying i0 = some (.int .i64))
    (hf : ∀ (i : Nat) (f : Field), fs[i]? = some f → f.offset = i ∧ f.type = i0 ∧ P.cellsOf f.type = 1) (hm : fs.size = m) (hC : P.cellsOf e = m)
    (h : DataW.trod enc P w base spare held fuel t [.slice (some ⟨b, off, none⟩) n cap] = some x) :
    n ≤ maxLen ∧ ∀ i j, i < n → j < m → ∃ z, w.cell? ⟨b, off + i * m + j, none⟩ = some (.int .i64 z) := by
  rcases DataW.trod_slice ht h with ⟨h0, _⟩ | ⟨a, len, cap', elems, rest, g, _, h1, _, _, hl, hmx, hlen, hel, _, _⟩
  · simp at h0
  · simp at h1
    obtain ⟨rfl, rfl, rfl⟩ := h1
    refine ⟨Nat.le_trans hl hmx, fun i j hin hj => ?_⟩
    have h2 := hel i hin
    rw [List.getElem?_eq_getElem (by omega), Option.bind_eq_some_iff] at h2
    obtain ⟨cs, h3, h4⟩ := h2
    obtain ⟨xs, g', _, _, hcl, hxl, hg⟩ := DataW.trod_struct hs h4
    have hfi : fs[j]? = some (fs[j]'(by omega)) := Array.getElem?_eq_getElem (by omega)
    obtain ⟨ho, hty, hk⟩ := hf j _ hfi
    have h5 := hg j _ hfi
    rw [ho, hk, List.getElem?_eq_getElem (by omega), hty] at h5
    obtain ⟨z, h6, _, _⟩ := DataW.trod_int hi h5
    refine ⟨z, ?_⟩
    have hjl : j < cs.length := by omega
    rw [List.drop_eq_getElem_cons hjl] at h6
    have h7 : cs[j] = .int .i64 z := (List.cons.inj h6).1
    unfold World.cells? at h3
    split at h3
    · have h8 := mapM_some_get h3 j j (by simp [hC, hj])
      rw [List.getElem?_eq_getElem hjl, h7] at h8
      rw [hC] at h8
      rw [← h8]
      congr 1
      unfold Addr.add
      split <;> split <;> simp_all <;> omega
    · simp at h3
end

/-- The int that a cell holds. -/
def icell (W : World) (b o : Nat) : Int := match W.cell? ⟨b, o, none⟩ with
  | some (.int _ z) => z
  | _ => 0
theorem icell_at {W : World} {b o : Nat} (h : ∃ z, W.cell? ⟨b, o, none⟩ = some (.int .i64 z)) : W.cell? ⟨b, o, none⟩ = some (.int .i64 (icell W b o)) := by
  obtain ⟨z, hz⟩ := h
  simp [icell, hz]
def prmOf (W : World) (b o : Nat) : Prm := ⟨icell W b (o + 0), icell W b (o + 1), icell W b (o + 2), icell W b (o + 3), icell W b (o + 4), icell W b (o + 5), icell W b (o + 6), icell W b (o + 7)⟩
def synOf (W : World) (b o : Nat) : Syn := ⟨icell W b (o + 0), icell W b (o + 1), icell W b (o + 2), icell W b (o + 3)⟩
theorem cells132 : Tryz.prog.cellsOf 132 = 4 := by kernel_rfl
theorem cells128 : Tryz.prog.cellsOf 128 = 8 := by kernel_rfl

section
variable {H : Type} {enc : TypeId × Value → H} {w : World} {base : Nat} {spare : Nat → Bool} {held : Bool}
set_option maxRecDepth 100000 in
theorem open_ps {r : Reach} {b0 fuel : Nat} {v : Value} {x : DataW H × List MemPlace} (hv : Cell.okWide Tryz.prog w r b0 22 v) (h : DataW.trod enc Tryz.prog w base spare held fuel 22 [v] = some x) :
    ∃ l a c, v = .slice a l.length c ∧ PsAt w v l ∧ l.length ≤ maxLen := by
  rcases cellOkWide_slice Tryz.underlying22 hv with rfl | ⟨b, off, n, cap, rfl, hl⟩
  · exact ⟨[], none, 0, rfl, Or.inl ⟨rfl, rfl⟩, by simp⟩
  · obtain ⟨hm, hc⟩ := open_slice_rows (i0 := 3) (m := 8) Tryz.underlying22 Tryz.underlying128 Tryz.underlying3 (by
      intro i f hf
      match i, hf with
      | 0, hf | 1, hf | 2, hf | 3, hf | 4, hf | 5, hf | 6, hf | 7, hf => cases hf; exact ⟨rfl, rfl, by kernel_rfl⟩
      | n + 8, hf => simp at hf) (by rfl) cells128 h
    refine ⟨(List.range n).map fun i => prmOf w b (off + i * 8), some ⟨b, off, none⟩, cap, by simp, Or.inr ⟨b, off, cap, by simp, hl, fun k p hk => ?_⟩, by simpa using hm⟩
    have hkn : k < n := by
      have := (List.getElem?_eq_some_iff.mp hk).1
      simpa using this
    obtain rfl : prmOf w b (off + k * 8) = p := by simpa [hkn] using hk
    exact ⟨icell_at (hc k 0 hkn (by omega)), icell_at (hc k 1 hkn (by omega)), icell_at (hc k 2 hkn (by omega)), icell_at (hc k 3 hkn (by omega)), icell_at (hc k 4 hkn (by omega)), icell_at (hc k 5 hkn (by omega)), icell_at (hc k 6 hkn (by omega)), icell_at (hc k 7 hkn (by omega))⟩
set_option maxRecDepth 100000 in
theorem open_ss {r : Reach} {b0 fuel : Nat} {v : Value} {x : DataW H × List MemPlace} (hv : Cell.okWide Tryz.prog w r b0 23 v) (h : DataW.trod enc Tryz.prog w base spare held fuel 23 [v] = some x) :
    ∃ l a c, v = .slice a l.length c ∧ SsAt w v l ∧ l.length ≤ maxLen := by
  rcases cellOkWide_slice Tryz.underlying23 hv with rfl | ⟨b, off, n, cap, rfl, hl⟩
  · exact ⟨[], none, 0, rfl, Or.inl ⟨rfl, rfl⟩, by simp⟩
  · obtain ⟨hm, hc⟩ := open_slice_rows (i0 := 3) (m := 4) Tryz.underlying23 Tryz.underlying132 Tryz.underlying3 (by
      intro i f hf
      match i, hf with
      | 0, hf | 1, hf | 2, hf | 3, hf => cases hf; exact ⟨rfl, rfl, by kernel_rfl⟩
      | n + 4, hf => simp at hf) (by rfl) cells132 h
    refine ⟨(List.range n).map fun i => synOf w b (off + i * 4), some ⟨b, off, none⟩, cap, by simp, Or.inr ⟨b, off, cap, by simp, hl, fun k p hk => ?_⟩, by simpa using hm⟩
    have hkn : k < n := by
      have := (List.getElem?_eq_some_iff.mp hk).1
      simpa using this
    obtain rfl : synOf w b (off + k * 4) = p := by simpa [hkn] using hk
    exact ⟨icell_at (hc k 0 hkn (by omega)), icell_at (hc k 1 hkn (by omega)), icell_at (hc k 2 hkn (by omega)), icell_at (hc k 3 hkn (by omega))⟩

set_option maxRecDepth 100000 in
/-- A network by value. -/
theorem open_net {r : Reach} {b0 : Nat} {v : Value} {d : DataW H} {p : List MemPlace} (hv : Value.okWide Tryz.prog w r b0 25 v) (h : DataW.Trod enc Tryz.prog w base spare held 25 v d p) :
    ∃ n : NetM, NetAt w v n ∧ n.ps.length ≤ maxLen ∧ n.ss.length ≤ maxLen := by
  have hv' := hv
  simp only [Value.okWide, Tryz.underlying25] at hv'
  obtain ⟨cs, rfl, hsz, ts, hts, _, hrow⟩ := hv'
  have hts' : Tryz.prog.cellTypes Tryz.prog.depth 25 = some [22, 3, 23] := by kernel_rfl
  rw [hts'] at hts
  cases hts
  have hc25 : Tryz.prog.cellsOf 25 = 3 := by kernel_rfl
  rw [hc25] at hsz
  obtain ⟨cl⟩ := cs
  match cl, hsz with
  | [v0, v1, v2], _ =>
    obtain ⟨u0, e0, k0⟩ := hrow 0 v0 rfl
    obtain ⟨u2, e2, k2⟩ := hrow 2 v2 rfl
    obtain rfl : 22 = u0 := by simpa using e0
    obtain rfl : 23 = u2 := by simpa using e2
    obtain ⟨fuel, hfu⟩ := h
    obtain ⟨xs, g, _, _, hcl, hxl, hg⟩ := DataW.trod_struct Tryz.underlying25 hfu
    have hxl' : xs.length = 3 := hxl
    match xs, hxl' with
    | [x0, x1, x2], _ =>
      have g0 := hg 0 _ rfl
      have g1 := hg 1 _ rfl
      have g2 := hg 2 _ rfl
      simp [Value.cells, show Tryz.prog.cellsOf 22 = 1 from by kernel_rfl, show Tryz.prog.cellsOf 3 = 1 from by kernel_rfl, show Tryz.prog.cellsOf 23 = 1 from by kernel_rfl] at g0 g1 g2
      obtain ⟨ps, a1, c1, rfl, hp, lp⟩ := open_ps k0 g0
      obtain ⟨ss, a2, c2, rfl, hs, ls⟩ := open_ss k2 g2
      obtain ⟨z, hz, _, _⟩ := DataW.trod_int Tryz.underlying3 g1
      obtain rfl : v1 = .int .i64 z := by simpa using hz
      exact ⟨⟨ps, z, ss⟩, ⟨a1, c1, a2, c2, rfl, hp, hs⟩, lp, ls⟩
set_option maxRecDepth 100000 in
theorem open_ns {r : Reach} {b0 fuel : Nat} {v : Value} {x : DataW H × List MemPlace} (hv : Cell.okWide Tryz.prog w r b0 26 v) (h : DataW.trod enc Tryz.prog w base spare held fuel 26 [v] = some x) :
    ∃ l a c, v = .slice a l.length c ∧ KAt .i64 w (.slice a l.length c) l ∧ l.length ≤ c ∧ ∀ z ∈ l, (Lit.int .i64 z).wf = true := by
  rcases cellOkWide_slice Tryz.underlying26 hv with rfl | ⟨b, off, n, cap, rfl, hlt⟩
  · exact ⟨[], none, 0, rfl, Or.inl ⟨rfl, rfl⟩, by simp, by simp⟩
  · rcases open_ints Tryz.underlying26 Tryz.underlying3 (by kernel_rfl) h with ⟨h0, _⟩ | ⟨a', len, cap', zs, h1, _, hl, hm, hz, _, hcell, hwf⟩
    · simp at h0
    · simp at h1
      obtain ⟨rfl, rfl, rfl⟩ := h1
      have hge : n ≤ zs.length := by rw [hz]; split <;> omega
      have hlen : (zs.take n).length = n := by simp; omega
      refine ⟨zs.take n, some ⟨b, off, none⟩, cap, by rw [hlen], Or.inr ⟨b, off, cap, rfl, hlt, ?_⟩, by rw [hlen]; exact hl, fun z hz' => hwf z (List.mem_of_mem_take hz')⟩
      intro j z hj
      have hjn : j < n := by have := (List.getElem?_eq_some_iff.1 hj).1; omega
      have h2 := hcell j (by omega)
      have hadd : (⟨b, off, none⟩ : Addr).add j = ⟨b, off + j, none⟩ := by unfold Addr.add; split <;> simp_all
      rw [hadd] at h2
      rw [List.getElem?_take_of_lt hjn] at hj
      have hjz : j < zs.length := (List.getElem?_eq_some_iff.1 hj).1
      have e2 : zs[j] = z := (List.getElem?_eq_some_iff.1 hj).2
      rw [h2]; simp [hjz, e2]
set_option maxRecDepth 100000 in
/-- A claim by value. -/
theorem open_clm {r : Reach} {b0 : Nat} {v : Value} {d : DataW H} {p : List MemPlace} (hv : Value.okWide Tryz.prog w r b0 50 v) (h : DataW.Trod enc Tryz.prog w base spare held 50 v d p) :
    ∃ (c : Clm) (na : Option Addr) (nc : Nat), v = clmV c na nc ∧ KAt .i64 w (.slice na c.ns.length nc) c.ns ∧ c.ns.length ≤ nc ∧ (Lit.int .i64 c.kd).wf = true ∧ ∀ z ∈ c.ns, (Lit.int .i64 z).wf = true := by
  have hv' := hv
  simp only [Value.okWide, Tryz.underlying50] at hv'
  obtain ⟨cs, rfl, hsz, ts, hts, _, hrow⟩ := hv'
  have hts' : Tryz.prog.cellTypes Tryz.prog.depth 50 = some [3, 26, 3, 3, 3, 3] := by kernel_rfl
  rw [hts'] at hts
  cases hts
  have hcc : Tryz.prog.cellsOf 50 = 6 := by kernel_rfl
  rw [hcc] at hsz
  obtain ⟨cl⟩ := cs
  match cl, hsz with
  | [v0, v1, v2, v3, v4, v5], _ =>
    obtain ⟨u1, e1, k1⟩ := hrow 1 v1 rfl
    obtain rfl : 26 = u1 := by simpa using e1
    obtain ⟨fuel, hfu⟩ := h
    obtain ⟨xs, g, _, _, hcl, hxl, hg⟩ := DataW.trod_struct Tryz.underlying50 hfu
    have hxl' : xs.length = 6 := hxl
    match xs, hxl' with
    | [x0, x1, x2, x3, x4, x5], _ =>
      have g0 := hg 0 _ rfl
      have g1 := hg 1 _ rfl
      have g2 := hg 2 _ rfl
      have g3 := hg 3 _ rfl
      have g4 := hg 4 _ rfl
      have g5 := hg 5 _ rfl
      simp [Value.cells, show Tryz.prog.cellsOf 26 = 1 from by kernel_rfl, show Tryz.prog.cellsOf 3 = 1 from by kernel_rfl] at g0 g1 g2 g3 g4 g5
      obtain ⟨l, a, c, rfl, hk, hl, hw⟩ := open_ns k1 g1
      obtain ⟨z0, h0, _, w0⟩ := DataW.trod_int Tryz.underlying3 g0
      obtain rfl : v0 = .int .i64 z0 := by simpa using h0
      obtain ⟨z2, h2, _, _⟩ := DataW.trod_int Tryz.underlying3 g2
      obtain rfl : v2 = .int .i64 z2 := by simpa using h2
      obtain ⟨z3, h3, _, _⟩ := DataW.trod_int Tryz.underlying3 g3
      obtain rfl : v3 = .int .i64 z3 := by simpa using h3
      obtain ⟨z4, h4, _, _⟩ := DataW.trod_int Tryz.underlying3 g4
      obtain rfl : v4 = .int .i64 z4 := by simpa using h4
      obtain ⟨z5, h5, _, _⟩ := DataW.trod_int Tryz.underlying3 g5
      obtain rfl : v5 = .int .i64 z5 := by simpa using h5
      exact ⟨⟨z0, l, z2, z3, z4, z5⟩, a, c, rfl, hk, hl, w0, hw⟩
end
end Go.Proofs.YtnbndciididpoaaGreat
