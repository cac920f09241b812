/-
  No cell of these rows narrows 'for every input' (looked for: loops, veiled, ifaces, maps, wideKeys, modest, calm, conditions, laid).
  DERIVED. THE GIVEN ROWS OF THIS SEAT. 10 by the template 'for every input the law returns true; each argument reads behind the call as it read before'; 0 by the template 'total and deterministic' (their statements: YtjdcjcanmeangaaGreatTotals.lean).
  GIVEN WITH THE SEED: the statements are not yours to turn. If you find one false, say at which input.
  Laid BY PROGRAM, IN A SANDBOX (cutbox-rows.mjs): the forced cells as the released guide's own fill.sh prints them over the translation 3dc990f2d4fb9c3b… (all of the seat's roots in one cut). By AI agents, Wed Nov 11 2026. No macro, syntax, notation, axiom, sorry.
-/
import Derived.Test.YtjdcjcanmeangaaGreatChecked
import GoSem.Claim
import GoSem.ClaimJoined
import GoSem.ClaimMapViews
import Derived.JoinedTies
import Derived.KernelRfl
namespace Go.Proofs.YtjdcjcanmeangaaGreat
/- THE CELL 'sum', in the pinned program and in every row, IS THE sha256 OF THE DUMP (.gsa) THAT YtjdcjcanmeangaaGreatProg.lean LOADS. Nothing in Lean hashes anything: it is a label: what it is worth is what the hold of that sum in a sandbox is worth. -/
noncomputable def Tryz.pinned : Pinned := { name := "ytjdcjcanmeangaagreat", sum := "3dc990f2d4fb9c3bb291ee5c0696abbe920c88f9086668dca7c95aee4fc6a09e", checked := Tryz.checked }
namespace Rows
def none {H : Type} : Left H := { results := [], args := [] }

/-- 'ganglionlaw10.CodeRates': WHATEVER THE INPUT: true; the input reads as it did. -/
def codeRatesSpec : ChangeSpec := { name := "codeRates", fn := fun _ => fun
  | [d1, d2, d3, d4, d5] => { results := [.lit (.bool true)], args := [d1, d2, d3, d4, d5] }
  | _ => none }
def codeRatesRow : OpenClaim := { program := "ytjdcjcanmeangaagreat", sum := "3dc990f2d4fb9c3bb291ee5c0696abbe920c88f9086668dca7c95aee4fc6a09e", func := "ganglion/ganglionlaw10.CodeRates", spec := "codeRates", unfollowed := true, recurses := true, apart := false }
def CodeRatesSaid : Prop := codeRatesRow.holds Tryz.pinned (OpenSpec.ofChange codeRatesSpec)

/-- ITS FALSE NEIGHBOUR: 'it returns false'. Refute it at one input. -/
def codeRatesWrong : ChangeSpec := { name := "codeRates", fn := fun _ => fun
  | [d1, d2, d3, d4, d5] => { results := [.lit (.bool false)], args := [d1, d2, d3, d4, d5] }
  | _ => none }
def CodeRatesWrongFalsely : Prop := codeRatesRow.holds Tryz.pinned (OpenSpec.ofChange codeRatesWrong)

/-- 'ganglionlaw10.CodeOrders': WHATEVER THE INPUT: true; the input reads as it did. -/
def codeOrdersSpec : ChangeSpec := { name := "codeOrders", fn := fun _ => fun
  | [d1, d2, d3, d4, d5, d6, d7] => { results := [.lit (.bool true)], args := [d1, d2, d3, d4, d5, d6, d7] }
  | _ => none }
def codeOrdersRow : OpenClaim := { program := "ytjdcjcanmeangaagreat", sum := "3dc990f2d4fb9c3bb291ee5c0696abbe920c88f9086668dca7c95aee4fc6a09e", func := "ganglion/ganglionlaw10.CodeOrders", spec := "codeOrders", unfollowed := true, recurses := true, apart := false }
def CodeOrdersSaid : Prop := codeOrdersRow.holds Tryz.pinned (OpenSpec.ofChange codeOrdersSpec)

/-- ITS FALSE NEIGHBOUR: 'it returns false'. Refute it at one input. -/
def codeOrdersWrong : ChangeSpec := { name := "codeOrders", fn := fun _ => fun
  | [d1, d2, d3, d4, d5, d6, d7] => { results := [.lit (.bool false)], args := [d1, d2, d3, d4, d5, d6, d7] }
  | _ => none }
def CodeOrdersWrongFalsely : Prop := codeOrdersRow.holds Tryz.pinned (OpenSpec.ofChange codeOrdersWrong)

/-- 'ganglionlaw10.CodeDecides': WHATEVER THE INPUT: true; the input reads as it did. -/
def codeDecidesSpec : ChangeSpec := { name := "codeDecides", fn := fun _ => fun
  | [d1, d2, d3, d4] => { results := [.lit (.bool true)], args := [d1, d2, d3, d4] }
  | _ => none }
def codeDecidesRow : OpenClaim := { program := "ytjdcjcanmeangaagreat", sum := "3dc990f2d4fb9c3bb291ee5c0696abbe920c88f9086668dca7c95aee4fc6a09e", func := "ganglion/ganglionlaw10.CodeDecides", spec := "codeDecides", unfollowed := true, recurses := true, apart := false }
def CodeDecidesSaid : Prop := codeDecidesRow.holds Tryz.pinned (OpenSpec.ofChange codeDecidesSpec)

/-- ITS FALSE NEIGHBOUR: 'it returns false'. Refute it at one input. -/
def codeDecidesWrong : ChangeSpec := { name := "codeDecides", fn := fun _ => fun
  | [d1, d2, d3, d4] => { results := [.lit (.bool false)], args := [d1, d2, d3, d4] }
  | _ => none }
def CodeDecidesWrongFalsely : Prop := codeDecidesRow.holds Tryz.pinned (OpenSpec.ofChange codeDecidesWrong)

/-- 'ganglionlaw10.CodeLevels': WHATEVER THE INPUT: true; the input reads as it did. -/
def codeLevelsSpec : ChangeSpec := { name := "codeLevels", fn := fun _ => fun
  | [d1, d2, d3, d4, d5] => { results := [.lit (.bool true)], args := [d1, d2, d3, d4, d5] }
  | _ => none }
def codeLevelsRow : OpenClaim := { program := "ytjdcjcanmeangaagreat", sum := "3dc990f2d4fb9c3bb291ee5c0696abbe920c88f9086668dca7c95aee4fc6a09e", func := "ganglion/ganglionlaw10.CodeLevels", spec := "codeLevels", unfollowed := true, recurses := true, apart := false }
def CodeLevelsSaid : Prop := codeLevelsRow.holds Tryz.pinned (OpenSpec.ofChange codeLevelsSpec)

/-- ITS FALSE NEIGHBOUR: 'it returns false'. Refute it at one input. -/
def codeLevelsWrong : ChangeSpec := { name := "codeLevels", fn := fun _ => fun
  | [d1, d2, d3, d4, d5] => { results := [.lit (.bool false)], args := [d1, d2, d3, d4, d5] }
  | _ => none }
def CodeLevelsWrongFalsely : Prop := codeLevelsRow.holds Tryz.pinned (OpenSpec.ofChange codeLevelsWrong)

/-- 'ganglionlaw10.CodeTrains': WHATEVER THE INPUT: true; the input reads as it did. -/
def codeTrainsSpec : ChangeSpec := { name := "codeTrains", fn := fun _ => fun
  | [d1, d2, d3] => { results := [.lit (.bool true)], args := [d1, d2, d3] }
  | _ => none }
def codeTrainsRow : OpenClaim := { program := "ytjdcjcanmeangaagreat", sum := "3dc990f2d4fb9c3bb291ee5c0696abbe920c88f9086668dca7c95aee4fc6a09e", func := "ganglion/ganglionlaw10.CodeTrains", spec := "codeTrains", unfollowed := true, recurses := true, apart := false }
def CodeTrainsSaid : Prop := codeTrainsRow.holds Tryz.pinned (OpenSpec.ofChange codeTrainsSpec)

/-- ITS FALSE NEIGHBOUR: 'it returns false'. Refute it at one input. -/
def codeTrainsWrong : ChangeSpec := { name := "codeTrains", fn := fun _ => fun
  | [d1, d2, d3] => { results := [.lit (.bool false)], args := [d1, d2, d3] }
  | _ => none }
def CodeTrainsWrongFalsely : Prop := codeTrainsRow.holds Tryz.pinned (OpenSpec.ofChange codeTrainsWrong)

/-- 'ganglionlaw10.CodeRound': WHATEVER THE INPUT: true; the input reads as it did. -/
def codeRoundSpec : ChangeSpec := { name := "codeRound", fn := fun _ => fun
  | [d1, d2, d3, d4, d5, d6] => { results := [.lit (.bool true)], args := [d1, d2, d3, d4, d5, d6] }
  | _ => none }
def codeRoundRow : OpenClaim := { program := "ytjdcjcanmeangaagreat", sum := "3dc990f2d4fb9c3bb291ee5c0696abbe920c88f9086668dca7c95aee4fc6a09e", func := "ganglion/ganglionlaw10.CodeRound", spec := "codeRound", unfollowed := true, recurses := true, apart := false }
def CodeRoundSaid : Prop := codeRoundRow.holds Tryz.pinned (OpenSpec.ofChange codeRoundSpec)

/-- ITS FALSE NEIGHBOUR: 'it returns false'. Refute it at one input. -/
def codeRoundWrong : ChangeSpec := { name := "codeRound", fn := fun _ => fun
  | [d1, d2, d3, d4, d5, d6] => { results := [.lit (.bool false)], args := [d1, d2, d3, d4, d5, d6] }
  | _ => none }
def CodeRoundWrongFalsely : Prop := codeRoundRow.holds Tryz.pinned (OpenSpec.ofChange codeRoundWrong)

/-- 'ganglionlaw10.CodeShaken': WHATEVER THE INPUT: true; the input reads as it did. -/
def codeShakenSpec : ChangeSpec := { name := "codeShaken", fn := fun _ => fun
  | [d1, d2, d3] => { results := [.lit (.bool true)], args := [d1, d2, d3] }
  | _ => none }
def codeShakenRow : OpenClaim := { program := "ytjdcjcanmeangaagreat", sum := "3dc990f2d4fb9c3bb291ee5c0696abbe920c88f9086668dca7c95aee4fc6a09e", func := "ganglion/ganglionlaw10.CodeShaken", spec := "codeShaken", unfollowed := true, recurses := true, apart := false }
def CodeShakenSaid : Prop := codeShakenRow.holds Tryz.pinned (OpenSpec.ofChange codeShakenSpec)

/-- ITS FALSE NEIGHBOUR: 'it returns false'. Refute it at one input. -/
def codeShakenWrong : ChangeSpec := { name := "codeShaken", fn := fun _ => fun
  | [d1, d2, d3] => { results := [.lit (.bool false)], args := [d1, d2, d3] }
  | _ => none }
def CodeShakenWrongFalsely : Prop := codeShakenRow.holds Tryz.pinned (OpenSpec.ofChange codeShakenWrong)

/-- 'ganglionlaw10.CodeSame': WHATEVER THE INPUT: true; the input reads as it did. -/
def codeSameSpec : ChangeSpec := { name := "codeSame", fn := fun _ => fun
  | [d1, d2] => { results := [.lit (.bool true)], args := [d1, d2] }
  | _ => none }
def codeSameRow : OpenClaim := { program := "ytjdcjcanmeangaagreat", sum := "3dc990f2d4fb9c3bb291ee5c0696abbe920c88f9086668dca7c95aee4fc6a09e", func := "ganglion/ganglionlaw10.CodeSame", spec := "codeSame", unfollowed := true, recurses := true, apart := false }
def CodeSameSaid : Prop := codeSameRow.holds Tryz.pinned (OpenSpec.ofChange codeSameSpec)

/-- ITS FALSE NEIGHBOUR: 'it returns false'. Refute it at one input. -/
def codeSameWrong : ChangeSpec := { name := "codeSame", fn := fun _ => fun
  | [d1, d2] => { results := [.lit (.bool false)], args := [d1, d2] }
  | _ => none }
def CodeSameWrongFalsely : Prop := codeSameRow.holds Tryz.pinned (OpenSpec.ofChange codeSameWrong)

/-- 'ganglionlaw10.CodeCounts': WHATEVER THE INPUT: true; the input reads as it did. -/
def codeCountsSpec : ChangeSpec := { name := "codeCounts", fn := fun _ => fun
  | [d1, d2, d3, d4, d5] => { results := [.lit (.bool true)], args := [d1, d2, d3, d4, d5] }
  | _ => none }
def codeCountsRow : OpenClaim := { program := "ytjdcjcanmeangaagreat", sum := "3dc990f2d4fb9c3bb291ee5c0696abbe920c88f9086668dca7c95aee4fc6a09e", func := "ganglion/ganglionlaw10.CodeCounts", spec := "codeCounts", unfollowed := true, recurses := true, apart := false }
def CodeCountsSaid : Prop := codeCountsRow.holds Tryz.pinned (OpenSpec.ofChange codeCountsSpec)

/-- ITS FALSE NEIGHBOUR: 'it returns false'. Refute it at one input. -/
def codeCountsWrong : ChangeSpec := { name := "codeCounts", fn := fun _ => fun
  | [d1, d2, d3, d4, d5] => { results := [.lit (.bool false)], args := [d1, d2, d3, d4, d5] }
  | _ => none }
def CodeCountsWrongFalsely : Prop := codeCountsRow.holds Tryz.pinned (OpenSpec.ofChange codeCountsWrong)

/-- 'ganglionlaw10.CodeLearns': WHATEVER THE INPUT: true; the input reads as it did. -/
def codeLearnsSpec : ChangeSpec := { name := "codeLearns", fn := fun _ => fun
  | [d1, d2, d3, d4, d5, d6] => { results := [.lit (.bool true)], args := [d1, d2, d3, d4, d5, d6] }
  | _ => none }
def codeLearnsRow : OpenClaim := { program := "ytjdcjcanmeangaagreat", sum := "3dc990f2d4fb9c3bb291ee5c0696abbe920c88f9086668dca7c95aee4fc6a09e", func := "ganglion/ganglionlaw10.CodeLearns", spec := "codeLearns", unfollowed := true, recurses := true, apart := false }
def CodeLearnsSaid : Prop := codeLearnsRow.holds Tryz.pinned (OpenSpec.ofChange codeLearnsSpec)

/-- ITS FALSE NEIGHBOUR: 'it returns false'. Refute it at one input. -/
def codeLearnsWrong : ChangeSpec := { name := "codeLearns", fn := fun _ => fun
  | [d1, d2, d3, d4, d5, d6] => { results := [.lit (.bool false)], args := [d1, d2, d3, d4, d5, d6] }
  | _ => none }
def CodeLearnsWrongFalsely : Prop := codeLearnsRow.holds Tryz.pinned (OpenSpec.ofChange codeLearnsWrong)

/- THE SECOND FORM. 'bulk': how many values and letters a reading holds, each counted each time it is reached (what is shared counts as often as it is met; a slice's spare places count too). A statement '..UptoSaid' is the law's where the arguments, and the package variables that the reading takes, are together of bulk at most 1048576: NARROWER than '..Said'. Prove '..Said' where nothing that the law and all that it calls make is longer than what came in: it says more and counts as full. Else prove '..UptoSaid'. A law counts once. -/
mutual
def uptoBulk {H : Type} : DataW H → Nat
  | .lit (.string bytes) => bytes.length + 1
  | .lit _ => 1
  | .nil => 1
  | .ptr d => uptoBulk d + 1
  | .slice elems spare => uptoBulkAll elems + uptoBulkAll spare + 1
  | .agg parts => uptoBulkAll parts + 1
  | .iface _ d => uptoBulk d + 1
  | .map entries => uptoBulkEntries entries + 1
  | .held _ => 1
def uptoBulkAll {H : Type} : List (DataW H) → Nat
  | [] => 0
  | d :: r => uptoBulk d + uptoBulkAll r
def uptoBulkEntries {H : Type} : List (Lit × DataW H) → Nat
  | [] => 0
  | x :: r => uptoBulkEntry x + uptoBulkEntries r
def uptoBulkEntry {H : Type} : Lit × DataW H → Nat
  | (.string bytes, d) => bytes.length + uptoBulk d + 1
  | (_, d) => uptoBulk d + 1
 end
def uptoSmall : (H : Type) → List (DataW H) → Bool := fun _ ds => decide (uptoBulkAll ds ≤ 1048576)
def OpenSpec.upto (s : _root_.Go.ChangeSpec) : _root_.Go.OpenSpec := { _root_.Go.OpenSpec.ofChange s with cond := some uptoSmall }

/-- 'ganglionlaw10.CodeRates', WHERE WHAT IT READS IS OF BULK AT MOST 1048576: true; the input reads as it did. -/
def codeRatesUptoRow : OpenClaim := { program := "ytjdcjcanmeangaagreat", sum := "3dc990f2d4fb9c3bb291ee5c0696abbe920c88f9086668dca7c95aee4fc6a09e", func := "ganglion/ganglionlaw10.CodeRates", spec := "codeRates", unfollowed := true, recurses := true, apart := false, narrowed := true }
def CodeRatesUptoSaid : Prop := codeRatesUptoRow.holds Tryz.pinned (OpenSpec.upto codeRatesSpec)

/-- 'ganglionlaw10.CodeOrders', WHERE WHAT IT READS IS OF BULK AT MOST 1048576: true; the input reads as it did. -/
def codeOrdersUptoRow : OpenClaim := { program := "ytjdcjcanmeangaagreat", sum := "3dc990f2d4fb9c3bb291ee5c0696abbe920c88f9086668dca7c95aee4fc6a09e", func := "ganglion/ganglionlaw10.CodeOrders", spec := "codeOrders", unfollowed := true, recurses := true, apart := false, narrowed := true }
def CodeOrdersUptoSaid : Prop := codeOrdersUptoRow.holds Tryz.pinned (OpenSpec.upto codeOrdersSpec)

/-- 'ganglionlaw10.CodeDecides', WHERE WHAT IT READS IS OF BULK AT MOST 1048576: true; the input reads as it did. -/
def codeDecidesUptoRow : OpenClaim := { program := "ytjdcjcanmeangaagreat", sum := "3dc990f2d4fb9c3bb291ee5c0696abbe920c88f9086668dca7c95aee4fc6a09e", func := "ganglion/ganglionlaw10.CodeDecides", spec := "codeDecides", unfollowed := true, recurses := true, apart := false, narrowed := true }
def CodeDecidesUptoSaid : Prop := codeDecidesUptoRow.holds Tryz.pinned (OpenSpec.upto codeDecidesSpec)

/-- 'ganglionlaw10.CodeLevels', WHERE WHAT IT READS IS OF BULK AT MOST 1048576: true; the input reads as it did. -/
def codeLevelsUptoRow : OpenClaim := { program := "ytjdcjcanmeangaagreat", sum := "3dc990f2d4fb9c3bb291ee5c0696abbe920c88f9086668dca7c95aee4fc6a09e", func := "ganglion/ganglionlaw10.CodeLevels", spec := "codeLevels", unfollowed := true, recurses := true, apart := false, narrowed := true }
def CodeLevelsUptoSaid : Prop := codeLevelsUptoRow.holds Tryz.pinned (OpenSpec.upto codeLevelsSpec)

/-- 'ganglionlaw10.CodeTrains', WHERE WHAT IT READS IS OF BULK AT MOST 1048576: true; the input reads as it did. -/
def codeTrainsUptoRow : OpenClaim := { program := "ytjdcjcanmeangaagreat", sum := "3dc990f2d4fb9c3bb291ee5c0696abbe920c88f9086668dca7c95aee4fc6a09e", func := "ganglion/ganglionlaw10.CodeTrains", spec := "codeTrains", unfollowed := true, recurses := true, apart := false, narrowed := true }
def CodeTrainsUptoSaid : Prop := codeTrainsUptoRow.holds Tryz.pinned (OpenSpec.upto codeTrainsSpec)

/-- 'ganglionlaw10.CodeRound', WHERE WHAT IT READS IS OF BULK AT MOST 1048576: true; the input reads as it did. -/
def codeRoundUptoRow : OpenClaim := { program := "ytjdcjcanmeangaagreat", sum := "3dc990f2d4fb9c3bb291ee5c0696abbe920c88f9086668dca7c95aee4fc6a09e", func := "ganglion/ganglionlaw10.CodeRound", spec := "codeRound", unfollowed := true, recurses := true, apart := false, narrowed := true }
def CodeRoundUptoSaid : Prop := codeRoundUptoRow.holds Tryz.pinned (OpenSpec.upto codeRoundSpec)

/-- 'ganglionlaw10.CodeShaken', WHERE WHAT IT READS IS OF BULK AT MOST 1048576: true; the input reads as it did. -/
def codeShakenUptoRow : OpenClaim := { program := "ytjdcjcanmeangaagreat", sum := "3dc990f2d4fb9c3bb291ee5c0696abbe920c88f9086668dca7c95aee4fc6a09e", func := "ganglion/ganglionlaw10.CodeShaken", spec := "codeShaken", unfollowed := true, recurses := true, apart := false, narrowed := true }
def CodeShakenUptoSaid : Prop := codeShakenUptoRow.holds Tryz.pinned (OpenSpec.upto codeShakenSpec)

/-- 'ganglionlaw10.CodeSame', WHERE WHAT IT READS IS OF BULK AT MOST 1048576: true; the input reads as it did. -/
def codeSameUptoRow : OpenClaim := { program := "ytjdcjcanmeangaagreat", sum := "3dc990f2d4fb9c3bb291ee5c0696abbe920c88f9086668dca7c95aee4fc6a09e", func := "ganglion/ganglionlaw10.CodeSame", spec := "codeSame", unfollowed := true, recurses := true, apart := false, narrowed := true }
def CodeSameUptoSaid : Prop := codeSameUptoRow.holds Tryz.pinned (OpenSpec.upto codeSameSpec)

/-- 'ganglionlaw10.CodeCounts', WHERE WHAT IT READS IS OF BULK AT MOST 1048576: true; the input reads as it did. -/
def codeCountsUptoRow : OpenClaim := { program := "ytjdcjcanmeangaagreat", sum := "3dc990f2d4fb9c3bb291ee5c0696abbe920c88f9086668dca7c95aee4fc6a09e", func := "ganglion/ganglionlaw10.CodeCounts", spec := "codeCounts", unfollowed := true, recurses := true, apart := false, narrowed := true }
def CodeCountsUptoSaid : Prop := codeCountsUptoRow.holds Tryz.pinned (OpenSpec.upto codeCountsSpec)

/-- 'ganglionlaw10.CodeLearns', WHERE WHAT IT READS IS OF BULK AT MOST 1048576: true; the input reads as it did. -/
def codeLearnsUptoRow : OpenClaim := { program := "ytjdcjcanmeangaagreat", sum := "3dc990f2d4fb9c3bb291ee5c0696abbe920c88f9086668dca7c95aee4fc6a09e", func := "ganglion/ganglionlaw10.CodeLearns", spec := "codeLearns", unfollowed := true, recurses := true, apart := false, narrowed := true }
def CodeLearnsUptoSaid : Prop := codeLearnsUptoRow.holds Tryz.pinned (OpenSpec.upto codeLearnsSpec)

end Rows
end Go.Proofs.YtjdcjcanmeangaaGreat
