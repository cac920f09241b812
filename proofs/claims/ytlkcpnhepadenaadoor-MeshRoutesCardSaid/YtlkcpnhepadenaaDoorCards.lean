/-
  DERIVED. GIVEN WITH THE SEED: THE CARDS: each row of YtlkcpnhepadenaaDoorRows.lean that lists a variable, with what it lists TIED to the program's text (the seventh form; the later family's looks); each row that meets fmt, with fmt's text TOLD by the authors' own Lean function (tested against real Go, not proved from fmt's source: count such statements apart). THE CARD IS WHAT COUNTS. Prove the row's statement (the work); the ties are given (YtlkcpnhepadenaaDoorTie.lean); close each card by the builder's one call (the guide's Derived/Test/ToyasCard.lean, 'card_holds'). Laid BY PROGRAM, IN A SANDBOX (cutbox-door.mjs). By AI agents, Wed Nov 11 2026. No macro, syntax, notation, axiom, sorry.
-/
import Derived.Test.YtlkcpnhepadenaaDoorRows
import GoSem.ClaimSeven
namespace Go.Proofs.YtlkcpnhepadenaaDoor
namespace Rows

/-- THE TIED CARD OF 'ganglionlaw04.MeshRoutes'. -/
def meshRoutesCard : Claim7 := { stood := { row := meshRoutesRow, standIns := [], harness := (true, "b59ee36b3a81e410288fb087d07f6e24e760e63666c234228ef18b30e2139d21"), looks := false }, kinds := [], alts := [], laidByText := true, laidKinds := [.data, .data], laidTests := true, laidLooks := .later }
def MeshRoutesCardSaid : Prop := Claim7.holds Tryd.pinned (.plain (OpenSpec.ofChange meshRoutesSpec)) meshRoutesCard

/-- THE TIED CARD OF 'ganglionlaw04.MeshTables'. -/
def meshTablesCard : Claim7 := { stood := { row := meshTablesRow, standIns := [], harness := (true, "b59ee36b3a81e410288fb087d07f6e24e760e63666c234228ef18b30e2139d21"), looks := false }, kinds := [], alts := [], laidByText := true, laidKinds := [.data, .data], laidTests := true, laidLooks := .later }
def MeshTablesCardSaid : Prop := Claim7.holds Tryd.pinned (.plain (OpenSpec.ofChange meshTablesSpec)) meshTablesCard

/-- THE TIED CARD OF 'ganglionlaw04.MeshMerges'. -/
def meshMergesCard : Claim7 := { stood := { row := meshMergesRow, standIns := [], harness := (true, "b59ee36b3a81e410288fb087d07f6e24e760e63666c234228ef18b30e2139d21"), looks := false }, kinds := [], alts := [], laidByText := true, laidKinds := [.data, .data], laidTests := true, laidLooks := .later }
def MeshMergesCardSaid : Prop := Claim7.holds Tryd.pinned (.plain (OpenSpec.ofChange meshMergesSpec)) meshMergesCard

/-- THE TIED CARD OF 'ganglionlaw04.MeshRuns'. -/
def meshRunsCard : Claim7 := { stood := { row := meshRunsRow, standIns := [], harness := (true, "b59ee36b3a81e410288fb087d07f6e24e760e63666c234228ef18b30e2139d21"), looks := false }, kinds := [], alts := [], laidByText := true, laidKinds := [.data, .data], laidTests := true, laidLooks := .later }
def MeshRunsCardSaid : Prop := Claim7.holds Tryd.pinned (.plain (OpenSpec.ofChange meshRunsSpec)) meshRunsCard

/-- THE TIED CARD OF 'ganglionlaw04.MeshBarriers'. -/
def meshBarriersCard : Claim7 := { stood := { row := meshBarriersRow, standIns := [], harness := (true, "b59ee36b3a81e410288fb087d07f6e24e760e63666c234228ef18b30e2139d21"), looks := false }, kinds := [], alts := [], laidByText := true, laidKinds := [.data, .data], laidTests := true, laidLooks := .later }
def MeshBarriersCardSaid : Prop := Claim7.holds Tryd.pinned (.plain (OpenSpec.ofChange meshBarriersSpec)) meshBarriersCard

/-- THE TIED CARD OF 'ganglionlaw04.MeshTrees'. -/
def meshTreesCard : Claim7 := { stood := { row := meshTreesRow, standIns := [], harness := (true, "b59ee36b3a81e410288fb087d07f6e24e760e63666c234228ef18b30e2139d21"), looks := false }, kinds := [], alts := [], laidByText := true, laidKinds := [.data, .data], laidTests := true, laidLooks := .later }
def MeshTreesCardSaid : Prop := Claim7.holds Tryd.pinned (.plain (OpenSpec.ofChange meshTreesSpec)) meshTreesCard

/-- THE TIED CARD OF 'ganglionlaw04.MeshPackets'. -/
def meshPacketsCard : Claim7 := { stood := { row := meshPacketsRow, standIns := [], harness := (true, "b59ee36b3a81e410288fb087d07f6e24e760e63666c234228ef18b30e2139d21"), looks := false }, kinds := [], alts := [], laidByText := true, laidKinds := [.data, .data], laidTests := true, laidLooks := .later }
def MeshPacketsCardSaid : Prop := Claim7.holds Tryd.pinned (.plain (OpenSpec.ofChange meshPacketsSpec)) meshPacketsCard

/-- THE TIED CARD OF 'ganglionlaw04.MeshClasses'. -/
def meshClassesCard : Claim7 := { stood := { row := meshClassesRow, standIns := [], harness := (true, "b59ee36b3a81e410288fb087d07f6e24e760e63666c234228ef18b30e2139d21"), looks := false }, kinds := [], alts := [], laidByText := true, laidKinds := [.data, .data], laidTests := true, laidLooks := .later }
def MeshClassesCardSaid : Prop := Claim7.holds Tryd.pinned (.plain (OpenSpec.ofChange meshClassesSpec)) meshClassesCard

/-- THE TIED CARD OF 'ganglionlaw04.MeshSame'. -/
def meshSameCard : Claim7 := { stood := { row := meshSameRow, standIns := [], harness := (true, "b59ee36b3a81e410288fb087d07f6e24e760e63666c234228ef18b30e2139d21"), looks := false }, kinds := [], alts := [], laidByText := true, laidKinds := [.data, .data], laidTests := true, laidLooks := .later }
def MeshSameCardSaid : Prop := Claim7.holds Tryd.pinned (.plain (OpenSpec.ofChange meshSameSpec)) meshSameCard

/-- THE TIED CARD OF 'ganglionlaw04.MeshTogether'. -/
def meshTogetherCard : Claim7 := { stood := { row := meshTogetherRow, standIns := [], harness := (true, "b59ee36b3a81e410288fb087d07f6e24e760e63666c234228ef18b30e2139d21"), looks := false }, kinds := [], alts := [], laidByText := true, laidKinds := [.data, .data], laidTests := true, laidLooks := .later }
def MeshTogetherCardSaid : Prop := Claim7.holds Tryd.pinned (.plain (OpenSpec.ofChange meshTogetherSpec)) meshTogetherCard

/-- THE SECOND FORM's CARD OF 'ganglionlaw04.MeshRoutes'. -/
def meshRoutesUptoCard : Claim7 := { stood := { row := meshRoutesUptoRow, standIns := [], harness := (true, "b59ee36b3a81e410288fb087d07f6e24e760e63666c234228ef18b30e2139d21"), looks := false }, kinds := [], alts := [], laidByText := true, laidKinds := [.data, .data], laidTests := true, laidLooks := .later }
def MeshRoutesUptoCardSaid : Prop := Claim7.holds Tryd.pinned (.plain (OpenSpec.upto meshRoutesSpec)) meshRoutesUptoCard

/-- THE SECOND FORM's CARD OF 'ganglionlaw04.MeshTables'. -/
def meshTablesUptoCard : Claim7 := { stood := { row := meshTablesUptoRow, standIns := [], harness := (true, "b59ee36b3a81e410288fb087d07f6e24e760e63666c234228ef18b30e2139d21"), looks := false }, kinds := [], alts := [], laidByText := true, laidKinds := [.data, .data], laidTests := true, laidLooks := .later }
def MeshTablesUptoCardSaid : Prop := Claim7.holds Tryd.pinned (.plain (OpenSpec.upto meshTablesSpec)) meshTablesUptoCard

/-- THE SECOND FORM's CARD OF 'ganglionlaw04.MeshMerges'. -/
def meshMergesUptoCard : Claim7 := { stood := { row := meshMergesUptoRow, standIns := [], harness := (true, "b59ee36b3a81e410288fb087d07f6e24e760e63666c234228ef18b30e2139d21"), looks := false }, kinds := [], alts := [], laidByText := true, laidKinds := [.data, .data], laidTests := true, laidLooks := .later }
def MeshMergesUptoCardSaid : Prop := Claim7.holds Tryd.pinned (.plain (OpenSpec.upto meshMergesSpec)) meshMergesUptoCard

/-- THE SECOND FORM's CARD OF 'ganglionlaw04.MeshRuns'. -/
def meshRunsUptoCard : Claim7 := { stood := { row := meshRunsUptoRow, standIns := [], harness := (true, "b59ee36b3a81e410288fb087d07f6e24e760e63666c234228ef18b30e2139d21"), looks := false }, kinds := [], alts := [], laidByText := true, laidKinds := [.data, .data], laidTests := true, laidLooks := .later }
def MeshRunsUptoCardSaid : Prop := Claim7.holds Tryd.pinned (.plain (OpenSpec.upto meshRunsSpec)) meshRunsUptoCard

/-- THE SECOND FORM's CARD OF 'ganglionlaw04.MeshBarriers'. -/
def meshBarriersUptoCard : Claim7 := { stood := { row := meshBarriersUptoRow, standIns := [], harness := (true, "b59ee36b3a81e410288fb087d07f6e24e760e63666c234228ef18b30e2139d21"), looks := false }, kinds := [], alts := [], laidByText := true, laidKinds := [.data, .data], laidTests := true, laidLooks := .later }
def MeshBarriersUptoCardSaid : Prop := Claim7.holds Tryd.pinned (.plain (OpenSpec.upto meshBarriersSpec)) meshBarriersUptoCard

/-- THE SECOND FORM's CARD OF 'ganglionlaw04.MeshTrees'. -/
def meshTreesUptoCard : Claim7 := { stood := { row := meshTreesUptoRow, standIns := [], harness := (true, "b59ee36b3a81e410288fb087d07f6e24e760e63666c234228ef18b30e2139d21"), looks := false }, kinds := [], alts := [], laidByText := true, laidKinds := [.data, .data], laidTests := true, laidLooks := .later }
def MeshTreesUptoCardSaid : Prop := Claim7.holds Tryd.pinned (.plain (OpenSpec.upto meshTreesSpec)) meshTreesUptoCard

/-- THE SECOND FORM's CARD OF 'ganglionlaw04.MeshPackets'. -/
def meshPacketsUptoCard : Claim7 := { stood := { row := meshPacketsUptoRow, standIns := [], harness := (true, "b59ee36b3a81e410288fb087d07f6e24e760e63666c234228ef18b30e2139d21"), looks := false }, kinds := [], alts := [], laidByText := true, laidKinds := [.data, .data], laidTests := true, laidLooks := .later }
def MeshPacketsUptoCardSaid : Prop := Claim7.holds Tryd.pinned (.plain (OpenSpec.upto meshPacketsSpec)) meshPacketsUptoCard

/-- THE SECOND FORM's CARD OF 'ganglionlaw04.MeshClasses'. -/
def meshClassesUptoCard : Claim7 := { stood := { row := meshClassesUptoRow, standIns := [], harness := (true, "b59ee36b3a81e410288fb087d07f6e24e760e63666c234228ef18b30e2139d21"), looks := false }, kinds := [], alts := [], laidByText := true, laidKinds := [.data, .data], laidTests := true, laidLooks := .later }
def MeshClassesUptoCardSaid : Prop := Claim7.holds Tryd.pinned (.plain (OpenSpec.upto meshClassesSpec)) meshClassesUptoCard

/-- THE SECOND FORM's CARD OF 'ganglionlaw04.MeshSame'. -/
def meshSameUptoCard : Claim7 := { stood := { row := meshSameUptoRow, standIns := [], harness := (true, "b59ee36b3a81e410288fb087d07f6e24e760e63666c234228ef18b30e2139d21"), looks := false }, kinds := [], alts := [], laidByText := true, laidKinds := [.data, .data], laidTests := true, laidLooks := .later }
def MeshSameUptoCardSaid : Prop := Claim7.holds Tryd.pinned (.plain (OpenSpec.upto meshSameSpec)) meshSameUptoCard

/-- THE SECOND FORM's CARD OF 'ganglionlaw04.MeshTogether'. -/
def meshTogetherUptoCard : Claim7 := { stood := { row := meshTogetherUptoRow, standIns := [], harness := (true, "b59ee36b3a81e410288fb087d07f6e24e760e63666c234228ef18b30e2139d21"), looks := false }, kinds := [], alts := [], laidByText := true, laidKinds := [.data, .data], laidTests := true, laidLooks := .later }
def MeshTogetherUptoCardSaid : Prop := Claim7.holds Tryd.pinned (.plain (OpenSpec.upto meshTogetherSpec)) meshTogetherUptoCard
end Rows
end Go.Proofs.YtlkcpnhepadenaaDoor
