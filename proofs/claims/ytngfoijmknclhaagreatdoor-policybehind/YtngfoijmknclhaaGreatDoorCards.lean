/-
  DERIVED. GIVEN WITH THE SEED: THE CARDS: each row of YtngfoijmknclhaaGreatDoorRows.lean that lists a variable, with what it lists TIED to the program's text (the seventh form; the later family's looks); each row that meets fmt, with fmt's text TOLD by the authors' own Lean function (tested against real Go, not proved from fmt's source: count such statements apart). THE CARD IS WHAT COUNTS. Prove the row's statement (the work); the ties are given (YtngfoijmknclhaaGreatDoorTie.lean); close each card by the builder's one call (the guide's Derived/Test/ToyasCard.lean, 'card_holds'). Laid BY PROGRAM, IN A SANDBOX (cutbox-door.mjs). By AI agents, Wed Nov 11 2026. No macro, syntax, notation, axiom, sorry.
-/
import Derived.Test.YtngfoijmknclhaaGreatDoorRows
import GoSem.ClaimSeven
namespace Go.Proofs.YtngfoijmknclhaaGreatDoor
namespace Rows

/-- THE TIED CARD OF 'whirligiglaw16.PolicyRuns'. -/
def policyRunsCard : Claim7 := { stood := { row := policyRunsRow, standIns := [], harness := (true, "f66b6a28649fa3d8f634cd5f8d7398528d0df708e6032e2ce6db50ee41419504"), looks := true }, kinds := [], alts := [], laidByText := true, laidKinds := [.data, .data, .data, .data, .sentinel, .sentinel, .pinned], laidTests := true, laidLooks := .later }
def PolicyRunsCardSaid : Prop := Claim7.holds Tryz.pinned (.plain (OpenSpec.ofChange policyRunsSpec)) policyRunsCard

/-- THE TIED CARD OF 'whirligiglaw16.PolicyChains'. -/
def policyChainsCard : Claim7 := { stood := { row := policyChainsRow, standIns := [], harness := (true, "f66b6a28649fa3d8f634cd5f8d7398528d0df708e6032e2ce6db50ee41419504"), looks := true }, kinds := [], alts := [], laidByText := true, laidKinds := [.data, .data, .data, .data, .sentinel, .sentinel, .pinned], laidTests := true, laidLooks := .later }
def PolicyChainsCardSaid : Prop := Claim7.holds Tryz.pinned (.plain (OpenSpec.ofChange policyChainsSpec)) policyChainsCard

/-- THE TIED CARD OF 'whirligiglaw16.PolicyBehind'. -/
def policyBehindCard : Claim7 := { stood := { row := policyBehindRow, standIns := [], harness := (true, "f66b6a28649fa3d8f634cd5f8d7398528d0df708e6032e2ce6db50ee41419504"), looks := true }, kinds := [], alts := [], laidByText := true, laidKinds := [.data, .data, .data, .data, .sentinel, .sentinel, .pinned], laidTests := true, laidLooks := .later }
def PolicyBehindCardSaid : Prop := Claim7.holds Tryz.pinned (.plain (OpenSpec.ofChange policyBehindSpec)) policyBehindCard

/-- THE TIED CARD OF 'whirligiglaw16.PolicyOpen'. -/
def policyOpenCard : Claim7 := { stood := { row := policyOpenRow, standIns := [], harness := (true, "f66b6a28649fa3d8f634cd5f8d7398528d0df708e6032e2ce6db50ee41419504"), looks := true }, kinds := [], alts := [], laidByText := true, laidKinds := [.data, .data, .data, .data, .sentinel, .sentinel, .pinned], laidTests := true, laidLooks := .later }
def PolicyOpenCardSaid : Prop := Claim7.holds Tryz.pinned (.plain (OpenSpec.ofChange policyOpenSpec)) policyOpenCard

/-- THE TIED CARD OF 'whirligiglaw16.PolicyOwn'. -/
def policyOwnCard : Claim7 := { stood := { row := policyOwnRow, standIns := [], harness := (true, "f66b6a28649fa3d8f634cd5f8d7398528d0df708e6032e2ce6db50ee41419504"), looks := true }, kinds := [], alts := [], laidByText := true, laidKinds := [.data, .data, .data, .data, .sentinel, .sentinel, .pinned], laidTests := true, laidLooks := .later }
def PolicyOwnCardSaid : Prop := Claim7.holds Tryz.pinned (.plain (OpenSpec.ofChange policyOwnSpec)) policyOwnCard

/-- THE SECOND FORM's CARD OF 'whirligiglaw16.PolicyRuns'. -/
def policyRunsUptoCard : Claim7 := { stood := { row := policyRunsUptoRow, standIns := [], harness := (true, "f66b6a28649fa3d8f634cd5f8d7398528d0df708e6032e2ce6db50ee41419504"), looks := true }, kinds := [], alts := [], laidByText := true, laidKinds := [.data, .data, .data, .data, .sentinel, .sentinel, .pinned], laidTests := true, laidLooks := .later }
def PolicyRunsUptoCardSaid : Prop := Claim7.holds Tryz.pinned (.plain (OpenSpec.upto policyRunsSpec)) policyRunsUptoCard

/-- THE SECOND FORM's CARD OF 'whirligiglaw16.PolicyChains'. -/
def policyChainsUptoCard : Claim7 := { stood := { row := policyChainsUptoRow, standIns := [], harness := (true, "f66b6a28649fa3d8f634cd5f8d7398528d0df708e6032e2ce6db50ee41419504"), looks := true }, kinds := [], alts := [], laidByText := true, laidKinds := [.data, .data, .data, .data, .sentinel, .sentinel, .pinned], laidTests := true, laidLooks := .later }
def PolicyChainsUptoCardSaid : Prop := Claim7.holds Tryz.pinned (.plain (OpenSpec.upto policyChainsSpec)) policyChainsUptoCard

/-- THE SECOND FORM's CARD OF 'whirligiglaw16.PolicyBehind'. -/
def policyBehindUptoCard : Claim7 := { stood := { row := policyBehindUptoRow, standIns := [], harness := (true, "f66b6a28649fa3d8f634cd5f8d7398528d0df708e6032e2ce6db50ee41419504"), looks := true }, kinds := [], alts := [], laidByText := true, laidKinds := [.data, .data, .data, .data, .sentinel, .sentinel, .pinned], laidTests := true, laidLooks := .later }
def PolicyBehindUptoCardSaid : Prop := Claim7.holds Tryz.pinned (.plain (OpenSpec.upto policyBehindSpec)) policyBehindUptoCard

/-- THE SECOND FORM's CARD OF 'whirligiglaw16.PolicyOpen'. -/
def policyOpenUptoCard : Claim7 := { stood := { row := policyOpenUptoRow, standIns := [], harness := (true, "f66b6a28649fa3d8f634cd5f8d7398528d0df708e6032e2ce6db50ee41419504"), looks := true }, kinds := [], alts := [], laidByText := true, laidKinds := [.data, .data, .data, .data, .sentinel, .sentinel, .pinned], laidTests := true, laidLooks := .later }
def PolicyOpenUptoCardSaid : Prop := Claim7.holds Tryz.pinned (.plain (OpenSpec.upto policyOpenSpec)) policyOpenUptoCard

/-- THE SECOND FORM's CARD OF 'whirligiglaw16.PolicyOwn'. -/
def policyOwnUptoCard : Claim7 := { stood := { row := policyOwnUptoRow, standIns := [], harness := (true, "f66b6a28649fa3d8f634cd5f8d7398528d0df708e6032e2ce6db50ee41419504"), looks := true }, kinds := [], alts := [], laidByText := true, laidKinds := [.data, .data, .data, .data, .sentinel, .sentinel, .pinned], laidTests := true, laidLooks := .later }
def PolicyOwnUptoCardSaid : Prop := Claim7.holds Tryz.pinned (.plain (OpenSpec.upto policyOwnSpec)) policyOwnUptoCard
end Rows
end Go.Proofs.YtngfoijmknclhaaGreatDoor
