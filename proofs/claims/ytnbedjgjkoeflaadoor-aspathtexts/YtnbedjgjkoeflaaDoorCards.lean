/-
  DERIVED. GIVEN WITH THE SEED: THE CARDS: each row of YtnbedjgjkoeflaaDoorRows.lean that lists a variable, with what it lists TIED to the program's text (the seventh form; the later family's looks); each row that meets fmt, with fmt's text TOLD by the authors' own Lean function (tested against real Go, not proved from fmt's source: count such statements apart). THE CARD IS WHAT COUNTS. Prove the row's statement (the work); the ties are given (YtnbedjgjkoeflaaDoorTie.lean); close each card by the builder's one call (the guide's Derived/Test/ToyasCard.lean, 'card_holds'). Laid BY PROGRAM, IN A SANDBOX (cutbox-door.mjs). By AI agents, Wed Nov 11 2026. No macro, syntax, notation, axiom, sorry.
-/
import Derived.Test.YtnbedjgjkoeflaaDoorRows
import GoSem.ClaimSeven
namespace Go.Proofs.YtnbedjgjkoeflaaDoor
namespace Rows

/-- THE TIED CARD OF 'whirligiglaw04.AspathTexts'. -/
def aspathTextsCard : Claim7 := { stood := { row := aspathTextsRow, standIns := [], harness := (true, "0d561aa52b2bfa62827363a489e15d418658cce280bd2733242671860bd7391b"), looks := true }, kinds := [], alts := [], laidByText := true, laidKinds := [.data, .data, .data, .data, .sentinel, .sentinel, .pinned], laidTests := true, laidLooks := .later }
def AspathTextsCardSaid : Prop := Claim7.holds Tryd.pinned (.plain (OpenSpec.ofChange aspathTextsSpec)) aspathTextsCard

/-- THE TIED CARD OF 'whirligiglaw04.AspathPrepends'. -/
def aspathPrependsCard : Claim7 := { stood := { row := aspathPrependsRow, standIns := [], harness := (true, "0d561aa52b2bfa62827363a489e15d418658cce280bd2733242671860bd7391b"), looks := true }, kinds := [], alts := [], laidByText := true, laidKinds := [.data, .data, .data], laidTests := true, laidLooks := .later }
def AspathPrependsCardSaid : Prop := Claim7.holds Tryd.pinned (.plain (OpenSpec.ofChange aspathPrependsSpec)) aspathPrependsCard

/-- THE TIED CARD OF 'whirligiglaw04.AspathAsks'. -/
def aspathAsksCard : Claim7 := { stood := { row := aspathAsksRow, standIns := [], harness := (true, "0d561aa52b2bfa62827363a489e15d418658cce280bd2733242671860bd7391b"), looks := true }, kinds := [], alts := [], laidByText := true, laidKinds := [.data, .data, .data], laidTests := true, laidLooks := .later }
def AspathAsksCardSaid : Prop := Claim7.holds Tryd.pinned (.plain (OpenSpec.ofChange aspathAsksSpec)) aspathAsksCard

/-- THE TIED CARD OF 'whirligiglaw04.AspathRuns'. -/
def aspathRunsCard : Claim7 := { stood := { row := aspathRunsRow, standIns := [], harness := (true, "0d561aa52b2bfa62827363a489e15d418658cce280bd2733242671860bd7391b"), looks := true }, kinds := [], alts := [], laidByText := true, laidKinds := [.data, .data, .data], laidTests := true, laidLooks := .later }
def AspathRunsCardSaid : Prop := Claim7.holds Tryd.pinned (.plain (OpenSpec.ofChange aspathRunsSpec)) aspathRunsCard

/-- THE TIED CARD OF 'whirligiglaw04.AspathBack'. -/
def aspathBackCard : Claim7 := { stood := { row := aspathBackRow, standIns := [], harness := (true, "0d561aa52b2bfa62827363a489e15d418658cce280bd2733242671860bd7391b"), looks := true }, kinds := [], alts := [], laidByText := true, laidKinds := [.data, .data, .data], laidTests := true, laidLooks := .later }
def AspathBackCardSaid : Prop := Claim7.holds Tryd.pinned (.plain (OpenSpec.ofChange aspathBackSpec)) aspathBackCard

/-- THE TIED CARD OF 'whirligiglaw04.AspathOrder'. -/
def aspathOrderCard : Claim7 := { stood := { row := aspathOrderRow, standIns := [], harness := (true, "0d561aa52b2bfa62827363a489e15d418658cce280bd2733242671860bd7391b"), looks := true }, kinds := [], alts := [], laidByText := true, laidKinds := [.data, .data, .data], laidTests := true, laidLooks := .later }
def AspathOrderCardSaid : Prop := Claim7.holds Tryd.pinned (.plain (OpenSpec.ofChange aspathOrderSpec)) aspathOrderCard

/-- THE SECOND FORM's CARD OF 'whirligiglaw04.AspathTexts'. -/
def aspathTextsUptoCard : Claim7 := { stood := { row := aspathTextsUptoRow, standIns := [], harness := (true, "0d561aa52b2bfa62827363a489e15d418658cce280bd2733242671860bd7391b"), looks := true }, kinds := [], alts := [], laidByText := true, laidKinds := [.data, .data, .data, .data, .sentinel, .sentinel, .pinned], laidTests := true, laidLooks := .later }
def AspathTextsUptoCardSaid : Prop := Claim7.holds Tryd.pinned (.plain (OpenSpec.upto aspathTextsSpec)) aspathTextsUptoCard

/-- THE SECOND FORM's CARD OF 'whirligiglaw04.AspathPrepends'. -/
def aspathPrependsUptoCard : Claim7 := { stood := { row := aspathPrependsUptoRow, standIns := [], harness := (true, "0d561aa52b2bfa62827363a489e15d418658cce280bd2733242671860bd7391b"), looks := true }, kinds := [], alts := [], laidByText := true, laidKinds := [.data, .data, .data], laidTests := true, laidLooks := .later }
def AspathPrependsUptoCardSaid : Prop := Claim7.holds Tryd.pinned (.plain (OpenSpec.upto aspathPrependsSpec)) aspathPrependsUptoCard

/-- THE SECOND FORM's CARD OF 'whirligiglaw04.AspathAsks'. -/
def aspathAsksUptoCard : Claim7 := { stood := { row := aspathAsksUptoRow, standIns := [], harness := (true, "0d561aa52b2bfa62827363a489e15d418658cce280bd2733242671860bd7391b"), looks := true }, kinds := [], alts := [], laidByText := true, laidKinds := [.data, .data, .data], laidTests := true, laidLooks := .later }
def AspathAsksUptoCardSaid : Prop := Claim7.holds Tryd.pinned (.plain (OpenSpec.upto aspathAsksSpec)) aspathAsksUptoCard

/-- THE SECOND FORM's CARD OF 'whirligiglaw04.AspathRuns'. -/
def aspathRunsUptoCard : Claim7 := { stood := { row := aspathRunsUptoRow, standIns := [], harness := (true, "0d561aa52b2bfa62827363a489e15d418658cce280bd2733242671860bd7391b"), looks := true }, kinds := [], alts := [], laidByText := true, laidKinds := [.data, .data, .data], laidTests := true, laidLooks := .later }
def AspathRunsUptoCardSaid : Prop := Claim7.holds Tryd.pinned (.plain (OpenSpec.upto aspathRunsSpec)) aspathRunsUptoCard

/-- THE SECOND FORM's CARD OF 'whirligiglaw04.AspathBack'. -/
def aspathBackUptoCard : Claim7 := { stood := { row := aspathBackUptoRow, standIns := [], harness := (true, "0d561aa52b2bfa62827363a489e15d418658cce280bd2733242671860bd7391b"), looks := true }, kinds := [], alts := [], laidByText := true, laidKinds := [.data, .data, .data], laidTests := true, laidLooks := .later }
def AspathBackUptoCardSaid : Prop := Claim7.holds Tryd.pinned (.plain (OpenSpec.upto aspathBackSpec)) aspathBackUptoCard

/-- THE SECOND FORM's CARD OF 'whirligiglaw04.AspathOrder'. -/
def aspathOrderUptoCard : Claim7 := { stood := { row := aspathOrderUptoRow, standIns := [], harness := (true, "0d561aa52b2bfa62827363a489e15d418658cce280bd2733242671860bd7391b"), looks := true }, kinds := [], alts := [], laidByText := true, laidKinds := [.data, .data, .data], laidTests := true, laidLooks := .later }
def AspathOrderUptoCardSaid : Prop := Claim7.holds Tryd.pinned (.plain (OpenSpec.upto aspathOrderSpec)) aspathOrderUptoCard
end Rows
end Go.Proofs.YtnbedjgjkoeflaaDoor
