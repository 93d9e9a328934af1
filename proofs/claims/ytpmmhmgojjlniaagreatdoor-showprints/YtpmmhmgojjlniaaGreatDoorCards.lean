/-
  DERIVED. GIVEN WITH THE SEED: THE CARDS: each row of YtpmmhmgojjlniaaGreatDoorRows.lean that lists a variable, with what it lists TIED to the program's text (the seventh form; the later family's looks); each row that meets fmt, with fmt's text TOLD by the authors' own Lean function (tested against real Go, not proved from fmt's source: count such statements apart). THE CARD IS WHAT COUNTS. Prove the row's statement (the work); the ties are given (YtpmmhmgojjlniaaGreatDoorTie.lean); close each card by the builder's one call (the guide's Derived/Test/ToyasCard.lean, 'card_holds'). Laid BY PROGRAM, IN A SANDBOX (cutbox-door.mjs). By AI agents, Wed Nov 11 2026. No macro, syntax, notation, axiom, sorry.
-/
import Derived.Test.YtpmmhmgojjlniaaGreatDoorRows
import GoSem.ClaimSeven
namespace Go.Proofs.YtpmmhmgojjlniaaGreatDoor
namespace Rows

/-- THE TIED CARD OF 'whirligiglaw13.ShowPrints'. -/
def showPrintsCard : Claim7 := { stood := { row := showPrintsRow, standIns := [], harness := (true, "14e21df6e931b822374b51130533f7c19b4a74adab52ef8c7370e306f695a332"), looks := true }, kinds := [], alts := [], laidByText := true, laidKinds := [.data, .data, .data, .data, .sentinel, .sentinel, .pinned], laidTests := true, laidLooks := .later }
def ShowPrintsCardSaid : Prop := Claim7.holds Tryz.pinned (.plain (OpenSpec.ofChange showPrintsSpec)) showPrintsCard

/-- THE TIED CARD OF 'whirligiglaw13.ShowBack'. -/
def showBackCard : Claim7 := { stood := { row := showBackRow, standIns := [], harness := (true, "14e21df6e931b822374b51130533f7c19b4a74adab52ef8c7370e306f695a332"), looks := true }, kinds := [], alts := [], laidByText := true, laidKinds := [.data, .data, .data, .data, .sentinel, .sentinel, .pinned], laidTests := true, laidLooks := .later }
def ShowBackCardSaid : Prop := Claim7.holds Tryz.pinned (.plain (OpenSpec.ofChange showBackSpec)) showBackCard

/-- THE TIED CARD OF 'whirligiglaw13.ShowPlain'. -/
def showPlainCard : Claim7 := { stood := { row := showPlainRow, standIns := [], harness := (true, "14e21df6e931b822374b51130533f7c19b4a74adab52ef8c7370e306f695a332"), looks := true }, kinds := [], alts := [], laidByText := true, laidKinds := [.data, .data, .data, .data, .sentinel, .sentinel, .pinned], laidTests := true, laidLooks := .later }
def ShowPlainCardSaid : Prop := Claim7.holds Tryz.pinned (.plain (OpenSpec.ofChange showPlainSpec)) showPlainCard

/-- THE TIED CARD OF 'whirligiglaw13.ShowDiffers'. -/
def showDiffersCard : Claim7 := { stood := { row := showDiffersRow, standIns := [], harness := (true, "14e21df6e931b822374b51130533f7c19b4a74adab52ef8c7370e306f695a332"), looks := true }, kinds := [], alts := [], laidByText := true, laidKinds := [.data, .data, .data, .data, .sentinel, .sentinel, .pinned], laidTests := true, laidLooks := .later }
def ShowDiffersCardSaid : Prop := Claim7.holds Tryz.pinned (.plain (OpenSpec.ofChange showDiffersSpec)) showDiffersCard

/-- THE TIED CARD OF 'whirligiglaw13.ShowOnes'. -/
def showOnesCard : Claim7 := { stood := { row := showOnesRow, standIns := [], harness := (true, "14e21df6e931b822374b51130533f7c19b4a74adab52ef8c7370e306f695a332"), looks := true }, kinds := [], alts := [], laidByText := true, laidKinds := [.data, .data, .data, .data, .sentinel, .sentinel, .pinned], laidTests := true, laidLooks := .later }
def ShowOnesCardSaid : Prop := Claim7.holds Tryz.pinned (.plain (OpenSpec.ofChange showOnesSpec)) showOnesCard

/-- THE SECOND FORM's CARD OF 'whirligiglaw13.ShowPrints'. -/
def showPrintsUptoCard : Claim7 := { stood := { row := showPrintsUptoRow, standIns := [], harness := (true, "14e21df6e931b822374b51130533f7c19b4a74adab52ef8c7370e306f695a332"), looks := true }, kinds := [], alts := [], laidByText := true, laidKinds := [.data, .data, .data, .data, .sentinel, .sentinel, .pinned], laidTests := true, laidLooks := .later }
def ShowPrintsUptoCardSaid : Prop := Claim7.holds Tryz.pinned (.plain (OpenSpec.upto showPrintsSpec)) showPrintsUptoCard

/-- THE SECOND FORM's CARD OF 'whirligiglaw13.ShowBack'. -/
def showBackUptoCard : Claim7 := { stood := { row := showBackUptoRow, standIns := [], harness := (true, "14e21df6e931b822374b51130533f7c19b4a74adab52ef8c7370e306f695a332"), looks := true }, kinds := [], alts := [], laidByText := true, laidKinds := [.data, .data, .data, .data, .sentinel, .sentinel, .pinned], laidTests := true, laidLooks := .later }
def ShowBackUptoCardSaid : Prop := Claim7.holds Tryz.pinned (.plain (OpenSpec.upto showBackSpec)) showBackUptoCard

/-- THE SECOND FORM's CARD OF 'whirligiglaw13.ShowPlain'. -/
def showPlainUptoCard : Claim7 := { stood := { row := showPlainUptoRow, standIns := [], harness := (true, "14e21df6e931b822374b51130533f7c19b4a74adab52ef8c7370e306f695a332"), looks := true }, kinds := [], alts := [], laidByText := true, laidKinds := [.data, .data, .data, .data, .sentinel, .sentinel, .pinned], laidTests := true, laidLooks := .later }
def ShowPlainUptoCardSaid : Prop := Claim7.holds Tryz.pinned (.plain (OpenSpec.upto showPlainSpec)) showPlainUptoCard

/-- THE SECOND FORM's CARD OF 'whirligiglaw13.ShowDiffers'. -/
def showDiffersUptoCard : Claim7 := { stood := { row := showDiffersUptoRow, standIns := [], harness := (true, "14e21df6e931b822374b51130533f7c19b4a74adab52ef8c7370e306f695a332"), looks := true }, kinds := [], alts := [], laidByText := true, laidKinds := [.data, .data, .data, .data, .sentinel, .sentinel, .pinned], laidTests := true, laidLooks := .later }
def ShowDiffersUptoCardSaid : Prop := Claim7.holds Tryz.pinned (.plain (OpenSpec.upto showDiffersSpec)) showDiffersUptoCard

/-- THE SECOND FORM's CARD OF 'whirligiglaw13.ShowOnes'. -/
def showOnesUptoCard : Claim7 := { stood := { row := showOnesUptoRow, standIns := [], harness := (true, "14e21df6e931b822374b51130533f7c19b4a74adab52ef8c7370e306f695a332"), looks := true }, kinds := [], alts := [], laidByText := true, laidKinds := [.data, .data, .data, .data, .sentinel, .sentinel, .pinned], laidTests := true, laidLooks := .later }
def ShowOnesUptoCardSaid : Prop := Claim7.holds Tryz.pinned (.plain (OpenSpec.upto showOnesSpec)) showOnesUptoCard
end Rows
end Go.Proofs.YtpmmhmgojjlniaaGreatDoor
