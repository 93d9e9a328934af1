/-
  DERIVED. GIVEN WITH THE SEED: THE CARDS: each row of YtbceoinhmpnjaaaGreatDoorRows.lean that lists a variable, with what it lists TIED to the program's text (the seventh form; the later family's looks); each row that meets fmt, with fmt's text TOLD by the authors' own Lean function (tested against real Go, not proved from fmt's source: count such statements apart). THE CARD IS WHAT COUNTS. Prove the row's statement (the work); the ties are given (YtbceoinhmpnjaaaGreatDoorTie.lean); close each card by the builder's one call (the guide's Derived/Test/ToyasCard.lean, 'card_holds'). Laid BY PROGRAM, IN A SANDBOX (cutbox-door.mjs). By AI agents, Wed Nov 11 2026. No macro, syntax, notation, axiom, sorry.
-/
import Derived.Test.YtbceoinhmpnjaaaGreatDoorRows
import GoSem.ClaimSeven
namespace Go.Proofs.YtbceoinhmpnjaaaGreatDoor
namespace Rows

/-- THE TIED CARD OF 'whirligiglaw05.AsreParses'. -/
def asreParsesCard : Claim7 := { stood := { row := asreParsesRow, standIns := [], harness := (true, "8629cd6d7b464cb574b79517830072962784861e560af889caa2238c0a6e60fa"), looks := true }, kinds := [], alts := [], laidByText := true, laidKinds := [.data, .data, .data, .data, .sentinel, .sentinel, .pinned], laidTests := true, laidLooks := .later }
def AsreParsesCardSaid : Prop := Claim7.holds Tryz.pinned (.plain (OpenSpec.ofChange asreParsesSpec)) asreParsesCard

/-- THE TIED CARD OF 'whirligiglaw05.AsreMeets'. -/
def asreMeetsCard : Claim7 := { stood := { row := asreMeetsRow, standIns := [], harness := (true, "8629cd6d7b464cb574b79517830072962784861e560af889caa2238c0a6e60fa"), looks := true }, kinds := [], alts := [], laidByText := true, laidKinds := [.data, .data, .data, .data, .sentinel, .sentinel, .pinned], laidTests := true, laidLooks := .later }
def AsreMeetsCardSaid : Prop := Claim7.holds Tryz.pinned (.plain (OpenSpec.ofChange asreMeetsSpec)) asreMeetsCard

/-- THE TIED CARD OF 'whirligiglaw05.AsreBack'. -/
def asreBackCard : Claim7 := { stood := { row := asreBackRow, standIns := [], harness := (true, "8629cd6d7b464cb574b79517830072962784861e560af889caa2238c0a6e60fa"), looks := true }, kinds := [], alts := [], laidByText := true, laidKinds := [.data, .data, .data, .data, .sentinel, .sentinel, .pinned], laidTests := true, laidLooks := .later }
def AsreBackCardSaid : Prop := Claim7.holds Tryz.pinned (.plain (OpenSpec.ofChange asreBackSpec)) asreBackCard

/-- THE TIED CARD OF 'whirligiglaw05.AsreParts'. -/
def asrePartsCard : Claim7 := { stood := { row := asrePartsRow, standIns := [], harness := (true, "8629cd6d7b464cb574b79517830072962784861e560af889caa2238c0a6e60fa"), looks := true }, kinds := [], alts := [], laidByText := true, laidKinds := [.data, .data, .data, .data, .sentinel, .sentinel, .pinned], laidTests := true, laidLooks := .later }
def AsrePartsCardSaid : Prop := Claim7.holds Tryz.pinned (.plain (OpenSpec.ofChange asrePartsSpec)) asrePartsCard

/-- THE TIED CARD OF 'whirligiglaw05.AsreEnds'. -/
def asreEndsCard : Claim7 := { stood := { row := asreEndsRow, standIns := [], harness := (true, "8629cd6d7b464cb574b79517830072962784861e560af889caa2238c0a6e60fa"), looks := true }, kinds := [], alts := [], laidByText := true, laidKinds := [.data, .data, .data, .data, .sentinel, .sentinel, .pinned], laidTests := true, laidLooks := .later }
def AsreEndsCardSaid : Prop := Claim7.holds Tryz.pinned (.plain (OpenSpec.ofChange asreEndsSpec)) asreEndsCard

/-- THE TIED CARD OF 'whirligiglaw05.AsreLeast'. -/
def asreLeastCard : Claim7 := { stood := { row := asreLeastRow, standIns := [], harness := (true, "8629cd6d7b464cb574b79517830072962784861e560af889caa2238c0a6e60fa"), looks := true }, kinds := [], alts := [], laidByText := true, laidKinds := [.data, .data, .data, .data, .sentinel, .sentinel, .pinned], laidTests := true, laidLooks := .later }
def AsreLeastCardSaid : Prop := Claim7.holds Tryz.pinned (.plain (OpenSpec.ofChange asreLeastSpec)) asreLeastCard

/-- THE SECOND FORM's CARD OF 'whirligiglaw05.AsreParses'. -/
def asreParsesUptoCard : Claim7 := { stood := { row := asreParsesUptoRow, standIns := [], harness := (true, "8629cd6d7b464cb574b79517830072962784861e560af889caa2238c0a6e60fa"), looks := true }, kinds := [], alts := [], laidByText := true, laidKinds := [.data, .data, .data, .data, .sentinel, .sentinel, .pinned], laidTests := true, laidLooks := .later }
def AsreParsesUptoCardSaid : Prop := Claim7.holds Tryz.pinned (.plain (OpenSpec.upto asreParsesSpec)) asreParsesUptoCard

/-- THE SECOND FORM's CARD OF 'whirligiglaw05.AsreMeets'. -/
def asreMeetsUptoCard : Claim7 := { stood := { row := asreMeetsUptoRow, standIns := [], harness := (true, "8629cd6d7b464cb574b79517830072962784861e560af889caa2238c0a6e60fa"), looks := true }, kinds := [], alts := [], laidByText := true, laidKinds := [.data, .data, .data, .data, .sentinel, .sentinel, .pinned], laidTests := true, laidLooks := .later }
def AsreMeetsUptoCardSaid : Prop := Claim7.holds Tryz.pinned (.plain (OpenSpec.upto asreMeetsSpec)) asreMeetsUptoCard

/-- THE SECOND FORM's CARD OF 'whirligiglaw05.AsreBack'. -/
def asreBackUptoCard : Claim7 := { stood := { row := asreBackUptoRow, standIns := [], harness := (true, "8629cd6d7b464cb574b79517830072962784861e560af889caa2238c0a6e60fa"), looks := true }, kinds := [], alts := [], laidByText := true, laidKinds := [.data, .data, .data, .data, .sentinel, .sentinel, .pinned], laidTests := true, laidLooks := .later }
def AsreBackUptoCardSaid : Prop := Claim7.holds Tryz.pinned (.plain (OpenSpec.upto asreBackSpec)) asreBackUptoCard

/-- THE SECOND FORM's CARD OF 'whirligiglaw05.AsreParts'. -/
def asrePartsUptoCard : Claim7 := { stood := { row := asrePartsUptoRow, standIns := [], harness := (true, "8629cd6d7b464cb574b79517830072962784861e560af889caa2238c0a6e60fa"), looks := true }, kinds := [], alts := [], laidByText := true, laidKinds := [.data, .data, .data, .data, .sentinel, .sentinel, .pinned], laidTests := true, laidLooks := .later }
def AsrePartsUptoCardSaid : Prop := Claim7.holds Tryz.pinned (.plain (OpenSpec.upto asrePartsSpec)) asrePartsUptoCard

/-- THE SECOND FORM's CARD OF 'whirligiglaw05.AsreEnds'. -/
def asreEndsUptoCard : Claim7 := { stood := { row := asreEndsUptoRow, standIns := [], harness := (true, "8629cd6d7b464cb574b79517830072962784861e560af889caa2238c0a6e60fa"), looks := true }, kinds := [], alts := [], laidByText := true, laidKinds := [.data, .data, .data, .data, .sentinel, .sentinel, .pinned], laidTests := true, laidLooks := .later }
def AsreEndsUptoCardSaid : Prop := Claim7.holds Tryz.pinned (.plain (OpenSpec.upto asreEndsSpec)) asreEndsUptoCard

/-- THE SECOND FORM's CARD OF 'whirligiglaw05.AsreLeast'. -/
def asreLeastUptoCard : Claim7 := { stood := { row := asreLeastUptoRow, standIns := [], harness := (true, "8629cd6d7b464cb574b79517830072962784861e560af889caa2238c0a6e60fa"), looks := true }, kinds := [], alts := [], laidByText := true, laidKinds := [.data, .data, .data, .data, .sentinel, .sentinel, .pinned], laidTests := true, laidLooks := .later }
def AsreLeastUptoCardSaid : Prop := Claim7.holds Tryz.pinned (.plain (OpenSpec.upto asreLeastSpec)) asreLeastUptoCard
end Rows
end Go.Proofs.YtbceoinhmpnjaaaGreatDoor
