/-
  DERIVED. GIVEN WITH THE SEED: THE CARDS: each row of YtfkajefminopjaaDoorRows.lean that lists a variable, with what it lists TIED to the program's text (the seventh form; the later family's looks); each row that meets fmt, with fmt's text TOLD by the authors' own Lean function (tested against real Go, not proved from fmt's source: count such statements apart). THE CARD IS WHAT COUNTS. Prove the row's statement (the work); the ties are given (YtfkajefminopjaaDoorTie.lean); close each card by the builder's one call (the guide's Derived/Test/ToyasCard.lean, 'card_holds'). Laid BY PROGRAM, IN A SANDBOX (cutbox-door.mjs). By AI agents, Wed Nov 11 2026. No macro, syntax, notation, axiom, sorry.
-/
import Derived.Test.YtfkajefminopjaaDoorRows
import GoSem.ClaimSeven
namespace Go.Proofs.YtfkajefminopjaaDoor
namespace Rows

/-- THE TIED CARD OF 'whirligiglaw01.AddrTexts'. -/
def addrTextsCard : Claim7 := { stood := { row := addrTextsRow, standIns := [], harness := (true, "1e4bb8b0fc6f9547de3951c11c3fad70fd284363233ab81d399617be54a471cb"), looks := false }, kinds := [], alts := [], laidByText := true, laidKinds := [.data, .data, .data], laidTests := true, laidLooks := .later }
def AddrTextsCardSaid : Prop := Claim7.holds Tryd.pinned (.plain (OpenSpec.ofChange addrTextsSpec)) addrTextsCard

/-- THE TIED CARD OF 'whirligiglaw01.AddrBack'. -/
def addrBackCard : Claim7 := { stood := { row := addrBackRow, standIns := [], harness := (true, "1e4bb8b0fc6f9547de3951c11c3fad70fd284363233ab81d399617be54a471cb"), looks := false }, kinds := [], alts := [], laidByText := true, laidKinds := [.data, .data, .data], laidTests := true, laidLooks := .later }
def AddrBackCardSaid : Prop := Claim7.holds Tryd.pinned (.plain (OpenSpec.ofChange addrBackSpec)) addrBackCard

/-- THE TIED CARD OF 'whirligiglaw01.AddrHas'. -/
def addrHasCard : Claim7 := { stood := { row := addrHasRow, standIns := [], harness := (true, "1e4bb8b0fc6f9547de3951c11c3fad70fd284363233ab81d399617be54a471cb"), looks := false }, kinds := [], alts := [], laidByText := true, laidKinds := [.data, .data, .data], laidTests := true, laidLooks := .later }
def AddrHasCardSaid : Prop := Claim7.holds Tryd.pinned (.plain (OpenSpec.ofChange addrHasSpec)) addrHasCard

/-- THE TIED CARD OF 'whirligiglaw01.AddrHalves'. -/
def addrHalvesCard : Claim7 := { stood := { row := addrHalvesRow, standIns := [], harness := (true, "1e4bb8b0fc6f9547de3951c11c3fad70fd284363233ab81d399617be54a471cb"), looks := false }, kinds := [], alts := [], laidByText := true, laidKinds := [.data, .data, .data], laidTests := true, laidLooks := .later }
def AddrHalvesCardSaid : Prop := Claim7.holds Tryd.pinned (.plain (OpenSpec.ofChange addrHalvesSpec)) addrHalvesCard

/-- THE TIED CARD OF 'whirligiglaw01.AddrAbove'. -/
def addrAboveCard : Claim7 := { stood := { row := addrAboveRow, standIns := [], harness := (true, "1e4bb8b0fc6f9547de3951c11c3fad70fd284363233ab81d399617be54a471cb"), looks := false }, kinds := [], alts := [], laidByText := true, laidKinds := [.data, .data, .data], laidTests := true, laidLooks := .later }
def AddrAboveCardSaid : Prop := Claim7.holds Tryd.pinned (.plain (OpenSpec.ofChange addrAboveSpec)) addrAboveCard

/-- THE TIED CARD OF 'whirligiglaw01.AddrPlain'. -/
def addrPlainCard : Claim7 := { stood := { row := addrPlainRow, standIns := [], harness := (true, "1e4bb8b0fc6f9547de3951c11c3fad70fd284363233ab81d399617be54a471cb"), looks := false }, kinds := [], alts := [], laidByText := true, laidKinds := [.data, .data, .data], laidTests := true, laidLooks := .later }
def AddrPlainCardSaid : Prop := Claim7.holds Tryd.pinned (.plain (OpenSpec.ofChange addrPlainSpec)) addrPlainCard

/-- THE SECOND FORM's CARD OF 'whirligiglaw01.AddrTexts'. -/
def addrTextsUptoCard : Claim7 := { stood := { row := addrTextsUptoRow, standIns := [], harness := (true, "1e4bb8b0fc6f9547de3951c11c3fad70fd284363233ab81d399617be54a471cb"), looks := false }, kinds := [], alts := [], laidByText := true, laidKinds := [.data, .data, .data], laidTests := true, laidLooks := .later }
def AddrTextsUptoCardSaid : Prop := Claim7.holds Tryd.pinned (.plain (OpenSpec.upto addrTextsSpec)) addrTextsUptoCard

/-- THE SECOND FORM's CARD OF 'whirligiglaw01.AddrBack'. -/
def addrBackUptoCard : Claim7 := { stood := { row := addrBackUptoRow, standIns := [], harness := (true, "1e4bb8b0fc6f9547de3951c11c3fad70fd284363233ab81d399617be54a471cb"), looks := false }, kinds := [], alts := [], laidByText := true, laidKinds := [.data, .data, .data], laidTests := true, laidLooks := .later }
def AddrBackUptoCardSaid : Prop := Claim7.holds Tryd.pinned (.plain (OpenSpec.upto addrBackSpec)) addrBackUptoCard

/-- THE SECOND FORM's CARD OF 'whirligiglaw01.AddrHas'. -/
def addrHasUptoCard : Claim7 := { stood := { row := addrHasUptoRow, standIns := [], harness := (true, "1e4bb8b0fc6f9547de3951c11c3fad70fd284363233ab81d399617be54a471cb"), looks := false }, kinds := [], alts := [], laidByText := true, laidKinds := [.data, .data, .data], laidTests := true, laidLooks := .later }
def AddrHasUptoCardSaid : Prop := Claim7.holds Tryd.pinned (.plain (OpenSpec.upto addrHasSpec)) addrHasUptoCard

/-- THE SECOND FORM's CARD OF 'whirligiglaw01.AddrHalves'. -/
def addrHalvesUptoCard : Claim7 := { stood := { row := addrHalvesUptoRow, standIns := [], harness := (true, "1e4bb8b0fc6f9547de3951c11c3fad70fd284363233ab81d399617be54a471cb"), looks := false }, kinds := [], alts := [], laidByText := true, laidKinds := [.data, .data, .data], laidTests := true, laidLooks := .later }
def AddrHalvesUptoCardSaid : Prop := Claim7.holds Tryd.pinned (.plain (OpenSpec.upto addrHalvesSpec)) addrHalvesUptoCard

/-- THE SECOND FORM's CARD OF 'whirligiglaw01.AddrAbove'. -/
def addrAboveUptoCard : Claim7 := { stood := { row := addrAboveUptoRow, standIns := [], harness := (true, "1e4bb8b0fc6f9547de3951c11c3fad70fd284363233ab81d399617be54a471cb"), looks := false }, kinds := [], alts := [], laidByText := true, laidKinds := [.data, .data, .data], laidTests := true, laidLooks := .later }
def AddrAboveUptoCardSaid : Prop := Claim7.holds Tryd.pinned (.plain (OpenSpec.upto addrAboveSpec)) addrAboveUptoCard

/-- THE SECOND FORM's CARD OF 'whirligiglaw01.AddrPlain'. -/
def addrPlainUptoCard : Claim7 := { stood := { row := addrPlainUptoRow, standIns := [], harness := (true, "1e4bb8b0fc6f9547de3951c11c3fad70fd284363233ab81d399617be54a471cb"), looks := false }, kinds := [], alts := [], laidByText := true, laidKinds := [.data, .data, .data], laidTests := true, laidLooks := .later }
def AddrPlainUptoCardSaid : Prop := Claim7.holds Tryd.pinned (.plain (OpenSpec.upto addrPlainSpec)) addrPlainUptoCard
end Rows
end Go.Proofs.YtfkajefminopjaaDoor
