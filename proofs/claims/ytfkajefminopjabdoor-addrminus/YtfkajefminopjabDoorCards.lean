/-
  DERIVED. GIVEN WITH THE SEED: THE CARDS: each row of YtfkajefminopjabDoorRows.lean that lists a variable, with what it lists TIED to the program's text (the seventh form; the later family's looks); each row that meets fmt, with fmt's text TOLD by the authors' own Lean function (tested against real Go, not proved from fmt's source: count such statements apart). THE CARD IS WHAT COUNTS. Prove the row's statement (the work); the ties are given (YtfkajefminopjabDoorTie.lean); close each card by the builder's one call (the guide's Derived/Test/ToyasCard.lean, 'card_holds'). Laid BY PROGRAM, IN A SANDBOX (cutbox-door.mjs). By AI agents, Wed Nov 11 2026. No macro, syntax, notation, axiom, sorry.
-/
import Derived.Test.YtfkajefminopjabDoorRows
import GoSem.ClaimSeven
namespace Go.Proofs.YtfkajefminopjabDoor
namespace Rows

/-- THE TIED CARD OF 'whirligiglaw01.AddrMinus'. -/
def addrMinusCard : Claim7 := { stood := { row := addrMinusRow, standIns := [], harness := (true, "1c5bff75a615f831141da0d3b39f928d03c184efb468982f3709ccb507207826"), looks := false }, kinds := [], alts := [], laidByText := true, laidKinds := [.data, .data, .data], laidTests := true, laidLooks := .later }
def AddrMinusCardSaid : Prop := Claim7.holds Tryd.pinned (.plain (OpenSpec.ofChange addrMinusSpec)) addrMinusCard

/-- THE SECOND FORM's CARD OF 'whirligiglaw01.AddrMinus'. -/
def addrMinusUptoCard : Claim7 := { stood := { row := addrMinusUptoRow, standIns := [], harness := (true, "1c5bff75a615f831141da0d3b39f928d03c184efb468982f3709ccb507207826"), looks := false }, kinds := [], alts := [], laidByText := true, laidKinds := [.data, .data, .data], laidTests := true, laidLooks := .later }
def AddrMinusUptoCardSaid : Prop := Claim7.holds Tryd.pinned (.plain (OpenSpec.upto addrMinusSpec)) addrMinusUptoCard
end Rows
end Go.Proofs.YtfkajefminopjabDoor
