/-
  DERIVED. GIVEN WITH THE SEED: THE CARDS: each row of YtpkikfojiibdaaaGreatDoorRows.lean that lists a variable, with what it lists TIED to the program's text (the seventh form; the later family's looks); each row that meets fmt, with fmt's text TOLD by the authors' own Lean function (tested against real Go, not proved from fmt's source: count such statements apart). THE CARD IS WHAT COUNTS. Prove the row's statement (the work); the ties are given (YtpkikfojiibdaaaGreatDoorTie.lean); close each card by the builder's one call (the guide's Derived/Test/ToyasCard.lean, 'card_holds'). Laid BY PROGRAM, IN A SANDBOX (cutbox-door.mjs). By AI agents, Wed Nov 11 2026. No macro, syntax, notation, axiom, sorry.
-/
import Derived.Test.YtpkikfojiibdaaaGreatDoorRows
import GoSem.ClaimSeven
namespace Go.Proofs.YtpkikfojiibdaaaGreatDoor
namespace Rows

/-- THE TIED CARD OF 'whirligiglaw09.AttrDoes'. -/
def attrDoesCard : Claim7 := { stood := { row := attrDoesRow, standIns := [], harness := (true, "55fcb821336a687789e6c804f6852304a78b280ee5ed902b5d0abcc931f682b3"), looks := false }, kinds := [], alts := [], laidByText := true, laidKinds := [.data, .data, .data], laidTests := true, laidLooks := .later }
def AttrDoesCardSaid : Prop := Claim7.holds Tryz.pinned (.plain (OpenSpec.ofChange attrDoesSpec)) attrDoesCard

/-- THE TIED CARD OF 'whirligiglaw09.AttrTwice'. -/
def attrTwiceCard : Claim7 := { stood := { row := attrTwiceRow, standIns := [], harness := (true, "55fcb821336a687789e6c804f6852304a78b280ee5ed902b5d0abcc931f682b3"), looks := false }, kinds := [], alts := [], laidByText := true, laidKinds := [.data, .data, .data], laidTests := true, laidLooks := .later }
def AttrTwiceCardSaid : Prop := Claim7.holds Tryz.pinned (.plain (OpenSpec.ofChange attrTwiceSpec)) attrTwiceCard

/-- THE TIED CARD OF 'whirligiglaw09.AttrOwn'. -/
def attrOwnCard : Claim7 := { stood := { row := attrOwnRow, standIns := [], harness := (true, "55fcb821336a687789e6c804f6852304a78b280ee5ed902b5d0abcc931f682b3"), looks := false }, kinds := [], alts := [], laidByText := true, laidKinds := [.data, .data, .data], laidTests := true, laidLooks := .later }
def AttrOwnCardSaid : Prop := Claim7.holds Tryz.pinned (.plain (OpenSpec.ofChange attrOwnSpec)) attrOwnCard

/-- THE SECOND FORM's CARD OF 'whirligiglaw09.AttrDoes'. -/
def attrDoesUptoCard : Claim7 := { stood := { row := attrDoesUptoRow, standIns := [], harness := (true, "55fcb821336a687789e6c804f6852304a78b280ee5ed902b5d0abcc931f682b3"), looks := false }, kinds := [], alts := [], laidByText := true, laidKinds := [.data, .data, .data], laidTests := true, laidLooks := .later }
def AttrDoesUptoCardSaid : Prop := Claim7.holds Tryz.pinned (.plain (OpenSpec.upto attrDoesSpec)) attrDoesUptoCard

/-- THE SECOND FORM's CARD OF 'whirligiglaw09.AttrTwice'. -/
def attrTwiceUptoCard : Claim7 := { stood := { row := attrTwiceUptoRow, standIns := [], harness := (true, "55fcb821336a687789e6c804f6852304a78b280ee5ed902b5d0abcc931f682b3"), looks := false }, kinds := [], alts := [], laidByText := true, laidKinds := [.data, .data, .data], laidTests := true, laidLooks := .later }
def AttrTwiceUptoCardSaid : Prop := Claim7.holds Tryz.pinned (.plain (OpenSpec.upto attrTwiceSpec)) attrTwiceUptoCard

/-- THE SECOND FORM's CARD OF 'whirligiglaw09.AttrOwn'. -/
def attrOwnUptoCard : Claim7 := { stood := { row := attrOwnUptoRow, standIns := [], harness := (true, "55fcb821336a687789e6c804f6852304a78b280ee5ed902b5d0abcc931f682b3"), looks := false }, kinds := [], alts := [], laidByText := true, laidKinds := [.data, .data, .data], laidTests := true, laidLooks := .later }
def AttrOwnUptoCardSaid : Prop := Claim7.holds Tryz.pinned (.plain (OpenSpec.upto attrOwnSpec)) attrOwnUptoCard
end Rows
end Go.Proofs.YtpkikfojiibdaaaGreatDoor
