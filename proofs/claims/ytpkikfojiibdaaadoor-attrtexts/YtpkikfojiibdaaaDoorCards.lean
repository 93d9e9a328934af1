/-
  DERIVED. GIVEN WITH THE SEED: THE CARDS: each row of YtpkikfojiibdaaaDoorRows.lean that lists a variable, with what it lists TIED to the program's text (the seventh form; the later family's looks); each row that meets fmt, with fmt's text TOLD by the authors' own Lean function (tested against real Go, not proved from fmt's source: count such statements apart). THE CARD IS WHAT COUNTS. Prove the row's statement (the work); the ties are given (YtpkikfojiibdaaaDoorTie.lean); close each card by the builder's one call (the guide's Derived/Test/ToyasCard.lean, 'card_holds'). Laid BY PROGRAM, IN A SANDBOX (cutbox-door.mjs). By AI agents, Wed Nov 11 2026. No macro, syntax, notation, axiom, sorry.
-/
import Derived.Test.YtpkikfojiibdaaaDoorRows
import GoSem.ClaimSeven
namespace Go.Proofs.YtpkikfojiibdaaaDoor
namespace Rows

/-- THE TIED CARD OF 'whirligiglaw09.AttrTexts'. -/
def attrTextsCard : Claim7 := { stood := { row := attrTextsRow, standIns := [], harness := (true, "fac65f343564505d2ecff631335fcbb908c2f6fa19ace5a19288743529422196"), looks := false }, kinds := [], alts := [], laidByText := true, laidKinds := [.data, .data, .data], laidTests := true, laidLooks := .later }
def AttrTextsCardSaid : Prop := Claim7.holds Tryd.pinned (.plain (OpenSpec.ofChange attrTextsSpec)) attrTextsCard

/-- THE TIED CARD OF 'whirligiglaw09.AttrOrder'. -/
def attrOrderCard : Claim7 := { stood := { row := attrOrderRow, standIns := [], harness := (true, "fac65f343564505d2ecff631335fcbb908c2f6fa19ace5a19288743529422196"), looks := false }, kinds := [], alts := [], laidByText := true, laidKinds := [.data, .data, .data], laidTests := true, laidLooks := .later }
def AttrOrderCardSaid : Prop := Claim7.holds Tryd.pinned (.plain (OpenSpec.ofChange attrOrderSpec)) attrOrderCard

/-- THE TIED CARD OF 'whirligiglaw09.AttrSums'. -/
def attrSumsCard : Claim7 := { stood := { row := attrSumsRow, standIns := [], harness := (true, "fac65f343564505d2ecff631335fcbb908c2f6fa19ace5a19288743529422196"), looks := false }, kinds := [], alts := [], laidByText := true, laidKinds := [.data, .data, .data], laidTests := true, laidLooks := .later }
def AttrSumsCardSaid : Prop := Claim7.holds Tryd.pinned (.plain (OpenSpec.ofChange attrSumsSpec)) attrSumsCard

/-- THE SECOND FORM's CARD OF 'whirligiglaw09.AttrTexts'. -/
def attrTextsUptoCard : Claim7 := { stood := { row := attrTextsUptoRow, standIns := [], harness := (true, "fac65f343564505d2ecff631335fcbb908c2f6fa19ace5a19288743529422196"), looks := false }, kinds := [], alts := [], laidByText := true, laidKinds := [.data, .data, .data], laidTests := true, laidLooks := .later }
def AttrTextsUptoCardSaid : Prop := Claim7.holds Tryd.pinned (.plain (OpenSpec.upto attrTextsSpec)) attrTextsUptoCard

/-- THE SECOND FORM's CARD OF 'whirligiglaw09.AttrOrder'. -/
def attrOrderUptoCard : Claim7 := { stood := { row := attrOrderUptoRow, standIns := [], harness := (true, "fac65f343564505d2ecff631335fcbb908c2f6fa19ace5a19288743529422196"), looks := false }, kinds := [], alts := [], laidByText := true, laidKinds := [.data, .data, .data], laidTests := true, laidLooks := .later }
def AttrOrderUptoCardSaid : Prop := Claim7.holds Tryd.pinned (.plain (OpenSpec.upto attrOrderSpec)) attrOrderUptoCard

/-- THE SECOND FORM's CARD OF 'whirligiglaw09.AttrSums'. -/
def attrSumsUptoCard : Claim7 := { stood := { row := attrSumsUptoRow, standIns := [], harness := (true, "fac65f343564505d2ecff631335fcbb908c2f6fa19ace5a19288743529422196"), looks := false }, kinds := [], alts := [], laidByText := true, laidKinds := [.data, .data, .data], laidTests := true, laidLooks := .later }
def AttrSumsUptoCardSaid : Prop := Claim7.holds Tryd.pinned (.plain (OpenSpec.upto attrSumsSpec)) attrSumsUptoCard
end Rows
end Go.Proofs.YtpkikfojiibdaaaDoor
