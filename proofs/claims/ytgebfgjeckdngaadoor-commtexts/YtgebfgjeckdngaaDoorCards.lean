/-
  DERIVED. GIVEN WITH THE SEED: THE CARDS: each row of YtgebfgjeckdngaaDoorRows.lean that lists a variable, with what it lists TIED to the program's text (the seventh form; the later family's looks); each row that meets fmt, with fmt's text TOLD by the authors' own Lean function (tested against real Go, not proved from fmt's source: count such statements apart). THE CARD IS WHAT COUNTS. Prove the row's statement (the work); the ties are given (YtgebfgjeckdngaaDoorTie.lean); close each card by the builder's one call (the guide's Derived/Test/ToyasCard.lean, 'card_holds'). Laid BY PROGRAM, IN A SANDBOX (cutbox-door.mjs). By AI agents, Wed Nov 11 2026. No macro, syntax, notation, axiom, sorry.
-/
import Derived.Test.YtgebfgjeckdngaaDoorRows
import GoSem.ClaimSeven
namespace Go.Proofs.YtgebfgjeckdngaaDoor
namespace Rows

/-- THE TIED CARD OF 'whirligiglaw03.CommTexts'. -/
def commTextsCard : Claim7 := { stood := { row := commTextsRow, standIns := [], harness := (true, "6247755902eb3eb22465742b75cb19ceec316c3f8ba84b082427e76970ea765d"), looks := false }, kinds := [], alts := [], laidByText := true, laidKinds := [.data, .data, .data], laidTests := true, laidLooks := .later }
def CommTextsCardSaid : Prop := Claim7.holds Tryd.pinned (.plain (OpenSpec.ofChange commTextsSpec)) commTextsCard

/-- THE TIED CARD OF 'whirligiglaw03.CommSets'. -/
def commSetsCard : Claim7 := { stood := { row := commSetsRow, standIns := [], harness := (true, "6247755902eb3eb22465742b75cb19ceec316c3f8ba84b082427e76970ea765d"), looks := false }, kinds := [], alts := [], laidByText := true, laidKinds := [.data, .data, .data], laidTests := true, laidLooks := .later }
def CommSetsCardSaid : Prop := Claim7.holds Tryd.pinned (.plain (OpenSpec.ofChange commSetsSpec)) commSetsCard

/-- THE TIED CARD OF 'whirligiglaw03.CommAdds'. -/
def commAddsCard : Claim7 := { stood := { row := commAddsRow, standIns := [], harness := (true, "6247755902eb3eb22465742b75cb19ceec316c3f8ba84b082427e76970ea765d"), looks := false }, kinds := [], alts := [], laidByText := true, laidKinds := [.data, .data, .data], laidTests := true, laidLooks := .later }
def CommAddsCardSaid : Prop := Claim7.holds Tryd.pinned (.plain (OpenSpec.ofChange commAddsSpec)) commAddsCard

/-- THE TIED CARD OF 'whirligiglaw03.CommDels'. -/
def commDelsCard : Claim7 := { stood := { row := commDelsRow, standIns := [], harness := (true, "6247755902eb3eb22465742b75cb19ceec316c3f8ba84b082427e76970ea765d"), looks := false }, kinds := [], alts := [], laidByText := true, laidKinds := [.data, .data, .data], laidTests := true, laidLooks := .later }
def CommDelsCardSaid : Prop := Claim7.holds Tryd.pinned (.plain (OpenSpec.ofChange commDelsSpec)) commDelsCard

/-- THE TIED CARD OF 'whirligiglaw03.CommBack'. -/
def commBackCard : Claim7 := { stood := { row := commBackRow, standIns := [], harness := (true, "6247755902eb3eb22465742b75cb19ceec316c3f8ba84b082427e76970ea765d"), looks := false }, kinds := [], alts := [], laidByText := true, laidKinds := [.data, .data, .data], laidTests := true, laidLooks := .later }
def CommBackCardSaid : Prop := Claim7.holds Tryd.pinned (.plain (OpenSpec.ofChange commBackSpec)) commBackCard

/-- THE TIED CARD OF 'whirligiglaw03.CommOrder'. -/
def commOrderCard : Claim7 := { stood := { row := commOrderRow, standIns := [], harness := (true, "6247755902eb3eb22465742b75cb19ceec316c3f8ba84b082427e76970ea765d"), looks := false }, kinds := [], alts := [], laidByText := true, laidKinds := [.data, .data, .data], laidTests := true, laidLooks := .later }
def CommOrderCardSaid : Prop := Claim7.holds Tryd.pinned (.plain (OpenSpec.ofChange commOrderSpec)) commOrderCard

/-- THE SECOND FORM's CARD OF 'whirligiglaw03.CommTexts'. -/
def commTextsUptoCard : Claim7 := { stood := { row := commTextsUptoRow, standIns := [], harness := (true, "6247755902eb3eb22465742b75cb19ceec316c3f8ba84b082427e76970ea765d"), looks := false }, kinds := [], alts := [], laidByText := true, laidKinds := [.data, .data, .data], laidTests := true, laidLooks := .later }
def CommTextsUptoCardSaid : Prop := Claim7.holds Tryd.pinned (.plain (OpenSpec.upto commTextsSpec)) commTextsUptoCard

/-- THE SECOND FORM's CARD OF 'whirligiglaw03.CommSets'. -/
def commSetsUptoCard : Claim7 := { stood := { row := commSetsUptoRow, standIns := [], harness := (true, "6247755902eb3eb22465742b75cb19ceec316c3f8ba84b082427e76970ea765d"), looks := false }, kinds := [], alts := [], laidByText := true, laidKinds := [.data, .data, .data], laidTests := true, laidLooks := .later }
def CommSetsUptoCardSaid : Prop := Claim7.holds Tryd.pinned (.plain (OpenSpec.upto commSetsSpec)) commSetsUptoCard

/-- THE SECOND FORM's CARD OF 'whirligiglaw03.CommAdds'. -/
def commAddsUptoCard : Claim7 := { stood := { row := commAddsUptoRow, standIns := [], harness := (true, "6247755902eb3eb22465742b75cb19ceec316c3f8ba84b082427e76970ea765d"), looks := false }, kinds := [], alts := [], laidByText := true, laidKinds := [.data, .data, .data], laidTests := true, laidLooks := .later }
def CommAddsUptoCardSaid : Prop := Claim7.holds Tryd.pinned (.plain (OpenSpec.upto commAddsSpec)) commAddsUptoCard

/-- THE SECOND FORM's CARD OF 'whirligiglaw03.CommDels'. -/
def commDelsUptoCard : Claim7 := { stood := { row := commDelsUptoRow, standIns := [], harness := (true, "6247755902eb3eb22465742b75cb19ceec316c3f8ba84b082427e76970ea765d"), looks := false }, kinds := [], alts := [], laidByText := true, laidKinds := [.data, .data, .data], laidTests := true, laidLooks := .later }
def CommDelsUptoCardSaid : Prop := Claim7.holds Tryd.pinned (.plain (OpenSpec.upto commDelsSpec)) commDelsUptoCard

/-- THE SECOND FORM's CARD OF 'whirligiglaw03.CommBack'. -/
def commBackUptoCard : Claim7 := { stood := { row := commBackUptoRow, standIns := [], harness := (true, "6247755902eb3eb22465742b75cb19ceec316c3f8ba84b082427e76970ea765d"), looks := false }, kinds := [], alts := [], laidByText := true, laidKinds := [.data, .data, .data], laidTests := true, laidLooks := .later }
def CommBackUptoCardSaid : Prop := Claim7.holds Tryd.pinned (.plain (OpenSpec.upto commBackSpec)) commBackUptoCard

/-- THE SECOND FORM's CARD OF 'whirligiglaw03.CommOrder'. -/
def commOrderUptoCard : Claim7 := { stood := { row := commOrderUptoRow, standIns := [], harness := (true, "6247755902eb3eb22465742b75cb19ceec316c3f8ba84b082427e76970ea765d"), looks := false }, kinds := [], alts := [], laidByText := true, laidKinds := [.data, .data, .data], laidTests := true, laidLooks := .later }
def CommOrderUptoCardSaid : Prop := Claim7.holds Tryd.pinned (.plain (OpenSpec.upto commOrderSpec)) commOrderUptoCard
end Rows
end Go.Proofs.YtgebfgjeckdngaaDoor
