/-
  DERIVED. GIVEN WITH THE SEED: THE CARDS: each row of YtkpoanjcalolkaaDoorRows.lean that lists a variable, with what it lists TIED to the program's text (the seventh form; the later family's looks); each row that meets fmt, with fmt's text TOLD by the authors' own Lean function (tested against real Go, not proved from fmt's source: count such statements apart). THE CARD IS WHAT COUNTS. Prove the row's statement (the work); the ties are given (YtkpoanjcalolkaaDoorTie.lean); close each card by the builder's one call (the guide's Derived/Test/ToyasCard.lean, 'card_holds'). Laid BY PROGRAM, IN A SANDBOX (cutbox-door.mjs). By AI agents, Wed Nov 11 2026. No macro, syntax, notation, axiom, sorry.
-/
import Derived.Test.YtkpoanjcalolkaaDoorRows
import GoSem.ClaimSeven
namespace Go.Proofs.YtkpoanjcalolkaaDoor
namespace Rows

/-- THE TIED CARD OF 'whirligiglaw02.PlistLets'. -/
def plistLetsCard : Claim7 := { stood := { row := plistLetsRow, standIns := [], harness := (true, "fba136a7032ca01abcdf91d3fd06549ae98326fff92b7dde7a2e77849de4ab38"), looks := false }, kinds := [], alts := [], laidByText := true, laidKinds := [.data, .data, .data], laidTests := true, laidLooks := .later }
def PlistLetsCardSaid : Prop := Claim7.holds Tryd.pinned (.plain (OpenSpec.ofChange plistLetsSpec)) plistLetsCard

/-- THE TIED CARD OF 'whirligiglaw02.PlistTexts'. -/
def plistTextsCard : Claim7 := { stood := { row := plistTextsRow, standIns := [], harness := (true, "fba136a7032ca01abcdf91d3fd06549ae98326fff92b7dde7a2e77849de4ab38"), looks := false }, kinds := [], alts := [], laidByText := true, laidKinds := [.data, .data, .data], laidTests := true, laidLooks := .later }
def PlistTextsCardSaid : Prop := Claim7.holds Tryd.pinned (.plain (OpenSpec.ofChange plistTextsSpec)) plistTextsCard

/-- THE TIED CARD OF 'whirligiglaw02.PlistBehind'. -/
def plistBehindCard : Claim7 := { stood := { row := plistBehindRow, standIns := [], harness := (true, "fba136a7032ca01abcdf91d3fd06549ae98326fff92b7dde7a2e77849de4ab38"), looks := false }, kinds := [], alts := [], laidByText := true, laidKinds := [.data, .data, .data], laidTests := true, laidLooks := .later }
def PlistBehindCardSaid : Prop := Claim7.holds Tryd.pinned (.plain (OpenSpec.ofChange plistBehindSpec)) plistBehindCard

/-- THE TIED CARD OF 'whirligiglaw02.PlistIdle'. -/
def plistIdleCard : Claim7 := { stood := { row := plistIdleRow, standIns := [], harness := (true, "fba136a7032ca01abcdf91d3fd06549ae98326fff92b7dde7a2e77849de4ab38"), looks := false }, kinds := [], alts := [], laidByText := true, laidKinds := [.data, .data, .data], laidTests := true, laidLooks := .later }
def PlistIdleCardSaid : Prop := Claim7.holds Tryd.pinned (.plain (OpenSpec.ofChange plistIdleSpec)) plistIdleCard

/-- THE TIED CARD OF 'whirligiglaw02.PlistBare'. -/
def plistBareCard : Claim7 := { stood := { row := plistBareRow, standIns := [], harness := (true, "fba136a7032ca01abcdf91d3fd06549ae98326fff92b7dde7a2e77849de4ab38"), looks := false }, kinds := [], alts := [], laidByText := true, laidKinds := [.data, .data, .data], laidTests := true, laidLooks := .later }
def PlistBareCardSaid : Prop := Claim7.holds Tryd.pinned (.plain (OpenSpec.ofChange plistBareSpec)) plistBareCard

/-- THE TIED CARD OF 'whirligiglaw02.PlistDiffers'. -/
def plistDiffersCard : Claim7 := { stood := { row := plistDiffersRow, standIns := [], harness := (true, "fba136a7032ca01abcdf91d3fd06549ae98326fff92b7dde7a2e77849de4ab38"), looks := false }, kinds := [], alts := [], laidByText := true, laidKinds := [.data, .data, .data], laidTests := true, laidLooks := .later }
def PlistDiffersCardSaid : Prop := Claim7.holds Tryd.pinned (.plain (OpenSpec.ofChange plistDiffersSpec)) plistDiffersCard

/-- THE SECOND FORM's CARD OF 'whirligiglaw02.PlistLets'. -/
def plistLetsUptoCard : Claim7 := { stood := { row := plistLetsUptoRow, standIns := [], harness := (true, "fba136a7032ca01abcdf91d3fd06549ae98326fff92b7dde7a2e77849de4ab38"), looks := false }, kinds := [], alts := [], laidByText := true, laidKinds := [.data, .data, .data], laidTests := true, laidLooks := .later }
def PlistLetsUptoCardSaid : Prop := Claim7.holds Tryd.pinned (.plain (OpenSpec.upto plistLetsSpec)) plistLetsUptoCard

/-- THE SECOND FORM's CARD OF 'whirligiglaw02.PlistTexts'. -/
def plistTextsUptoCard : Claim7 := { stood := { row := plistTextsUptoRow, standIns := [], harness := (true, "fba136a7032ca01abcdf91d3fd06549ae98326fff92b7dde7a2e77849de4ab38"), looks := false }, kinds := [], alts := [], laidByText := true, laidKinds := [.data, .data, .data], laidTests := true, laidLooks := .later }
def PlistTextsUptoCardSaid : Prop := Claim7.holds Tryd.pinned (.plain (OpenSpec.upto plistTextsSpec)) plistTextsUptoCard

/-- THE SECOND FORM's CARD OF 'whirligiglaw02.PlistBehind'. -/
def plistBehindUptoCard : Claim7 := { stood := { row := plistBehindUptoRow, standIns := [], harness := (true, "fba136a7032ca01abcdf91d3fd06549ae98326fff92b7dde7a2e77849de4ab38"), looks := false }, kinds := [], alts := [], laidByText := true, laidKinds := [.data, .data, .data], laidTests := true, laidLooks := .later }
def PlistBehindUptoCardSaid : Prop := Claim7.holds Tryd.pinned (.plain (OpenSpec.upto plistBehindSpec)) plistBehindUptoCard

/-- THE SECOND FORM's CARD OF 'whirligiglaw02.PlistIdle'. -/
def plistIdleUptoCard : Claim7 := { stood := { row := plistIdleUptoRow, standIns := [], harness := (true, "fba136a7032ca01abcdf91d3fd06549ae98326fff92b7dde7a2e77849de4ab38"), looks := false }, kinds := [], alts := [], laidByText := true, laidKinds := [.data, .data, .data], laidTests := true, laidLooks := .later }
def PlistIdleUptoCardSaid : Prop := Claim7.holds Tryd.pinned (.plain (OpenSpec.upto plistIdleSpec)) plistIdleUptoCard

/-- THE SECOND FORM's CARD OF 'whirligiglaw02.PlistBare'. -/
def plistBareUptoCard : Claim7 := { stood := { row := plistBareUptoRow, standIns := [], harness := (true, "fba136a7032ca01abcdf91d3fd06549ae98326fff92b7dde7a2e77849de4ab38"), looks := false }, kinds := [], alts := [], laidByText := true, laidKinds := [.data, .data, .data], laidTests := true, laidLooks := .later }
def PlistBareUptoCardSaid : Prop := Claim7.holds Tryd.pinned (.plain (OpenSpec.upto plistBareSpec)) plistBareUptoCard

/-- THE SECOND FORM's CARD OF 'whirligiglaw02.PlistDiffers'. -/
def plistDiffersUptoCard : Claim7 := { stood := { row := plistDiffersUptoRow, standIns := [], harness := (true, "fba136a7032ca01abcdf91d3fd06549ae98326fff92b7dde7a2e77849de4ab38"), looks := false }, kinds := [], alts := [], laidByText := true, laidKinds := [.data, .data, .data], laidTests := true, laidLooks := .later }
def PlistDiffersUptoCardSaid : Prop := Claim7.holds Tryd.pinned (.plain (OpenSpec.upto plistDiffersSpec)) plistDiffersUptoCard
end Rows
end Go.Proofs.YtkpoanjcalolkaaDoor
