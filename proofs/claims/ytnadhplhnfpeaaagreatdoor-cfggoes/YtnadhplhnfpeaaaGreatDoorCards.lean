/-
  DERIVED. GIVEN WITH THE SEED: THE CARDS: each row of YtnadhplhnfpeaaaGreatDoorRows.lean that lists a variable, with what it lists TIED to the program's text (the seventh form; the later family's looks); each row that meets fmt, with fmt's text TOLD by the authors' own Lean function (tested against real Go, not proved from fmt's source: count such statements apart). THE CARD IS WHAT COUNTS. Prove the row's statement (the work); the ties are given (YtnadhplhnfpeaaaGreatDoorTie.lean); close each card by the builder's one call (the guide's Derived/Test/ToyasCard.lean, 'card_holds'). Laid BY PROGRAM, IN A SANDBOX (cutbox-door.mjs). By AI agents, Wed Nov 11 2026. No macro, syntax, notation, axiom, sorry.
-/
import Derived.Test.YtnadhplhnfpeaaaGreatDoorRows
import GoSem.ClaimSeven
namespace Go.Proofs.YtnadhplhnfpeaaaGreatDoor
namespace Rows

/-- THE TIED CARD OF 'whirligiglaw12.CfgWords'. -/
def cfgWordsCard : Claim7 := { stood := { row := cfgWordsRow, standIns := [], harness := (true, "fc06ac439a2631d0c154284596dee8c15b777fea7f63cb0f17a8e31cfb9b5ab1"), looks := true }, kinds := [], alts := [], laidByText := true, laidKinds := [.data, .data, .data, .data, .sentinel, .sentinel, .pinned], laidTests := true, laidLooks := .later }
def CfgWordsCardSaid : Prop := Claim7.holds Tryz.pinned (.plain (OpenSpec.ofChange cfgWordsSpec)) cfgWordsCard

/-- THE TIED CARD OF 'whirligiglaw12.CfgGoes'. -/
def cfgGoesCard : Claim7 := { stood := { row := cfgGoesRow, standIns := [], harness := (true, "fc06ac439a2631d0c154284596dee8c15b777fea7f63cb0f17a8e31cfb9b5ab1"), looks := true }, kinds := [], alts := [], laidByText := true, laidKinds := [.data, .data, .data, .data, .sentinel, .sentinel, .pinned], laidTests := true, laidLooks := .later }
def CfgGoesCardSaid : Prop := Claim7.holds Tryz.pinned (.plain (OpenSpec.ofChange cfgGoesSpec)) cfgGoesCard

/-- THE TIED CARD OF 'whirligiglaw12.CfgCuts'. -/
def cfgCutsCard : Claim7 := { stood := { row := cfgCutsRow, standIns := [], harness := (true, "fc06ac439a2631d0c154284596dee8c15b777fea7f63cb0f17a8e31cfb9b5ab1"), looks := true }, kinds := [], alts := [], laidByText := true, laidKinds := [.data, .data, .data, .data, .sentinel, .sentinel, .pinned], laidTests := true, laidLooks := .later }
def CfgCutsCardSaid : Prop := Claim7.holds Tryz.pinned (.plain (OpenSpec.ofChange cfgCutsSpec)) cfgCutsCard

/-- THE SECOND FORM's CARD OF 'whirligiglaw12.CfgWords'. -/
def cfgWordsUptoCard : Claim7 := { stood := { row := cfgWordsUptoRow, standIns := [], harness := (true, "fc06ac439a2631d0c154284596dee8c15b777fea7f63cb0f17a8e31cfb9b5ab1"), looks := true }, kinds := [], alts := [], laidByText := true, laidKinds := [.data, .data, .data, .data, .sentinel, .sentinel, .pinned], laidTests := true, laidLooks := .later }
def CfgWordsUptoCardSaid : Prop := Claim7.holds Tryz.pinned (.plain (OpenSpec.upto cfgWordsSpec)) cfgWordsUptoCard

/-- THE SECOND FORM's CARD OF 'whirligiglaw12.CfgGoes'. -/
def cfgGoesUptoCard : Claim7 := { stood := { row := cfgGoesUptoRow, standIns := [], harness := (true, "fc06ac439a2631d0c154284596dee8c15b777fea7f63cb0f17a8e31cfb9b5ab1"), looks := true }, kinds := [], alts := [], laidByText := true, laidKinds := [.data, .data, .data, .data, .sentinel, .sentinel, .pinned], laidTests := true, laidLooks := .later }
def CfgGoesUptoCardSaid : Prop := Claim7.holds Tryz.pinned (.plain (OpenSpec.upto cfgGoesSpec)) cfgGoesUptoCard

/-- THE SECOND FORM's CARD OF 'whirligiglaw12.CfgCuts'. -/
def cfgCutsUptoCard : Claim7 := { stood := { row := cfgCutsUptoRow, standIns := [], harness := (true, "fc06ac439a2631d0c154284596dee8c15b777fea7f63cb0f17a8e31cfb9b5ab1"), looks := true }, kinds := [], alts := [], laidByText := true, laidKinds := [.data, .data, .data, .data, .sentinel, .sentinel, .pinned], laidTests := true, laidLooks := .later }
def CfgCutsUptoCardSaid : Prop := Claim7.holds Tryz.pinned (.plain (OpenSpec.upto cfgCutsSpec)) cfgCutsUptoCard
end Rows
end Go.Proofs.YtnadhplhnfpeaaaGreatDoor
