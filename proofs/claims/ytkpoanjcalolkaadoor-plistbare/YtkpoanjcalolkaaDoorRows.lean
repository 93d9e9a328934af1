/-
  NARROWER THAN 'FOR EVERY INPUT', by the rows' own cells (each row's printed sentence says how): PlistLets: laid · PlistTexts: laid · PlistBehind: laid · PlistIdle: laid · PlistBare: laid · PlistDiffers: laid.
  DERIVED. THE GIVEN ROWS OF THIS SEAT. 6 by the template 'for every input the law returns true; each argument reads behind the call as it read before'; 0 by the template 'total and deterministic' (their statements: YtkpoanjcalolkaaDoorTotals.lean).
  GIVEN WITH THE SEED: the statements are not yours to turn. If you find one false, say at which input.
  Laid BY PROGRAM, IN A SANDBOX (cutbox-rows.mjs): the forced cells as the released guide's own fill.sh prints them over the translation e3433e46f5f2d573… (all of the seat's roots in one cut). By AI agents, Wed Nov 11 2026. No macro, syntax, notation, axiom, sorry.
-/
import Derived.Test.YtkpoanjcalolkaaDoorChecked
import GoSem.Claim
import GoSem.ClaimJoined
import GoSem.ClaimMapViews
import Derived.JoinedTies
import Derived.KernelRfl
namespace Go.Proofs.YtkpoanjcalolkaaDoor
/- THE CELL 'sum', in the pinned program and in every row, IS THE sha256 OF THE DUMP (.gsa) THAT YtkpoanjcalolkaaDoorProg.lean LOADS. Nothing in Lean hashes anything: it is a label: what it is worth is what the hold of that sum in a sandbox is worth. -/
noncomputable def Tryd.pinned : Pinned := { name := "ytkpoanjcalolkaadoor", sum := "e3433e46f5f2d57337864bc7165206cfe81e3f53eb3613193ad3295537bc5125", checked := Tryd.checked }
namespace Rows
def none {H : Type} : Left H := { results := [], args := [] }

/- WHAT THE LISTED PACKAGE-LEVEL VARIABLES READ AS WHEN THE CALL BEGINS. Each datum BY PROGRAM (the guide's laid-datum.mjs) off the statement by which the dump's own 'gosem.cut.vars' lays the variable. In a bare row this is a premise. The card (YtkpoanjcalolkaaDoorCards.lean) ties it to the program's text. -/
def laid_math_bits_deBruijn32tab {H : Type} : DataW H := .agg [.lit (.int .u8 0), .lit (.int .u8 1), .lit (.int .u8 28), .lit (.int .u8 2), .lit (.int .u8 29), .lit (.int .u8 14), .lit (.int .u8 24), .lit (.int .u8 3), .lit (.int .u8 30), .lit (.int .u8 22), .lit (.int .u8 20), .lit (.int .u8 15), .lit (.int .u8 25), .lit (.int .u8 17), .lit (.int .u8 4), .lit (.int .u8 8), .lit (.int .u8 31), .lit (.int .u8 27), .lit (.int .u8 13), .lit (.int .u8 23), .lit (.int .u8 21), .lit (.int .u8 19), .lit (.int .u8 16), .lit (.int .u8 7), .lit (.int .u8 26), .lit (.int .u8 12), .lit (.int .u8 18), .lit (.int .u8 6), .lit (.int .u8 11), .lit (.int .u8 5), .lit (.int .u8 10), .lit (.int .u8 9)]
def laid_math_bits_deBruijn64tab {H : Type} : DataW H := .agg [.lit (.int .u8 0), .lit (.int .u8 1), .lit (.int .u8 56), .lit (.int .u8 2), .lit (.int .u8 57), .lit (.int .u8 49), .lit (.int .u8 28), .lit (.int .u8 3), .lit (.int .u8 61), .lit (.int .u8 58), .lit (.int .u8 42), .lit (.int .u8 50), .lit (.int .u8 38), .lit (.int .u8 29), .lit (.int .u8 17), .lit (.int .u8 4), .lit (.int .u8 62), .lit (.int .u8 47), .lit (.int .u8 59), .lit (.int .u8 36), .lit (.int .u8 45), .lit (.int .u8 43), .lit (.int .u8 51), .lit (.int .u8 22), .lit (.int .u8 53), .lit (.int .u8 39), .lit (.int .u8 33), .lit (.int .u8 30), .lit (.int .u8 24), .lit (.int .u8 18), .lit (.int .u8 12), .lit (.int .u8 5), .lit (.int .u8 63), .lit (.int .u8 55), .lit (.int .u8 48), .lit (.int .u8 27), .lit (.int .u8 60), .lit (.int .u8 41), .lit (.int .u8 37), .lit (.int .u8 16), .lit (.int .u8 46), .lit (.int .u8 35), .lit (.int .u8 44), .lit (.int .u8 21), .lit (.int .u8 52), .lit (.int .u8 32), .lit (.int .u8 23), .lit (.int .u8 11), .lit (.int .u8 54), .lit (.int .u8 26), .lit (.int .u8 40), .lit (.int .u8 15), .lit (.int .u8 34), .lit (.int .u8 20), .lit (.int .u8 31), .lit (.int .u8 10), .lit (.int .u8 25), .lit (.int .u8 14), .lit (.int .u8 19), .lit (.int .u8 9), .lit (.int .u8 13), .lit (.int .u8 8), .lit (.int .u8 7), .lit (.int .u8 6)]
def laid_internal_strconv_uint64pow10 {H : Type} : DataW H := .agg [.lit (.int .u64 1), .lit (.int .u64 10), .lit (.int .u64 100), .lit (.int .u64 1000), .lit (.int .u64 10000), .lit (.int .u64 100000), .lit (.int .u64 1000000), .lit (.int .u64 10000000), .lit (.int .u64 100000000), .lit (.int .u64 1000000000), .lit (.int .u64 10000000000), .lit (.int .u64 100000000000), .lit (.int .u64 1000000000000), .lit (.int .u64 10000000000000), .lit (.int .u64 100000000000000), .lit (.int .u64 1000000000000000), .lit (.int .u64 10000000000000000), .lit (.int .u64 100000000000000000), .lit (.int .u64 1000000000000000000), .lit (.int .u64 10000000000000000000)]

/-- 'whirligiglaw02.PlistLets': WHATEVER THE INPUT: true; the input reads as it did. -/
def plistLetsSpec : ChangeSpec := { name := "plistLets", fn := fun _ => fun
  | [d1, d2] => { results := [.lit (.bool true)], args := [d1, d2] }
  | _ => none }
def plistLetsRow : OpenClaim := { program := "ytkpoanjcalolkaadoor", sum := "e3433e46f5f2d57337864bc7165206cfe81e3f53eb3613193ad3295537bc5125", func := "whirligig/whirligiglaw02.PlistLets", spec := "plistLets", inPlace := ["internal/abi.NoEscape"], unfollowed := true, recurses := true, named := ["internal/strconv.uint64pow10", "math/bits.deBruijn32tab", "math/bits.deBruijn64tab"], apart := false, laid := [("math/bits.deBruijn32tab", laid_math_bits_deBruijn32tab), ("math/bits.deBruijn64tab", laid_math_bits_deBruijn64tab), ("internal/strconv.uint64pow10", laid_internal_strconv_uint64pow10)] }
def PlistLetsSaid : Prop := plistLetsRow.holds Tryd.pinned (OpenSpec.ofChange plistLetsSpec)

/-- ITS FALSE NEIGHBOUR: 'it returns false'. Refute it at one input. -/
def plistLetsWrong : ChangeSpec := { name := "plistLets", fn := fun _ => fun
  | [d1, d2] => { results := [.lit (.bool false)], args := [d1, d2] }
  | _ => none }
def PlistLetsWrongFalsely : Prop := plistLetsRow.holds Tryd.pinned (OpenSpec.ofChange plistLetsWrong)

/-- 'whirligiglaw02.PlistTexts': WHATEVER THE INPUT: true; the input reads as it did. -/
def plistTextsSpec : ChangeSpec := { name := "plistTexts", fn := fun _ => fun
  | [d1, d2] => { results := [.lit (.bool true)], args := [d1, d2] }
  | _ => none }
def plistTextsRow : OpenClaim := { program := "ytkpoanjcalolkaadoor", sum := "e3433e46f5f2d57337864bc7165206cfe81e3f53eb3613193ad3295537bc5125", func := "whirligig/whirligiglaw02.PlistTexts", spec := "plistTexts", inPlace := ["internal/abi.NoEscape"], named := ["internal/strconv.uint64pow10", "math/bits.deBruijn32tab", "math/bits.deBruijn64tab"], apart := false, laid := [("math/bits.deBruijn32tab", laid_math_bits_deBruijn32tab), ("math/bits.deBruijn64tab", laid_math_bits_deBruijn64tab), ("internal/strconv.uint64pow10", laid_internal_strconv_uint64pow10)] }
def PlistTextsSaid : Prop := plistTextsRow.holds Tryd.pinned (OpenSpec.ofChange plistTextsSpec)

/-- ITS FALSE NEIGHBOUR: 'it returns false'. Refute it at one input. -/
def plistTextsWrong : ChangeSpec := { name := "plistTexts", fn := fun _ => fun
  | [d1, d2] => { results := [.lit (.bool false)], args := [d1, d2] }
  | _ => none }
def PlistTextsWrongFalsely : Prop := plistTextsRow.holds Tryd.pinned (OpenSpec.ofChange plistTextsWrong)

/-- 'whirligiglaw02.PlistBehind': WHATEVER THE INPUT: true; the input reads as it did. -/
def plistBehindSpec : ChangeSpec := { name := "plistBehind", fn := fun _ => fun
  | [d1, d2, d3] => { results := [.lit (.bool true)], args := [d1, d2, d3] }
  | _ => none }
def plistBehindRow : OpenClaim := { program := "ytkpoanjcalolkaadoor", sum := "e3433e46f5f2d57337864bc7165206cfe81e3f53eb3613193ad3295537bc5125", func := "whirligig/whirligiglaw02.PlistBehind", spec := "plistBehind", inPlace := ["internal/abi.NoEscape"], unfollowed := true, recurses := true, named := ["internal/strconv.uint64pow10", "math/bits.deBruijn32tab", "math/bits.deBruijn64tab"], apart := false, laid := [("math/bits.deBruijn32tab", laid_math_bits_deBruijn32tab), ("math/bits.deBruijn64tab", laid_math_bits_deBruijn64tab), ("internal/strconv.uint64pow10", laid_internal_strconv_uint64pow10)] }
def PlistBehindSaid : Prop := plistBehindRow.holds Tryd.pinned (OpenSpec.ofChange plistBehindSpec)

/-- ITS FALSE NEIGHBOUR: 'it returns false'. Refute it at one input. -/
def plistBehindWrong : ChangeSpec := { name := "plistBehind", fn := fun _ => fun
  | [d1, d2, d3] => { results := [.lit (.bool false)], args := [d1, d2, d3] }
  | _ => none }
def PlistBehindWrongFalsely : Prop := plistBehindRow.holds Tryd.pinned (OpenSpec.ofChange plistBehindWrong)

/-- 'whirligiglaw02.PlistIdle': WHATEVER THE INPUT: true; the input reads as it did. -/
def plistIdleSpec : ChangeSpec := { name := "plistIdle", fn := fun _ => fun
  | [d1, d2, d3] => { results := [.lit (.bool true)], args := [d1, d2, d3] }
  | _ => none }
def plistIdleRow : OpenClaim := { program := "ytkpoanjcalolkaadoor", sum := "e3433e46f5f2d57337864bc7165206cfe81e3f53eb3613193ad3295537bc5125", func := "whirligig/whirligiglaw02.PlistIdle", spec := "plistIdle", inPlace := ["internal/abi.NoEscape"], unfollowed := true, recurses := true, named := ["internal/strconv.uint64pow10", "math/bits.deBruijn32tab", "math/bits.deBruijn64tab"], apart := false, laid := [("math/bits.deBruijn32tab", laid_math_bits_deBruijn32tab), ("math/bits.deBruijn64tab", laid_math_bits_deBruijn64tab), ("internal/strconv.uint64pow10", laid_internal_strconv_uint64pow10)] }
def PlistIdleSaid : Prop := plistIdleRow.holds Tryd.pinned (OpenSpec.ofChange plistIdleSpec)

/-- ITS FALSE NEIGHBOUR: 'it returns false'. Refute it at one input. -/
def plistIdleWrong : ChangeSpec := { name := "plistIdle", fn := fun _ => fun
  | [d1, d2, d3] => { results := [.lit (.bool false)], args := [d1, d2, d3] }
  | _ => none }
def PlistIdleWrongFalsely : Prop := plistIdleRow.holds Tryd.pinned (OpenSpec.ofChange plistIdleWrong)

/-- 'whirligiglaw02.PlistBare': WHATEVER THE INPUT: true; the input reads as it did. -/
def plistBareSpec : ChangeSpec := { name := "plistBare", fn := fun _ => fun
  | [d1, d2] => { results := [.lit (.bool true)], args := [d1, d2] }
  | _ => none }
def plistBareRow : OpenClaim := { program := "ytkpoanjcalolkaadoor", sum := "e3433e46f5f2d57337864bc7165206cfe81e3f53eb3613193ad3295537bc5125", func := "whirligig/whirligiglaw02.PlistBare", spec := "plistBare", inPlace := ["internal/abi.NoEscape"], unfollowed := true, recurses := true, named := ["internal/strconv.uint64pow10", "math/bits.deBruijn32tab", "math/bits.deBruijn64tab"], apart := false, laid := [("math/bits.deBruijn32tab", laid_math_bits_deBruijn32tab), ("math/bits.deBruijn64tab", laid_math_bits_deBruijn64tab), ("internal/strconv.uint64pow10", laid_internal_strconv_uint64pow10)] }
def PlistBareSaid : Prop := plistBareRow.holds Tryd.pinned (OpenSpec.ofChange plistBareSpec)

/-- ITS FALSE NEIGHBOUR: 'it returns false'. Refute it at one input. -/
def plistBareWrong : ChangeSpec := { name := "plistBare", fn := fun _ => fun
  | [d1, d2] => { results := [.lit (.bool false)], args := [d1, d2] }
  | _ => none }
def PlistBareWrongFalsely : Prop := plistBareRow.holds Tryd.pinned (OpenSpec.ofChange plistBareWrong)

/-- 'whirligiglaw02.PlistDiffers': WHATEVER THE INPUT: true; the input reads as it did. -/
def plistDiffersSpec : ChangeSpec := { name := "plistDiffers", fn := fun _ => fun
  | [d1, d2, d3] => { results := [.lit (.bool true)], args := [d1, d2, d3] }
  | _ => none }
def plistDiffersRow : OpenClaim := { program := "ytkpoanjcalolkaadoor", sum := "e3433e46f5f2d57337864bc7165206cfe81e3f53eb3613193ad3295537bc5125", func := "whirligig/whirligiglaw02.PlistDiffers", spec := "plistDiffers", inPlace := ["internal/abi.NoEscape"], unfollowed := true, recurses := true, named := ["internal/strconv.uint64pow10", "math/bits.deBruijn32tab", "math/bits.deBruijn64tab"], apart := false, laid := [("math/bits.deBruijn32tab", laid_math_bits_deBruijn32tab), ("math/bits.deBruijn64tab", laid_math_bits_deBruijn64tab), ("internal/strconv.uint64pow10", laid_internal_strconv_uint64pow10)] }
def PlistDiffersSaid : Prop := plistDiffersRow.holds Tryd.pinned (OpenSpec.ofChange plistDiffersSpec)

/-- ITS FALSE NEIGHBOUR: 'it returns false'. Refute it at one input. -/
def plistDiffersWrong : ChangeSpec := { name := "plistDiffers", fn := fun _ => fun
  | [d1, d2, d3] => { results := [.lit (.bool false)], args := [d1, d2, d3] }
  | _ => none }
def PlistDiffersWrongFalsely : Prop := plistDiffersRow.holds Tryd.pinned (OpenSpec.ofChange plistDiffersWrong)

/- THE SECOND FORM. 'bulk': how many values and letters a reading holds, each counted each time it is reached (what is shared counts as often as it is met; a slice's spare places count too). A statement '..UptoSaid' is the law's where the arguments, and the package variables that the reading takes, are together of bulk at most 1048576: NARROWER than '..Said'. Prove '..Said' where nothing that the law and all that it calls make is longer than what came in: it says more and counts as full. Else prove '..UptoSaid'. A law counts once. -/
mutual
def uptoBulk {H : Type} : DataW H → Nat
  | .lit (.string bytes) => bytes.length + 1
  | .lit _ => 1
  | .nil => 1
  | .ptr d => uptoBulk d + 1
  | .slice elems spare => uptoBulkAll elems + uptoBulkAll spare + 1
  | .agg parts => uptoBulkAll parts + 1
  | .iface _ d => uptoBulk d + 1
  | .map entries => uptoBulkEntries entries + 1
  | .held _ => 1
def uptoBulkAll {H : Type} : List (DataW H) → Nat
  | [] => 0
  | d :: r => uptoBulk d + uptoBulkAll r
def uptoBulkEntries {H : Type} : List (Lit × DataW H) → Nat
  | [] => 0
  | x :: r => uptoBulkEntry x + uptoBulkEntries r
def uptoBulkEntry {H : Type} : Lit × DataW H → Nat
  | (.string bytes, d) => bytes.length + uptoBulk d + 1
  | (_, d) => uptoBulk d + 1
 end
def uptoSmall : (H : Type) → List (DataW H) → Bool := fun _ ds => decide (uptoBulkAll ds ≤ 1048576)
def OpenSpec.upto (s : _root_.Go.ChangeSpec) : _root_.Go.OpenSpec := { _root_.Go.OpenSpec.ofChange s with cond := some uptoSmall }

/-- 'whirligiglaw02.PlistLets', WHERE WHAT IT READS IS OF BULK AT MOST 1048576: true; the input reads as it did. -/
def plistLetsUptoRow : OpenClaim := { program := "ytkpoanjcalolkaadoor", sum := "e3433e46f5f2d57337864bc7165206cfe81e3f53eb3613193ad3295537bc5125", func := "whirligig/whirligiglaw02.PlistLets", spec := "plistLets", inPlace := ["internal/abi.NoEscape"], unfollowed := true, recurses := true, named := ["internal/strconv.uint64pow10", "math/bits.deBruijn32tab", "math/bits.deBruijn64tab"], apart := false, laid := [("math/bits.deBruijn32tab", laid_math_bits_deBruijn32tab), ("math/bits.deBruijn64tab", laid_math_bits_deBruijn64tab), ("internal/strconv.uint64pow10", laid_internal_strconv_uint64pow10)], narrowed := true }
def PlistLetsUptoSaid : Prop := plistLetsUptoRow.holds Tryd.pinned (OpenSpec.upto plistLetsSpec)

/-- 'whirligiglaw02.PlistTexts', WHERE WHAT IT READS IS OF BULK AT MOST 1048576: true; the input reads as it did. -/
def plistTextsUptoRow : OpenClaim := { program := "ytkpoanjcalolkaadoor", sum := "e3433e46f5f2d57337864bc7165206cfe81e3f53eb3613193ad3295537bc5125", func := "whirligig/whirligiglaw02.PlistTexts", spec := "plistTexts", inPlace := ["internal/abi.NoEscape"], named := ["internal/strconv.uint64pow10", "math/bits.deBruijn32tab", "math/bits.deBruijn64tab"], apart := false, laid := [("math/bits.deBruijn32tab", laid_math_bits_deBruijn32tab), ("math/bits.deBruijn64tab", laid_math_bits_deBruijn64tab), ("internal/strconv.uint64pow10", laid_internal_strconv_uint64pow10)], narrowed := true }
def PlistTextsUptoSaid : Prop := plistTextsUptoRow.holds Tryd.pinned (OpenSpec.upto plistTextsSpec)

/-- 'whirligiglaw02.PlistBehind', WHERE WHAT IT READS IS OF BULK AT MOST 1048576: true; the input reads as it did. -/
def plistBehindUptoRow : OpenClaim := { program := "ytkpoanjcalolkaadoor", sum := "e3433e46f5f2d57337864bc7165206cfe81e3f53eb3613193ad3295537bc5125", func := "whirligig/whirligiglaw02.PlistBehind", spec := "plistBehind", inPlace := ["internal/abi.NoEscape"], unfollowed := true, recurses := true, named := ["internal/strconv.uint64pow10", "math/bits.deBruijn32tab", "math/bits.deBruijn64tab"], apart := false, laid := [("math/bits.deBruijn32tab", laid_math_bits_deBruijn32tab), ("math/bits.deBruijn64tab", laid_math_bits_deBruijn64tab), ("internal/strconv.uint64pow10", laid_internal_strconv_uint64pow10)], narrowed := true }
def PlistBehindUptoSaid : Prop := plistBehindUptoRow.holds Tryd.pinned (OpenSpec.upto plistBehindSpec)

/-- 'whirligiglaw02.PlistIdle', WHERE WHAT IT READS IS OF BULK AT MOST 1048576: true; the input reads as it did. -/
def plistIdleUptoRow : OpenClaim := { program := "ytkpoanjcalolkaadoor", sum := "e3433e46f5f2d57337864bc7165206cfe81e3f53eb3613193ad3295537bc5125", func := "whirligig/whirligiglaw02.PlistIdle", spec := "plistIdle", inPlace := ["internal/abi.NoEscape"], unfollowed := true, recurses := true, named := ["internal/strconv.uint64pow10", "math/bits.deBruijn32tab", "math/bits.deBruijn64tab"], apart := false, laid := [("math/bits.deBruijn32tab", laid_math_bits_deBruijn32tab), ("math/bits.deBruijn64tab", laid_math_bits_deBruijn64tab), ("internal/strconv.uint64pow10", laid_internal_strconv_uint64pow10)], narrowed := true }
def PlistIdleUptoSaid : Prop := plistIdleUptoRow.holds Tryd.pinned (OpenSpec.upto plistIdleSpec)

/-- 'whirligiglaw02.PlistBare', WHERE WHAT IT READS IS OF BULK AT MOST 1048576: true; the input reads as it did. -/
def plistBareUptoRow : OpenClaim := { program := "ytkpoanjcalolkaadoor", sum := "e3433e46f5f2d57337864bc7165206cfe81e3f53eb3613193ad3295537bc5125", func := "whirligig/whirligiglaw02.PlistBare", spec := "plistBare", inPlace := ["internal/abi.NoEscape"], unfollowed := true, recurses := true, named := ["internal/strconv.uint64pow10", "math/bits.deBruijn32tab", "math/bits.deBruijn64tab"], apart := false, laid := [("math/bits.deBruijn32tab", laid_math_bits_deBruijn32tab), ("math/bits.deBruijn64tab", laid_math_bits_deBruijn64tab), ("internal/strconv.uint64pow10", laid_internal_strconv_uint64pow10)], narrowed := true }
def PlistBareUptoSaid : Prop := plistBareUptoRow.holds Tryd.pinned (OpenSpec.upto plistBareSpec)

/-- 'whirligiglaw02.PlistDiffers', WHERE WHAT IT READS IS OF BULK AT MOST 1048576: true; the input reads as it did. -/
def plistDiffersUptoRow : OpenClaim := { program := "ytkpoanjcalolkaadoor", sum := "e3433e46f5f2d57337864bc7165206cfe81e3f53eb3613193ad3295537bc5125", func := "whirligig/whirligiglaw02.PlistDiffers", spec := "plistDiffers", inPlace := ["internal/abi.NoEscape"], unfollowed := true, recurses := true, named := ["internal/strconv.uint64pow10", "math/bits.deBruijn32tab", "math/bits.deBruijn64tab"], apart := false, laid := [("math/bits.deBruijn32tab", laid_math_bits_deBruijn32tab), ("math/bits.deBruijn64tab", laid_math_bits_deBruijn64tab), ("internal/strconv.uint64pow10", laid_internal_strconv_uint64pow10)], narrowed := true }
def PlistDiffersUptoSaid : Prop := plistDiffersUptoRow.holds Tryd.pinned (OpenSpec.upto plistDiffersSpec)

end Rows
end Go.Proofs.YtkpoanjcalolkaaDoor
