/- Texts: Itoa, the document's Number, the well known communities, and the text of a community. -/
import Derived.Test.YtngfoijmknclhaaGreatDoorJ04
import Derived.Test.YtngfoijmknclhaaGreatDoorJ08
import Derived.Shelf.LaysM
import Derived.Shelf.Strconv.Itoa3
import Derived.Shelf.Strings.OnBuilder
import Derived.Shelf.Strings.Search2
import Derived.Test.YtngfoijmknclhaaGreatDoorProg
import Derived.Lib.AppendIntMem
import Derived.Lib.ItoaLen
import Derived.Laws.IdiomStrings
import Derived.Laws.Concat
namespace Go.Proofs.YtngfoijmknclhaaGreatDoor.Cm
open Go.RowKit Go.Sort
/-- The library's table of powers of ten reads as it was laid. -/
def Tab (w : World) : Prop := Lib.TabIs Tryz.prog w "internal/strconv.uint64pow10" .u64 Lib.pow10Tab
end Go.Proofs.YtngfoijmknclhaaGreatDoor.Cm
