/- The text of a community, whatever it is: comm's and the document's. -/
import Derived.Test.YtngfoijmknclhaaGreatDoorJ29
namespace Go.Proofs.YtngfoijmknclhaaGreatDoor.Cm
open Go.RowKit Go.Sort
theorem itoa_len (n : Int) (h0 : 0 ≤ n) (h1 : n ≤ 65535) : (Lib.itoa n).length ≤ 21 := Lib.itoa_length_le n (by omega) (by omega)

end Go.Proofs.YtngfoijmknclhaaGreatDoor.Cm
