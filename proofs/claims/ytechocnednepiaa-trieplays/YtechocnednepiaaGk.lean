/- The law's asks, joined. -/
import Derived.Test.YtechocnednepiaaGh
import Derived.Test.YtechocnednepiaaGi
import Derived.Test.YtechocnednepiaaGj
namespace Go.Proofs.Ytechocnednepiaa
open Go.RowKit

theorem asks_is {w0 w : World} {T : Nat} {t : Nt} {ao : Option Addr} {cap : Nat} {l : Prs} (hS : St w0 w T t ao cap l) (k v a : Int) (p : Pf) (h0 : 0 ≤ p.1) (h1 : p.1 ≤ 4294967295) (ha0 : 0 ≤ a) (ha1 : a ≤ 4294967295) (hlen : l.length ≤ 1000) :
    Calls Try.prog 12 #[.pointer (some ⟨T, 0, none⟩), .slice ao l.length cap, .agg #[.int .i64 k, .int .i64 v, .int .u32 p.1, .int .i64 p.2, .int .u32 a]] w fun e w' => e = .returned (.bool true) ∧ Below w.heap.size w w' := by
  cases hm : Ad.may p.1 p.2
  · exact asks_1 hS k v a p h0 h1 ha0 ha1 hlen hm
  · cases hpl : (place l p).2
    · exact asks_2 hS k v a p h0 h1 ha0 ha1 hlen hm hpl
    · exact asks_3 hS k v a p h0 h1 ha0 ha1 hlen hm hpl

end Go.Proofs.Ytechocnednepiaa
