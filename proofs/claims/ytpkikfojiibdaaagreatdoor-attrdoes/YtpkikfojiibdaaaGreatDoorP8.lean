import Derived.Test.YtpkikfojiibdaaaGreatDoorP7
import Derived.Test.YtpkikfojiibdaaaGreatDoorL8
/- The program meets what the law AttrDoes asks of it. -/
namespace Go.Proofs.YtpkikfojiibdaaaGreatDoor
open Go.RowKit

theorem kitD : KitD Tab where
  on h hb := h.on hb
  may a po co ko cp cc ck r hr W _ hA h1 h2 h3 h4 := mayA_is a po co ko cp cc ck r hr W hA h1 h2 h3 h4
  text a po co ko cp cc ck t ht W hW hA h1 h2 h3 h4 := textA_is a po co ko cp cc ck t ht W hW hA h1 h2 h3 h4
  plain W _ := plain_is W
  change s ao dl pr ca cd cr r hr W _ hS h1 h2 h3 := change_is s ao dl pr ca cd cr r hr W hS h1 h2 h3
  do_ a po co ko cp cc ck s ao dl pr ca cd cr W _ hA hC h1 h2 h3 hS hCS k1 k2 k3 := doA_is a po co ko cp cc ck s ao dl pr ca cd cr W hA hC h1 h2 h3 hS hCS k1 k2 k3
end Go.Proofs.YtpkikfojiibdaaaGreatDoor
