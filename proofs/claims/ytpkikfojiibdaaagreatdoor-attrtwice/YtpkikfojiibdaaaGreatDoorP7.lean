import Derived.Test.YtpkikfojiibdaaaGreatDoorP4
import Derived.Test.YtpkikfojiibdaaaGreatDoorP6
import Derived.Test.YtpkikfojiibdaaaGreatDoorG1
import Derived.Test.YtpkikfojiibdaaaGreatDoorR5
/- The program meets what the laws ask of it. -/
namespace Go.Proofs.YtpkikfojiibdaaaGreatDoor
open Go.RowKit

theorem kit : Kit Tab where
  on h hb := h.on hb
  may a po co ko cp cc ck r hr W _ hA h1 h2 h3 h4 := mayA_is a po co ko cp cc ck r hr W hA h1 h2 h3 h4
  text a po co ko cp cc ck t ht W hW hA h1 h2 h3 h4 := textA_is a po co ko cp cc ck t ht W hW hA h1 h2 h3 h4
  compare a b po co ko cp cc ck po' co' ko' cp' cc' ck' r hr W _ hA hB h1 h2 h3 h1' h2' h3' := cmpA_is a b po co ko po' co' ko' cp cc ck cp' cc' ck' r hr W hA hB h1 h2 h3 h1' h2' h3'
  same a b po co ko cp cc ck po' co' ko' cp' cc' ck' r hr W _ hA hB h1 h2 h3 h1' h2' h3' := sameA_is a b po co ko po' co' ko' cp cc ck cp' cc' ck' r hr W hA hB h1 h2 h3 h1' h2' h3'
  plain W _ := plain_is W
  nothing W _ := nothing_is W
  copy a po co ko cp cc ck W _ hA hC h1 h2 h3 := copyA_is a po co ko cp cc ck W hA hC h1 h2 h3
  do_ a po co ko cp cc ck s ao dl pr ca cd cr W _ hA hC h1 h2 h3 hS hCS k1 k2 k3 := doA_is a po co ko cp cc ck s ao dl pr ca cd cr W hA hC h1 h2 h3 hS hCS k1 k2 k3
end Go.Proofs.YtpkikfojiibdaaaGreatDoor
