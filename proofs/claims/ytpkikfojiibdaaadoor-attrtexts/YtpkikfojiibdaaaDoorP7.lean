/- The program meets what the laws ask of it. -/
import Derived.Test.YtpkikfojiibdaaaDoorP4
import Derived.Test.YtpkikfojiibdaaaDoorP6
import Derived.Test.YtpkikfojiibdaaaDoorQ1
import Derived.Test.YtpkikfojiibdaaaDoorL4
namespace Go.Proofs.YtpkikfojiibdaaaDoor
open Go.RowKit

theorem kit : Kit Tab where
  on h hb := h.on hb
  may a po co ko cp cc ck r hr W _ hA h1 h2 h3 h4 := mayA_is a po co ko cp cc ck r hr W hA h1 h2 h3 h4
  text a po co ko cp cc ck t ht W hW hA h1 h2 h3 h4 := textA_is a po co ko cp cc ck t ht W hW hA h1 h2 h3 h4
  compare a b po co ko cp cc ck po' co' ko' cp' cc' ck' r hr W _ hA hB h1 h2 h3 h1' h2' h3' := cmpA_is a b po co ko po' co' ko' cp cc ck cp' cc' ck' r hr W hA hB h1 h2 h3 h1' h2' h3'
  same a b po co ko cp cc ck po' co' ko' cp' cc' ck' r hr W _ hA hB h1 h2 h3 h1' h2' h3' := sameA_is a b po co ko po' co' ko' cp cc ck cp' cc' ck' r hr W hA hB h1 h2 h3 h1' h2' h3'
  plain W _ := plain_is W
  plus a b x q ha hb h W _ := plus_is a b x q ha hb h W
end Go.Proofs.YtpkikfojiibdaaaDoor
