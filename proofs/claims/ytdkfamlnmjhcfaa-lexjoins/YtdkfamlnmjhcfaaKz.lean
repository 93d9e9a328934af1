/- The program meets what the laws ask. -/
import Derived.Test.YtdkfamlnmjhcfaaS1
import Derived.Test.YtdkfamlnmjhcfaaJ1
namespace Go.Proofs.Ytdkfamlnmjhcfaa
open Go.RowKit Go.Sort

theorem kit11 : Kit11 := ⟨scan_is, join_is, place_is, end_is⟩
end Go.Proofs.Ytdkfamlnmjhcfaa
