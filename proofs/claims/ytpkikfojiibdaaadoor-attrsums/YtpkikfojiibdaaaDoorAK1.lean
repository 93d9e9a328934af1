/- The program's mayAS, First, Origin and put. -/
import Derived.Test.YtpkikfojiibdaaaDoorH2
import Derived.Test.YtpkikfojiibdaaaDoorH3
import Derived.Test.YtpkikfojiibdaaaDoorH8
import Derived.ArgAppend
namespace Go.Proofs.YtpkikfojiibdaaaDoor
open Go.RowKit Go.Sort

theorem mayAS_is (n : Int) (r : Bool) (h : Is.as n = r) (w : World) : Calls Tryd.prog 48 #[.int .i64 n] w fun e w' => e = .returned (.bool r) ∧ w' = w := by
  cases r
  · rcases (Is.as_not n).1 h with h | h
    · have h0 : ¬ 1 ≤ n := by omega
      clear h
      go_enter Tryd.func48, Tryd.ntmps48
      go_wp2_with fail
      go_ret
      exact ⟨rfl, rfl⟩
    · have h0 : 1 ≤ n := by omega
      have h1 : ¬ n ≤ 65535 := by omega
      clear h
      go_enter Tryd.func48, Tryd.ntmps48
      go_wp2_with fail
      go_ret
      exact ⟨rfl, rfl⟩
  · obtain ⟨h0, h1⟩ := (Is.as_iff n).1 h
    have h0 : 1 ≤ n := by omega
    have h1 : n ≤ 65535 := by omega
    clear h
    go_enter Tryd.func48, Tryd.ntmps48
    go_wp2_with fail
    go_ret
    exact ⟨rfl, rfl⟩

end Go.Proofs.YtpkikfojiibdaaaDoor
