/- The law AttrSums. -/
import Derived.Test.YtpkikfojiibdaaaDoorL1
namespace Go.Proofs.YtpkikfojiibdaaaDoor
open Go.RowKit

theorem sums_cases (a b : Int) : (Plus a b = (a + b, 0) ∧ 0 ≤ a ∧ 0 ≤ b ∧ a ≤ 1099511627776 ∧ b ≤ 1099511627776 - a) ∨ (Plus a b = (0, 7) ∧ (¬ 0 ≤ a ∨ (0 ≤ a ∧ ¬ 0 ≤ b) ∨ (0 ≤ a ∧ 0 ≤ b ∧ ¬ a ≤ 1099511627776) ∨ (0 ≤ a ∧ 0 ≤ b ∧ a ≤ 1099511627776 ∧ decide (b ≤ 1099511627776 - a) = false))) := by
  unfold Plus
  by_cases h : 0 ≤ a ∧ 0 ≤ b ∧ a + b ≤ 1099511627776
  · rw [if_pos h]
    exact .inl ⟨rfl, by omega, by omega, by omega, by omega⟩
  · rw [if_neg h]
    refine .inr ⟨rfl, ?_⟩
    rw [decide_eq_false_iff_not]
    omega
set_option maxRecDepth 100000 in
theorem law_sums {T : World → Prop} (K : Kit T) (a b : Int) (ha : -9223372036854775808 ≤ a ∧ a ≤ 9223372036854775807) (hb : -9223372036854775808 ≤ b ∧ b ≤ 9223372036854775807) (w : World) (hT : T w) :
    Calls Tryd.prog 5 #[.int .i64 a, .int .i64 b] w fun e w' => e = .returned (.bool true) ∧ Below w.heap.size w w' := by
  have CL := hide (fun W hW => lives_is K W hW)
  have HON := hide (fun w' => K.on (w := w) (w' := w') hT)
  rcases sums_cases a b with ⟨hp, h1, h2, h3, h4⟩ | ⟨hp, hc⟩
  · have CP := hide (K.plus a b _ _ ha hb hp w hT)
    clear hp K
    go_enter Tryd.func5, Tryd.ntmps5
    go_wp2_with fail
    refine CP.out.mono ?_
    rintro e w1 ⟨rfl, hb1⟩
    have B1 := hide hb1
    have CL1 := hide (CL.out w1 (HON.out w1 hb1))
    clear hb1 CL CP
    go_wp2_with fail
    refine CL1.out.mono ?_
    rintro e w2 ⟨rfl, hb2⟩
    have B2 := hide (bthen B1.out hb2)
    clear hb2
    go_wp2_with fail
    go_ret
    exact ⟨rfl, B2.out⟩
  · have CP := hide (K.plus a b _ _ ha hb hp w hT)
    clear hp K
    rcases hc with h1 | ⟨h1, h2⟩ | ⟨h1, h2, h3⟩ | ⟨h1, h2, h3, h4⟩
    all_goals
      go_enter Tryd.func5, Tryd.ntmps5
      go_wp2_with fail
      refine CP.out.mono ?_
      rintro e w1 ⟨rfl, hb1⟩
      have B1 := hide hb1
      have CL1 := hide (CL.out w1 (HON.out w1 hb1))
      clear hb1 CL CP
      go_wp2_with fail
      refine CL1.out.mono ?_
      rintro e w2 ⟨rfl, hb2⟩
      have B2 := hide (bthen B1.out hb2)
      clear hb2
      go_wp2_with fail
      go_ret
      exact ⟨rfl, B2.out⟩
end Go.Proofs.YtpkikfojiibdaaaDoor
