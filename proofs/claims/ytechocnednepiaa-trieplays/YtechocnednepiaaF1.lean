/- The contracts of the document's answer: Bit, May, Has, Contains, Before, Last. -/
import Derived.Test.YtechocnednepiaaA4
import Derived.Test.YtechocnednepiaaW1
import Derived.Test.YtechocnednepiaaM5
namespace Go.Proofs.Ytechocnednepiaa
open Go.RowKit

set_option maxHeartbeats 400000 in
theorem bit_any (a : Int) (i : Nat) (w : World) (h0 : 0 ≤ a) (h1 : a ≤ 4294967295) (hi : i ≤ 31) :
    Calls Try.prog 52 #[.int .u32 a, .int .i64 i] w fun e w' => e = .returned (.int .u32 (Ad.bit a i)) ∧ w' = w := by
  go_enter Try.func52, Try.ntmps52
  go_wp2_with fail
  go_loop [0, 1] (fun s t => ∃ k : Nat, i ≤ k ∧ k ≤ 31 ∧ t = .int .i64 k ∧ s = .int .u32 (a / 2 ^ (k - i))) (fun _ t => 31 - (intOf t).toNat)
  case atStart => exact ⟨i, Nat.le_refl _, hi, rfl, by simp⟩
  case round =>
    obtain ⟨k, hk1, hk2, rfl, rfl⟩ := hrel
    have hb0 : 0 ≤ a / 2 ^ (k - i) := Int.ediv_nonneg h0 (Int.le_of_lt (Int.pow_pos (by decide)))
    have hb1 : a / 2 ^ (k - i) ≤ 4294967295 := Int.le_trans (Int.ediv_le_self _ h0) h1
    by_cases hlt : k < 31
    · have HE : Hid (a / 2 ^ (k - i) / 2 = a / 2 ^ (k + 1 - i)) := by
        show a / 2 ^ (k - i) / 2 = a / 2 ^ (k + 1 - i)
        rw [show k + 1 - i = (k - i) + 1 by omega, Int.pow_succ, Int.ediv_ediv_of_nonneg (Int.le_of_lt (Int.pow_pos (by decide)))]
      generalize a / 2 ^ (k - i) = z at *
      go_wp2_with fail
      go_round
      case rel => exact ⟨k + 1, by omega, by omega, by go_num, by rw [← HE.out]⟩
      case measure => simp [intOf]; omega
    · have hk31 : k = 31 := by omega
      subst hk31
      have HE : Hid (Ad.bit a i = a / 2 ^ (31 - i) % 2) := rfl
      generalize a / 2 ^ (31 - i) = z at *
      go_wp2_with fail
      go_ret
      exact ⟨ret_int HE.out.symm, rfl⟩
end Go.Proofs.Ytechocnednepiaa
