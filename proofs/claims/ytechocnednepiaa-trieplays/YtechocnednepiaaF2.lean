/- The contracts of the document's answer: May, Has, Contains, Before, Last. -/
import Derived.Test.YtechocnednepiaaF1
namespace Go.Proofs.Ytechocnednepiaa
open Go.RowKit

set_option maxHeartbeats 1000000 in
theorem refMay_in (a : Int) (B : Nat) (w : World) (h0 : 0 ≤ a) (h1 : a ≤ 4294967295) (hB : B ≤ 32) :
    Calls Try.prog 31 #[.agg #[.int .u32 a, .int .i64 (B : Int)]] w fun e w' => e = .returned (.bool (Ad.may a B)) ∧ Below w.heap.size w w' := by
  have hlo : ¬ (B : Int) < 0 := by omega
  have hhi : ¬ (32 : Int) < (B : Int) := by omega
  go_enter Try.func31, Try.ntmps31
  go_wp2_with fail
  go_loop [3] (fun t => ∃ k : Nat, B ≤ k ∧ k ≤ 32 ∧ t = .int .i64 k ∧ ∀ j, B ≤ j → j < k → Ad.bit a j = 0) (fun t => 32 - (intOf t).toNat)
  case atStart => exact ⟨B, Nat.le_refl _, hB, rfl, fun j h h' => by omega⟩
  case round =>
    obtain ⟨k, hk1, hk2, rfl, hall⟩ := hrel
    have HALL := hide hall
    clear hall
    by_cases hlt : k < 32
    · have hbb := Ad.bit_le a k
      by_cases hz : Ad.bit a k = 0
      · have hne : (Ad.bit a k != 0) = false := by simp [hz]
        have HZ := hide hz
        clear hz
        go_wp2_with (go_at_call 52; refine (bit_any a k _ h0 h1 (by omega)).mono ?_; rintro e w1 ⟨rfl, rfl⟩)
        go_round
        case rel =>
          refine ⟨k + 1, by omega, by omega, by go_num, fun j hj hj2 => ?_⟩
          rcases Nat.lt_succ_iff_lt_or_eq.1 hj2 with h | rfl
          · exact HALL.out j hj h
          · exact HZ.out
        case measure => simp [intOf]; omega
      · have hne : (Ad.bit a k != 0) = true := by simpa using hz
        have HZ := hide hz
        clear hz
        go_wp2_with (go_at_call 52; refine (bit_any a k _ h0 h1 (by omega)).mono ?_; rintro e w1 ⟨rfl, rfl⟩)
        go_ret
        refine ⟨ret_bool ?_, balloc (brefl _) _⟩
        have hm : Ad.may a B = false := by
          cases hm : Ad.may a B
          · rfl
          · exact absurd ((Ad.may_bits a B h0 hB).1 ((Ad.may_iff _ _).1 hm).2.2 k hk1 hlt) HZ.out
        rw [hm]
    · go_wp2_with fail
      go_ret
      refine ⟨ret_bool ?_, balloc (brefl _) _⟩
      have hm : Ad.may a B = true := (Ad.may_iff _ _).2 ⟨by omega, by omega, (Ad.may_bits a B h0 hB).2 fun i hi hi2 => HALL.out i hi (by omega)⟩
      rw [hm]

set_option maxHeartbeats 1000000 in
theorem refMay_any (a b : Int) (w : World) (h0 : 0 ≤ a) (h1 : a ≤ 4294967295) :
    Calls Try.prog 31 #[.agg #[.int .u32 a, .int .i64 b]] w fun e w' => e = .returned (.bool (Ad.may a b)) ∧ Below w.heap.size w w' := by
  by_cases hb : 0 ≤ b
  · by_cases hb2 : b ≤ 32
    · obtain ⟨B, rfl⟩ := Int.eq_ofNat_of_zero_le hb
      exact refMay_in a B w h0 h1 (by omega)
    · have hlo : ¬ b < 0 := by omega
      have hhi : 32 < b := by omega
      have hm : Ad.may a b = false := by
        cases hm : Ad.may a b
        · rfl
        · have := (Ad.may_iff _ _).1 hm; omega
      rw [hm]
      go_enter Try.func31, Try.ntmps31
      go_wp2_with fail
      go_ret
      exact ⟨rfl, balloc (brefl _) _⟩
  · have hlo : b < 0 := by omega
    have hm : Ad.may a b = false := by
      cases hm : Ad.may a b
      · rfl
      · have := (Ad.may_iff _ _).1 hm; omega
    rw [hm]
    go_enter Try.func31, Try.ntmps31
    go_wp2_with fail
    go_ret
    exact ⟨rfl, balloc (brefl _) _⟩

theorem refMay_is (a b : Int) (r : Bool) (h : Ad.may a b = r) (w : World) (ha : 0 ≤ a) (ha2 : a ≤ 4294967295) :
    Calls Try.prog 31 #[.agg #[.int .u32 a, .int .i64 b]] w fun e w' => e = .returned (.bool r) ∧ Below w.heap.size w w' := by
  rw [← h]; exact refMay_any a b w ha ha2

set_option maxHeartbeats 1000000 in
/-- Has, of a prefix that may be. -/
theorem refHas_any (a b x : Int) (w : World) (h0 : 0 ≤ a) (h1 : a ≤ 4294967295) (g0 : 0 ≤ x) (g1 : x ≤ 4294967295) (hm : Ad.may a b = true) :
    Calls Try.prog 26 #[.agg #[.int .u32 a, .int .i64 b], .int .u32 x] w fun e w' => e = .returned (.bool (Ad.has a b x)) ∧ Below w.heap.size w w' := by
  obtain ⟨hb, hb2, hca⟩ := (Ad.may_iff _ _).1 hm
  obtain ⟨B, rfl⟩ := Int.eq_ofNat_of_zero_le hb
  have hB : B ≤ 32 := by omega
  have HH : Hid (Ad.has a B x = true ↔ ∀ i, i < B → Ad.bit a i = Ad.bit x i) := by
    show _ ↔ _
    rw [← Ad.has_bits a x B h0 h1 g0 g1 hB]
    unfold Ad.has
    rw [hm, hca]
    simp
    exact eq_comm
  clear hca hm
  go_enter Try.func26, Try.ntmps26
  go_wp2_with fail
  go_loop [5] (fun t => ∃ k : Nat, k ≤ B ∧ t = .int .i64 k ∧ ∀ j, j < k → Ad.bit a j = Ad.bit x j) (fun t => B - (intOf t).toNat)
  case atStart => exact ⟨0, Nat.zero_le _, rfl, fun j h => absurd h (Nat.not_lt_zero _)⟩
  case round =>
    obtain ⟨k, hk, rfl, hall⟩ := hrel
    have HALL := hide hall
    clear hall
    by_cases hlt : k < B
    · by_cases hz : Ad.bit a k = Ad.bit x k
      · have hne : (Ad.bit a k != Ad.bit x k) = false := by simp [hz]
        have HZ := hide hz
        clear hz
        go_wp2_with fail
        refine (bit_any a k _ h0 h1 (by omega)).mono ?_
        rintro e w1 ⟨rfl, rfl⟩
        go_wp2_with fail
        refine (bit_any x k _ g0 g1 (by omega)).mono ?_
        rintro e w1 ⟨rfl, rfl⟩
        go_wp2_with fail
        go_round
        case rel =>
          refine ⟨k + 1, by omega, by go_num, fun j hj2 => ?_⟩
          rcases Nat.lt_succ_iff_lt_or_eq.1 hj2 with h | rfl
          · exact HALL.out j h
          · exact HZ.out
        case measure => simp [intOf]; omega
      · have hne : (Ad.bit a k != Ad.bit x k) = true := by simpa using hz
        have HZ := hide hz
        clear hz
        go_wp2_with fail
        refine (bit_any a k _ h0 h1 (by omega)).mono ?_
        rintro e w1 ⟨rfl, rfl⟩
        go_wp2_with fail
        refine (bit_any x k _ g0 g1 (by omega)).mono ?_
        rintro e w1 ⟨rfl, rfl⟩
        go_wp2_with fail
        go_ret
        refine ⟨ret_bool ?_, balloc (brefl _) _⟩
        cases hh : Ad.has a B x
        · rfl
        · exact absurd (HH.out.1 hh k hlt) HZ.out
    · go_wp2_with fail
      go_ret
      refine ⟨ret_bool ?_, balloc (brefl _) _⟩
      symm
      exact HH.out.2 fun i hi => HALL.out i (by omega)
end Go.Proofs.Ytechocnednepiaa
