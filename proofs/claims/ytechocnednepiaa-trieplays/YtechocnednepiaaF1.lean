import Derived.Test.YtechocnednepiaaA4
import Derived.Test.YtechocnednepiaaW1
import Derived.Test.YtechocnednepiaaM3
/- The contracts of the document's answer: Bit, May, Has, Contains, Before, Last. -/
namespace Go.Proofs.Ytechocnednepiaa
open Go.RowKit

set_option maxHeartbeats 400000 in
theorem bit_any (a : Int) (i : Nat) (w : World) (h0 : 0 ≤ a) (h1 : a ≤ 4294967295) (hi : i ≤ 31) :
    Calls Try.prog 52 #[.int .u32 a, .int .i64 i] w fun e w' => e = .returned (.int .u32 (Ad.bit a i)) ∧ w' = w := by
  go_enter Try.func52, Try.ntmps52
  go_wp2_with fail
  go_loop [0, 1] (fun s t => ∃ k : Nat, i ≤ k ∧ k ≤ 31 ∧ t = .int .i64 k ∧ s = .int .u32 (a / 2 ^ (k - i))) (fun _ t => 31 - (intOf t).toNat)
  case atStart => exact ⟨i, Nat.le_refl _, hi, rfl, by simp⟩
  case round =>
    obtain ⟨k, hk1, hk2, rfl, rfl⟩ := hrel
    have hb0 : 0 ≤ a / 2 ^ (k - i) := Int.ediv_nonneg h0 (Int.le_of_lt (Int.pow_pos (by decide)))
    have hb1 : a / 2 ^ (k - i) ≤ 4294967295 := Int.le_trans (Int.ediv_le_self _ h0) h1
    by_cases hlt : k < 31
    · have HE : Hid (a / 2 ^ (k - i) / 2 = a / 2 ^ (k + 1 - i)) := by
        show a / 2 ^ (k - i) / 2 = a / 2 ^ (k + 1 - i)
        rw [show k + 1 - i = (k - i) + 1 by omega, Int.pow_succ, Int.ediv_ediv_of_nonneg (Int.le_of_lt (Int.pow_pos (by decide)))]
      generalize a / 2 ^ (k - i) = z at *
      go_wp2_with fail
      go_round
      case rel => exact ⟨k + 1, by omega, by omega, by go_num, by rw [← HE.out]⟩
      case measure => simp [intOf]; omega
    · have hk31 : k = 31 := by omega
      subst hk31
      have HE : Hid (Ad.bit a i = a / 2 ^ (31 - i) % 2) := rfl
      generalize a / 2 ^ (31 - i) = z at *
      go_wp2_with fail
      go_ret
      exact ⟨ret_int HE.out.symm, rfl⟩
end Go.Proofs.Ytechocnednepiaa

/- The contracts of the document's answer: May, Has, Contains, Before, Last. -/
namespace Go.Proofs.Ytechocnednepiaa
open Go.RowKit

set_option maxHeartbeats 1000000 in
theorem refMay_in (a : Int) (B : Nat) (w : World) (h0 : 0 ≤ a) (h1 : a ≤ 4294967295) (hB : B ≤ 32) :
    Calls Try.prog 31 #[.agg #[.int .u32 a, .int .i64 (B : Int)]] w fun e w' => e = .returned (.bool (Ad.may a B)) ∧ Below w.heap.size w w' := by
  have hlo : ¬ (B : Int) < 0 := by omega
  have hhi : ¬ (32 : Int) < (B : Int) := by omega
  go_enter Try.func31, Try.ntmps31
  go_wp2_with fail
  go_loop [3] (fun t => ∃ k : Nat, B ≤ k ∧ k ≤ 32 ∧ t = .int .i64 k ∧ ∀ j, B ≤ j → j < k → Ad.bit a j = 0) (fun t => 32 - (intOf t).toNat)
  case atStart => exact ⟨B, Nat.le_refl _, hB, rfl, fun j h h' => by omega⟩
  case round =>
    obtain ⟨k, hk1, hk2, rfl, hall⟩ := hrel
    have HALL := hide hall
    clear hall
    by_cases hlt : k < 32
    · have hbb := Ad.bit_le a k
      by_cases hz : Ad.bit a k = 0
      · have hne : (Ad.bit a k != 0) = false := by simp [hz]
        have HZ := hide hz
        clear hz
        go_wp2_with (go_at_call 52; refine (bit_any a k _ h0 h1 (by omega)).mono ?_; rintro e w1 ⟨rfl, rfl⟩)
        go_round
        case rel =>
          refine ⟨k + 1, by omega, by omega, by go_num, fun j hj hj2 => ?_⟩
          rcases Nat.lt_succ_iff_lt_or_eq.1 hj2 with h | rfl
          · exact HALL.out j hj h
          · exact HZ.out
        case measure => simp [intOf]; omega
      · have hne : (Ad.bit a k != 0) = true := by simpa using hz
        have HZ := hide hz
        clear hz
        go_wp2_with (go_at_call 52; refine (bit_any a k _ h0 h1 (by omega)).mono ?_; rintro e w1 ⟨rfl, rfl⟩)
        go_ret
        refine ⟨ret_bool ?_, balloc (brefl _) _⟩
        have hm : Ad.may a B = false := by
          cases hm : Ad.may a B
          · rfl
          · exact absurd ((Ad.may_bits a B h0 hB).1 ((Ad.may_iff _ _).1 hm).2.2 k hk1 hlt) HZ.out
        rw [hm]
    · go_wp2_with fail
      go_ret
      refine ⟨ret_bool ?_, balloc (brefl _) _⟩
      have hm : Ad.may a B = true := (Ad.may_iff _ _).2 ⟨by omega, by omega, (Ad.may_bits a B h0 hB).2 fun i hi hi2 => HALL.out i hi (by omega)⟩
      rw [hm]

set_option maxHeartbeats 1000000 in
theorem refMay_any (a b : Int) (w : World) (h0 : 0 ≤ a) (h1 : a ≤ 4294967295) :
    Calls Try.prog 31 #[.agg #[.int .u32 a, .int .i64 b]] w fun e w' => e = .returned (.bool (Ad.may a b)) ∧ Below w.heap.size w w' := by
  by_cases hb : 0 ≤ b
  · by_cases hb2 : b ≤ 32
    · obtain ⟨B, rfl⟩ := Int.eq_ofNat_of_zero_le hb
      exact refMay_in a B w h0 h1 (by omega)
    · have hlo : ¬ b < 0 := by omega
      have hhi : 32 < b := by omega
      have hm : Ad.may a b = false := by
        cases hm : Ad.may a b
        · rfl
        · have := (Ad.may_iff _ _).1 hm; omega
      rw [hm]
      go_enter Try.func31, Try.ntmps31
      go_wp2_with fail
      go_ret
      exact ⟨rfl, balloc (brefl _) _⟩
  · have hlo : b < 0 := by omega
    have hm : Ad.may a b = false := by
      cases hm : Ad.may a b
      · rfl
      · have := (Ad.may_iff _ _).1 hm; omega
    rw [hm]
    go_enter Try.func31, Try.ntmps31
    go_wp2_with fail
    go_ret
    exact ⟨rfl, balloc (brefl _) _⟩

theorem refMay_is (a b : Int) (r : Bool) (h : Ad.may a b = r) (w : World) (ha : 0 ≤ a) (ha2 : a ≤ 4294967295) :
    Calls Try.prog 31 #[.agg #[.int .u32 a, .int .i64 b]] w fun e w' => e = .returned (.bool r) ∧ Below w.heap.size w w' := by
  rw [← h]; exact refMay_any a b w ha ha2

set_option maxHeartbeats 1000000 in
/-- Has, of a prefix that may be. -/
theorem refHas_any (a b x : Int) (w : World) (h0 : 0 ≤ a) (h1 : a ≤ 4294967295) (g0 : 0 ≤ x) (g1 : x ≤ 4294967295) (hm : Ad.may a b = true) :
    Calls Try.prog 26 #[.agg #[.int .u32 a, .int .i64 b], .int .u32 x] w fun e w' => e = .returned (.bool (Ad.has a b x)) ∧ Below w.heap.size w w' := by
  obtain ⟨hb, hb2, hca⟩ := (Ad.may_iff _ _).1 hm
  obtain ⟨B, rfl⟩ := Int.eq_ofNat_of_zero_le hb
  have hB : B ≤ 32 := by omega
  have HH : Hid (Ad.has a B x = true ↔ ∀ i, i < B → Ad.bit a i = Ad.bit x i) := by
    show _ ↔ _
    rw [← Ad.has_bits a x B h0 h1 g0 g1 hB]
    unfold Ad.has
    rw [hm, hca]
    simp
    exact eq_comm
  clear hca hm
  go_enter Try.func26, Try.ntmps26
  go_wp2_with fail
  go_loop [5] (fun t => ∃ k : Nat, k ≤ B ∧ t = .int .i64 k ∧ ∀ j, j < k → Ad.bit a j = Ad.bit x j) (fun t => B - (intOf t).toNat)
  case atStart => exact ⟨0, Nat.zero_le _, rfl, fun j h => absurd h (Nat.not_lt_zero _)⟩
  case round =>
    obtain ⟨k, hk, rfl, hall⟩ := hrel
    have HALL := hide hall
    clear hall
    by_cases hlt : k < B
    · by_cases hz : Ad.bit a k = Ad.bit x k
      · have hne : (Ad.bit a k != Ad.bit x k) = false := by simp [hz]
        have HZ := hide hz
        clear hz
        go_wp2_with fail
        refine (bit_any a k _ h0 h1 (by omega)).mono ?_
        rintro e w1 ⟨rfl, rfl⟩
        go_wp2_with fail
        refine (bit_any x k _ g0 g1 (by omega)).mono ?_
        rintro e w1 ⟨rfl, rfl⟩
        go_wp2_with fail
        go_round
        case rel =>
          refine ⟨k + 1, by omega, by go_num, fun j hj2 => ?_⟩
          rcases Nat.lt_succ_iff_lt_or_eq.1 hj2 with h | rfl
          · exact HALL.out j h
          · exact HZ.out
        case measure => simp [intOf]; omega
      · have hne : (Ad.bit a k != Ad.bit x k) = true := by simpa using hz
        have HZ := hide hz
        clear hz
        go_wp2_with fail
        refine (bit_any a k _ h0 h1 (by omega)).mono ?_
        rintro e w1 ⟨rfl, rfl⟩
        go_wp2_with fail
        refine (bit_any x k _ g0 g1 (by omega)).mono ?_
        rintro e w1 ⟨rfl, rfl⟩
        go_wp2_with fail
        go_ret
        refine ⟨ret_bool ?_, balloc (brefl _) _⟩
        cases hh : Ad.has a B x
        · rfl
        · exact absurd (HH.out.1 hh k hlt) HZ.out
    · go_wp2_with fail
      go_ret
      refine ⟨ret_bool ?_, balloc (brefl _) _⟩
      symm
      exact HH.out.2 fun i hi => HALL.out i (by omega)
end Go.Proofs.Ytechocnednepiaa

/- The contracts of the document's answer: Contains, Before, Last. -/
namespace Go.Proofs.Ytechocnednepiaa
open Go.RowKit

theorem refHas_is (a b x : Int) (r : Bool) (h : Ad.has a b x = r) (w : World) (ha : 0 ≤ a) (ha2 : a ≤ 4294967295) (hx : 0 ≤ x) (hx2 : x ≤ 4294967295) (hm : Ad.may a b = true) :
    Calls Try.prog 26 #[.agg #[.int .u32 a, .int .i64 b], .int .u32 x] w fun e w' => e = .returned (.bool r) ∧ Below w.heap.size w w' := by
  rw [← h]; exact refHas_any a b x w ha ha2 hx hx2 hm

theorem Ad.has_may (a b x : Int) (h : Ad.may a b = false) : Ad.has a b x = false := by unfold Ad.has; rw [h]; rfl
theorem Ad.contains_may (a b c d : Int) (h : Ad.may a b = false) : Ad.contains a b c d = false := by unfold Ad.contains; rw [Ad.has_may a b c h]; simp
theorem Ad.contains_may2 (a b c d : Int) (h : Ad.may c d = false) : Ad.contains a b c d = false := by unfold Ad.contains; rw [h]; simp

set_option maxHeartbeats 1000000 in
theorem refContains_any (a b c d : Int) (w : World) (ha : 0 ≤ a) (ha2 : a ≤ 4294967295) (hc : 0 ≤ c) (hc2 : c ≤ 4294967295) :
    Calls Try.prog 61 #[.agg #[.int .u32 a, .int .i64 b], .agg #[.int .u32 c, .int .i64 d]] w fun e w' => e = .returned (.bool (Ad.contains a b c d)) ∧ Below w.heap.size w w' := by
  cases hm : Ad.may a b
  · rw [Ad.contains_may _ _ _ _ hm]
    go_enter Try.func61, Try.ntmps61
    go_wp2_with fail
    refine (refMay_is _ _ _ hm _ ha ha2).mono ?_
    rintro e w1 ⟨rfl, hb1⟩
    go_wp2_with fail
    go_ret
    exact ⟨rfl, bthen (balloc (balloc (brefl w) _) _) hb1⟩
  · cases hm2 : Ad.may c d
    · rw [Ad.contains_may2 _ _ _ _ hm2]
      go_enter Try.func61, Try.ntmps61
      go_wp2_with fail
      refine (refMay_is _ _ _ hm _ ha ha2).mono ?_
      rintro e w1 ⟨rfl, hb1⟩
      obtain ⟨hc1, hf1⟩ := bcell hb1
      go_wp2_with fail
      refine (refMay_is _ _ _ hm2 _ hc hc2).mono ?_
      rintro e w2 ⟨rfl, hb2⟩
      go_wp2_with fail
      go_ret
      exact ⟨rfl, bthen (bthen (balloc (balloc (brefl w) _) _) hb1) hb2⟩
    · by_cases hbd : b ≤ d
      · have HC : Hid (Ad.contains a b c d = Ad.has a b c) := by
          show _ = _
          unfold Ad.contains; rw [hm2]; simp [hbd]
        go_enter Try.func61, Try.ntmps61
        go_wp2_with fail
        refine (refMay_is _ _ _ hm _ ha ha2).mono ?_
        rintro e w1 ⟨rfl, hb1⟩
        obtain ⟨hc1, hf1⟩ := bcell hb1
        go_wp2_with fail
        refine (refMay_is _ _ _ hm2 _ hc hc2).mono ?_
        rintro e w2 ⟨rfl, hb2⟩
        obtain ⟨hc2', hf2⟩ := bcell hb2
        have hz : w.heap.size + 1 < w1.heap.size := by have := hb1.size; simp at this; omega
        have hz0 : w.heap.size < w1.heap.size := by omega
        go_wp2_with fail
        refine (refHas_any _ _ _ _ ha ha2 hc hc2 hm).mono ?_
        rintro e w3 ⟨rfl, hb3⟩
        rw [← HC.out]
        go_wp2_with fail
        go_ret
        exact ⟨rfl, bthen (bthen (bthen (balloc (balloc (brefl w) _) _) hb1) hb2) hb3⟩
      · have hd : decide (b ≤ d) = false := by simpa using hbd
        have hcf : Ad.contains a b c d = false := by unfold Ad.contains; rw [hd]; simp
        rw [hcf]
        clear hcf
        go_enter Try.func61, Try.ntmps61
        go_wp2_with fail
        refine (refMay_is _ _ _ hm _ ha ha2).mono ?_
        rintro e w1 ⟨rfl, hb1⟩
        obtain ⟨hc1, hf1⟩ := bcell hb1
        go_wp2_with fail
        refine (refMay_is _ _ _ hm2 _ hc hc2).mono ?_
        rintro e w2 ⟨rfl, hb2⟩
        obtain ⟨hc2', hf2⟩ := bcell hb2
        have hz : w.heap.size + 1 < w1.heap.size := by have := hb1.size; simp at this; omega
        have hz0 : w.heap.size < w1.heap.size := by omega
        go_wp2_with fail
        go_ret
        exact ⟨rfl, bthen (bthen (balloc (balloc (brefl w) _) _) hb1) hb2⟩

theorem refContains_is (a b c d : Int) (r : Bool) (h : Ad.contains a b c d = r) (w : World) (ha : 0 ≤ a) (ha2 : a ≤ 4294967295) (hc : 0 ≤ c) (hc2 : c ≤ 4294967295) :
    Calls Try.prog 61 #[.agg #[.int .u32 a, .int .i64 b], .agg #[.int .u32 c, .int .i64 d]] w fun e w' => e = .returned (.bool r) ∧ Below w.heap.size w w' := by
  rw [← h]; exact refContains_any a b c d w ha ha2 hc hc2

set_option maxHeartbeats 400000 in
theorem refBefore_any (a b c d : Int) (w : World) :
    Calls Try.prog 60 #[.agg #[.int .u32 a, .int .i64 b], .agg #[.int .u32 c, .int .i64 d]] w fun e w' => e = .returned (.bool (if a = c then decide (b < d) else decide (a < c))) ∧ Below w.heap.size w w' := by
  by_cases hac : a = c
  · subst hac
    have he : (a != a) = false := by simp
    go_enter Try.func60, Try.ntmps60
    go_wp2_with fail
    go_ret
    exact ⟨ret_bool (by simp), balloc (balloc (brefl w) _) _⟩
  · have he : (a != c) = true := by simpa using hac
    go_enter Try.func60, Try.ntmps60
    go_wp2_with fail
    go_ret
    exact ⟨ret_bool (by simp), balloc (balloc (brefl w) _) _⟩

end Go.Proofs.Ytechocnednepiaa

