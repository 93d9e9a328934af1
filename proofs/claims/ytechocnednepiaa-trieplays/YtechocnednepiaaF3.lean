/- The contracts of the document's answer: Contains, Before, Last. -/
import Derived.Test.YtechocnednepiaaF2
namespace Go.Proofs.Ytechocnednepiaa
open Go.RowKit

theorem refHas_is (a b x : Int) (r : Bool) (h : Ad.has a b x = r) (w : World) (ha : 0 ≤ a) (ha2 : a ≤ 4294967295) (hx : 0 ≤ x) (hx2 : x ≤ 4294967295) (hm : Ad.may a b = true) :
    Calls Try.prog 26 #[.agg #[.int .u32 a, .int .i64 b], .int .u32 x] w fun e w' => e = .returned (.bool r) ∧ Below w.heap.size w w' := by
  rw [← h]; exact refHas_any a b x w ha ha2 hx hx2 hm

theorem Ad.has_may (a b x : Int) (h : Ad.may a b = false) : Ad.has a b x = false := by unfold Ad.has; rw [h]; rfl
theorem Ad.contains_may (a b c d : Int) (h : Ad.may a b = false) : Ad.contains a b c d = false := by unfold Ad.contains; rw [Ad.has_may a b c h]; simp
theorem Ad.contains_may2 (a b c d : Int) (h : Ad.may c d = false) : Ad.contains a b c d = false := by unfold Ad.contains; rw [h]; simp

set_option maxHeartbeats 1000000 in
theorem refContains_any (a b c d : Int) (w : World) (ha : 0 ≤ a) (ha2 : a ≤ 4294967295) (hc : 0 ≤ c) (hc2 : c ≤ 4294967295) :
    Calls Try.prog 61 #[.agg #[.int .u32 a, .int .i64 b], .agg #[.int .u32 c, .int .i64 d]] w fun e w' => e = .returned (.bool (Ad.contains a b c d)) ∧ Below w.heap.size w w' := by
  cases hm : Ad.may a b
  · rw [Ad.contains_may _ _ _ _ hm]
    go_enter Try.func61, Try.ntmps61
    go_wp2_with fail
    refine (refMay_is _ _ _ hm _ ha ha2).mono ?_
    rintro e w1 ⟨rfl, hb1⟩
    go_wp2_with fail
    go_ret
    exact ⟨rfl, bthen (balloc (balloc (brefl w) _) _) hb1⟩
  · cases hm2 : Ad.may c d
    · rw [Ad.contains_may2 _ _ _ _ hm2]
      go_enter Try.func61, Try.ntmps61
      go_wp2_with fail
      refine (refMay_is _ _ _ hm _ ha ha2).mono ?_
      rintro e w1 ⟨rfl, hb1⟩
      obtain ⟨hc1, hf1⟩ := bcell hb1
      go_wp2_with fail
      refine (refMay_is _ _ _ hm2 _ hc hc2).mono ?_
      rintro e w2 ⟨rfl, hb2⟩
      go_wp2_with fail
      go_ret
      exact ⟨rfl, bthen (bthen (balloc (balloc (brefl w) _) _) hb1) hb2⟩
    · by_cases hbd : b ≤ d
      · have HC : Hid (Ad.contains a b c d = Ad.has a b c) := by
          show _ = _
          unfold Ad.contains; rw [hm2]; simp [hbd]
        go_enter Try.func61, Try.ntmps61
        go_wp2_with fail
        refine (refMay_is _ _ _ hm _ ha ha2).mono ?_
        rintro e w1 ⟨rfl, hb1⟩
        obtain ⟨hc1, hf1⟩ := bcell hb1
        go_wp2_with fail
        refine (refMay_is _ _ _ hm2 _ hc hc2).mono ?_
        rintro e w2 ⟨rfl, hb2⟩
        obtain ⟨hc2', hf2⟩ := bcell hb2
        have hz : w.heap.size + 1 < w1.heap.size := by have := hb1.size; simp at this; omega
        have hz0 : w.heap.size < w1.heap.size := by omega
        go_wp2_with fail
        refine (refHas_any _ _ _ _ ha ha2 hc hc2 hm).mono ?_
        rintro e w3 ⟨rfl, hb3⟩
        rw [← HC.out]
        go_wp2_with fail
        go_ret
        exact ⟨rfl, bthen (bthen (bthen (balloc (balloc (brefl w) _) _) hb1) hb2) hb3⟩
      · have hd : decide (b ≤ d) = false := by simpa using hbd
        have hcf : Ad.contains a b c d = false := by unfold Ad.contains; rw [hd]; simp
        rw [hcf]
        clear hcf
        go_enter Try.func61, Try.ntmps61
        go_wp2_with fail
        refine (refMay_is _ _ _ hm _ ha ha2).mono ?_
        rintro e w1 ⟨rfl, hb1⟩
        obtain ⟨hc1, hf1⟩ := bcell hb1
        go_wp2_with fail
        refine (refMay_is _ _ _ hm2 _ hc hc2).mono ?_
        rintro e w2 ⟨rfl, hb2⟩
        obtain ⟨hc2', hf2⟩ := bcell hb2
        have hz : w.heap.size + 1 < w1.heap.size := by have := hb1.size; simp at this; omega
        have hz0 : w.heap.size < w1.heap.size := by omega
        go_wp2_with fail
        go_ret
        exact ⟨rfl, bthen (bthen (balloc (balloc (brefl w) _) _) hb1) hb2⟩

theorem refContains_is (a b c d : Int) (r : Bool) (h : Ad.contains a b c d = r) (w : World) (ha : 0 ≤ a) (ha2 : a ≤ 4294967295) (hc : 0 ≤ c) (hc2 : c ≤ 4294967295) :
    Calls Try.prog 61 #[.agg #[.int .u32 a, .int .i64 b], .agg #[.int .u32 c, .int .i64 d]] w fun e w' => e = .returned (.bool r) ∧ Below w.heap.size w w' := by
  rw [← h]; exact refContains_any a b c d w ha ha2 hc hc2

set_option maxHeartbeats 400000 in
theorem refBefore_any (a b c d : Int) (w : World) :
    Calls Try.prog 60 #[.agg #[.int .u32 a, .int .i64 b], .agg #[.int .u32 c, .int .i64 d]] w fun e w' => e = .returned (.bool (if a = c then decide (b < d) else decide (a < c))) ∧ Below w.heap.size w w' := by
  by_cases hac : a = c
  · subst hac
    have he : (a != a) = false := by simp
    go_enter Try.func60, Try.ntmps60
    go_wp2_with fail
    go_ret
    exact ⟨ret_bool (by simp), balloc (balloc (brefl w) _) _⟩
  · have he : (a != c) = true := by simpa using hac
    go_enter Try.func60, Try.ntmps60
    go_wp2_with fail
    go_ret
    exact ⟨ret_bool (by simp), balloc (balloc (brefl w) _) _⟩

end Go.Proofs.Ytechocnednepiaa
