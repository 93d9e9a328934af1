/- The contracts of addr's Meets, Before, Last. -/
import Derived.Test.YtfkajefminopjabDoorA2
namespace Go.Proofs.YtfkajefminopjabDoor
open Go.RowKit

theorem contains_is (a b c d : Int) (r : Bool) (h : Ad.contains a b c d = r) (w : World) (ha : 0 ≤ a) (ha2 : a ≤ 4294967295) (hc : 0 ≤ c) (hc2 : c ≤ 4294967295) :
    Calls Tryd.prog 31 #[.agg #[.int .u32 a, .int .i64 b], .agg #[.int .u32 c, .int .i64 d]] w fun e w' => e = .returned (.bool r) ∧ Below w.heap.size w w' := by
  rw [← h]; exact contains_any a b c d w ha ha2 hc hc2

set_option maxHeartbeats 400000 in
theorem meets_any (a b c d : Int) (w : World) (ha : 0 ≤ a) (ha2 : a ≤ 4294967295) (hc : 0 ≤ c) (hc2 : c ≤ 4294967295) :
    Calls Tryd.prog 29 #[.agg #[.int .u32 a, .int .i64 b], .agg #[.int .u32 c, .int .i64 d]] w fun e w' => e = .returned (.bool (Ad.contains a b c d || Ad.contains c d a b)) ∧ Below w.heap.size w w' := by
  cases hm : Ad.contains a b c d
  · cases hm2 : Ad.contains c d a b
    all_goals
      go_enter Tryd.func29, Tryd.ntmps29
      go_wp2_with fail
      refine (contains_is _ _ _ _ _ hm _ ha ha2 hc hc2).mono ?_
      rintro e w1 ⟨rfl, hb1⟩
      obtain ⟨hc1, hf1⟩ := bcell hb1
      go_wp2_with fail
      refine (contains_is _ _ _ _ _ hm2 _ hc hc2 ha ha2).mono ?_
      rintro e w2 ⟨rfl, hb2⟩
      go_wp2_with fail
      go_ret
      exact ⟨rfl, bthen (bthen (balloc (balloc (brefl w) _) _) hb1) hb2⟩
  · go_enter Tryd.func29, Tryd.ntmps29
    go_wp2_with fail
    refine (contains_is _ _ _ _ _ hm _ ha ha2 hc hc2).mono ?_
    rintro e w1 ⟨rfl, hb1⟩
    go_wp2_with fail
    go_ret
    exact ⟨rfl, bthen (balloc (balloc (brefl w) _) _) hb1⟩

set_option maxHeartbeats 400000 in
theorem before_any (a b c d : Int) (w : World) (ha : 0 ≤ a) (ha2 : a ≤ 4294967295) (hc : 0 ≤ c) (hc2 : c ≤ 4294967295) :
    Calls Tryd.prog 41 #[.agg #[.int .u32 a, .int .i64 b], .agg #[.int .u32 c, .int .i64 d]] w fun e w' => e = .returned (.bool (Ad.before a b c d)) ∧ Below w.heap.size w w' := by
  cases hm : Ad.may a b
  · go_enter Tryd.func41, Tryd.ntmps41
    go_wp2_with fail
    refine (may_is _ _ _ hm _ ha ha2).mono ?_
    rintro e w1 ⟨rfl, hb1⟩
    go_wp2_with fail
    go_ret
    exact ⟨ret_bool (by simp [Ad.before, hm]), bthen (balloc (balloc (brefl w) _) _) hb1⟩
  · cases hm2 : Ad.may c d
    · go_enter Tryd.func41, Tryd.ntmps41
      go_wp2_with fail
      refine (may_is _ _ _ hm _ ha ha2).mono ?_
      rintro e w1 ⟨rfl, hb1⟩
      obtain ⟨hc1, hf1⟩ := bcell hb1
      go_wp2_with fail
      refine (may_is _ _ _ hm2 _ hc hc2).mono ?_
      rintro e w2 ⟨rfl, hb2⟩
      go_wp2_with fail
      go_ret
      exact ⟨ret_bool (by simp [Ad.before, hm2]), bthen (bthen (balloc (balloc (brefl w) _) _) hb1) hb2⟩
    · by_cases hac : a = c
      · subst hac
        have he : (a != a) = false := by simp
        go_enter Tryd.func41, Tryd.ntmps41
        go_wp2_with fail
        refine (may_is _ _ _ hm _ ha ha2).mono ?_
        rintro e w1 ⟨rfl, hb1⟩
        obtain ⟨hc1, hf1⟩ := bcell hb1
        go_wp2_with fail
        refine (may_is _ _ _ hm2 _ hc hc2).mono ?_
        rintro e w2 ⟨rfl, hb2⟩
        have hz : w.heap.size + 1 < w1.heap.size := by have := hb1.size; simp at this; omega
        have hz0 : w.heap.size < w1.heap.size := by omega
        obtain ⟨hc2', hf2⟩ := bcell hb2
        go_wp2_with fail
        go_ret
        exact ⟨ret_bool (by simp [Ad.before, hm, hm2]), bthen (bthen (balloc (balloc (brefl w) _) _) hb1) hb2⟩
      · have he : (a != c) = true := by simpa using hac
        go_enter Tryd.func41, Tryd.ntmps41
        go_wp2_with fail
        refine (may_is _ _ _ hm _ ha ha2).mono ?_
        rintro e w1 ⟨rfl, hb1⟩
        obtain ⟨hc1, hf1⟩ := bcell hb1
        go_wp2_with fail
        refine (may_is _ _ _ hm2 _ hc hc2).mono ?_
        rintro e w2 ⟨rfl, hb2⟩
        have hz : w.heap.size + 1 < w1.heap.size := by have := hb1.size; simp at this; omega
        have hz0 : w.heap.size < w1.heap.size := by omega
        obtain ⟨hc2', hf2⟩ := bcell hb2
        go_wp2_with fail
        go_ret
        exact ⟨ret_bool (by simp [Ad.before, hm, hm2, hac]), bthen (bthen (balloc (balloc (brefl w) _) _) hb1) hb2⟩
end Go.Proofs.YtfkajefminopjabDoor
