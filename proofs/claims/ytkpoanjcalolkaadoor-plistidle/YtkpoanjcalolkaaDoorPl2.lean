import Derived.Test.YtkpoanjcalolkaaDoorF1
import Derived.Test.YtkpoanjcalolkaaDoorPl1
/- The contracts of plist's rules: may, Met; and the document's May, Met. -/
namespace Go.Proofs.YtkpoanjcalolkaaDoor
open Go.RowKit

/-- A rule's five cells. -/
def Ad.encR (r : Ad.R) : List Value := [.int .u32 r.1, .int .i64 r.2.1, .int .i64 r.2.2.1, .int .i64 r.2.2.2.1, .bool r.2.2.2.2]

set_option maxHeartbeats 1000000 in
theorem rmay_any (a b g l : Int) (p : Bool) (w : World) (ha : 0 ≤ a) (ha2 : a ≤ 4294967295) :
    Calls Tryd.prog 29 #[.agg #[.int .u32 a, .int .i64 b, .int .i64 g, .int .i64 l, .bool p]] w fun e w' => e = .returned (.bool (Ad.rmay (a, b, g, l, p))) ∧ Below w.heap.size w w' := by
  cases hm : Ad.may a b
  · go_enter Tryd.func29, Tryd.ntmps29
    go_wp2_with fail
    refine (may_is _ _ _ hm _ ha ha2).mono ?_
    rintro e w1 ⟨rfl, hb1⟩
    go_wp2_with fail
    go_ret
    exact ⟨ret_bool (by simp [Ad.rmay, hm]), bthen (balloc (brefl w) _) hb1⟩
  · by_cases h1 : b ≤ g
    · by_cases h2 : g ≤ l
      · go_enter Tryd.func29, Tryd.ntmps29
        go_wp2_with fail
        refine (may_is _ _ _ hm _ ha ha2).mono ?_
        rintro e w1 ⟨rfl, hb1⟩
        obtain ⟨hc1, hf1⟩ := bcell hb1
        go_wp2_with fail
        go_ret
        exact ⟨ret_bool (by simp [Ad.rmay, hm]; omega), bthen (balloc (brefl w) _) hb1⟩
      · have hd : decide (g ≤ l) = false := by simpa using h2
        go_enter Tryd.func29, Tryd.ntmps29
        go_wp2_with fail
        refine (may_is _ _ _ hm _ ha ha2).mono ?_
        rintro e w1 ⟨rfl, hb1⟩
        obtain ⟨hc1, hf1⟩ := bcell hb1
        go_wp2_with fail
        go_ret
        exact ⟨ret_bool (by simp [Ad.rmay, hm]; omega), bthen (balloc (brefl w) _) hb1⟩
    · have hd : decide (b ≤ g) = false := by simpa using h1
      go_enter Tryd.func29, Tryd.ntmps29
      go_wp2_with fail
      refine (may_is _ _ _ hm _ ha ha2).mono ?_
      rintro e w1 ⟨rfl, hb1⟩
      obtain ⟨hc1, hf1⟩ := bcell hb1
      go_wp2_with fail
      go_ret
      exact ⟨ret_bool (by simp [Ad.rmay, hm]; omega), bthen (balloc (brefl w) _) hb1⟩

theorem rmay_is (a b g l : Int) (p r : Bool) (h : Ad.rmay (a, b, g, l, p) = r) (w : World) (ha : 0 ≤ a) (ha2 : a ≤ 4294967295) :
    Calls Tryd.prog 29 #[.agg #[.int .u32 a, .int .i64 b, .int .i64 g, .int .i64 l, .bool p]] w fun e w' => e = .returned (.bool r) ∧ Below w.heap.size w w' := by
  rw [← h]; exact rmay_any a b g l p w ha ha2

set_option maxHeartbeats 1000000 in
theorem refRMay_any (a b g l : Int) (p : Bool) (w : World) (ha : 0 ≤ a) (ha2 : a ≤ 4294967295) :
    Calls Tryd.prog 18 #[.agg #[.int .u32 a, .int .i64 b, .int .i64 g, .int .i64 l, .bool p]] w fun e w' => e = .returned (.bool (Ad.rmay (a, b, g, l, p))) ∧ Below w.heap.size w w' := by
  cases hm : Ad.may a b
  · go_enter Tryd.func18, Tryd.ntmps18
    go_wp2_with fail
    refine (refMay_is _ _ _ hm _ ha ha2).mono ?_
    rintro e w1 ⟨rfl, hb1⟩
    go_wp2_with fail
    go_ret
    exact ⟨ret_bool (by simp [Ad.rmay, hm]), bthen (balloc (brefl w) _) hb1⟩
  · by_cases h1 : b ≤ g
    · by_cases h2 : g ≤ l
      · go_enter Tryd.func18, Tryd.ntmps18
        go_wp2_with fail
        refine (refMay_is _ _ _ hm _ ha ha2).mono ?_
        rintro e w1 ⟨rfl, hb1⟩
        obtain ⟨hc1, hf1⟩ := bcell hb1
        go_wp2_with fail
        go_ret
        exact ⟨ret_bool (by simp [Ad.rmay, hm]; omega), bthen (balloc (brefl w) _) hb1⟩
      · have hd : decide (g ≤ l) = false := by simpa using h2
        go_enter Tryd.func18, Tryd.ntmps18
        go_wp2_with fail
        refine (refMay_is _ _ _ hm _ ha ha2).mono ?_
        rintro e w1 ⟨rfl, hb1⟩
        obtain ⟨hc1, hf1⟩ := bcell hb1
        go_wp2_with fail
        go_ret
        exact ⟨ret_bool (by simp [Ad.rmay, hm]; omega), bthen (balloc (brefl w) _) hb1⟩
    · have hd : decide (b ≤ g) = false := by simpa using h1
      go_enter Tryd.func18, Tryd.ntmps18
      go_wp2_with fail
      refine (refMay_is _ _ _ hm _ ha ha2).mono ?_
      rintro e w1 ⟨rfl, hb1⟩
      obtain ⟨hc1, hf1⟩ := bcell hb1
      go_wp2_with fail
      go_ret
      exact ⟨ret_bool (by simp [Ad.rmay, hm]; omega), bthen (balloc (brefl w) _) hb1⟩

theorem refRMay_is (a b g l : Int) (p r : Bool) (h : Ad.rmay (a, b, g, l, p) = r) (w : World) (ha : 0 ≤ a) (ha2 : a ≤ 4294967295) :
    Calls Tryd.prog 18 #[.agg #[.int .u32 a, .int .i64 b, .int .i64 g, .int .i64 l, .bool p]] w fun e w' => e = .returned (.bool r) ∧ Below w.heap.size w w' := by
  rw [← h]; exact refRMay_any a b g l p w ha ha2

set_option maxHeartbeats 1000000 in
theorem met_any (a b g l c d : Int) (p : Bool) (w : World) (ha : 0 ≤ a) (ha2 : a ≤ 4294967295) (hc : 0 ≤ c) (hc2 : c ≤ 4294967295) :
    Calls Tryd.prog 13 #[.agg #[.int .u32 a, .int .i64 b, .int .i64 g, .int .i64 l, .bool p], .agg #[.int .u32 c, .int .i64 d]] w fun e w' => e = .returned (.bool (Ad.met (a, b, g, l, p) c d)) ∧ Below w.heap.size w w' := by
  cases hm : Ad.rmay (a, b, g, l, p)
  · go_enter Tryd.func13, Tryd.ntmps13
    go_wp2_with fail
    refine (rmay_is _ _ _ _ _ _ hm _ ha ha2).mono ?_
    rintro e w1 ⟨rfl, hb1⟩
    go_wp2_with fail
    go_ret
    exact ⟨ret_bool (by simp [Ad.met, hm]), bthen (balloc (balloc (brefl w) _) _) hb1⟩
  · cases hk : Ad.contains a b c d
    · go_enter Tryd.func13, Tryd.ntmps13
      go_wp2_with fail
      refine (rmay_is _ _ _ _ _ _ hm _ ha ha2).mono ?_
      rintro e w1 ⟨rfl, hb1⟩
      obtain ⟨hc1, hf1⟩ := bcell hb1
      go_wp2_with fail
      refine (contains_is _ _ _ _ _ hk _ ha ha2 hc hc2).mono ?_
      rintro e w2 ⟨rfl, hb2⟩
      go_wp2_with fail
      go_ret
      exact ⟨ret_bool (by simp [Ad.met, hk]), bthen (bthen (balloc (balloc (brefl w) _) _) hb1) hb2⟩
    · by_cases h1 : g ≤ d
      · go_enter Tryd.func13, Tryd.ntmps13
        go_wp2_with fail
        refine (rmay_is _ _ _ _ _ _ hm _ ha ha2).mono ?_
        rintro e w1 ⟨rfl, hb1⟩
        obtain ⟨hc1, hf1⟩ := bcell hb1
        have hz : w.heap.size + 1 < w1.heap.size := by have := hb1.size; simp at this; omega
        have hz0 : w.heap.size < w1.heap.size := by omega
        go_wp2_with fail
        refine (contains_is _ _ _ _ _ hk _ ha ha2 hc hc2).mono ?_
        rintro e w2 ⟨rfl, hb2⟩
        obtain ⟨hc2', hf2⟩ := bcell hb2
        go_wp2_with fail
        go_ret
        exact ⟨ret_bool (by simp [Ad.met, hm, hk]; omega), bthen (bthen (balloc (balloc (brefl w) _) _) hb1) hb2⟩
      · have hd : decide (g ≤ d) = false := by simpa using h1
        go_enter Tryd.func13, Tryd.ntmps13
        go_wp2_with fail
        refine (rmay_is _ _ _ _ _ _ hm _ ha ha2).mono ?_
        rintro e w1 ⟨rfl, hb1⟩
        obtain ⟨hc1, hf1⟩ := bcell hb1
        have hz : w.heap.size + 1 < w1.heap.size := by have := hb1.size; simp at this; omega
        have hz0 : w.heap.size < w1.heap.size := by omega
        go_wp2_with fail
        refine (contains_is _ _ _ _ _ hk _ ha ha2 hc hc2).mono ?_
        rintro e w2 ⟨rfl, hb2⟩
        obtain ⟨hc2', hf2⟩ := bcell hb2
        go_wp2_with fail
        go_ret
        exact ⟨ret_bool (by simp [Ad.met, hm, hk]; omega), bthen (bthen (balloc (balloc (brefl w) _) _) hb1) hb2⟩

set_option maxHeartbeats 1000000 in
theorem refMet_any (a b g l c d : Int) (p : Bool) (w : World) (ha : 0 ≤ a) (ha2 : a ≤ 4294967295) (hc : 0 ≤ c) (hc2 : c ≤ 4294967295) :
    Calls Tryd.prog 14 #[.agg #[.int .u32 a, .int .i64 b, .int .i64 g, .int .i64 l, .bool p], .agg #[.int .u32 c, .int .i64 d]] w fun e w' => e = .returned (.bool (Ad.met (a, b, g, l, p) c d)) ∧ Below w.heap.size w w' := by
  cases hm : Ad.rmay (a, b, g, l, p)
  · go_enter Tryd.func14, Tryd.ntmps14
    go_wp2_with fail
    refine (refRMay_is _ _ _ _ _ _ hm _ ha ha2).mono ?_
    rintro e w1 ⟨rfl, hb1⟩
    go_wp2_with fail
    go_ret
    exact ⟨ret_bool (by simp [Ad.met, hm]), bthen (balloc (balloc (brefl w) _) _) hb1⟩
  · cases hk : Ad.contains a b c d
    · go_enter Tryd.func14, Tryd.ntmps14
      go_wp2_with fail
      refine (refRMay_is _ _ _ _ _ _ hm _ ha ha2).mono ?_
      rintro e w1 ⟨rfl, hb1⟩
      obtain ⟨hc1, hf1⟩ := bcell hb1
      go_wp2_with fail
      refine (refContains_is _ _ _ _ _ hk _ ha ha2 hc hc2).mono ?_
      rintro e w2 ⟨rfl, hb2⟩
      go_wp2_with fail
      go_ret
      exact ⟨ret_bool (by simp [Ad.met, hk]), bthen (bthen (balloc (balloc (brefl w) _) _) hb1) hb2⟩
    · by_cases h1 : g ≤ d
      · go_enter Tryd.func14, Tryd.ntmps14
        go_wp2_with fail
        refine (refRMay_is _ _ _ _ _ _ hm _ ha ha2).mono ?_
        rintro e w1 ⟨rfl, hb1⟩
        obtain ⟨hc1, hf1⟩ := bcell hb1
        have hz : w.heap.size + 1 < w1.heap.size := by have := hb1.size; simp at this; omega
        have hz0 : w.heap.size < w1.heap.size := by omega
        go_wp2_with fail
        refine (refContains_is _ _ _ _ _ hk _ ha ha2 hc hc2).mono ?_
        rintro e w2 ⟨rfl, hb2⟩
        obtain ⟨hc2', hf2⟩ := bcell hb2
        go_wp2_with fail
        go_ret
        exact ⟨ret_bool (by simp [Ad.met, hm, hk]; omega), bthen (bthen (balloc (balloc (brefl w) _) _) hb1) hb2⟩
      · have hd : decide (g ≤ d) = false := by simpa using h1
        go_enter Tryd.func14, Tryd.ntmps14
        go_wp2_with fail
        refine (refRMay_is _ _ _ _ _ _ hm _ ha ha2).mono ?_
        rintro e w1 ⟨rfl, hb1⟩
        obtain ⟨hc1, hf1⟩ := bcell hb1
        have hz : w.heap.size + 1 < w1.heap.size := by have := hb1.size; simp at this; omega
        have hz0 : w.heap.size < w1.heap.size := by omega
        go_wp2_with fail
        refine (refContains_is _ _ _ _ _ hk _ ha ha2 hc hc2).mono ?_
        rintro e w2 ⟨rfl, hb2⟩
        obtain ⟨hc2', hf2⟩ := bcell hb2
        go_wp2_with fail
        go_ret
        exact ⟨ret_bool (by simp [Ad.met, hm, hk]; omega), bthen (bthen (balloc (balloc (brefl w) _) _) hb1) hb2⟩

theorem met_is (a b g l c d : Int) (p r : Bool) (h : Ad.met (a, b, g, l, p) c d = r) (w : World) (ha : 0 ≤ a) (ha2 : a ≤ 4294967295) (hc : 0 ≤ c) (hc2 : c ≤ 4294967295) :
    Calls Tryd.prog 13 #[.agg #[.int .u32 a, .int .i64 b, .int .i64 g, .int .i64 l, .bool p], .agg #[.int .u32 c, .int .i64 d]] w fun e w' => e = .returned (.bool r) ∧ Below w.heap.size w w' := by
  rw [← h]; exact met_any a b g l c d p w ha ha2 hc hc2

theorem refMet_is (a b g l c d : Int) (p r : Bool) (h : Ad.met (a, b, g, l, p) c d = r) (w : World) (ha : 0 ≤ a) (ha2 : a ≤ 4294967295) (hc : 0 ≤ c) (hc2 : c ≤ 4294967295) :
    Calls Tryd.prog 14 #[.agg #[.int .u32 a, .int .i64 b, .int .i64 g, .int .i64 l, .bool p], .agg #[.int .u32 c, .int .i64 d]] w fun e w' => e = .returned (.bool r) ∧ Below w.heap.size w w' := by
  rw [← h]; exact refMet_any a b g l c d p w ha ha2 hc hc2
end Go.Proofs.YtkpoanjcalolkaaDoor
