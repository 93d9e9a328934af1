import Derived.Test.YtechocnednepiaaProg
import Derived.Test.YtechocnednepiaaM1
import Derived.WalkKit
import Derived.WalkSpells
import Derived.WalkLawsBesides
import Derived.Deep.QuietTactic
import Derived.BigQuiet
import Derived.Lib.QuietBelow
import Derived.Deep.Cut
/- The contracts of addr's small functions: cut, May. -/
namespace Go.Proofs.Ytechocnednepiaa
open Go.RowKit

theorem ret_int {k : IntKind} {a b : Int} (h : a = b) : Ending.returned (.int k a) = .returned (.int k b) := by rw [h]

set_option maxHeartbeats 400000 in
theorem cut_any (a b : Int) (w : World) (ha : 0 ≤ a) (ha2 : a ≤ 4294967295) (hb : 0 ≤ b) (hb2 : b ≤ 32) :
    Calls Try.prog 65 #[.int .u32 a, .int .i64 b] w fun e w' => e = .returned (.int .u32 (Ad.cut a b)) ∧ w' = w := by
  go_enter Try.func65, Try.ntmps65
  go_wp2
  go_ret
  exact ⟨ret_int (Ad.cut_bits a b ha ha2 hb hb2), rfl⟩

theorem ret_bool {a b : Bool} (h : a = b) : Ending.returned (.bool a) = .returned (.bool b) := by rw [h]

set_option maxHeartbeats 400000 in
theorem may_any (a b : Int) (w : World) (ha : 0 ≤ a) (ha2 : a ≤ 4294967295) :
    Calls Try.prog 56 #[.agg #[.int .u32 a, .int .i64 b]] w fun e w' => e = .returned (.bool (Ad.may a b)) ∧ Below w.heap.size w w' := by
  by_cases h0 : 0 ≤ b
  · by_cases h1 : b ≤ 32
    · go_enter Try.func56, Try.ntmps56
      go_wp2
      go_quiet ((go_at_call 65; exact Calls.quiet_of_same (cut_any _ _ _ (by omega) (by omega) (by omega) (by omega))))
      go_wp2
      go_ret
      exact ⟨ret_bool (by simp [Ad.may, h0, h1, Bool.beq_eq_decide_eq]), below_drewN ((Below.refl _ _).alloc (Nat.le_refl _) _) _⟩
    · have hd : decide (b ≤ 32) = false := by simpa using h1
      go_enter Try.func56, Try.ntmps56
      go_wp2
      go_quiet (fail)
      go_wp2
      go_ret
      exact ⟨ret_bool (by simp [Ad.may]; omega), below_drewN ((Below.refl _ _).alloc (Nat.le_refl _) _) _⟩
  · have hd : decide (0 ≤ b) = false := by simpa using h0
    go_enter Try.func56, Try.ntmps56
    go_wp2
    go_quiet (fail)
    go_wp2
    go_ret
    exact ⟨ret_bool (by simp [Ad.may]; omega), below_drewN ((Below.refl _ _).alloc (Nat.le_refl _) _) _⟩
end Go.Proofs.Ytechocnednepiaa

/- The contracts of addr's Has, Contains, Meets, Before, Last. -/
namespace Go.Proofs.Ytechocnednepiaa
open Go.RowKit

theorem bcell {W w1 : World} (hb : Below W.heap.size W w1) : (∀ b o, b < W.heap.size → w1.cell? ⟨b, o, none⟩ = W.cell? ⟨b, o, none⟩) ∧ (∀ b o, b < W.heap.size → w1.frozen? ⟨b, o, none⟩ = W.frozen? ⟨b, o, none⟩) :=
  ⟨fun b o h => hb.cell (p := ⟨b, o, none⟩) h, fun b o h => hb.frozen (p := ⟨b, o, none⟩) h⟩
theorem bthen {w W w1 : World} (h : Below w.heap.size w W) (hb : Below W.heap.size W w1) : Below w.heap.size w w1 := h.trans (hb.mono h.size)
theorem balloc {w W : World} (h : Below w.heap.size w W) (o : Obj) : Below w.heap.size w (W.alloc o) := h.alloc h.size o
theorem brefl (w : World) : Below w.heap.size w w := Below.refl _ _

theorem may_is (a b : Int) (r : Bool) (h : Ad.may a b = r) (w : World) (ha : 0 ≤ a) (ha2 : a ≤ 4294967295) :
    Calls Try.prog 56 #[.agg #[.int .u32 a, .int .i64 b]] w fun e w' => e = .returned (.bool r) ∧ Below w.heap.size w w' := by
  rw [← h]; exact may_any a b w ha ha2

set_option maxHeartbeats 400000 in
theorem has_any (a b x : Int) (w : World) (ha : 0 ≤ a) (ha2 : a ≤ 4294967295) (hx : 0 ≤ x) (hx2 : x ≤ 4294967295) :
    Calls Try.prog 69 #[.agg #[.int .u32 a, .int .i64 b], .int .u32 x] w fun e w' => e = .returned (.bool (Ad.has a b x)) ∧ Below w.heap.size w w' := by
  have c0 := fun d os => cell_regrown (w := w.alloc (.cells #[.int .u32 a, .int .i64 b] 30)) (a := ⟨w.heap.size, 0, none⟩) (v := .int .u32 a) (by simp) d os
  have c1 := fun d os => cell_regrown (w := w.alloc (.cells #[.int .u32 a, .int .i64 b] 30)) (a := ⟨w.heap.size, 1, none⟩) (v := .int .i64 b) (by simp) d os
  cases hm : Ad.may a b
  · go_enter Try.func69, Try.ntmps69
    go_wp2
    refine wp_region_quiet_below (by kernel_rfl) (by kernel_rfl) ?_
    repeat (go_big_quiet_step ((go_at_call 56; exact Calls.regrown_of (may_is _ _ _ hm _ ha ha2))))
    refine wpQuiet_nil ?_
    rintro _ ⟨⟨d, os⟩, rfl⟩
    go_wp2
    go_ret
    exact ⟨ret_bool (by simp [Ad.has, hm]), bthen (balloc (brefl w) _) (below_regrown _ d os)⟩
  · obtain ⟨h0, h1, h2⟩ := (Ad.may_iff a b).1 hm
    have H2 : Hid (Ad.cut a b = a) := h2
    clear h2
    go_enter Try.func69, Try.ntmps69
    go_wp2
    refine wp_region_quiet_below (by kernel_rfl) (by kernel_rfl) ?_
    repeat (go_big_quiet_step (first | (go_at_call 56; exact Calls.regrown_of (may_is _ _ _ hm _ ha ha2)) | (go_at_call 65; exact Calls.regrown_of ((cut_any _ _ _ (by omega) (by omega) (by omega) (by omega)).mono fun _ _ ⟨he, hw⟩ => ⟨he, hw ▸ brefl _⟩))))
    refine wpQuiet_nil ?_
    rintro _ ⟨⟨d, os⟩, rfl⟩
    go_wp2
    go_ret
    exact ⟨ret_bool (by simp [Ad.has, hm, Bool.beq_eq_decide_eq]), bthen (balloc (brefl w) _) (below_regrown _ d os)⟩

theorem has_is (a b x : Int) (r : Bool) (h : Ad.has a b x = r) (w : World) (ha : 0 ≤ a) (ha2 : a ≤ 4294967295) (hx : 0 ≤ x) (hx2 : x ≤ 4294967295) :
    Calls Try.prog 69 #[.agg #[.int .u32 a, .int .i64 b], .int .u32 x] w fun e w' => e = .returned (.bool r) ∧ Below w.heap.size w w' := by
  rw [← h]; exact has_any a b x w ha ha2 hx hx2

set_option maxHeartbeats 400000 in
theorem contains_any (a b c d : Int) (w : World) (ha : 0 ≤ a) (ha2 : a ≤ 4294967295) (hc : 0 ≤ c) (hc2 : c ≤ 4294967295) :
    Calls Try.prog 68 #[.agg #[.int .u32 a, .int .i64 b], .agg #[.int .u32 c, .int .i64 d]] w fun e w' => e = .returned (.bool (Ad.contains a b c d)) ∧ Below w.heap.size w w' := by
  cases hm : Ad.may c d
  · go_enter Try.func68, Try.ntmps68
    go_wp2_with (go_at_call 56; refine (may_is _ _ _ hm _ hc hc2).mono ?_; rintro e w1 ⟨rfl, hb1⟩)
    go_ret
    exact ⟨ret_bool (by simp [Ad.contains, hm]), bthen (balloc (balloc (brefl w) _) _) hb1⟩
  · by_cases hbd : b ≤ d
    · cases hh : Ad.has a b c
      all_goals
        go_enter Try.func68, Try.ntmps68
        go_wp2_with (first | (go_at_call 56; refine (may_is _ _ _ hm _ hc hc2).mono ?_; rintro e w1 ⟨rfl, hb1⟩; obtain ⟨hc1, hf1⟩ := bcell hb1) | (go_at_call 69; refine (has_is _ _ _ _ hh _ ha ha2 hc hc2).mono ?_; rintro e w2 ⟨rfl, hb2⟩))
        go_ret
        exact ⟨ret_bool (by simp [Ad.contains, hm, hbd, hh]), bthen (bthen (balloc (balloc (brefl w) _) _) hb1) hb2⟩
    · have hd : decide (b ≤ d) = false := by simpa using hbd
      go_enter Try.func68, Try.ntmps68
      go_wp2_with (first | (go_at_call 56; refine (may_is _ _ _ hm _ hc hc2).mono ?_; rintro e w1 ⟨rfl, hb1⟩; obtain ⟨hc1, hf1⟩ := bcell hb1))
      go_ret
      exact ⟨ret_bool (by simp [Ad.contains]; omega), bthen (balloc (balloc (brefl w) _) _) hb1⟩
end Go.Proofs.Ytechocnednepiaa

/- The contracts of addr's Meets, Before, Last. -/
namespace Go.Proofs.Ytechocnednepiaa
open Go.RowKit

theorem contains_is (a b c d : Int) (r : Bool) (h : Ad.contains a b c d = r) (w : World) (ha : 0 ≤ a) (ha2 : a ≤ 4294967295) (hc : 0 ≤ c) (hc2 : c ≤ 4294967295) :
    Calls Try.prog 68 #[.agg #[.int .u32 a, .int .i64 b], .agg #[.int .u32 c, .int .i64 d]] w fun e w' => e = .returned (.bool r) ∧ Below w.heap.size w w' := by
  rw [← h]; exact contains_any a b c d w ha ha2 hc hc2

end Go.Proofs.Ytechocnednepiaa

