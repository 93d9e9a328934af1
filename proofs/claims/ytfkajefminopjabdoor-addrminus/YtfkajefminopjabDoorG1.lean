/- May, Before and order once more, with the world behind the call told to the draw: some draws on, some blocks behind. -/
import Derived.Test.YtfkajefminopjabDoorA3
import Derived.Test.YtfkajefminopjabDoorE1
import Derived.Sort.Grow
namespace Go.Proofs.YtfkajefminopjabDoor
open Go.RowKit Go.Sort

/-- Some draws on, some blocks behind. -/
def Grows (w w' : World) : Prop := ∃ q os, w' = grow (w.drewN q) os

theorem Grows.refl (w : World) : Grows w w := ⟨0, #[], by rw [grow_empty]; rfl⟩
theorem Grows.trans {a b c : World} (h : Grows a b) (k : Grows b c) : Grows a c := by
  obtain ⟨q, os, rfl⟩ := h
  obtain ⟨q', os', rfl⟩ := k
  refine ⟨q + q', os ++ os', ?_⟩
  rw [← grow_grow, ← World.drewN_drewN]
  rfl
theorem Grows.alloc {a b : World} (h : Grows a b) (o : Obj) : Grows a (b.alloc o) := h.trans ⟨0, #[o], rfl⟩
theorem Grows.drewN {a b : World} (h : Grows a b) (n : Nat) : Grows a (b.drewN n) := h.trans ⟨n, #[], by rw [grow_empty]⟩
theorem Grows.below {a b : World} (h : Grows a b) : Below a.heap.size a b := by
  obtain ⟨q, os, rfl⟩ := h
  exact ⟨rfl, rfl, rfl, by simp [grow], fun k hk => by simp [grow, Array.getElem?_append, hk]⟩

set_option maxHeartbeats 400000 in
theorem may_grows (a b : Int) (r : Bool) (hr : Ad.may a b = r) (w : World) (ha : 0 ≤ a) (ha2 : a ≤ 4294967295) :
    Calls Tryd.prog 16 #[.agg #[.int .u32 a, .int .i64 b]] w fun e w' => e = .returned (.bool r) ∧ Grows w w' := by
  subst hr
  by_cases h0 : 0 ≤ b
  · by_cases h1 : b ≤ 32
    · go_enter Tryd.func16, Tryd.ntmps16
      go_wp2
      go_quiet ((go_at_call 28; exact Calls.quiet_of_same (cut_any _ _ _ (by omega) (by omega) (by omega) (by omega))))
      go_wp2
      go_ret
      exact ⟨ret_bool (by simp [Ad.may, h0, h1, Bool.beq_eq_decide_eq]), ((Grows.refl w).alloc _).drewN _⟩
    · have hd : decide (b ≤ 32) = false := by simpa using h1
      go_enter Tryd.func16, Tryd.ntmps16
      go_wp2
      go_quiet (fail)
      go_wp2
      go_ret
      exact ⟨ret_bool (by simp [Ad.may]; omega), ((Grows.refl w).alloc _).drewN _⟩
  · have hd : decide (0 ≤ b) = false := by simpa using h0
    go_enter Tryd.func16, Tryd.ntmps16
    go_wp2
    go_quiet (fail)
    go_wp2
    go_ret
    exact ⟨ret_bool (by simp [Ad.may]; omega), ((Grows.refl w).alloc _).drewN _⟩

set_option maxHeartbeats 400000 in
/-- Before, of two that may be. -/
theorem before_grows (a b c d : Int) (w : World) (ha : 0 ≤ a) (ha2 : a ≤ 4294967295) (hc : 0 ≤ c) (hc2 : c ≤ 4294967295) (hm : Ad.may a b = true) (hm2 : Ad.may c d = true) :
    Calls Tryd.prog 41 #[.agg #[.int .u32 a, .int .i64 b], .agg #[.int .u32 c, .int .i64 d]] w fun e w' => e = .returned (.bool (Ad.before a b c d)) ∧ Grows w w' := by
  by_cases hac : a = c
  · subst hac
    have he : (a != a) = false := by simp
    go_enter Tryd.func41, Tryd.ntmps41
    go_wp2_with fail
    refine (may_grows _ _ _ hm _ ha ha2).mono ?_
    rintro e w1 ⟨rfl, hg1⟩
    have hb1 := hg1.below
    obtain ⟨hc1, hf1⟩ := bcell hb1
    go_wp2_with fail
    refine (may_grows _ _ _ hm2 _ hc hc2).mono ?_
    rintro e w2 ⟨rfl, hg2⟩
    have hb2 := hg2.below
    have hz : w.heap.size + 1 < w1.heap.size := by have := hb1.size; simp at this; omega
    have hz0 : w.heap.size < w1.heap.size := by omega
    obtain ⟨hc2', hf2⟩ := bcell hb2
    go_wp2_with fail
    go_ret
    exact ⟨ret_bool (by simp [Ad.before, hm, hm2]), (((Grows.refl w).alloc _).alloc _).trans (hg1.trans hg2)⟩
  · have he : (a != c) = true := by simpa using hac
    go_enter Tryd.func41, Tryd.ntmps41
    go_wp2_with fail
    refine (may_grows _ _ _ hm _ ha ha2).mono ?_
    rintro e w1 ⟨rfl, hg1⟩
    have hb1 := hg1.below
    obtain ⟨hc1, hf1⟩ := bcell hb1
    go_wp2_with fail
    refine (may_grows _ _ _ hm2 _ hc hc2).mono ?_
    rintro e w2 ⟨rfl, hg2⟩
    have hb2 := hg2.below
    have hz : w.heap.size + 1 < w1.heap.size := by have := hb1.size; simp at this; omega
    have hz0 : w.heap.size < w1.heap.size := by omega
    obtain ⟨hc2', hf2⟩ := bcell hb2
    go_wp2_with fail
    go_ret
    exact ⟨ret_bool (by simp [Ad.before, hm, hm2, hac]), (((Grows.refl w).alloc _).alloc _).trans (hg1.trans hg2)⟩

/-- What order says. -/
def Ad.order (a b c d : Int) : Int := if a = c ∧ b = d then 0 else if Ad.before a b c d = true then -1 else 1

set_option maxHeartbeats 400000 in
theorem order_grows (a b c d : Int) (w : World) (ha : 0 ≤ a) (ha2 : a ≤ 4294967295) (hc : 0 ≤ c) (hc2 : c ≤ 4294967295) (hm : Ad.may a b = true) (hm2 : Ad.may c d = true) :
    Calls Tryd.prog 34 #[.agg #[.int .u32 a, .int .i64 b], .agg #[.int .u32 c, .int .i64 d]] w fun e w' => e = .returned (.int .i64 (Ad.order a b c d)) ∧ Grows w w' := by
  by_cases hac : a = c ∧ b = d
  · obtain ⟨rfl, rfl⟩ := hac
    go_enter Tryd.func34, Tryd.ntmps34
    have hq := eqP
    have hg := guardP
    go_wp2_with fail
    go_ret
    exact ⟨ret_int (by simp [Ad.order]), ((Grows.refl w).alloc _).alloc _⟩
  · have he : (a == c && b == d) = false := by
      cases h : (a == c && b == d)
      · rfl
      · simp at h; exact absurd h hac
    cases hbf : Ad.before a b c d
    all_goals
      go_enter Tryd.func34, Tryd.ntmps34
      have hq := eqP
      have hg := guardP
      go_wp2_with fail
      clear hq hg
      refine (before_grows _ _ _ _ _ ha ha2 hc hc2 hm hm2).mono ?_
      rintro e w1 ⟨rfl, hg1⟩
      rw [hbf]
      go_wp2_with fail
      go_ret
      exact ⟨ret_int (by simp [Ad.order, hac, hbf]), (((Grows.refl w).alloc _).alloc _).trans hg1⟩
end Go.Proofs.YtfkajefminopjabDoor
