import Derived.Test.YtechocnednepiaaA1
import Derived.Test.YtechocnednepiaaM2
import Derived.RegionTactic
/- The contracts of addr's Last, Halves. -/
namespace Go.Proofs.Ytechocnednepiaa
open Go.RowKit

theorem bset {w W : World} (h : Below w.heap.size w W) {p : Addr} (hp : w.heap.size ≤ p.block) (u : Value) : Below w.heap.size w (W.setCell p u) := h.setCell hp u

set_option maxHeartbeats 400000 in
theorem halves_no (a b : Int) (w : World) (ha : 0 ≤ a) (ha2 : a ≤ 4294967295) (hm : Ad.may a b = false) :
    Calls Try.prog 64 #[.agg #[.int .u32 a, .int .i64 b]] w fun e w' => e = .returned (.tuple #[.agg #[.int .u32 0, .int .i64 0], .agg #[.int .u32 0, .int .i64 0], .int .i64 1]) ∧ Below w.heap.size w w' := by
  go_enter Try.func64, Try.ntmps64
  go_wp2_with fail
  refine (may_is _ _ _ hm _ ha ha2).mono ?_
  rintro e w1 ⟨rfl, hb1⟩
  obtain ⟨hc1, hf1⟩ := bcell hb1
  have hz : w.heap.size + 2 < w1.heap.size := by have := hb1.size; simp at this; omega
  have hz1 : w.heap.size + 1 < w1.heap.size := by omega
  have hz0 : w.heap.size < w1.heap.size := by omega
  go_wp2_with fail
  exact bodyPost_ret (v := .tuple #[.agg #[.int .u32 0, .int .i64 0], .agg #[.int .u32 0, .int .i64 0], .int .i64 1]) (by simp [results, Try.results64, go_sem, hc1]) rfl ⟨rfl, bset (bset (bset (bset (bthen (balloc (balloc (balloc (brefl w) _) _) _) hb1) (by simp) _) (by simp) _) (by simp; omega) _) (by simp; omega) _⟩

set_option maxHeartbeats 400000 in
theorem halves_all (a : Int) (w : World) (ha : 0 ≤ a) (ha2 : a ≤ 4294967295) (hm : Ad.may a 32 = true) :
    Calls Try.prog 64 #[.agg #[.int .u32 a, .int .i64 32]] w fun e w' => e = .returned (.tuple #[.agg #[.int .u32 0, .int .i64 0], .agg #[.int .u32 0, .int .i64 0], .int .i64 5]) ∧ Below w.heap.size w w' := by
  go_enter Try.func64, Try.ntmps64
  go_wp2_with fail
  refine (may_is _ _ _ hm _ ha ha2).mono ?_
  rintro e w1 ⟨rfl, hb1⟩
  obtain ⟨hc1, hf1⟩ := bcell hb1
  have hz : w.heap.size + 2 < w1.heap.size := by have := hb1.size; simp at this; omega
  have hz1 : w.heap.size + 1 < w1.heap.size := by omega
  have hz0 : w.heap.size < w1.heap.size := by omega
  go_wp2_with fail
  exact bodyPost_ret (v := .tuple #[.agg #[.int .u32 0, .int .i64 0], .agg #[.int .u32 0, .int .i64 0], .int .i64 5]) (by simp [results, Try.results64, go_sem, hc1]) rfl ⟨rfl, bset (bset (bset (bset (bthen (balloc (balloc (balloc (brefl w) _) _) _) hb1) (by simp) _) (by simp) _) (by simp; omega) _) (by simp; omega) _⟩

set_option maxHeartbeats 400000 in
theorem halves_yes (a b : Int) (w : World) (ha : 0 ≤ a) (ha2 : a ≤ 4294967295) (hm : Ad.may a b = true) (h0 : 0 ≤ b) (h31 : b ≤ 31) :
    Calls Try.prog 64 #[.agg #[.int .u32 a, .int .i64 b]] w fun e w' => e = .returned (.tuple #[.agg #[.int .u32 a, .int .i64 (b + 1)], .agg #[.int .u32 (a + Ad.sz (b + 1)), .int .i64 (b + 1)], .int .i64 0]) ∧ Below w.heap.size w w' := by
  have hne : (b == 32) = false := by simp; omega
  have HH : Hid (bits .or .u32 a (2 ^ (32 - (b + 1)).toNat % 4294967296) = a + Ad.sz (b + 1)) := Ad.half_bits a b ha ha2 h0 h31 ((Ad.may_iff a b).1 hm).2.2
  go_enter Try.func64, Try.ntmps64
  go_wp2_with fail
  refine (may_is _ _ _ hm _ ha ha2).mono ?_
  rintro e w1 ⟨rfl, hb1⟩
  obtain ⟨hc1, hf1⟩ := bcell hb1
  have hz : w.heap.size + 2 < w1.heap.size := by have := hb1.size; simp at this; omega
  have hz1 : w.heap.size + 1 < w1.heap.size := by omega
  have hz0 : w.heap.size < w1.heap.size := by omega
  go_wp2_with fail
  go_region
  all_goals go_wp2
  all_goals go_region
  all_goals go_wp2
  all_goals rw [HH.out]
  all_goals exact bodyPost_ret (v := .tuple #[.agg #[.int .u32 a, .int .i64 (b + 1)], .agg #[.int .u32 (a + Ad.sz (b + 1)), .int .i64 (b + 1)], .int .i64 0]) (by have hz2 : w.heap.size + 1 + 1 < w1.heap.size := hz; simp [results, Try.results64, go_sem, hc1, hz0, hz1, hz2]) rfl ⟨rfl, (balloc (balloc (bset (bset (bset (bset (bthen (balloc (balloc (balloc (brefl w) _) _) _) hb1) (by simp) _) (by simp) _) (by simp; omega) _) (by simp; omega) _) _) _).drew.drew⟩
end Go.Proofs.Ytechocnednepiaa
