import Derived.Test.YtechocnednepiaaN3
import Derived.Test.YtechocnednepiaaE1
import Derived.Test.YtechocnednepiaaA4
/- The contract of trie's toward. -/
namespace Go.Proofs.Ytechocnednepiaa
open Go.RowKit

/-- A prefix as a value. -/
def pv (p : Pf) : Value := .agg #[.int .u32 p.1, .int .i64 p.2]
def sideI (s : Bool) : Int := if s then 1 else 0
theorem both_ne {a b c d : Int} (h : (a, b) ≠ (c, d)) : (a == c && b == d) = false := by
  simp only [ne_eq, Prod.mk.injEq] at h
  cases h1 : a == c
  · rfl
  · simp only [beq_iff_eq] at h1
    simpa using fun e => h ⟨h1, e⟩
theorem eq_ne {a b c d : Int} (h : (a, b) ≠ (c, d)) (w : World) : (binOp .eql 30 (.agg #[.int .u32 a, .int .i64 b]) (.agg #[.int .u32 c, .int .i64 d])).run Try.prog w = .ok (.bool false) w := by rw [eqP, both_ne h]
theorem eq_eq (a b : Int) (w : World) : (binOp .eql 30 (.agg #[.int .u32 a, .int .i64 b]) (.agg #[.int .u32 a, .int .i64 b])).run Try.prog w = .ok (.bool true) w := by rw [eqP]; simp
theorem neq_ne {a b c d : Int} (h : (a, b) ≠ (c, d)) (w : World) : (binOp .neq 30 (.agg #[.int .u32 a, .int .i64 b]) (.agg #[.int .u32 c, .int .i64 d])).run Try.prog w = .ok (.bool true) w := by rw [neqP, both_ne h]; rfl
theorem neq_eq (a b : Int) (w : World) : (binOp .neq 30 (.agg #[.int .u32 a, .int .i64 b]) (.agg #[.int .u32 a, .int .i64 b])).run Try.prog w = .ok (.bool false) w := by rw [neqP]; simp

set_option maxHeartbeats 1000000 in
theorem toward_raw (a b x y : Int) (s : Bool) (h0 : 0 ≤ a) (h1 : a ≤ 4294967295) (hm : Ad.may a b = true) (hb0 : 0 ≤ b) (hb : b ≤ 31) (g0 : 0 ≤ x) (g1 : x ≤ 4294967295)
    (hs : Ad.contains a (b + 1) x y = !s) (w : World) :
    Calls Try.prog 62 #[.agg #[.int .u32 a, .int .i64 b], .agg #[.int .u32 x, .int .i64 y]] w fun e w' => e = .returned (.tuple #[.int .i64 (sideI s), .agg #[.int .u32 (if s then a + Ad.sz (b + 1) else a), .int .i64 (b + 1)]]) ∧ Below w.heap.size w w' := by
  go_enter Try.func62, Try.ntmps62
  go_wp2_with fail
  refine (halves_yes a b _ h0 h1 hm hb0 hb).mono ?_
  rintro e w1 ⟨rfl, hb1⟩
  obtain ⟨hc1, hf1⟩ := bcell hb1
  have hz : w.heap.size + 2 < w1.heap.size := by have := hb1.size; simp at this; omega
  have hz1 : w.heap.size + 1 < w1.heap.size := by omega
  have hz0 : w.heap.size < w1.heap.size := by omega
  have HB := hide (bthen (balloc (balloc (balloc (brefl w) _) _) _) hb1)
  clear hb1
  go_wp2_with fail
  refine (contains_is a (b + 1) x y (!s) hs _ h0 h1 g0 g1).mono ?_
  rintro e w2 ⟨rfl, hb2⟩
  obtain ⟨hc2, hf2⟩ := bcell hb2
  have hsz := hb2.size
  simp at hsz
  have hy0 : w.heap.size < w2.heap.size := by omega
  have hy1 : w.heap.size + 1 < w2.heap.size := by omega
  have hy2 : w.heap.size + 1 + 1 < w2.heap.size := by omega
  have hy3 : w1.heap.size < w2.heap.size := by omega
  have hy4 : w1.heap.size + 1 < w2.heap.size := by omega
  have HB2 := hide (bthen (balloc (balloc HB.out _) _) (Below.mono hb2 (by simp)))
  clear hb2
  cases s
  · go_wp2_with fail
    go_region
    all_goals go_wp2_with fail
    all_goals refine bodyPost_ret (v := .tuple #[.int .i64 0, .agg #[.int .u32 a, .int .i64 (b + 1)]]) (by have hz2 : w.heap.size + 1 + 1 < w1.heap.size := hz; have hz3 : w.heap.size + 1 + 1 < w1.heap.size + 1 := (by omega); have hz4 : w.heap.size + 1 + 1 < w1.heap.size + 1 + 1 := (by omega); simp [results, Try.results62, go_sem, hc2, hc1, hz2, hz3, hz4]) rfl ⟨rfl, ?_⟩
    all_goals exact Below.setCell (Below.setCell (Below.drew HB2.out) (p := ⟨w.heap.size + 1 + 1, 0, none⟩) (by simp; omega) _) (p := ⟨w.heap.size + 1 + 1, 1, none⟩) (by simp; omega) _
  · go_wp2_with fail
    go_region
    all_goals go_wp2_with fail
    all_goals refine bodyPost_ret (v := .tuple #[.int .i64 1, .agg #[.int .u32 (a + Ad.sz (b + 1)), .int .i64 (b + 1)]]) (by have hz2 : w.heap.size + 1 + 1 < w1.heap.size := hz; have hz3 : w.heap.size + 1 + 1 < w1.heap.size + 1 := (by omega); have hz4 : w.heap.size + 1 + 1 < w1.heap.size + 1 + 1 := (by omega); simp [results, Try.results62, go_sem, hc2, hc1, hz2, hz3, hz4]) rfl ⟨rfl, ?_⟩
    all_goals exact Below.setCell (Below.setCell (Below.drew HB2.out) (p := ⟨w.heap.size + 1 + 1, 0, none⟩) (by simp; omega) _) (p := ⟨w.heap.size + 1 + 1, 1, none⟩) (by simp; omega) _

theorem toward_is {c p : Pf} (hc : Gd c) (hp : Gd p) (hi : In c p) (hne : c ≠ p) (w : World) :
    Calls Try.prog 62 #[pv c, pv p] w fun e w' => e = .returned (.tuple #[.int .i64 (sideI (side c p)), pv (half c (side c p))]) ∧ Below w.heap.size w w' := by
  have hlt := hi.lt hc hp hne
  have hl : c.2 ≤ 31 := by have := hp.2.2.2.1; omega
  have hs : Ad.contains c.1 (c.2 + 1) p.1 p.2 = !(side c p) := by
    have := contains_dec (gd_half hc hl false) hp
    have e : half c false = (c.1, c.2 + 1) := rfl
    rw [e] at this
    rw [this]
    have k : In (c.1, c.2 + 1) p ↔ Ad.cut p.1 (c.2 + 1) = c.1 := ⟨fun h => h.2, fun h => ⟨by show c.2 + 1 ≤ p.2; omega, h⟩⟩
    simp only [k, side, Bool.not_not]
  exact toward_raw c.1 c.2 p.1 p.2 (side c p) hc.1 hc.2.1 hc.may hc.2.2.1 hl hp.1 hp.2.1 hs w
end Go.Proofs.Ytechocnednepiaa
