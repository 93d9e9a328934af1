/- The contract of the document's own Up. -/
import Derived.Test.YtfkajefminopjabDoorO1
import Derived.Test.YtfkajefminopjabDoorH1
import Derived.Deep.RegionHeld3
namespace Go.Proofs.YtfkajefminopjabDoor
open Go.RowKit

/-- The first i bits of an address, those behind the first c taken as 0. -/
def Ad.upTo (a : Int) (c i : Nat) : Int := if i ≤ c then a / 2 ^ (32 - i) else a / 2 ^ (32 - c) * 2 ^ (i - c)

theorem Ad.upTo_zero (a : Int) (c : Nat) (h0 : 0 ≤ a) (h1 : a ≤ 4294967295) : Ad.upTo a c 0 = 0 := by
  unfold Ad.upTo
  rw [if_pos (Nat.zero_le _)]
  exact Int.ediv_eq_zero_of_lt h0 (by have : (2 : Int) ^ (32 - 0) = 4294967296 := by decide
                                      omega)

theorem Ad.upTo_low (a : Int) (c i : Nat) (h : i < c) (hc : c ≤ 31) : Ad.upTo a c (i + 1) = Ad.upTo a c i * 2 + Ad.bit a i := by
  unfold Ad.upTo Ad.bit
  rw [if_pos (by omega), if_pos (by omega)]
  have e : (2 : Int) ^ (32 - i) = 2 ^ (31 - i) * 2 := by rw [show 32 - i = (31 - i) + 1 by omega, Int.pow_succ]
  have e2 : 32 - (i + 1) = 31 - i := by omega
  rw [e, e2, ← Int.ediv_ediv_of_nonneg (Int.le_of_lt (Int.pow_pos (by decide)))]
  omega

theorem Ad.upTo_high (a : Int) (c i : Nat) (h : c ≤ i) : Ad.upTo a c (i + 1) = Ad.upTo a c i * 2 := by
  unfold Ad.upTo
  rw [if_neg (by omega)]
  by_cases e : i = c
  · subst e
    rw [if_pos (Nat.le_refl _), show i + 1 - i = 1 by omega]
    rfl
  · rw [if_neg (by omega), show i + 1 - c = (i - c) + 1 by omega, Int.pow_succ, Int.mul_assoc]

theorem Ad.upTo_bd (a : Int) (c : Nat) (hc : c ≤ 31) (h0 : 0 ≤ a) (h1 : a ≤ 4294967295) : ∀ i : Nat, i ≤ 32 → 0 ≤ Ad.upTo a c i ∧ Ad.upTo a c i < 2 ^ i
  | 0, _ => by rw [Ad.upTo_zero a c h0 h1]; decide
  | i + 1, hi => by
    obtain ⟨g0, g1⟩ := Ad.upTo_bd a c hc h0 h1 i (by omega)
    have e : (2 : Int) ^ (i + 1) = 2 ^ i * 2 := Int.pow_succ 2 i
    rw [e]
    by_cases h : i < c
    · rw [Ad.upTo_low a c i h hc]
      have := Ad.bit_le a i
      omega
    · rw [Ad.upTo_high a c i (by omega)]
      omega

theorem Ad.upTo_end (a : Int) (c : Nat) (hc : c ≤ 31) : Ad.upTo a c 32 = Ad.cut a c := by
  unfold Ad.upTo Ad.cut Ad.sz
  rw [if_neg (by omega), Int.toNat_natCast]
  simp

theorem Ad.pow31 (i : Nat) (h : i ≤ 31) : (2 : Int) ^ i ≤ 2147483648 := by
  have h1 : (2 : Nat) ^ i ≤ 2 ^ 31 := Nat.pow_le_pow_right (by decide) h
  have h2 : ((2 ^ i : Nat) : Int) ≤ ((2 ^ 31 : Nat) : Int) := by exact_mod_cast h1
  have h3 : ((2 ^ 31 : Nat) : Int) = 2147483648 := by decide
  have h4 : ((2 ^ i : Nat) : Int) = 2 ^ i := by simp
  omega

set_option maxHeartbeats 2000000 in
set_option maxRecDepth 100000 in
theorem refUp_any (a : Int) (c : Nat) (w : World) (h0 : 0 ≤ a) (h1 : a ≤ 4294967295) (hc : c ≤ 31) :
    Calls Tryd.prog 22 #[.agg #[.int .u32 a, .int .i64 ((c : Int) + 1)]] w fun e w' => e = .returned (.agg #[.int .u32 (Ad.cut a c), .int .i64 c]) ∧ Below w.heap.size w w' := by
  go_enter Tryd.func22, Tryd.ntmps22
  go_wp2_with fail
  have hcc : (c : Int) + 1 - 1 = c := by omega
  generalize hN : w.heap.size = N
  go_loopw [4] (fun t wr => ∃ (k : Nat) (w0 : World), k ≤ 32 ∧ t = .int .i64 k ∧ N = w0.heap.size ∧ Below w.heap.size w w0 ∧ wr = ((w0.alloc (.cells #[.int .u32 a, .int .i64 ((c : Int) + 1)] 25)).alloc (.cells #[.int .u32 0, .int .i64 0] 25)).alloc (.cells #[.int .u32 (Ad.upTo a c k), .int .i64 c] 25)) (fun t _ => 32 - (intOf t).toNat)
  case atStart =>
    refine ⟨0, w, by decide, rfl, hN.symm, brefl w, ?_⟩
    rw [Ad.upTo_zero a c h0 h1]
  case round =>
    obtain ⟨k, w0, hk, rfl, rfl, hb0, rfl⟩ := hrel
    have HB := hide (Ad.upTo_bd a c hc h0 h1 k hk)
    have HN := hide hN
    have B0 := hide hb0
    clear hN hb0
    by_cases hlt : k < 32
    · have hp := Ad.pow31 k (by omega)
      have hz0 := HB.out.1
      have hz1 : Ad.upTo a c k < 2147483648 := by have := HB.out.2; omega
      have HL := hide (Ad.upTo_low a c k)
      have HH := hide (Ad.upTo_high a c k)
      generalize Ad.upTo a c k = z at *
      clear hp HB
      by_cases hkc : k < c
      · have hb := Ad.bit_le a k
        have HL' := hide (HL.out hkc hc)
        clear HL HH
        go_wp2_with fail
        go_region_with (first | (go_at_call 19; refine (bit_any _ _ _ h0 h1 (by omega)).mono ?_; rintro e w' ⟨rfl, rfl⟩))
        all_goals
          go_wp2_with fail
          refine ⟨⟨k + 1, w0.drew, by omega, by go_num, rfl, B0.out.drew, ?_⟩, by simp [intOf]; omega⟩
          rw [HL'.out]
          have hw : IntKind.u32.wrap (z * 2 + Ad.bit a k) = z * 2 + Ad.bit a k := by
            have h1 := hb.1
            have h2 := hb.2
            rw [IntKind.wrap_u32']
            omega
          first | rfl | (rw [hw]; rfl)
      · go_wp2_with fail
        refine ⟨⟨k + 1, w0, by omega, by go_num, rfl, B0.out, ?_⟩, by simp [intOf]; omega⟩
        rw [HH.out (by omega)]
    · have hk32 : k = 32 := by omega
      subst hk32
      rw [Ad.upTo_end a c hc]
      go_wp2_with fail
      exact bodyPost_ret (v := .agg #[.int .u32 (Ad.cut a c), .int .i64 c]) (by simp [results, Tryd.results22, go_sem]) rfl ⟨rfl, balloc (balloc (balloc B0.out _) _) _⟩
end Go.Proofs.YtfkajefminopjabDoor
