/- The contract of addr's Above. -/
import Derived.Test.YtfkajefminopjabDoorA4
import Derived.Test.YtfkajefminopjabDoorE1
namespace Go.Proofs.YtfkajefminopjabDoor
open Go.RowKit

set_option maxHeartbeats 1000000 in
theorem above_yes (a b c d : Int) (w : World) (ha : 0 ≤ a) (ha2 : a ≤ 4294967295) (hc : 0 ≤ c) (hc2 : c ≤ 4294967295) (hm : Ad.may a b = true) (hm2 : Ad.may c d = true)
    (hb0 : 0 ≤ b) (hb2 : b ≤ 32) (hd0 : 0 ≤ d) (hd2 : d ≤ 32) :
    Calls Tryd.prog 42 #[.agg #[.int .u32 a, .int .i64 b], .agg #[.int .u32 c, .int .i64 d]] w fun e w' =>
      ∃ k : Nat, e = .returned (.tuple #[.agg #[.int .u32 (Ad.cut a k), .int .i64 k], .int .i64 0]) ∧ (k : Int) ≤ b ∧ (k : Int) ≤ d ∧ Ad.cut a k = Ad.cut c k ∧ ((k : Int) = b ∨ (k : Int) = d ∨ Ad.cut a (k + 1) ≠ Ad.cut c (k + 1)) ∧ Below w.heap.size w w' := by
  have HA : Hid (Ad.cut a 0 = 0) := Ad.cut_zero a ha (by omega)
  have HC : Hid (Ad.cut c 0 = 0) := Ad.cut_zero c hc (by omega)
  go_enter Tryd.func42, Tryd.ntmps42
  go_wp2_with fail
  refine (may_is _ _ _ hm _ ha ha2).mono ?_
  rintro e w1 ⟨rfl, hb1⟩
  obtain ⟨hc1, hf1⟩ := bcell hb1
  have hz : w.heap.size + 2 < w1.heap.size := by have := hb1.size; simp at this; omega
  have hz1 : w.heap.size + 1 < w1.heap.size := by omega
  have hz0 : w.heap.size < w1.heap.size := by omega
  go_wp2_with fail
  refine (may_is _ _ _ hm2 _ hc hc2).mono ?_
  rintro e w2 ⟨rfl, hb2⟩
  obtain ⟨hc2', hf2⟩ := bcell hb2
  have hy : w.heap.size + 2 < w2.heap.size := by have := hb2.size; omega
  have hy1 : w.heap.size + 1 < w2.heap.size := by omega
  have hy0 : w.heap.size < w2.heap.size := by omega
  have p0 : w2.cell? ⟨w.heap.size, 0, none⟩ = some (.int .u32 a) := by simp [hc2', hc1, hz0, go_sem]
  have p1 : w2.cell? ⟨w.heap.size, 1, none⟩ = some (.int .i64 b) := by simp [hc2', hc1, hz0, go_sem]
  have q0 : w2.cell? ⟨w.heap.size + 1, 0, none⟩ = some (.int .u32 c) := by simp [hc2', hc1, hz1, go_sem]
  have q1 : w2.cell? ⟨w.heap.size + 1, 1, none⟩ = some (.int .i64 d) := by simp [hc2', hc1, hz1, go_sem]
  have r0 : w2.cell? ⟨w.heap.size + 1 + 1, 0, none⟩ = some (.int .u32 0) := by simp [hc2', hc1, hz, go_sem]
  have r1 : w2.cell? ⟨w.heap.size + 1 + 1, 1, none⟩ = some (.int .i64 0) := by simp [hc2', hc1, hz, go_sem]
  have f0 : w2.frozen? ⟨w.heap.size + 1 + 1, 0, none⟩ = false := by simp [hf2, hf1, hz, go_sem]
  have f1 : w2.frozen? ⟨w.heap.size + 1 + 1, 1, none⟩ = false := by simp [hf2, hf1, hz, go_sem]
  have B2 : Hid (Below w.heap.size w w2) := bthen (bthen (balloc (balloc (balloc (brefl w) _) _) _) hb1) hb2
  clear hc1 hf1 hc2' hf2 hz hz1 hz0 hb1 hb2
  go_wp2_with fail
  all_goals
    go_loopw [25] (fun i wr => ∃ k : Nat, (k : Int) ≤ b + 1 ∧ (k : Int) ≤ d + 1 ∧ i = .int .i64 k ∧ (∀ j : Nat, j < k → Ad.cut a j = Ad.cut c j) ∧ Below w2.heap.size w2 wr ∧ w2.heap.size < wr.heap.size ∧
        wr.cell? ⟨w2.heap.size, 0, none⟩ = some (.int .u32 (Ad.cut a ((k - 1 : Nat) : Int))) ∧ wr.cell? ⟨w2.heap.size, 1, none⟩ = some (.int .i64 ((k - 1 : Nat) : Int)) ∧
        wr.frozen? ⟨w2.heap.size, 0, none⟩ = false ∧ wr.frozen? ⟨w2.heap.size, 1, none⟩ = false) (fun i _ => 33 - (intOf i).toNat)
    case atStart =>
      exact ⟨0, by simp; omega, by simp; omega, rfl, fun j hj => absurd hj (Nat.not_lt_zero _), (Below.refl _ _).alloc (Nat.le_refl _) _, by simp, by simp [HA.out], by simp, by simp [go_sem], by simp [go_sem]⟩
    case round =>
      obtain ⟨k, hk1, hk2, rfl, hall, hbr, hsz, e0, e1, g0, g1⟩ := hrel
      have p0' := (hbr.cell (p := ⟨w.heap.size, 0, none⟩) hy0).trans p0
      have q0' := (hbr.cell (p := ⟨w.heap.size + 1, 0, none⟩) hy1).trans q0
      have r0' := (hbr.cell (p := ⟨w.heap.size + 1 + 1, 0, none⟩) hy).trans r0
      have r1' := (hbr.cell (p := ⟨w.heap.size + 1 + 1, 1, none⟩) hy).trans r1
      have f0' := (hbr.frozen (p := ⟨w.heap.size + 1 + 1, 0, none⟩) hy).trans f0
      have f1' := (hbr.frozen (p := ⟨w.heap.size + 1 + 1, 1, none⟩) hy).trans f1
      have hx0 := Nat.lt_of_lt_of_le hy0 hbr.size
      have hx1 := Nat.lt_of_lt_of_le hy1 hbr.size
      have hx2 := Nat.lt_of_lt_of_le hy hbr.size
      have HALL : Hid (∀ j : Nat, j < k → Ad.cut a j = Ad.cut c j) := hall
      clear hall
      by_cases hlt : (k : Int) < b + 1 ∧ (k : Int) < d + 1
      · obtain ⟨hl1, hl2⟩ := hlt
        cases hE : (Ad.cut a k == Ad.cut c k)
        · go_wp2_with (go_at_call 28; refine (cut_any _ _ _ (by omega) (by omega) (by omega) (by omega)).mono ?_; rintro e w3 ⟨rfl, rfl⟩)
          have hneq := neqP
          have hgd := guardP
          go_quiet ((go_at_call 28; exact Calls.quiet_of_same (cut_any _ _ _ (by omega) (by omega) (by omega) (by omega))))
          clear hneq hgd
          go_wp2_with fail
          have hne : Ad.cut a k ≠ Ad.cut c k := by simpa using hE
          have hk0 : k ≠ 0 := fun h0 => hne (by subst h0; exact HA.out.trans HC.out.symm)
          have ek : ((k - 1 : Nat) : Int) + 1 = k := by omega
          exact bodyPost_ret (v := .tuple #[.agg #[.int .u32 (Ad.cut a ((k - 1 : Nat) : Int)), .int .i64 ((k - 1 : Nat) : Int)], .int .i64 0]) (by simp [results, Tryd.results42, go_sem, r0', r1', hx2]) rfl
            ⟨k - 1, rfl, by omega, by omega, HALL.out _ (by omega), .inr (.inr (by rw [ek]; exact hne)), bset (bset (below_drewN (balloc (bthen B2.out hbr) _) nq) (by simp; omega) _) (by simp; omega) _⟩
        · go_wp2_with (go_at_call 28; refine (cut_any _ _ _ (by omega) (by omega) (by omega) (by omega)).mono ?_; rintro e w3 ⟨rfl, rfl⟩)
          have hneq := neqP
          have hgd := guardP
          go_quiet ((go_at_call 28; exact Calls.quiet_of_same (cut_any _ _ _ (by omega) (by omega) (by omega) (by omega))))
          clear hneq hgd
          go_wp2_with fail
          refine ⟨⟨k + 1, by omega, by omega, by go_num, fun j hj => ?_, ((below_drewN (hbr.alloc (Nat.le_of_lt hsz) _) nq).setCell (by simp) _).setCell (by simp) _, by simp; omega, ?_, ?_, ?_, ?_⟩, by simp [intOf]; omega⟩
          · rcases Nat.lt_succ_iff_lt_or_eq.1 hj with h1 | rfl
            · exact HALL.out j h1
            · simpa using hE
          all_goals simp [go_sem, hsz, e0, e1, g0, g1]
      · go_wp2_with fail
        have hk0 : k ≠ 0 := by omega
        exact bodyPost_ret (v := .tuple #[.agg #[.int .u32 (Ad.cut a ((k - 1 : Nat) : Int)), .int .i64 ((k - 1 : Nat) : Int)], .int .i64 0]) (by simp [results, Tryd.results42, go_sem, r0', r1']) rfl
          ⟨k - 1, rfl, by omega, by omega, HALL.out _ (by omega), by omega, bset (bset (bthen B2.out hbr) (by simp; omega) _) (by simp; omega) _⟩
end Go.Proofs.YtfkajefminopjabDoor
