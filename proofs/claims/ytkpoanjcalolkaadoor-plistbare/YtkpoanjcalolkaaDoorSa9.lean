import Derived.Test.YtkpoanjcalolkaaDoorSa5
import Derived.Test.YtkpoanjcalolkaaDoorSa8
/- The library's sort at uint32: breakPatternsOrdered. -/
namespace Go.Proofs.YtkpoanjcalolkaaDoor
open Go.RowKit Go.Sort Go.Lib

/-- What stands behind k of the three exchanges. -/
def bst (a m : Nat) (d : Array Int) : Nat → UInt64 × Array Int
  | 0 => (UInt64.ofNat m, d)
  | k + 1 => breakStep a m (1 <<< bitsLen m) (bst a m d k) (a + m / 4 * 2 - 1 + k)

theorem bp_eq (a m : Nat) (d : Array Int) (h : 8 ≤ m) : breakPatterns d a (a + m) = (bst a m d 3).2 := by
  unfold breakPatterns
  simp only [Nat.add_sub_cancel_left, ge_iff_le, if_pos h]
  rfl

theorem pow_bd (m : Nat) (h : 1 ≤ m) : 1 ≤ 1 <<< bitsLen m ∧ 1 <<< bitsLen m ≤ 2 * m := by
  rw [Nat.one_shiftLeft]
  refine ⟨Nat.one_le_two_pow, ?_⟩
  cases hk : bitsLen m with
  | zero => simp; omega
  | succ k =>
    have h1 : ¬ bitsLen m ≤ k := by omega
    rw [bitsLen_le_iff] at h1
    rw [Nat.pow_succ]
    omega

/-- The row holds dk; the random number is in a new block B. -/
def Rn (w : World) (blk off : Nat) (d dk : Array Int) (B X : Nat) (W : World) : Prop := SW w blk off d dk W ∧ W.cell? ⟨B, 0, none⟩ = some (.int .u64 X) ∧ W.frozen? ⟨B, 0, none⟩ = false ∧ w.heap.size ≤ B

theorem rn_set {w W : World} {blk off : Nat} {d dk : Array Int} {B X : Nat} (h : Rn w blk off d dk B X W) (X' : Nat) : Rn w blk off d dk B X' (W.setCell ⟨B, 0, none⟩ (.int .u64 X')) := by
  obtain ⟨⟨hs, n, os, rfl⟩, h1, h2, h3⟩ := h
  refine ⟨⟨hs, n, os.modify (B - w.heap.size) (onCells (·.setIfInBounds 0 (.int .u64 X'))), ?_⟩, ?_, ?_, h3⟩
  · rw [setCell_eq, mapBlock_grow_new _ _ _ _ (by simpa using h3)]
    simp
  · exact World.cell?_setCell_same _ _ _ h1
  · simpa using h2
theorem rn_drew {w W : World} {blk off : Nat} {d dk : Array Int} {B X : Nat} (h : Rn w blk off d dk B X W) (q : Nat) : Rn w blk off d dk B X (W.drewN q) := ⟨sw_drew h.1 q, h.2.1, h.2.2.1, h.2.2.2⟩

theorem rn_swap {w W : World} {blk off : Nat} {d dk : Array Int} {B X : Nat} (hb : blk < w.heap.size) (h : Rn w blk off d dk B X W) (i j : Nat) (hi : i < d.size) (hj : j < d.size) (q : Nat) :
    Rn w blk off d (swp dk i j) B X (((W.drewN q).setCell ⟨blk, off + i, none⟩ (.int .u32 dk[j]!)).setCell ⟨blk, off + j, none⟩ (.int .u32 dk[i]!)) := by
  refine ⟨sw_swap hb h.1 i j hi hj q, ?_, ?_, h.2.2.2⟩
  · have hne : blk ≠ B := by have := h.2.2.2; omega
    rw [World.cell?_setCell_other _ _ _ _ (by simp <;> omega), World.cell?_setCell_other _ _ _ _ (by simp <;> omega)]
    exact h.2.1
  · have := h.2.2.1
    simpa using this

set_option maxHeartbeats 4000000 in
set_option maxRecDepth 100000 in
theorem break_u (blk off cap a m : Nat) (d : Array Int) (w : World) (hH : Holds (Value.int .u32) w blk off d) (hblk : blk < w.heap.size) (h12 : 12 < m) (hb : a + m ≤ d.size) (hsz : d.size ≤ 1000000) :
    Calls Tryd.prog 66 #[.slice (some ⟨blk, off, none⟩) d.size cap, .int .i64 a, .int .i64 ((a : Int) + (m : Int))] w fun e w' => e = .returned (.tuple #[]) ∧ SW w blk off d (breakPatterns d a (a + m)) w' := by
  obtain ⟨M, hM⟩ : ∃ M, M = 1 <<< bitsLen m := ⟨_, rfl⟩
  have hM1 : 1 ≤ M := by rw [hM]; exact (pow_bd m (by omega)).1
  have hM2 : M ≤ 2 * m := by rw [hM]; exact (pow_bd m (by omega)).2
  have CP : Hid (∀ W, Calls Tryd.prog 80 #[.int .i64 m] W fun e w' => e = .returned (.int .u64 (M : Int)) ∧ w' = W) := hide fun W => by rw [hM]; exact pow2_u m (by omega) W
  have HM := hide hM
  have R0 : Hid (Rn w blk off d d w.heap.size m (w.alloc (.cells #[.int .u64 m] 107))) := ⟨sw_alloc (sw_refl hH) _, by simp, by simp, Nat.le_refl _⟩
  have HH := hide hH
  clear hH hM
  have hm2 : (a : Int) + (m : Int) - (a : Int) = (m : Int) := by omega
  have hm8 : (8 : Int) ≤ (m : Int) := by omega
  have hmw : (m : Int) ≤ 1000000 := by omega
  go_enter Tryd.func66, Tryd.ntmps66
  go_wp2_with fail
  refine (CP.out _).mono ?_
  rintro e w1 ⟨rfl, rfl⟩
  generalize w.alloc (.cells #[.int .u64 m] 107) = w1 at R0 ⊢
  clear CP
  go_wp2_with fail
  go_loopw [9] (fun v wr => ∃ (k : Nat), v = .int .i64 ((a + m / 4 * 2 - 1 + k : Nat) : Int) ∧ k ≤ 3 ∧ Rn w blk off d (bst a m d k).2 w.heap.size (bst a m d k).1.toNat wr) (fun v _ => a + m / 4 * 2 + 3 - (intOf v).toNat)
  case atStart =>
    refine ⟨0, by congr 1; omega, by omega, ?_⟩
    have e : (UInt64.ofNat m).toNat = m := by simp; omega
    show Rn w blk off d d w.heap.size (UInt64.ofNat m).toNat w1
    rw [e]
    exact R0.out
  case round =>
    obtain ⟨k, rfl, hk, hrn⟩ := hrel
    obtain ⟨r, hr⟩ : ∃ r, r = (bst a m d k).1 := ⟨_, rfl⟩
    obtain ⟨dk, hdk⟩ : ∃ dk, dk = (bst a m d k).2 := ⟨_, rfl⟩
    rw [← hr, ← hdk] at hrn
    have HRN := hide hrn
    have HR := hide hr
    have HDK := hide hdk
    have HSK := hide hrn.1
    clear hrn hr hdk R0
    by_cases hk3 : k < 3
    · have hk3' : (((a + m / 4 * 2 - 1 + k : Nat) : Int)) ≤ (a : Int) + (m : Int) / 4 * 2 + 1 := by omega
      obtain ⟨X, hX⟩ : ∃ X, X = r.toNat := ⟨_, rfl⟩
      have lX : X < 18446744073709551616 := by rw [hX]; exact r.toNat_lt
      obtain ⟨X', hX'⟩ : ∃ X', X' = xorNextN X := ⟨_, rfl⟩
      have lX' : X' < 18446744073709551616 := by rw [hX']; exact xorNextN_lt X lX
      obtain ⟨O, hO⟩ : ∃ O, O = X' &&& (M - 1) := ⟨_, rfl⟩
      have lO : O ≤ M - 1 := by rw [hO]; exact Nat.and_le_right
      have eAnd : bits .and .u64 (X' : Int) ((M : Int) - 1) = (O : Int) := by
        rw [show ((M : Int) - 1) = ((M - 1 : Nat) : Int) by omega, bits_and_u64_nat _ _ lX' (by omega), hO]
      have CN : Hid (Calls Tryd.prog 81 #[.pointer (some ⟨w.heap.size, 0, none⟩)] wr fun e w' => e = .returned (.int .u64 (X' : Int)) ∧ w' = (wr.setCell ⟨w.heap.size, 0, none⟩ (.int .u64 (X' : Int))).drewN 3) := by
        have h2 := HRN.out.2.1
        rw [← hX] at h2
        have := next_u w.heap.size 0 X lX wr h2 HRN.out.2.2.1
        rw [← hX'] at this
        exact hide this
      have RN2 := hide (rn_drew (rn_set HRN.out X') 3)
      have HX : Hid (X' = (xorNext r).toNat) := by show _ = _; rw [hX', hX, xorNext_toNat]
      have HO := hide hO
      obtain ⟨I, hI⟩ : ∃ I, I = a + m / 4 * 2 - 1 + k := ⟨_, rfl⟩
      rw [← hI] at hk3' ⊢
      have hIb : I < d.size := by omega
      have HI := hide hI
      clear hX hX' hO hI lX HRN
      go_wp2_with fail
      refine CN.out.mono ?_
      rintro e w2 ⟨rfl, rfl⟩
      generalize (wr.setCell ⟨w.heap.size, 0, none⟩ (.int .u64 (X' : Int))).drewN 3 = w3 at RN2 ⊢
      clear CN
      have SN2 := hide RN2.out.1
      by_cases hge : m ≤ O
      · have hge' : (m : Int) ≤ (O : Int) := by omega
        have NEXT : Hid (∀ W, Rn w blk off d (swp dk I (a + (O - m))) w.heap.size X' W → Rn w blk off d (bst a m d (k + 1)).2 w.heap.size (bst a m d (k + 1)).1.toNat W) := by
          show ∀ W, _
          intro W hW
          have e : bst a m d (k + 1) = (xorNext r, swp dk I (a + (O - m))) := by
            show breakStep a m (1 <<< bitsLen m) (bst a m d k) (a + m / 4 * 2 - 1 + k) = _
            rw [← HM.out, ← HI.out]
            unfold breakStep
            rw [← HR.out, ← HDK.out]
            simp only [ge_iff_le]
            rw [← HX.out, ← HO.out, if_pos hge]
          rw [e]
          show Rn w blk off d (swp dk I (a + (O - m))) w.heap.size (xorNext r).toNat W
          rw [← HX.out]
          exact hW
        have hho := sw_holds HH.out hblk SN2.out
        have hsize : dk.size = d.size := SN2.out.1
        obtain ⟨G, hG⟩ : ∃ G : Nat → Int, ∀ t, G t = dk[t]! := ⟨fun t => dk[t]!, fun _ => rfl⟩
        have hcw : ∀ t, t < d.size → w3.cell? ⟨blk, off + t, none⟩ = some (.int .u32 (G t)) := fun t ht => by rw [hG]; exact (hho.1 t (by omega)).1
        have hfw : ∀ t, t < d.size → w3.frozen? ⟨blk, off + t, none⟩ = false := fun t ht => (hho.1 t (by omega)).2
        have HG := hide hG
        clear hG hho hsize
        by_cases hEq : I = a + (O - m)
        · subst hEq
          go_wp2_with fail
          go_region
          go_wp2_with fail
          refine ⟨⟨k + 1, by rw [show a + m / 4 * 2 - 1 + (k + 1) = a + (O - m) + 1 by have := HI.out; omega]; go_num, by omega, NEXT.out _ ?_⟩, by have := HI.out; simp [intOf] <;> omega⟩
          simp only [HG.out]
          exact rn_swap hblk RN2.out (a + (O - m)) (a + (O - m)) (by omega) (by omega) _
        · rcases Nat.lt_or_gt_of_ne hEq with hlt | hlt
          · go_wp2_with fail
            go_region
            go_wp2_with fail
            refine ⟨⟨k + 1, by rw [show a + m / 4 * 2 - 1 + (k + 1) = I + 1 by have := HI.out; omega]; go_num, by omega, NEXT.out _ ?_⟩, by have := HI.out; simp [intOf] <;> omega⟩
            simp only [HG.out]
            exact rn_swap hblk RN2.out I (a + (O - m)) (by omega) (by omega) _
          · go_wp2_with fail
            go_region
            go_wp2_with fail
            refine ⟨⟨k + 1, by rw [show a + m / 4 * 2 - 1 + (k + 1) = I + 1 by have := HI.out; omega]; go_num, by omega, NEXT.out _ ?_⟩, by have := HI.out; simp [intOf] <;> omega⟩
            simp only [HG.out]
            exact rn_swap hblk RN2.out I (a + (O - m)) (by omega) (by omega) _
      · have hge' : ¬ (m : Int) ≤ (O : Int) := by omega
        have NEXT : Hid (∀ W, Rn w blk off d (swp dk I (a + O)) w.heap.size X' W → Rn w blk off d (bst a m d (k + 1)).2 w.heap.size (bst a m d (k + 1)).1.toNat W) := by
          show ∀ W, _
          intro W hW
          have e : bst a m d (k + 1) = (xorNext r, swp dk I (a + O)) := by
            show breakStep a m (1 <<< bitsLen m) (bst a m d k) (a + m / 4 * 2 - 1 + k) = _
            rw [← HM.out, ← HI.out]
            unfold breakStep
            rw [← HR.out, ← HDK.out]
            simp only [ge_iff_le]
            rw [← HX.out, ← HO.out, if_neg hge]
          rw [e]
          show Rn w blk off d (swp dk I (a + O)) w.heap.size (xorNext r).toNat W
          rw [← HX.out]
          exact hW
        have hho := sw_holds HH.out hblk SN2.out
        have hsize : dk.size = d.size := SN2.out.1
        obtain ⟨G, hG⟩ : ∃ G : Nat → Int, ∀ t, G t = dk[t]! := ⟨fun t => dk[t]!, fun _ => rfl⟩
        have hcw : ∀ t, t < d.size → w3.cell? ⟨blk, off + t, none⟩ = some (.int .u32 (G t)) := fun t ht => by rw [hG]; exact (hho.1 t (by omega)).1
        have hfw : ∀ t, t < d.size → w3.frozen? ⟨blk, off + t, none⟩ = false := fun t ht => (hho.1 t (by omega)).2
        have HG := hide hG
        clear hG hho hsize
        by_cases hEq : I = a + O
        · subst hEq
          go_wp2_with fail
          go_region
          go_wp2_with fail
          refine ⟨⟨k + 1, by rw [show a + m / 4 * 2 - 1 + (k + 1) = a + O + 1 by have := HI.out; omega]; go_num, by omega, NEXT.out _ ?_⟩, by have := HI.out; simp [intOf] <;> omega⟩
          simp only [HG.out]
          exact rn_swap hblk RN2.out (a + O) (a + O) (by omega) (by omega) _
        · rcases Nat.lt_or_gt_of_ne hEq with hlt | hlt
          · go_wp2_with fail
            go_region
            go_wp2_with fail
            refine ⟨⟨k + 1, by rw [show a + m / 4 * 2 - 1 + (k + 1) = I + 1 by have := HI.out; omega]; go_num, by omega, NEXT.out _ ?_⟩, by have := HI.out; simp [intOf] <;> omega⟩
            simp only [HG.out]
            exact rn_swap hblk RN2.out I (a + O) (by omega) (by omega) _
          · go_wp2_with fail
            go_region
            go_wp2_with fail
            refine ⟨⟨k + 1, by rw [show a + m / 4 * 2 - 1 + (k + 1) = I + 1 by have := HI.out; omega]; go_num, by omega, NEXT.out _ ?_⟩, by have := HI.out; simp [intOf] <;> omega⟩
            simp only [HG.out]
            exact rn_swap hblk RN2.out I (a + O) (by omega) (by omega) _
    · have hk3' : ¬ (((a + m / 4 * 2 - 1 + k : Nat) : Int)) ≤ (a : Int) + (m : Int) / 4 * 2 + 1 := by omega
      have hkk : k = 3 := by omega
      go_wp2_with fail
      go_end0
      refine ⟨rfl, ?_⟩
      rw [bp_eq a m d (by omega), ← hkk, ← HDK.out]
      exact HSK.out
end Go.Proofs.YtkpoanjcalolkaaDoor
