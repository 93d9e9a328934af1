/- The contracts of comm's Set and of the document's Set. -/
import Derived.Test.YtngfoijmknclhaaGreatDoorJ03
namespace Go.Proofs.YtngfoijmknclhaaGreatDoor.Cm
open Go.RowKit Go.Sort
def Co.okAt (l : List Co.C) (i : Nat) : Bool := Co.may l[i]! && (i == 0 || Co.bef l[i - 1]! l[i]!)
def Co.set (l : List Co.C) : Bool := decide (l.length ≤ 8) && (List.range l.length).all (Co.okAt l)

theorem Co.bang (l : List Co.C) (i : Nat) (h : i < l.length) : l[i]! = l[i] := by simp [h]
theorem Co.bef_ord (x y : Co.C) : Co.bef x y = decide (Co.ord x y < 0) := by
  unfold Co.bef Co.ord Co.ci
  by_cases h1 : x.1 < y.1
  · simp [h1]
  · by_cases h2 : y.1 < x.1
    · simp [h1, h2]
      omega
    · have : x.1 = y.1 := by omega
      by_cases h3 : x.2 < y.2
      · simp [this, h3]
      · by_cases h4 : y.2 < x.2
        · simp [this, h3, h4]
        · simp [this, h3, h4]
theorem Co.set_iff (l : List Co.C) : Co.set l = true ↔ l.length ≤ 8 ∧ ∀ i, i < l.length → Co.okAt l i = true := by
  simp [Co.set, List.all_eq_true]
theorem Co.set_long (l : List Co.C) (h : 8 < l.length) : Co.set l = false := by
  have : ¬ l.length ≤ 8 := by omega
  simp [Co.set, this]
theorem Co.set_bad (l : List Co.C) (k : Nat) (hk : k < l.length) (h : Co.okAt l k = false) : Co.set l = false := by
  cases hs : Co.set l
  · rfl
  · have := ((Co.set_iff l).1 hs).2 k hk
    rw [h] at this; cases this
theorem Co.set_ok (l : List Co.C) (h8 : l.length ≤ 8) (h : ∀ j, j < l.length → Co.okAt l j = true) : Co.set l = true := (Co.set_iff l).2 ⟨h8, h⟩
theorem Co.ok_zero (l : List Co.C) (h : 0 < l.length) : Co.okAt l 0 = Co.may l[0] := by simp [Co.okAt, Co.bang l 0 h]
theorem Co.ok_may (l : List Co.C) (k : Nat) (h : k < l.length) (hm : Co.may l[k] = false) : Co.okAt l k = false := by simp [Co.okAt, Co.bang l k h, hm]
theorem Co.ok_succ (l : List Co.C) (m : Nat) (h : m + 1 < l.length) : Co.okAt l (m + 1) = (Co.may l[m + 1] && Co.bef l[m] l[m + 1]) := by
  simp [Co.okAt, Co.bang l (m + 1) h, Co.bang l m (by omega)]

theorem two_regrown {W : World} {n : Nat} {a b : Int} (h : Two W n a b) : (∀ d os, (Sort.grow (redrawn W d) os).cell? ⟨n, 0, none⟩ = some (.int .i64 a)) ∧ (∀ d os, (Sort.grow (redrawn W d) os).cell? ⟨n, 1, none⟩ = some (.int .i64 b)) :=
  ⟨fun d os => cell_regrown h.1 d os, fun d os => cell_regrown h.2.1 d os⟩

set_option maxHeartbeats 4000000 in
theorem set_row (ao : Option Addr) (ca : Nat) (l : List Co.C) (w : World) (hA : Co.slot w ao l) (hlen : l.length ≤ 8) :
    Calls Tryz.prog 85 #[.slice ao l.length ca] w fun e w' => e = .returned (.bool (Co.set l)) ∧ Below w.heap.size w w' := by
  have HA := hide hA
  clear hA
  have hgt : ¬ (8 : Int) < (l.length : Int) := by omega
  go_enter Tryz.func85, Tryz.ntmps85
  go_wp2_with fail
  go_loopw [10] (fun v wr => ∃ k : Nat, v = .int .i64 k ∧ k ≤ l.length ∧ (∀ j, j < k → Co.okAt l j = true) ∧ Below w.heap.size w wr) (fun v _ => l.length - (intOf v).toNat)
  case atStart => exact ⟨0, rfl, Nat.zero_le _, fun j hj => absurd hj (Nat.not_lt_zero _), brefl w⟩
  case round =>
    obtain ⟨k, rfl, hk, hall, hbr⟩ := hrel
    have HALL := hide hall
    have HBR := hide hbr
    clear hall hbr
    by_cases hkl : k < l.length
    · have hkl' : (k : Int) < (l.length : Int) := by omega
      obtain ⟨b, off, rfl, hrd⟩ := Co.slot_at HA.out hkl
      have hrd' := Co.reads_below hrd HBR.out
      obtain ⟨e0, e1⟩ := Co.reads_at hrd' k hkl
      have HM0 := hide (Co.ok_may l k hkl)
      have HRD := hide hrd'
      clear hrd hrd'
      obtain ⟨y, hy⟩ : ∃ y, y = l[k] := ⟨_, rfl⟩
      rw [← hy] at e0 e1 HM0
      have HY := hide hy
      clear hy
      obtain ⟨y0, y1⟩ := y
      have hbl : b < wr.heap.size := block_lt_of_cell e0
      cases hm : Co.may (y0, y1)
      · have HM := hide hm
        clear hm
        go_wp2_with fail
        have TB := two_new wr y0 y1 39
        have B1 := hide (balloc HBR.out (.cells #[.int .i64 y0, .int .i64 y1] 39))
        generalize wr.alloc (.cells #[.int .i64 y0, .int .i64 y1] 39) = W1 at *
        generalize wr.heap.size = R at *
        obtain ⟨r0, r1⟩ := two_regrown TB
        refine wp_region_quiet_below (by kernel_rfl) (by kernel_rfl) ?_
        repeat (go_big_quiet_step ((go_at_call 92; exact Calls.regrown_of (may_is _ _ _ HM.out _))))
        refine wpQuiet_nil ?_
        rintro _ ⟨⟨dd, os⟩, rfl⟩
        have hb1 := below_regrown W1 dd os
        generalize Sort.grow (redrawn W1 dd) os = w2 at hb1
        have B2 := hide (bthen B1.out hb1)
        clear hb1 r0 r1
        go_wp2_with fail
        go_ret
        exact ⟨ret_bool (Co.set_bad l k hkl (HM0.out HM.out)).symm, B2.out⟩
      · have HM := hide hm
        clear hm
        rcases Nat.eq_zero_or_pos k with hk0 | hk0
        · subst hk0
          have HOK : Hid (Co.okAt l 0 = true) := (Co.ok_zero l hkl).trans (by rw [← HY.out]; exact HM.out)
          simp only [Nat.zero_mul, Nat.add_zero] at e0 e1
          go_wp2_with fail
          have TB := two_new wr y0 y1 39
          have B1 := hide (balloc HBR.out (.cells #[.int .i64 y0, .int .i64 y1] 39))
          generalize wr.alloc (.cells #[.int .i64 y0, .int .i64 y1] 39) = W1 at *
          generalize wr.heap.size = R at *
          obtain ⟨r0, r1⟩ := two_regrown TB
          refine wp_region_quiet_below (by kernel_rfl) (by kernel_rfl) ?_
          repeat (go_big_quiet_step ((go_at_call 92; exact Calls.regrown_of (may_is _ _ _ HM.out _))))
          refine wpQuiet_nil ?_
          rintro _ ⟨⟨dd, os⟩, rfl⟩
          have hb1 := below_regrown W1 dd os
          generalize Sort.grow (redrawn W1 dd) os = w2 at hb1
          have B2 := hide (bthen B1.out hb1)
          clear hb1 r0 r1
          go_wp2_with fail
          refine ⟨⟨1, by go_num, by omega, fun j hj => ?_, B2.out⟩, by simp [intOf] <;> omega⟩
          obtain rfl : j = 0 := by omega
          exact HOK.out
        · obtain ⟨m, rfl⟩ : ∃ m, k = m + 1 := ⟨k - 1, by omega⟩
          obtain ⟨f0, f1⟩ := Co.reads_at HRD.out m (by omega)
          have HOK := hide (Co.ok_succ l m hkl)
          obtain ⟨z, hz⟩ : ∃ z, z = l[m] := ⟨_, rfl⟩
          rw [← hz] at f0 f1 HOK
          rw [← HY.out] at HOK
          clear hz
          obtain ⟨z0, z1⟩ := z
          obtain ⟨o, ho⟩ : ∃ o, Co.ord (z0, z1) (y0, y1) = o := ⟨_, rfl⟩
          rw [HM.out, Co.bef_ord, ho, Bool.true_and] at HOK
          have HO := hide ho
          clear ho
          have hml : (m : Int) < (l.length : Int) := by omega
          have hm0 : (0 : Int) < ((m + 1 : Nat) : Int) := by omega
          have hpos : (0 : Int) < (m : Int) + 1 := by omega
          have hw1 : IntKind.i64.wrap ((m : Int) + 1 - 1) = m := by rw [IntKind.wrap_i64]; omega
          have hw2 : ((m : Int) + 1 - 1) = m := by omega
          have hge : decide (0 ≤ o) = !decide (o < 0) := by by_cases h : 0 ≤ o <;> simp [h] <;> omega
          cases hd : decide (o < 0)
          all_goals
            rw [hd] at HOK hge
            simp only [Bool.not_false, Bool.not_true] at hge
            go_wp2_with fail
            have TB := two_new wr y0 y1 39
            have F0 := (World.cell?_alloc_past (w := wr) (.cells #[.int .i64 y0, .int .i64 y1] 39) b (off + m * 2) hbl).trans f0
            have F1 := (World.cell?_alloc_past (w := wr) (.cells #[.int .i64 y0, .int .i64 y1] 39) b (off + m * 2 + 1) hbl).trans f1
            have B1 := hide (balloc HBR.out (.cells #[.int .i64 y0, .int .i64 y1] 39))
            generalize wr.alloc (.cells #[.int .i64 y0, .int .i64 y1] 39) = W1 at *
            generalize wr.heap.size = R at *
            obtain ⟨r0, r1⟩ := two_regrown TB
            have s0 := fun dd os => cell_regrown F0 dd os
            have s1 := fun dd os => cell_regrown F1 dd os
            refine wp_region_quiet_below (by kernel_rfl) (by kernel_rfl) ?_
            repeat (go_big_quiet_step ((first | (go_at_call 92; exact Calls.regrown_of (may_is _ _ _ HM.out _)) | (go_at_call 124; exact Calls.regrown_of (order_is _ _ _ _ _ HO.out _)))))
            refine wpQuiet_nil ?_
            rintro _ ⟨⟨dd, os⟩, rfl⟩
            have hb1 := below_regrown W1 dd os
            generalize Sort.grow (redrawn W1 dd) os = w2 at hb1
            have B2 := hide (bthen B1.out hb1)
            clear hb1 r0 r1 s0 s1 F0 F1 f0 f1 e0 e1
            go_wp2_with fail
          · go_ret
            exact ⟨ret_bool (Co.set_bad l (m + 1) hkl HOK.out).symm, B2.out⟩
          · refine ⟨⟨m + 1 + 1, by go_num, by omega, fun j hj => ?_, B2.out⟩, by simp [intOf] <;> omega⟩
            rcases Nat.lt_succ_iff_lt_or_eq.1 hj with h1 | rfl
            · exact HALL.out j h1
            · exact HOK.out
    · have hkl' : ¬ (k : Int) < (l.length : Int) := by omega
      go_wp2_with fail
      go_ret
      exact ⟨ret_bool (Co.set_ok l hlen fun j hj => HALL.out j (by omega)).symm, HBR.out⟩
end Go.Proofs.YtngfoijmknclhaaGreatDoor.Cm
