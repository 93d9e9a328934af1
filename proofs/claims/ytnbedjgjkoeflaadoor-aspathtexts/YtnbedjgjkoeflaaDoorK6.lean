/- The program's Of. -/
import Derived.Test.YtnbedjgjkoeflaaDoorK5
namespace Go.Proofs.YtnbedjgjkoeflaaDoor
open Go.RowKit Go.Sort

theorem Ru.good_pos (x : List Ru.C) (h : Ru.good x = true) (i : Nat) (hi : i < x.length) : 0 < (x[i]).2 := by
  have := (Ru.good_iff x).1 h i hi
  unfold Ru.okAt at this
  rw [Ru.bang x i hi, Bool.and_eq_true, Bool.and_eq_true, decide_eq_true_iff] at this
  exact this.1.2

set_option maxHeartbeats 4000000 in
theorem of_is (ao : Option Addr) (ca : Nat) (x : List Ru.C) (y : List Int) (q : Int) (h : Is.of x = (y, q)) (w : World) (hA : Ru.slot w ao x) (hx : x.length ≤ 1000) :
    Calls Tryd.prog 30 #[.slice ao x.length ca] w (PathGood w y q) := by
  have HA := hide hA
  cases hg : Ru.good x
  · obtain ⟨rfl, rfl⟩ : y = [] ∧ q = 1 := by
      unfold Is.of at h
      rw [hg] at h
      simp at h
      exact ⟨h.1, h.2.symm⟩
    have CM := hide (mayRuns_is ao ca x false hg w hA hx)
    clear h hg hA
    go_enter Tryd.func30, Tryd.ntmps30
    go_wp2_with fail
    refine CM.out.mono ?_
    rintro e w1 ⟨rfl, hb1⟩
    have B1 := hide hb1
    clear hb1 CM
    go_wp2_with fail
    exact bodyPost_ret (v := .tuple #[.slice none 0 0, .int .i64 1]) (by simp [results, Tryd.results30, go_sem]) rfl (path_none _ _ B1.out)
  · have HG : Hid ((if 16 < (Ru.expand x).length then (([], 2) : List Int × Int) else (Ru.expand x, 0)) = (y, q)) := by
      show _ = _
      unfold Is.of at h
      rw [hg, if_pos rfl] at h
      exact h
    have HPOS := hide (Ru.good_pos x hg)
    have CM := hide (mayRuns_is ao ca x true hg w hA hx)
    clear h hg hA
    go_enter Tryd.func30, Tryd.ntmps30
    go_wp2_with fail
    refine CM.out.mono ?_
    rintro e w1 ⟨rfl, hb1⟩
    have B1 := hide hb1
    clear hb1 CM
    go_wp2_with fail
    go_loopw [4, 12] (fun v4 v12 wr => ∃ (i : Nat) (o : Option Addr) (c : Nat) (p : List Int), v12 = .int .i64 i ∧ v4 = .slice o p.length c ∧ i ≤ x.length ∧ p.length ≤ 16 ∧ Hid (p = Ru.expand (x.take i)) ∧ wr.ownsRow w.heap.size 3 1 (.slice o p.length c) p.length (Is.cells p) ∧ Below w.heap.size w wr) (fun _ v12 _ => x.length - (intOf v12).toNat)
    case atStart => exact ⟨0, none, 0, [], rfl, rfl, Nat.zero_le _, by decide, hide rfl, World.ownsRow_nil _ _ _ _, B1.out⟩
    case round =>
      obtain ⟨i, o, c, p, rfl, rfl, hi, hp, HP, hown, hbr⟩ := hrel
      have HW := hide hown
      have HBR := hide hbr
      clear hown hbr B1
      by_cases hil : i < x.length
      · have hil' : (i : Int) < (x.length : Int) := by omega
        obtain ⟨b, off, rfl, hrd⟩ := Ru.slot_at HA.out hil
        obtain ⟨e0, e1⟩ := Ru.reads_at (Ru.reads_below hrd HBR.out) i hil
        clear hrd
        have HS := hide (Ru.expand_snoc x i hil)
        have HLE := hide (Ru.expand_le x (i + 1) hil)
        have hpos := HPOS.out i hil
        generalize x[i] = u at *
        obtain ⟨u0, u1⟩ := u
        simp only at HS hpos e0 e1
        obtain ⟨m, rfl⟩ := Int.eq_ofNat_of_zero_le (show 0 ≤ u1 by omega)
        rw [Int.toNat_natCast] at HS
        have f0 : (wr.alloc (.cells #[.int .i64 u0, .int .i64 (m : Int)] 42)).cell? ⟨wr.heap.size, 0, none⟩ = some (.int .i64 u0) := by simp
        have f1 : (wr.alloc (.cells #[.int .i64 u0, .int .i64 (m : Int)] 42)).cell? ⟨wr.heap.size, 1, none⟩ = some (.int .i64 (m : Int)) := by simp
        have B0 := hide (balloc HBR.out (.cells #[.int .i64 u0, .int .i64 (m : Int)] 42))
        have HW0 := hide (HW.out.alloc (.cells #[.int .i64 u0, .int .i64 (m : Int)] 42))
        by_cases h16 : 16 < p.length + m
        · have h16' : (16 : Int) - (p.length : Int) < (m : Int) := by omega
          obtain ⟨rfl, rfl⟩ : y = [] ∧ q = 2 := by
            have hg := HG.out
            have h2 := HLE.out
            rw [HS.out, ← HP.out, List.length_append, List.length_replicate] at h2
            rw [if_pos (by omega)] at hg
            simp at hg
            exact ⟨hg.1, hg.2.symm⟩
          clear HS HLE HW HW0 HG
          go_wp2_with fail
          exact bodyPost_ret (v := .tuple #[.slice none 0 0, .int .i64 2]) (by simp [results, Tryd.results30, go_sem]) rfl (path_none _ _ B0.out)
        · have h16' : ¬ (16 : Int) - (p.length : Int) < (m : Int) := by omega
          have CP := hide (put_own o p.length c p u0 m w _ B0.out HW0.out (by omega))
          clear HW HW0 HLE
          go_wp2_with fail
          refine CP.out.mono ?_
          rintro e w2 ⟨no, nc, rfl, hown, hb2⟩
          have HNW := hide hown
          have B2 := hide hb2
          have HL : Hid ((p ++ List.replicate m u0).length = p.length + m) := by show _ = _; simp
          clear hown hb2 CP f0 f1 e0 e1
          go_wp2_with fail
          exact ⟨⟨i + 1, no, nc, p ++ List.replicate m u0, by go_num, by rw [HL.out], by omega, by rw [HL.out]; omega, hide (by rw [HS.out, ← HP.out]), by rw [HL.out]; exact HNW.out, B2.out⟩, by simp [intOf] <;> omega⟩
      · obtain rfl : i = x.length := by omega
        obtain ⟨rfl, rfl⟩ : p = y ∧ q = 0 := by
          have hg := HG.out
          have h1 := HP.out
          rw [List.take_length] at h1
          rw [← h1, if_neg (by omega)] at hg
          simp only [Prod.mk.injEq] at hg
          exact ⟨hg.1, hg.2.symm⟩
        go_wp2_with fail
        exact bodyPost_ret (v := .tuple #[.slice o p.length c, .int .i64 0]) (by simp [results, Tryd.results30, go_sem]) rfl ⟨_, _, rfl, HW.out, HBR.out⟩
end Go.Proofs.YtnbedjgjkoeflaaDoor
