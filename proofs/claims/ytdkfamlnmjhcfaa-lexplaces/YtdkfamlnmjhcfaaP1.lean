/- The program's tests of bytes; run. -/
import Derived.Test.YtdkfamlnmjhcfaaK3
namespace Go.Proofs.Ytdkfamlnmjhcfaa
open Go.RowKit Go.Sort

/-- A test of bytes. -/
def PredIs (f : Nat) (p : UInt8 → Bool) : Prop := (∀ (args : Array Value) (w : World), (callFunc f args).run Try.prog w = .ok (.enter f args) w) ∧ ∀ (c : UInt8) (w : World), Calls Try.prog f #[.int .u8 (c.toNat : Int)] w fun e w' => e = .returned (.bool (p c)) ∧ w' = w
theorem inLine_is : PredIs 20 rmk := by
  refine ⟨fun args w => by rfl, fun c w => ?_⟩
  go_enter Try.func20, Try.ntmps20
  go_wp2_with fail
  all_goals
    go_ret
    refine ⟨ret_bool ?_, rfl⟩
    unfold rmk
    rw [Bool.eq_iff_iff]
    simp only [bne_iff_ne, decide_eq_true_eq, ne_eq]
    try omega
theorem isMark_is : PredIs 26 mrk := by
  refine ⟨fun args w => by rfl, fun c w => ?_⟩
  go_enter Try.func26, Try.ntmps26
  go_wp2_with fail
  all_goals
    go_ret
    refine ⟨ret_bool ?_, rfl⟩
    unfold mrk
    rw [Bool.eq_iff_iff]
    simp only [Bool.or_eq_true, decide_eq_true_eq, beq_iff_eq, true_iff]
    try omega
set_option maxHeartbeats 1000000 in
set_option maxRecDepth 100000 in
theorem inWord_is : PredIs 28 ltr := by
  refine ⟨fun args w => by rfl, fun c w => ?_⟩
  go_enter Try.func28, Try.ntmps28
  by_cases e1 : (c.toNat : Int) = 46
  · have hl : ltr c = true := by unfold ltr; rw [show c.toNat = 46 by omega]; rfl
    rw [hl]
    clear hl
    go_wp2_with fail
    all_goals
      go_ret
      exact ⟨rfl, rfl⟩
  · by_cases e2 : (c.toNat : Int) = 58
    · have hl : ltr c = true := by unfold ltr; rw [show c.toNat = 58 by omega]; rfl
      rw [hl]
      clear hl
      go_wp2_with fail
      all_goals
        go_ret
        exact ⟨rfl, rfl⟩
    · by_cases e3 : (c.toNat : Int) = 47
      · have hl : ltr c = true := by unfold ltr; rw [show c.toNat = 47 by omega]; rfl
        rw [hl]
        clear hl
        go_wp2_with fail
        all_goals
          go_ret
          exact ⟨rfl, rfl⟩
      · by_cases e4 : (c.toNat : Int) = 45
        · have hl : ltr c = true := by unfold ltr; rw [show c.toNat = 45 by omega]; rfl
          rw [hl]
          clear hl
          go_wp2_with fail
          all_goals
            go_ret
            exact ⟨rfl, rfl⟩
        · by_cases e5 : (c.toNat : Int) = 95
          · have hl : ltr c = true := by unfold ltr; rw [show c.toNat = 95 by omega]; rfl
            rw [hl]
            clear hl
            go_wp2_with fail
            all_goals
              go_ret
              exact ⟨rfl, rfl⟩
          · have HL : Hid (ltr c = (decide (97 ≤ c.toNat ∧ c.toNat ≤ 122) || decide (48 ≤ c.toNat ∧ c.toNat ≤ 57))) := by
              show _ = _
              unfold ltr
              rw [decide_eq_false (show ¬ c.toNat = 46 by omega), decide_eq_false (show ¬ c.toNat = 58 by omega), decide_eq_false (show ¬ c.toNat = 47 by omega), decide_eq_false (show ¬ c.toNat = 45 by omega), decide_eq_false (show ¬ c.toNat = 95 by omega)]
              simp only [Bool.or_false]
            generalize ltr c = L at *
            go_wp2_with fail
            all_goals
              go_ret
              refine ⟨ret_bool ?_, rfl⟩
              rw [HL.out]
              rw [Bool.eq_iff_iff]
              simp only [Bool.or_eq_true, decide_eq_true_eq, true_iff, Bool.false_eq_true, false_iff]
              try omega
theorem isPlain_is : PredIs 37 txc := by
  refine ⟨fun args w => by rfl, fun c w => ?_⟩
  go_enter Try.func37, Try.ntmps37
  go_wp2_with fail
  all_goals
    go_ret
    refine ⟨ret_bool ?_, rfl⟩
    unfold txc
    rw [Bool.eq_iff_iff]
    simp only [Bool.and_eq_true, decide_eq_true_eq, bne_iff_ne, ne_eq, Bool.false_eq_true, false_iff]
    try omega
theorem inQuotes_is : PredIs 36 inq := by
  refine ⟨fun args w => by rfl, fun c w => ?_⟩
  have L := hide (inLine_is.2 c)
  go_enter Try.func36, Try.ntmps36
  by_cases h34 : (c.toNat : Int) = 34
  · go_wp2_with fail
    all_goals
      go_ret
      refine ⟨ret_bool ?_, rfl⟩
      unfold inq
      rw [decide_eq_false (by omega)]
      rfl
  · go_wp2_with (refine (L.out _).mono ?_; rintro e w1 ⟨rfl, rfl⟩)
    all_goals
      go_ret
      refine ⟨ret_bool ?_, rfl⟩
      unfold inq rmk
      rw [decide_eq_true (show c.toNat ≠ 34 by omega)]
      simp
      try (intro _; omega)
set_option maxHeartbeats 1000000 in
theorem run_is {f : Nat} {p : UInt8 → Bool} (hp : PredIs f p) (s : ByteArray) (hs : s.size ≤ 100000) (w : World) : Calls Try.prog 19 #[.string s, .func (.func f) #[] #[]] w fun e w' => e = .returned (.int .i64 (((lst s).takeWhile p).length : Nat)) ∧ w' = w := by
  have HP := hide hp.2
  have hcf := hp.1
  clear hp
  go_enter Try.func19, Try.ntmps19
  go_wp2_with fail
  go_loopw [5] (fun v5 wr => ∃ j : Nat, v5 = .int .i64 (j : Int) ∧ j ≤ s.size ∧ Hid (j + tw p (lst s) j = ((lst s).takeWhile p).length) ∧ wr = w) (fun v5 _ => s.size - (intOf v5).toNat)
  case atStart => exact ⟨0, rfl, Nat.zero_le _, (Nat.zero_add _), rfl⟩
  case round =>
    obtain ⟨j, rfl, hjs, HT, rfl⟩ := hrel
    by_cases hj : j < s.size
    · have hjl : j < (lst s).length := by simpa using hj
      have hj' : (j : Int) < (s.size : Int) := by omega
      have hget : s[j] = (lst s)[j] := rfl
      cases hpc : p (lst s)[j] with
      | false =>
        have hw := tw_stop (p := p) hjl hpc
        have HJ : Hid (((lst s).takeWhile p).length = j) := by show _ = _; have := HT.out; omega
        have CP : Hid (∀ W, Calls Try.prog f #[.int .u8 (s[j].toNat : Int)] W fun e w' => e = .returned (.bool false) ∧ w' = W) := fun W => by have h := HP.out s[j] W; rw [hget, hpc] at h; exact h
        clear hget hw hpc HP HT
        go_wp2_with (refine (CP.out _).mono ?_; rintro e w1 ⟨rfl, rfl⟩)
        go_ret
        exact ⟨by rw [HJ.out]; rfl, rfl⟩
      | true =>
        have hw := tw_step (p := p) hjl hpc
        have HJ : Hid (j + 1 + tw p (lst s) (j + 1) = ((lst s).takeWhile p).length) := by show _ = _; have := HT.out; omega
        have CP : Hid (∀ W, Calls Try.prog f #[.int .u8 (s[j].toNat : Int)] W fun e w' => e = .returned (.bool true) ∧ w' = W) := fun W => by have h := HP.out s[j] W; rw [hget, hpc] at h; exact h
        clear hget hw hpc HP HT
        go_wp2_with (refine (CP.out _).mono ?_; rintro e w1 ⟨rfl, rfl⟩)
        exact ⟨⟨j + 1, by go_num, by omega, HJ, trivial⟩, by simp [intOf]; omega⟩
    · have hj' : ¬ (j : Int) < (s.size : Int) := by omega
      have hw := tw_end (p := p) (l := lst s) (i := j) (by rw [lst_size]; omega)
      have HJ : Hid (((lst s).takeWhile p).length = j) := by show _ = _; have := HT.out; omega
      clear hw HT
      go_wp2_with fail
      go_ret
      exact ⟨by rw [HJ.out]; rfl, rfl⟩
end Go.Proofs.Ytdkfamlnmjhcfaa
