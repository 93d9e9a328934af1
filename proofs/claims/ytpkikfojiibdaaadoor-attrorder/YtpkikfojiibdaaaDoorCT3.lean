/- The text of a community, whatever it is: comm's and the document's. -/
import Derived.Test.YtpkikfojiibdaaaDoorCT2
namespace Go.Proofs.YtpkikfojiibdaaaDoor.Cm
open Go.RowKit Go.Sort

set_option maxHeartbeats 1000000 in
theorem text_not (a b : Int) (w : World) (M : Hid (Co.may (a, b) = false)) : Calls Tryd.prog 46 #[.agg #[.int .i64 a, .int .i64 b]] w fun e w' => e = .returned (.string ⟨#[]⟩) ∧ Below w.heap.size w w' := by
  go_enter Tryd.func46, Tryd.ntmps46
  go_wp2_with fail
  refine (may_is _ _ _ M.out _).mono ?_
  rintro e w1 ⟨rfl, hb1⟩
  go_wp2_with fail
  go_ret
  exact ⟨rfl, bthen (balloc (brefl w) _) hb1⟩

theorem Co.may1 : Co.may (65535, 65281) = true := by decide
theorem Co.may2 : Co.may (65535, 65282) = true := by decide
theorem Co.may3 : Co.may (65535, 65283) = true := by decide

set_option maxHeartbeats 2000000 in
theorem text_nE (w : World) : Calls Tryd.prog 46 #[.agg #[.int .i64 65535, .int .i64 65281]] w fun e w' => e = .returned (.string ⟨#[110, 111, 45, 101, 120, 112, 111, 114, 116]⟩) ∧ Below w.heap.size w w' := by
  go_enter Tryd.func46, Tryd.ntmps46
  go_wp2_with fail
  have TB := hide (two_new w 65535 65281 51)
  have B0 := hide (balloc (brefl w) (.cells #[.int .i64 65535, .int .i64 65281] 51))
  generalize w.alloc (.cells #[.int .i64 65535, .int .i64 65281] 51) = W0 at *
  generalize w.heap.size = R at TB ⊢
  refine (may_is _ _ _ Co.may1 _).mono ?_
  rintro e w1 ⟨rfl, hb1⟩
  obtain ⟨p0, p1, p2, p3⟩ := two_below hb1 TB.out
  have B1 := hide (bthen B0.out hb1)
  clear hb1
  go_wp2_with fail
  refine (noExport_is _).mono ?_
  rintro e w2 ⟨rfl, hb2⟩
  have B2 := hide (bthen B1.out hb2)
  clear hb2 p0 p1 p2 p3
  have hq := eqC
  have hgd := guardC
  go_wp2_with fail
  go_ret
  exact ⟨rfl, B2.out⟩

set_option maxHeartbeats 2000000 in
theorem text_nA (w : World) : Calls Tryd.prog 46 #[.agg #[.int .i64 65535, .int .i64 65282]] w fun e w' => e = .returned (.string ⟨#[110, 111, 45, 97, 100, 118, 101, 114, 116, 105, 115, 101]⟩) ∧ Below w.heap.size w w' := by
  go_enter Tryd.func46, Tryd.ntmps46
  go_wp2_with fail
  have TB := hide (two_new w 65535 65282 51)
  have B0 := hide (balloc (brefl w) (.cells #[.int .i64 65535, .int .i64 65282] 51))
  generalize w.alloc (.cells #[.int .i64 65535, .int .i64 65282] 51) = W0 at *
  generalize w.heap.size = R at TB ⊢
  refine (may_is _ _ _ Co.may2 _).mono ?_
  rintro e w1 ⟨rfl, hb1⟩
  obtain ⟨p0, p1, p2, p3⟩ := two_below hb1 TB.out
  have B1 := hide (bthen B0.out hb1)
  clear hb1
  go_wp2_with fail
  refine (noExport_is _).mono ?_
  rintro e w2 ⟨rfl, hb2⟩
  have B2 := hide (bthen B1.out hb2)
  clear hb2 p0 p1 p2 p3
  have hq := eqC
  have hgd := guardC
  go_wp2_with fail
  refine (noAdv_is _).mono ?_
  rintro e w3 ⟨rfl, hb3⟩
  have B3 := hide (bthen B2.out hb3)
  clear hb3
  go_wp2_with fail
  go_ret
  exact ⟨rfl, B3.out⟩

set_option maxHeartbeats 2000000 in
theorem text_lo (w : World) : Calls Tryd.prog 46 #[.agg #[.int .i64 65535, .int .i64 65283]] w fun e w' => e = .returned (.string ⟨#[108, 111, 99, 97, 108]⟩) ∧ Below w.heap.size w w' := by
  go_enter Tryd.func46, Tryd.ntmps46
  go_wp2_with fail
  have TB := hide (two_new w 65535 65283 51)
  have B0 := hide (balloc (brefl w) (.cells #[.int .i64 65535, .int .i64 65283] 51))
  generalize w.alloc (.cells #[.int .i64 65535, .int .i64 65283] 51) = W0 at *
  generalize w.heap.size = R at TB ⊢
  refine (may_is _ _ _ Co.may3 _).mono ?_
  rintro e w1 ⟨rfl, hb1⟩
  obtain ⟨p0, p1, p2, p3⟩ := two_below hb1 TB.out
  have B1 := hide (bthen B0.out hb1)
  clear hb1
  go_wp2_with fail
  refine (noExport_is _).mono ?_
  rintro e w2 ⟨rfl, hb2⟩
  have B2 := hide (bthen B1.out hb2)
  clear hb2 p0 p1 p2 p3
  have hq := eqC
  have hgd := guardC
  go_wp2_with fail
  refine (noAdv_is _).mono ?_
  rintro e w3 ⟨rfl, hb3⟩
  have B3 := hide (bthen B2.out hb3)
  clear hb3
  go_wp2_with fail
  refine (local_is _).mono ?_
  rintro e w4 ⟨rfl, hb4⟩
  have B4 := hide (bthen B3.out hb4)
  clear hb4
  go_wp2_with fail
  go_ret
  exact ⟨rfl, B4.out⟩

theorem eq2_false {a b : Int} {c : Int} (h : ¬ (a = 65535 ∧ b = c)) : (a == 65535 && b == c) = false := by
  by_cases h1 : a = 65535
  · have : b ≠ c := fun e => h ⟨h1, e⟩
    simp [this]
  · simp [h1]
theorem itoa_len (n : Int) (h0 : 0 ≤ n) (h1 : n ≤ 65535) : (Lib.itoa n).length ≤ 21 := Lib.itoa_length_le n (by omega) (by omega)

theorem text_is (a b : Int) (t : ByteArray) (ht : t = ⟨(Co.text a b).toArray⟩) (w : World) (hT : Tab w) :
    Calls Tryd.prog 46 #[.agg #[.int .i64 a, .int .i64 b]] w fun e w' => e = .returned (.string t) ∧ Below w.heap.size w w' := by
  subst ht
  unfold Co.text
  cases hm : Co.may (a, b)
  · exact text_not a b w hm
  · rw [if_pos rfl]
    by_cases h1 : a = 65535 ∧ b = 65281
    · obtain ⟨rfl, rfl⟩ := h1
      exact text_nE w
    · rw [if_neg h1]
      by_cases h2 : a = 65535 ∧ b = 65282
      · obtain ⟨rfl, rfl⟩ := h2
        exact text_nA w
      · rw [if_neg h2]
        by_cases h3 : a = 65535 ∧ b = 65283
        · obtain ⟨rfl, rfl⟩ := h3
          exact text_lo w
        · rw [if_neg h3]
          have hr := (Co.may_iff a b).1 hm
          have l0 := itoa_len a (by omega) (by omega)
          have l1 := itoa_len b (by omega) (by omega)
          exact text_plain a b _ _ _ _ w hT hm (eq2_false h1) (eq2_false h2) (eq2_false h3) (adds_list _ [58] (by omega) (by decide)) (adds_list _ _ (by simp; omega) (by omega)) rfl rfl

set_option maxHeartbeats 1000000 in
theorem refText_not (a b : Int) (w : World) (M : Hid (Co.may (a, b) = false)) : Calls Tryd.prog 57 #[.agg #[.int .i64 a, .int .i64 b]] w fun e w' => e = .returned (.string ⟨#[]⟩) ∧ Below w.heap.size w w' := by
  go_enter Tryd.func57, Tryd.ntmps57
  go_wp2_with fail
  refine (refMay_is _ _ _ M.out _).mono ?_
  rintro e w1 ⟨rfl, hb1⟩
  go_wp2_with fail
  go_ret
  exact ⟨rfl, bthen (balloc (brefl w) _) hb1⟩

set_option maxHeartbeats 1000000 in
theorem refText_known (b : Int) (w : World) (h : b = 65281 ∨ b = 65282 ∨ b = 65283) : Calls Tryd.prog 57 #[.agg #[.int .i64 65535, .int .i64 b]] w fun e w' => e = .returned (.string ⟨(Co.text 65535 b).toArray⟩) ∧ Below w.heap.size w w' := by
  rcases h with rfl | rfl | rfl
  · have CM := hide (fun W => refMay_is 65535 65281 true Co.may1 W)
    have HT : Hid ((⟨#[110, 111, 45, 101, 120, 112, 111, 114, 116]⟩ : ByteArray) = ⟨(Co.text 65535 65281).toArray⟩) := rfl
    generalize (⟨(Co.text 65535 65281).toArray⟩ : ByteArray) = t at *
    go_enter Tryd.func57, Tryd.ntmps57
    go_wp2_with fail
    refine (CM.out _).mono ?_
    rintro e w1 ⟨rfl, hb1⟩
    obtain ⟨p0, p1, p2, p3⟩ := two_below hb1 (two_new w 65535 65281 51)
    have B1 := hide (bthen (balloc (brefl w) _) hb1)
    clear hb1
    go_wp2_with fail
    go_ret
    exact ⟨by rw [← HT.out]; rfl, B1.out⟩
  · have CM := hide (fun W => refMay_is 65535 65282 true Co.may2 W)
    have HT : Hid ((⟨#[110, 111, 45, 97, 100, 118, 101, 114, 116, 105, 115, 101]⟩ : ByteArray) = ⟨(Co.text 65535 65282).toArray⟩) := rfl
    generalize (⟨(Co.text 65535 65282).toArray⟩ : ByteArray) = t at *
    go_enter Tryd.func57, Tryd.ntmps57
    go_wp2_with fail
    refine (CM.out _).mono ?_
    rintro e w1 ⟨rfl, hb1⟩
    obtain ⟨p0, p1, p2, p3⟩ := two_below hb1 (two_new w 65535 65282 51)
    have B1 := hide (bthen (balloc (brefl w) _) hb1)
    clear hb1
    go_wp2_with fail
    go_ret
    exact ⟨by rw [← HT.out]; rfl, B1.out⟩
  · have CM := hide (fun W => refMay_is 65535 65283 true Co.may3 W)
    have HT : Hid ((⟨#[108, 111, 99, 97, 108]⟩ : ByteArray) = ⟨(Co.text 65535 65283).toArray⟩) := rfl
    generalize (⟨(Co.text 65535 65283).toArray⟩ : ByteArray) = t at *
    go_enter Tryd.func57, Tryd.ntmps57
    go_wp2_with fail
    refine (CM.out _).mono ?_
    rintro e w1 ⟨rfl, hb1⟩
    obtain ⟨p0, p1, p2, p3⟩ := two_below hb1 (two_new w 65535 65283 51)
    have B1 := hide (bthen (balloc (brefl w) _) hb1)
    clear hb1
    go_wp2_with fail
    go_ret
    exact ⟨by rw [← HT.out]; rfl, B1.out⟩

set_option maxHeartbeats 2000000 in
set_option maxRecDepth 100000 in
theorem refText_plain (a b : Int) (t0 t1 u0 u1 : ByteArray) (w : World) (M : Hid (Co.may (a, b) = true)) (hk : a ≠ 65535 ∨ (a = 65535 ∧ (b == 65281) = false ∧ (b == 65282) = false ∧ (b == 65283) = false))
    (K0 : Adds t0 ⟨#[58]⟩ u0) (K1 : Adds u0 t1 u1) (N0 : Hid (t0 = ⟨(Lib.itoa a).toArray⟩)) (N1 : Hid (t1 = ⟨(Lib.itoa b).toArray⟩)) :
    Calls Tryd.prog 57 #[.agg #[.int .i64 a, .int .i64 b]] w fun e w' => e = .returned (.string u1) ∧ Below w.heap.size w w' := by
  unfold Adds at *
  have hm := (Co.may_iff a b).1 M.out
  have TB := hide (two_new w a b 51)
  have B0 := hide (balloc (brefl w) (.cells #[.int .i64 a, .int .i64 b] 51))
  rcases hk with hk | ⟨hk, hk1, hk2, hk3⟩
  · have hd : (a == 65535) = false := by simpa using hk
    go_enter Tryd.func57, Tryd.ntmps57
    go_wp2_with fail
    refine (refMay_is _ _ _ M.out _).mono ?_
    rintro e w1 ⟨rfl, hb1⟩
    have T1 := hide (two_below hb1 TB.out)
    obtain ⟨p0, p1, p2, p3⟩ := T1.out
    have B1 := hide (bthen B0.out hb1)
    clear hb1
    go_wp2_with fail
    obtain ⟨c0, c1⟩ := two_regrown T1.out
    clear p0 p1 p2 p3
    refine wp_region_quiet_below (by kernel_rfl) (by kernel_rfl) ?_
    iterate 3 (go_big_quiet_step ((go_at_call 33; exact Calls.regrown_of (refNumber_is _ t0 (by omega) (by omega) N0.out _))))
    iterate 6 (go_big_quiet_step ((go_at_call 33; exact Calls.regrown_of (refNumber_is _ t1 (by omega) (by omega) N1.out _))))
    refine wpQuiet_nil ?_
    rintro w8 ⟨⟨dd, os⟩, hw8⟩
    have hb8 : Below w1.heap.size w1 w8 := by rw [hw8]; exact below_regrown _ dd os
    have B8 := hide (bthen B1.out hb8)
    clear hb8 hw8 c0 c1
    go_wp2_with fail
    go_ret
    exact ⟨rfl, B8.out⟩
  · subst hk
    go_enter Tryd.func57, Tryd.ntmps57
    go_wp2_with fail
    refine (refMay_is _ _ _ M.out _).mono ?_
    rintro e w1 ⟨rfl, hb1⟩
    have T1 := hide (two_below hb1 TB.out)
    obtain ⟨p0, p1, p2, p3⟩ := T1.out
    have B1 := hide (bthen B0.out hb1)
    clear hb1
    go_wp2_with fail
    obtain ⟨c0, c1⟩ := two_regrown T1.out
    clear p0 p1 p2 p3
    refine wp_region_quiet_below (by kernel_rfl) (by kernel_rfl) ?_
    iterate 3 (go_big_quiet_step ((go_at_call 33; exact Calls.regrown_of (refNumber_is _ t0 (by omega) (by omega) N0.out _))))
    iterate 6 (go_big_quiet_step ((go_at_call 33; exact Calls.regrown_of (refNumber_is _ t1 (by omega) (by omega) N1.out _))))
    refine wpQuiet_nil ?_
    rintro w8 ⟨⟨dd, os⟩, hw8⟩
    have hb8 : Below w1.heap.size w1 w8 := by rw [hw8]; exact below_regrown _ dd os
    have B8 := hide (bthen B1.out hb8)
    clear hb8 hw8 c0 c1
    go_wp2_with fail
    go_ret
    exact ⟨rfl, B8.out⟩

theorem refText_is (a b : Int) (t : ByteArray) (ht : t = ⟨(Co.text a b).toArray⟩) (w : World) :
    Calls Tryd.prog 57 #[.agg #[.int .i64 a, .int .i64 b]] w fun e w' => e = .returned (.string t) ∧ Below w.heap.size w w' := by
  subst ht
  cases hm : Co.may (a, b)
  · have e : Co.text a b = [] := by unfold Co.text; rw [hm]; rfl
    rw [e]
    exact refText_not a b w hm
  · by_cases hk : a = 65535 ∧ (b = 65281 ∨ b = 65282 ∨ b = 65283)
    · obtain ⟨rfl, hk⟩ := hk
      exact refText_known b w hk
    · have e : Co.text a b = Co.plain a b := by
        unfold Co.text
        rw [if_pos hm, if_neg (fun h => hk ⟨h.1, .inl h.2⟩), if_neg (fun h => hk ⟨h.1, .inr (.inl h.2)⟩), if_neg (fun h => hk ⟨h.1, .inr (.inr h.2)⟩)]
      rw [e]
      have hr := (Co.may_iff a b).1 hm
      have l0 := itoa_len a (by omega) (by omega)
      have l1 := itoa_len b (by omega) (by omega)
      refine refText_plain a b _ _ _ _ w hm ?_ (adds_list _ [58] (by omega) (by decide)) (adds_list _ _ (by simp; omega) (by omega)) rfl rfl
      by_cases ha : a = 65535
      · exact .inr ⟨ha, by simp; intro h; exact hk ⟨ha, .inl h⟩, by simp; intro h; exact hk ⟨ha, .inr (.inl h)⟩, by simp; intro h; exact hk ⟨ha, .inr (.inr h)⟩⟩
      · exact .inl ha
end Go.Proofs.YtpkikfojiibdaaaDoor.Cm