/- The token that a text begins with: begin. -/
import Derived.Test.YtdkfamlnmjhcfaaP3
namespace Go.Proofs.Ytdkfamlnmjhcfaa
open Go.RowKit Go.Sort

theorem pc_five (x : Stp) : ∃ (k : Int) (t : ByteArray) (n f e : Int), x.pc = .agg #[.int .i64 k, .string t, .int .i64 n, .int .i64 f, .int .i64 e] := by
  match x with
  | .fault n e => exact ⟨_, _, _, _, _, rfl⟩
  | .go n _ (some (k, s)) => exact ⟨_, _, _, _, _, rfl⟩
  | .go n _ none => exact ⟨_, _, _, _, _, rfl⟩
set_option maxHeartbeats 2000000 in
set_option maxRecDepth 100000 in
theorem begin_mark (s : ByteArray) (h0 : 0 < s.size) (a : Int) (CM : ∀ W, Calls Try.prog 26 #[.int .u8 (s[0].toNat : Int)] W fun e w' => e = .returned (.bool true) ∧ w' = W) (w : World) : Calls Try.prog 21 #[.string s, .int .i64 a] w fun e w' => e = .returned (.agg #[.int .i64 2, .string (s.extract 0 1), .int .i64 1, .int .i64 0, .int .i64 0]) ∧ Below w.heap.size w w' := by
  have N0 := hide (heap_new w #[.int .i64 0, .string ⟨#[]⟩, .int .i64 0, .int .i64 0, .int .i64 0] 56)
  have B0 := hide (balloc (brefl w) (.cells #[.int .i64 0, .string ⟨#[]⟩, .int .i64 0, .int .i64 0, .int .i64 0] 56))
  obtain ⟨p, hp⟩ : ∃ p, w.heap.size = p := ⟨_, rfl⟩
  have HPW : Hid (w.heap.size ≤ p) := Nat.le_of_eq hp
  rw [hp] at N0
  have hs1 : (1 : Int) ≤ (s.size : Int) := by omega
  replace CM := hide CM
  go_enter Try.func21, Try.ntmps21
  go_upto_region 1 with fail
  generalize w.alloc (.cells #[.int .i64 0, .string ⟨#[]⟩, .int .i64 0, .int .i64 0, .int .i64 0] 56) = W at *
  clear hp
  go_upto_region 2 with fail
  obtain ⟨x, hx⟩ : ∃ x, (s[0].toNat : Int) = x := ⟨_, rfl⟩
  rw [hx] at CM ⊢
  clear hx
  go_upto_region 3 with (refine (CM.out _).mono ?_; rintro e w1 ⟨rfl, rfl⟩)
  obtain ⟨⟨z0, z1, z2, z3, z4⟩, y0, y1, y2, y3, y4⟩ := five_cells N0.out
  clear CM
  go_wp2_with fail
  refine bodyPost_ret (v := .agg #[.int .i64 2, .string (s.extract 0 1), .int .i64 1, .int .i64 0, .int .i64 0]) ?_ rfl ⟨rfl, bset5 B0.out HPW.out (.int .i64 2) (.string (s.extract 0 1)) (.int .i64 1) (.int .i64 0) (.int .i64 0)⟩
  obtain ⟨⟨t0, t1, t2, t3, t4⟩, _⟩ := five_cells (five_set N0.out (.int .i64 2) (.string (s.extract 0 1)) (.int .i64 1) (.int .i64 0) (.int .i64 0))
  simp [results, Try.results21, go_sem, t0, t1, t2, t3, t4]
set_option maxHeartbeats 2000000 in
set_option maxRecDepth 100000 in
theorem begin_quote (s : ByteArray) (h0 : 0 < s.size) (a : Int) (ha : ¬ a = 0) (hc : (s[0].toNat : Int) = 34) (CM : ∀ W, Calls Try.prog 26 #[.int .u8 (s[0].toNat : Int)] W fun e w' => e = .returned (.bool false) ∧ w' = W) (k1 : Int) (t1 : ByteArray) (n1 f1 e1 : Int) (CQ : ∀ W, Calls Try.prog 27 #[.string s] W fun e w' => e = .returned (.agg #[.int .i64 k1, .string t1, .int .i64 n1, .int .i64 f1, .int .i64 e1]) ∧ Below W.heap.size W w') (w : World) : Calls Try.prog 21 #[.string s, .int .i64 a] w fun e w' => e = .returned (.agg #[.int .i64 k1, .string t1, .int .i64 n1, .int .i64 f1, .int .i64 e1]) ∧ Below w.heap.size w w' := by
  have N0 := hide (heap_new w #[.int .i64 0, .string ⟨#[]⟩, .int .i64 0, .int .i64 0, .int .i64 0] 56)
  have B0 := hide (balloc (brefl w) (.cells #[.int .i64 0, .string ⟨#[]⟩, .int .i64 0, .int .i64 0, .int .i64 0] 56))
  obtain ⟨p, hp⟩ : ∃ p, w.heap.size = p := ⟨_, rfl⟩
  have HPW : Hid (w.heap.size ≤ p) := Nat.le_of_eq hp
  rw [hp] at N0
  have hab : (a != 0) = true := by rw [bne_iff_ne]; exact ha
  replace CM := hide CM
  replace CQ := hide CQ
  replace hc := hide hc
  clear ha
  go_enter Try.func21, Try.ntmps21
  go_upto_region 1 with fail
  generalize w.alloc (.cells #[.int .i64 0, .string ⟨#[]⟩, .int .i64 0, .int .i64 0, .int .i64 0] 56) = W at *
  clear hp
  go_upto_region 2 with fail
  rw [hc.out] at CM ⊢
  clear hc
  go_upto_region 4 with (refine (CM.out _).mono ?_; rintro e w1 ⟨rfl, rfl⟩)
  clear CM
  go_upto_region 5 with fail
  clear hab
  go_wp2_with fail
  refine (CQ.out _).mono ?_
  rintro e w2 ⟨rfl, b2⟩
  have N2 := hide ((b2.block p (heap_lt N0.out)).trans N0.out)
  have B2 := hide (bthen B0.out b2)
  clear b2 N0 B0 CQ
  obtain ⟨⟨z0, z1, z2, z3, z4⟩, y0, y1, y2, y3, y4⟩ := five_cells N2.out
  go_wp2_with fail
  refine bodyPost_ret (v := .agg #[.int .i64 k1, .string t1, .int .i64 n1, .int .i64 f1, .int .i64 e1]) ?_ rfl ⟨rfl, bset5 B2.out HPW.out (.int .i64 k1) (.string t1) (.int .i64 n1) (.int .i64 f1) (.int .i64 e1)⟩
  obtain ⟨⟨t0, t1, t2, t3, t4⟩, _⟩ := five_cells (five_set N2.out (.int .i64 k1) (.string t1) (.int .i64 n1) (.int .i64 f1) (.int .i64 e1))
  simp [results, Try.results21, go_sem, t0, t1, t2, t3, t4]
set_option maxHeartbeats 2000000 in
set_option maxRecDepth 100000 in
theorem begin_word (s : ByteArray) (h0 : 0 < s.size) (a : Int) (ha : ¬ a = 1) (hc : ¬ (s[0].toNat : Int) = 34 ∨ (s[0].toNat : Int) = 34 ∧ a = 0) (CM : ∀ W, Calls Try.prog 26 #[.int .u8 (s[0].toNat : Int)] W fun e w' => e = .returned (.bool false) ∧ w' = W) (CW : ∀ W, Calls Try.prog 28 #[.int .u8 (s[0].toNat : Int)] W fun e w' => e = .returned (.bool true) ∧ w' = W) (k1 : Int) (t1 : ByteArray) (n1 f1 e1 : Int) (CQ : ∀ W, Calls Try.prog 29 #[.string s] W fun e w' => e = .returned (.agg #[.int .i64 k1, .string t1, .int .i64 n1, .int .i64 f1, .int .i64 e1]) ∧ Below W.heap.size W w') (w : World) : Calls Try.prog 21 #[.string s, .int .i64 a] w fun e w' => e = .returned (.agg #[.int .i64 k1, .string t1, .int .i64 n1, .int .i64 f1, .int .i64 e1]) ∧ Below w.heap.size w w' := by
  have N0 := hide (heap_new w #[.int .i64 0, .string ⟨#[]⟩, .int .i64 0, .int .i64 0, .int .i64 0] 56)
  have B0 := hide (balloc (brefl w) (.cells #[.int .i64 0, .string ⟨#[]⟩, .int .i64 0, .int .i64 0, .int .i64 0] 56))
  obtain ⟨p, hp⟩ : ∃ p, w.heap.size = p := ⟨_, rfl⟩
  have HPW : Hid (w.heap.size ≤ p) := Nat.le_of_eq hp
  rw [hp] at N0
  have hab : (a != 1) = true := by rw [bne_iff_ne]; exact ha
  replace CM := hide CM
  replace CW := hide CW
  replace CQ := hide CQ
  replace hc := hide hc
  clear ha
  go_enter Try.func21, Try.ntmps21
  go_upto_region 1 with fail
  generalize w.alloc (.cells #[.int .i64 0, .string ⟨#[]⟩, .int .i64 0, .int .i64 0, .int .i64 0] 56) = W at *
  clear hp
  go_upto_region 2 with fail
  generalize (s[0].toNat : Int) = x at *
  go_upto_region 4 with (refine (CM.out _).mono ?_; rintro e w1 ⟨rfl, rfl⟩)
  clear CM
  rcases hc.out with hx | ⟨rfl, rfl⟩
  · have hx' : (x == 34) = false := by simpa using hx
    clear hc hx
    go_upto_region 6 with fail
    clear hx'
    go_wp2_with fail
    refine (CW.out _).mono ?_
    rintro e w1 ⟨rfl, rfl⟩
    go_upto_region 7 with fail
    clear hab CW
    go_wp2_with fail
    refine (CQ.out _).mono ?_
    rintro e w2 ⟨rfl, b2⟩
    have N2 := hide ((b2.block p (heap_lt N0.out)).trans N0.out)
    have B2 := hide (bthen B0.out b2)
    clear b2 N0 B0 CQ
    obtain ⟨⟨z0, z1, z2, z3, z4⟩, y0, y1, y2, y3, y4⟩ := five_cells N2.out
    go_wp2_with fail
    refine bodyPost_ret (v := .agg #[.int .i64 k1, .string t1, .int .i64 n1, .int .i64 f1, .int .i64 e1]) ?_ rfl ⟨rfl, bset5 B2.out HPW.out (.int .i64 k1) (.string t1) (.int .i64 n1) (.int .i64 f1) (.int .i64 e1)⟩
    obtain ⟨⟨t0, t1, t2, t3, t4⟩, _⟩ := five_cells (five_set N2.out (.int .i64 k1) (.string t1) (.int .i64 n1) (.int .i64 f1) (.int .i64 e1))
    simp [results, Try.results21, go_sem, t0, t1, t2, t3, t4]
  · clear hc
    go_upto_region 6 with fail
    go_wp2_with fail
    refine (CW.out _).mono ?_
    rintro e w1 ⟨rfl, rfl⟩
    go_upto_region 7 with fail
    clear hab CW
    go_wp2_with fail
    refine (CQ.out _).mono ?_
    rintro e w2 ⟨rfl, b2⟩
    have N2 := hide ((b2.block p (heap_lt N0.out)).trans N0.out)
    have B2 := hide (bthen B0.out b2)
    clear b2 N0 B0 CQ
    obtain ⟨⟨z0, z1, z2, z3, z4⟩, y0, y1, y2, y3, y4⟩ := five_cells N2.out
    go_wp2_with fail
    refine bodyPost_ret (v := .agg #[.int .i64 k1, .string t1, .int .i64 n1, .int .i64 f1, .int .i64 e1]) ?_ rfl ⟨rfl, bset5 B2.out HPW.out (.int .i64 k1) (.string t1) (.int .i64 n1) (.int .i64 f1) (.int .i64 e1)⟩
    obtain ⟨⟨t0, t1, t2, t3, t4⟩, _⟩ := five_cells (five_set N2.out (.int .i64 k1) (.string t1) (.int .i64 n1) (.int .i64 f1) (.int .i64 e1))
    simp [results, Try.results21, go_sem, t0, t1, t2, t3, t4]
set_option maxHeartbeats 2000000 in
set_option maxRecDepth 100000 in
theorem begin_bad (s : ByteArray) (h0 : 0 < s.size) (a : Int) (L : Bool) (ha : L = false ∨ L = true ∧ a = 1) (hc : ¬ (s[0].toNat : Int) = 34 ∨ (s[0].toNat : Int) = 34 ∧ a = 0) (CM : ∀ W, Calls Try.prog 26 #[.int .u8 (s[0].toNat : Int)] W fun e w' => e = .returned (.bool false) ∧ w' = W) (CW : ∀ W, Calls Try.prog 28 #[.int .u8 (s[0].toNat : Int)] W fun e w' => e = .returned (.bool L) ∧ w' = W) (w : World) : Calls Try.prog 21 #[.string s, .int .i64 a] w fun e w' => e = .returned (.agg #[.int .i64 0, .string ⟨#[]⟩, .int .i64 0, .int .i64 0, .int .i64 4]) ∧ Below w.heap.size w w' := by
  have N0 := hide (heap_new w #[.int .i64 0, .string ⟨#[]⟩, .int .i64 0, .int .i64 0, .int .i64 0] 56)
  have B0 := hide (balloc (brefl w) (.cells #[.int .i64 0, .string ⟨#[]⟩, .int .i64 0, .int .i64 0, .int .i64 0] 56))
  obtain ⟨p, hp⟩ : ∃ p, w.heap.size = p := ⟨_, rfl⟩
  have HPW : Hid (w.heap.size ≤ p) := Nat.le_of_eq hp
  rw [hp] at N0
  replace CM := hide CM
  replace CW := hide CW
  replace hc := hide hc
  replace ha := hide ha
  go_enter Try.func21, Try.ntmps21
  go_upto_region 1 with fail
  generalize w.alloc (.cells #[.int .i64 0, .string ⟨#[]⟩, .int .i64 0, .int .i64 0, .int .i64 0] 56) = W at *
  clear hp
  go_upto_region 2 with fail
  generalize (s[0].toNat : Int) = x at *
  go_upto_region 4 with (refine (CM.out _).mono ?_; rintro e w1 ⟨rfl, rfl⟩)
  clear CM
  have HF := hide (five_set N0.out (.int .i64 0) (.string ⟨#[]⟩) (.int .i64 0) (.int .i64 0) (.int .i64 4))
  rcases hc.out with hx | ⟨rfl, rfl⟩
  · have hx' : (x == 34) = false := by simpa using hx
    clear hc hx
    rcases ha.out with rfl | ⟨rfl, rfl⟩
    all_goals
      clear ha
      go_upto_region 6 with fail
      go_wp2_with fail
      refine (CW.out _).mono ?_
      rintro e w1 ⟨rfl, rfl⟩
      go_upto_region 8 with fail
      clear hx' CW
      obtain ⟨⟨z0, z1, z2, z3, z4⟩, y0, y1, y2, y3, y4⟩ := five_cells N0.out
      go_wp2_with fail
      refine bodyPost_ret (v := .agg #[.int .i64 0, .string ⟨#[]⟩, .int .i64 0, .int .i64 0, .int .i64 4]) ?_ rfl ⟨rfl, bset5 B0.out HPW.out (.int .i64 0) (.string ⟨#[]⟩) (.int .i64 0) (.int .i64 0) (.int .i64 4)⟩
      obtain ⟨⟨t0, t1, t2, t3, t4⟩, _⟩ := five_cells HF.out
      simp [results, Try.results21, go_sem, t0, t1, t2, t3, t4]
  · clear hc
    have hL : L = false := by
      rcases ha.out with h | ⟨_, h⟩
      · exact h
      · cases h
    subst hL
    clear ha
    go_upto_region 6 with fail
    go_wp2_with fail
    refine (CW.out _).mono ?_
    rintro e w1 ⟨rfl, rfl⟩
    go_upto_region 8 with fail
    clear CW
    obtain ⟨⟨z0, z1, z2, z3, z4⟩, y0, y1, y2, y3, y4⟩ := five_cells N0.out
    go_wp2_with fail
    refine bodyPost_ret (v := .agg #[.int .i64 0, .string ⟨#[]⟩, .int .i64 0, .int .i64 0, .int .i64 4]) ?_ rfl ⟨rfl, bset5 B0.out HPW.out (.int .i64 0) (.string ⟨#[]⟩) (.int .i64 0) (.int .i64 0) (.int .i64 4)⟩
    obtain ⟨⟨t0, t1, t2, t3, t4⟩, _⟩ := five_cells HF.out
    simp [results, Try.results21, go_sem, t0, t1, t2, t3, t4]
theorem begin_is (s : ByteArray) (hs : s.size ≤ 100000) (h1 : 1 ≤ s.size) (a : Nat) (w : World) : Calls Try.prog 21 #[.string s, .int .i64 (a : Int)] w fun e w' => e = .returned (bgn (lst s) a).pc ∧ Below w.heap.size w w' := by
  have h0 : 0 < s.size := h1
  have hl : lst s = s[0] :: (lst s).drop 1 := by
    have h := List.drop_eq_getElem_cons (l := lst s) (i := 0) (by rw [lst_size]; omega)
    rw [List.drop_zero] at h
    exact h
  have HB : bgn (lst s) a = if mrk s[0] = true then .go 1 2 (some (2, [s[0]])) else if s[0].toNat = 34 ∧ a ≠ 0 then quo ((lst s).drop 1) else if ltr s[0] = true ∧ a ≠ 1 then wrd (lst s) else .fault 0 4 := by
    conv => lhs; rw [hl]
    conv => rhs; rw [hl]
    rfl
  have CM := isMark_is.2 s[0]
  have CW := inWord_is.2 s[0]
  cases hm : mrk s[0] with
  | true =>
    rw [hm] at CM
    have HX : s.extract 0 1 = txt [s[0]] := by
      rw [extract_txt, List.drop_zero]
      conv => lhs; rw [hl]
      rfl
    rw [HB, if_pos hm, pc_go, ← HX]
    exact begin_mark s h0 a CM w
  | false =>
    rw [hm] at CM
    rw [HB, if_neg (by rw [hm]; decide)]
    by_cases h34 : s[0].toNat = 34 ∧ a ≠ 0
    · rw [if_pos h34]
      obtain ⟨k1, t1, n1, f1, e1, hv1⟩ := pc_five (quo ((lst s).drop 1))
      have CQ := quoted_is s hs h1
      rw [hv1] at CQ ⊢
      exact begin_quote s h0 a (by omega) (by omega) CM k1 t1 n1 f1 e1 CQ w
    · rw [if_neg h34]
      have hc : ¬ (s[0].toNat : Int) = 34 ∨ (s[0].toNat : Int) = 34 ∧ (a : Int) = 0 := by omega
      by_cases hw : ltr s[0] = true ∧ a ≠ 1
      · rw [if_pos hw]
        rw [hw.1] at CW
        obtain ⟨k1, t1, n1, f1, e1, hv1⟩ := pc_five (wrd (lst s))
        have CQ := word_is s hs
        rw [hv1] at CQ ⊢
        exact begin_word s h0 a (by omega) hc CM CW k1 t1 n1 f1 e1 CQ w
      · rw [if_neg hw]
        refine begin_bad s h0 a (ltr s[0]) ?_ hc CM CW w
        cases hl : ltr s[0]
        · exact .inl rfl
        · refine .inr ⟨rfl, ?_⟩
          have : ¬ a ≠ 1 := fun h => hw ⟨hl, h⟩
          omega
end Go.Proofs.Ytdkfamlnmjhcfaa
