import Derived.Test.YtkhmhmopcofejaaCG1
/- The contracts of comm's Set and of the document's Set. -/
namespace Go.Proofs.Ytkhmhmopcofejaa.Cm
open Go.RowKit Go.Sort

def Co.okAt (l : List Co.C) (i : Nat) : Bool := Co.may l[i]! && (i == 0 || Co.bef l[i - 1]! l[i]!)
def Co.set (l : List Co.C) : Bool := decide (l.length ≤ 8) && (List.range l.length).all (Co.okAt l)

theorem Co.bang (l : List Co.C) (i : Nat) (h : i < l.length) : l[i]! = l[i] := by simp [h]
theorem Co.bef_ord (x y : Co.C) : Co.bef x y = decide (Co.ord x y < 0) := by
  unfold Co.bef Co.ord Co.ci
  by_cases h1 : x.1 < y.1
  · simp [h1]
  · by_cases h2 : y.1 < x.1
    · simp [h1, h2]
      omega
    · have : x.1 = y.1 := by omega
      by_cases h3 : x.2 < y.2
      · simp [this, h3]
      · by_cases h4 : y.2 < x.2
        · simp [this, h3, h4]
        · simp [this, h3, h4]
theorem Co.set_iff (l : List Co.C) : Co.set l = true ↔ l.length ≤ 8 ∧ ∀ i, i < l.length → Co.okAt l i = true := by
  simp [Co.set, List.all_eq_true]
theorem Co.set_long (l : List Co.C) (h : 8 < l.length) : Co.set l = false := by
  have : ¬ l.length ≤ 8 := by omega
  simp [Co.set, this]
theorem Co.set_bad (l : List Co.C) (k : Nat) (hk : k < l.length) (h : Co.okAt l k = false) : Co.set l = false := by
  cases hs : Co.set l
  · rfl
  · have := ((Co.set_iff l).1 hs).2 k hk
    rw [h] at this; cases this
theorem Co.set_ok (l : List Co.C) (h8 : l.length ≤ 8) (h : ∀ j, j < l.length → Co.okAt l j = true) : Co.set l = true := (Co.set_iff l).2 ⟨h8, h⟩
theorem Co.ok_zero (l : List Co.C) (h : 0 < l.length) : Co.okAt l 0 = Co.may l[0] := by simp [Co.okAt, Co.bang l 0 h]
theorem Co.ok_may (l : List Co.C) (k : Nat) (h : k < l.length) (hm : Co.may l[k] = false) : Co.okAt l k = false := by simp [Co.okAt, Co.bang l k h, hm]
theorem Co.ok_succ (l : List Co.C) (m : Nat) (h : m + 1 < l.length) : Co.okAt l (m + 1) = (Co.may l[m + 1] && Co.bef l[m] l[m + 1]) := by
  simp [Co.okAt, Co.bang l (m + 1) h, Co.bang l m (by omega)]

theorem two_regrown {W : World} {n : Nat} {a b : Int} (h : Two W n a b) : (∀ d os, (Sort.grow (redrawn W d) os).cell? ⟨n, 0, none⟩ = some (.int .i64 a)) ∧ (∀ d os, (Sort.grow (redrawn W d) os).cell? ⟨n, 1, none⟩ = some (.int .i64 b)) :=
  ⟨fun d os => cell_regrown h.1 d os, fun d os => cell_regrown h.2.1 d os⟩

set_option maxHeartbeats 4000000 in
theorem set_row (ao : Option Addr) (ca : Nat) (l : List Co.C) (w : World) (hA : Co.slot w ao l) (hlen : l.length ≤ 8) :
    Calls Try.prog 82 #[.slice ao l.length ca] w fun e w' => e = .returned (.bool (Co.set l)) ∧ Below w.heap.size w w' := by
  have HA := hide hA
  clear hA
  have hgt : ¬ (8 : Int) < (l.length : Int) := by omega
  go_enter Try.func82, Try.ntmps82
  go_wp2_with fail
  go_loopw [10] (fun v wr => ∃ k : Nat, v = .int .i64 k ∧ k ≤ l.length ∧ (∀ j, j < k → Co.okAt l j = true) ∧ Below w.heap.size w wr) (fun v _ => l.length - (intOf v).toNat)
  case atStart => exact ⟨0, rfl, Nat.zero_le _, fun j hj => absurd hj (Nat.not_lt_zero _), brefl w⟩
  case round =>
    obtain ⟨k, rfl, hk, hall, hbr⟩ := hrel
    have HALL := hide hall
    have HBR := hide hbr
    clear hall hbr
    by_cases hkl : k < l.length
    · have hkl' : (k : Int) < (l.length : Int) := by omega
      obtain ⟨b, off, rfl, hrd⟩ := Co.slot_at HA.out hkl
      have hrd' := Co.reads_below hrd HBR.out
      obtain ⟨e0, e1⟩ := Co.reads_at hrd' k hkl
      have HM0 := hide (Co.ok_may l k hkl)
      have HRD := hide hrd'
      clear hrd hrd'
      obtain ⟨y, hy⟩ : ∃ y, y = l[k] := ⟨_, rfl⟩
      rw [← hy] at e0 e1 HM0
      have HY := hide hy
      clear hy
      obtain ⟨y0, y1⟩ := y
      have hbl : b < wr.heap.size := block_lt_of_cell e0
      cases hm : Co.may (y0, y1)
      · have HM := hide hm
        clear hm
        go_wp2_with fail
        have TB := two_new wr y0 y1 94
        have B1 := hide (balloc HBR.out (.cells #[.int .i64 y0, .int .i64 y1] 94))
        generalize wr.alloc (.cells #[.int .i64 y0, .int .i64 y1] 94) = W1 at *
        generalize wr.heap.size = R at *
        obtain ⟨r0, r1⟩ := two_regrown TB
        refine wp_region_quiet_below (by kernel_rfl) (by kernel_rfl) ?_
        repeat (go_big_quiet_step ((go_at_call 100; exact Calls.regrown_of (may_is _ _ _ HM.out _))))
        refine wpQuiet_nil ?_
        rintro _ ⟨⟨dd, os⟩, rfl⟩
        have hb1 := below_regrown W1 dd os
        generalize Sort.grow (redrawn W1 dd) os = w2 at hb1
        have B2 := hide (bthen B1.out hb1)
        clear hb1 r0 r1
        go_wp2_with fail
        go_ret
        exact ⟨ret_bool (Co.set_bad l k hkl (HM0.out HM.out)).symm, B2.out⟩
      · have HM := hide hm
        clear hm
        rcases Nat.eq_zero_or_pos k with hk0 | hk0
        · subst hk0
          have HOK : Hid (Co.okAt l 0 = true) := (Co.ok_zero l hkl).trans (by rw [← HY.out]; exact HM.out)
          simp only [Nat.zero_mul, Nat.add_zero] at e0 e1
          go_wp2_with fail
          have TB := two_new wr y0 y1 94
          have B1 := hide (balloc HBR.out (.cells #[.int .i64 y0, .int .i64 y1] 94))
          generalize wr.alloc (.cells #[.int .i64 y0, .int .i64 y1] 94) = W1 at *
          generalize wr.heap.size = R at *
          obtain ⟨r0, r1⟩ := two_regrown TB
          refine wp_region_quiet_below (by kernel_rfl) (by kernel_rfl) ?_
          repeat (go_big_quiet_step ((go_at_call 100; exact Calls.regrown_of (may_is _ _ _ HM.out _))))
          refine wpQuiet_nil ?_
          rintro _ ⟨⟨dd, os⟩, rfl⟩
          have hb1 := below_regrown W1 dd os
          generalize Sort.grow (redrawn W1 dd) os = w2 at hb1
          have B2 := hide (bthen B1.out hb1)
          clear hb1 r0 r1
          go_wp2_with fail
          refine ⟨⟨1, by go_num, by omega, fun j hj => ?_, B2.out⟩, by simp [intOf] <;> omega⟩
          obtain rfl : j = 0 := by omega
          exact HOK.out
        · obtain ⟨m, rfl⟩ : ∃ m, k = m + 1 := ⟨k - 1, by omega⟩
          obtain ⟨f0, f1⟩ := Co.reads_at HRD.out m (by omega)
          have HOK := hide (Co.ok_succ l m hkl)
          obtain ⟨z, hz⟩ : ∃ z, z = l[m] := ⟨_, rfl⟩
          rw [← hz] at f0 f1 HOK
          rw [← HY.out] at HOK
          clear hz
          obtain ⟨z0, z1⟩ := z
          obtain ⟨o, ho⟩ : ∃ o, Co.ord (z0, z1) (y0, y1) = o := ⟨_, rfl⟩
          rw [HM.out, Co.bef_ord, ho, Bool.true_and] at HOK
          have HO := hide ho
          clear ho
          have hml : (m : Int) < (l.length : Int) := by omega
          have hm0 : (0 : Int) < ((m + 1 : Nat) : Int) := by omega
          have hpos : (0 : Int) < (m : Int) + 1 := by omega
          have hw1 : IntKind.i64.wrap ((m : Int) + 1 - 1) = m := by rw [IntKind.wrap_i64]; omega
          have hw2 : ((m : Int) + 1 - 1) = m := by omega
          have hge : decide (0 ≤ o) = !decide (o < 0) := by by_cases h : 0 ≤ o <;> simp [h] <;> omega
          cases hd : decide (o < 0)
          all_goals
            rw [hd] at HOK hge
            simp only [Bool.not_false, Bool.not_true] at hge
            go_wp2_with fail
            have TB := two_new wr y0 y1 94
            have F0 := (World.cell?_alloc_past (w := wr) (.cells #[.int .i64 y0, .int .i64 y1] 94) b (off + m * 2) hbl).trans f0
            have F1 := (World.cell?_alloc_past (w := wr) (.cells #[.int .i64 y0, .int .i64 y1] 94) b (off + m * 2 + 1) hbl).trans f1
            have B1 := hide (balloc HBR.out (.cells #[.int .i64 y0, .int .i64 y1] 94))
            generalize wr.alloc (.cells #[.int .i64 y0, .int .i64 y1] 94) = W1 at *
            generalize wr.heap.size = R at *
            obtain ⟨r0, r1⟩ := two_regrown TB
            have s0 := fun dd os => cell_regrown F0 dd os
            have s1 := fun dd os => cell_regrown F1 dd os
            refine wp_region_quiet_below (by kernel_rfl) (by kernel_rfl) ?_
            repeat (go_big_quiet_step ((first | (go_at_call 100; exact Calls.regrown_of (may_is _ _ _ HM.out _)) | (go_at_call 101; exact Calls.regrown_of (order_is _ _ _ _ _ HO.out _)))))
            refine wpQuiet_nil ?_
            rintro _ ⟨⟨dd, os⟩, rfl⟩
            have hb1 := below_regrown W1 dd os
            generalize Sort.grow (redrawn W1 dd) os = w2 at hb1
            have B2 := hide (bthen B1.out hb1)
            clear hb1 r0 r1 s0 s1 F0 F1 f0 f1 e0 e1
            go_wp2_with fail
          · go_ret
            exact ⟨ret_bool (Co.set_bad l (m + 1) hkl HOK.out).symm, B2.out⟩
          · refine ⟨⟨m + 1 + 1, by go_num, by omega, fun j hj => ?_, B2.out⟩, by simp [intOf] <;> omega⟩
            rcases Nat.lt_succ_iff_lt_or_eq.1 hj with h1 | rfl
            · exact HALL.out j h1
            · exact HOK.out
    · have hkl' : ¬ (k : Int) < (l.length : Int) := by omega
      go_wp2_with fail
      go_ret
      exact ⟨ret_bool (Co.set_ok l hlen fun j hj => HALL.out j (by omega)).symm, HBR.out⟩
end Go.Proofs.Ytkhmhmopcofejaa.Cm

/- Rising lists of communities. -/
namespace Go.Proofs.Ytkhmhmopcofejaa.Cm
open Go.RowKit Go.Sort Go.Lib

theorem Co.bef_iff (x y : Co.C) : Co.bef x y = true ↔ x.1 < y.1 ∨ (x.1 = y.1 ∧ x.2 < y.2) := by simp [Co.bef]
theorem Co.bef_irr (x : Co.C) : Co.bef x x = false := by
  cases h : Co.bef x x
  · rfl
  · rw [Co.bef_iff] at h; omega
theorem Co.bef_trans {x y z : Co.C} (h1 : Co.bef x y = true) (h2 : Co.bef y z = true) : Co.bef x z = true := by
  rw [Co.bef_iff] at *; omega
theorem Co.bef_total {x y : Co.C} (h : Co.bef y x = false) : x = y ∨ Co.bef x y = true := by
  by_cases h1 : Co.bef x y = true
  · exact .inr h1
  · left
    have h2 : ¬ Co.bef y x = true := by rw [h]; decide
    rw [Co.bef_iff] at h1 h2
    exact Prod.ext (by omega) (by omega)
/-- A list that rises. -/
def Co.rises (l : List Co.C) : Prop := l.Pairwise fun x y => Co.bef x y = true

theorem Co.rises_eq : ∀ (x y : List Co.C), Co.rises x → Co.rises y → (∀ c, c ∈ x ↔ c ∈ y) → x = y
  | [], [], _, _, _ => rfl
  | [], b :: ys, _, _, h => absurd ((h b).2 (by simp)) (by simp)
  | a :: xs, [], _, _, h => absurd ((h a).1 (by simp)) (by simp)
  | a :: xs, b :: ys, hx, hy, h => by
    obtain ⟨ha, hx'⟩ := List.pairwise_cons.1 hx
    obtain ⟨hb, hy'⟩ := List.pairwise_cons.1 hy
    have e : a = b := by
      rcases List.mem_cons.1 ((h a).1 (by simp)) with h1 | h1
      · exact h1
      · rcases List.mem_cons.1 ((h b).2 (by simp)) with h2 | h2
        · exact h2.symm
        · have := Co.bef_trans (hb a h1) (ha b h2)
          rw [Co.bef_irr] at this; cases this
    subst e
    have : xs = ys := Co.rises_eq xs ys hx' hy' fun c => by
      constructor
      · intro hc
        rcases List.mem_cons.1 ((h c).1 (by simp [hc])) with h1 | h1
        · subst h1
          have := ha c hc
          rw [Co.bef_irr] at this; cases this
        · exact h1
      · intro hc
        rcases List.mem_cons.1 ((h c).2 (by simp [hc])) with h1 | h1
        · subst h1
          have := hb c hc
          rw [Co.bef_irr] at this; cases this
        · exact h1
    rw [this]

end Go.Proofs.Ytkhmhmopcofejaa.Cm

/- The law CommOrder: the order is one. -/
namespace Go.Proofs.Ytkhmhmopcofejaa.Cm
open Go.RowKit Go.Sort

theorem Co.ci_cases (a b : Int) : (a < b ∧ Co.ci a b = -1) ∨ (a = b ∧ Co.ci a b = 0) ∨ (b < a ∧ Co.ci a b = 1) := by
  unfold Co.ci
  by_cases h : a < b
  · exact .inl ⟨h, if_pos h⟩
  · by_cases h2 : b < a
    · exact .inr (.inr ⟨h2, by rw [if_neg h, if_pos h2]⟩)
    · exact .inr (.inl ⟨by omega, by rw [if_neg h, if_neg h2]⟩)
theorem Co.ord_cases (x y : Co.C) : (Co.bef x y = true ∧ Co.ord x y = -1) ∨ (x = y ∧ Co.ord x y = 0) ∨ (Co.bef y x = true ∧ Co.ord x y = 1) := by
  unfold Co.ord
  rcases Co.ci_cases x.1 y.1 with ⟨h, e⟩ | ⟨h, e⟩ | ⟨h, e⟩
  · exact .inl ⟨(Co.bef_iff x y).2 (.inl h), by rw [e]; rfl⟩
  · rcases Co.ci_cases x.2 y.2 with ⟨h2, e2⟩ | ⟨h2, e2⟩ | ⟨h2, e2⟩
    · exact .inl ⟨(Co.bef_iff x y).2 (.inr ⟨h, h2⟩), by rw [e, e2]; rfl⟩
    · exact .inr (.inl ⟨Prod.ext h h2, by rw [e, e2]; rfl⟩)
    · exact .inr (.inr ⟨(Co.bef_iff y x).2 (.inr ⟨h.symm, h2⟩), by rw [e, e2]; rfl⟩)
  · exact .inr (.inr ⟨(Co.bef_iff y x).2 (.inl h), by rw [e]; rfl⟩)
theorem Co.ord_self (x : Co.C) : Co.ord x x = 0 := by
  rcases Co.ord_cases x x with ⟨h, e⟩ | ⟨h, e⟩ | ⟨h, e⟩
  · rw [Co.bef_irr] at h; cases h
  · exact e
  · rw [Co.bef_irr] at h; cases h
theorem Co.ord_bef {x y : Co.C} (h : Co.bef x y = true) : Co.ord x y = -1 := by
  rcases Co.ord_cases x y with ⟨_, e⟩ | ⟨rfl, e⟩ | ⟨h2, e⟩
  · exact e
  · rw [Co.bef_irr] at h; cases h
  · have := Co.bef_trans h h2; rw [Co.bef_irr] at this; cases this
theorem Co.ord_aft {x y : Co.C} (h : Co.bef y x = true) : Co.ord x y = 1 := by
  rcases Co.ord_cases x y with ⟨h2, e⟩ | ⟨rfl, e⟩ | ⟨_, e⟩
  · have := Co.bef_trans h h2; rw [Co.bef_irr] at this; cases this
  · rw [Co.bef_irr] at h; cases h
  · exact e

/-- What an order's three answers must be. -/
def Co.three (x y z : Int) : Prop := x = 1 ∨ (x = 0 ∧ y = 1) ∨ (x = 0 ∧ y = 0 ∧ z = 0) ∨ (x = 0 ∧ y = -1 ∧ z = -1) ∨ (x = -1 ∧ y = 1) ∨ (x = -1 ∧ y = 0 ∧ z = -1) ∨ (x = -1 ∧ y = -1 ∧ z = -1)

theorem Co.lex_neg : ∀ a b : List Co.C, Co.lex b a = - Co.lex a b
  | [], [] => rfl
  | [], _ :: _ => rfl
  | _ :: _, [] => rfl
  | x :: xs, y :: ys => by
    have ih := Co.lex_neg xs ys
    simp only [Co.lex]
    rcases Co.ord_cases x y with ⟨h, e⟩ | ⟨rfl, e⟩ | ⟨h, e⟩
    · rw [e, Co.ord_aft h]; rfl
    · rw [e, ih]; rfl
    · rw [e, Co.ord_bef h]; rfl
theorem Co.lex_zero : ∀ a b : List Co.C, a.length = b.length → (Co.lex a b = 0 ↔ a = b)
  | [], [], _ => by simp [Co.lex]
  | [], _ :: _, h => by simp at h
  | _ :: _, [], h => by simp at h
  | x :: xs, y :: ys, h => by
    have ih := Co.lex_zero xs ys (by simpa using h)
    simp only [Co.lex]
    rcases Co.ord_cases x y with ⟨h1, e⟩ | ⟨rfl, e⟩ | ⟨h1, e⟩
    · rw [e, if_pos (by decide)]
      refine ⟨fun h => absurd h (by decide), fun h => ?_⟩
      injection h with h2 _
      subst h2
      rw [Co.bef_irr] at h1; cases h1
    · rw [e, if_neg (by decide), ih]
      simp
    · rw [e, if_pos (by decide)]
      refine ⟨fun h => absurd h (by decide), fun h => ?_⟩
      injection h with h2 _
      subst h2
      rw [Co.bef_irr] at h1; cases h1
theorem Co.lex_three : ∀ a b c : List Co.C, a.length = b.length → b.length = c.length → Co.three (Co.lex a b) (Co.lex b c) (Co.lex a c)
  | [], [], [], _, _ => by simp [Co.lex, Co.three]
  | [], [], _ :: _, _, h => by simp at h
  | [], _ :: _, _, h, _ => by simp at h
  | _ :: _, [], _, h, _ => by simp at h
  | _ :: _, _ :: _, [], _, h => by simp at h
  | x :: xs, y :: ys, z :: zs, h1, h2 => by
    have ih := Co.lex_three xs ys zs (by simpa using h1) (by simpa using h2)
    simp only [Co.lex]
    rcases Co.ord_cases x y with ⟨p, e⟩ | ⟨rfl, e⟩ | ⟨p, e⟩
    · rcases Co.ord_cases y z with ⟨q, f⟩ | ⟨rfl, f⟩ | ⟨q, f⟩
      · rw [e, f, Co.ord_bef (Co.bef_trans p q)]
        exact .inr (.inr (.inr (.inr (.inr (.inr ⟨rfl, rfl, rfl⟩)))))
      · rw [e, f, if_pos (by decide), if_neg (by decide), if_pos (by decide)]
        have hr : Co.lex ys zs = 1 ∨ Co.lex ys zs = 0 ∨ Co.lex ys zs = -1 := by
          have h3 := Co.lex_three ys ys zs rfl (by simpa using h2)
          have h0 := (Co.lex_zero ys ys rfl).2 rfl
          rw [h0] at h3
          rcases h3 with h | h | h | h | h | h | h <;> omega
        rcases hr with h | h | h
        · exact .inr (.inr (.inr (.inr (.inl ⟨rfl, h⟩))))
        · exact .inr (.inr (.inr (.inr (.inr (.inl ⟨rfl, h, rfl⟩)))))
        · exact .inr (.inr (.inr (.inr (.inr (.inr ⟨rfl, h, rfl⟩)))))
      · rw [e, f, if_pos (by decide), if_pos (by decide)]
        exact .inr (.inr (.inr (.inr (.inl ⟨rfl, rfl⟩))))
    · rw [e, if_neg (by decide)]
      rcases Co.ord_cases x z with ⟨q, f⟩ | ⟨rfl, f⟩ | ⟨q, f⟩
      · rw [f, if_pos (by decide)]
        have hr : Co.lex xs ys = 1 ∨ Co.lex xs ys = 0 ∨ Co.lex xs ys = -1 := by
          rcases ih with h | h | h | h | h | h | h <;> omega
        rcases hr with h | h | h
        · exact .inl h
        · exact .inr (.inr (.inr (.inl ⟨h, rfl, rfl⟩)))
        · exact .inr (.inr (.inr (.inr (.inr (.inr ⟨h, rfl, rfl⟩)))))
      · rw [f, if_neg (by decide), if_neg (by decide)]
        exact ih
      · rw [f, if_pos (by decide)]
        have hr : Co.lex xs ys = 1 ∨ Co.lex xs ys = 0 ∨ Co.lex xs ys = -1 := by
          rcases ih with h | h | h | h | h | h | h <;> omega
        rcases hr with h | h | h
        · exact .inl h
        · exact .inr (.inl ⟨h, rfl⟩)
        · exact .inr (.inr (.inr (.inr (.inl ⟨h, rfl⟩))))
    · rw [e, if_pos (by decide)]
      exact .inl rfl

theorem Co.compare_neg (a b : List Co.C) : Co.compare b a = - Co.compare a b := by
  unfold Co.compare
  by_cases h1 : a.length < b.length
  · rw [if_neg (by omega), if_pos h1, if_pos h1]; rfl
  · by_cases h2 : b.length < a.length
    · rw [if_pos h2, if_neg h1, if_pos h2]
    · rw [if_neg h2, if_neg h1, if_neg h1, if_neg h2, Co.lex_neg]
theorem Co.compare_zero (a b : List Co.C) : Co.compare a b = 0 ↔ a = b := by
  unfold Co.compare
  by_cases h1 : a.length < b.length
  · rw [if_pos h1]
    exact ⟨fun h => absurd h (by decide), fun h => by rw [h] at h1; omega⟩
  · by_cases h2 : b.length < a.length
    · rw [if_neg h1, if_pos h2]
      exact ⟨fun h => absurd h (by decide), fun h => by rw [h] at h2; omega⟩
    · rw [if_neg h1, if_neg h2]
      exact Co.lex_zero a b (by omega)
theorem Co.lex_range (a b : List Co.C) (h : a.length = b.length) : Co.lex a b = 1 ∨ Co.lex a b = 0 ∨ Co.lex a b = -1 := by
  rcases Co.lex_three a b b h rfl with h | h | h | h | h | h | h <;> omega
theorem Co.compare_range (a b : List Co.C) : Co.compare a b = 1 ∨ Co.compare a b = 0 ∨ Co.compare a b = -1 := by
  unfold Co.compare
  by_cases h1 : a.length < b.length
  · rw [if_pos h1]; exact .inr (.inr rfl)
  · by_cases h2 : b.length < a.length
    · rw [if_neg h1, if_pos h2]; exact .inl rfl
    · rw [if_neg h1, if_neg h2]; exact Co.lex_range a b (by omega)
theorem Co.compare_three (a b c : List Co.C) : Co.three (Co.compare a b) (Co.compare b c) (Co.compare a c) := by
  rcases Nat.lt_trichotomy a.length b.length with h | h | h
  · have e : Co.compare a b = -1 := by unfold Co.compare; rw [if_pos h]
    rw [e]
    rcases Co.compare_range b c with f | f | f
    · exact .inr (.inr (.inr (.inr (.inl ⟨rfl, f⟩))))
    · have : b = c := (Co.compare_zero b c).1 f
      subst this
      exact .inr (.inr (.inr (.inr (.inr (.inl ⟨rfl, f, e⟩)))))
    · have hbc : b.length ≤ c.length := by
        unfold Co.compare at f
        by_cases h1 : c.length < b.length
        · rw [if_neg (by omega), if_pos h1] at f; omega
        · omega
      exact .inr (.inr (.inr (.inr (.inr (.inr ⟨rfl, f, by unfold Co.compare; rw [if_pos (by omega)]⟩)))))
  · have e : Co.compare a b = Co.lex a b := by unfold Co.compare; rw [if_neg (by omega), if_neg (by omega)]
    rcases Nat.lt_trichotomy b.length c.length with g | g | g
    · have f1 : Co.compare b c = -1 := by unfold Co.compare; rw [if_pos g]
      have f2 : Co.compare a c = -1 := by unfold Co.compare; rw [if_pos (by omega)]
      rw [f1, f2]
      rcases Co.compare_range a b with q | q | q
      · exact .inl q
      · exact .inr (.inr (.inr (.inl ⟨q, rfl, rfl⟩)))
      · exact .inr (.inr (.inr (.inr (.inr (.inr ⟨q, rfl, rfl⟩)))))
    · have f1 : Co.compare b c = Co.lex b c := by unfold Co.compare; rw [if_neg (by omega), if_neg (by omega)]
      have f2 : Co.compare a c = Co.lex a c := by unfold Co.compare; rw [if_neg (by omega), if_neg (by omega)]
      rw [e, f1, f2]
      exact Co.lex_three a b c h g
    · have f1 : Co.compare b c = 1 := by unfold Co.compare; rw [if_neg (by omega), if_pos g]
      rw [f1]
      rcases Co.compare_range a b with q | q | q
      · exact .inl q
      · exact .inr (.inl ⟨q, rfl⟩)
      · exact .inr (.inr (.inr (.inr (.inl ⟨q, rfl⟩))))
  · have e : Co.compare a b = 1 := by unfold Co.compare; rw [if_neg (by omega), if_pos h]
    exact .inl e
end Go.Proofs.Ytkhmhmopcofejaa.Cm

/- comm's Set of whatever list; the document's Set and In. -/
namespace Go.Proofs.Ytkhmhmopcofejaa.Cm
open Go.RowKit Go.Sort

set_option maxHeartbeats 1000000 in
theorem set_is (ao : Option Addr) (ca : Nat) (l : List Co.C) (r : Bool) (hr : Co.set l = r) (w : World) (hA : Co.slot w ao l) :
    Calls Try.prog 82 #[.slice ao l.length ca] w fun e w' => e = .returned (.bool r) ∧ Below w.heap.size w w' := by
  by_cases h8 : l.length ≤ 8
  · subst hr
    exact set_row ao ca l w hA h8
  · obtain rfl : false = r := by rw [← hr, Co.set_long l (by omega)]
    have hgt : (8 : Int) < (l.length : Int) := by omega
    clear hr hA
    go_enter Try.func82, Try.ntmps82
    go_wp2_with fail
    go_ret
    exact ⟨rfl, brefl w⟩

set_option maxHeartbeats 4000000 in
theorem refSet_is (ao : Option Addr) (ca : Nat) (l : List Co.C) (r : Bool) (hr : Co.set l = r) (w : World) (hA : Co.slot w ao l) (h200 : l.length ≤ 200) :
    Calls Try.prog 47 #[.slice ao l.length ca] w fun e w' => e = .returned (.bool r) ∧ Below w.heap.size w w' := by
  have HA := hide hA
  have HR := hide hr
  clear hA hr
  go_enter Try.func47, Try.ntmps47
  go_wp2_with fail
  go_loopw [3] (fun v wr => ∃ k : Nat, v = .int .i64 k ∧ k ≤ l.length ∧ k ≤ 8 ∧ (∀ j, j < k → Co.okAt l j = true) ∧ Below w.heap.size w wr) (fun v _ => l.length - (intOf v).toNat)
  case atStart => exact ⟨0, rfl, Nat.zero_le _, by decide, fun j hj => absurd hj (Nat.not_lt_zero _), brefl w⟩
  case round =>
    obtain ⟨k, rfl, hk, hk8, hall, hbr⟩ := hrel
    have HALL := hide hall
    have HBR := hide hbr
    clear hall hbr
    by_cases hkl : k < l.length
    · have hkl' : (k : Int) < (l.length : Int) := by omega
      obtain ⟨b, off, rfl, hrd⟩ := Co.slot_at HA.out hkl
      have hrd' := Co.reads_below hrd HBR.out
      obtain ⟨e0, e1⟩ := Co.reads_at hrd' k hkl
      have HM0 := hide (Co.ok_may l k hkl)
      have HRD := hide hrd'
      clear hrd hrd'
      obtain ⟨y, hy⟩ : ∃ y, y = l[k] := ⟨_, rfl⟩
      rw [← hy] at e0 e1 HM0
      have HY := hide hy
      clear hy
      obtain ⟨y0, y1⟩ := y
      have r0 := fun dd os => cell_regrown e0 dd os
      have r1 := fun dd os => cell_regrown e1 dd os
      by_cases hk88 : k = 8
      · subst hk88
        go_wp2_with fail
        refine wp_region_quiet_below (by kernel_rfl) (by kernel_rfl) ?_
        repeat (go_big_quiet_step (fail))
        refine wpQuiet_nil ?_
        rintro _ ⟨⟨dd, os⟩, rfl⟩
        have hb1 := below_regrown wr dd os
        generalize Sort.grow (redrawn wr dd) os = w2 at hb1
        have B2 := hide (bthen HBR.out hb1)
        clear hb1 r0 r1 e0 e1
        go_wp2_with fail
        go_ret
        exact ⟨ret_bool ((Co.set_long l hkl).symm.trans HR.out), B2.out⟩
      · have h8d : decide ((8 : Int) ≤ (k : Int)) = false := by simp; omega
        cases hm : Co.may (y0, y1)
        · have HM := hide hm
          clear hm
          go_wp2_with fail
          refine wp_region_quiet_below (by kernel_rfl) (by kernel_rfl) ?_
          repeat (go_big_quiet_step ((go_at_call 70; exact Calls.regrown_of (refMay_is _ _ _ HM.out _))))
          refine wpQuiet_nil ?_
          rintro _ ⟨⟨dd, os⟩, rfl⟩
          have hb1 := below_regrown wr dd os
          generalize Sort.grow (redrawn wr dd) os = w2 at hb1
          have B2 := hide (bthen HBR.out hb1)
          clear hb1 r0 r1 e0 e1
          go_wp2_with fail
          go_ret
          exact ⟨ret_bool ((Co.set_bad l k hkl (HM0.out HM.out)).symm.trans HR.out), B2.out⟩
        · have HM := hide hm
          clear hm
          rcases Nat.eq_zero_or_pos k with hk0 | hk0
          · subst hk0
            have HOK : Hid (Co.okAt l 0 = true) := (Co.ok_zero l hkl).trans (by rw [← HY.out]; exact HM.out)
            simp only [Nat.zero_mul, Nat.add_zero] at e0 e1 r0 r1
            go_wp2_with fail
            refine wp_region_quiet_below (by kernel_rfl) (by kernel_rfl) ?_
            repeat (go_big_quiet_step ((go_at_call 70; exact Calls.regrown_of (refMay_is _ _ _ HM.out _))))
            refine wpQuiet_nil ?_
            rintro _ ⟨⟨dd, os⟩, rfl⟩
            have hb1 := below_regrown wr dd os
            generalize Sort.grow (redrawn wr dd) os = w2 at hb1
            have B2 := hide (bthen HBR.out hb1)
            clear hb1 r0 r1 e0 e1
            go_wp2_with fail
            refine ⟨⟨1, by go_num, by omega, by decide, fun j hj => ?_, B2.out⟩, by simp [intOf] <;> omega⟩
            obtain rfl : j = 0 := by omega
            exact HOK.out
          · obtain ⟨m, rfl⟩ : ∃ m, k = m + 1 := ⟨k - 1, by omega⟩
            obtain ⟨f0, f1⟩ := Co.reads_at HRD.out m (by omega)
            have HOK := hide (Co.ok_succ l m hkl)
            obtain ⟨z, hz⟩ : ∃ z, z = l[m] := ⟨_, rfl⟩
            rw [← hz] at f0 f1 HOK
            rw [← HY.out] at HOK
            clear hz
            obtain ⟨z0, z1⟩ := z
            obtain ⟨o, ho⟩ : ∃ o, Co.bef (z0, z1) (y0, y1) = o := ⟨_, rfl⟩
            rw [HM.out, ho, Bool.true_and] at HOK
            have HO := hide ho
            clear ho
            have hml : (m : Int) < (l.length : Int) := by omega
            have hpos : (0 : Int) < (m : Int) + 1 := by omega
            have h8e : decide ((8 : Int) ≤ (m : Int) + 1) = false := by simp; omega
            have hkl2 : (m : Int) + 1 < (l.length : Int) := by omega
            have hw1 : IntKind.i64.wrap ((m : Int) + 1 - 1) = m := by rw [IntKind.wrap_i64]; omega
            have hw2 : ((m : Int) + 1 - 1) = m := by omega
            have s0 := fun dd os => cell_regrown f0 dd os
            have s1 := fun dd os => cell_regrown f1 dd os
            cases o
            all_goals
              go_wp2_with fail
              refine wp_region_quiet_below (by kernel_rfl) (by kernel_rfl) ?_
              repeat (go_big_quiet_step ((first | (go_at_call 70; exact Calls.regrown_of (refMay_is _ _ _ HM.out _)) | (go_at_call 71; exact Calls.regrown_of (refBefore_is _ _ _ _ _ HO.out _)))))
              refine wpQuiet_nil ?_
              rintro _ ⟨⟨dd, os⟩, rfl⟩
              have hb1 := below_regrown wr dd os
              generalize Sort.grow (redrawn wr dd) os = w2 at hb1
              have B2 := hide (bthen HBR.out hb1)
              clear hb1 r0 r1 s0 s1 f0 f1 e0 e1
              go_wp2_with fail
            · go_ret
              exact ⟨ret_bool ((Co.set_bad l (m + 1) hkl HOK.out).symm.trans HR.out), B2.out⟩
            · refine ⟨⟨m + 1 + 1, by go_num, by omega, by omega, fun j hj => ?_, B2.out⟩, by simp [intOf] <;> omega⟩
              rcases Nat.lt_succ_iff_lt_or_eq.1 hj with h1 | rfl
              · exact HALL.out j h1
              · exact HOK.out
    · have hkl' : ¬ (k : Int) < (l.length : Int) := by omega
      go_wp2_with fail
      go_ret
      exact ⟨ret_bool ((Co.set_ok l (by omega) fun j hj => HALL.out j (by omega)).symm.trans HR.out), HBR.out⟩

/-- Is a community in a list? -/
def Co.inL (l : List Co.C) (c : Co.C) : Bool := l.any fun y => y.1 == c.1 && y.2 == c.2
theorem Co.inL_iff (l : List Co.C) (c : Co.C) : Co.inL l c = true ↔ c ∈ l := by
  simp only [Co.inL, List.any_eq_true, Bool.and_eq_true, beq_iff_eq]
  constructor
  · rintro ⟨y, hy, h1, h2⟩
    have : y = c := Prod.ext h1 h2
    exact this ▸ hy
  · intro h
    exact ⟨c, h, rfl, rfl⟩
theorem Co.inL_at (l : List Co.C) (c : Co.C) (k : Nat) (hk : k < l.length) (h : (l[k].1 == c.1 && l[k].2 == c.2) = true) : Co.inL l c = true := by
  rw [Co.inL, List.any_eq_true]
  exact ⟨l[k], List.getElem_mem hk, h⟩
theorem Co.inL_none (l : List Co.C) (c : Co.C) (h : ∀ j (hj : j < l.length), (l[j].1 == c.1 && l[j].2 == c.2) = false) : Co.inL l c = false := by
  rw [Co.inL, List.any_eq_false]
  intro y hy
  obtain ⟨j, hj, rfl⟩ := List.getElem_of_mem hy
  simp only [h j hj, Bool.false_eq_true, not_false_eq_true]

end Go.Proofs.Ytkhmhmopcofejaa.Cm

/- The contract of the document's Compare. -/
namespace Go.Proofs.Ytkhmhmopcofejaa.Cm
open Go.RowKit Go.Sort

set_option maxHeartbeats 4000000 in
theorem refCompare_row (ao bo : Option Addr) (ca cb : Nat) (a b : List Co.C) (w : World) (hA : Co.slot w ao a) (hB : Co.slot w bo b) (hl : a.length = b.length) (h200 : a.length ≤ 200) :
    Calls Try.prog 74 #[.slice ao a.length ca, .slice bo b.length cb] w fun e w' => e = .returned (.int .i64 (Co.lex a b)) ∧ Below w.heap.size w w' := by
  have HA := hide hA
  have HB := hide hB
  have HL := hide hl
  clear hA hB
  have hle : ¬ (a.length : Int) < (b.length : Int) := by omega
  have hle2 : ¬ (b.length : Int) < (a.length : Int) := by omega
  have h200b : b.length ≤ 200 := by omega
  clear hl
  go_enter Try.func74, Try.ntmps74
  go_wp2_with fail
  go_loopw [5] (fun v wr => ∃ k : Nat, v = .int .i64 k ∧ k ≤ a.length ∧ Co.lex a b = Co.lex (a.drop k) (b.drop k) ∧ Below w.heap.size w wr) (fun v _ => a.length - (intOf v).toNat)
  case atStart => exact ⟨0, rfl, Nat.zero_le _, rfl, brefl w⟩
  case round =>
    obtain ⟨k, rfl, hk, hlex, hbr⟩ := hrel
    have HX := hide hlex
    have HBR := hide hbr
    clear hlex hbr
    by_cases hka : k < a.length
    · have hkb : k < b.length := by have := HL.out; omega
      have hkA : (k : Int) < (a.length : Int) := by omega
      have hkB : (k : Int) < (b.length : Int) := by omega
      obtain ⟨b1, o1, rfl, hr1⟩ := Co.slot_at HA.out hka
      obtain ⟨b2, o2, rfl, hr2⟩ := Co.slot_at HB.out hkb
      obtain ⟨e0, e1⟩ := Co.reads_at (Co.reads_below hr1 HBR.out) k hka
      obtain ⟨f0, f1⟩ := Co.reads_at (Co.reads_below hr2 HBR.out) k hkb
      clear hr1 hr2
      have HS := hide (Co.lex_step a b k hka hkb)
      generalize a[k] = y at *
      generalize b[k] = z at *
      have hoc := Co.ord_cases y z
      obtain ⟨y0, y1⟩ := y
      obtain ⟨z0, z1⟩ := z
      have r0 := fun dd os => cell_regrown e0 dd os
      have r1 := fun dd os => cell_regrown e1 dd os
      have s0 := fun dd os => cell_regrown f0 dd os
      have s1 := fun dd os => cell_regrown f1 dd os
      rcases hoc with ⟨hbf, ho⟩ | ⟨heq, ho⟩ | ⟨hbf, ho⟩
      · rw [ho] at HS
        have HN := hide (HX.out.trans (HS.out.trans (if_pos (by decide))))
        have HF := hide hbf
        clear hbf ho HS
        go_wp2_with fail
        refine wp_region_quiet_below (by kernel_rfl) (by kernel_rfl) ?_
        repeat (go_big_quiet_step ((go_at_call 71; exact Calls.regrown_of (refBefore_is _ _ _ _ _ HF.out _))))
        refine wpQuiet_nil ?_
        rintro _ ⟨⟨dd, os⟩, rfl⟩
        have hb1 := below_regrown wr dd os
        generalize Sort.grow (redrawn wr dd) os = w1 at hb1
        have B1 := hide (bthen HBR.out hb1)
        clear hb1 r0 r1 s0 s1 e0 e1 f0 f1
        go_wp2_with fail
        go_ret
        exact ⟨ret_int HN.out.symm, B1.out⟩
      · rw [ho] at HS
        have HN := hide (HX.out.trans (HS.out.trans (if_neg (by decide))))
        have HF : Hid (Co.bef (y0, y1) (z0, z1) = false) := by show _ = _; rw [heq]; exact Co.bef_irr _
        have HF2 : Hid (Co.bef (z0, z1) (y0, y1) = false) := by show _ = _; rw [heq]; exact Co.bef_irr _
        clear heq ho HS
        go_wp2_with fail
        refine wp_region_quiet_below (by kernel_rfl) (by kernel_rfl) ?_
        repeat (go_big_quiet_step ((go_at_call 71; exact Calls.regrown_of (refBefore_is _ _ _ _ _ HF.out _))))
        refine wpQuiet_nil ?_
        rintro _ ⟨⟨dd, os⟩, rfl⟩
        have hb1 := below_regrown wr dd os
        have E0 := r0 dd os
        have E1 := r1 dd os
        have F0 := s0 dd os
        have F1 := s1 dd os
        generalize Sort.grow (redrawn wr dd) os = w1 at hb1 E0 E1 F0 F1
        have B1 := hide (bthen HBR.out hb1)
        clear hb1 r0 r1 s0 s1 e0 e1 f0 f1
        have r0 := fun dd os => cell_regrown E0 dd os
        have r1 := fun dd os => cell_regrown E1 dd os
        have s0 := fun dd os => cell_regrown F0 dd os
        have s1 := fun dd os => cell_regrown F1 dd os
        go_wp2_with fail
        refine wp_region_quiet_below (by kernel_rfl) (by kernel_rfl) ?_
        repeat (go_big_quiet_step ((go_at_call 71; exact Calls.regrown_of (refBefore_is _ _ _ _ _ HF2.out _))))
        refine wpQuiet_nil ?_
        rintro _ ⟨⟨dd2, os2⟩, rfl⟩
        have hb2 := below_regrown w1 dd2 os2
        generalize Sort.grow (redrawn w1 dd2) os2 = w2 at hb2
        have B2 := hide (bthen B1.out hb2)
        clear hb2 r0 r1 s0 s1 E0 E1 F0 F1
        go_wp2_with fail
        exact ⟨⟨k + 1, by go_num, by omega, HN.out, B2.out⟩, by simp [intOf] <;> omega⟩
      · rw [ho] at HS
        have HN := hide (HX.out.trans (HS.out.trans (if_pos (by decide))))
        have HF2 := hide hbf
        have HF : Hid (Co.bef (y0, y1) (z0, z1) = false) := by
          show _ = _
          cases h : Co.bef (y0, y1) (z0, z1)
          · rfl
          · have := Co.bef_trans h hbf; rw [Co.bef_irr] at this; cases this
        clear hbf ho HS
        go_wp2_with fail
        refine wp_region_quiet_below (by kernel_rfl) (by kernel_rfl) ?_
        repeat (go_big_quiet_step ((go_at_call 71; exact Calls.regrown_of (refBefore_is _ _ _ _ _ HF.out _))))
        refine wpQuiet_nil ?_
        rintro _ ⟨⟨dd, os⟩, rfl⟩
        have hb1 := below_regrown wr dd os
        have E0 := r0 dd os
        have E1 := r1 dd os
        have F0 := s0 dd os
        have F1 := s1 dd os
        generalize Sort.grow (redrawn wr dd) os = w1 at hb1 E0 E1 F0 F1
        have B1 := hide (bthen HBR.out hb1)
        clear hb1 r0 r1 s0 s1 e0 e1 f0 f1
        have r0 := fun dd os => cell_regrown E0 dd os
        have r1 := fun dd os => cell_regrown E1 dd os
        have s0 := fun dd os => cell_regrown F0 dd os
        have s1 := fun dd os => cell_regrown F1 dd os
        go_wp2_with fail
        refine wp_region_quiet_below (by kernel_rfl) (by kernel_rfl) ?_
        repeat (go_big_quiet_step ((go_at_call 71; exact Calls.regrown_of (refBefore_is _ _ _ _ _ HF2.out _))))
        refine wpQuiet_nil ?_
        rintro _ ⟨⟨dd2, os2⟩, rfl⟩
        have hb2 := below_regrown w1 dd2 os2
        generalize Sort.grow (redrawn w1 dd2) os2 = w2 at hb2
        have B2 := hide (bthen B1.out hb2)
        clear hb2 r0 r1 s0 s1 E0 E1 F0 F1
        go_wp2_with fail
        go_ret
        exact ⟨ret_int HN.out.symm, B2.out⟩
    · have hkA : ¬ (k : Int) < (a.length : Int) := by omega
      have he := hide (HX.out.trans (Co.lex_end a b k (by omega)))
      go_wp2_with fail
      go_ret
      exact ⟨ret_int he.out.symm, HBR.out⟩

theorem refCompare_is (ao bo : Option Addr) (ca cb : Nat) (a b : List Co.C) (x : Int) (hx : Co.compare a b = x) (w : World) (hA : Co.slot w ao a) (hB : Co.slot w bo b) (h200 : a.length ≤ 200) (_h200b : b.length ≤ 200) :
    Calls Try.prog 74 #[.slice ao a.length ca, .slice bo b.length cb] w fun e w' => e = .returned (.int .i64 x) ∧ Below w.heap.size w w' := by
  subst hx
  by_cases h1 : a.length < b.length
  · have e : Co.compare a b = -1 := by unfold Co.compare; rw [if_pos h1]
    rw [e]
    have hd : (a.length : Int) < (b.length : Int) := by omega
    clear hA hB e
    go_enter Try.func74, Try.ntmps74
    go_wp2_with fail
    go_ret
    exact ⟨rfl, brefl w⟩
  · by_cases h2 : b.length < a.length
    · have e : Co.compare a b = 1 := by unfold Co.compare; rw [if_neg h1, if_pos h2]
      rw [e]
      have hd : ¬ (a.length : Int) < (b.length : Int) := by omega
      have hd2 : (b.length : Int) < (a.length : Int) := by omega
      clear hA hB e
      go_enter Try.func74, Try.ntmps74
      go_wp2_with fail
      go_ret
      exact ⟨rfl, brefl w⟩
    · have e : Co.compare a b = Co.lex a b := by unfold Co.compare; rw [if_neg h1, if_neg h2]
      rw [e]
      exact refCompare_row ao bo ca cb a b w hA hB (by omega) h200
end Go.Proofs.Ytkhmhmopcofejaa.Cm

