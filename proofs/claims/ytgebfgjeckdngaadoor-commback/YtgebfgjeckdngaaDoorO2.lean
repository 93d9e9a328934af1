/- The contracts of slices.CompareFunc, of comm's Compare, of the document's Same, Compare and of the law's few. -/
import Derived.Test.YtgebfgjeckdngaaDoorO1
namespace Go.Proofs.YtgebfgjeckdngaaDoor
open Go.RowKit Go.Sort

def Co.lex : List Co.C → List Co.C → Int
  | x :: xs, y :: ys => if Co.ord x y ≠ 0 then Co.ord x y else Co.lex xs ys
  | _, _ => 0
def Co.compare (a b : List Co.C) : Int := if a.length < b.length then -1 else if b.length < a.length then 1 else Co.lex a b

theorem Co.lex_step (a b : List Co.C) (k : Nat) (h1 : k < a.length) (h2 : k < b.length) : Co.lex (a.drop k) (b.drop k) = if Co.ord a[k] b[k] ≠ 0 then Co.ord a[k] b[k] else Co.lex (a.drop (k + 1)) (b.drop (k + 1)) := by
  rw [List.drop_eq_getElem_cons h1, List.drop_eq_getElem_cons h2]
  rfl
theorem Co.lex_end (a b : List Co.C) (k : Nat) (h1 : a.length ≤ k) : Co.lex (a.drop k) (b.drop k) = 0 := by
  rw [List.drop_eq_nil_of_le h1]
  rfl

theorem few_is (ao : Option Addr) (n c : Nat) (r : Bool) (h : decide (n ≤ 200) = r) (w : World) : Calls Tryd.prog 19 #[.slice ao n c] w fun e w' => e = .returned (.bool r) ∧ w' = w := by
  have h1 : decide ((n : Int) ≤ 200) = r := by rw [← h]; congr 1; simp; omega
  cases r
  all_goals
    go_enter Tryd.func19, Tryd.ntmps19
    go_wp2_with fail
    go_ret
    exact ⟨rfl, rfl⟩

set_option maxHeartbeats 4000000 in
theorem cmpF_any (ao bo : Option Addr) (ca cb : Nat) (a b : List Co.C) (w : World) (hA : Co.slot w ao a) (hB : Co.slot w bo b) (hl : a.length = b.length) (h200 : a.length ≤ 200) :
    Calls Tryd.prog 45 #[.slice ao a.length ca, .slice bo b.length cb, .func (.func 41) #[] #[]] w fun e w' => e = .returned (.int .i64 (Co.lex a b)) ∧ Below w.heap.size w w' := by
  have HA := hide hA
  have HB := hide hB
  have HL := hide hl
  clear hA hB
  have hle : ¬ (a.length : Int) < (b.length : Int) := by omega
  have h200b : b.length ≤ 200 := by omega
  clear hl
  go_enter Tryd.func45, Tryd.ntmps45
  go_wp2_with fail
  go_loopw [13] (fun v wr => ∃ k : Nat, v = .int .i64 k ∧ k ≤ a.length ∧ Co.lex a b = Co.lex (a.drop k) (b.drop k) ∧ Below w.heap.size w wr) (fun v _ => a.length - (intOf v).toNat)
  case atStart => exact ⟨0, rfl, Nat.zero_le _, rfl, brefl w⟩
  case round =>
    obtain ⟨k, rfl, hk, hlex, hbr⟩ := hrel
    have HX := hide hlex
    have HBR := hide hbr
    clear hlex hbr
    by_cases hka : k < a.length
    · have hkb : k < b.length := by have := HL.out; omega
      have hkA : (k : Int) < (a.length : Int) := by omega
      have hkB : ¬ (b.length : Int) ≤ (k : Int) := by omega
      obtain ⟨b1, o1, rfl, hr1⟩ := Co.slot_at HA.out hka
      obtain ⟨b2, o2, rfl, hr2⟩ := Co.slot_at HB.out hkb
      obtain ⟨e0, e1⟩ := Co.reads_at (Co.reads_below hr1 HBR.out) k hka
      obtain ⟨f0, f1⟩ := Co.reads_at (Co.reads_below hr2 HBR.out) k hkb
      clear hr1 hr2
      have n1 : b1 < wr.heap.size := block_lt_of_cell e0
      have n2 : b2 < wr.heap.size := block_lt_of_cell f0
      have n3 : b2 < wr.heap.size + 1 := by omega
      have n4 : wr.heap.size ≠ b2 := by omega
      have n5 : b2 ≠ wr.heap.size := by omega
      have HS := hide (Co.lex_step a b k hka hkb)
      generalize a[k] = y at *
      generalize b[k] = z at *
      obtain ⟨y0, y1⟩ := y
      obtain ⟨z0, z1⟩ := z
      obtain ⟨o, ho⟩ : ∃ o, Co.ord (y0, y1) (z0, z1) = o := ⟨_, rfl⟩
      have HO := hide ho
      rw [ho] at HS
      clear ho
      cases hd : (o != 0)
      · have ho0 : o = 0 := by simpa using hd
        go_wp2_with fail
        refine (order_is y0 y1 z0 z1 o HO.out _).mono ?_
        rintro e w1 ⟨rfl, hb1⟩
        have B1 := hide (bthen (balloc (balloc HBR.out _) _) hb1)
        clear hb1
        have HN := hide (HX.out.trans (HS.out.trans (if_neg (by simp [ho0]))))
        go_wp2_with fail
        exact ⟨⟨k + 1, by go_num, by omega, HN.out, B1.out⟩, by simp [intOf] <;> omega⟩
      · have ho0 : o ≠ 0 := by simpa using hd
        have HN := hide (HX.out.trans (HS.out.trans (if_pos ho0)))
        go_wp2_with fail
        refine (order_is y0 y1 z0 z1 o HO.out _).mono ?_
        rintro e w1 ⟨rfl, hb1⟩
        have B1 := hide (bthen (balloc (balloc HBR.out _) _) hb1)
        clear hb1
        go_wp2_with fail
        go_ret
        exact ⟨ret_int HN.out.symm, B1.out⟩
    · have hkA : ¬ (k : Int) < (a.length : Int) := by omega
      have he := hide (HX.out.trans (Co.lex_end a b k (by omega)))
      go_wp2_with fail
      go_ret
      exact ⟨ret_int he.out.symm, HBR.out⟩

set_option maxHeartbeats 1000000 in
theorem compare_is (ao bo : Option Addr) (ca cb : Nat) (a b : List Co.C) (x : Int) (hx : Co.compare a b = x) (w : World) (hA : Co.slot w ao a) (hB : Co.slot w bo b) (h200 : a.length ≤ 200) (_h200b : b.length ≤ 200) :
    Calls Tryd.prog 26 #[.slice ao a.length ca, .slice bo b.length cb] w fun e w' => e = .returned (.int .i64 x) ∧ Below w.heap.size w w' := by
  have HA := hide hA
  have HB := hide hB
  have HX := hide hx
  clear hA hB hx
  by_cases hl : a.length = b.length
  · have hd : ((a.length : Int) != (b.length : Int)) = false := by simp [hl]
    have CC := hide (fun W (hW : Below w.heap.size w W) => cmpF_any ao bo ca cb a b W (Co.slot_below HA.out hW) (Co.slot_below HB.out hW) hl h200)
    have HX2 : Hid (x = Co.lex a b) := by
      show _ = _
      rw [← HX.out, Co.compare, if_neg (by omega), if_neg (by omega)]
    clear hl
    go_enter Tryd.func26, Tryd.ntmps26
    go_wp2_with fail
    refine (CC.out _ (brefl w)).mono ?_
    rintro e w1 ⟨rfl, hb1⟩
    go_wp2_with fail
    go_ret
    exact ⟨ret_int HX2.out.symm, hb1⟩
  · have hd : ((a.length : Int) != (b.length : Int)) = true := by simp; omega
    have HX2 : Hid (x = Co.ci a.length b.length) := by
      show _ = _
      rw [← HX.out, Co.compare, Co.ci]
      by_cases h1 : a.length < b.length
      · rw [if_pos h1, if_pos (by omega)]
      · rw [if_neg h1, if_pos (by omega), if_neg (by omega), if_pos (by omega)]
    clear hl
    go_enter Tryd.func26, Tryd.ntmps26
    go_wp2_with fail
    refine (cmpI_any _ _ _).mono ?_
    rintro e w1 ⟨rfl, rfl⟩
    go_wp2_with fail
    go_ret
    exact ⟨ret_int HX2.out.symm, brefl _⟩

theorem Co.ne_at (a b : List Co.C) (k : Nat) (h1 : k < a.length) (h2 : k < b.length) (h : a[k] ≠ b[k]) : a ≠ b := by
  intro e
  subst e
  exact h rfl

set_option maxHeartbeats 4000000 in
theorem refSame_is (ao bo : Option Addr) (ca cb : Nat) (a b : List Co.C) (r : Bool) (hr : decide (a = b) = r) (w : World) (hA : Co.slot w ao a) (hB : Co.slot w bo b) (h200 : a.length ≤ 1000000) (_h200b : b.length ≤ 1000000) :
    Calls Tryd.prog 30 #[.slice ao a.length ca, .slice bo b.length cb] w fun e w' => e = .returned (.bool r) ∧ Below w.heap.size w w' := by
  have HA := hide hA
  have HB := hide hB
  have HR := hide hr
  clear hA hB hr
  by_cases hl : a.length = b.length
  · have hd : ((a.length : Int) != (b.length : Int)) = false := by simp [hl]
    have HL := hide hl
    clear hl
    go_enter Tryd.func30, Tryd.ntmps30
    go_wp2_with fail
    go_loopw [5] (fun v wr => ∃ k : Nat, v = .int .i64 k ∧ k ≤ a.length ∧ a.take k = b.take k ∧ Below w.heap.size w wr) (fun v _ => a.length - (intOf v).toNat)
    case atStart => exact ⟨0, rfl, Nat.zero_le _, rfl, brefl w⟩
    case round =>
      obtain ⟨k, rfl, hk, ht, hbr⟩ := hrel
      have HT := hide ht
      have HBR := hide hbr
      clear ht hbr
      by_cases hka : k < a.length
      · have hkb : k < b.length := by have := HL.out; omega
        have hkA : (k : Int) < (a.length : Int) := by omega
        have hkB : (k : Int) < (b.length : Int) := by omega
        obtain ⟨b1, o1, rfl, hr1⟩ := Co.slot_at HA.out hka
        obtain ⟨b2, o2, rfl, hr2⟩ := Co.slot_at HB.out hkb
        obtain ⟨e0, e1⟩ := Co.reads_at (Co.reads_below hr1 HBR.out) k hka
        obtain ⟨f0, f1⟩ := Co.reads_at (Co.reads_below hr2 HBR.out) k hkb
        clear hr1 hr2
        have HNE := hide (Co.ne_at a b k hka hkb)
        have HEQ : Hid (a[k] = b[k] → a.take (k + 1) = b.take (k + 1)) := by
          show _ → _
          intro e
          rw [List.take_succ_eq_append_getElem hka, List.take_succ_eq_append_getElem hkb, HT.out, e]
        generalize a[k] = y at *
        generalize b[k] = z at *
        obtain ⟨y0, y1⟩ := y
        obtain ⟨z0, z1⟩ := z
        have r0 := fun dd os => cell_regrown e0 dd os
        have r1 := fun dd os => cell_regrown e1 dd os
        have s0 := fun dd os => cell_regrown f0 dd os
        have s1 := fun dd os => cell_regrown f1 dd os
        have hq := neqC
        have hgd := guardC
        cases hd2 : (y0 == z0 && y1 == z1)
        all_goals
          go_wp2_with fail
          refine wp_region_quiet_below (by kernel_rfl) (by kernel_rfl) ?_
          repeat (go_big_quiet_step (fail))
          refine wpQuiet_nil ?_
          rintro _ ⟨⟨dd, os⟩, rfl⟩
          have hb1 := below_regrown wr dd os
          generalize Sort.grow (redrawn wr dd) os = w1 at hb1
          have B1 := hide (bthen HBR.out hb1)
          clear hb1 r0 r1 s0 s1 e0 e1 f0 f1 hq hgd
          go_wp2_with fail
        · go_ret
          refine ⟨ret_bool ?_, B1.out⟩
          rw [← HR.out]
          have : a ≠ b := HNE.out (by simp at hd2 ⊢; exact hd2)
          simp [this]
        · exact ⟨⟨k + 1, by go_num, by omega, HEQ.out (by simp at hd2 ⊢; exact hd2), B1.out⟩, by simp [intOf] <;> omega⟩
      · have hkA : ¬ (k : Int) < (a.length : Int) := by omega
        go_wp2_with fail
        go_ret
        refine ⟨ret_bool ?_, HBR.out⟩
        have h1 := HT.out
        have h2 := HL.out
        rw [List.take_of_length_le (by omega), List.take_of_length_le (by omega)] at h1
        rw [← HR.out]
        simp [h1]
  · have hd : ((a.length : Int) != (b.length : Int)) = true := by simp; omega
    go_enter Tryd.func30, Tryd.ntmps30
    go_wp2_with fail
    go_ret
    refine ⟨ret_bool ?_, brefl w⟩
    rw [← HR.out]
    have : a ≠ b := fun e => hl (by rw [e])
    simp [this]
end Go.Proofs.YtgebfgjeckdngaaDoor
