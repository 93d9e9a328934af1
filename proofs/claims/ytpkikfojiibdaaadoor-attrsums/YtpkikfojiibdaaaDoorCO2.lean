/- The contracts of slices.CompareFunc, of comm's Compare, of the document's Same, Compare and of the law's few. -/
import Derived.Test.YtpkikfojiibdaaaDoorCO1
namespace Go.Proofs.YtpkikfojiibdaaaDoor.Cm
open Go.RowKit Go.Sort

def Co.lex : List Co.C → List Co.C → Int
  | x :: xs, y :: ys => if Co.ord x y ≠ 0 then Co.ord x y else Co.lex xs ys
  | _, _ => 0
def Co.compare (a b : List Co.C) : Int := if a.length < b.length then -1 else if b.length < a.length then 1 else Co.lex a b

theorem Co.lex_step (a b : List Co.C) (k : Nat) (h1 : k < a.length) (h2 : k < b.length) : Co.lex (a.drop k) (b.drop k) = if Co.ord a[k] b[k] ≠ 0 then Co.ord a[k] b[k] else Co.lex (a.drop (k + 1)) (b.drop (k + 1)) := by
  rw [List.drop_eq_getElem_cons h1, List.drop_eq_getElem_cons h2]
  rfl
theorem Co.lex_end (a b : List Co.C) (k : Nat) (h1 : a.length ≤ k) : Co.lex (a.drop k) (b.drop k) = 0 := by
  rw [List.drop_eq_nil_of_le h1]
  rfl

set_option maxHeartbeats 4000000 in
theorem cmpF_any (ao bo : Option Addr) (ca cb : Nat) (a b : List Co.C) (w : World) (hA : Co.slot w ao a) (hB : Co.slot w bo b) (hl : a.length = b.length) (h200 : a.length ≤ 200) :
    Calls Tryd.prog 59 #[.slice ao a.length ca, .slice bo b.length cb, .func (.func 51) #[] #[]] w fun e w' => e = .returned (.int .i64 (Co.lex a b)) ∧ Below w.heap.size w w' := by
  have HA := hide hA
  have HB := hide hB
  have HL := hide hl
  clear hA hB
  have hle : ¬ (a.length : Int) < (b.length : Int) := by omega
  have h200b : b.length ≤ 200 := by omega
  clear hl
  go_enter Tryd.func59, Tryd.ntmps59
  go_wp2_with fail
  go_loopw [13] (fun v wr => ∃ k : Nat, v = .int .i64 k ∧ k ≤ a.length ∧ Co.lex a b = Co.lex (a.drop k) (b.drop k) ∧ Below w.heap.size w wr) (fun v _ => a.length - (intOf v).toNat)
  case atStart => exact ⟨0, rfl, Nat.zero_le _, rfl, brefl w⟩
  case round =>
    obtain ⟨k, rfl, hk, hlex, hbr⟩ := hrel
    have HX := hide hlex
    have HBR := hide hbr
    clear hlex hbr
    by_cases hka : k < a.length
    · have hkb : k < b.length := by have := HL.out; omega
      have hkA : (k : Int) < (a.length : Int) := by omega
      have hkB : ¬ (b.length : Int) ≤ (k : Int) := by omega
      obtain ⟨b1, o1, rfl, hr1⟩ := Co.slot_at HA.out hka
      obtain ⟨b2, o2, rfl, hr2⟩ := Co.slot_at HB.out hkb
      obtain ⟨e0, e1⟩ := Co.reads_at (Co.reads_below hr1 HBR.out) k hka
      obtain ⟨f0, f1⟩ := Co.reads_at (Co.reads_below hr2 HBR.out) k hkb
      clear hr1 hr2
      have n1 : b1 < wr.heap.size := block_lt_of_cell e0
      have n2 : b2 < wr.heap.size := block_lt_of_cell f0
      have n3 : b2 < wr.heap.size + 1 := by omega
      have n4 : wr.heap.size ≠ b2 := by omega
      have n5 : b2 ≠ wr.heap.size := by omega
      have HS := hide (Co.lex_step a b k hka hkb)
      generalize a[k] = y at *
      generalize b[k] = z at *
      obtain ⟨y0, y1⟩ := y
      obtain ⟨z0, z1⟩ := z
      obtain ⟨o, ho⟩ : ∃ o, Co.ord (y0, y1) (z0, z1) = o := ⟨_, rfl⟩
      have HO := hide ho
      rw [ho] at HS
      clear ho
      cases hd : (o != 0)
      · have ho0 : o = 0 := by simpa using hd
        go_wp2_with fail
        refine (order_is y0 y1 z0 z1 o HO.out _).mono ?_
        rintro e w1 ⟨rfl, hb1⟩
        have B1 := hide (bthen (balloc (balloc HBR.out _) _) hb1)
        clear hb1
        have HN := hide (HX.out.trans (HS.out.trans (if_neg (by simp [ho0]))))
        go_wp2_with fail
        exact ⟨⟨k + 1, by go_num, by omega, HN.out, B1.out⟩, by simp [intOf] <;> omega⟩
      · have ho0 : o ≠ 0 := by simpa using hd
        have HN := hide (HX.out.trans (HS.out.trans (if_pos ho0)))
        go_wp2_with fail
        refine (order_is y0 y1 z0 z1 o HO.out _).mono ?_
        rintro e w1 ⟨rfl, hb1⟩
        have B1 := hide (bthen (balloc (balloc HBR.out _) _) hb1)
        clear hb1
        go_wp2_with fail
        go_ret
        exact ⟨ret_int HN.out.symm, B1.out⟩
    · have hkA : ¬ (k : Int) < (a.length : Int) := by omega
      have he := hide (HX.out.trans (Co.lex_end a b k (by omega)))
      go_wp2_with fail
      go_ret
      exact ⟨ret_int he.out.symm, HBR.out⟩

set_option maxHeartbeats 1000000 in
theorem compare_is (ao bo : Option Addr) (ca cb : Nat) (a b : List Co.C) (x : Int) (hx : Co.compare a b = x) (w : World) (hA : Co.slot w ao a) (hB : Co.slot w bo b) (h200 : a.length ≤ 200) (_h200b : b.length ≤ 200) :
    Calls Tryd.prog 39 #[.slice ao a.length ca, .slice bo b.length cb] w fun e w' => e = .returned (.int .i64 x) ∧ Below w.heap.size w w' := by
  have HA := hide hA
  have HB := hide hB
  have HX := hide hx
  clear hA hB hx
  by_cases hl : a.length = b.length
  · have hd : ((a.length : Int) != (b.length : Int)) = false := by simp [hl]
    have CC := hide (fun W (hW : Below w.heap.size w W) => cmpF_any ao bo ca cb a b W (Co.slot_below HA.out hW) (Co.slot_below HB.out hW) hl h200)
    have HX2 : Hid (x = Co.lex a b) := by
      show _ = _
      rw [← HX.out, Co.compare, if_neg (by omega), if_neg (by omega)]
    clear hl
    go_enter Tryd.func39, Tryd.ntmps39
    go_wp2_with fail
    refine (CC.out _ (brefl w)).mono ?_
    rintro e w1 ⟨rfl, hb1⟩
    go_wp2_with fail
    go_ret
    exact ⟨ret_int HX2.out.symm, hb1⟩
  · have hd : ((a.length : Int) != (b.length : Int)) = true := by simp; omega
    have HX2 : Hid (x = Co.ci a.length b.length) := by
      show _ = _
      rw [← HX.out, Co.compare, Co.ci]
      by_cases h1 : a.length < b.length
      · rw [if_pos h1, if_pos (by omega)]
      · rw [if_neg h1, if_pos (by omega), if_neg (by omega), if_pos (by omega)]
    clear hl
    go_enter Tryd.func39, Tryd.ntmps39
    go_wp2_with fail
    refine (cmpI_any _ _ _).mono ?_
    rintro e w1 ⟨rfl, rfl⟩
    go_wp2_with fail
    go_ret
    exact ⟨ret_int HX2.out.symm, brefl _⟩

theorem Co.ne_at (a b : List Co.C) (k : Nat) (h1 : k < a.length) (h2 : k < b.length) (h : a[k] ≠ b[k]) : a ≠ b := by
  intro e
  subst e
  exact h rfl

end Go.Proofs.YtpkikfojiibdaaaDoor.Cm