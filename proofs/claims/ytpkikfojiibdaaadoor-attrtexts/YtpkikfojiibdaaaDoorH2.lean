/- The contracts of the document's Compare and Same of paths. -/
import Derived.Test.YtpkikfojiibdaaaDoorH1
namespace Go.Proofs.YtpkikfojiibdaaaDoor
open Go.RowKit Go.Sort

def Is.lex : List Int → List Int → Int
  | x :: xs, y :: ys => if x < y then -1 else if y < x then 1 else Is.lex xs ys
  | _, _ => 0
def Is.compare (a b : List Int) : Int := if a.length < b.length then -1 else if b.length < a.length then 1 else Is.lex a b

theorem Is.lex_step (a b : List Int) (k : Nat) (h1 : k < a.length) (h2 : k < b.length) : Is.lex (a.drop k) (b.drop k) = if a[k] < b[k] then -1 else if b[k] < a[k] then 1 else Is.lex (a.drop (k + 1)) (b.drop (k + 1)) := by
  rw [List.drop_eq_getElem_cons h1, List.drop_eq_getElem_cons h2]
  rfl
theorem Is.lex_end (a b : List Int) (k : Nat) (h1 : a.length ≤ k) : Is.lex (a.drop k) (b.drop k) = 0 := by
  rw [List.drop_eq_nil_of_le h1]
  rfl
theorem Is.lex_bd : ∀ a b : List Int, -1 ≤ Is.lex a b ∧ Is.lex a b ≤ 1
  | [], _ => by simp [Is.lex]
  | _ :: _, [] => by simp [Is.lex]
  | x :: xs, y :: ys => by
    have := Is.lex_bd xs ys
    simp only [Is.lex]
    split
    · omega
    · split <;> omega
theorem Is.lex_zero : ∀ a b : List Int, a.length = b.length → (Is.lex a b = 0 ↔ a = b)
  | [], [], _ => by simp [Is.lex]
  | [], _ :: _, h => by simp at h
  | _ :: _, [], h => by simp at h
  | x :: xs, y :: ys, h => by
    have ih := Is.lex_zero xs ys (by simpa using h)
    simp only [Is.lex, List.cons.injEq]
    by_cases h1 : x < y
    · rw [if_pos h1]
      constructor
      · intro h; omega
      · intro h; omega
    · rw [if_neg h1]
      by_cases h2 : y < x
      · rw [if_pos h2]
        constructor
        · intro h; omega
        · intro h; omega
      · rw [if_neg h2, ih]
        constructor
        · exact fun h => ⟨by omega, h⟩
        · exact fun h => h.2
theorem Is.lex_neg : ∀ a b : List Int, Is.lex b a = -Is.lex a b
  | [], [] => rfl
  | [], _ :: _ => rfl
  | _ :: _, [] => rfl
  | x :: xs, y :: ys => by
    have ih := Is.lex_neg xs ys
    simp only [Is.lex]
    by_cases h1 : x < y
    · rw [if_pos h1, if_neg (by omega), if_pos h1]; rfl
    · by_cases h2 : y < x
      · rw [if_pos h2, if_neg h1, if_pos h2]
      · rw [if_neg h2, if_neg h1, if_neg h1, if_neg h2, ih]
theorem Is.lex_trans : ∀ a b c : List Int, a.length = b.length → b.length = c.length → Is.lex a b ≤ 0 → Is.lex b c ≤ 0 → Is.lex a c ≤ 0 ∧ ((Is.lex a b = 0 ∧ Is.lex b c = 0) ∨ Is.lex a c < 0)
  | [], [], [], _, _, _, _ => by simp [Is.lex]
  | x :: xs, y :: ys, z :: zs, h1, h2, h3, h4 => by
    have ih := Is.lex_trans xs ys zs (by simpa using h1) (by simpa using h2)
    simp only [Is.lex] at *
    by_cases e1 : x < y
    · by_cases e2 : y < z
      · rw [if_pos (show x < z by omega)]; omega
      · rw [if_neg e2] at h4
        by_cases e3 : z < y
        · rw [if_pos e3] at h4; omega
        · rw [if_pos (show x < z by omega)]; omega
    · rw [if_neg e1] at h3
      by_cases e3 : y < x
      · rw [if_pos e3] at h3; omega
      · rw [if_neg e3] at h3
        by_cases e2 : y < z
        · rw [if_pos (show x < z by omega)]; omega
        · rw [if_neg e2] at h4
          by_cases e4 : z < y
          · rw [if_pos e4] at h4; omega
          · rw [if_neg e4] at h4
            have := ih h3 h4
            rw [if_neg (show ¬ x < z by omega), if_neg (show ¬ z < x by omega), if_neg e1, if_neg e3, if_neg e2, if_neg e4]
            exact this
  | [], _ :: _, _, h, _, _, _ => by simp at h
  | _ :: _, [], _, h, _, _, _ => by simp at h
  | [], [], _ :: _, _, h, _, _ => by simp at h
  | _ :: _, _ :: _, [], _, h, _, _ => by simp at h
theorem Is.compare_bd (a b : List Int) : -1 ≤ Is.compare a b ∧ Is.compare a b ≤ 1 := by
  have := Is.lex_bd a b
  unfold Is.compare
  split
  · omega
  · split <;> omega
theorem Is.compare_zero (a b : List Int) : Is.compare a b = 0 ↔ a = b := by
  unfold Is.compare
  split
  · constructor
    · intro h; omega
    · rintro rfl; omega
  · split
    · constructor
      · intro h; omega
      · rintro rfl; omega
    · exact Is.lex_zero a b (by omega)
theorem Is.compare_neg (a b : List Int) : Is.compare b a = -Is.compare a b := by
  have := Is.lex_neg a b
  unfold Is.compare
  by_cases h1 : a.length < b.length
  · rw [if_pos h1, if_neg (by omega), if_pos h1]; rfl
  · by_cases h2 : b.length < a.length
    · rw [if_pos h2, if_neg h1, if_pos h2]
    · rw [if_neg h2, if_neg h1, if_neg h1, if_neg h2, this]
theorem Is.compare_trans (a b c : List Int) (h1 : Is.compare a b ≤ 0) (h2 : Is.compare b c ≤ 0) : Is.compare a c ≤ 0 ∧ ((Is.compare a b = 0 ∧ Is.compare b c = 0) ∨ Is.compare a c < 0) := by
  unfold Is.compare at *
  by_cases e1 : a.length < b.length
  · by_cases e2 : b.length < c.length
    · rw [if_pos (show a.length < c.length by omega)]; omega
    · rw [if_neg e2] at h2
      by_cases e3 : c.length < b.length
      · rw [if_pos e3] at h2; omega
      · rw [if_pos (show a.length < c.length by omega)]; omega
  · rw [if_neg e1] at h1
    by_cases e3 : b.length < a.length
    · rw [if_pos e3] at h1; omega
    · rw [if_neg e3] at h1
      by_cases e2 : b.length < c.length
      · rw [if_pos (show a.length < c.length by omega)]; omega
      · rw [if_neg e2] at h2
        by_cases e4 : c.length < b.length
        · rw [if_pos e4] at h2; omega
        · rw [if_neg e4] at h2
          have := Is.lex_trans a b c (by omega) (by omega) h1 h2
          rw [if_neg (show ¬ a.length < c.length by omega), if_neg (show ¬ c.length < a.length by omega), if_neg e1, if_neg e3, if_neg e2, if_neg e4]
          exact this

set_option maxHeartbeats 4000000 in
theorem refCompare_same (ao bo : Option Addr) (ca cb : Nat) (a b : List Int) (w : World) (hA : Is.slot w ao a) (hB : Is.slot w bo b) (hl : a.length = b.length) (h300 : a.length ≤ 300) :
    Calls Tryd.prog 42 #[.slice ao a.length ca, .slice bo b.length cb] w fun e w' => e = .returned (.int .i64 (Is.lex a b)) ∧ Below w.heap.size w w' := by
  have HA := hide hA
  have HB := hide hB
  have HL := hide hl
  clear hA hB
  have hle : (a.length : Int) = (b.length : Int) := by omega
  have h300b : b.length ≤ 300 := by omega
  clear hl
  go_enter Tryd.func42, Tryd.ntmps42
  go_wp2_with fail
  go_loopw [5] (fun v wr => ∃ k : Nat, v = .int .i64 k ∧ k ≤ a.length ∧ Hid (Is.lex a b = Is.lex (a.drop k) (b.drop k)) ∧ Below w.heap.size w wr) (fun v _ => a.length - (intOf v).toNat)
  case atStart => exact ⟨0, rfl, Nat.zero_le _, hide rfl, brefl w⟩
  case round =>
    obtain ⟨k, rfl, hk, HX, hbr⟩ := hrel
    have HBR := hide hbr
    clear hbr
    by_cases hka : k < a.length
    · have hkb : k < b.length := by have := HL.out; omega
      have hkA : (k : Int) < (a.length : Int) := by omega
      have hkB : (k : Int) < (b.length : Int) := by omega
      obtain ⟨b1, o1, rfl, hr1⟩ := Is.slot_at HA.out hka
      obtain ⟨b2, o2, rfl, hr2⟩ := Is.slot_at HB.out hkb
      have e0 := Is.reads_below hr1 HBR.out k hka
      have f0 := Is.reads_below hr2 HBR.out k hkb
      clear hr1 hr2
      have HS := hide (Is.lex_step a b k hka hkb)
      generalize a[k] = y at *
      generalize b[k] = z at *
      have r0 := fun dd os => cell_regrown e0 dd os
      have s0 := fun dd os => cell_regrown f0 dd os
      by_cases h1 : y < z
      · have HN := hide (HX.out.trans (HS.out.trans (if_pos h1)))
        clear HS
        go_wp2_with fail
        refine wp_region_quiet_below (by kernel_rfl) (by kernel_rfl) ?_
        repeat (go_big_quiet_step (fail))
        refine wpQuiet_nil ?_
        rintro _ ⟨⟨dd, os⟩, rfl⟩
        have hb1 := below_regrown wr dd os
        generalize Sort.grow (redrawn wr dd) os = w1 at hb1
        have B1 := hide (bthen HBR.out hb1)
        clear hb1 r0 s0 e0 f0
        go_wp2_with fail
        go_ret
        exact ⟨ret_int HN.out.symm, B1.out⟩
      · have HS1 := hide (HX.out.trans (HS.out.trans (if_neg h1)))
        clear HS
        go_wp2_with fail
        refine wp_region_quiet_below (by kernel_rfl) (by kernel_rfl) ?_
        repeat (go_big_quiet_step (fail))
        refine wpQuiet_nil ?_
        rintro _ ⟨⟨dd, os⟩, rfl⟩
        have hb1 := below_regrown wr dd os
        have E0 := r0 dd os
        have F0 := s0 dd os
        generalize Sort.grow (redrawn wr dd) os = w1 at hb1 E0 F0
        have B1 := hide (bthen HBR.out hb1)
        clear hb1 r0 s0 e0 f0
        have r0 := fun dd os => cell_regrown E0 dd os
        have s0 := fun dd os => cell_regrown F0 dd os
        by_cases h2 : z < y
        · have HN := hide (HS1.out.trans (if_pos h2))
          clear HS1
          go_wp2_with fail
          refine wp_region_quiet_below (by kernel_rfl) (by kernel_rfl) ?_
          repeat (go_big_quiet_step (fail))
          refine wpQuiet_nil ?_
          rintro _ ⟨⟨dd2, os2⟩, rfl⟩
          have hb2 := below_regrown w1 dd2 os2
          generalize Sort.grow (redrawn w1 dd2) os2 = w2 at hb2
          have B2 := hide (bthen B1.out hb2)
          clear hb2 r0 s0 E0 F0
          go_wp2_with fail
          go_ret
          exact ⟨ret_int HN.out.symm, B2.out⟩
        · have HN := hide (HS1.out.trans (if_neg h2))
          clear HS1
          go_wp2_with fail
          refine wp_region_quiet_below (by kernel_rfl) (by kernel_rfl) ?_
          repeat (go_big_quiet_step (fail))
          refine wpQuiet_nil ?_
          rintro _ ⟨⟨dd2, os2⟩, rfl⟩
          have hb2 := below_regrown w1 dd2 os2
          generalize Sort.grow (redrawn w1 dd2) os2 = w2 at hb2
          have B2 := hide (bthen B1.out hb2)
          clear hb2 r0 s0 E0 F0
          go_wp2_with fail
          exact ⟨⟨k + 1, by go_num, by omega, hide HN.out, B2.out⟩, by simp [intOf] <;> omega⟩
    · have HN := hide (HX.out.trans (Is.lex_end a b k (by omega)))
      obtain rfl : k = a.length := by omega
      go_wp2_with fail
      go_ret
      exact ⟨ret_int HN.out.symm, HBR.out⟩

theorem refCompare_is (ao bo : Option Addr) (ca cb : Nat) (a b : List Int) (x : Int) (hx : Is.compare a b = x) (w : World) (hA : Is.slot w ao a) (hB : Is.slot w bo b) (ha : a.length ≤ 300) :
    Calls Tryd.prog 42 #[.slice ao a.length ca, .slice bo b.length cb] w fun e w' => e = .returned (.int .i64 x) ∧ Below w.heap.size w w' := by
  subst hx
  unfold Is.compare
  by_cases h1 : a.length < b.length
  · rw [if_pos h1]
    have h1' : (a.length : Int) < (b.length : Int) := by omega
    have h2' : ¬ (a.length : Int) = (b.length : Int) := by omega
    go_enter Tryd.func42, Tryd.ntmps42
    go_wp2_with fail
    go_ret
    exact ⟨rfl, brefl w⟩
  · rw [if_neg h1]
    by_cases h2 : b.length < a.length
    · rw [if_pos h2]
      have h1' : ¬ (a.length : Int) < (b.length : Int) := by omega
      have h2' : ¬ (a.length : Int) = (b.length : Int) := by omega
      go_enter Tryd.func42, Tryd.ntmps42
      go_wp2_with fail
      go_ret
      exact ⟨rfl, brefl w⟩
    · rw [if_neg h2]
      exact refCompare_same ao bo ca cb a b w hA hB (by omega) ha

end Go.Proofs.YtpkikfojiibdaaaDoor
