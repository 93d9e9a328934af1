/- The contracts of the document's Compare and Same of paths. -/
import Derived.Test.YtngfoijmknclhaaGreatDoorJ48
import Derived.Deep.CutBlock
import Derived.Laws.Rows
namespace Go.Proofs.YtngfoijmknclhaaGreatDoor
open Go.RowKit Go.Sort
def Is.lex : List Int → List Int → Int
  | x :: xs, y :: ys => if x < y then -1 else if y < x then 1 else Is.lex xs ys
  | _, _ => 0
def Is.compare (a b : List Int) : Int := if a.length < b.length then -1 else if b.length < a.length then 1 else Is.lex a b

theorem Is.lex_step (a b : List Int) (k : Nat) (h1 : k < a.length) (h2 : k < b.length) : Is.lex (a.drop k) (b.drop k) = if a[k] < b[k] then -1 else if b[k] < a[k] then 1 else Is.lex (a.drop (k + 1)) (b.drop (k + 1)) := by
  rw [List.drop_eq_getElem_cons h1, List.drop_eq_getElem_cons h2]
  rfl
theorem Is.lex_end (a b : List Int) (k : Nat) (h1 : a.length ≤ k) : Is.lex (a.drop k) (b.drop k) = 0 := by
  rw [List.drop_eq_nil_of_le h1]
  rfl
theorem Is.lex_zero : ∀ a b : List Int, a.length = b.length → (Is.lex a b = 0 ↔ a = b)
  | [], [], _ => by simp [Is.lex]
  | [], _ :: _, h => by simp at h
  | _ :: _, [], h => by simp at h
  | x :: xs, y :: ys, h => by
    have ih := Is.lex_zero xs ys (by simpa using h)
    simp only [Is.lex, List.cons.injEq]
    by_cases h1 : x < y
    · rw [if_pos h1]
      constructor
      · intro h; omega
      · intro h; omega
    · rw [if_neg h1]
      by_cases h2 : y < x
      · rw [if_pos h2]
        constructor
        · intro h; omega
        · intro h; omega
      · rw [if_neg h2, ih]
        constructor
        · exact fun h => ⟨by omega, h⟩
        · exact fun h => h.2
theorem Is.compare_zero (a b : List Int) : Is.compare a b = 0 ↔ a = b := by
  unfold Is.compare
  split
  · constructor
    · intro h; omega
    · rintro rfl; omega
  · split
    · constructor
      · intro h; omega
      · rintro rfl; omega
    · exact Is.lex_zero a b (by omega)
set_option maxHeartbeats 4000000 in
theorem refCompare_same (ao bo : Option Addr) (ca cb : Nat) (a b : List Int) (w : World) (hA : Is.slot w ao a) (hB : Is.slot w bo b) (hl : a.length = b.length) (h300 : a.length ≤ 300) :
    Calls Tryz.prog 118 #[.slice ao a.length ca, .slice bo b.length cb] w fun e w' => e = .returned (.int .i64 (Is.lex a b)) ∧ Below w.heap.size w w' := by
  have HA := hide hA
  have HB := hide hB
  have HL := hide hl
  clear hA hB
  have hle : (a.length : Int) = (b.length : Int) := by omega
  have h300b : b.length ≤ 300 := by omega
  clear hl
  go_enter Tryz.func118, Tryz.ntmps118
  go_wp2_with fail
  go_loopw [5] (fun v wr => ∃ k : Nat, v = .int .i64 k ∧ k ≤ a.length ∧ Hid (Is.lex a b = Is.lex (a.drop k) (b.drop k)) ∧ Below w.heap.size w wr) (fun v _ => a.length - (intOf v).toNat)
  case atStart => exact ⟨0, rfl, Nat.zero_le _, hide rfl, brefl w⟩
  case round =>
    obtain ⟨k, rfl, hk, HX, hbr⟩ := hrel
    have HBR := hide hbr
    clear hbr
    by_cases hka : k < a.length
    · have hkb : k < b.length := by have := HL.out; omega
      have hkA : (k : Int) < (a.length : Int) := by omega
      have hkB : (k : Int) < (b.length : Int) := by omega
      obtain ⟨b1, o1, rfl, hr1⟩ := Is.slot_at HA.out hka
      obtain ⟨b2, o2, rfl, hr2⟩ := Is.slot_at HB.out hkb
      have e0 := Is.reads_below hr1 HBR.out k hka
      have f0 := Is.reads_below hr2 HBR.out k hkb
      clear hr1 hr2
      have HS := hide (Is.lex_step a b k hka hkb)
      generalize a[k] = y at *
      generalize b[k] = z at *
      have r0 := fun dd os => cell_regrown e0 dd os
      have s0 := fun dd os => cell_regrown f0 dd os
      by_cases h1 : y < z
      · have HN := hide (HX.out.trans (HS.out.trans (if_pos h1)))
        clear HS
        go_wp2_with fail
        refine wp_region_quiet_below (by kernel_rfl) (by kernel_rfl) ?_
        repeat (go_big_quiet_step (fail))
        refine wpQuiet_nil ?_
        rintro _ ⟨⟨dd, os⟩, rfl⟩
        have hb1 := below_regrown wr dd os
        generalize Sort.grow (redrawn wr dd) os = w1 at hb1
        have B1 := hide (bthen HBR.out hb1)
        clear hb1 r0 s0 e0 f0
        go_wp2_with fail
        go_ret
        exact ⟨ret_int HN.out.symm, B1.out⟩
      · have HS1 := hide (HX.out.trans (HS.out.trans (if_neg h1)))
        clear HS
        go_wp2_with fail
        refine wp_region_quiet_below (by kernel_rfl) (by kernel_rfl) ?_
        repeat (go_big_quiet_step (fail))
        refine wpQuiet_nil ?_
        rintro _ ⟨⟨dd, os⟩, rfl⟩
        have hb1 := below_regrown wr dd os
        have E0 := r0 dd os
        have F0 := s0 dd os
        generalize Sort.grow (redrawn wr dd) os = w1 at hb1 E0 F0
        have B1 := hide (bthen HBR.out hb1)
        clear hb1 r0 s0 e0 f0
        have r0 := fun dd os => cell_regrown E0 dd os
        have s0 := fun dd os => cell_regrown F0 dd os
        by_cases h2 : z < y
        · have HN := hide (HS1.out.trans (if_pos h2))
          clear HS1
          go_wp2_with fail
          refine wp_region_quiet_below (by kernel_rfl) (by kernel_rfl) ?_
          repeat (go_big_quiet_step (fail))
          refine wpQuiet_nil ?_
          rintro _ ⟨⟨dd2, os2⟩, rfl⟩
          have hb2 := below_regrown w1 dd2 os2
          generalize Sort.grow (redrawn w1 dd2) os2 = w2 at hb2
          have B2 := hide (bthen B1.out hb2)
          clear hb2 r0 s0 E0 F0
          go_wp2_with fail
          go_ret
          exact ⟨ret_int HN.out.symm, B2.out⟩
        · have HN := hide (HS1.out.trans (if_neg h2))
          clear HS1
          go_wp2_with fail
          refine wp_region_quiet_below (by kernel_rfl) (by kernel_rfl) ?_
          repeat (go_big_quiet_step (fail))
          refine wpQuiet_nil ?_
          rintro _ ⟨⟨dd2, os2⟩, rfl⟩
          have hb2 := below_regrown w1 dd2 os2
          generalize Sort.grow (redrawn w1 dd2) os2 = w2 at hb2
          have B2 := hide (bthen B1.out hb2)
          clear hb2 r0 s0 E0 F0
          go_wp2_with fail
          exact ⟨⟨k + 1, by go_num, by omega, hide HN.out, B2.out⟩, by simp [intOf] <;> omega⟩
    · have HN := hide (HX.out.trans (Is.lex_end a b k (by omega)))
      obtain rfl : k = a.length := by omega
      go_wp2_with fail
      go_ret
      exact ⟨ret_int HN.out.symm, HBR.out⟩

theorem refCompare_is (ao bo : Option Addr) (ca cb : Nat) (a b : List Int) (x : Int) (hx : Is.compare a b = x) (w : World) (hA : Is.slot w ao a) (hB : Is.slot w bo b) (ha : a.length ≤ 300) :
    Calls Tryz.prog 118 #[.slice ao a.length ca, .slice bo b.length cb] w fun e w' => e = .returned (.int .i64 x) ∧ Below w.heap.size w w' := by
  subst hx
  unfold Is.compare
  by_cases h1 : a.length < b.length
  · rw [if_pos h1]
    have h1' : (a.length : Int) < (b.length : Int) := by omega
    have h2' : ¬ (a.length : Int) = (b.length : Int) := by omega
    go_enter Tryz.func118, Tryz.ntmps118
    go_wp2_with fail
    go_ret
    exact ⟨rfl, brefl w⟩
  · rw [if_neg h1]
    by_cases h2 : b.length < a.length
    · rw [if_pos h2]
      have h1' : ¬ (a.length : Int) < (b.length : Int) := by omega
      have h2' : ¬ (a.length : Int) = (b.length : Int) := by omega
      go_enter Tryz.func118, Tryz.ntmps118
      go_wp2_with fail
      go_ret
      exact ⟨rfl, brefl w⟩
    · rw [if_neg h2]
      exact refCompare_same ao bo ca cb a b w hA hB (by omega) ha

end Go.Proofs.YtngfoijmknclhaaGreatDoor
namespace Go.Proofs.YtngfoijmknclhaaGreatDoor.Cm
open Go.RowKit Go.Sort
def Co.lex : List Co.C → List Co.C → Int
  | x :: xs, y :: ys => if Co.ord x y ≠ 0 then Co.ord x y else Co.lex xs ys
  | _, _ => 0
def Co.compare (a b : List Co.C) : Int := if a.length < b.length then -1 else if b.length < a.length then 1 else Co.lex a b

theorem Co.lex_step (a b : List Co.C) (k : Nat) (h1 : k < a.length) (h2 : k < b.length) : Co.lex (a.drop k) (b.drop k) = if Co.ord a[k] b[k] ≠ 0 then Co.ord a[k] b[k] else Co.lex (a.drop (k + 1)) (b.drop (k + 1)) := by
  rw [List.drop_eq_getElem_cons h1, List.drop_eq_getElem_cons h2]
  rfl
theorem Co.lex_end (a b : List Co.C) (k : Nat) (h1 : a.length ≤ k) : Co.lex (a.drop k) (b.drop k) = 0 := by
  rw [List.drop_eq_nil_of_le h1]
  rfl

end Go.Proofs.YtngfoijmknclhaaGreatDoor.Cm
namespace Go.Proofs.YtngfoijmknclhaaGreatDoor.Cm
open Go.RowKit Go.Sort
theorem Co.ci_cases (a b : Int) : (a < b ∧ Co.ci a b = -1) ∨ (a = b ∧ Co.ci a b = 0) ∨ (b < a ∧ Co.ci a b = 1) := by
  unfold Co.ci
  by_cases h : a < b
  · exact .inl ⟨h, if_pos h⟩
  · by_cases h2 : b < a
    · exact .inr (.inr ⟨h2, by rw [if_neg h, if_pos h2]⟩)
    · exact .inr (.inl ⟨by omega, by rw [if_neg h, if_neg h2]⟩)
theorem Co.ord_cases (x y : Co.C) : (Co.bef x y = true ∧ Co.ord x y = -1) ∨ (x = y ∧ Co.ord x y = 0) ∨ (Co.bef y x = true ∧ Co.ord x y = 1) := by
  unfold Co.ord
  rcases Co.ci_cases x.1 y.1 with ⟨h, e⟩ | ⟨h, e⟩ | ⟨h, e⟩
  · exact .inl ⟨(Co.bef_iff x y).2 (.inl h), by rw [e]; rfl⟩
  · rcases Co.ci_cases x.2 y.2 with ⟨h2, e2⟩ | ⟨h2, e2⟩ | ⟨h2, e2⟩
    · exact .inl ⟨(Co.bef_iff x y).2 (.inr ⟨h, h2⟩), by rw [e, e2]; rfl⟩
    · exact .inr (.inl ⟨Prod.ext h h2, by rw [e, e2]; rfl⟩)
    · exact .inr (.inr ⟨(Co.bef_iff y x).2 (.inr ⟨h.symm, h2⟩), by rw [e, e2]; rfl⟩)
  · exact .inr (.inr ⟨(Co.bef_iff y x).2 (.inl h), by rw [e]; rfl⟩)
theorem Co.lex_zero : ∀ a b : List Co.C, a.length = b.length → (Co.lex a b = 0 ↔ a = b)
  | [], [], _ => by simp [Co.lex]
  | [], _ :: _, h => by simp at h
  | _ :: _, [], h => by simp at h
  | x :: xs, y :: ys, h => by
    have ih := Co.lex_zero xs ys (by simpa using h)
    simp only [Co.lex]
    rcases Co.ord_cases x y with ⟨h1, e⟩ | ⟨rfl, e⟩ | ⟨h1, e⟩
    · rw [e, if_pos (by decide)]
      refine ⟨fun h => absurd h (by decide), fun h => ?_⟩
      injection h with h2 _
      subst h2
      rw [Co.bef_irr] at h1; cases h1
    · rw [e, if_neg (by decide), ih]
      simp
    · rw [e, if_pos (by decide)]
      refine ⟨fun h => absurd h (by decide), fun h => ?_⟩
      injection h with h2 _
      subst h2
      rw [Co.bef_irr] at h1; cases h1
theorem Co.compare_zero (a b : List Co.C) : Co.compare a b = 0 ↔ a = b := by
  unfold Co.compare
  by_cases h1 : a.length < b.length
  · rw [if_pos h1]
    exact ⟨fun h => absurd h (by decide), fun h => by rw [h] at h1; omega⟩
  · by_cases h2 : b.length < a.length
    · rw [if_neg h1, if_pos h2]
      exact ⟨fun h => absurd h (by decide), fun h => by rw [h] at h2; omega⟩
    · rw [if_neg h1, if_neg h2]
      exact Co.lex_zero a b (by omega)
end Go.Proofs.YtngfoijmknclhaaGreatDoor.Cm
namespace Go.Proofs.YtngfoijmknclhaaGreatDoor
open Go.RowKit
/-- The first that is not zero. -/
def fz : List Int → Int
  | [] => 0
  | x :: l => if x ≠ 0 then x else fz l
def At.parts (a b : At) : List Int := [Cm.Co.ci a.pf b.pf, Cm.Co.ci a.md b.md, Cm.Co.ci a.og b.og, Is.compare a.path b.path, Cm.Co.compare a.comms b.comms, Cm.Co.ci a.fr b.fr, Is.compare a.cl b.cl]
def At.cmp (a b : At) : Int := fz (At.parts a b)

theorem ci_zero (a b : Int) : Cm.Co.ci a b = 0 ↔ a = b := by
  rcases Cm.Co.ci_cases a b with ⟨h, k⟩ | ⟨h, k⟩ | ⟨h, k⟩ <;> omega
theorem zero_or {x x' : Int} : (if x ≠ 0 then x else x') = 0 ↔ x = 0 ∧ x' = 0 := by
  split <;> omega
theorem At.cmp_zero (a b : At) : At.cmp a b = 0 ↔ a = b := by
  unfold At.cmp At.parts fz fz fz fz fz fz fz fz
  rw [zero_or, zero_or, zero_or, zero_or, zero_or, zero_or, zero_or, ci_zero, ci_zero, ci_zero, ci_zero, Is.compare_zero, Is.compare_zero, Cm.Co.compare_zero]
  obtain ⟨a1, a2, a3, a4, a5, a6, a7⟩ := a
  obtain ⟨b1, b2, b3, b4, b5, b6, b7⟩ := b
  simp only [At.mk.injEq]
  constructor
  · rintro ⟨h1, h2, h3, h4, h5, h6, h7, _⟩
    exact ⟨h1, h2, h3, h4, h5, h6, h7⟩
  · rintro ⟨h1, h2, h3, h4, h5, h6, h7⟩
    exact ⟨h1, h2, h3, h4, h5, h6, h7, trivial⟩
end Go.Proofs.YtngfoijmknclhaaGreatDoor
namespace Go.Proofs.YtngfoijmknclhaaGreatDoor
open Go.RowKit
theorem sign_is (a b : Int) (w : World) : Calls Tryz.prog 117 #[.int .i64 a, .int .i64 b] w fun e w' => e = .returned (.int .i64 (Cm.Co.ci a b)) ∧ w' = w := by
  rcases Cm.Co.ci_cases a b with ⟨h, k⟩ | ⟨h, k⟩ | ⟨h, k⟩ <;> rw [k]
  · go_enter Tryz.func117, Tryz.ntmps117
    go_wp2_with fail
    go_ret
    exact ⟨rfl, rfl⟩
  · subst h
    have h1 : ¬ a < a := by omega
    go_enter Tryz.func117, Tryz.ntmps117
    go_wp2_with fail
    go_ret
    exact ⟨rfl, rfl⟩
  · have h1 : ¬ a < b := by omega
    go_enter Tryz.func117, Tryz.ntmps117
    go_wp2_with fail
    go_ret
    exact ⟨rfl, rfl⟩
end Go.Proofs.YtngfoijmknclhaaGreatDoor
namespace Go.Proofs.YtngfoijmknclhaaGreatDoor
open Go.RowKit Go.Sort
theorem KlR.len {w : World} {c : Kl} {x : List Value} (h : KlR w c x) : x.length = 13 := by obtain ⟨_, _, _, _, _, _, rfl, _⟩ := h; rfl
end Go.Proofs.YtngfoijmknclhaaGreatDoor
namespace Go.Proofs.YtngfoijmknclhaaGreatDoor.Ar
open Go.RowKit Go.Sort
def Is.lex : List Int → List Int → Int
  | x :: xs, y :: ys => if x < y then -1 else if y < x then 1 else Is.lex xs ys
  | _, _ => 0
def Is.compare (a b : List Int) : Int := if a.length < b.length then -1 else if b.length < a.length then 1 else Is.lex a b

theorem Is.lex_step (a b : List Int) (k : Nat) (h1 : k < a.length) (h2 : k < b.length) : Is.lex (a.drop k) (b.drop k) = if a[k] < b[k] then -1 else if b[k] < a[k] then 1 else Is.lex (a.drop (k + 1)) (b.drop (k + 1)) := by
  rw [List.drop_eq_getElem_cons h1, List.drop_eq_getElem_cons h2]
  rfl
theorem Is.lex_end (a b : List Int) (k : Nat) (h1 : a.length ≤ k) : Is.lex (a.drop k) (b.drop k) = 0 := by
  rw [List.drop_eq_nil_of_le h1]
  rfl
theorem Is.lex_zero : ∀ a b : List Int, a.length = b.length → (Is.lex a b = 0 ↔ a = b)
  | [], [], _ => by simp [Is.lex]
  | [], _ :: _, h => by simp at h
  | _ :: _, [], h => by simp at h
  | x :: xs, y :: ys, h => by
    have ih := Is.lex_zero xs ys (by simpa using h)
    simp only [Is.lex, List.cons.injEq]
    by_cases h1 : x < y
    · rw [if_pos h1]
      constructor
      · intro h; omega
      · intro h; omega
    · rw [if_neg h1]
      by_cases h2 : y < x
      · rw [if_pos h2]
        constructor
        · intro h; omega
        · intro h; omega
      · rw [if_neg h2, ih]
        constructor
        · exact fun h => ⟨by omega, h⟩
        · exact fun h => h.2
theorem Is.compare_zero (a b : List Int) : Is.compare a b = 0 ↔ a = b := by
  unfold Is.compare
  split
  · constructor
    · intro h; omega
    · rintro rfl; omega
  · split
    · constructor
      · intro h; omega
      · rintro rfl; omega
    · exact Is.lex_zero a b (by omega)
end Go.Proofs.YtngfoijmknclhaaGreatDoor.Ar
namespace Go.Proofs.YtngfoijmknclhaaGreatDoor.Cm
open Go.RowKit Go.Sort
set_option maxHeartbeats 4000000 in
theorem refCompare_row (ao bo : Option Addr) (ca cb : Nat) (a b : List Co.C) (w : World) (hA : Co.slot w ao a) (hB : Co.slot w bo b) (hl : a.length = b.length) (h200 : a.length ≤ 200) :
    Calls Tryz.prog 119 #[.slice ao a.length ca, .slice bo b.length cb] w fun e w' => e = .returned (.int .i64 (Co.lex a b)) ∧ Below w.heap.size w w' := by
  have HA := hide hA
  have HB := hide hB
  have HL := hide hl
  clear hA hB
  have hle : ¬ (a.length : Int) < (b.length : Int) := by omega
  have hle2 : ¬ (b.length : Int) < (a.length : Int) := by omega
  have h200b : b.length ≤ 200 := by omega
  clear hl
  go_enter Tryz.func119, Tryz.ntmps119
  go_wp2_with fail
  go_loopw [5] (fun v wr => ∃ k : Nat, v = .int .i64 k ∧ k ≤ a.length ∧ Co.lex a b = Co.lex (a.drop k) (b.drop k) ∧ Below w.heap.size w wr) (fun v _ => a.length - (intOf v).toNat)
  case atStart => exact ⟨0, rfl, Nat.zero_le _, rfl, brefl w⟩
  case round =>
    obtain ⟨k, rfl, hk, hlex, hbr⟩ := hrel
    have HX := hide hlex
    have HBR := hide hbr
    clear hlex hbr
    by_cases hka : k < a.length
    · have hkb : k < b.length := by have := HL.out; omega
      have hkA : (k : Int) < (a.length : Int) := by omega
      have hkB : (k : Int) < (b.length : Int) := by omega
      obtain ⟨b1, o1, rfl, hr1⟩ := Co.slot_at HA.out hka
      obtain ⟨b2, o2, rfl, hr2⟩ := Co.slot_at HB.out hkb
      obtain ⟨e0, e1⟩ := Co.reads_at (Co.reads_below hr1 HBR.out) k hka
      obtain ⟨f0, f1⟩ := Co.reads_at (Co.reads_below hr2 HBR.out) k hkb
      clear hr1 hr2
      have HS := hide (Co.lex_step a b k hka hkb)
      generalize a[k] = y at *
      generalize b[k] = z at *
      have hoc := Co.ord_cases y z
      obtain ⟨y0, y1⟩ := y
      obtain ⟨z0, z1⟩ := z
      have r0 := fun dd os => cell_regrown e0 dd os
      have r1 := fun dd os => cell_regrown e1 dd os
      have s0 := fun dd os => cell_regrown f0 dd os
      have s1 := fun dd os => cell_regrown f1 dd os
      rcases hoc with ⟨hbf, ho⟩ | ⟨heq, ho⟩ | ⟨hbf, ho⟩
      · rw [ho] at HS
        have HN := hide (HX.out.trans (HS.out.trans (if_pos (by decide))))
        have HF := hide hbf
        clear hbf ho HS
        go_wp2_with fail
        refine wp_region_quiet_below (by kernel_rfl) (by kernel_rfl) ?_
        repeat (go_big_quiet_step ((go_at_call 110; exact Calls.regrown_of (refBefore_is _ _ _ _ _ HF.out _))))
        refine wpQuiet_nil ?_
        rintro _ ⟨⟨dd, os⟩, rfl⟩
        have hb1 := below_regrown wr dd os
        generalize Sort.grow (redrawn wr dd) os = w1 at hb1
        have B1 := hide (bthen HBR.out hb1)
        clear hb1 r0 r1 s0 s1 e0 e1 f0 f1
        go_wp2_with fail
        go_ret
        exact ⟨ret_int HN.out.symm, B1.out⟩
      · rw [ho] at HS
        have HN := hide (HX.out.trans (HS.out.trans (if_neg (by decide))))
        have HF : Hid (Co.bef (y0, y1) (z0, z1) = false) := by show _ = _; rw [heq]; exact Co.bef_irr _
        have HF2 : Hid (Co.bef (z0, z1) (y0, y1) = false) := by show _ = _; rw [heq]; exact Co.bef_irr _
        clear heq ho HS
        go_wp2_with fail
        refine wp_region_quiet_below (by kernel_rfl) (by kernel_rfl) ?_
        repeat (go_big_quiet_step ((go_at_call 110; exact Calls.regrown_of (refBefore_is _ _ _ _ _ HF.out _))))
        refine wpQuiet_nil ?_
        rintro _ ⟨⟨dd, os⟩, rfl⟩
        have hb1 := below_regrown wr dd os
        have E0 := r0 dd os
        have E1 := r1 dd os
        have F0 := s0 dd os
        have F1 := s1 dd os
        generalize Sort.grow (redrawn wr dd) os = w1 at hb1 E0 E1 F0 F1
        have B1 := hide (bthen HBR.out hb1)
        clear hb1 r0 r1 s0 s1 e0 e1 f0 f1
        have r0 := fun dd os => cell_regrown E0 dd os
        have r1 := fun dd os => cell_regrown E1 dd os
        have s0 := fun dd os => cell_regrown F0 dd os
        have s1 := fun dd os => cell_regrown F1 dd os
        go_wp2_with fail
        refine wp_region_quiet_below (by kernel_rfl) (by kernel_rfl) ?_
        repeat (go_big_quiet_step ((go_at_call 110; exact Calls.regrown_of (refBefore_is _ _ _ _ _ HF2.out _))))
        refine wpQuiet_nil ?_
        rintro _ ⟨⟨dd2, os2⟩, rfl⟩
        have hb2 := below_regrown w1 dd2 os2
        generalize Sort.grow (redrawn w1 dd2) os2 = w2 at hb2
        have B2 := hide (bthen B1.out hb2)
        clear hb2 r0 r1 s0 s1 E0 E1 F0 F1
        go_wp2_with fail
        exact ⟨⟨k + 1, by go_num, by omega, HN.out, B2.out⟩, by simp [intOf] <;> omega⟩
      · rw [ho] at HS
        have HN := hide (HX.out.trans (HS.out.trans (if_pos (by decide))))
        have HF2 := hide hbf
        have HF : Hid (Co.bef (y0, y1) (z0, z1) = false) := by
          show _ = _
          cases h : Co.bef (y0, y1) (z0, z1)
          · rfl
          · have := Co.bef_trans h hbf; rw [Co.bef_irr] at this; cases this
        clear hbf ho HS
        go_wp2_with fail
        refine wp_region_quiet_below (by kernel_rfl) (by kernel_rfl) ?_
        repeat (go_big_quiet_step ((go_at_call 110; exact Calls.regrown_of (refBefore_is _ _ _ _ _ HF.out _))))
        refine wpQuiet_nil ?_
        rintro _ ⟨⟨dd, os⟩, rfl⟩
        have hb1 := below_regrown wr dd os
        have E0 := r0 dd os
        have E1 := r1 dd os
        have F0 := s0 dd os
        have F1 := s1 dd os
        generalize Sort.grow (redrawn wr dd) os = w1 at hb1 E0 E1 F0 F1
        have B1 := hide (bthen HBR.out hb1)
        clear hb1 r0 r1 s0 s1 e0 e1 f0 f1
        have r0 := fun dd os => cell_regrown E0 dd os
        have r1 := fun dd os => cell_regrown E1 dd os
        have s0 := fun dd os => cell_regrown F0 dd os
        have s1 := fun dd os => cell_regrown F1 dd os
        go_wp2_with fail
        refine wp_region_quiet_below (by kernel_rfl) (by kernel_rfl) ?_
        repeat (go_big_quiet_step ((go_at_call 110; exact Calls.regrown_of (refBefore_is _ _ _ _ _ HF2.out _))))
        refine wpQuiet_nil ?_
        rintro _ ⟨⟨dd2, os2⟩, rfl⟩
        have hb2 := below_regrown w1 dd2 os2
        generalize Sort.grow (redrawn w1 dd2) os2 = w2 at hb2
        have B2 := hide (bthen B1.out hb2)
        clear hb2 r0 r1 s0 s1 E0 E1 F0 F1
        go_wp2_with fail
        go_ret
        exact ⟨ret_int HN.out.symm, B2.out⟩
    · have hkA : ¬ (k : Int) < (a.length : Int) := by omega
      have he := hide (HX.out.trans (Co.lex_end a b k (by omega)))
      go_wp2_with fail
      go_ret
      exact ⟨ret_int he.out.symm, HBR.out⟩

theorem refCompare_is (ao bo : Option Addr) (ca cb : Nat) (a b : List Co.C) (x : Int) (hx : Co.compare a b = x) (w : World) (hA : Co.slot w ao a) (hB : Co.slot w bo b) (h200 : a.length ≤ 200) (_h200b : b.length ≤ 200) :
    Calls Tryz.prog 119 #[.slice ao a.length ca, .slice bo b.length cb] w fun e w' => e = .returned (.int .i64 x) ∧ Below w.heap.size w w' := by
  subst hx
  by_cases h1 : a.length < b.length
  · have e : Co.compare a b = -1 := by unfold Co.compare; rw [if_pos h1]
    rw [e]
    have hd : (a.length : Int) < (b.length : Int) := by omega
    clear hA hB e
    go_enter Tryz.func119, Tryz.ntmps119
    go_wp2_with fail
    go_ret
    exact ⟨rfl, brefl w⟩
  · by_cases h2 : b.length < a.length
    · have e : Co.compare a b = 1 := by unfold Co.compare; rw [if_neg h1, if_pos h2]
      rw [e]
      have hd : ¬ (a.length : Int) < (b.length : Int) := by omega
      have hd2 : (b.length : Int) < (a.length : Int) := by omega
      clear hA hB e
      go_enter Tryz.func119, Tryz.ntmps119
      go_wp2_with fail
      go_ret
      exact ⟨rfl, brefl w⟩
    · have e : Co.compare a b = Co.lex a b := by unfold Co.compare; rw [if_neg h1, if_neg h2]
      rw [e]
      exact refCompare_row ao bo ca cb a b w hA hB (by omega) h200
end Go.Proofs.YtngfoijmknclhaaGreatDoor.Cm
namespace Go.Proofs.YtngfoijmknclhaaGreatDoor
open Go.RowKit
set_option maxHeartbeats 4000000 in
set_option maxRecDepth 100000 in
theorem refCmp_is (a b : At) (po co ko po' co' ko' : Option Addr) (cp cc ck cp' cc' ck' : Nat) (r : Int) (hr : At.cmp a b = r) (w : World) (hA : At.lies w a po co ko) (hB : At.lies w b po' co' ko') (h1 : a.path.length ≤ 100) (h2 : a.comms.length ≤ 100) (h3 : a.cl.length ≤ 100) (h2' : b.comms.length ≤ 100) :
    Calls Tryz.prog 76 #[.agg #[.int .i64 a.pf, .int .i64 a.md, .int .i64 a.og, .slice po a.path.length cp, .slice co a.comms.length cc, .int .i64 a.fr, .slice ko a.cl.length ck], .agg #[.int .i64 b.pf, .int .i64 b.md, .int .i64 b.og, .slice po' b.path.length cp', .slice co' b.comms.length cc', .int .i64 b.fr, .slice ko' b.cl.length ck']] w fun e w' => e = .returned (.int .i64 r) ∧ Below w.heap.size w w' := by
  obtain ⟨x0, x1, x2, pa, cm, x5, kl⟩ := a
  obtain ⟨y0, y1, y2, pb, cb, y5, kb⟩ := b
  simp only at *
  have HB := hide (balloc (balloc (brefl w) (.cells #[.int .i64 x0, .int .i64 x1, .int .i64 x2, .slice po pa.length cp, .slice co cm.length cc, .int .i64 x5, .slice ko kl.length ck] 30)) (.cells #[.int .i64 y0, .int .i64 y1, .int .i64 y2, .slice po' pb.length cp', .slice co' cb.length cc', .int .i64 y5, .slice ko' kb.length ck'] 30))
  have N0 := hide (heap_new w #[.int .i64 x0, .int .i64 x1, .int .i64 x2, .slice po pa.length cp, .slice co cm.length cc, .int .i64 x5, .slice ko kl.length ck] 30)
  have N1 := hide (heap_new (w.alloc (.cells #[.int .i64 x0, .int .i64 x1, .int .i64 x2, .slice po pa.length cp, .slice co cm.length cc, .int .i64 x5, .slice ko kl.length ck] 30)) #[.int .i64 y0, .int .i64 y1, .int .i64 y2, .slice po' pb.length cp', .slice co' cb.length cc', .int .i64 y5, .slice ko' kb.length ck'] 30)
  have N0' := hide (((balloc (brefl (w.alloc (.cells #[.int .i64 x0, .int .i64 x1, .int .i64 x2, .slice po pa.length cp, .slice co cm.length cc, .int .i64 x5, .slice ko kl.length ck] 30))) (.cells #[.int .i64 y0, .int .i64 y1, .int .i64 y2, .slice po' pb.length cp', .slice co' cb.length cc', .int .i64 y5, .slice ko' kb.length ck'] 30)).block w.heap.size (heap_lt N0.out)).trans N0.out)
  have LA := hide (At.lies_below hA HB.out)
  have LB := hide (At.lies_below hB HB.out)
  have HR := hide hr
  clear hA hB hr N0
  go_enter Tryz.func76, Tryz.ntmps76
  go_wp2_with fail
  rw [show (w.alloc (.cells #[.int .i64 x0, .int .i64 x1, .int .i64 x2, .slice po pa.length cp, .slice co cm.length cc, .int .i64 x5, .slice ko kl.length ck] 30)).heap.size = w.heap.size + 1 by simp] at N1
  generalize (w.alloc (.cells #[.int .i64 x0, .int .i64 x1, .int .i64 x2, .slice po pa.length cp, .slice co cm.length cc, .int .i64 x5, .slice ko kl.length ck] 30)).alloc (.cells #[.int .i64 y0, .int .i64 y1, .int .i64 y2, .slice po' pb.length cp', .slice co' cb.length cc', .int .i64 y5, .slice ko' kb.length ck'] 30) = W at *
  obtain ⟨p, hp⟩ : ∃ p, w.heap.size = p := ⟨_, rfl⟩
  rw [hp] at N0' N1
  rw [hp]
  clear hp
  generalize p + 1 = q at *
  obtain ⟨c0, c1, c2, c3, c4, c5, c6⟩ := seven_cells N0'.out
  obtain ⟨d0, d1, d2, d3, d4, d5, d6⟩ := seven_cells N1.out
  have CS : Hid (∀ (x y : Int) (W : World), Calls Tryz.prog 117 #[.int .i64 x, .int .i64 y] W fun e w' => e = .returned (.int .i64 (Cm.Co.ci x y)) ∧ Below W.heap.size W w') := fun x y W => (sign_is x y W).mono fun _ _ ⟨h, k⟩ => ⟨h, by rw [k]; exact brefl W⟩
  have CP : Hid (∀ W', Below W.heap.size W W' → Calls Tryz.prog 118 #[.slice po pa.length cp, .slice po' pb.length cp'] W' fun e w' => e = .returned (.int .i64 (Is.compare pa pb)) ∧ Below W'.heap.size W' w') := fun W' hb => refCompare_is po po' cp cp' pa pb _ rfl W' (Is.slot_below LA.out.1 hb) (Is.slot_below LB.out.1 hb) (by omega)
  have CK : Hid (∀ W', Below W.heap.size W W' → Calls Tryz.prog 118 #[.slice ko kl.length ck, .slice ko' kb.length ck'] W' fun e w' => e = .returned (.int .i64 (Is.compare kl kb)) ∧ Below W'.heap.size W' w') := fun W' hb => refCompare_is ko ko' ck ck' kl kb _ rfl W' (Is.slot_below LA.out.2.2 hb) (Is.slot_below LB.out.2.2 hb) (by omega)
  have CC : Hid (∀ W', Below W.heap.size W W' → Calls Tryz.prog 119 #[.slice co cm.length cc, .slice co' cb.length cc'] W' fun e w' => e = .returned (.int .i64 (Cm.Co.compare cm cb)) ∧ Below W'.heap.size W' w') := fun W' hb => Cm.refCompare_is co co' cc cc' cm cb _ rfl W' (Cm.Co.slot_below LA.out.2.1 hb) (Cm.Co.slot_below LB.out.2.1 hb) (by omega) (by omega)
  have HR' : Hid (fz [Cm.Co.ci x0 y0, Cm.Co.ci x1 y1, Cm.Co.ci x2 y2, Is.compare pa pb, Cm.Co.compare cm cb, Cm.Co.ci x5 y5, Is.compare kl kb] = r) := HR.out
  have SH : Hid (∀ W', Below W.heap.size W W' → (fun w' => w'.cell? ⟨p, 0, none⟩ = some (.int .i64 x0) ∧ w'.cell? ⟨p, 1, none⟩ = some (.int .i64 x1) ∧ w'.cell? ⟨p, 2, none⟩ = some (.int .i64 x2) ∧ w'.cell? ⟨p, 3, none⟩ = some (.slice po pa.length cp) ∧ w'.cell? ⟨p, 4, none⟩ = some (.slice co cm.length cc) ∧ w'.cell? ⟨p, 5, none⟩ = some (.int .i64 x5) ∧ w'.cell? ⟨p, 6, none⟩ = some (.slice ko kl.length ck) ∧ w'.cell? ⟨q, 0, none⟩ = some (.int .i64 y0) ∧ w'.cell? ⟨q, 1, none⟩ = some (.int .i64 y1) ∧ w'.cell? ⟨q, 2, none⟩ = some (.int .i64 y2) ∧ w'.cell? ⟨q, 3, none⟩ = some (.slice po' pb.length cp') ∧ w'.cell? ⟨q, 4, none⟩ = some (.slice co' cb.length cc') ∧ w'.cell? ⟨q, 5, none⟩ = some (.int .i64 y5) ∧ w'.cell? ⟨q, 6, none⟩ = some (.slice ko' kb.length ck')) W') := fun W' hb => by
    obtain ⟨c0, c1, c2, c3, c4, c5, c6⟩ := seven_cells ((hb.block p (heap_lt N0'.out)).trans N0'.out)
    obtain ⟨d0, d1, d2, d3, d4, d5, d6⟩ := seven_cells ((hb.block q (heap_lt N1.out)).trans N1.out)
    exact ⟨c0, c1, c2, c3, c4, c5, c6, d0, d1, d2, d3, d4, d5, d6⟩
  have B0 : Hid (Below W.heap.size W W.drew) := (brefl W).drew
  clear HR c0 c1 c2 c3 c4 c5 c6 d0 d1 d2 d3 d4 d5 d6
  refine wp_region_held_drew (S := fun w' => w'.cell? ⟨p, 0, none⟩ = some (.int .i64 x0) ∧ w'.cell? ⟨p, 1, none⟩ = some (.int .i64 x1) ∧ w'.cell? ⟨p, 2, none⟩ = some (.int .i64 x2) ∧ w'.cell? ⟨p, 3, none⟩ = some (.slice po pa.length cp) ∧ w'.cell? ⟨p, 4, none⟩ = some (.slice co cm.length cc) ∧ w'.cell? ⟨p, 5, none⟩ = some (.int .i64 x5) ∧ w'.cell? ⟨p, 6, none⟩ = some (.slice ko kl.length ck) ∧ w'.cell? ⟨q, 0, none⟩ = some (.int .i64 y0) ∧ w'.cell? ⟨q, 1, none⟩ = some (.int .i64 y1) ∧ w'.cell? ⟨q, 2, none⟩ = some (.int .i64 y2) ∧ w'.cell? ⟨q, 3, none⟩ = some (.slice po' pb.length cp') ∧ w'.cell? ⟨q, 4, none⟩ = some (.slice co' cb.length cc') ∧ w'.cell? ⟨q, 5, none⟩ = some (.int .i64 y5) ∧ w'.cell? ⟨q, 6, none⟩ = some (.slice ko' kb.length ck')) (by kernel_rfl) (SH.out _ B0.out) (fun hHeld => ?_)
  refine wpAnyH_take (i := 0) (v := .pointer (some ⟨p, 0, none⟩)) rfl (by kernel_rfl) (by kernel_rfl) (by kernel_rfl) (fun _ _ _ h => h) (Or.inl ⟨by rfl, fun w hSw => by dsimp only at hSw; go_simp⟩) hHeld ?_
  simp only [Act.put, List.getElem_toArray, List.getElem_cons_zero, List.setIfInBounds_toArray, List.set_cons_zero, List.set_cons_succ]
  refine wpAnyH_take (i := 1) (v := .int .i64 x0) rfl (by kernel_rfl) (by kernel_rfl) (by kernel_rfl) (fun _ _ _ h => h) (Or.inl ⟨by rfl, fun w hSw => by dsimp only at hSw; go_simp⟩) hHeld ?_
  simp only [Act.put, List.getElem_toArray, List.getElem_cons_zero, List.getElem_cons_succ, List.setIfInBounds_toArray, List.set_cons_zero, List.set_cons_succ]
  refine wpAnyH_take (i := 2) (v := .pointer (some ⟨q, 0, none⟩)) rfl (by kernel_rfl) (by kernel_rfl) (by kernel_rfl) (fun _ _ _ h => h) (Or.inl ⟨by rfl, fun w hSw => by dsimp only at hSw; go_simp⟩) hHeld ?_
  simp only [Act.put, List.getElem_toArray, List.getElem_cons_zero, List.getElem_cons_succ, List.setIfInBounds_toArray, List.set_cons_zero, List.set_cons_succ]
  refine wpAnyH_take (i := 3) (v := .int .i64 y0) rfl (by kernel_rfl) (by kernel_rfl) (by kernel_rfl) (fun _ _ _ h => h) (Or.inl ⟨by rfl, fun w hSw => by dsimp only at hSw; go_simp⟩) hHeld ?_
  simp only [Act.put, List.getElem_toArray, List.getElem_cons_zero, List.getElem_cons_succ, List.setIfInBounds_toArray, List.set_cons_zero, List.set_cons_succ]
  refine wpAnyH_take (i := 5) (v := .pointer (some ⟨p, 1, none⟩)) rfl (by kernel_rfl) (by kernel_rfl) (by kernel_rfl) (fun _ _ _ h => h) (Or.inl ⟨by rfl, fun w hSw => by dsimp only at hSw; go_simp⟩) hHeld ?_
  simp only [Act.put, List.getElem_toArray, List.getElem_cons_zero, List.getElem_cons_succ, List.setIfInBounds_toArray, List.set_cons_zero, List.set_cons_succ]
  refine wpAnyH_take (i := 6) (v := .int .i64 x1) rfl (by kernel_rfl) (by kernel_rfl) (by kernel_rfl) (fun _ _ _ h => h) (Or.inl ⟨by rfl, fun w hSw => by dsimp only at hSw; go_simp⟩) hHeld ?_
  simp only [Act.put, List.getElem_toArray, List.getElem_cons_zero, List.getElem_cons_succ, List.setIfInBounds_toArray, List.set_cons_zero, List.set_cons_succ]
  refine wpAnyH_take (i := 7) (v := .pointer (some ⟨q, 1, none⟩)) rfl (by kernel_rfl) (by kernel_rfl) (by kernel_rfl) (fun _ _ _ h => h) (Or.inl ⟨by rfl, fun w hSw => by dsimp only at hSw; go_simp⟩) hHeld ?_
  simp only [Act.put, List.getElem_toArray, List.getElem_cons_zero, List.getElem_cons_succ, List.setIfInBounds_toArray, List.set_cons_zero, List.set_cons_succ]
  refine wpAnyH_take (i := 8) (v := .int .i64 y1) rfl (by kernel_rfl) (by kernel_rfl) (by kernel_rfl) (fun _ _ _ h => h) (Or.inl ⟨by rfl, fun w hSw => by dsimp only at hSw; go_simp⟩) hHeld ?_
  simp only [Act.put, List.getElem_toArray, List.getElem_cons_zero, List.getElem_cons_succ, List.setIfInBounds_toArray, List.set_cons_zero, List.set_cons_succ]
  refine wpAnyH_take (i := 10) (v := .pointer (some ⟨p, 2, none⟩)) rfl (by kernel_rfl) (by kernel_rfl) (by kernel_rfl) (fun _ _ _ h => h) (Or.inl ⟨by rfl, fun w hSw => by dsimp only at hSw; go_simp⟩) hHeld ?_
  simp only [Act.put, List.getElem_toArray, List.getElem_cons_zero, List.getElem_cons_succ, List.setIfInBounds_toArray, List.set_cons_zero, List.set_cons_succ]
  refine wpAnyH_take (i := 11) (v := .int .i64 x2) rfl (by kernel_rfl) (by kernel_rfl) (by kernel_rfl) (fun _ _ _ h => h) (Or.inl ⟨by rfl, fun w hSw => by dsimp only at hSw; go_simp⟩) hHeld ?_
  simp only [Act.put, List.getElem_toArray, List.getElem_cons_zero, List.getElem_cons_succ, List.setIfInBounds_toArray, List.set_cons_zero, List.set_cons_succ]
  refine wpAnyH_take (i := 12) (v := .pointer (some ⟨q, 2, none⟩)) rfl (by kernel_rfl) (by kernel_rfl) (by kernel_rfl) (fun _ _ _ h => h) (Or.inl ⟨by rfl, fun w hSw => by dsimp only at hSw; go_simp⟩) hHeld ?_
  simp only [Act.put, List.getElem_toArray, List.getElem_cons_zero, List.getElem_cons_succ, List.setIfInBounds_toArray, List.set_cons_zero, List.set_cons_succ]
  refine wpAnyH_take (i := 13) (v := .int .i64 y2) rfl (by kernel_rfl) (by kernel_rfl) (by kernel_rfl) (fun _ _ _ h => h) (Or.inl ⟨by rfl, fun w hSw => by dsimp only at hSw; go_simp⟩) hHeld ?_
  simp only [Act.put, List.getElem_toArray, List.getElem_cons_zero, List.getElem_cons_succ, List.setIfInBounds_toArray, List.set_cons_zero, List.set_cons_succ]
  refine wpAnyH_take (i := 15) (v := .pointer (some ⟨p, 3, none⟩)) rfl (by kernel_rfl) (by kernel_rfl) (by kernel_rfl) (fun _ _ _ h => h) (Or.inl ⟨by rfl, fun w hSw => by dsimp only at hSw; go_simp⟩) hHeld ?_
  simp only [Act.put, List.getElem_toArray, List.getElem_cons_zero, List.getElem_cons_succ, List.setIfInBounds_toArray, List.set_cons_zero, List.set_cons_succ]
  refine wpAnyH_take (i := 16) (v := .slice po pa.length cp) rfl (by kernel_rfl) (by kernel_rfl) (by kernel_rfl) (fun _ _ _ h => h) (Or.inl ⟨by rfl, fun w hSw => by dsimp only at hSw; go_simp⟩) hHeld ?_
  simp only [Act.put, List.getElem_toArray, List.getElem_cons_zero, List.getElem_cons_succ, List.setIfInBounds_toArray, List.set_cons_zero, List.set_cons_succ]
  refine wpAnyH_take (i := 17) (v := .pointer (some ⟨q, 3, none⟩)) rfl (by kernel_rfl) (by kernel_rfl) (by kernel_rfl) (fun _ _ _ h => h) (Or.inl ⟨by rfl, fun w hSw => by dsimp only at hSw; go_simp⟩) hHeld ?_
  simp only [Act.put, List.getElem_toArray, List.getElem_cons_zero, List.getElem_cons_succ, List.setIfInBounds_toArray, List.set_cons_zero, List.set_cons_succ]
  refine wpAnyH_take (i := 18) (v := .slice po' pb.length cp') rfl (by kernel_rfl) (by kernel_rfl) (by kernel_rfl) (fun _ _ _ h => h) (Or.inl ⟨by rfl, fun w hSw => by dsimp only at hSw; go_simp⟩) hHeld ?_
  simp only [Act.put, List.getElem_toArray, List.getElem_cons_zero, List.getElem_cons_succ, List.setIfInBounds_toArray, List.set_cons_zero, List.set_cons_succ]
  refine wpAnyH_take (i := 20) (v := .pointer (some ⟨p, 4, none⟩)) rfl (by kernel_rfl) (by kernel_rfl) (by kernel_rfl) (fun _ _ _ h => h) (Or.inl ⟨by rfl, fun w hSw => by dsimp only at hSw; go_simp⟩) hHeld ?_
  simp only [Act.put, List.getElem_toArray, List.getElem_cons_zero, List.getElem_cons_succ, List.setIfInBounds_toArray, List.set_cons_zero, List.set_cons_succ]
  refine wpAnyH_take (i := 21) (v := .slice co cm.length cc) rfl (by kernel_rfl) (by kernel_rfl) (by kernel_rfl) (fun _ _ _ h => h) (Or.inl ⟨by rfl, fun w hSw => by dsimp only at hSw; go_simp⟩) hHeld ?_
  simp only [Act.put, List.getElem_toArray, List.getElem_cons_zero, List.getElem_cons_succ, List.setIfInBounds_toArray, List.set_cons_zero, List.set_cons_succ]
  refine wpAnyH_take (i := 22) (v := .pointer (some ⟨q, 4, none⟩)) rfl (by kernel_rfl) (by kernel_rfl) (by kernel_rfl) (fun _ _ _ h => h) (Or.inl ⟨by rfl, fun w hSw => by dsimp only at hSw; go_simp⟩) hHeld ?_
  simp only [Act.put, List.getElem_toArray, List.getElem_cons_zero, List.getElem_cons_succ, List.setIfInBounds_toArray, List.set_cons_zero, List.set_cons_succ]
  refine wpAnyH_take (i := 23) (v := .slice co' cb.length cc') rfl (by kernel_rfl) (by kernel_rfl) (by kernel_rfl) (fun _ _ _ h => h) (Or.inl ⟨by rfl, fun w hSw => by dsimp only at hSw; go_simp⟩) hHeld ?_
  simp only [Act.put, List.getElem_toArray, List.getElem_cons_zero, List.getElem_cons_succ, List.setIfInBounds_toArray, List.set_cons_zero, List.set_cons_succ]
  refine wpAnyH_take (i := 25) (v := .pointer (some ⟨p, 5, none⟩)) rfl (by kernel_rfl) (by kernel_rfl) (by kernel_rfl) (fun _ _ _ h => h) (Or.inl ⟨by rfl, fun w hSw => by dsimp only at hSw; go_simp⟩) hHeld ?_
  simp only [Act.put, List.getElem_toArray, List.getElem_cons_zero, List.getElem_cons_succ, List.setIfInBounds_toArray, List.set_cons_zero, List.set_cons_succ]
  refine wpAnyH_take (i := 26) (v := .int .i64 x5) rfl (by kernel_rfl) (by kernel_rfl) (by kernel_rfl) (fun _ _ _ h => h) (Or.inl ⟨by rfl, fun w hSw => by dsimp only at hSw; go_simp⟩) hHeld ?_
  simp only [Act.put, List.getElem_toArray, List.getElem_cons_zero, List.getElem_cons_succ, List.setIfInBounds_toArray, List.set_cons_zero, List.set_cons_succ]
  refine wpAnyH_take (i := 27) (v := .pointer (some ⟨q, 5, none⟩)) rfl (by kernel_rfl) (by kernel_rfl) (by kernel_rfl) (fun _ _ _ h => h) (Or.inl ⟨by rfl, fun w hSw => by dsimp only at hSw; go_simp⟩) hHeld ?_
  simp only [Act.put, List.getElem_toArray, List.getElem_cons_zero, List.getElem_cons_succ, List.setIfInBounds_toArray, List.set_cons_zero, List.set_cons_succ]
  refine wpAnyH_take (i := 28) (v := .int .i64 y5) rfl (by kernel_rfl) (by kernel_rfl) (by kernel_rfl) (fun _ _ _ h => h) (Or.inl ⟨by rfl, fun w hSw => by dsimp only at hSw; go_simp⟩) hHeld ?_
  simp only [Act.put, List.getElem_toArray, List.getElem_cons_zero, List.getElem_cons_succ, List.setIfInBounds_toArray, List.set_cons_zero, List.set_cons_succ]
  refine wpAnyH_take (i := 30) (v := .pointer (some ⟨p, 6, none⟩)) rfl (by kernel_rfl) (by kernel_rfl) (by kernel_rfl) (fun _ _ _ h => h) (Or.inl ⟨by rfl, fun w hSw => by dsimp only at hSw; go_simp⟩) hHeld ?_
  simp only [Act.put, List.getElem_toArray, List.getElem_cons_zero, List.getElem_cons_succ, List.setIfInBounds_toArray, List.set_cons_zero, List.set_cons_succ]
  refine wpAnyH_take (i := 31) (v := .slice ko kl.length ck) rfl (by kernel_rfl) (by kernel_rfl) (by kernel_rfl) (fun _ _ _ h => h) (Or.inl ⟨by rfl, fun w hSw => by dsimp only at hSw; go_simp⟩) hHeld ?_
  simp only [Act.put, List.getElem_toArray, List.getElem_cons_zero, List.getElem_cons_succ, List.setIfInBounds_toArray, List.set_cons_zero, List.set_cons_succ]
  refine wpAnyH_take (i := 32) (v := .pointer (some ⟨q, 6, none⟩)) rfl (by kernel_rfl) (by kernel_rfl) (by kernel_rfl) (fun _ _ _ h => h) (Or.inl ⟨by rfl, fun w hSw => by dsimp only at hSw; go_simp⟩) hHeld ?_
  simp only [Act.put, List.getElem_toArray, List.getElem_cons_zero, List.getElem_cons_succ, List.setIfInBounds_toArray, List.set_cons_zero, List.set_cons_succ]
  refine wpAnyH_take (i := 33) (v := .slice ko' kb.length ck') rfl (by kernel_rfl) (by kernel_rfl) (by kernel_rfl) (fun _ _ _ h => h) (Or.inl ⟨by rfl, fun w hSw => by dsimp only at hSw; go_simp⟩) hHeld ?_
  simp only [Act.put, List.getElem_toArray, List.getElem_cons_zero, List.getElem_cons_succ, List.setIfInBounds_toArray, List.set_cons_zero, List.set_cons_succ]
  refine wpAnyH_ready (rs := [4]) (by kernel_rfl) (by simp) ?_
  refine AllReadyH.cons rfl (fun K hK => ?_) AllReadyH.nil
  go_simp
  go_wp2_with (refine (CS.out x0 y0 _).mono ?_; rintro e w1 ⟨rfl, hb⟩; have B1 := hide (bthen B0.out hb); clear hb)
  refine hK.out _ _ (SH.out _ B1.out) (fun hHeld => ?_)
  clear hK K
  try simp only [Act.put, List.getElem_toArray, List.getElem_cons_zero, List.getElem_cons_succ, List.setIfInBounds_toArray, List.set_cons_zero, List.set_cons_succ]
  refine wpAnyH_ready (rs := [9]) (by kernel_rfl) (by simp) ?_
  refine AllReadyH.cons rfl (fun K hK => ?_) AllReadyH.nil
  go_simp
  go_wp2_with (refine (CS.out x1 y1 _).mono ?_; rintro e w2 ⟨rfl, hb⟩; have B2 := hide (bthen B1.out hb); clear hb)
  refine hK.out _ _ (SH.out _ B2.out) (fun hHeld => ?_)
  clear hK K
  try simp only [Act.put, List.getElem_toArray, List.getElem_cons_zero, List.getElem_cons_succ, List.setIfInBounds_toArray, List.set_cons_zero, List.set_cons_succ]
  refine wpAnyH_ready (rs := [14]) (by kernel_rfl) (by simp) ?_
  refine AllReadyH.cons rfl (fun K hK => ?_) AllReadyH.nil
  go_simp
  go_wp2_with (refine (CS.out x2 y2 _).mono ?_; rintro e w3 ⟨rfl, hb⟩; have B3 := hide (bthen B2.out hb); clear hb)
  refine hK.out _ _ (SH.out _ B3.out) (fun hHeld => ?_)
  clear hK K
  try simp only [Act.put, List.getElem_toArray, List.getElem_cons_zero, List.getElem_cons_succ, List.setIfInBounds_toArray, List.set_cons_zero, List.set_cons_succ]
  refine wpAnyH_ready (rs := [19]) (by kernel_rfl) (by simp) ?_
  refine AllReadyH.cons rfl (fun K hK => ?_) AllReadyH.nil
  go_simp
  go_wp2_with (refine (CP.out _ B3.out).mono ?_; rintro e w4 ⟨rfl, hb⟩; have B4 := hide (bthen B3.out hb); clear hb)
  refine hK.out _ _ (SH.out _ B4.out) (fun hHeld => ?_)
  clear hK K
  try simp only [Act.put, List.getElem_toArray, List.getElem_cons_zero, List.getElem_cons_succ, List.setIfInBounds_toArray, List.set_cons_zero, List.set_cons_succ]
  refine wpAnyH_ready (rs := [24]) (by kernel_rfl) (by simp) ?_
  refine AllReadyH.cons rfl (fun K hK => ?_) AllReadyH.nil
  go_simp
  go_wp2_with (refine (CC.out _ B4.out).mono ?_; rintro e w5 ⟨rfl, hb⟩; have B5 := hide (bthen B4.out hb); clear hb)
  refine hK.out _ _ (SH.out _ B5.out) (fun hHeld => ?_)
  clear hK K
  try simp only [Act.put, List.getElem_toArray, List.getElem_cons_zero, List.getElem_cons_succ, List.setIfInBounds_toArray, List.set_cons_zero, List.set_cons_succ]
  refine wpAnyH_ready (rs := [29]) (by kernel_rfl) (by simp) ?_
  refine AllReadyH.cons rfl (fun K hK => ?_) AllReadyH.nil
  go_simp
  go_wp2_with (refine (CS.out x5 y5 _).mono ?_; rintro e w6 ⟨rfl, hb⟩; have B6 := hide (bthen B5.out hb); clear hb)
  refine hK.out _ _ (SH.out _ B6.out) (fun hHeld => ?_)
  clear hK K
  try simp only [Act.put, List.getElem_toArray, List.getElem_cons_zero, List.getElem_cons_succ, List.setIfInBounds_toArray, List.set_cons_zero, List.set_cons_succ]
  refine wpAnyH_ready (rs := [34]) (by kernel_rfl) (by simp) ?_
  refine AllReadyH.cons rfl (fun K hK => ?_) AllReadyH.nil
  go_simp
  go_wp2_with (refine (CK.out _ B6.out).mono ?_; rintro e w7 ⟨rfl, hb⟩; have B7 := hide (bthen B6.out hb); clear hb)
  refine hK.out _ _ (SH.out _ B7.out) (fun hHeld => ?_)
  clear hK K
  try simp only [Act.put, List.getElem_toArray, List.getElem_cons_zero, List.getElem_cons_succ, List.setIfInBounds_toArray, List.set_cons_zero, List.set_cons_succ]
  generalize Cm.Co.ci x0 y0 = v0 at *
  generalize Cm.Co.ci x1 y1 = v1 at *
  generalize Cm.Co.ci x2 y2 = v2 at *
  generalize Is.compare pa pb = v3 at *
  generalize Cm.Co.compare cm cb = v4 at *
  generalize Cm.Co.ci x5 y5 = v5 at *
  generalize Is.compare kl kb = v6 at *
  have B8 := hide (bthen (bthen HB.out B7.out) (balloc (brefl w7) (.cells #[.int .i64 v0, .int .i64 v1, .int .i64 v2, .int .i64 v3, .int .i64 v4, .int .i64 v5, .int .i64 v6] 3)))
  have B8' := hide (bthen B7.out (balloc (brefl w7) (.cells #[.int .i64 v0, .int .i64 v1, .int .i64 v2, .int .i64 v3, .int .i64 v4, .int .i64 v5, .int .i64 v6] 3)))
  have N8 := hide (heap_new w7 #[.int .i64 v0, .int .i64 v1, .int .i64 v2, .int .i64 v3, .int .i64 v4, .int .i64 v5, .int .i64 v6] 3)
  refine wpAnyH_ready (rs := [35]) (by kernel_rfl) (by simp) ?_
  refine AllReadyH.cons rfl (fun K hK => ?_) AllReadyH.nil
  go_simp
  refine hK.out _ _ (SH.out _ B8'.out) (fun hHeld => ?_)
  clear hK K
  try simp only [Act.put, List.getElem_toArray, List.getElem_cons_zero, List.getElem_cons_succ, List.setIfInBounds_toArray, List.set_cons_zero, List.set_cons_succ]
  refine wpAnyH_take (i := 36) (v := .slice (some ⟨w7.heap.size, 0, none⟩) 7 7) rfl (by kernel_rfl) (by kernel_rfl) (by kernel_rfl) (fun _ _ _ h => h) (Or.inl ⟨by rfl, fun w hSw => by dsimp only at hSw; go_simp⟩) hHeld ?_
  simp only [Act.put, List.getElem_toArray, List.getElem_cons_zero, List.getElem_cons_succ, List.setIfInBounds_toArray, List.set_cons_zero, List.set_cons_succ]
  refine wpAnyH_done (by kernel_rfl) ?_ _
  clear hHeld SH B8' B7 B6 B5 B4 B3 B2 B1 B0 CS CP CK CC N0' N1 LA LB HB
  generalize w7.alloc (.cells #[.int .i64 v0, .int .i64 v1, .int .i64 v2, .int .i64 v3, .int .i64 v4, .int .i64 v5, .int .i64 v6] 3) = W8 at *
  generalize w7.heap.size = g at *
  obtain ⟨e0, e1, e2, e3, e4, e5, e6⟩ := seven_cells N8.out
  obtain ⟨l, hl⟩ : ∃ l : List Int, l = [v0, v1, v2, v3, v4, v5, v6] := ⟨_, rfl⟩
  have hrd : Hid (Is.reads W8 g 0 l) := by
    show Is.reads W8 g 0 l
    subst hl
    intro j hj
    rw [Nat.zero_add]
    match j, hj with
    | 0, _ => exact e0
    | 1, _ => exact e1
    | 2, _ => exact e2
    | 3, _ => exact e3
    | 4, _ => exact e4
    | 5, _ => exact e5
    | 6, _ => exact e6
  have hlen : l.length = 7 := by rw [hl]; rfl
  have HZ : Hid (fz l = r) := by show _ = _; rw [hl]; exact HR'.out
  have HLEN := hide hlen
  clear hl e0 e1 e2 e3 e4 e5 e6 N8 HR' hlen
  go_wp2_with fail
  go_loop [6] (fun t => ∃ k : Nat, k ≤ 7 ∧ t = .int .i64 k ∧ Hid (fz (l.drop k) = r)) (fun t => 7 - (intOf t).toNat)
  case atStart => exact ⟨0, by decide, rfl, HZ.out⟩
  case round =>
    obtain ⟨k, hk, rfl, HK⟩ := hrel
    by_cases h7 : k < 7
    · have h7' : (k : Int) < 7 := by omega
      have hkl : k < l.length := by have := HLEN.out; omega
      have e0 := hrd.out k hkl
      rw [Nat.zero_add] at e0
      have hd : fz (l.drop k) = if l[k] ≠ 0 then l[k] else fz (l.drop (k + 1)) := by rw [List.drop_eq_getElem_cons hkl]; rfl
      generalize l[k] = y at e0 hd
      by_cases hy : y = 0
      · have HK' : Hid (fz (l.drop (k + 1)) = r) := by show _ = _; rw [← HK.out, hd, if_neg (by simp [hy])]
        subst hy
        clear hd
        go_wp2_with fail
        exact ⟨⟨k + 1, h7, by go_num, HK'.out⟩, by simp [intOf]; omega⟩
      · have HK' : Hid (y = r) := by show _ = _; rw [← HK.out, hd, if_pos hy]
        have hy' : (y != 0) = true := by simpa using hy
        clear hd
        go_wp2_with fail
        go_ret
        exact ⟨ret_int HK'.out, B8.out⟩
    · obtain rfl : k = 7 := by omega
      have HK' : Hid (r = 0) := by show _ = _; rw [← HK.out, List.drop_eq_nil_of_le (by rw [HLEN.out]; exact Nat.le_refl _)]; rfl
      go_wp2_with fail
      go_ret
      exact ⟨ret_int HK'.out.symm, B8.out⟩
set_option maxRecDepth 100000 in
theorem refSameA_is (a b : At) (po co ko po' co' ko' : Option Addr) (cp cc ck cp' cc' ck' : Nat) (r : Bool) (hr : decide (At.cmp a b = 0) = r) (w : World) (hA : At.lies w a po co ko) (hB : At.lies w b po' co' ko') (h1 : a.path.length ≤ 100) (h2 : a.comms.length ≤ 100) (h3 : a.cl.length ≤ 100) (h2' : b.comms.length ≤ 100) :
    Calls Tryz.prog 34 #[.agg #[.int .i64 a.pf, .int .i64 a.md, .int .i64 a.og, .slice po a.path.length cp, .slice co a.comms.length cc, .int .i64 a.fr, .slice ko a.cl.length ck], .agg #[.int .i64 b.pf, .int .i64 b.md, .int .i64 b.og, .slice po' b.path.length cp', .slice co' b.comms.length cc', .int .i64 b.fr, .slice ko' b.cl.length ck']] w fun e w' => e = .returned (.bool r) ∧ Below w.heap.size w w' := by
  have HB := hide (balloc (balloc (brefl w) (.cells #[.int .i64 a.pf, .int .i64 a.md, .int .i64 a.og, .slice po a.path.length cp, .slice co a.comms.length cc, .int .i64 a.fr, .slice ko a.cl.length ck] 30)) (.cells #[.int .i64 b.pf, .int .i64 b.md, .int .i64 b.og, .slice po' b.path.length cp', .slice co' b.comms.length cc', .int .i64 b.fr, .slice ko' b.cl.length ck'] 30))
  obtain ⟨z, hz⟩ : ∃ z, At.cmp a b = z := ⟨_, rfl⟩
  have CC := hide (refCmp_is a b po co ko po' co' ko' cp cc ck cp' cc' ck' z hz _ (At.lies_below hA HB.out) (At.lies_below hB HB.out) h1 h2 h3 h2')
  have HZ : Hid ((z == 0) = r) := by show _ = _; rw [← hr, hz]; rfl
  obtain ⟨x0, x1, x2, pa, cm, x5, kl⟩ := a
  obtain ⟨y0, y1, y2, pb, cb, y5, kb⟩ := b
  simp only at *
  clear hA hB hr hz
  go_enter Tryz.func34, Tryz.ntmps34
  go_wp2_with fail
  refine CC.out.mono ?_
  rintro e w2 ⟨rfl, hb2⟩
  have HB2 := hide (bthen HB.out hb2)
  clear hb2 CC HB
  go_wp2_with fail
  go_ret
  exact ⟨ret_bool HZ.out, HB2.out⟩
end Go.Proofs.YtngfoijmknclhaaGreatDoor
namespace Go.Proofs.YtngfoijmknclhaaGreatDoor
open Go.RowKit
theorem uni_eq {l m l' m' x y : List Cm.Co.C} (hx : Cm.Co.uni l m x) (hy : Cm.Co.uni l' m' y) (h : ∀ c, (c ∈ l ∨ c ∈ m) ↔ (c ∈ l' ∨ c ∈ m')) : x = y :=
  Cm.Co.rises_eq x y hx.1 hy.1 fun c => (hx.2 c).trans ((h c).trans (hy.2 c).symm)
theorem do_err {a r : At} {s : St} {q : Int} (h : At.DoTo a s r q) : (q = 0 ∧ At.may a = true ∧ St.ok s = true) ∨ (q ≠ 0 ∧ r = At.zero) := by
  unfold At.DoTo at h
  by_cases hm : At.may a = true ∧ St.ok s = true
  · rw [if_pos hm] at h
    obtain ⟨x, _, h⟩ := h
    rcases h with ⟨_, h1, rfl⟩ | ⟨_, _, rfl⟩
    · exact .inr ⟨by decide, h1⟩
    · exact .inl ⟨rfl, hm.1, hm.2⟩
  · rw [if_neg hm] at h
    obtain ⟨h1, rfl⟩ := h
    exact .inr ⟨by decide, h1⟩
theorem ok_parts {s : St} (h : St.ok s = true) : (-1 ≤ s.pf ∧ s.pf ≤ 1048576 ∧ -1 ≤ s.md ∧ s.md ≤ 1048576 ∧ -1 ≤ s.og ∧ s.og ≤ 2) ∧ s.add.length ≤ 8 ∧ s.del.length ≤ 8 ∧ (∀ c ∈ s.add, Cm.Co.may c = true) ∧ (∀ c ∈ s.del, Cm.Co.may c = true) ∧ Is.may s.pre = true := by
  unfold St.ok at h
  simp only [Bool.and_eq_true, decide_eq_true_eq, Bool.not_eq_true', List.any_eq_false] at h
  obtain ⟨h1, h2, h3, h4, h5, h6⟩ := h
  exact ⟨h1, h2, h3, fun c hc => by simpa using h4 c hc, fun c hc => by simpa using h5 c hc, h6⟩
/-- What comes of a change that can be done may be. -/
theorem do_may {a r : At} {s : St} (h : At.DoTo a s r 0) : At.may r = true := by
  unfold At.DoTo at h
  by_cases hm : At.may a = true ∧ St.ok s = true
  · rw [if_pos hm] at h
    obtain ⟨x, hu, h⟩ := h
    rcases h with ⟨_, _, h⟩ | ⟨⟨h8, h16⟩, rfl, _⟩
    · cases h
    · obtain ⟨⟨a1, a2, a3, a4, a5, a6, a7, a8⟩, pa, ca, ka⟩ := may_parts hm.1
      obtain ⟨⟨s1, s2, s3, s4, s5, s6⟩, _, _, sa, _, sp⟩ := ok_parts hm.2
      have hx : Cm.Co.set x = true := by
        refine set_of_rises hu.1 (fun c hc => ?_) h8
        rcases (hu.2 c).1 hc with h | h
        · exact set_may ca c ((mem_left _ _ _).1 h).1.2
        · exact sa c h
      have hp : Is.may (s.pre ++ a.path) = true := by
        rw [Is.may_iff]
        refine ⟨by rw [List.length_append]; exact h16, fun j hj => ?_⟩
        rw [List.getElem_append]
        split
        · exact ((Is.may_iff _).1 sp).2 j _
        · exact ((Is.may_iff _).1 pa).2 _ _
      unfold At.may
      simp only [hx, hp, ka, Bool.and_true, decide_eq_true_eq]
      unfold At.told
      refine ⟨?_, ?_, ?_, ?_, ?_, ?_, a7, a8⟩ <;> split <;> omega
  · rw [if_neg hm] at h
    cases h.2
/-- Attributes that may be have few parts. -/
theorem may_few {a : At} (h : At.may a = true) : a.path.length ≤ 100 ∧ a.comms.length ≤ 100 ∧ a.cl.length ≤ 100 := by
  obtain ⟨_, pa, ca, ka⟩ := may_parts h
  have h1 := ((Is.may_iff _).1 pa).1
  have h2 := ((Cm.Co.set_iff _).1 ca).1
  have h3 := ((Cl.ok_iff _).1 ka).1
  omega
end Go.Proofs.YtngfoijmknclhaaGreatDoor
namespace Go.Proofs.YtngfoijmknclhaaGreatDoor
open Go.RowKit
theorem is_far {w w' : World} {o : Option Addr} {l : List Int} (h : Is.slot w o l) {g : Nat} (hn : ∀ ad, o = some ad → ad.block = g → False) (hk : ∀ b, b ≠ g → w'.heap[b]? = w.heap[b]?) : Is.slot w' o l := by
  rcases h with h | ⟨b, off, rfl, hr⟩
  · exact .inl h
  · exact .inr ⟨b, off, rfl, fun j hj => (cellB (hk b (fun e => hn _ rfl e)) _).trans (hr j hj)⟩
theorem co_far {w w' : World} {o : Option Addr} {l : List Cm.Co.C} (h : Cm.Co.slot w o l) {g : Nat} (hn : ∀ ad, o = some ad → ad.block = g → False) (hk : ∀ b, b ≠ g → w'.heap[b]? = w.heap[b]?) : Cm.Co.slot w' o l := by
  rcases h with h | ⟨b, off, rfl, hr⟩
  · exact .inl h
  · exact .inr ⟨b, off, rfl, fun j u hu => (cellB (hk b (fun e => hn _ rfl e)) _).trans (hr j u hu)⟩
end Go.Proofs.YtngfoijmknclhaaGreatDoor
namespace Go.Proofs.YtngfoijmknclhaaGreatDoor
open Go.RowKit Go.Sort
theorem do_uniq {a : At} {s : St} {r r' : At} {q q' : Int} (h : At.DoTo a s r q) (h' : At.DoTo a s r' q') : r = r' ∧ q = q' := by
  unfold At.DoTo at h h'
  by_cases hc : At.may a = true ∧ St.ok s = true
  · rw [if_pos hc] at h h'
    obtain ⟨x, hx, h⟩ := h
    obtain ⟨y, hy, h'⟩ := h'
    obtain rfl : x = y := uni_eq hx hy (fun c => Iff.rfl)
    rcases h with ⟨hb, rfl, rfl⟩ | ⟨hb, rfl, rfl⟩ <;> rcases h' with ⟨hb', rfl, rfl⟩ | ⟨hb', rfl, rfl⟩
    · exact ⟨rfl, rfl⟩
    · omega
    · omega
    · exact ⟨rfl, rfl⟩
  · rw [if_neg hc] at h h'
    obtain ⟨rfl, rfl⟩ := h
    obtain ⟨rfl, rfl⟩ := h'
    exact ⟨rfl, rfl⟩
theorem dec_uniq {c : Kl} {a : At} {r r' : Rs} (h : DecTo c a r) (h' : DecTo c a r') : r = r' := by
  unfold DecTo at h h'
  by_cases hc : c.ok = true
  · rw [if_pos hc] at h h'
    obtain ⟨d, q, hd, rfl⟩ := h
    obtain ⟨d', q', hd', rfl⟩ := h'
    obtain ⟨rfl, rfl⟩ := do_uniq hd hd'
    rfl
  · rw [if_neg hc] at h h'
    rw [h, h']
theorem run_uniq {mp ok : Bool} {p : Kl → Bool} {m : List Kl} {a : At} {r r' : Rs} (h : RunTo mp ok p m a r) (h' : RunTo mp ok p m a r') : r = r' := by
  unfold RunTo at h h'
  by_cases hc : mp = true ∧ ok = true
  · rw [if_pos hc] at h h'
    rcases h with ⟨h1, rfl⟩ | ⟨c, h1, h2⟩ <;> rcases h' with ⟨h1', rfl⟩ | ⟨c', h1', h2'⟩
    · rfl
    · rw [h1] at h1'; cases h1'
    · rw [h1] at h1'; cases h1'
    · rw [h1] at h1'; cases h1'; exact dec_uniq h2 h2'
  · rw [if_neg hc] at h h'
    rw [h, h']
end Go.Proofs.YtngfoijmknclhaaGreatDoor
