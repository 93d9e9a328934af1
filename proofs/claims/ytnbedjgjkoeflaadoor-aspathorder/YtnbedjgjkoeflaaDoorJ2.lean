/- The law AspathOrder, over the contracts of the program's functions. -/
import Derived.Test.YtnbedjgjkoeflaaDoorJ1
namespace Go.Proofs.YtnbedjgjkoeflaaDoor
open Go.RowKit Go.Sort

def Is.three (x y z : Int) (t : Bool) : Prop := x = 1 ∨ (x = 0 ∧ y = 1) ∨ (x = -1 ∧ y = 1 ∧ t = false) ∨ (x = 0 ∧ y = 0 ∧ z = 0) ∨ (x = 0 ∧ y = -1 ∧ z = -1) ∨ (x = -1 ∧ y = 0 ∧ z = -1 ∧ t = false) ∨ (x = -1 ∧ y = -1 ∧ z = -1 ∧ t = false)
theorem Is.tail_compare (a b : List Int) (h : Is.tail a b = true) : 0 ≤ Is.compare a b := by
  unfold Is.tail at h
  rw [Bool.and_eq_true, decide_eq_true_iff, decide_eq_true_iff] at h
  by_cases hl : a.length = b.length
  · have : a = b := by
      have h2 := h.2
      rw [hl, Nat.sub_self, List.drop_zero] at h2
      exact h2
    rw [(Is.compare_zero a b).2 this]
    decide
  · unfold Is.compare
    rw [if_neg (by omega), if_pos (by omega)]
    decide
theorem Is.compare_three (a b c : List Int) : Is.three (Is.compare a b) (Is.compare b c) (Is.compare a c) (Is.tail a b) := by
  by_cases h : Is.compare a b = 0 ∧ Is.compare b c = 0
  · have e1 := (Is.compare_zero a b).1 h.1
    have e2 := (Is.compare_zero b c).1 h.2
    subst e1 e2
    right; right; right; left
    exact ⟨h.1, h.1, h.1⟩
  · have h1 := Is.compare_bd a b
    have h2 := Is.compare_bd b c
    have h3 := Is.compare_bd a c
    have ht := Is.tail_compare a b
    have htr := Is.compare_trans a b c
    generalize Is.compare a b = x at *
    generalize Is.compare b c = y at *
    generalize Is.compare a c = z at *
    generalize Is.tail a b = t at *
    unfold Is.three
    have htf : x = -1 → t = false := by
      intro hx
      cases t
      · rfl
      · have := ht rfl
        omega
    by_cases hx1 : x = 1
    · exact .inl hx1
    · by_cases hy1 : y = 1
      · by_cases hx0 : x = 0
        · exact .inr (.inl ⟨hx0, hy1⟩)
        · exact .inr (.inr (.inl ⟨by omega, hy1, htf (by omega)⟩))
      · have h4 := htr (by omega) (by omega)
        have hz : z = -1 := by omega
        by_cases hx0 : x = 0
        · exact .inr (.inr (.inr (.inr (.inl ⟨hx0, by omega, hz⟩))))
        · by_cases hy0 : y = 0
          · exact .inr (.inr (.inr (.inr (.inr (.inl ⟨by omega, hy0, hz, htf (by omega)⟩)))))
          · exact .inr (.inr (.inr (.inr (.inr (.inr ⟨by omega, by omega, hz, htf (by omega)⟩)))))

set_option maxHeartbeats 4000000 in
theorem order_long {T : World → Prop} (K : Kit T) (ao bo co : Option Addr) (ca cb cc na nb nc : Nat) (w : World) (hT : T w) (h : 300 < na ∨ (na ≤ 300 ∧ 300 < nb) ∨ (na ≤ 300 ∧ nb ≤ 300 ∧ 300 < nc)) :
    Calls Tryd.prog 8 #[.slice ao na ca, .slice bo nb cb, .slice co nc cc] w fun e w' => e = .returned (.bool true) ∧ Below w.heap.size w w' := by
  have CL := hide (lives_is K w hT)
  clear hT
  rcases h with h | ⟨h1, h⟩ | ⟨h1, h2, h⟩
  · have F1 := hide (fun W => few_is ao na ca false (by simp; omega) W)
    clear h
    go_enter Tryd.func8, Tryd.ntmps8
    go_wp2_with fail
    refine (F1.out _).mono ?_
    rintro e w1 ⟨rfl, rfl⟩
    go_wp2_with fail
    refine CL.out.mono ?_
    rintro e w2 ⟨rfl, hb2⟩
    go_wp2_with fail
    go_ret
    exact ⟨rfl, hb2⟩
  · have F1 := hide (fun W => few_is ao na ca true (by simp; omega) W)
    have F2 := hide (fun W => few_is bo nb cb false (by simp; omega) W)
    clear h h1
    go_enter Tryd.func8, Tryd.ntmps8
    go_wp2_with fail
    refine (F1.out _).mono ?_
    rintro e w1 ⟨rfl, rfl⟩
    go_wp2_with fail
    refine (F2.out _).mono ?_
    rintro e w1 ⟨rfl, rfl⟩
    go_wp2_with fail
    refine CL.out.mono ?_
    rintro e w2 ⟨rfl, hb2⟩
    go_wp2_with fail
    go_ret
    exact ⟨rfl, hb2⟩
  · have F1 := hide (fun W => few_is ao na ca true (by simp; omega) W)
    have F2 := hide (fun W => few_is bo nb cb true (by simp; omega) W)
    have F3 := hide (fun W => few_is co nc cc false (by simp; omega) W)
    clear h h1 h2
    go_enter Tryd.func8, Tryd.ntmps8
    go_wp2_with fail
    refine (F1.out _).mono ?_
    rintro e w1 ⟨rfl, rfl⟩
    go_wp2_with fail
    refine (F2.out _).mono ?_
    rintro e w1 ⟨rfl, rfl⟩
    go_wp2_with fail
    refine (F3.out _).mono ?_
    rintro e w1 ⟨rfl, rfl⟩
    go_wp2_with fail
    refine CL.out.mono ?_
    rintro e w2 ⟨rfl, hb2⟩
    go_wp2_with fail
    go_ret
    exact ⟨rfl, hb2⟩

set_option maxHeartbeats 8000000 in
theorem order_short {T : World → Prop} (K : Kit T) (ao bo co : Option Addr) (ca cb cc : Nat) (a b c : List Int) (x y z : Int) (t : Bool) (w : World) (hT : T w) (hA : Is.slot w ao a) (hB : Is.slot w bo b) (hC : Is.slot w co c) (cA : came ao ca) (ha : a.length ≤ 300) (hb : b.length ≤ 300) (hc : c.length ≤ 300)
    (hx : Is.compare a b = x) (hy : Is.compare b c = y) (hz : Is.compare a c = z) (ht : Is.tail a b = t) :
    Calls Tryd.prog 8 #[.slice ao a.length ca, .slice bo b.length cb, .slice co c.length cc] w fun e w' => e = .returned (.bool true) ∧ Below w.heap.size w w' := by
  have h3 : Is.three x y z t := by rw [← hx, ← hy, ← hz, ← ht]; exact Is.compare_three a b c
  have hs : decide (a = b) = (x == 0) := by
    have := Is.compare_zero a b
    rw [hx] at this
    by_cases h : a = b
    · simp [h, this.2 h]
    · have h' : x ≠ 0 := fun e => h (this.1 e)
      simp [h, h']
  have hn : Is.compare b a = -x := by rw [Is.compare_neg, hx]
  have F1 := hide (fun W => few_is ao a.length ca true (by simpa using ha) W)
  have F2 := hide (fun W => few_is bo b.length cb true (by simpa using hb) W)
  have F3 := hide (fun W => few_is co c.length cc true (by simpa using hc) W)
  have CX := hide (fun W (hW : Below w.heap.size w W) => K.compare ao bo ca cb a b x hx W (K.on hT hW) (Is.slot_below hA hW) (Is.slot_below hB hW) (by omega) (by omega))
  have CY := hide (fun W (hW : Below w.heap.size w W) => K.compare bo co cb cc b c y hy W (K.on hT hW) (Is.slot_below hB hW) (Is.slot_below hC hW) (by omega) (by omega))
  have CZ := hide (fun W (hW : Below w.heap.size w W) => K.compare ao co ca cc a c z hz W (K.on hT hW) (Is.slot_below hA hW) (Is.slot_below hC hW) (by omega) (by omega))
  have CN := hide (fun W (hW : Below w.heap.size w W) => K.compare bo ao cb ca b a (-x) hn W (K.on hT hW) (Is.slot_below hB hW) (Is.slot_below hA hW) (by omega) (by omega))
  have CS := hide (fun W (hW : Below w.heap.size w W) => same_is ao bo ca cb a b (x == 0) hs W (Is.slot_below hA hW) (Is.slot_below hB hW) (by omega))
  have CT := hide (fun W (hW : Below w.heap.size w W) => K.tail ao bo ca cb a b t ht W (K.on hT hW) (Is.slot_below hA hW) (Is.slot_below hB hW) cA (by omega) (by omega))
  have CL := hide (fun W (hW : Below w.heap.size w W) => lives_is K W (K.on hT hW))
  clear hT hA hB hC ha hb hc hx hy hz hn hs ht cA
  generalize a.length = na at *
  generalize b.length = nb at *
  generalize c.length = nc at *
  unfold Is.three at h3
  rcases h3 with rfl | ⟨rfl, rfl⟩ | ⟨rfl, rfl, rfl⟩ | ⟨rfl, rfl, rfl⟩ | ⟨rfl, rfl, rfl⟩ | ⟨rfl, rfl, rfl, rfl⟩ | ⟨rfl, rfl, rfl, rfl⟩
  all_goals
    first | (cases t) | skip
  all_goals
    go_enter Tryd.func8, Tryd.ntmps8
    go_wp2_with fail
    refine (F1.out _).mono ?_
    rintro e w1 ⟨rfl, rfl⟩
    go_wp2_with fail
    refine (F2.out _).mono ?_
    rintro e w1 ⟨rfl, rfl⟩
    go_wp2_with fail
    refine (F3.out _).mono ?_
    rintro e w1 ⟨rfl, rfl⟩
    go_wp2_with fail
    refine (CX.out _ (brefl _)).mono ?_
    rintro e w2 ⟨rfl, hb2⟩
    have B2 := hide hb2
    clear hb2
    go_wp2_with fail
    refine (CY.out _ B2.out).mono ?_
    rintro e w3 ⟨rfl, hb3⟩
    have B3 := hide (bthen B2.out hb3)
    clear hb3
    go_wp2_with fail
    refine (CZ.out _ B3.out).mono ?_
    rintro e w4 ⟨rfl, hb4⟩
    have B4 := hide (bthen B3.out hb4)
    clear hb4
    go_wp2_with fail
    refine (CN.out _ B4.out).mono ?_
    rintro e w5 ⟨rfl, hb5⟩
    have B5 := hide (bthen B4.out hb5)
    clear hb5
    go_wp2_with fail
    refine (CS.out _ B5.out).mono ?_
    rintro e w6 ⟨rfl, hb6⟩
    have B6 := hide (bthen B5.out hb6)
    clear hb6
    go_wp2_with fail
    refine (CT.out _ B6.out).mono ?_
    rintro e w7 ⟨rfl, hb7⟩
    have B7 := hide (bthen B6.out hb7)
    clear hb7
    go_wp2_with fail
    refine (CL.out _ B7.out).mono ?_
    rintro e w8 ⟨rfl, hb8⟩
    go_wp2_with fail
    go_ret
    exact ⟨rfl, bthen B7.out hb8⟩

theorem order_law {T : World → Prop} (K : Kit T) (ao bo co : Option Addr) (ca cb cc : Nat) (a b c : List Int) (w : World) (hT : T w) (hA : Is.slot w ao a) (hB : Is.slot w bo b) (hC : Is.slot w co c) (cA : came ao ca) :
    Calls Tryd.prog 8 #[.slice ao a.length ca, .slice bo b.length cb, .slice co c.length cc] w fun e w' => e = .returned (.bool true) ∧ Below w.heap.size w w' := by
  by_cases ha : a.length ≤ 300
  · by_cases hb : b.length ≤ 300
    · by_cases hc : c.length ≤ 300
      · exact order_short K ao bo co ca cb cc a b c _ _ _ _ w hT hA hB hC cA ha hb hc rfl rfl rfl rfl
      · exact order_long K ao bo co ca cb cc _ _ _ w hT (.inr (.inr ⟨ha, hb, by omega⟩))
    · exact order_long K ao bo co ca cb cc _ _ _ w hT (.inr (.inl ⟨ha, by omega⟩))
  · exact order_long K ao bo co ca cb cc _ _ _ w hT (.inl (by omega))
end Go.Proofs.YtnbedjgjkoeflaaDoor
