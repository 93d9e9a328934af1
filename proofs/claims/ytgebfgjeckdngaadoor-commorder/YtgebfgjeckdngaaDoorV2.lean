/- The law CommOrder walked. -/
import Derived.Test.YtgebfgjeckdngaaDoorV1
namespace Go.Proofs.YtgebfgjeckdngaaDoor
open Go.RowKit Go.Sort

set_option maxHeartbeats 4000000 in
theorem order_long (ao bo co : Option Addr) (ca cb cc na nb nc : Nat) (w : World) (hT : Tab w) (h : 200 < na ∨ (na ≤ 200 ∧ 200 < nb) ∨ (na ≤ 200 ∧ nb ≤ 200 ∧ 200 < nc)) :
    Calls Tryd.prog 8 #[.slice ao na ca, .slice bo nb cb, .slice co nc cc] w fun e w' => e = .returned (.bool true) ∧ Below w.heap.size w w' := by
  have HT := hide hT
  clear hT
  rcases h with h | ⟨h1, h⟩ | ⟨h1, h2, h⟩
  · have F1 := hide (fun W => few_is ao na ca false (by simp; omega) W)
    clear h
    go_enter Tryd.func8, Tryd.ntmps8
    go_wp2_with fail
    refine (F1.out _).mono ?_
    rintro e w1 ⟨rfl, rfl⟩
    go_wp2_with fail
    refine (lives_is _ HT.out).mono ?_
    rintro e w2 ⟨rfl, hb2⟩
    go_wp2_with fail
    go_ret
    exact ⟨rfl, hb2⟩
  · have F1 := hide (fun W => few_is ao na ca true (by simp; omega) W)
    have F2 := hide (fun W => few_is bo nb cb false (by simp; omega) W)
    clear h h1
    go_enter Tryd.func8, Tryd.ntmps8
    go_wp2_with fail
    refine (F1.out _).mono ?_
    rintro e w1 ⟨rfl, rfl⟩
    go_wp2_with fail
    refine (F2.out _).mono ?_
    rintro e w1 ⟨rfl, rfl⟩
    go_wp2_with fail
    refine (lives_is _ HT.out).mono ?_
    rintro e w2 ⟨rfl, hb2⟩
    go_wp2_with fail
    go_ret
    exact ⟨rfl, hb2⟩
  · have F1 := hide (fun W => few_is ao na ca true (by simp; omega) W)
    have F2 := hide (fun W => few_is bo nb cb true (by simp; omega) W)
    have F3 := hide (fun W => few_is co nc cc false (by simp; omega) W)
    clear h h1 h2
    go_enter Tryd.func8, Tryd.ntmps8
    go_wp2_with fail
    refine (F1.out _).mono ?_
    rintro e w1 ⟨rfl, rfl⟩
    go_wp2_with fail
    refine (F2.out _).mono ?_
    rintro e w1 ⟨rfl, rfl⟩
    go_wp2_with fail
    refine (F3.out _).mono ?_
    rintro e w1 ⟨rfl, rfl⟩
    go_wp2_with fail
    refine (lives_is _ HT.out).mono ?_
    rintro e w2 ⟨rfl, hb2⟩
    go_wp2_with fail
    go_ret
    exact ⟨rfl, hb2⟩

set_option maxHeartbeats 8000000 in
theorem order_short (ao bo co : Option Addr) (ca cb cc : Nat) (a b c : List Co.C) (x y z : Int) (w : World) (hT : Tab w) (hA : Co.slot w ao a) (hB : Co.slot w bo b) (hC : Co.slot w co c) (ha : a.length ≤ 200) (hb : b.length ≤ 200) (hc : c.length ≤ 200)
    (hx : Co.compare a b = x) (hy : Co.compare b c = y) (hz : Co.compare a c = z) :
    Calls Tryd.prog 8 #[.slice ao a.length ca, .slice bo b.length cb, .slice co c.length cc] w fun e w' => e = .returned (.bool true) ∧ Below w.heap.size w w' := by
  have h3 : Co.three x y z := by rw [← hx, ← hy, ← hz]; exact Co.compare_three a b c
  have hs : decide (a = b) = (x == 0) := by
    have := Co.compare_zero a b
    rw [hx] at this
    by_cases h : a = b
    · simp [h, this.2 h]
    · have h' : x ≠ 0 := fun e => h (this.1 e)
      simp [h, h']
  have hn : Co.compare b a = -x := by rw [Co.compare_neg, hx]
  have F1 := hide (fun W => few_is ao a.length ca true (by simpa using ha) W)
  have F2 := hide (fun W => few_is bo b.length cb true (by simpa using hb) W)
  have F3 := hide (fun W => few_is co c.length cc true (by simpa using hc) W)
  have CX := hide (fun W (hW : Below w.heap.size w W) => compare_is ao bo ca cb a b x hx W (Co.slot_below hA hW) (Co.slot_below hB hW) ha hb)
  have CY := hide (fun W (hW : Below w.heap.size w W) => compare_is bo co cb cc b c y hy W (Co.slot_below hB hW) (Co.slot_below hC hW) hb hc)
  have CZ := hide (fun W (hW : Below w.heap.size w W) => compare_is ao co ca cc a c z hz W (Co.slot_below hA hW) (Co.slot_below hC hW) ha hc)
  have CN := hide (fun W (hW : Below w.heap.size w W) => compare_is bo ao cb ca b a (-x) hn W (Co.slot_below hB hW) (Co.slot_below hA hW) hb ha)
  have CS := hide (fun W (hW : Below w.heap.size w W) => refSame_is ao bo ca cb a b (x == 0) hs W (Co.slot_below hA hW) (Co.slot_below hB hW) (by omega) (by omega))
  have HT := hide hT
  clear hT hA hB hC ha hb hc hx hy hz hn hs
  generalize a.length = na at *
  generalize b.length = nb at *
  generalize c.length = nc at *
  unfold Co.three at h3
  rcases h3 with rfl | ⟨rfl, rfl⟩ | ⟨rfl, rfl, rfl⟩ | ⟨rfl, rfl, rfl⟩ | ⟨rfl, rfl⟩ | ⟨rfl, rfl, rfl⟩ | ⟨rfl, rfl, rfl⟩
  all_goals
    go_enter Tryd.func8, Tryd.ntmps8
    go_wp2_with fail
    refine (F1.out _).mono ?_
    rintro e w1 ⟨rfl, rfl⟩
    go_wp2_with fail
    refine (F2.out _).mono ?_
    rintro e w1 ⟨rfl, rfl⟩
    go_wp2_with fail
    refine (F3.out _).mono ?_
    rintro e w1 ⟨rfl, rfl⟩
    go_wp2_with fail
    refine (CX.out _ (brefl _)).mono ?_
    rintro e w2 ⟨rfl, hb2⟩
    have B2 := hide hb2
    clear hb2
    go_wp2_with fail
    refine (CY.out _ B2.out).mono ?_
    rintro e w3 ⟨rfl, hb3⟩
    have B3 := hide (bthen B2.out hb3)
    clear hb3
    go_wp2_with fail
    refine (CZ.out _ B3.out).mono ?_
    rintro e w4 ⟨rfl, hb4⟩
    have B4 := hide (bthen B3.out hb4)
    clear hb4
    go_wp2_with fail
    refine (CN.out _ B4.out).mono ?_
    rintro e w5 ⟨rfl, hb5⟩
    have B5 := hide (bthen B4.out hb5)
    clear hb5
    go_wp2_with fail
    refine (CS.out _ B5.out).mono ?_
    rintro e w6 ⟨rfl, hb6⟩
    have B6 := hide (bthen B5.out hb6)
    clear hb6
    go_wp2_with fail
    refine (lives_is _ (HT.out.on B6.out)).mono ?_
    rintro e w7 ⟨rfl, hb7⟩
    go_wp2_with fail
    go_ret
    exact ⟨rfl, bthen B6.out hb7⟩

theorem order_law (ao bo co : Option Addr) (ca cb cc : Nat) (a b c : List Co.C) (w : World) (hT : Tab w) (hA : Co.slot w ao a) (hB : Co.slot w bo b) (hC : Co.slot w co c) :
    Calls Tryd.prog 8 #[.slice ao a.length ca, .slice bo b.length cb, .slice co c.length cc] w fun e w' => e = .returned (.bool true) ∧ Below w.heap.size w w' := by
  by_cases ha : a.length ≤ 200
  · by_cases hb : b.length ≤ 200
    · by_cases hc : c.length ≤ 200
      · exact order_short ao bo co ca cb cc a b c _ _ _ w hT hA hB hC ha hb hc rfl rfl rfl
      · exact order_long ao bo co ca cb cc _ _ _ w hT (.inr (.inr ⟨ha, hb, by omega⟩))
    · exact order_long ao bo co ca cb cc _ _ _ w hT (.inr (.inl ⟨ha, by omega⟩))
  · exact order_long ao bo co ca cb cc _ _ _ w hT (.inl (by omega))
end Go.Proofs.YtgebfgjeckdngaaDoor
