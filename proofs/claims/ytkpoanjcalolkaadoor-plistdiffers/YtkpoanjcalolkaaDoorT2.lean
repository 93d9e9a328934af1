import Derived.Test.YtkpoanjcalolkaaDoorM8
import Derived.Test.YtkpoanjcalolkaaDoorS4
import Derived.Lib.AppendIntMem
/- The contracts of addr's Text and Parse, over the digits that Itoa writes. -/
namespace Go.Proofs.YtkpoanjcalolkaaDoor
open Go.RowKit

/-- The library's table of powers of ten reads as it was laid. -/
def Tab (w : World) : Prop := Lib.TabIs Tryd.prog w "internal/strconv.uint64pow10" .u64 Lib.pow10Tab

theorem Tab.on {w w' : World} (h : Tab w) (hb : Below w.heap.size w w') : Tab w' := Lib.tabBelow_of_tabIs h w' hb

theorem itoa_any (n : Int) (h0 : -9223372036854775808 ≤ n) (h1 : n ≤ 9223372036854775807) (w : World) (h : Tab w) :
    Calls Tryd.prog 33 #[.int .i64 n] w fun e w' => e = .returned (.string ⟨(Lib.itoa n).toArray⟩) ∧ Below w.heap.size w w' := by
  refine (Tryd.strconv_Itoa n h0 h1 w h).mono ?_
  rintro e w' ⟨rfl, k, os, rfl⟩
  exact ⟨rfl, Lib.below_grow _ w (Nat.le_refl _) k os⟩

/-- Itoa's digits, where they are few. -/
def Ad.dgI (n : Int) : List UInt8 := if 0 ≤ n ∧ n ≤ 255 then Lib.itoa n else []

theorem Ad.dgI_len (n : Int) : (Ad.dgI n).length ≤ 100 := by
  unfold Ad.dgI
  split
  · have := Ad.itoa_len3 n (by omega) (by omega); omega
  · simp

theorem Ad.dgI_text (a b : Int) (h0 : 0 ≤ b) (h1 : b ≤ 32) : Ad.text Ad.dgI a b = Ad.textI a b := by
  have g : ∀ n, 0 ≤ n → n ≤ 255 → Ad.dgI n = Lib.itoa n := fun n a b => by unfold Ad.dgI; rw [if_pos ⟨a, b⟩]
  have o := Ad.oct_bd a
  unfold Ad.textI Ad.text Ad.textTo Ad.textTo Ad.textTo Ad.textTo Ad.textTo
  rw [g _ (o 0).1 (o 0).2, g _ (o 1).1 (o 1).2, g _ (o 2).1 (o 2).2, g _ (o 3).1 (o 3).2, g b h0 (by omega)]

theorem text_may (a b : Int) (w : World) (ha : 0 ≤ a) (ha2 : a ≤ 4294967295) (hm : Ad.may a b = true) (ht : Tab w) :
    Calls Tryd.prog 32 #[.agg #[.int .u32 a, .int .i64 b]] w fun e w' => e = .returned (.string ⟨(Ad.textI a b).toArray⟩) ∧ Below w.heap.size w w' := by
  have hb := of_decide_eq_true hm
  rw [← Ad.dgI_text a b hb.1 hb.2.1]
  refine text_yes Ad.dgI a b w ha ha2 hm Ad.dgI_len ?_
  intro n W hn hW
  have hr : 0 ≤ n ∧ n ≤ 255 := by
    rcases hn with rfl | ⟨j, _, rfl⟩
    · omega
    · exact Ad.oct_bd a j
  have e : Ad.dgI n = Lib.itoa n := by unfold Ad.dgI; rw [if_pos hr]
  rw [e]
  exact itoa_any n (by omega) (by omega) W (ht.on hW)

theorem text_not (a b : Int) (w : World) (ha : 0 ≤ a) (ha2 : a ≤ 4294967295) (hm : Ad.may a b = false) :
    Calls Tryd.prog 32 #[.agg #[.int .u32 a, .int .i64 b]] w fun e w' => e = .returned (.string ⟨#[]⟩) ∧ Below w.heap.size w w' := by
  go_enter Tryd.func32, Tryd.ntmps32
  go_wp2_with fail
  refine (may_is _ _ _ hm _ ha ha2).mono ?_
  rintro e w1 ⟨rfl, hb1⟩
  go_wp2_with fail
  go_ret
  exact ⟨rfl, bthen (balloc (brefl w) _) hb1⟩

/-- A prefix's text; none where it may not be. -/
def Ad.textA (a b : Int) : List UInt8 := if Ad.may a b = true then Ad.textI a b else []

theorem text_any (a b : Int) (w : World) (ha : 0 ≤ a) (ha2 : a ≤ 4294967295) (ht : Tab w) :
    Calls Tryd.prog 32 #[.agg #[.int .u32 a, .int .i64 b]] w fun e w' => e = .returned (.string ⟨(Ad.textA a b).toArray⟩) ∧ Below w.heap.size w w' := by
  unfold Ad.textA
  cases hm : Ad.may a b
  · exact text_not a b w ha ha2 hm
  · exact text_may a b w ha ha2 hm ht

theorem Ad.isNum_digs {x : List UInt8} (hx : Ad.isNum x = true) : Ad.digs x = true := by
  unfold Ad.isNum at hx
  simp only [Bool.and_eq_true] at hx
  exact hx.2

end Go.Proofs.YtkpoanjcalolkaaDoor
