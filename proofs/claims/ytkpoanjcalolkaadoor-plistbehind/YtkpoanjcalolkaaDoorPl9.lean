/- The contract of the laws' own lives: it answers true. -/
import Derived.Test.YtkpoanjcalolkaaDoorPl8
namespace Go.Proofs.YtkpoanjcalolkaaDoor
open Go.RowKit

theorem Ad.dg_16 : Ad.dg 16 = [49, 54] := by
  have : Lib.decDigits 16 = [49, 54] := by rw [Lib.decDigits]; simp; rw [Lib.decDigits]; simp
  simp [Ad.dg, this]
theorem Ad.dg_24 : Ad.dg 24 = [50, 52] := by
  have : Lib.decDigits 24 = [50, 52] := by rw [Lib.decDigits]; simp; rw [Lib.decDigits]; simp
  simp [Ad.dg, this]

theorem itoa_16 (W : World) : Calls Tryd.prog 33 #[.int .i64 16] W fun e w' => e = .returned (.string ⟨[49, 54].toArray⟩) ∧ Below W.heap.size W w' := by
  have := itoa_dg 16 (by decide) (by decide) W
  rw [Ad.dg_16] at this
  exact this
theorem itoa_24 (W : World) : Calls Tryd.prog 33 #[.int .i64 24] W fun e w' => e = .returned (.string ⟨[50, 52].toArray⟩) ∧ Below W.heap.size W w' := by
  have := itoa_dg 24 (by decide) (by decide) W
  rw [Ad.dg_24] at this
  exact this

/-- The text of the chapter's rule. -/
def Ad.livesText : ByteArray := ⟨#[112, 101, 114, 109, 105, 116, 32, 49, 48, 46, 48, 46, 48, 46, 48, 47, 56, 32, 103, 101, 32, 49, 54, 32, 108, 101, 32, 50, 52]⟩

theorem ptext_lives (w : World) : Calls Tryd.prog 16 #[.agg #[.int .u32 167772160, .int .i64 8, .int .i64 16, .int .i64 24, .bool true]] w fun e w' => e = .returned (.string Ad.livesText) ∧ Below w.heap.size w w' :=
  ptext_11 167772160 8 16 24 true ⟨(Ad.tword true).toArray⟩ ⟨[49, 48, 46, 48, 46, 48, 46, 48, 47, 56].toArray⟩ _ _ _ _ _ _ _ w (by decide) (by decide) (show Ad.rmay (167772160, 8, 16, 24, true) = true by decide) (Ad.word_is true)
    (adds_list _ _ (by decide) (by decide)) (adds_list [32, 103, 101, 32] [49, 54] (by decide) (by decide)) (adds_list _ _ (by decide) (by decide)) (adds_list [32, 108, 101, 32] [50, 52] (by decide) (by decide)) (adds_list _ _ (by decide) (by decide))
    (hide fun W _ => text_ten W) (hide fun W _ => itoa_16 W) (hide fun W _ => itoa_24 W) (by decide) (by decide)

set_option maxHeartbeats 1000000 in
set_option maxRecDepth 100000 in
theorem lives_any (w : World) : Calls Tryd.prog 15 #[] w fun e w' => e = .returned (.bool true) ∧ Below w.heap.size w w' := by
  have F0 := hide (five_box w 167772160 8 16 24 true)
  go_enter Tryd.func15, Tryd.ntmps15
  go_wp2_with fail
  refine (met_is _ _ _ _ _ _ _ true (by decide) _ (by decide) (by decide) (by decide) (by decide)).mono ?_
  rintro e w1 ⟨rfl, hb1⟩
  have F1 := hide (five_below F0.out hb1)
  have B1 := hide (bthen (balloc (brefl w) _) hb1)
  obtain ⟨c0, c1, c2, c3, c4, c5, c6⟩ := F1.out
  clear hb1 F0
  go_wp2_with fail
  refine (met_is _ _ _ _ _ _ _ false (by decide) _ (by decide) (by decide) (by decide) (by decide)).mono ?_
  rintro e w2 ⟨rfl, hb2⟩
  have F2 := hide (five_below F1.out hb2)
  have B2 := hide (bthen B1.out hb2)
  clear c0 c1 c2 c3 c4 c5 c6
  obtain ⟨c0, c1, c2, c3, c4, c5, c6⟩ := F2.out
  clear hb2 F1 B1
  go_wp2_with fail
  refine (ptext_lives _).mono ?_
  rintro e w3 ⟨rfl, hb3⟩
  have B3 := hide (bthen B2.out hb3)
  clear hb3 B2 F2
  go_wp2_with fail
  go_ret
  exact ⟨ret_bool (by rw [ByteArray.toList_eq]; decide), B3.out⟩
end Go.Proofs.YtkpoanjcalolkaaDoor
