/- The law's lives. -/
import Derived.Test.YtdkfamlnmjhcfaaK1
namespace Go.Proofs.Ytdkfamlnmjhcfaa
open Go.RowKit Go.Sort

set_option maxHeartbeats 1000000 in
set_option maxRecDepth 100000 in
theorem lives11_is (K : Kit11) (w : World) : Calls Try.prog 7 #[] w fun e w' => e = .returned (.bool true) ∧ Below w.heap.size w w' := by
  have CS : Hid (Calls Try.prog 11 #[.string ⟨#[97, 115, 32, 53, 59]⟩] w fun e w' => ∃ g c, e = .returned (.tuple #[.slice (some ⟨g, 0, none⟩) 3 c, .agg #[.int .i64 0, .int .i64 0], .int .i64 0]) ∧ (w'.cell? ⟨g, 0, none⟩ = some (.int .i64 0) ∧ w'.cell? ⟨g, 1, none⟩ = some (.string ⟨#[97, 115]⟩) ∧ w'.cell? ⟨g, 2, none⟩ = some (.int .i64 1) ∧ w'.cell? ⟨g, 3, none⟩ = some (.int .i64 1)) ∧ (w'.cell? ⟨g, 6, none⟩ = some (.int .i64 1) ∧ w'.cell? ⟨g, 7, none⟩ = some (.int .i64 4)) ∧ w'.cell? ⟨g, 8, none⟩ = some (.int .i64 2) ∧ g < w'.heap.size ∧ Below w.heap.size w w') := by
    refine (K.scan ⟨#[97, 115, 32, 53, 59]⟩ (by decide) w).mono ?_
    rintro e w' ⟨v, ts, p, q, c, rfl, hr, hi, hb⟩
    obtain ⟨rfl, rfl, rfl, rfl⟩ := hi.det as5
    rw [Tok.cells_tv] at hr
    rcases Tv.of_row (l := List.map (Tok.tv _) _) (by rw [List.length_map]; exact hr) with ⟨h, _⟩ | ⟨g, c, rfl, _, hat⟩
    · cases h
    · obtain ⟨a0, a1, a2, a3⟩ := hat 0 (by simp)
      obtain ⟨_, _, b2, b3⟩ := hat 1 (by simp)
      obtain ⟨c0, _, _, _⟩ := hat 2 (by simp)
      exact ⟨g, c, rfl, ⟨a0, a1, a2, a3⟩, ⟨b2, b3⟩, c0, World.block_lt_of_cell? _ _ a0, hb⟩
  go_enter Try.func7, Try.ntmps7
  go_wp2_with fail
  refine CS.out.mono ?_
  rintro e w1 ⟨g, c, rfl, ⟨a0, a1, a2, a3⟩, ⟨b2, b3⟩, c0, hg, hb⟩
  clear CS
  have B1 := hide (bthen hb (balloc (brefl w1) (.cells #[.int .i64 0, .int .i64 0] 25)))
  have hA := balloc (brefl w1) (.cells #[.int .i64 0, .int .i64 0] 25)
  have a0 := (hA.cell (p := ⟨g, 0, none⟩) hg).trans a0
  have a1 := (hA.cell (p := ⟨g, 1, none⟩) hg).trans a1
  have a2 := (hA.cell (p := ⟨g, 2, none⟩) hg).trans a2
  have a3 := (hA.cell (p := ⟨g, 3, none⟩) hg).trans a3
  have b2 := (hA.cell (p := ⟨g, 6, none⟩) hg).trans b2
  have b3 := (hA.cell (p := ⟨g, 7, none⟩) hg).trans b3
  have c0 := (hA.cell (p := ⟨g, 8, none⟩) hg).trans c0
  clear hA hb
  go_wp2_with fail
  all_goals
    go_ret
    exact ⟨rfl, B1.out⟩
end Go.Proofs.Ytdkfamlnmjhcfaa
