/- The program's Plain, Nothing, Plus and Same. -/
import Derived.Test.YtpkikfojiibdaaaDoorG2
namespace Go.Proofs.YtpkikfojiibdaaaDoor
open Go.RowKit Go.Sort

theorem nil_came : Cm.Co.came none 0 := ⟨fun _ => rfl, fun ad h => (by cases h)⟩
set_option maxRecDepth 100000 in
theorem plain_is (w : World) : Calls Tryd.prog 17 #[] w fun e w' => (∃ (po co ko : Option Addr) (cp cc ck : Nat), e = .returned (.agg #[.int .i64 100, .int .i64 0, .int .i64 0, .slice po 0 cp, .slice co 0 cc, .int .i64 0, .slice ko 0 ck])) ∧ Below w.heap.size w w' := by
  have HA := hide (heap_new w #[.int .i64 0, .int .i64 0, .int .i64 0, .slice none 0 0, .slice none 0 0, .int .i64 0, .slice none 0 0] 25)
  have HB := hide (balloc (brefl w) (.cells #[.int .i64 0, .int .i64 0, .int .i64 0, .slice none 0 0, .slice none 0 0, .int .i64 0, .slice none 0 0] 25))
  obtain ⟨g, hg⟩ : ∃ g, g = w.heap.size := ⟨_, rfl⟩
  go_enter Tryd.func17, Tryd.ntmps17
  go_upto_region 1 with fail
  generalize w.alloc (.cells #[.int .i64 0, .int .i64 0, .int .i64 0, .slice none 0 0, .slice none 0 0, .int .i64 0, .slice none 0 0] 25) = w1 at *
  have HG := hide (Nat.le_of_eq hg.symm)
  rw [← hg] at HA ⊢
  clear hg
  obtain ⟨z0, z1, z2, z3, z4, z5, z6⟩ := seven_cells HA.out
  have f0 := frozenG HA.out 0
  have f1 := frozenG HA.out 1
  have f2 := frozenG HA.out 2
  have f3 := frozenG HA.out 3
  have f4 := frozenG HA.out 4
  have f5 := frozenG HA.out 5
  have f6 := frozenG HA.out 6
  have NE := hide (put7_same HA.out (.int .i64 100) (.int .i64 0) (.int .i64 0) (.slice none 0 0) (.slice none 0 0) (.int .i64 0) (.slice none 0 0))
  have BE := hide (put7_below HB.out HG.out (.int .i64 100) (.int .i64 0) (.int .i64 0) (.slice none 0 0) (.slice none 0 0) (.int .i64 0) (.slice none 0 0))
  go_wp2_with fail
  change bodyPost _ _ _ _ _ (put7 w1 g (.int .i64 100) (.int .i64 0) (.int .i64 0) (.slice none 0 0) (.slice none 0 0) (.int .i64 0) (.slice none 0 0))
  generalize put7 w1 g (.int .i64 100) (.int .i64 0) (.int .i64 0) (.slice none 0 0) (.slice none 0 0) (.int .i64 0) (.slice none 0 0) = w9 at *
  obtain ⟨y0, y1, y2, y3, y4, y5, y6⟩ := seven_cells NE.out
  refine bodyPost_ret (v := .agg #[.int .i64 100, .int .i64 0, .int .i64 0, .slice none 0 0, .slice none 0 0, .int .i64 0, .slice none 0 0]) ?_ rfl ⟨⟨none, none, none, 0, 0, 0, rfl⟩, BE.out⟩
  simp [results, Tryd.results17, go_sem, y0, y1, y2, y3, y4, y5, y6]
set_option maxRecDepth 100000 in
theorem plus_is (a b x q : Int) (ha : -9223372036854775808 ≤ a ∧ a ≤ 9223372036854775807) (hb : -9223372036854775808 ≤ b ∧ b ≤ 9223372036854775807) (h : Plus a b = (x, q)) (w : World) :
    Calls Tryd.prog 16 #[.int .i64 a, .int .i64 b] w fun e w' => e = .returned (.tuple #[.int .i64 x, .int .i64 q]) ∧ Below w.heap.size w w' := by
  unfold Plus at h
  by_cases a0 : a < 0
  · rw [if_neg (by omega), Prod.mk.injEq] at h
    obtain ⟨rfl, rfl⟩ := h
    go_enter Tryd.func16, Tryd.ntmps16
    go_wp2_with fail
    refine bodyPost_ret (v := .tuple #[.int .i64 0, .int .i64 7]) ?_ rfl ⟨rfl, brefl w⟩
    simp [results, Tryd.results16, go_sem]
  by_cases b0 : b < 0
  · rw [if_neg (by omega), Prod.mk.injEq] at h
    obtain ⟨rfl, rfl⟩ := h
    go_enter Tryd.func16, Tryd.ntmps16
    go_wp2_with fail
    refine bodyPost_ret (v := .tuple #[.int .i64 0, .int .i64 7]) ?_ rfl ⟨rfl, brefl w⟩
    simp [results, Tryd.results16, go_sem]
  by_cases am : 1099511627776 < a
  · rw [if_neg (by omega), Prod.mk.injEq] at h
    obtain ⟨rfl, rfl⟩ := h
    go_enter Tryd.func16, Tryd.ntmps16
    go_wp2_with fail
    refine bodyPost_ret (v := .tuple #[.int .i64 0, .int .i64 7]) ?_ rfl ⟨rfl, brefl w⟩
    simp [results, Tryd.results16, go_sem]
  by_cases bm : 1099511627776 - a < b
  · rw [if_neg (by omega), Prod.mk.injEq] at h
    obtain ⟨rfl, rfl⟩ := h
    go_enter Tryd.func16, Tryd.ntmps16
    go_wp2_with fail
    refine bodyPost_ret (v := .tuple #[.int .i64 0, .int .i64 7]) ?_ rfl ⟨rfl, brefl w⟩
    simp [results, Tryd.results16, go_sem]
  · rw [if_pos (by omega), Prod.mk.injEq] at h
    obtain ⟨rfl, rfl⟩ := h
    go_enter Tryd.func16, Tryd.ntmps16
    go_wp2_with fail
    refine bodyPost_ret (v := .tuple #[.int .i64 (a + b), .int .i64 0]) ?_ rfl ⟨rfl, brefl w⟩
    simp [results, Tryd.results16, go_sem]
end Go.Proofs.YtpkikfojiibdaaaDoor
