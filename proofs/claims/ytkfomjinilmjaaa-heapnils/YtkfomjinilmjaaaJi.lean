/- The contract of slices.Delete, of two numbers by texts. -/
import Derived.Test.YtkfomjinilmjaaaJh
import Derived.Test.YtkfomjinilmjaaaHi
namespace Go.Proofs.Ytkfomjinilmjaaa
open Go.RowKit Go.Maps

theorem app_none2 (g q cap : Nat) (hq : q ≤ cap) (x : Option Addr) (c : Nat) (ty : TypeId) (w : World) : (Builtin.append_ #[77, 77] ty #[.slice (some ⟨g, 0, none⟩) q cap, .slice x 0 c]).run Try.prog w = .ok (.slice (some ⟨g, 0, none⟩) q cap) w := by
  cases x <;> simp [Builtin.append_, run_underlying Try.underlying77, sizeOf, Builtin.lenOf, Builtin.firstCells, go_sem, hq, Result.andThen, storeCells]
def rz2 : RwP := ⟨(0, 0), ⟨#[]⟩, 0⟩
theorem zero82 (w : World) : (zeroValue 82).run Try.prog w = .ok (.agg #[.int .i64 0, .int .i64 0, .string ⟨#[]⟩, .int .i64 0]) w := by kernel_rfl
theorem clr_row2 (w : World) (g o c : Nat) (ty : TypeId) (x : RwP) (h0 : w.cell? ⟨g, o, none⟩ = some (.int .i64 x.k.1)) (h1 : w.cell? ⟨g, o + 1, none⟩ = some (.int .i64 x.k.2)) (h2 : w.cell? ⟨g, o + 2, none⟩ = some (.string x.r)) (h3 : w.cell? ⟨g, o + 3, none⟩ = some (.int .i64 x.t)) (hf : ∀ o, w.frozen? ⟨g, o, none⟩ = false) :
    (Builtin.clear_ #[77] ty #[.slice (some ⟨g, o, none⟩) 1 c]).run Try.prog w = .ok (.tuple #[]) (put4 w g o rz2) := by
  have hst := run_storeCells_cells (P := Try.prog) g o [.int .i64 0, .int .i64 0, .string ⟨#[]⟩, .int .i64 0] 0 w (fun j hj => by
      match j, hj with
      | 0, _ => simp [h0]
      | 1, _ => simp [h1]
      | 2, _ => simp [h2]
      | 3, _ => simp [h3]) (fun j _ => hf _) (fun v hv => by simp at hv; rcases hv with rfl | rfl | rfl | rfl <;> rfl)
  simp only [Nat.add_zero] at hst
  have hzc : (Builtin.zeroCells (Value.agg #[.int .i64 0, .int .i64 0, .string ⟨#[]⟩, .int .i64 0]).cells 1).toList = [.int .i64 0, .int .i64 0, .string ⟨#[]⟩, .int .i64 0] := by kernel_rfl
  simp [Builtin.clear_, run_underlying Try.underlying77, hzc, hst]
  rfl
set_option maxHeartbeats 2000000 in
set_option maxRecDepth 100000 in
theorem delete2_is {w : World} {g q cap : Nat} {x : RwP} (h0 : w.cell? ⟨g, q * 4, none⟩ = some (.int .i64 x.k.1)) (h1 : w.cell? ⟨g, q * 4 + 1, none⟩ = some (.int .i64 x.k.2)) (h2 : w.cell? ⟨g, q * 4 + 2, none⟩ = some (.string x.r)) (h3 : w.cell? ⟨g, q * 4 + 3, none⟩ = some (.int .i64 x.t)) (hf : ∀ o, w.frozen? ⟨g, o, none⟩ = false)
    (hc : q + 1 ≤ cap) (hq : q ≤ 1000) (hcap : cap ≤ maxLen) :
    Calls Try.prog 56 #[.slice (some ⟨g, 0, none⟩) (q + 1) cap, .int .i64 q, .int .i64 ((q : Int) + 1)] w fun e w' => e = .returned (.slice (some ⟨g, 0, none⟩) q cap) ∧ w' = (put4 w g (q * 4) rz2).drew := by
  have hcap' : (cap : Int) ≤ 9223372036854775807 := by unfold maxLen at hcap; omega
  have hc' : (q : Int) + 1 ≤ (cap : Int) := by omega
  have hc2 : q ≤ cap := by omega
  have hc3 : ¬ cap = q := by omega
  have hne : ((q : Int) == (q : Int) + 1) = false := by simp; omega
  have happ := fun x c ty w => app_none2 g q cap hc2 x c ty w
  have hclr := clr_row2 w.drew g (q * 4) (cap - q) 0 x h0 h1 h2 h3 hf
  have h00 : (0 : Int) ≤ (q : Int) + 1 := by omega
  clear hf
  obtain ⟨X, hX⟩ : ∃ X : Addr, (if cap = q + 1 then some (⟨g, 0, none⟩ : Addr) else some ⟨g, (q + 1) * 4, none⟩) = some X := by
    by_cases e : cap = q + 1
    · exact ⟨⟨g, 0, none⟩, by rw [if_pos e]⟩
    · exact ⟨⟨g, (q + 1) * 4, none⟩, by rw [if_neg e]⟩
  go_enter Try.func56, Try.ntmps56
  go_wp2_with fail
  refine wp_region_held_drew (S := fun _ => True) (by kernel_rfl) trivial (fun hHeld => ?_)
  refine wpAnyH_take (i := 0) (v := .slice (some ⟨g, 0, none⟩) (q + 1) cap) rfl (by kernel_rfl) (by kernel_rfl) (by kernel_rfl) (fun _ _ _ h => h) (Or.inl ⟨by rfl, fun w hSw => by go_simp⟩) hHeld ?_
  simp only [Act.put, List.getElem_toArray, List.getElem_cons_zero, List.setIfInBounds_toArray, List.set_cons_zero, List.set_cons_succ]
  refine wpAnyH_take (i := 1) (v := .int .i64 q) rfl (by kernel_rfl) (by kernel_rfl) (by kernel_rfl) (fun _ _ _ h => h) (Or.inl ⟨by rfl, fun w hSw => by go_simp⟩) hHeld ?_
  simp only [Act.put, List.getElem_toArray, List.getElem_cons_zero, List.getElem_cons_succ, List.setIfInBounds_toArray, List.set_cons_zero, List.set_cons_succ]
  refine wpAnyH_take (i := 2) (v := .slice (some ⟨g, 0, none⟩) q cap) rfl (by kernel_rfl) (by kernel_rfl) (by kernel_rfl) (fun _ _ _ h => h) (Or.inl ⟨by rfl, fun w hSw => by go_simp⟩) hHeld ?_
  simp only [Act.put, List.getElem_toArray, List.getElem_cons_zero, List.getElem_cons_succ, List.setIfInBounds_toArray, List.set_cons_zero, List.set_cons_succ]
  refine wpAnyH_take (i := 3) (v := .slice (some ⟨g, 0, none⟩) (q + 1) cap) rfl (by kernel_rfl) (by kernel_rfl) (by kernel_rfl) (fun _ _ _ h => h) (Or.inl ⟨by rfl, fun w hSw => by go_simp⟩) hHeld ?_
  simp only [Act.put, List.getElem_toArray, List.getElem_cons_zero, List.getElem_cons_succ, List.setIfInBounds_toArray, List.set_cons_zero, List.set_cons_succ]
  refine wpAnyH_take (i := 4) (v := .int .i64 ((q : Int) + 1)) rfl (by kernel_rfl) (by kernel_rfl) (by kernel_rfl) (fun _ _ _ h => h) (Or.inl ⟨by rfl, fun w hSw => by go_simp⟩) hHeld ?_
  simp only [Act.put, List.getElem_toArray, List.getElem_cons_zero, List.getElem_cons_succ, List.setIfInBounds_toArray, List.set_cons_zero, List.set_cons_succ]
  refine wpAnyH_take (i := 5) (v := .slice (some X) 0 (cap - (q + 1))) rfl (by kernel_rfl) (by kernel_rfl) (by kernel_rfl) (fun _ _ _ h => h) (Or.inl ⟨by rfl, fun w hSw => by go_simp⟩) hHeld ?_
  simp only [Act.put, List.getElem_toArray, List.getElem_cons_zero, List.getElem_cons_succ, List.setIfInBounds_toArray, List.set_cons_zero, List.set_cons_succ]
  refine wpAnyH_ready (rs := [6]) (by kernel_rfl) (by simp) ?_
  refine AllReadyH.cons rfl (fun K hK => ?_) AllReadyH.nil
  go_simp
  refine hK.out _ _ trivial (fun hHeld => ?_)
  clear hK K
  try simp only [Act.put, List.getElem_toArray, List.getElem_cons_zero, List.getElem_cons_succ, List.setIfInBounds_toArray, List.set_cons_zero, List.set_cons_succ]
  refine wpAnyH_take (i := 7) (v := .slice (some ⟨g, 0, none⟩) q cap) rfl (by kernel_rfl) (by kernel_rfl) (by kernel_rfl) (fun _ _ _ h => h) (Or.inl ⟨by rfl, fun w hSw => by go_simp⟩) hHeld ?_
  simp only [Act.put, List.getElem_toArray, List.getElem_cons_zero, List.getElem_cons_succ, List.setIfInBounds_toArray, List.set_cons_zero]
  refine wpAnyH_done (by kernel_rfl) ?_ _
  clear hX happ
  go_wp2_with fail
  go_ret
  exact ⟨rfl, rfl⟩
end Go.Proofs.Ytkfomjinilmjaaa
