/- One rule appended to a row of the call's own: the new row stands, and the old one still reads as it was. -/
import Derived.Test.YtkpoanjcalolkaaDoorPc0
import Derived.Laws.AppendOwn
import Derived.Deep.DeepAppendRoom
import Derived.WalkSmall
namespace Go.Proofs.YtkpoanjcalolkaaDoor
open Go.RowKit

theorem Ad.cellsR_app (x y : List Ad.R) : Ad.cellsR (x ++ y) = Ad.cellsR x ++ Ad.cellsR y := by simp [Ad.cellsR]

theorem run_append_rule (w : World) (base : Nat) (ty : TypeId) (v : Value) (n : Nat) (xs : List Ad.R) (hown : w.ownsRow base 32 5 v n (Ad.cellsR xs)) (ad : Addr) (r : Ad.R) (c : Nat) (hnews : ∀ j u, (Ad.encR r)[j]? = some u → w.cell? (ad.add j) = some u) (hn : n ≤ 1000) (hbase : base ≤ w.heap.size) :
    ∃ v' w', (Builtin.append_ #[22, 22] ty #[v, .slice (some ad) 1 c]).run Tryd.prog w = .ok v' w' ∧ w'.ownsRow base 32 5 v' (n + 1) (Ad.cellsR (xs ++ [r])) ∧ w'.ownsRow base 32 5 v n (Ad.cellsR xs) ∧ w.grownBy w' v.ownBlock := by
  obtain ⟨i0, hi, hz0, hz1, hz2⟩ := info_partsR
  have he : Ad.cellsR [r] = Ad.encR r := by simp [Ad.cellsR]
  have hone : ∀ u ∈ Ad.encR r, u.oneCell' = true := by rw [← he]; exact Ad.cellsR_one [r]
  obtain ⟨v', w', hr, h2, h3, _⟩ := run_append_own (P := Tryd.prog) w base 22 ty 32 i0 _ 5 40 Tryd.underlying22 hi hz0 hz1 hz2 rfl (by decide) v n (Ad.cellsR xs) hown ad 1 c (Ad.encR r) rfl hnews hone (by unfold maxLen; omega) (by omega) hbase
  refine ⟨v', w', hr, by rw [Ad.cellsR_app, he]; exact h2, ?_, h3⟩
  rcases hown.2 with ⟨rfl, rfl⟩ | ⟨g, cap, cur, rfl, hbg, hg, hnc, hcm, hcs, htake⟩
  · have hx : Ad.cellsR xs = [] := List.eq_nil_of_length_eq_zero (by simpa using hown.1)
    rw [hx]
    exact World.ownsRow_nil w' base 32 5
  · by_cases hroom : n + 1 ≤ cap
    · obtain ⟨w'', hr', h2', _⟩ := run_append_own_spare (P := Tryd.prog) w base 22 ty 32 i0 5 Tryd.underlying22 hi hz1 g n cap (Ad.cellsR xs) hown ad 1 c (Ad.encR r) rfl hnews hone hroom
      rw [hr'] at hr
      simp only [Result.ok.injEq] at hr
      obtain ⟨rfl, rfl⟩ := hr
      exact ownsRow_pop hown.1 h2'
    · have hr' := run_append_grow (P := Tryd.prog) w 22 ty 32 i0 _ Tryd.underlying22 hi hz0 ⟨g, 0, none⟩ n cap (Ad.cellsR xs) (by rw [hz1]; exact hown.1) (hown.cells (g := g) rfl) ad 1 c (Ad.encR r) (by rw [hz1]; rfl) hnews (by omega) (by omega) (growslice_fits (by omega) (by rw [hz2]; omega))
      rw [hr'] at hr
      simp only [Result.ok.injEq] at hr
      obtain ⟨rfl, rfl⟩ := hr
      exact hown.drew.alloc _

/-- The operation, for the walk. -/
theorem append_rule {w w0 : World} {ops : Array Oper} {rest : List Oper} {o : Oper} {a : Act} {Q : Exit → Act → World → Prop} (hgd : o.guard = none) (s x : Operand)
    (ho : o.op = .call { callee := .builtin .append, args := #[s, x], argTypes := #[22, 22] }) (v : Value) (n : Nat) (xs : List Ad.R) (hs : a.eval s = v) (hown : w.ownsRow w0.heap.size 32 5 v n (Ad.cellsR xs))
    (ad : Addr) (c : Nat) (r : Ad.R) (hx : a.eval x = .slice (some ad) 1 c) (hnews : ∀ j u, (Ad.encR r)[j]? = some u → w.cell? (ad.add j) = some u) (hn : n ≤ 1000) (hb : Below w0.heap.size w0 w)
    (h : ∀ v' w', w'.ownsRow w0.heap.size 32 5 v' (n + 1) (Ad.cellsR (xs ++ [r])) → w'.ownsRow w0.heap.size 32 5 v n (Ad.cellsR xs) → Below w0.heap.size w0 w' → wpList Tryd.prog ops Q rest (a.put o.dst v') w') : wpList Tryd.prog ops Q (o :: rest) a w := by
  refine wpList_plain hgd fun K hK => ?_
  obtain ⟨v', w', hr, h2, h3, h4⟩ := run_append_rule w w0.heap.size o.type v n xs hown ad r c hnews hn hb.size
  unfold Oper.wp execOp
  simp only [ho, resolve, invoke, builtin, Sem.run_bind, Sem.run_pure, Result.andThen_ok, List.map_toArray, List.map_cons, List.map_nil, hs, hx, hr]
  exact hK _ _ (h v' w' h2 h3 (Below.grown hb h4 hb.size fun k hk => (hown.lt k hk).1))
end Go.Proofs.YtkpoanjcalolkaaDoor
