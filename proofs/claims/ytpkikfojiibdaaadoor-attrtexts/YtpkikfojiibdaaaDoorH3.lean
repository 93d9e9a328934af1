/- Runs held against each other, and rows that are put behind. -/
import Derived.Test.YtpkikfojiibdaaaDoorH2
import Derived.ChangeKeysEq
import Derived.Laws.AppendOwn
import Derived.Laws.AppendOwnNone
import Derived.Deep.AppendLies
namespace Go.Proofs.YtpkikfojiibdaaaDoor
open Go.RowKit Go.Sort

/-- A slice that came in: nil has no room, and no place within a place. -/
def came (ao : Option Addr) (cap : Nat) : Prop := (ao = none → cap = 0) ∧ (∀ ad, ao = some ad → ad.spot = none)
theorem came_some (g o c : Nat) : came (some ⟨g, o, none⟩) c := ⟨fun h => (by cases h), fun ad h => (by cases h; rfl)⟩
theorem own_came {w : World} {B e size n cap : Nat} {ao : Option Addr} {xs : List Value} (h : w.ownsRow B e size (.slice ao n cap) n xs) : came ao cap := by
  rcases h.2 with ⟨hv, h0⟩ | ⟨g, cap', cur, hv, _⟩
  · simp only [Value.slice.injEq] at hv
    exact ⟨fun _ => hv.2.2, fun ad h => (by rw [hv.1] at h; cases h)⟩
  · simp only [Value.slice.injEq] at hv
    exact ⟨fun h => (by rw [hv.1] at h; cases h), fun ad h => (by rw [hv.1] at h; cases h; rfl)⟩

theorem infoI : (Tryd.prog.info? 3).map (fun i => (i.zero, i.size, i.bytes)) = some (some (.int .i64 0), 1, 8) := by kernel_rfl
theorem info_partsI : ∃ i0 : TypeInfo, Tryd.prog.info? 3 = some i0 ∧ i0.zero = some (.int .i64 0) ∧ i0.size = 1 ∧ i0.bytes = 8 := by
  have h := infoI
  cases hi : Tryd.prog.info? 3 with
  | none => rw [hi] at h; cases h
  | some i0 =>
    rw [hi] at h
    simp only [Option.map_some, Option.some.injEq, Prod.mk.injEq] at h
    exact ⟨i0, rfl, h.1, h.2.1, h.2.2⟩
theorem Is.cells_get (l : List Int) (j : Nat) (u : Value) (h : (Is.cells l)[j]? = some u) : ∃ hj : j < l.length, u = .int .i64 l[j] := by
  have hj : j < l.length := by have := (List.getElem?_eq_some_iff.1 h).1; rwa [Is.cells_length] at this
  refine ⟨hj, ?_⟩
  simp [Is.cells, hj] at h
  exact h.symm

/-- Numbers put behind a row of the call's own. -/
theorem append_ints {w w0 : World} {ops : Array Oper} {rest : List Oper} {o : Oper} {a : Act} {Q : Exit → Act → World → Prop} (hgd : o.guard = none) (s x : Operand)
    (ho : o.op = .call { callee := .builtin .append, args := #[s, x], argTypes := #[22, 22] }) (v : Value) (n : Nat) (xs : List Int) (hs : a.eval s = v) (hown : w.ownsRow w0.heap.size 3 1 v n (Is.cells xs))
    (ao : Option Addr) (nl cap : Nat) (l : List Int) (hx : a.eval x = .slice ao nl cap) (hnl : l.length = nl) (hR : Is.slot w ao l) (hC : came ao cap) (hn : n + nl ≤ 1000000) (hb : Below w0.heap.size w0 w)
    (h : ∀ v' w', w'.ownsRow w0.heap.size 3 1 v' (n + nl) (Is.cells (xs ++ l)) → Below w0.heap.size w0 w' → wpList Tryd.prog ops Q rest (a.put o.dst v') w') : wpList Tryd.prog ops Q (o :: rest) a w := by
  subst hnl
  obtain ⟨i0, hi, hz0, hz1, hz2⟩ := info_partsI
  cases ao with
  | none =>
    have hl : l = [] := by
      rcases hR with h | ⟨b, off, h, _⟩
      · exact h
      · cases h
    subst hl
    rw [hC.1 rfl] at hx
    refine wpList_append_own_none hgd s x 22 ho w0.heap.size 3 i0 1 Tryd.underlying22 hi v n (Is.cells xs) hs hown hx ?_
    exact h v w (by simpa using hown) hb
  | some ad =>
    obtain ⟨b, off, sp⟩ := ad
    obtain rfl : sp = none := hC.2 _ rfl
    have hrd : ∀ j u, (Is.cells l)[j]? = some u → w.cell? ((⟨b, off, none⟩ : Addr).add j) = some u := by
      intro j u hu
      obtain ⟨hj, rfl⟩ := Is.cells_get l j u hu
      rcases hR with h | ⟨b', off', h, hr⟩
      · rw [h] at hj; simp at hj
      · simp only [Option.some.injEq, Addr.mk.injEq, and_true] at h
        rw [show (⟨b, off, none⟩ : Addr).add j = ⟨b, off + j, none⟩ by unfold Addr.add; split <;> simp_all, h.1, h.2]
        exact hr j hj
    refine wpList_append_own w hgd s x 22 ho w0.heap.size 3 i0 _ 1 8 Tryd.underlying22 hi hz0 hz1 hz2 rfl (by decide) v n (Is.cells xs) hs hown ⟨b, off, none⟩ l.length cap (Is.cells l) hx (by rw [Is.cells_length, Nat.mul_one]) hrd (Is.cells_one l) (by unfold maxLen; omega) (by omega) hb.size ?_
    intro v' w' ho' hg _
    refine h v' w' ?_ (Below.grown hb hg hb.size fun k hk => (hown.lt k hk).1)
    rw [Is.cells_app]
    exact ho'
theorem Is.slot_one (W : World) (n : Int) (t : TypeId) : Is.slot (W.alloc (.cells #[.int .i64 n] t)) (some ⟨W.heap.size, 0, none⟩) [n] := by
  refine .inr ⟨_, 0, rfl, fun j hj => ?_⟩
  obtain rfl : j = 0 := by simp at hj; omega
  simp

theorem Ru.slot_one (W : World) (a b : Int) (g : Nat) (h : Two W g a b) : Ru.slot W (some ⟨g, 0, none⟩) [(a, b)] := by
  refine .inr ⟨g, 0, rfl, fun j u hu => ?_⟩
  match j, hu with
  | 0, hu => simp [Ru.cells, Ru.enc] at hu; subst hu; exact h.1
  | 1, hu => simp [Ru.cells, Ru.enc] at hu; subst hu; exact h.2.1

end Go.Proofs.YtpkikfojiibdaaaDoor
