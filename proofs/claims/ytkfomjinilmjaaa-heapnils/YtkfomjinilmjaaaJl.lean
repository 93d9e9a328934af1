/- The contract of New; rows that are appended, of two numbers by texts. -/
import Derived.Test.YtkfomjinilmjaaaJk
import Derived.Test.YtkfomjinilmjaaaHl
namespace Go.Proofs.Ytkfomjinilmjaaa
open Go.RowKit Go.Maps

theorem hp2_new (lt : ByteArray → ByteArray → Bool) (w : World) (f : Nat) : Hp2 lt ((w.alloc (.map #[] 0)).alloc (.cells #[.func (.func f) #[] #[], .slice none 0 0, .map (some w.heap.size), .int .i64 0] 79)) (w.heap.size + 1) f [] 0 none w.heap.size := by
  refine ⟨[], fun _ => none, 0, 0, ⟨?_, .inl ⟨rfl, rfl, rfl⟩, ?_, by omega, fun a e => (by cases e), fun x hx => (by cases hx)⟩, ⟨fun i a h => (by simp at h), fun k i h => (by cases h)⟩, gs_nil lt⟩
  · have := heap_alloc_new (w.alloc (.map #[] 0)) (.cells #[.func (.func f) #[] #[], .slice none 0 0, .map (some w.heap.size), .int .i64 0] 79)
    rw [size_alloc] at this
    exact this
  · exact (mp2_new w).kept (heap_alloc_lt _ _ _ (by rw [size_alloc]; omega))
/-- What New hands back. -/
def Made2 (lt : ByteArray → ByteArray → Bool) (w : World) (f : Nat) (e : Ending) (w' : World) : Prop :=
  ∃ (h m : Nat), e = .returned (.pointer (some ⟨h, 0, none⟩)) ∧ Hp2 lt w' h f [] 0 none m ∧ Below w.heap.size w w' ∧ w.heap.size ≤ h ∧ w.heap.size ≤ m
set_option maxRecDepth 100000 in
theorem new2_is (lt : ByteArray → ByteArray → Bool) (f : Nat) (w : World) : Calls Try.prog 30 #[.func (.func f) #[] #[]] w (Made2 lt w f) := by
  have HN := hide (hp2_new lt w f)
  have hfn := fun w => fn_eql w 59 _ _ _ (.func f) #[] #[] Try.underlying59
  have hmm := @run_makeMap Try.prog
  have HB := hide (balloc (balloc (brefl w) (.map #[] 0)) (.cells #[.func (.func f) #[] #[], .slice none 0 0, .map (some w.heap.size), .int .i64 0] 79))
  go_enter Try.func30, Try.ntmps30
  go_wp2_with fail
  go_ret
  exact ⟨_, _, rfl, HN.out, HB.out, Nat.le_succ _, Nat.le_refl _⟩
theorem info82 : (Try.prog.info? 82).map (fun i => (i.zero, i.size, i.bytes)) = some (some (.agg #[.int .i64 0, .int .i64 0, .string ⟨#[]⟩, .int .i64 0]), 4, 40) := by kernel_rfl
theorem info_82 : ∃ i0 : TypeInfo, Try.prog.info? 82 = some i0 ∧ i0.zero = some (.agg #[.int .i64 0, .int .i64 0, .string ⟨#[]⟩, .int .i64 0]) ∧ i0.size = 4 ∧ i0.bytes = 40 := by
  have h := info82
  cases hi : Try.prog.info? 82 with
  | none => rw [hi] at h; cases h
  | some i0 =>
    rw [hi] at h
    simp only [Option.map_some, Option.some.injEq, Prod.mk.injEq] at h
    exact ⟨i0, rfl, h.1, h.2.1, h.2.2⟩
section
variable {lt : ByteArray → ByteArray → Bool} {w w' : World} {h f : Nat} {R : List RwP} {T : Int} {φ : Int × Int → Option Nat} {ao : Option Addr} {cap m n : Nat}
/-- The rows as cells that are owned. -/
theorem RowAt2.owns (H : RowAt2 w ao cap R) : ∃ xs : List Value, w.ownsRow 0 82 4 (.slice ao R.length cap) R.length xs ∧ ∀ j x, R[j]? = some x → xs[j * 4]? = some (.int .i64 x.k.1) ∧ xs[j * 4 + 1]? = some (.int .i64 x.k.2) ∧ xs[j * 4 + 2]? = some (.string x.r) ∧ xs[j * 4 + 3]? = some (.int .i64 x.t) := by
  rcases H with ⟨rfl, rfl, rfl⟩ | ⟨g, cur, rfl, hg, h1, h2, h3, h4⟩
  · exact ⟨[], ⟨rfl, .inl ⟨rfl, rfl⟩⟩, fun j x hx => by simp at hx⟩
  · refine ⟨cur.toList.take (R.length * 4), ⟨?_, .inr ⟨g, cap, cur, rfl, Nat.zero_le _, hg, h1, h2, h3, rfl⟩⟩, fun j x hx => ?_⟩
    · have e : cur.toList.length = cap * 4 := by rw [← h3]; rfl
      rw [List.length_take, e]
      omega
    · have hj := get_lt hx
      obtain ⟨e0, e1, e2, e3⟩ := h4 j x hx
      rw [List.getElem?_take_of_lt (by omega), List.getElem?_take_of_lt (by omega), List.getElem?_take_of_lt (by omega), List.getElem?_take_of_lt (by omega), Array.getElem?_toList, Array.getElem?_toList, Array.getElem?_toList, Array.getElem?_toList]
      exact ⟨e0, e1, e2, e3⟩
theorem rowAt2_of {v : Value} {xs : List Value} {N : Nat} (hN : R.length = N) (h : w.ownsRow 0 82 4 v N xs) (hr : ∀ j x, R[j]? = some x → xs[j * 4]? = some (.int .i64 x.k.1) ∧ xs[j * 4 + 1]? = some (.int .i64 x.k.2) ∧ xs[j * 4 + 2]? = some (.string x.r) ∧ xs[j * 4 + 3]? = some (.int .i64 x.t)) : ∃ ao cap, v = .slice ao N cap ∧ RowAt2 w ao cap R := by
  subst hN
  rcases h with ⟨hl, ⟨rfl, h0⟩ | ⟨g, cap, cur, rfl, _, hg, h1, h2, h3, h4⟩⟩
  · have hRn : R = [] := List.length_eq_zero_iff.1 h0
    exact ⟨none, 0, by rw [h0], .inl ⟨rfl, rfl, hRn⟩⟩
  · refine ⟨_, cap, rfl, .inr ⟨g, cur, rfl, hg, h1, h2, h3, fun j x hx => ?_⟩⟩
    have hj := get_lt hx
    obtain ⟨e0, e1, e2, e3⟩ := hr j x hx
    rw [← h4] at e0 e1 e2 e3
    rw [List.getElem?_take_of_lt (by omega), Array.getElem?_toList] at e0 e1 e2 e3
    exact ⟨e0, e1, e2, e3⟩
theorem append_row2 {ops : Array Oper} {rest : List Oper} {o : Oper} {a : Act} {Q : Exit → Act → World → Prop} (hgd : o.guard = none) (s x : Operand)
    (ho : o.op = .call { callee := .builtin .append, args := #[s, x], argTypes := #[77, 77] }) (hs : a.eval s = .slice ao R.length cap) (H : RowAt2 w ao cap R)
    (g0 c : Nat) (hx : a.eval x = .slice (some ⟨g0, 0, none⟩) 1 c) (hc : w.heap[g0]? = some (.cells #[.int .i64 0, .int .i64 0, .string ⟨#[]⟩, .int .i64 0] 82 (0, 0))) (hn : R.length ≤ 1000)
    (hK : ∀ ao' cap' w', RowAt2 w' ao' cap' (R ++ [rz2]) → w.grownBy w' (ao.map (·.block)) → Near w ao ao' → wpList Try.prog ops Q rest (a.put o.dst (.slice ao' (R.length + 1) cap')) w') : wpList Try.prog ops Q (o :: rest) a w := by
  obtain ⟨i0, hi, hz0, hz1, hz2⟩ := info_82
  obtain ⟨xs, hown, hr⟩ := H.owns
  obtain ⟨q0, q1, q2, q3, _⟩ := four_cells hc
  refine wpList_append_own_at w hgd s x 77 ho 0 82 i0 _ 4 40 Try.underlying77 hi hz0 hz1 hz2 rfl (by decide) _ R.length xs hs hown ⟨g0, 0, none⟩ 1 c [.int .i64 0, .int .i64 0, .string ⟨#[]⟩, .int .i64 0] hx rfl ?_ ?_ (by unfold maxLen; omega) (by omega) (Nat.zero_le _) ?_
  · intro j u hj
    match j, hj with
    | 0, hj => simp at hj; subst hj; simpa [Addr.add] using q0
    | 1, hj => simp at hj; subst hj; simpa [Addr.add] using q1
    | 2, hj => simp at hj; subst hj; simpa [Addr.add] using q2
    | 3, hj => simp at hj; subst hj; simpa [Addr.add] using q3
  · intro u hu
    simp at hu
    rcases hu with rfl | rfl | rfl | rfl <;> rfl
  · intro v' w' ho' hg _ hloc
    have hl : xs.length = R.length * 4 := hown.1
    obtain ⟨ao', cap', rfl, hR'⟩ := rowAt2_of (R := R ++ [rz2]) (by simp) ho' (fun j x hx => by
      have hj := get_lt hx
      rw [List.length_append, List.length_singleton] at hj
      by_cases e : j < R.length
      · rw [List.getElem?_append_left e] at hx
        obtain ⟨e0, e1, e2, e3⟩ := hr j x hx
        rw [List.getElem?_append_left (by omega), List.getElem?_append_left (by omega), List.getElem?_append_left (by omega), List.getElem?_append_left (by omega)]
        exact ⟨e0, e1, e2, e3⟩
      · have e2 : j = R.length := by omega
        subst e2
        rw [List.getElem?_append_right (Nat.le_refl _), Nat.sub_self, List.getElem?_cons_zero, Option.some.injEq] at hx
        subst hx
        rw [List.getElem?_append_right (by omega), List.getElem?_append_right (by omega), List.getElem?_append_right (by omega), List.getElem?_append_right (by omega)]
        have e3 : R.length * 4 - xs.length = 0 := by omega
        have e4 : R.length * 4 + 1 - xs.length = 1 := by omega
        have e5 : R.length * 4 + 2 - xs.length = 2 := by omega
        have e6 : R.length * 4 + 3 - xs.length = 3 := by omega
        rw [e3, e4, e5, e6]
        exact ⟨rfl, rfl, rfl, rfl⟩)
    have hb : ∀ (ao : Option Addr) n c, Value.ownBlock (.slice ao n c) = ao.map (·.block) := fun ao n c => by cases ao <;> rfl
    rw [hb] at hg hloc
    rw [hb] at hloc
    exact hK ao' cap' w' hR' hg (near_of hloc)
end
end Go.Proofs.Ytkfomjinilmjaaa
