/- The contracts of a heap's New and Set. -/
import Derived.Test.YtkfomjinilmjaaaHk
namespace Go.Proofs.Ytkfomjinilmjaaa
open Go.RowKit Go.Maps

theorem fn_equalIn {P : Program} (w : World) (d : Nat) (t : TypeId) (ps rs : Array TypeId) (vd : Bool) (fn : Fn) (fi ca : Array Value) (h : P.underlying t = some (.func ps rs vd)) : (Op.equalIn (d + 1) t (.func fn fi ca) .nilFunc).run P w = .ok false w := by
  simp [Op.equalIn, run_underlying h]
theorem fn_equal {P : Program} (w : World) (t : TypeId) (ps rs : Array TypeId) (vd : Bool) (fn : Fn) (fi ca : Array Value) (h : P.underlying t = some (.func ps rs vd)) : (Op.equal t (.func fn fi ca) .nilFunc).run P w = .ok false w := fn_equalIn w 9999 t ps rs vd fn fi ca h
theorem nil_equalIn {P : Program} (w : World) (d : Nat) (t : TypeId) (ps rs : Array TypeId) (vd : Bool) (h : P.underlying t = some (.func ps rs vd)) : (Op.equalIn (d + 1) t .nilFunc .nilFunc).run P w = .ok true w := by
  simp [Op.equalIn, run_underlying h]
theorem nil_equal {P : Program} (w : World) (t : TypeId) (ps rs : Array TypeId) (vd : Bool) (h : P.underlying t = some (.func ps rs vd)) : (Op.equal t .nilFunc .nilFunc).run P w = .ok true w := nil_equalIn w 9999 t ps rs vd h
theorem fn_eql {P : Program} (w : World) (t : TypeId) (ps rs : Array TypeId) (vd : Bool) (fn : Fn) (fi ca : Array Value) (h : P.underlying t = some (.func ps rs vd)) : (binOp .eql t (.func fn fi ca) .nilFunc).run P w = .ok (.bool false) w := by
  simp only [binOp]
  simp [fn_equal w t ps rs vd fn fi ca h]
theorem nil_eql {P : Program} (w : World) (t : TypeId) (ps rs : Array TypeId) (vd : Bool) (h : P.underlying t = some (.func ps rs vd)) : (binOp .eql t .nilFunc .nilFunc).run P w = .ok (.bool true) w := by
  simp only [binOp]
  simp [nil_equal w t ps rs vd h]
theorem hp_new (lt : Int → Int → Bool) (w : World) (f : Nat) : Hp lt ((w.alloc (.map #[] 0)).alloc (.cells #[.func (.func f) #[] #[], .slice none 0 0, .map (some w.heap.size), .int .i64 0] 66)) (w.heap.size + 1) f [] 0 none w.heap.size := by
  refine ⟨[], fun _ => none, 0, 0, ⟨?_, .inl ⟨rfl, rfl, rfl⟩, ?_, by omega, fun a e => (by cases e), fun x hx => (by cases hx)⟩, ⟨fun i a h => (by simp at h), fun k i h => (by cases h)⟩, gs_nil lt⟩
  · have := heap_alloc_new (w.alloc (.map #[] 0)) (.cells #[.func (.func f) #[] #[], .slice none 0 0, .map (some w.heap.size), .int .i64 0] 66)
    rw [size_alloc] at this
    exact this
  · exact (mp_new w).kept (heap_alloc_lt _ _ _ (by rw [size_alloc]; omega))
/-- What New hands back. -/
def Made (lt : Int → Int → Bool) (w : World) (f : Nat) (e : Ending) (w' : World) : Prop :=
  ∃ (h m : Nat), e = .returned (.pointer (some ⟨h, 0, none⟩)) ∧ Hp lt w' h f [] 0 none m ∧ Below w.heap.size w w' ∧ w.heap.size ≤ h ∧ w.heap.size ≤ m
set_option maxRecDepth 100000 in
theorem new_is (lt : Int → Int → Bool) (f : Nat) (w : World) : Calls Try.prog 8 #[.func (.func f) #[] #[]] w (Made lt w f) := by
  have HN := hide (hp_new lt w f)
  have hfn := fun w => fn_eql w 25 _ _ _ (.func f) #[] #[] Try.underlying25
  have hmm := @run_makeMap Try.prog
  have HB := hide (balloc (balloc (brefl w) (.map #[] 0)) (.cells #[.func (.func f) #[] #[], .slice none 0 0, .map (some w.heap.size), .int .i64 0] 66))
  go_enter Try.func8, Try.ntmps8
  go_wp2_with fail
  go_ret
  exact ⟨_, _, rfl, HN.out, HB.out, Nat.le_succ _, Nat.le_refl _⟩
set_option maxRecDepth 100000 in
theorem new_nil (lt : Int → Int → Bool) (w : World) : Calls Try.prog 8 #[.nilFunc] w (Made lt w 35) := by
  have HN := hide (hp_new lt w 35)
  have hfn := fun w => nil_eql w 25 _ _ _ Try.underlying25
  have hmm := @run_makeMap Try.prog
  have HB := hide (balloc (balloc (brefl w) (.map #[] 0)) (.cells #[.func (.func 35) #[] #[], .slice none 0 0, .map (some w.heap.size), .int .i64 0] 66))
  go_enter Try.func8, Try.ntmps8
  go_wp2_with fail
  go_ret
  exact ⟨_, _, rfl, HN.out, HB.out, Nat.le_succ _, Nat.le_refl _⟩

theorem info70 : (Try.prog.info? 70).map (fun i => (i.zero, i.size, i.bytes)) = some (some (.agg #[.string ⟨#[]⟩, .int .i64 0, .int .i64 0]), 3, 32) := by kernel_rfl
theorem info_70 : ∃ i0 : TypeInfo, Try.prog.info? 70 = some i0 ∧ i0.zero = some (.agg #[.string ⟨#[]⟩, .int .i64 0, .int .i64 0]) ∧ i0.size = 3 ∧ i0.bytes = 32 := by
  have h := info70
  cases hi : Try.prog.info? 70 with
  | none => rw [hi] at h; cases h
  | some i0 =>
    rw [hi] at h
    simp only [Option.map_some, Option.some.injEq, Prod.mk.injEq] at h
    exact ⟨i0, rfl, h.1, h.2.1, h.2.2⟩
section
variable {lt : Int → Int → Bool} {w w' : World} {h f : Nat} {R : List RwS} {T : Int} {φ : ByteArray → Option Nat} {ao : Option Addr} {cap m n : Nat}
/-- The rows as cells that are owned. -/
theorem RowAt.owns (H : RowAt w ao cap R) : ∃ xs : List Value, w.ownsRow 0 70 3 (.slice ao R.length cap) R.length xs ∧ ∀ j x, R[j]? = some x → xs[j * 3]? = some (.string x.k) ∧ xs[j * 3 + 1]? = some (.int .i64 x.r) ∧ xs[j * 3 + 2]? = some (.int .i64 x.t) := by
  rcases H with ⟨rfl, rfl, rfl⟩ | ⟨g, cur, rfl, hg, h1, h2, h3, h4⟩
  · exact ⟨[], ⟨rfl, .inl ⟨rfl, rfl⟩⟩, fun j x hx => by simp at hx⟩
  · refine ⟨cur.toList.take (R.length * 3), ⟨?_, .inr ⟨g, cap, cur, rfl, Nat.zero_le _, hg, h1, h2, h3, rfl⟩⟩, fun j x hx => ?_⟩
    · have e : cur.toList.length = cap * 3 := by rw [← h3]; rfl
      rw [List.length_take, e]
      omega
    · have hj := get_lt hx
      obtain ⟨e0, e1, e2⟩ := h4 j x hx
      rw [List.getElem?_take_of_lt (by omega), List.getElem?_take_of_lt (by omega), List.getElem?_take_of_lt (by omega), Array.getElem?_toList, Array.getElem?_toList, Array.getElem?_toList]
      exact ⟨e0, e1, e2⟩
theorem rowAt_of {v : Value} {xs : List Value} {N : Nat} (hN : R.length = N) (h : w.ownsRow 0 70 3 v N xs) (hr : ∀ j x, R[j]? = some x → xs[j * 3]? = some (.string x.k) ∧ xs[j * 3 + 1]? = some (.int .i64 x.r) ∧ xs[j * 3 + 2]? = some (.int .i64 x.t)) : ∃ ao cap, v = .slice ao N cap ∧ RowAt w ao cap R := by
  subst hN
  rcases h with ⟨hl, ⟨rfl, h0⟩ | ⟨g, cap, cur, rfl, _, hg, h1, h2, h3, h4⟩⟩
  · have hRn : R = [] := List.length_eq_zero_iff.1 h0
    exact ⟨none, 0, by rw [h0], .inl ⟨rfl, rfl, hRn⟩⟩
  · refine ⟨_, cap, rfl, .inr ⟨g, cur, rfl, hg, h1, h2, h3, fun j x hx => ?_⟩⟩
    have hj := get_lt hx
    obtain ⟨e0, e1, e2⟩ := hr j x hx
    rw [← h4] at e0 e1 e2
    rw [List.getElem?_take_of_lt (by omega), Array.getElem?_toList] at e0 e1 e2
    exact ⟨e0, e1, e2⟩
/-- Where the rows lie behind an append. -/
def Near (w : World) (ao ao' : Option Addr) : Prop := ∀ a, ao' = some a → (∃ b, ao = some b ∧ a.block = b.block) ∨ w.heap.size ≤ a.block
theorem near_of {ao ao' : Option Addr} (hloc : ao'.map (·.block) = ao.map (·.block) ∨ ao'.map (·.block) = some w.heap.size) : Near w ao ao' := by
  intro a e
  subst e
  rcases hloc with e | e
  · cases ao with
    | none => cases e
    | some b => exact .inl ⟨b, rfl, by simpa using e⟩
  · right
    simp at e
    omega
theorem append_row {ops : Array Oper} {rest : List Oper} {o : Oper} {a : Act} {Q : Exit → Act → World → Prop} (hgd : o.guard = none) (s x : Operand)
    (ho : o.op = .call { callee := .builtin .append, args := #[s, x], argTypes := #[64, 64] }) (hs : a.eval s = .slice ao R.length cap) (H : RowAt w ao cap R)
    (g0 c : Nat) (hx : a.eval x = .slice (some ⟨g0, 0, none⟩) 1 c) (hc : w.heap[g0]? = some (.cells #[.string ⟨#[]⟩, .int .i64 0, .int .i64 0] 70 (0, 0))) (hn : R.length ≤ 1000)
    (hK : ∀ ao' cap' w', RowAt w' ao' cap' (R ++ [rz]) → w.grownBy w' (ao.map (·.block)) → Near w ao ao' → wpList Try.prog ops Q rest (a.put o.dst (.slice ao' (R.length + 1) cap')) w') : wpList Try.prog ops Q (o :: rest) a w := by
  obtain ⟨i0, hi, hz0, hz1, hz2⟩ := info_70
  obtain ⟨xs, hown, hr⟩ := H.owns
  obtain ⟨q0, q1, q2⟩ := three_cells hc
  refine wpList_append_own_at w hgd s x 64 ho 0 70 i0 _ 3 32 Try.underlying64 hi hz0 hz1 hz2 rfl (by decide) _ R.length xs hs hown ⟨g0, 0, none⟩ 1 c [.string ⟨#[]⟩, .int .i64 0, .int .i64 0] hx rfl ?_ ?_ (by unfold maxLen; omega) (by omega) (Nat.zero_le _) ?_
  · intro j u hj
    match j, hj with
    | 0, hj => simp at hj; subst hj; simpa [Addr.add] using q0
    | 1, hj => simp at hj; subst hj; simpa [Addr.add] using q1
    | 2, hj => simp at hj; subst hj; simpa [Addr.add] using q2
  · intro u hu
    simp at hu
    rcases hu with rfl | rfl | rfl <;> rfl
  · intro v' w' ho' hg _ hloc
    have hl : xs.length = R.length * 3 := hown.1
    obtain ⟨ao', cap', rfl, hR'⟩ := rowAt_of (R := R ++ [rz]) (by simp) ho' (fun j x hx => by
      have hj := get_lt hx
      rw [List.length_append, List.length_singleton] at hj
      by_cases e : j < R.length
      · rw [List.getElem?_append_left e] at hx
        obtain ⟨e0, e1, e2⟩ := hr j x hx
        rw [List.getElem?_append_left (by omega), List.getElem?_append_left (by omega), List.getElem?_append_left (by omega)]
        exact ⟨e0, e1, e2⟩
      · have e2 : j = R.length := by omega
        subst e2
        rw [List.getElem?_append_right (Nat.le_refl _), Nat.sub_self, List.getElem?_cons_zero, Option.some.injEq] at hx
        subst hx
        rw [List.getElem?_append_right (by omega), List.getElem?_append_right (by omega), List.getElem?_append_right (by omega)]
        have e3 : R.length * 3 - xs.length = 0 := by omega
        have e4 : R.length * 3 + 1 - xs.length = 1 := by omega
        have e5 : R.length * 3 + 2 - xs.length = 2 := by omega
        rw [e3, e4, e5]
        exact ⟨rfl, rfl, rfl⟩)
    have hb : ∀ (ao : Option Addr) n c, Value.ownBlock (.slice ao n c) = ao.map (·.block) := fun ao n c => by cases ao <;> rfl
    rw [hb] at hg hloc
    rw [hb] at hloc
    exact hK ao' cap' w' hR' hg (near_of hloc)
end
end Go.Proofs.Ytkfomjinilmjaaa
