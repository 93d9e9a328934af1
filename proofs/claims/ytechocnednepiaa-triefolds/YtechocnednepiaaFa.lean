import Derived.Test.YtechocnednepiaaP13
import Derived.Laws.AppendOwnNone
import Derived.Deep.AppendLies
/- A trie folded by counting. -/
namespace Go.Proofs.Ytechocnednepiaa
open Go.RowKit

def Is.cells (l : List Int) : List Value := l.map (Value.int .i64)
def Is.slot (w : World) (ao : Option Addr) (l : List Int) : Prop := l = [] ∨ ∃ b off, ao = some ⟨b, off, none⟩ ∧ ∀ j (h : j < l.length), w.cell? ⟨b, off + j, none⟩ = some (.int .i64 l[j])
theorem infoI : (Try.prog.info? 3).map (fun i => (i.zero, i.size, i.bytes)) = some (some (.int .i64 0), 1, 8) := by kernel_rfl
theorem info_I : ∃ i0 : TypeInfo, Try.prog.info? 3 = some i0 ∧ i0.zero = some (.int .i64 0) ∧ i0.size = 1 ∧ i0.bytes = 8 := by
  have h := infoI
  cases hi : Try.prog.info? 3 with
  | none => rw [hi] at h; cases h
  | some i0 =>
    rw [hi] at h
    simp only [Option.map_some, Option.some.injEq, Prod.mk.injEq] at h
    exact ⟨i0, rfl, h.1, h.2.1, h.2.2⟩
theorem append_int {w w0 : World} {ops : Array Oper} {rest : List Oper} {o : Oper} {a : Act} {Q : Exit → Act → World → Prop} (hgd : o.guard = none) (s x : Operand)
    (ho : o.op = .call { callee := .builtin .append, args := #[s, x], argTypes := #[44, 44] }) (v : Value) (n : Nat) (xs : List Int) (hs : a.eval s = v) (hown : w.ownsRow w0.heap.size 3 1 v n (Is.cells xs))
    (u : Int) (g0 c : Nat) (hx : a.eval x = .slice (some ⟨g0, 0, none⟩) 1 c) (hc : w.cell? ⟨g0, 0, none⟩ = some (.int .i64 u)) (hn : n ≤ 1000) (hb : Below w0.heap.size w0 w)
    (h : ∀ v' w', w'.ownsRow w0.heap.size 3 1 v' (n + 1) (Is.cells (xs ++ [u])) → Below w0.heap.size w0 w' → wpList Try.prog ops Q rest (a.put o.dst v') w') : wpList Try.prog ops Q (o :: rest) a w := by
  obtain ⟨i0, hi, hz0, hz1, hz2⟩ := info_I
  refine wpList_append_own w hgd s x 44 ho w0.heap.size 3 i0 _ 1 8 Try.underlying44 hi hz0 hz1 hz2 rfl (by decide) v n (Is.cells xs) hs hown ⟨g0, 0, none⟩ 1 c [.int .i64 u] hx rfl ?_ (fun w hw => by simp at hw; subst hw; rfl) (by unfold maxLen; omega) (by omega) hb.size ?_
  · intro j q hj
    match j, hj with
    | 0, hj =>
      simp at hj
      subst hj
      simpa [Addr.add] using hc
  · intro v' w' ho' hg _
    refine h v' w' ?_ (Below.grown hb hg hb.size fun k hk => (hown.lt k hk).1)
    simpa [Is.cells] using ho'
theorem is_shape {w : World} {B n : Nat} {v : Value} {l : List Int} (h : w.ownsRow B 3 1 v n (Is.cells l)) (hn : l.length = n) : ∃ (ao : Option Addr) (cap : Nat), v = .slice ao l.length cap ∧ Is.slot w ao l := by
  subst hn
  rcases h.2 with ⟨rfl, h0⟩ | ⟨g, cap, cur, rfl, r⟩
  · have : l = [] := List.length_eq_zero_iff.1 h0
    subst this
    exact ⟨none, 0, rfl, .inl rfl⟩
  · refine ⟨_, cap, rfl, .inr ⟨g, 0, rfl, fun j hj => ?_⟩⟩
    rw [Nat.zero_add, h.cellAt j (by omega)]
    simp [Is.cells, hj]
/-- The sum of a list. -/
def tot (l : List Int) : Int := l.foldl (· + ·) 0
theorem tot_succ (l : List Int) (k : Nat) (h : k < l.length) : tot (l.take (k + 1)) = tot (l.take k) + l[k] := by
  unfold tot
  rw [List.take_succ_eq_append_getElem h, List.foldl_append]
  rfl
set_option maxHeartbeats 1000000 in
theorem count_is (ao : Option Addr) (cap : Nat) (ks : List Int) (v : Value) (is : Bool) (W : World) (hR : Is.slot W ao ks) (hn : ks.length ≤ 2) (hb : ∀ k, 0 ≤ tot (ks.take k) ∧ tot (ks.take k) ≤ 100000) :
    Calls Try.prog 19 #[.slice ao ks.length cap, v, .bool is] W fun e w' => e = .returned (.int .i64 (tot ks + if is then 1 else 0)) ∧ w' = W := by
  have HB := hide hb
  have HR := hide hR
  clear hb hR
  go_enter Try.func19, Try.ntmps19
  go_wp2_with fail
  go_loopw [7, 8] (fun v7 v8 wr => ∃ k : Nat, k ≤ ks.length ∧ v8 = .int .i64 k ∧ v7 = .int .i64 (tot (ks.take k)) ∧ wr = W) (fun _ v8 _ => ks.length - (intOf v8).toNat)
  case atStart => exact ⟨0, Nat.zero_le _, rfl, rfl, rfl⟩
  case round =>
    obtain ⟨k, hk, rfl, rfl, rfl⟩ := hrel
    by_cases hlt : k < ks.length
    · have hlt' : (k : Int) < (ks.length : Int) := by omega
      obtain ⟨b, off, rfl, r1⟩ : ∃ b off, ao = some ⟨b, off, none⟩ ∧ ∀ j (h : j < ks.length), wr.cell? ⟨b, off + j, none⟩ = some (.int .i64 ks[j]) := by
        rcases HR.out with h | h
        · rw [h] at hlt; simp at hlt
        · exact h
      have e0 := r1 k hlt
      have HT := hide (tot_succ ks k hlt)
      have h1 := HB.out k
      have h2 := HB.out (k + 1)
      rw [HT.out] at h2
      clear r1
      generalize ks[k] = u at *
      generalize tot (ks.take k) = s at *
      go_wp2_with fail
      exact ⟨⟨k + 1, by omega, by go_num, by rw [HT.out], by simp⟩, by simp [intOf]; omega⟩
    · obtain rfl : k = ks.length := by omega
      have h1 := HB.out ks.length
      rw [List.take_length] at h1 ⊢
      obtain ⟨s, hs⟩ : ∃ s, tot ks = s := ⟨_, rfl⟩
      rw [hs] at h1 ⊢
      have HS := hide hs
      clear hs
      cases is
      · go_wp2_with fail
        go_ret
        rw [HS.out]
        exact ⟨by simp, rfl⟩
      · go_wp2_with fail
        go_ret
        rw [HS.out]
        exact ⟨by simp, rfl⟩
end Go.Proofs.Ytechocnednepiaa
