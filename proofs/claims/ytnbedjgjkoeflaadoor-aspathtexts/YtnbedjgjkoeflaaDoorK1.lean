/- The program's mayAS, First, Origin and put. -/
import Derived.Test.YtnbedjgjkoeflaaDoorJ1
import Derived.ArgAppend
namespace Go.Proofs.YtnbedjgjkoeflaaDoor
open Go.RowKit Go.Sort

theorem mayAS_is (n : Int) (r : Bool) (h : Is.as n = r) (w : World) : Calls Tryd.prog 38 #[.int .i64 n] w fun e w' => e = .returned (.bool r) ∧ w' = w := by
  cases r
  · rcases (Is.as_not n).1 h with h | h
    · have h0 : ¬ 1 ≤ n := by omega
      clear h
      go_enter Tryd.func38, Tryd.ntmps38
      go_wp2_with fail
      go_ret
      exact ⟨rfl, rfl⟩
    · have h0 : 1 ≤ n := by omega
      have h1 : ¬ n ≤ 65535 := by omega
      clear h
      go_enter Tryd.func38, Tryd.ntmps38
      go_wp2_with fail
      go_ret
      exact ⟨rfl, rfl⟩
  · obtain ⟨h0, h1⟩ := (Is.as_iff n).1 h
    have h0 : 1 ≤ n := by omega
    have h1 : n ≤ 65535 := by omega
    clear h
    go_enter Tryd.func38, Tryd.ntmps38
    go_wp2_with fail
    go_ret
    exact ⟨rfl, rfl⟩

theorem first_is (ao : Option Addr) (ca : Nat) (l : List Int) (r : Int) (hr : Is.first l = r) (W : World) (hA : Is.slot W ao l) : Calls Tryd.prog 22 #[.slice ao l.length ca] W fun e w' => e = .returned (.int .i64 r) ∧ w' = W := by
  have HA := hide hA
  cases l with
  | nil =>
    obtain rfl : 0 = r := hr
    clear hA
    go_enter Tryd.func22, Tryd.ntmps22
    go_wp2_with fail
    go_ret
    exact ⟨rfl, rfl⟩
  | cons x l =>
    obtain rfl : x = r := hr
    obtain ⟨b, off, rfl, hrd⟩ := Is.slot_at hA (k := 0) (by simp)
    have e0 := hrd 0 (by simp)
    simp only [List.getElem_cons_zero, Nat.add_zero] at e0
    have hn : ¬ ((x :: l).length : Int) = 0 := by rw [List.length_cons]; omega
    have hp : (0 : Int) < ((x :: l).length : Int) := by rw [List.length_cons]; omega
    clear hrd hA HA
    generalize (x :: l).length = n at *
    go_enter Tryd.func22, Tryd.ntmps22
    go_wp2_with fail
    go_ret
    exact ⟨rfl, rfl⟩

theorem origin_is (ao : Option Addr) (ca : Nat) (l : List Int) (r : Int) (hr : Is.origin l = r) (W : World) (hA : Is.slot W ao l) (hl : l.length ≤ 320) : Calls Tryd.prog 23 #[.slice ao l.length ca] W fun e w' => e = .returned (.int .i64 r) ∧ w' = W := by
  by_cases h0 : l = []
  · subst h0
    obtain rfl : 0 = r := hr
    clear hA
    go_enter Tryd.func23, Tryd.ntmps23
    go_wp2_with fail
    go_ret
    exact ⟨rfl, rfl⟩
  · obtain ⟨k, x, rfl⟩ : ∃ k x, l = k ++ [x] := ⟨l.dropLast, l.getLast h0, (List.dropLast_concat_getLast h0).symm⟩
    obtain rfl : x = r := by rw [← hr]; simp [Is.origin]
    obtain ⟨b, off, rfl, hrd⟩ := Is.slot_at hA (k := k.length) (by simp)
    have e0 := hrd k.length (by simp)
    have e1 : (k ++ [x])[k.length]'(by simp) = x := by simp
    rw [e1] at e0
    have hlen : (k ++ [x]).length = k.length + 1 := by simp
    rw [hlen] at hl ⊢
    clear hrd hA hr h0 e1 hlen
    generalize k.length = n at *
    have hn : ¬ ((n : Int) + 1) = 0 := by omega
    go_enter Tryd.func23, Tryd.ntmps23
    go_wp2_with fail
    go_ret
    exact ⟨rfl, rfl⟩

/-- A row of the call's own, or an empty slice without room. -/
def Start (w0 w : World) (o : Option Addr) (n c : Nat) (xs : List Int) : Prop :=
  w.ownsRow w0.heap.size 3 1 (.slice o n c) n (Is.cells xs) ∨ (n = 0 ∧ c = 0 ∧ xs = [] ∧ ∃ b off, o = some ⟨b, off, none⟩)
theorem append_start {w w0 : World} {ops : Array Oper} {rest : List Oper} {o : Oper} {a : Act} {Q : Exit → Act → World → Prop} (hgd : o.guard = none) (s x : Operand)
    (ho : o.op = .call { callee := .builtin .append, args := #[s, x], argTypes := #[22, 22] }) (vo : Option Addr) (n vc : Nat) (xs : List Int) (hs : a.eval s = .slice vo n vc) (hst : Start w0 w vo n vc xs)
    (b off nl cap : Nat) (l : List Int) (hx : a.eval x = .slice (some ⟨b, off, none⟩) nl cap) (hnl : l.length = nl) (hR : Is.slot w (some ⟨b, off, none⟩) l) (hn : n + nl ≤ 1000000) (hb : Below w0.heap.size w0 w)
    (h : ∀ no nc w', Start w0 w' no (n + nl) nc (xs ++ l) → Below w0.heap.size w0 w' → wpList Tryd.prog ops Q rest (a.put o.dst (.slice no (n + nl) nc)) w') : wpList Tryd.prog ops Q (o :: rest) a w := by
  rcases hst with hown | ⟨rfl, rfl, rfl, b', off', rfl⟩
  · refine append_ints hgd s x ho _ n xs hs hown _ nl cap l hx hnl hR (came_some _ _ _) hn hb fun v' w' h1 h2 => ?_
    obtain ⟨no, nc, rfl⟩ := row_slice h1
    exact h no nc w' (.inl h1) h2
  · subst hnl
    obtain ⟨i0, hi, hz0, hz1, hz2⟩ := info_partsI
    have hrd : ∀ j u, (Is.cells l)[j]? = some u → w.cell? ((⟨b, off, none⟩ : Addr).add j) = some u := by
      intro j u hu
      obtain ⟨hj, rfl⟩ := Is.cells_get l j u hu
      rcases hR with h | ⟨b', off', h, hr⟩
      · rw [h] at hj; simp at hj
      · simp only [Option.some.injEq, Addr.mk.injEq, and_true] at h
        rw [show (⟨b, off, none⟩ : Addr).add j = ⟨b, off + j, none⟩ by unfold Addr.add; split <;> simp_all, h.1, h.2]
        exact hr j hj
    by_cases hl : l = []
    · subst hl
      refine wpList_append_arg w hgd s x 22 ho 3 i0 _ 1 8 Tryd.underlying22 hi hz0 hz1 hz2 rfl (by decide) b' off' 0 0 [] hs rfl (by simp) ⟨b, off, none⟩ 0 cap [] hx rfl (by simp) (by simp) (by simp) (by decide) (by decide) ?_ (fun hh => absurd hh (by decide))
      intro _
      exact h _ 0 w (.inr ⟨rfl, rfl, rfl, b', off', rfl⟩) hb
    · have hpos : 0 < l.length := List.length_pos_iff.2 hl
      refine wpList_append_grows w hgd s x 22 ho 3 i0 _ 1 8 Tryd.underlying22 hi hz0 hz1 hz2 rfl (by decide) _ 0 0 [] hs (fun _ => ⟨rfl, rfl⟩) rfl (by simp) ⟨b, off, none⟩ l.length cap (Is.cells l) hx (by rw [Is.cells_length, Nat.mul_one]) hrd (Is.cells_one l) (by omega) (by unfold maxLen; omega) (by omega) ?_
      intro v' w' ho' hg
      obtain ⟨no, nc, rfl⟩ := row_slice ho'
      refine h no nc w' (.inl ?_) (Below.grown hb hg hb.size fun k hk => (by cases hk))
      refine ⟨ho'.1, ?_⟩
      rcases ho'.2 with h2 | ⟨g, cap', cur, hv, hge, r⟩
      · exact .inl h2
      · exact .inr ⟨g, cap', cur, hv, Nat.le_trans hb.size hge, r⟩

set_option maxHeartbeats 1000000 in
theorem put_is (vo : Option Addr) (n vc : Nat) (xs : List Int) (u : Int) (m : Nat) (w0 w : World) (hb : Below w0.heap.size w0 w) (hst : Start w0 w vo n vc xs) (hn : n + m ≤ 1000) :
    Calls Tryd.prog 45 #[.slice vo n vc, .int .i64 u, .int .i64 m] w fun e w' => ∃ no nc, e = .returned (.slice no (n + m) nc) ∧ Start w0 w' no (n + m) nc (xs ++ List.replicate m u) ∧ Below w0.heap.size w0 w' := by
  have HST := hide hst
  have HB := hide hb
  clear hst hb
  go_enter Tryd.func45, Tryd.ntmps45
  go_wp2_with fail
  go_loopw [0, 8] (fun v0 v8 wr => ∃ (k : Nat) (o : Option Addr) (c : Nat), v8 = .int .i64 k ∧ v0 = .slice o (n + k) c ∧ k ≤ m ∧ Start w0 wr o (n + k) c (xs ++ List.replicate k u) ∧ Below w0.heap.size w0 wr) (fun _ v8 _ => m - (intOf v8).toNat)
  case atStart => exact ⟨0, vo, vc, rfl, rfl, Nat.zero_le _, by simpa using HST.out, HB.out⟩
  case round =>
    obtain ⟨k, o, c, rfl, rfl, hk, hst, hbr⟩ := hrel
    have HS := hide hst
    have HBR := hide hbr
    clear hst hbr
    by_cases hkm : k < m
    · have hkm' : (k : Int) < (m : Int) := by omega
      have HS1 : Hid (Start w0 (wr.alloc (.cells #[.int .i64 u] 3)) o (n + k) c (xs ++ List.replicate k u)) := by
        rcases HS.out with h | h
        · exact .inl (h.alloc _)
        · exact .inr h
      go_wp2_with (at_builtin; go_must (refine append_start (w0 := w0) rfl _ _ rfl _ _ _ _ rfl HS1.out wr.heap.size 0 1 _ [u] rfl rfl (Is.slot_one _ _ _) (by omega) (balloc HBR.out _) ?_))
      intro no nc w2 hnew hb2
      have HNW : Hid (Start w0 w2 no (n + (k + 1)) nc (xs ++ List.replicate (k + 1) u)) := by
        rw [List.replicate_succ']
        exact hnew
      have B2 := hide hb2
      clear hnew hb2
      go_wp2_with fail
      exact ⟨⟨k + 1, no, nc, by go_num, rfl, by omega, HNW.out, B2.out⟩, by simp [intOf] <;> omega⟩
    · have hkm' : ¬ (k : Int) < (m : Int) := by omega
      obtain rfl : k = m := by omega
      go_wp2_with fail
      go_ret
      exact ⟨_, _, rfl, HS.out, HBR.out⟩

set_option maxHeartbeats 1000000 in
theorem put_own (vo : Option Addr) (n vc : Nat) (xs : List Int) (u : Int) (m : Nat) (w0 w : World) (hb : Below w0.heap.size w0 w) (hst : w.ownsRow w0.heap.size 3 1 (.slice vo n vc) n (Is.cells xs)) (hn : n + m ≤ 1000) :
    Calls Tryd.prog 45 #[.slice vo n vc, .int .i64 u, .int .i64 m] w fun e w' => ∃ no nc, e = .returned (.slice no (n + m) nc) ∧ w'.ownsRow w0.heap.size 3 1 (.slice no (n + m) nc) (n + m) (Is.cells (xs ++ List.replicate m u)) ∧ Below w0.heap.size w0 w' := by
  have HST := hide hst
  have HB := hide hb
  clear hst hb
  go_enter Tryd.func45, Tryd.ntmps45
  go_wp2_with fail
  go_loopw [0, 8] (fun v0 v8 wr => ∃ (k : Nat) (o : Option Addr) (c : Nat), v8 = .int .i64 k ∧ v0 = .slice o (n + k) c ∧ k ≤ m ∧ wr.ownsRow w0.heap.size 3 1 (.slice o (n + k) c) (n + k) (Is.cells (xs ++ List.replicate k u)) ∧ Below w0.heap.size w0 wr) (fun _ v8 _ => m - (intOf v8).toNat)
  case atStart => exact ⟨0, vo, vc, rfl, rfl, Nat.zero_le _, by simpa using HST.out, HB.out⟩
  case round =>
    obtain ⟨k, o, c, rfl, rfl, hk, hst, hbr⟩ := hrel
    have HS := hide hst
    have HBR := hide hbr
    clear hst hbr
    by_cases hkm : k < m
    · have hkm' : (k : Int) < (m : Int) := by omega
      go_wp2_with (at_builtin; go_must (refine append_ints (w0 := w0) rfl _ _ rfl _ _ _ rfl (HS.out.alloc _) (some ⟨wr.heap.size, 0, none⟩) 1 _ [u] rfl rfl (Is.slot_one _ _ _) (came_some _ _ _) (by omega) (balloc HBR.out _) ?_))
      intro v' w2 hnew hb2
      obtain ⟨no, nc, rfl⟩ := row_slice hnew
      have HNW : Hid (w2.ownsRow w0.heap.size 3 1 (.slice no (n + (k + 1)) nc) (n + (k + 1)) (Is.cells (xs ++ List.replicate (k + 1) u))) := by
        rw [List.replicate_succ']
        exact hnew
      have B2 := hide hb2
      clear hnew hb2
      go_wp2_with fail
      exact ⟨⟨k + 1, no, nc, by go_num, rfl, by omega, HNW.out, B2.out⟩, by simp [intOf] <;> omega⟩
    · have hkm' : ¬ (k : Int) < (m : Int) := by omega
      obtain rfl : k = m := by omega
      go_wp2_with fail
      go_ret
      exact ⟨_, _, rfl, HS.out, HBR.out⟩
end Go.Proofs.YtnbedjgjkoeflaaDoor
