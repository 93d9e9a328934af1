import Derived.Test.YtechocnednepiaaFb
import Derived.Test.YtechocnednepiaaX1
import Derived.Laws.Concat
/- A trie folded by putting texts together: lists of texts, the closure. -/
namespace Go.Proofs.Ytechocnednepiaa
open Go.RowKit

abbrev Tx := List UInt8
def ba (s : Tx) : ByteArray := ⟨s.toArray⟩
def tv (s : Tx) : Value := .string (ba s)
theorem ba_app (a b : Tx) : ba a ++ ba b = ba (a ++ b) := Ad.ba_app a b
theorem ba_size (a : Tx) : (ba a).size = a.length := by simp [ba, ByteArray.size]
theorem str_sum (a b : Tx) (h : a.length + b.length ≤ 4000000) : ∃ c, ba (a ++ b) = c ∧ ∀ w, (Op.stringOp .add (ba a) (ba b)).run Try.prog w = .ok (.string c) w :=
  ⟨_, rfl, fun w => by rw [run_string_add_sum w _ _ (by rw [ba_size, ba_size]; omega), ba_app]⟩
def Ts.cells (l : List Tx) : List Value := l.map tv
def Ts.slot (w : World) (ao : Option Addr) (l : List Tx) : Prop := l = [] ∨ ∃ b off, ao = some ⟨b, off, none⟩ ∧ ∀ j (h : j < l.length), w.cell? ⟨b, off + j, none⟩ = some (tv l[j])
theorem infoS : (Try.prog.info? 9).map (fun i => (i.zero, i.size, i.bytes)) = some (some (.string ⟨#[]⟩), 1, 16) := by kernel_rfl
theorem info_S : ∃ i0 : TypeInfo, Try.prog.info? 9 = some i0 ∧ i0.zero = some (.string ⟨#[]⟩) ∧ i0.size = 1 ∧ i0.bytes = 16 := by
  have h := infoS
  cases hi : Try.prog.info? 9 with
  | none => rw [hi] at h; cases h
  | some i0 =>
    rw [hi] at h
    simp only [Option.map_some, Option.some.injEq, Prod.mk.injEq] at h
    exact ⟨i0, rfl, h.1, h.2.1, h.2.2⟩
theorem append_text {w w0 : World} {ops : Array Oper} {rest : List Oper} {o : Oper} {a : Act} {Q : Exit → Act → World → Prop} (hgd : o.guard = none) (s x : Operand)
    (ho : o.op = .call { callee := .builtin .append, args := #[s, x], argTypes := #[40, 40] }) (v : Value) (n : Nat) (xs : List Tx) (hs : a.eval s = v) (hown : w.ownsRow w0.heap.size 9 1 v n (Ts.cells xs))
    (u : Tx) (g0 c : Nat) (hx : a.eval x = .slice (some ⟨g0, 0, none⟩) 1 c) (hc : w.cell? ⟨g0, 0, none⟩ = some (tv u)) (hn : n ≤ 1000) (hb : Below w0.heap.size w0 w)
    (h : ∀ v' w', w'.ownsRow w0.heap.size 9 1 v' (n + 1) (Ts.cells (xs ++ [u])) → Below w0.heap.size w0 w' → wpList Try.prog ops Q rest (a.put o.dst v') w') : wpList Try.prog ops Q (o :: rest) a w := by
  obtain ⟨i0, hi, hz0, hz1, hz2⟩ := info_S
  refine wpList_append_own w hgd s x 40 ho w0.heap.size 9 i0 _ 1 16 Try.underlying40 hi hz0 hz1 hz2 rfl (by decide) v n (Ts.cells xs) hs hown ⟨g0, 0, none⟩ 1 c [tv u] hx rfl ?_ (fun w hw => by simp at hw; subst hw; rfl) (by unfold maxLen; omega) (by omega) hb.size ?_
  · intro j q hj
    match j, hj with
    | 0, hj =>
      simp at hj
      subst hj
      simpa [Addr.add] using hc
  · intro v' w' ho' hg _
    refine h v' w' ?_ (Below.grown hb hg hb.size fun k hk => (hown.lt k hk).1)
    simpa [Ts.cells] using ho'
theorem ts_shape {w : World} {B n : Nat} {v : Value} {l : List Tx} (h : w.ownsRow B 9 1 v n (Ts.cells l)) (hn : l.length = n) : ∃ (ao : Option Addr) (cap : Nat), v = .slice ao l.length cap ∧ Ts.slot w ao l := by
  subst hn
  rcases h.2 with ⟨rfl, h0⟩ | ⟨g, cap, cur, rfl, r⟩
  · have : l = [] := List.length_eq_zero_iff.1 h0
    subst this
    exact ⟨none, 0, rfl, .inl rfl⟩
  · refine ⟨_, cap, rfl, .inr ⟨g, 0, rfl, fun j hj => ?_⟩⟩
    rw [Nat.zero_add, h.cellAt j (by omega)]
    simp [Ts.cells, hj]
/-- A text in round brackets. -/
def bk (s : Tx) : Tx := 40 :: (s ++ [41])
def jn (l : List Tx) : Tx := l.flatMap bk
theorem jn_succ (l : List Tx) (k : Nat) (h : k < l.length) : jn (l.take (k + 1)) = ((jn (l.take k) ++ [40]) ++ l[k]) ++ [41] := by
  unfold jn
  rw [List.take_succ_eq_append_getElem h, List.flatMap_append]
  simp [bk]
theorem jn_len (l : List Tx) (n : Nat) (h : ∀ x ∈ l, x.length ≤ n) : (jn l).length ≤ l.length * (n + 2) := by
  induction l with
  | nil => simp [jn]
  | cons x l ih =>
    have h1 := ih fun y hy => h y (by simp [hy])
    have h2 := h x (by simp)
    simp only [jn, List.flatMap_cons, List.length_append, List.length_cons, bk] at h1 ⊢
    rw [Nat.add_mul]
    simp only [List.length_nil]
    omega
set_option maxHeartbeats 1000000 in
set_option maxRecDepth 100000 in
theorem join_is (ao : Option Addr) (cap : Nat) (ks : List Tx) (v : Int) (is : Bool) (W : World) (hR : Ts.slot W ao ks) (hn : ks.length ≤ 2) (hb : ∀ x ∈ ks, x.length ≤ 100000) (hv : is = true → 0 ≤ v ∧ v ≤ 1000) :
    Calls Try.prog 16 #[.slice ao ks.length cap, .int .i64 v, .bool is] W fun e w' => e = .returned (tv (jn ks ++ if is then Lib.itoa v else [])) ∧ Below W.heap.size W w' := by
  have HB := hide hb
  have HR := hide hR
  have HV := hide hv
  clear hb hR hv
  go_enter Try.func16, Try.ntmps16
  go_wp2_with fail
  go_loopw [7, 8] (fun v7 v8 wr => ∃ k : Nat, k ≤ ks.length ∧ v8 = .int .i64 k ∧ v7 = tv (jn (ks.take k)) ∧ wr = W) (fun _ v8 _ => ks.length - (intOf v8).toNat)
  case atStart => exact ⟨0, Nat.zero_le _, rfl, rfl, rfl⟩
  case round =>
    obtain ⟨k, hk, rfl, rfl, rfl⟩ := hrel
    have hl : (jn (ks.take k)).length ≤ 300000 := by
      have h1 := jn_len (ks.take k) 100000 fun x hx => HB.out x (List.mem_of_mem_take hx)
      have h2 : (ks.take k).length ≤ 2 := by rw [List.length_take]; omega
      have := Nat.mul_le_mul_right 100002 h2
      omega
    by_cases hlt : k < ks.length
    · have hlt' : (k : Int) < (ks.length : Int) := by omega
      obtain ⟨b, off, rfl, r1⟩ : ∃ b off, ao = some ⟨b, off, none⟩ ∧ ∀ j (h : j < ks.length), wr.cell? ⟨b, off + j, none⟩ = some (tv ks[j]) := by
        rcases HR.out with h | h
        · rw [h] at hlt; simp at hlt
        · exact h
      have e0 := r1 k hlt
      have HT := hide (jn_succ ks k hlt)
      have h1 := HB.out ks[k] (List.getElem_mem hlt)
      clear r1
      generalize ks[k] = u at *
      generalize jn (ks.take k) = s at *
      obtain ⟨A1, hA1, s1⟩ := str_sum s [40] (by simp; omega)
      have s2 : ∃ c, ba (s ++ [40] ++ u) = c ∧ ∀ w, (Op.stringOp .add A1 (ba u)).run Try.prog w = .ok (.string c) w := by
        rw [← hA1]
        exact str_sum _ _ (by simp; omega)
      obtain ⟨A2, hA2, s2⟩ := s2
      have s3 : ∃ c, ba (s ++ [40] ++ u ++ [41]) = c ∧ ∀ w, (Op.stringOp .add A2 (ba [41])).run Try.prog w = .ok (.string c) w := by
        rw [← hA2]
        exact str_sum _ _ (by simp; omega)
      obtain ⟨A3, hA3, s3⟩ := s3
      have H3 := hide hA3
      clear hA1 hA2 hA3
      unfold tv at e0 ⊢
      change ∀ w, (Op.stringOp .add (ba s) ⟨#[40]⟩).run Try.prog w = _ at s1
      change ∀ w, (Op.stringOp .add A2 ⟨#[41]⟩).run Try.prog w = _ at s3
      generalize ba s = S at *
      generalize ba u = U at *
      clear h1 hl
      go_wp2_with fail
      exact ⟨⟨k + 1, by omega, by go_num, by rw [HT.out, H3.out], by simp⟩, by simp [intOf]; omega⟩
    · obtain rfl : k = ks.length := by omega
      rw [List.take_length] at hl ⊢
      obtain ⟨S, hS⟩ : ∃ S, tv (jn ks) = .string S := ⟨_, rfl⟩
      have hS' : S = ba (jn ks) := by unfold tv at hS; exact (Value.string.inj hS).symm
      rw [hS]
      cases is
      · have H1 := hide hS
        clear hS hS' hl
        go_wp2_with fail
        go_ret
        refine ⟨?_, brefl _⟩
        rw [← H1.out]
        simp
      · obtain ⟨v0, v1⟩ := HV.out rfl
        have CN := hide (refNumber_any v v0 (by omega) wr)
        have hil := Lib.itoa_length_le v (by omega) (by omega)
        obtain ⟨A1, hA1, s1⟩ := str_sum (jn ks) (Lib.itoa v) (by omega)
        rw [← hS'] at s1
        have H1 := hide hA1
        change Hid (Calls Try.prog 17 #[.int .i64 v] wr fun e w' => e = .returned (.string (ba (Lib.itoa v))) ∧ Below wr.heap.size wr w') at CN
        clear hil hA1 hl hS hS' v0 v1
        generalize ba (Lib.itoa v) = U at CN s1
        go_wp2_with fail
        refine CN.out.mono ?_
        rintro e w1 ⟨rfl, hb1⟩
        have B1 := hide hb1
        clear hb1
        go_wp2_with fail
        go_ret
        refine ⟨?_, B1.out⟩
        rw [← H1.out]
        simp [tv]
end Go.Proofs.Ytechocnednepiaa
