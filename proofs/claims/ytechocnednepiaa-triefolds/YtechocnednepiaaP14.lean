import Derived.Test.YtechocnednepiaaP13
import Derived.Test.YtechocnednepiaaC1
import Derived.Deep.AppendLies
/- Lists of prefixes that a closure makes longer. -/
namespace Go.Proofs.Ytechocnednepiaa
open Go.RowKit

theorem infoP : (Try.prog.info? 30).map (fun i => (i.zero, i.size, i.bytes)) = some (some (.agg #[.int .u32 0, .int .i64 0]), 2, 16) := by kernel_rfl
theorem info_P : ∃ i0 : TypeInfo, Try.prog.info? 30 = some i0 ∧ i0.zero = some (.agg #[.int .u32 0, .int .i64 0]) ∧ i0.size = 2 ∧ i0.bytes = 16 := by
  have h := infoP
  cases hi : Try.prog.info? 30 with
  | none => rw [hi] at h; cases h
  | some i0 =>
    rw [hi] at h
    simp only [Option.map_some, Option.some.injEq, Prod.mk.injEq] at h
    exact ⟨i0, rfl, h.1, h.2.1, h.2.2⟩
theorem append_pf {w : World} {ops : Array Oper} {rest : List Oper} {o : Oper} {a : Act} {Q : Exit → Act → World → Prop} (hgd : o.guard = none) (s x : Operand)
    (ho : o.op = .call { callee := .builtin .append, args := #[s, x], argTypes := #[51, 51] }) (B : Nat) (v : Value) (n : Nat) (xs : List Value) (hs : a.eval s = v) (hown : w.ownsRow B 30 2 v n xs)
    (q : Pf) (g0 c : Nat) (hx : a.eval x = .slice (some ⟨g0, 0, none⟩) 1 c) (hc : Two w g0 q) (hn : n ≤ 1000000) (hB : B ≤ w.heap.size) (H : Nat) (hH : w.heap.size = H)
    (h : ∀ g cap w', w'.ownsRow B 30 2 (.slice (some ⟨g, 0, none⟩) (n + 1) cap) (n + 1) (xs ++ Ad.enc q) → w.grownBy w' v.ownBlock → (v.ownBlock = some g ∨ g = H) → wpList Try.prog ops Q rest (a.put o.dst (.slice (some ⟨g, 0, none⟩) (n + 1) cap)) w') : wpList Try.prog ops Q (o :: rest) a w := by
  obtain ⟨i0, hi, hz0, hz1, hz2⟩ := info_P
  refine wpList_append_lies w hgd s x 51 ho B 30 i0 _ 2 16 Try.underlying51 hi hz0 hz1 hz2 rfl (by decide) v n xs hs hown ⟨g0, 0, none⟩ 1 c (Ad.enc q) hx rfl ?_ ?_ (by decide) (by unfold maxLen; omega) (by omega) hB H hH fun g cap w' h1 h2 h3 _ => h g cap w' h1 h2 h3
  · intro j u hj
    obtain ⟨c0, c1, _, _⟩ := hc.cells
    match j, hj with
    | 0, hj => simp [Ad.enc] at hj; subst hj; simpa [Addr.add] using c0
    | 1, hj => simp [Ad.enc] at hj; subst hj; simpa [Addr.add] using c1
    | j + 2, hj => simp [Ad.enc] at hj
  · intro u hu
    simp [Ad.enc] at hu
    rcases hu with rfl | rfl <;> rfl
/-- A variable that holds a row of prefixes of the call's own: its block F, the row's base B. -/
structure RowI (F B : Nat) (ps : List Pf) (S : Nat → Prop) (W : World) (v : Value) : Prop where
  var : W.heap[F]? = some (.cells #[v] 51 (0, 0))
  row : W.ownsRow B 30 2 v ps.length (Ad.cells ps)
  lt : B = F + 1
  set : ∀ k, S k ↔ k = F ∨ v.ownBlock = some k
theorem RowI.start (w : World) : RowI w.heap.size (w.heap.size + 1) [] (fun k => k = w.heap.size) (w.alloc (.cells #[.slice none 0 0] 51)) (.slice none 0 0) :=
  ⟨heap_alloc_new _ _, ⟨rfl, .inl ⟨rfl, rfl⟩⟩, rfl, fun k => by simp [Value.ownBlock]⟩
theorem RowI.le {F B : Nat} {ps : List Pf} {S : Nat → Prop} {W : World} {v : Value} (h : RowI F B ps S W v) : B ≤ W.heap.size := by have := lt_of_block h.var; have := h.lt; omega
theorem RowI.inS {F B : Nat} {ps : List Pf} {S : Nat → Prop} {W : World} {v : Value} (h : RowI F B ps S W v) : ∀ k, S k → k < W.heap.size := by
  intro k hk
  rcases (h.set k).1 hk with rfl | e
  · exact lt_of_block h.var
  · exact (h.row.lt k e).2
theorem row_same {w w' : World} {B e size n : Nat} {v : Value} {xs : List Value} (h : w.ownsRow B e size v n xs) (hb : ∀ g, v.ownBlock = some g → w'.heap[g]? = w.heap[g]?) : w'.ownsRow B e size v n xs := by
  obtain ⟨h1, h2⟩ := h
  refine ⟨h1, ?_⟩
  rcases h2 with h2 | ⟨g, cap, cur, rfl, hB, hg, r⟩
  · exact .inl h2
  · exact .inr ⟨g, cap, cur, rfl, hB, (hb g rfl).trans hg, r⟩
theorem RowI.keep {F B : Nat} {ps : List Pf} {S : Nat → Prop} {W W' : World} {v : Value} (h : RowI F B ps S W v) (hk : ∀ k, S k → W'.heap[k]? = W.heap[k]?) : RowI F B ps S W' v :=
  ⟨(hk F ((h.set F).2 (.inl rfl))).trans h.var, row_same h.row fun g hg => hk g ((h.set g).2 (.inr hg)), h.lt, h.set⟩
/-- One more. -/
theorem RowI.more {F B : Nat} {ps : List Pf} {S : Nat → Prop} {W W1 w' : World} {v : Value} {q : Pf} {g cap : Nat} (h : RowI F B ps S W v) (hb : Below W.heap.size W W1) (ho : w'.ownsRow B 30 2 (.slice (some ⟨g, 0, none⟩) (ps.length + 1) cap) (ps.length + 1) (Ad.cells ps ++ Ad.enc q)) (hg : W1.grownBy w' v.ownBlock) (hl : v.ownBlock = some g ∨ g = W1.heap.size) :
    ∃ S', RowI F B (ps ++ [q]) S' (w'.setCell ⟨F, 0, none⟩ (.slice (some ⟨g, 0, none⟩) (ps.length + 1) cap)) (.slice (some ⟨g, 0, none⟩) (ps.length + 1) cap) ∧ Keep S W (w'.setCell ⟨F, 0, none⟩ (.slice (some ⟨g, 0, none⟩) (ps.length + 1) cap)) ∧ ∀ k, S' k → S k ∨ W.heap.size ≤ k := by
  have hFl := lt_of_block h.var
  have hFv : some F ≠ v.ownBlock := fun e => by have := (h.row.lt F e.symm).1; have := h.lt; omega
  have hF1 : w'.heap[F]? = some (.cells #[v] 51 (0, 0)) := ((hg.block F (Nat.lt_of_lt_of_le hFl hb.size) hFv).trans (hb.block F hFl)).trans h.var
  have hgF : g ≠ F := by
    rcases hl with e | e
    · have := (h.row.lt g e).1; have := h.lt; omega
    · have := hb.size; omega
  refine ⟨fun k => k = F ∨ k = g, ⟨one_setCell hF1, ?_, h.lt, fun k => by simp [Value.ownBlock, eq_comm]⟩, ?_, fun k hk => ?_⟩
  · have e : Ad.cells (ps ++ [q]) = Ad.cells ps ++ Ad.enc q := by simp [Ad.cells]
    rw [e, List.length_append]
    exact ownsRow_setCell_other ho (a := ⟨F, 0, none⟩) (by simpa [Value.ownBlock] using hgF) _
  · refine Keep.setCell ⟨hg.os.trans hb.os, hg.tape.trans hb.tape, hg.output.trans hb.output, Nat.le_trans hb.size hg.size, fun k hk hlt => (hg.block k (Nat.lt_of_lt_of_le hlt hb.size) (fun e => hk ((h.set k).2 (.inr e.symm)))).trans (hb.block k hlt)⟩ (.inl ((h.set F).2 (.inl rfl))) _
  · rcases hk with rfl | rfl
    · exact .inl ((h.set _).2 (.inl rfl))
    · rcases hl with e | e
      · exact .inl ((h.set _).2 (.inr e))
      · exact .inr (by have := hb.size; omega)
theorem two_next (W : World) (o : Obj) (q : Pf) : Two ((W.alloc o).alloc (.cells #[.int .u32 q.1, .int .i64 q.2] 30)) (W.heap.size + 1) q := by
  have := two_new (W.alloc o) q
  rw [size_alloc] at this
  exact this
theorem RowI.varAt {F B : Nat} {ps : List Pf} {S : Nat → Prop} {W W1 w' : World} {v : Value} (h : RowI F B ps S W v) (hb : Below W.heap.size W W1) (hg : W1.grownBy w' v.ownBlock) : w'.heap[F]? = some (.cells #[v] 51 (0, 0)) :=
  ((hg.block F (Nat.lt_of_lt_of_le (lt_of_block h.var) hb.size) (fun e => by have := (h.row.lt F e.symm).1; have := h.lt; omega)).trans (hb.block F (lt_of_block h.var))).trans h.var
set_option maxHeartbeats 1000000 in
theorem below1_is {F B : Nat} {ps : List Pf} {S : Nat → Prop} {W : World} {v u : Value} (h : RowI F B ps S W v) (hn : ps.length ≤ 1000000) (q : Pf) :
    Calls Try.prog 55 #[pv q, u, .pointer (some ⟨F, 0, none⟩)] W fun e w' => e = .returned (.bool true) ∧ ∃ S' v', RowI F B (ps ++ [q]) S' w' v' ∧ Keep S W w' ∧ ∀ k, S' k → S k ∨ W.heap.size ≤ k := by
  have H := hide h
  have f0 := cell_of_one h.var
  have f1 := free_of_one h.var
  have hFl := lt_of_block h.var
  clear h
  obtain ⟨q0, q1⟩ := q
  unfold pv
  go_enter Try.func55, Try.ntmps55
  go_wp2_with (at_builtin; go_must (refine append_pf rfl _ _ rfl B v ps.length (Ad.cells ps) rfl ((H.out.row.alloc _).alloc _) (q0, q1) _ _ rfl ?hc hn ?hB _ rfl ?_))
  case hc => exact two_next W _ (q0, q1)
  case hB => have := H.out.le; simp; omega
  intro g cap w' ho hg hl
  have HM := hide (H.out.more (balloc (balloc (brefl W) (.cells #[.int .u32 q0, .int .i64 q1] 30)) (.cells #[.int .u32 q0, .int .i64 q1] 30)) ho hg (by rw [size_alloc, size_alloc]; exact hl))
  have hv := H.out.varAt (balloc (balloc (brefl W) (.cells #[.int .u32 q0, .int .i64 q1] 30)) (.cells #[.int .u32 q0, .int .i64 q1] 30)) hg
  have v0 := cell_of_one hv
  have v1 := free_of_one hv
  clear ho hg hl hv f0 f1
  go_wp2_with fail
  go_ret
  obtain ⟨S', h1, h2, h3⟩ := HM.out
  exact ⟨rfl, S', _, h1, h2, h3⟩
set_option maxHeartbeats 1000000 in
theorem above1_yes {F B : Nat} {ps : List Pf} {S : Nat → Prop} {W : World} {v u : Value} {b : Nat} {lo hi : Nt} (h : RowI F B ps S W v) (hn : ps.length ≤ 1000000) (q : Pf) (hb : (Nt.nd b lo hi u true).At 89 W) :
    Calls Try.prog 50 #[pv q, .pointer (some ⟨b, 0, none⟩), .pointer (some ⟨F, 0, none⟩)] W fun e w' => e = .returned (.tuple #[]) ∧ ∃ S' v', RowI F B (ps ++ [q]) S' w' v' ∧ Keep S W w' ∧ ∀ k, S' k → S k ∨ W.heap.size ≤ k := by
  have H := hide h
  have f0 := cell_of_one h.var
  have f1 := free_of_one h.var
  have hFl := lt_of_block h.var
  obtain ⟨n0, n1, n2, n3, nf⟩ := node_cells hb.1
  have hbl := lt_of_block hb.1
  clear h nf n0 n1 n2 hb
  obtain ⟨q0, q1⟩ := q
  unfold pv
  go_enter Try.func50, Try.ntmps50
  go_wp2_with (at_builtin; go_must (refine append_pf rfl _ _ rfl B v ps.length (Ad.cells ps) rfl ((H.out.row.alloc _).alloc _) (q0, q1) _ _ rfl ?hc hn ?hB _ rfl ?_))
  case hc => exact two_next W _ (q0, q1)
  case hB => have := H.out.le; simp; omega
  intro g cap w' ho hg hl
  have HM := hide (H.out.more (balloc (balloc (brefl W) (.cells #[.int .u32 q0, .int .i64 q1] 30)) (.cells #[.int .u32 q0, .int .i64 q1] 30)) ho hg (by rw [size_alloc, size_alloc]; exact hl))
  have hv := H.out.varAt (balloc (balloc (brefl W) (.cells #[.int .u32 q0, .int .i64 q1] 30)) (.cells #[.int .u32 q0, .int .i64 q1] 30)) hg
  have v0 := cell_of_one hv
  have v1 := free_of_one hv
  clear ho hg hl hv f0 f1
  go_wp2_with fail
  obtain ⟨S', h1, h2, h3⟩ := HM.out
  exact bodyPost_end (results_none Try.results50 _ _ _) rfl ⟨rfl, S', _, h1, h2, h3⟩
theorem above1_no {F : Nat} {W : World} {u : Value} {b : Nat} {lo hi : Nt} (q : Pf) (hb : (Nt.nd b lo hi u false).At 89 W) :
    Calls Try.prog 50 #[pv q, .pointer (some ⟨b, 0, none⟩), .pointer (some ⟨F, 0, none⟩)] W fun e w' => e = .returned (.tuple #[]) ∧ Below W.heap.size W w' := by
  obtain ⟨n0, n1, n2, n3, nf⟩ := node_cells hb.1
  have hbl := lt_of_block hb.1
  clear nf n0 n1 n2 hb
  obtain ⟨q0, q1⟩ := q
  unfold pv
  go_enter Try.func50, Try.ntmps50
  go_wp2_with fail
  exact bodyPost_end (results_none Try.results50 _ _ _) rfl ⟨rfl, balloc (brefl W) _⟩
end Go.Proofs.Ytechocnednepiaa
