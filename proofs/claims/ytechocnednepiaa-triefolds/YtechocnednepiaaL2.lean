import Derived.Test.YtechocnednepiaaL1
import Derived.Laws.AppendOwnNone
/- The document's Put and Drop. -/
namespace Go.Proofs.Ytechocnednepiaa
open Go.RowKit

theorem infoQ : (Try.prog.info? 50).map (fun i => (i.zero, i.size, i.bytes)) = some (some (.agg #[.int .u32 0, .int .i64 0, .int .i64 0]), 3, 24) := by kernel_rfl
theorem info_Q : ∃ i0 : TypeInfo, Try.prog.info? 50 = some i0 ∧ i0.zero = some (.agg #[.int .u32 0, .int .i64 0, .int .i64 0]) ∧ i0.size = 3 ∧ i0.bytes = 24 := by
  have h := infoQ
  cases hi : Try.prog.info? 50 with
  | none => rw [hi] at h; cases h
  | some i0 =>
    rw [hi] at h
    simp only [Option.map_some, Option.some.injEq, Prod.mk.injEq] at h
    exact ⟨i0, rfl, h.1, h.2.1, h.2.2⟩
theorem Pr.cells_app (l r : Prs) : Pr.cells (l ++ r) = Pr.cells l ++ Pr.cells r := by simp [Pr.cells]
theorem Pr.cells_one (l : Prs) : ∀ u ∈ Pr.cells l, u.oneCell' = true := by
  intro u hu
  simp only [Pr.cells, List.mem_flatMap] at hu
  obtain ⟨x, _, hx⟩ := hu
  simp only [Pr.enc, List.mem_cons, List.not_mem_nil, or_false] at hx
  rcases hx with rfl | rfl | rfl <;> rfl
/-- Pairs put behind a row of the call's own. -/
theorem append_prs {w w0 : World} {ops : Array Oper} {rest : List Oper} {o : Oper} {a : Act} {Q : Exit → Act → World → Prop} (hgd : o.guard = none) (s x : Operand)
    (ho : o.op = .call { callee := .builtin .append, args := #[s, x], argTypes := #[25, 25] }) (v : Value) (n : Nat) (xs : Prs) (hs : a.eval s = v) (hown : w.ownsRow w0.heap.size 50 3 v n (Pr.cells xs))
    (ao : Option Addr) (nl cap : Nat) (l : Prs) (hx : a.eval x = .slice ao nl cap) (hnl : l.length = nl) (hR : Pr.rowAt w ao l) (hC : came ao cap) (hn : n + nl ≤ 1000000) (hb : Below w0.heap.size w0 w)
    (h : ∀ v' w', w'.ownsRow w0.heap.size 50 3 v' (n + nl) (Pr.cells (xs ++ l)) → Below w0.heap.size w0 w' → wpList Try.prog ops Q rest (a.put o.dst v') w') : wpList Try.prog ops Q (o :: rest) a w := by
  subst hnl
  obtain ⟨i0, hi, hz0, hz1, hz2⟩ := info_Q
  cases ao with
  | none =>
    have hl : l = [] := by
      rcases hR with h | ⟨b, off, h, _⟩
      · exact h
      · cases h
    subst hl
    rw [hC.1 rfl] at hx
    refine wpList_append_own_none hgd s x 25 ho w0.heap.size 50 i0 3 Try.underlying25 hi v n (Pr.cells xs) hs hown hx ?_
    exact h v w (by simpa using hown) hb
  | some ad =>
    obtain ⟨b, off, sp⟩ := ad
    obtain rfl : sp = none := hC.2 _ rfl
    have hrd : ∀ j u, (Pr.cells l)[j]? = some u → w.cell? ((⟨b, off, none⟩ : Addr).add j) = some u := by
      intro j u hu
      rcases hR with h | ⟨b', off', h, hr⟩
      · rw [h] at hu; simp [Pr.cells] at hu
      · simp only [Option.some.injEq, Addr.mk.injEq, and_true] at h
        rw [show (⟨b, off, none⟩ : Addr).add j = ⟨b, off + j, none⟩ by unfold Addr.add; split <;> simp_all, h.1, h.2]
        exact hr j u hu
    refine wpList_append_own w hgd s x 25 ho w0.heap.size 50 i0 _ 3 24 Try.underlying25 hi hz0 hz1 hz2 rfl (by decide) v n (Pr.cells xs) hs hown ⟨b, off, none⟩ l.length cap (Pr.cells l) hx (by rw [Pr.cells_length]) hrd (Pr.cells_one l) (by unfold maxLen; omega) (by omega) hb.size ?_
    intro v' w' ho' hg _
    refine h v' w' ?_ (Below.grown hb hg hb.size fun k hk => (hown.lt k hk).1)
    rw [Pr.cells_app]
    exact ho'
def cutA (ao : Option Addr) (ca i : Nat) : Option Addr := if ca = i then ao else ao.map (·.add (i * 3))
theorem came_cut {ao : Option Addr} {ca : Nat} (h : came ao ca) (i : Nat) : came (cutA ao ca i) (ca - i) := by
  unfold cutA
  refine ⟨fun e => ?_, fun ad e => ?_⟩
  · by_cases hc : ca = i
    · omega
    · rw [if_neg hc, Option.map_eq_none_iff] at e
      have := h.1 e
      omega
  · by_cases hc : ca = i
    · rw [if_pos hc] at e
      exact h.2 ad e
    · rw [if_neg hc, Option.map_eq_some_iff] at e
      obtain ⟨a, ha, rfl⟩ := e
      have := h.2 a ha
      obtain ⟨b, off, sp⟩ := a
      simp only at this
      subst this
      simp only [Addr.add]
      split <;> rfl
theorem row_cut {W : World} {ao : Option Addr} {l : Prs} {ca : Nat} (hA : Pr.rowAt W ao l) (hc : l.length ≤ ca) (i : Nat) : Pr.rowAt W (cutA ao ca i) (l.drop i) := by
  unfold cutA
  by_cases hi : ca = i
  · left
    rw [List.drop_eq_nil_iff]
    omega
  · rw [if_neg hi]
    rcases hA with rfl | ⟨b, off, rfl, hr⟩
    · left; simp
    · refine .inr ⟨b, off + i * 3, ?_, fun j u hu => ?_⟩
      · simp [Addr.add]
      · have e : (Pr.cells l)[i * 3 + j]? = some u := by
          by_cases hl : i ≤ l.length
          · have h2 : Pr.cells l = Pr.cells (l.take i) ++ Pr.cells (l.drop i) := by rw [← Pr.cells_app, List.take_append_drop]
            rw [h2, List.getElem?_append_right (by rw [Pr.cells_length, List.length_take]; omega), Pr.cells_length, List.length_take]
            rw [← hu]
            congr 1
            omega
          · rw [List.drop_eq_nil_of_le (by omega)] at hu
            simp [Pr.cells] at hu
        rw [Nat.add_assoc]
        exact hr _ _ e
theorem row_take {W : World} {ao : Option Addr} {l : Prs} (hA : Pr.rowAt W ao l) (i : Nat) : Pr.rowAt W ao (l.take i) := by
  rcases hA with rfl | ⟨b, off, rfl, hr⟩
  · left; simp
  · refine .inr ⟨b, off, rfl, fun j u hu => hr j u ?_⟩
    have h2 : Pr.cells l = Pr.cells (l.take i) ++ Pr.cells (l.drop i) := by rw [← Pr.cells_app, List.take_append_drop]
    rw [h2, List.getElem?_append_left (List.getElem?_eq_some_iff.1 hu).1]
    exact hu
set_option maxRecDepth 100000 in
theorem run_head (ao : Option Addr) (n ca k : Nat) (hk : k ≤ n) (hca : n ≤ ca) (W : World) : (Instr.slice 25 (.slice ao n ca) none (some (.int .i64 k)) none).run Try.prog W = .ok (.slice ao k ca) W := by
  rw [run_slice_h W 25 ao n ca Try.underlying25 .i64 k (by omega) (by omega)]
  simp [sliced, go_sem]
set_option maxRecDepth 100000 in
theorem run_tail (ao : Option Addr) (n ca i : Nat) (hi : i ≤ n) (_hca : n ≤ ca) (W : World) : (Instr.slice 25 (.slice ao n ca) (some (.int .i64 i)) none none).run Try.prog W = .ok (.slice (cutA ao ca i) (n - i) (ca - i)) W := by
  rw [run_slice_l W 25 ao n ca Try.underlying25 .i64 i (by omega) (by omega)]
  have e : Try.t50.size = 3 := by kernel_rfl
  simp [cutA, sliced, sizeOf, go_sem, e]
theorem run_tail' (ao : Option Addr) (n ca i : Nat) (hi : i + 1 ≤ n) (hca : n ≤ ca) (W : World) : (Instr.slice 25 (.slice ao n ca) (some (.int .i64 ((i : Int) + 1))) none none).run Try.prog W = .ok (.slice (cutA ao ca (i + 1)) (n - (i + 1)) (ca - (i + 1))) W := by
  have h := run_tail ao n ca (i + 1) hi hca W
  rwa [show ((i + 1 : Nat) : Int) = (i : Int) + 1 by omega] at h
/-- A list that lies in memory. -/
structure Pr.Good (w : World) (ao : Option Addr) (cap : Nat) (l : Prs) : Prop where
  row : Pr.rowAt w ao l
  came : came ao cap
  le : l.length ≤ cap
theorem Pr.Good.below {w w' : World} {ao : Option Addr} {cap : Nat} {l : Prs} (h : Pr.Good w ao cap l) (hb : Below w.heap.size w w') : Pr.Good w' ao cap l := ⟨Pr.rowAt_below h.row hb, h.came, h.le⟩
/-- A new list that is handed back. -/
def Pr.New (w : World) (l : Prs) (v : Value) (w' : World) : Prop := ∃ (ao : Option Addr) (cap : Nat), v = .slice ao l.length cap ∧ Pr.Good w' ao cap l ∧ (∀ a, ao = some a → w.heap.size ≤ a.block ∧ a.block < w'.heap.size)
theorem pr_shape {w w' : World} {n : Nat} {v : Value} {l : Prs} (h : w'.ownsRow w.heap.size 50 3 v n (Pr.cells l)) (hn : l.length = n) : Pr.New w l v w' := by
  subst hn
  rcases h.2 with ⟨rfl, h0⟩ | ⟨g, cap, cur, rfl, hB, hg, h1, h2, h3⟩
  · have : l = [] := List.length_eq_zero_iff.1 h0
    subst this
    exact ⟨none, 0, rfl, ⟨.inl rfl, ⟨fun _ => rfl, fun ad e => by cases e⟩, by simp⟩, fun a e => by cases e⟩
  · refine ⟨_, cap, rfl, ⟨.inr ⟨g, 0, rfl, fun j u hu => ?_⟩, came_some _ _ _, ?_⟩, fun a e => ?_⟩
    · have hj : j < l.length * 3 := by have := (List.getElem?_eq_some_iff.1 hu).1; rwa [Pr.cells_length] at this
      rw [Nat.zero_add, h.cellAt j hj]
      exact hu
    · omega
    · simp only [Option.some.injEq] at e
      subst e
      exact ⟨hB, lt_of_block hg⟩
theorem row_three (W : World) (p0 p1 v : Int) : Pr.rowAt (W.alloc (.cells #[.int .u32 p0, .int .i64 p1, .int .i64 v] 50)) (some ⟨W.heap.size, 0, none⟩) [((p0, p1), v)] := by
  refine .inr ⟨_, 0, rfl, fun j u hu => ?_⟩
  match j, hu with
  | 0, hu => simp [Pr.cells, Pr.enc] at hu; subst hu; simp
  | 1, hu => simp [Pr.cells, Pr.enc] at hu; subst hu; simp
  | 2, hu => simp [Pr.cells, Pr.enc] at hu; subst hu; simp
  | j + 3, hu => simp [Pr.cells, Pr.enc] at hu
theorem pr_new {w w1 w' : World} {l : Prs} {v : Value} (hb : Below w.heap.size w w1) (h : Pr.New w1 l v w') : Pr.New w l v w' := by
  obtain ⟨ao, cap, h1, h2, h3⟩ := h
  exact ⟨ao, cap, h1, h2, fun a e => ⟨Nat.le_trans hb.size (h3 a e).1, (h3 a e).2⟩⟩
/-- What Put and Drop make of a list. -/
def putL (l : Prs) (p : Pf) (v : Int) : Prs := l.take (place l p).1 ++ [(p, v)] ++ l.drop (if (place l p).2 then (place l p).1 + 1 else (place l p).1)
def dropL (l : Prs) (p : Pf) : Prs := if (place l p).2 then l.take (place l p).1 ++ l.drop ((place l p).1 + 1) else l
theorem place_lt {l : Prs} {p : Pf} (h : (place l p).2 = true) : (place l p).1 < l.length := by
  induction l with
  | nil => simp [place] at h
  | cons x l ih =>
    simp only [place] at h ⊢
    by_cases h1 : x.1 = p
    · simp [h1]
    · simp only [h1, if_false] at h ⊢
      by_cases h2 : ahead p x.1 = true
      · simp [h2] at h
      · simp only [h2] at h ⊢
        have := ih (by simpa using h)
        simp; omega
set_option maxHeartbeats 4000000 in
set_option maxRecDepth 100000 in
theorem refPut_is {ao : Option Addr} {cap : Nat} {l : Prs} (p : Pf) (v : Int) {w : World} (hG : Pr.Good w ao cap l) (hn : l.length ≤ 100000) :
    Calls Try.prog 39 #[.slice ao l.length cap, pv p, .int .i64 v] w fun e w' => ∃ u, e = .returned (.tuple #[u, .bool (place l p).2]) ∧ Pr.New w (putL l p v) u w' ∧ Below w.heap.size w w' := by
  have HG := hide hG
  have hle := hG.le
  have hpl := place_le l p
  have CA := hide (refAt_is ao cap l p _ (hG.below (balloc (brefl w) (.cells #[.int .u32 p.1, .int .i64 p.2] 30))).row (by omega))
  have TB := hide (two_new w p)
  have HPL : Hid (putL l p v = l.take (place l p).1 ++ [(p, v)] ++ l.drop (if (place l p).2 then (place l p).1 + 1 else (place l p).1)) := rfl
  have hpt : (place l p).2 = true → (place l p).1 < l.length := place_lt
  generalize (place l p).1 = i at *
  generalize (place l p).2 = was at *
  clear hG
  obtain ⟨p0, p1⟩ := p
  have SL := run_head ao l.length cap i hpl hle
  have hil : (l.take i).length = i := by rw [List.length_take]; omega
  unfold pv at CA ⊢
  go_enter Try.func39, Try.ntmps39
  go_wp2_with fail
  refine CA.out.mono ?_
  rintro e w1 ⟨rfl, hb1⟩
  have B1 := hide (bthen (balloc (brefl w) _) hb1)
  have G1 := hide (HG.out.below B1.out)
  obtain ⟨d0, d1, _, _⟩ := (TB.out.below hb1).cells
  have HLT := hide hil
  clear hb1 CA hil
  go_wp2_with (at_builtin; go_must (refine append_prs (w0 := w1) rfl _ _ rfl (.slice none 0 0) 0 [] rfl ⟨rfl, .inl ⟨rfl, rfl⟩⟩ ao i cap (l.take i) rfl HLT.out (row_take G1.out.row i) G1.out.came (by omega) (brefl w1) ?_))
  intro v2 w2 ho2 hb2
  have HO2 := hide ho2
  have B2 := hide hb2
  have T2 := hide (TB.out)
  have d0' : w2.cell? ⟨w.heap.size, 0, none⟩ = some (.int .u32 p0) := (hb2.cell (block_lt_of_cell d0)).trans d0
  have d1' : w2.cell? ⟨w.heap.size, 1, none⟩ = some (.int .i64 p1) := (hb2.cell (block_lt_of_cell d1)).trans d1
  clear ho2 hb2 d0 d1
  go_wp2_with (at_builtin; go_must (refine append_prs (w0 := w1) rfl _ _ rfl v2 i (l.take i) rfl (HO2.out.alloc _) (some ⟨w2.heap.size, 0, none⟩) 1 1 [((p0, p1), v)] rfl rfl (row_three w2 p0 p1 v) (came_some _ _ _) (by omega) (balloc B2.out _) ?_))
  intro v3 w3 ho3 hb3
  have HO3 := hide ho3
  have B3 := hide hb3
  clear ho3 hb3 d0' d1'
  cases was
  · have SL2 := run_tail ao l.length cap i hpl hle
    have HLT2 : Hid ((l.drop i).length = l.length - i) := by show _ = _; simp
    go_wp2_with (at_builtin; go_must (refine append_prs (w0 := w1) rfl _ _ rfl v3 (i + 1) (l.take i ++ [((p0, p1), v)]) rfl HO3.out (cutA ao cap i) (l.length - i) (cap - i) (l.drop i) rfl HLT2.out (row_cut (Pr.rowAt_below G1.out.row B3.out) hle i) (came_cut G1.out.came i) (by omega) B3.out ?_))
    intro v4 w4 ho4 hb4
    have HO4 := hide ho4
    have B4 := hide hb4
    clear ho4 hb4
    go_wp2_with fail
    go_ret2
    refine ⟨v4, rfl, ?_, bthen B1.out B4.out⟩
    rw [HPL.out]
    refine pr_new B1.out (pr_shape (n := i + 1 + (l.length - i)) (by simpa using HO4.out) ?_)
    have := HLT.out
    simp only [List.length_append, List.length_cons, List.length_nil, this]
    simp
  · have hil2 := hpt rfl
    have SL2 := run_tail' ao l.length cap i hil2 hle
    have HLT2 : Hid ((l.drop (i + 1)).length = l.length - (i + 1)) := by show _ = _; simp
    go_wp2_with (at_builtin; go_must (refine append_prs (w0 := w1) rfl _ _ rfl v3 (i + 1) (l.take i ++ [((p0, p1), v)]) rfl HO3.out (cutA ao cap (i + 1)) (l.length - (i + 1)) (cap - (i + 1)) (l.drop (i + 1)) rfl HLT2.out (row_cut (Pr.rowAt_below G1.out.row B3.out) hle (i + 1)) (came_cut G1.out.came (i + 1)) (by omega) B3.out ?_))
    intro v4 w4 ho4 hb4
    have HO4 := hide ho4
    have B4 := hide hb4
    clear ho4 hb4
    go_wp2_with fail
    go_ret2
    refine ⟨v4, rfl, ?_, bthen B1.out B4.out⟩
    rw [HPL.out]
    refine pr_new B1.out (pr_shape (n := i + 1 + (l.length - (i + 1))) (by simpa using HO4.out) ?_)
    have := HLT.out
    simp only [List.length_append, List.length_cons, List.length_nil, this]
    simp
set_option maxHeartbeats 4000000 in
set_option maxRecDepth 100000 in
theorem refDrop_yes {ao : Option Addr} {cap : Nat} {l : Prs} (p : Pf) {w : World} (hG : Pr.Good w ao cap l) (hn : l.length ≤ 100000) (hw : (place l p).2 = true) :
    Calls Try.prog 40 #[.slice ao l.length cap, pv p] w fun e w' => ∃ u, e = .returned (.tuple #[u, .bool true]) ∧ Pr.New w (l.take (place l p).1 ++ l.drop ((place l p).1 + 1)) u w' ∧ Below w.heap.size w w' := by
  have HG := hide hG
  have hle := hG.le
  have hpl := place_le l p
  have CA := hide (refAt_is ao cap l p _ (hG.below (balloc (brefl w) (.cells #[.int .u32 p.1, .int .i64 p.2] 30))).row (by omega))
  rw [hw] at CA
  have hil2 := place_lt hw
  clear hw
  generalize (place l p).1 = i at *
  clear hG
  obtain ⟨p0, p1⟩ := p
  have SL := run_head ao l.length cap i hpl hle
  have SL2 := run_tail' ao l.length cap i hil2 hle
  have HLT : Hid ((l.take i).length = i) := by show _ = _; rw [List.length_take]; omega
  have HLT2 : Hid ((l.drop (i + 1)).length = l.length - (i + 1)) := by show _ = _; simp
  unfold pv at CA ⊢
  go_enter Try.func40, Try.ntmps40
  go_wp2_with fail
  refine CA.out.mono ?_
  rintro e w1 ⟨rfl, hb1⟩
  have B1 := hide (bthen (balloc (brefl w) _) hb1)
  have G1 := hide (HG.out.below B1.out)
  clear hb1 CA
  go_wp2_with (at_builtin; go_must (refine append_prs (w0 := w1) rfl _ _ rfl (.slice none 0 0) 0 [] rfl ⟨rfl, .inl ⟨rfl, rfl⟩⟩ ao i cap (l.take i) rfl HLT.out (row_take G1.out.row i) G1.out.came (by omega) (brefl w1) ?_))
  intro v2 w2 ho2 hb2
  have HO2 := hide ho2
  have B2 := hide hb2
  clear ho2 hb2
  go_wp2_with (at_builtin; go_must (refine append_prs (w0 := w1) rfl _ _ rfl v2 i (l.take i) rfl HO2.out (cutA ao cap (i + 1)) (l.length - (i + 1)) (cap - (i + 1)) (l.drop (i + 1)) rfl HLT2.out (row_cut (Pr.rowAt_below G1.out.row B2.out) hle (i + 1)) (came_cut G1.out.came (i + 1)) (by omega) B2.out ?_))
  intro v4 w4 ho4 hb4
  have HO4 := hide ho4
  have B4 := hide hb4
  clear ho4 hb4
  go_wp2_with fail
  go_ret2
  refine ⟨v4, rfl, pr_new B1.out (pr_shape (n := i + (l.length - (i + 1))) (by simpa using HO4.out) ?_), bthen B1.out B4.out⟩
  have := HLT.out
  simp only [List.length_append, this, HLT2.out]
theorem refDrop_no {ao : Option Addr} {cap : Nat} {l : Prs} (p : Pf) {w : World} (hG : Pr.Good w ao cap l) (hn : l.length ≤ 100000) (hw : (place l p).2 = false) :
    Calls Try.prog 40 #[.slice ao l.length cap, pv p] w fun e w' => e = .returned (.tuple #[.slice ao l.length cap, .bool false]) ∧ Below w.heap.size w w' := by
  have CA := hide (refAt_is ao cap l p _ (hG.below (balloc (brefl w) (.cells #[.int .u32 p.1, .int .i64 p.2] 30))).row (by omega))
  rw [hw] at CA
  clear hw hG
  generalize (place l p).1 = i at *
  obtain ⟨p0, p1⟩ := p
  unfold pv at CA ⊢
  go_enter Try.func40, Try.ntmps40
  go_wp2_with fail
  refine CA.out.mono ?_
  rintro e w1 ⟨rfl, hb1⟩
  have B1 := hide (bthen (balloc (brefl w) _) hb1)
  clear hb1 CA
  go_wp2_with fail
  go_ret2
  exact ⟨rfl, B1.out⟩
end Go.Proofs.Ytechocnednepiaa
