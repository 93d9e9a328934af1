/- The document's choice: rows of trees that grow. -/
import Derived.Test.YtpmmhmgojjlniaaGreatDoorQ07
import Derived.Test.YtpmmhmgojjlniaaGreatDoorQ11
import Derived.Test.YtpmmhmgojjlniaaGreatDoorQ23
namespace Go.Proofs.YtpmmhmgojjlniaaGreatDoor.Ar
open Go.RowKit Go.Sort
/-- A tree that lies in the blocks of S. -/
def OwnT (S : Nat → Prop) (w : World) (t : Tr) (cs : List Value) : Prop := (∀ k, S k → k < w.heap.size) ∧ ∀ w', (∀ k, S k → w'.heap[k]? = w.heap[k]?) → Tr.At w' t cs
theorem OwnT.at {S : Nat → Prop} {w : World} {t : Tr} {cs : List Value} (h : OwnT S w t cs) : Tr.At w t cs := h.2 w fun _ _ => rfl
theorem OwnT.keep {S : Nat → Prop} {w w' : World} {t : Tr} {cs : List Value} (h : OwnT S w t cs) (hs : w.heap.size ≤ w'.heap.size) (hk : ∀ k, S k → w'.heap[k]? = w.heap[k]?) : OwnT S w' t cs :=
  ⟨fun k hS => Nat.lt_of_lt_of_le (h.1 k hS) hs, fun w2 h2 => h.2 w2 fun k hS => (h2 k hS).trans (hk k hS)⟩
theorem OwnT.mono {S S' : Nat → Prop} {w : World} {t : Tr} {cs : List Value} (h : OwnT S w t cs) (hS : ∀ k, S k → S' k) (hb : ∀ k, S' k → k < w.heap.size) : OwnT S' w t cs :=
  ⟨hb, fun w2 h2 => h.2 w2 fun k hk => h2 k (hS k hk)⟩
theorem OwnT.of {B : Nat} {w : World} {t : Tr} {cs : List Value} (h : Tr.Own B w t cs) : OwnT (From B w) w t cs := ⟨fun _ hk => hk.2, fun w2 h2 => h w2 fun k h3 h4 => h2 k ⟨h3, h4⟩⟩
theorem OwnT.own {B : Nat} {w : World} {t : Tr} {cs : List Value} (h : OwnT (From B w) w t cs) : Tr.Own B w t cs := fun w2 h2 => h.2 w2 fun k hk => h2 k hk.1 hk.2
/-- Trees side by side in a row of the call's own. -/
def KidsT (B : Nat) (w : World) (us : List Tr) (v : Value) : Prop :=
  ∃ (css : List (List Value)) (S : Nat → Prop), css.length = us.length ∧ (∀ c ∈ css, c.length = 6) ∧ w.ownsRow B 200 6 v us.length css.flatten ∧ (∀ k, S k → B ≤ k ∧ k < w.heap.size ∧ v.ownBlock ≠ some k) ∧
  ∀ i (h : i < us.length) (h' : i < css.length), OwnT S w us[i] css[i]
theorem KidsT.nil (B : Nat) (w : World) : KidsT B w [] (.slice none 0 0) :=
  ⟨[], fun _ => False, rfl, by simp, ⟨rfl, .inl ⟨rfl, rfl⟩⟩, fun k hk => hk.elim, fun i h => by simp at h⟩
theorem KidsT.keep {B : Nat} {w w' : World} {us : List Tr} {v : Value} (h : KidsT B w us v) (hs : w.heap.size ≤ w'.heap.size) (hk : ∀ k, B ≤ k → k < w.heap.size → w'.heap[k]? = w.heap[k]?) : KidsT B w' us v := by
  obtain ⟨css, S, h1, h2, h3, h5, h6⟩ := h
  refine ⟨css, S, h1, h2, row_same h3 (fun g hg => hk g (h3.lt g hg).1 (h3.lt g hg).2), fun k hS => ?_, fun i hi hi' => (h6 i hi hi').keep hs fun k hS => hk k (h5 k hS).1 (h5 k hS).2.1⟩
  have := h5 k hS
  exact ⟨this.1, by omega, this.2.2⟩
theorem KidsT.below {B : Nat} {w w' : World} {us : List Tr} {v : Value} (h : KidsT B w us v) (hB : Below w.heap.size w w') : KidsT B w' us v := h.keep hB.size fun k _ hl => hB.block k hl
theorem KidsT.set {B N : Nat} {w : World} {us : List Tr} {v : Value} (h : KidsT B w us v) (hN : N < B) (o : Nat) (u : Value) : KidsT B (w.setCell ⟨N, o, none⟩ u) us v := h.keep (by rw [size_setCell]; omega) fun k hk _ => heap_setCell_ne _ _ _ _ _ (by omega)
theorem KidsT.row {B : Nat} {w : World} {us : List Tr} {v : Value} (h : KidsT B w us v) : ∃ xs, w.ownsRow B 200 6 v us.length xs ∧ (∀ k, v.ownBlock = some k → B ≤ k ∧ k < w.heap.size) ∧ ∃ o c, v = .slice o us.length c := by
  obtain ⟨css, S, h1, h2, h3, _⟩ := h
  exact ⟨_, h3, fun k hk => h3.lt k hk, row_slice h3⟩
theorem row_six6 {w w' : World} {B e n : Nat} {o : Option Addr} {cap : Nat} {xs : List Value} (h : w.ownsRow B e 6 (.slice o n cap) n xs) (hn : 0 < n) (hk : ∀ k, (Value.slice o n cap).ownBlock = some k → w'.heap[k]? = w.heap[k]?) : ∃ g, o = some ⟨g, 0, none⟩ ∧ B ≤ g ∧ g < w.heap.size ∧ ∀ j u, xs[j]? = some u → w'.cell? ⟨g, j, none⟩ = some u := by
  rcases h.2 with ⟨h1, h2⟩ | ⟨g, cap', cur, h1, h2, h3, h4, h5, h6, h7⟩
  · omega
  · simp only [Value.slice.injEq] at h1
    obtain ⟨rfl, -, -⟩ := h1
    refine ⟨g, rfl, h2, heap_lt h3, fun j u hj => ?_⟩
    have hg : w'.heap[g]? = some (.cells cur e (0, 0)) := (hk g rfl).trans h3
    rw [cell_of_row w' g j cur e _ hg]
    have hjl : j < xs.length := by
      rcases Nat.lt_or_ge j xs.length with h | h
      · exact h
      · rw [List.getElem?_eq_none h] at hj; cases hj
    have h8 : (cur.toList.take (n * 6))[j]? = xs[j]? := by rw [h7]
    rw [List.getElem?_take, if_pos (by have := h.1; omega), hj] at h8
    simpa using h8
theorem KidsT.more {B : Nat} {w w2 : World} {us : List Tr} {v : Value} {t : Tr} {y0 y1 y2 y3 y4 y5 : Value} {S2 : Nat → Prop} {g cap n : Nat} (hn : n = us.length) (h : KidsT B w us v) (ht : OwnT S2 w t [y0, y1, y2, y3, y4, y5]) (hS2 : ∀ k, S2 k → B ≤ k ∧ v.ownBlock ≠ some k) {xs : List Value} (hxs : w.ownsRow B 200 6 v us.length xs)
    (ho : w2.ownsRow B 200 6 (.slice (some ⟨g, 0, none⟩) (n + 1) cap) (n + 1) (xs ++ [y0, y1, y2, y3, y4, y5])) (hg : w.grownBy w2 v.ownBlock) (hl : v.ownBlock = some g ∨ g = w.heap.size) : KidsT B w2 (us ++ [t]) (.slice (some ⟨g, 0, none⟩) (n + 1) cap) := by
  subst hn
  obtain ⟨css, S, h1, h2, h3, h5, h6⟩ := h
  have hx : xs = css.flatten := by
    rcases hxs.2 with ⟨e1, e2⟩ | ⟨g1, c1, u1, e1, _, e2, _, _, _, e3⟩
    · have hl0 : us.length = 0 := e2
      have a1 := hxs.1
      have a2 := h3.1
      rw [hl0] at a1 a2
      have b1 : xs = [] := List.length_eq_zero_iff.1 (by omega)
      have b2 : css.flatten = [] := List.length_eq_zero_iff.1 (by omega)
      rw [b1, b2]
    · rcases h3.2 with ⟨f1, f2⟩ | ⟨g2, c2, u2, f1, _, f2, _, _, _, f3⟩
      · rw [f1] at e1; simp at e1
      · rw [f1] at e1
        simp only [Value.slice.injEq, Option.some.injEq, Addr.mk.injEq] at e1
        obtain ⟨⟨rfl, _⟩, _, _⟩ := e1
        rw [f2] at e2
        simp only [Option.some.injEq, Obj.cells.injEq] at e2
        rw [← e3, ← f3, e2.1]
  subst hx
  have hsz := hg.size
  have hkeep : ∀ k, k < w.heap.size → v.ownBlock ≠ some k → w2.heap[k]? = w.heap[k]? := fun k hk hne => hg.block k hk (fun e => hne e.symm)
  refine ⟨css ++ [[y0, y1, y2, y3, y4, y5]], fun k => S k ∨ S2 k, by simp [h1], ?_, by simpa using ho, ?_, ?_⟩
  · intro c hc
    rcases List.mem_append.1 hc with hc | hc
    · exact h2 c hc
    · simp at hc; subst hc; rfl
  · rintro k (hk | hk)
    · have := h5 k hk
      refine ⟨this.1, by omega, ?_⟩
      intro e
      simp only [Value.ownBlock, Option.some.injEq] at e
      subst e
      rcases hl with hl | hl
      · exact this.2.2 hl
      · omega
    · have h7 := hS2 k hk
      have h8 := ht.1 k hk
      refine ⟨h7.1, by omega, ?_⟩
      intro e
      simp only [Value.ownBlock, Option.some.injEq] at e
      subst e
      rcases hl with hl | hl
      · exact h7.2 hl
      · omega
  · have hb : ∀ k, (S k ∨ S2 k) → k < w2.heap.size := by
      rintro k (hk | hk)
      · have := (h5 k hk).2.1; omega
      · have := ht.1 k hk; omega
    intro i hi hi'
    by_cases hlt : i < us.length
    · rw [List.getElem_append_left hlt, List.getElem_append_left (by omega)]
      exact ((h6 i hlt (by omega)).keep hsz fun k hk => hkeep k (h5 k hk).2.1 (h5 k hk).2.2).mono (fun k hk => .inl hk) hb
    · have hie : i = us.length := by simp at hi; omega
      have e1 : (us ++ [t])[i] = t := by subst hie; simp
      have e2 : (css ++ [[y0, y1, y2, y3, y4, y5]])[i] = [y0, y1, y2, y3, y4, y5] := by
        rw [List.getElem_append_right (by omega)]
        simp
      rw [e1, e2]
      exact (ht.keep hsz fun k hk => hkeep k (ht.1 k hk) (hS2 k hk).2).mono (fun k hk => .inr hk) hb
/-- The node over trees side by side lies. -/
theorem KidsT.own {A B : Nat} {w w' : World} {us : List Tr} {o : Option Addr} {c : Nat} {kd : Int} (h : KidsT B w us (.slice o us.length c)) (hA : A ≤ B) (hl : us.length ≤ 10000) (hs : w.heap.size ≤ w'.heap.size) (hk : ∀ k, B ≤ k → k < w.heap.size → w'.heap[k]? = w.heap[k]?) :
    OwnT (From A w') w' (.mk kd false false [] [] us) [.int .i64 kd, .bool false, .bool false, .slice none 0 0, .slice none 0 0, .slice o us.length c] := by
  obtain ⟨css, S, h1, h2, h3, h5, h6⟩ := h
  refine ⟨fun k hk => hk.2, fun w2 hw2 => ?_⟩
  have hall : ∀ k, B ≤ k → k < w.heap.size → w2.heap[k]? = w.heap[k]? := fun k a1 a3 => (hw2 k ⟨by omega, by omega⟩).trans (hk k a1 a3)
  have ha : ∀ i (hi : i < us.length), Tr.At w2 us[i] (css.getD i []) := by
    intro i hi
    have hi' : i < css.length := by omega
    have := (h6 i hi hi').2 w2 fun k hS => hall k (h5 k hS).1 (h5 k hS).2.1
    simpa [List.getD, hi'] using this
  by_cases h0 : us = []
  · subst h0
    exact Tr.At.mk (w := w2) (k := kd) (d := false) (s := false) (f := []) (t := []) (ks := []) (fo := none) (fc := 0) (to := none) (tc := 0) (ko := o) (kc := c) 0 0 (fun i => css.getD i []) ⟨by simp, by simp, by simp⟩ (.inl rfl) (.inl rfl) (.inl rfl) (fun i hi => by simp at hi) (fun i hi => by simp at hi)
  · obtain ⟨g, hg, hB, hlt, hrd⟩ := row_six6 (w' := w2) h3 (List.length_pos_iff.2 h0) (fun k hk1 => hall k (h3.lt k hk1).1 (h3.lt k hk1).2)
    refine Tr.At.mk (w := w2) (k := kd) (d := false) (s := false) (f := []) (t := []) (ks := us) (fo := none) (fc := 0) (to := none) (tc := 0) (ko := o) (kc := c) g 0 (fun i => css.getD i []) ⟨by simp, by simp, by omega⟩ (.inl rfl) (.inl rfl) (.inr hg) (fun i hi j hj => ?_) ha
    have hi' : i < css.length := by omega
    have e : css.getD i [] = css[i] := by simp [List.getD, hi']
    have h6l := h2 css[i] (List.getElem_mem hi')
    have hj3 : j < 6 := by
      have := hj
      simp only [e] at this
      omega
    rw [Nat.zero_add]
    refine hrd _ _ ?_
    have : ∀ (l : List (List Value)), (∀ c ∈ l, c.length = 6) → ∀ (i : Nat) (h : i < l.length) (j : Nat), j < 6 → l.flatten[i * 6 + j]? = (l[i])[j]? := by
      intro l
      induction l with
      | nil => intro _ i h; simp at h
      | cons x l ih =>
        intro hx i h j hj
        have hx6 := hx x (by simp)
        cases i with
        | zero => rw [List.flatten_cons, Nat.zero_mul, Nat.zero_add, List.getElem?_append_left (by omega)]; rfl
        | succ i =>
          rw [List.flatten_cons, List.getElem?_append_right (by omega), hx6, show (i + 1) * 6 + j - 6 = i * 6 + j by omega, ih (fun c hc => hx c (by simp [hc])) i (by simpa using h) j hj]
          rfl
    rw [this css h2 i hi' j hj3]
    have hj4 : j < css[i].length := by omega
    rw [List.getElem?_eq_getElem hj4]
    simp only [e]
end Go.Proofs.YtpmmhmgojjlniaaGreatDoor.Ar
namespace Go.Proofs.YtpmmhmgojjlniaaGreatDoor.Ar
open Go.RowKit Go.Sort
theorem Nd.trRow_app (a : List Nd) (n : Nd) : Nd.trRow (a ++ [n]) = Nd.trRow a ++ [Nd.tr n] := by
  induction a with
  | nil => rfl
  | cons x r ih => simp only [List.cons_append, Nd.trRow, ih]
theorem Nd.trRows_app (a : List (List Nd)) (l : List Nd) : Nd.trRows (a ++ [l]) = Nd.trRows a ++ [.mk 1 false false [] [] (Nd.trRow l)] := by
  induction a with
  | nil => rfl
  | cons x r ih => simp only [List.cons_append, Nd.trRows, ih]
theorem Nd.trRow_length (a : List Nd) : (Nd.trRow a).length = a.length := by
  induction a with
  | nil => rfl
  | cons x r ih => simp only [List.length_cons, Nd.trRow, ih]
theorem Nd.trRows_length (a : List (List Nd)) : (Nd.trRows a).length = a.length := by
  induction a with
  | nil => rfl
  | cons x r ih => simp only [List.length_cons, Nd.trRows, ih]
theorem info_30 : ∃ (i : TypeInfo) (z : Value), Tryz.prog.info? 200 = some i ∧ i.zero = some z ∧ i.size = 6 ∧ i.bytes = 88 ∧ z.cells.size = 6 := by
  have h : (Tryz.prog.info? 200).map (fun i => (i.zero, i.size, i.bytes)) = some (some (.agg #[.int .i64 0, .bool false, .bool false, .slice none 0 0, .slice none 0 0, .slice none 0 0]), 6, 88) := by kernel_rfl
  cases hi : Tryz.prog.info? 200 with
  | none => rw [hi] at h; cases h
  | some i0 =>
    rw [hi] at h
    simp only [Option.map_some, Option.some.injEq, Prod.mk.injEq] at h
    exact ⟨i0, _, rfl, h.1, h.2.1, h.2.2, rfl⟩
theorem box_news {w : World} {g : Nat} {y0 y1 y2 y3 y4 y5 : Value} (h : Box w g y0 y1 y2 y3 y4 y5) : ∀ j u, [y0, y1, y2, y3, y4, y5][j]? = some u → w.cell? ((⟨g, 0, none⟩ : Addr).add j) = some u := by
  intro j u hj
  have := box_range h j u hj
  rw [Nat.zero_add] at this
  have e : (⟨g, 0, none⟩ : Addr).add j = ⟨g, j, none⟩ := by unfold Addr.add; split <;> simp_all
  rw [e]
  exact this
theorem one6_news {y0 y1 y2 y3 y4 y5 : Value} (h : One6 y0 y1 y2 y3 y4 y5) : ∀ u ∈ [y0, y1, y2, y3, y4, y5], u.oneCell' = true := by
  obtain ⟨h0, h1, h2, h3, h4, h5⟩ := h
  intro u hu
  simp only [List.mem_cons, List.not_mem_nil, or_false] at hu
  rcases hu with rfl | rfl | rfl | rfl | rfl | rfl <;> assumption
/-- A node more, in a region whose order is drawn. -/
theorem step_node6 {w : World} {ops : Array Oper} {o : Oper} {a : Act} {K : Act → World → Prop} {Q : Exit → Act → World → Prop} {E : Prop} (hgd : o.guard = none) (s x : Operand)
    (ho : o.op = .call { callee := .builtin .append, args := #[s, x], argTypes := #[198, 198] }) (B : Nat) (v : Value) (n : Nat) (xs : List Value) (hs : a.eval s = v) (hown : w.ownsRow B 200 6 v n xs)
    (g0 c : Nat) (hx : a.eval x = .slice (some ⟨g0, 0, none⟩) 1 c) (y0 y1 y2 y3 y4 y5 : Value) (hb : Box w g0 y0 y1 y2 y3 y4 y5) (h1 : One6 y0 y1 y2 y3 y4 y5) (hn : n ≤ 10000) (hB : B ≤ w.heap.size) (H : Nat) (hH : w.heap.size = H)
    (h : ∀ g cap w', w'.ownsRow B 200 6 (.slice (some ⟨g, 0, none⟩) (n + 1) cap) (n + 1) (xs ++ [y0, y1, y2, y3, y4, y5]) → w.grownBy w' v.ownBlock → (v.ownBlock = some g ∨ g = H) → K (a.put o.dst (.slice (some ⟨g, 0, none⟩) (n + 1) cap)) w') :
    if Region.wanted o (yielded ops a.tmps) = true then Oper.wp Tryz.prog o a w K Q else E := by
  obtain ⟨i, z, hi, hz, hsz, hby, hzs⟩ := info_30
  exact step_append_lies w hgd s x 198 ho B 200 i z 6 88 Tryz.underlying198 hi hz hsz hby hzs (by decide) v n xs hs hown ⟨g0, 0, none⟩ 1 c [y0, y1, y2, y3, y4, y5] hx rfl (box_news hb) (one6_news h1) (by decide) (by unfold maxLen; omega) (by omega) hB H hH fun g cap w' h1 h2 h3 _ => h g cap w' h1 h2 h3
theorem append_lies6 {w : World} {ops : Array Oper} {rest : List Oper} {o : Oper} {a : Act} {Q : Exit → Act → World → Prop} (hgd : o.guard = none) (s x : Operand)
    (ho : o.op = .call { callee := .builtin .append, args := #[s, x], argTypes := #[198, 198] }) (B : Nat) (v : Value) (n : Nat) (xs : List Value) (hs : a.eval s = v) (hown : w.ownsRow B 200 6 v n xs)
    (g0 c : Nat) (hx : a.eval x = .slice (some ⟨g0, 0, none⟩) 1 c) (y0 y1 y2 y3 y4 y5 : Value) (hb : Box w g0 y0 y1 y2 y3 y4 y5) (h1 : One6 y0 y1 y2 y3 y4 y5) (hn : n ≤ 10000) (hB : B ≤ w.heap.size) (H : Nat) (hH : w.heap.size = H)
    (h : ∀ g cap w', w'.ownsRow B 200 6 (.slice (some ⟨g, 0, none⟩) (n + 1) cap) (n + 1) (xs ++ [y0, y1, y2, y3, y4, y5]) → w.grownBy w' v.ownBlock → (v.ownBlock = some g ∨ g = H) → wpList Tryz.prog ops Q rest (a.put o.dst (.slice (some ⟨g, 0, none⟩) (n + 1) cap)) w') : wpList Tryz.prog ops Q (o :: rest) a w := by
  obtain ⟨i, z, hi, hz, hsz, hby, hzs⟩ := info_30
  exact wpList_append_lies w hgd s x 198 ho B 200 i z 6 88 Tryz.underlying198 hi hz hsz hby hzs (by decide) v n xs hs hown ⟨g0, 0, none⟩ 1 c [y0, y1, y2, y3, y4, y5] hx rfl (box_news hb) (one6_news h1) (by decide) (by unfold maxLen; omega) (by omega) hB H hH fun g cap w' h1 h2 h3 _ => h g cap w' h1 h2 h3
/-- A tree with a sign behind it lies. -/
theorem sign_ownT {S : Nat → Prop} {w w' : World} {n : Nd} {k : Nat} {x0 x1 x2 x3 x4 x5 : Value} {g : Nat} {t : TypeId} (h : OwnT S w (Nd.tr n) [x0, x1, x2, x3, x4, x5]) (hs : w.heap.size ≤ w'.heap.size) (hk : ∀ j, S j → w'.heap[j]? = w.heap[j]?) (hg : w'.heap[g]? = some (.cells #[x0, x1, x2, x3, x4, x5] t)) :
    OwnT (fun j => S j ∨ j = g) w' (Nd.tr (.st k n)) [.int .i64 (k : Int), .bool false, .bool false, .slice none 0 0, .slice none 0 0, .slice (some ⟨g, 0, none⟩) 1 1] := by
  have h' := h.keep hs hk
  refine ⟨fun j hj => ?_, fun w2 h2 => ?_⟩
  · rcases hj with hj | rfl
    · exact h'.1 j hj
    · exact heap_lt hg
  · have ha := h'.2 w2 fun j hj => h2 j (.inl hj)
    have hh := (h2 g (.inr rfl)).trans hg
    rw [Nd.tr]
    refine Tr.At.mk (w := w2) (k := (k : Int)) (d := false) (s := false) (f := []) (t := []) (ks := [Nd.tr n]) (fo := none) (fc := 0) (to := none) (tc := 0) (ko := some ⟨g, 0, none⟩) (kc := 1) g 0 (fun _ => [x0, x1, x2, x3, x4, x5]) ⟨by simp, by simp, by simp⟩ (.inl rfl) (.inl rfl) (.inr rfl) (fun i hi j hj => ?_) (fun i hi => ?_)
    · have hi0 : i = 0 := by simp at hi; exact hi
      subst hi0
      rw [cell_of_row w2 g _ _ t _ hh]
      have hj6 : j < 6 := hj
      match j, hj6 with
      | 0, _ => rfl
      | 1, _ => rfl
      | 2, _ => rfl
      | 3, _ => rfl
      | 4, _ => rfl
      | 5, _ => rfl
    · have hi0 : i = 0 := by simp at hi; exact hi
      subst hi0
      exact ha
abbrev cNode : Obj := .cells #[.int .i64 2, .bool false, .bool false, .slice none 0 0, .slice none 0 0, .slice none 0 0] 200
abbrev rNode : Obj := .cells #[.int .i64 1, .bool false, .bool false, .slice none 0 0, .slice none 0 0, .slice none 0 0] 200
set_option maxHeartbeats 400000 in
set_option maxRecDepth 100000 in
theorem refChoice_two (s : ByteArray) (D n : Nat) (hD : 8 < D) (hD2 : D ≤ 100) (R : Except Int (Nd × Bs)) (hR : R = .error 2) (W : World) : Calls Tryz.prog 208 #[.string s, .int .i64 n, .int .i64 D] W (NodeGood s W R) := by
  have HR := hide hR
  clear hR
  have hD3 : (8 : Int) < (D : Int) := by omega
  have HC := hide (box_below (zbox W) (balloc (brefl _) cNode))
  have HF := hide (free_of (zfree W) (w' := (W.alloc zNode).alloc cNode) (by simp only [size_alloc]; omega) (heap_alloc_lt _ _ _ (by rw [size_alloc]; exact Nat.lt_succ_self _)))
  have B0 := hide (balloc (balloc (brefl W) zNode) cNode)
  obtain ⟨c0, c1, c2, c3, c4, c5⟩ := HC.out
  have d := box_new (W.alloc zNode) (.int .i64 2) (.bool false) (.bool false) (.slice none 0 0) (.slice none 0 0) (.slice none 0 0) 200
  rw [size_alloc] at d
  obtain ⟨d0, d1, d2, d3, d4, d5⟩ := d
  have f0 := HF.out.2 0
  have f1 := HF.out.2 1
  have f2 := HF.out.2 2
  have f3 := HF.out.2 3
  have f4 := HF.out.2 4
  have f5 := HF.out.2 5
  go_enter Tryz.func208, Tryz.ntmps208
  go_wp2_with fail
  change bodyPost Tryz.prog Tryz.f208 (NodeGood s W R) Exit.ret _ ((W.alloc cNode).alloc cNode)
  refine bodyPost_ret (v := .tuple #[.agg #[.int .i64 2, .bool false, .bool false, .slice none 0 0, .slice none 0 0, .slice none 0 0], .int .i64 (n : Int), .int .i64 2]) ?_ rfl (nodeGood_err (q := 2) HR.out (balloc (balloc (brefl W) cNode) cNode) ⟨rfl, rfl, rfl, rfl, rfl, rfl⟩)
  exact res_node Tryz.results208 _ _ W.heap.size rfl rfl rfl (box_below (box_new W _ _ _ _ _ _ 200) (balloc (brefl _) cNode))
theorem refChoice_deep (s : ByteArray) (D : Nat) (hD : 8 < D) (hD2 : D ≤ 100) : ChoiceOk s 0 D := fun n _ _ W => refChoice_two s D n hD hD2 _ rfl W
end Go.Proofs.YtpmmhmgojjlniaaGreatDoor.Ar
namespace Go.Proofs.YtpmmhmgojjlniaaGreatDoor.Ar
open Go.RowKit Go.Sort
/-- The choice on its way: its block is W's next but one. -/
structure Out6 (W : World) (vC : Value) (wr : World) : Prop where
  free0 : Free wr W.heap.size
  box0 : Box wr W.heap.size (.int .i64 0) (.bool false) (.bool false) (.slice none 0 0) (.slice none 0 0) (.slice none 0 0)
  free1 : Free wr (W.heap.size + 1)
  box1 : Box wr (W.heap.size + 1) (.int .i64 2) (.bool false) (.bool false) (.slice none 0 0) (.slice none 0 0) vC
  bel : Below W.heap.size W wr
  sz : W.heap.size + 2 ≤ wr.heap.size
theorem Out6.step {W : World} {vC : Value} {wr w' : World} (h : Out6 W vC wr) (hb : Below wr.heap.size wr w') : Out6 W vC w' :=
  ⟨free_of h.free0 hb.size (hb.block _ h.free0.1), box_below h.box0 hb, free_of h.free1 hb.size (hb.block _ h.free1.1), box_below h.box1 hb, bthen h.bel hb, Nat.le_trans h.sz hb.size⟩
theorem Out6.keep {W : World} {vC : Value} {wr w' : World} (h : Out6 W vC wr) (hs : wr.heap.size ≤ w'.heap.size) (hk : ∀ k, k < W.heap.size + 2 → w'.heap[k]? = wr.heap[k]?) (hb : Below W.heap.size W w') : Out6 W vC w' :=
  ⟨free_of h.free0 hs (hk _ (by omega)), box_of h.box0 (hk _ (by omega)), free_of h.free1 hs (hk _ (by omega)), box_of h.box1 (hk _ (by omega)), hb, Nat.le_trans h.sz hs⟩
theorem grown_below {W w w' : World} {row : Option Nat} {B : Nat} (h : Below B W w) (hB : B ≤ w.heap.size) (hg : w.grownBy w' row) (hr : ∀ k, row = some k → B ≤ k) : Below B W w' :=
  ⟨hg.os.trans h.os, hg.tape.trans h.tape, hg.output.trans h.output, Nat.le_trans h.size hg.size, fun k hk => (hg.block k (by omega) (fun e => by have := hr k e.symm; omega)).trans (h.block k hk)⟩
theorem Out6.grown {W : World} {vC : Value} {wr w' : World} {row : Option Nat} (h : Out6 W vC wr) (hg : wr.grownBy w' row) (hr : ∀ k, row = some k → W.heap.size + 2 ≤ k) : Out6 W vC w' :=
  h.keep hg.size (fun k hk => hg.block k (by have := h.sz; omega) (fun e => by have := hr k e.symm; omega)) (grown_below h.bel (by have := h.sz; omega) hg (fun k hk => by have := hr k hk; omega))
theorem Out6.set {W : World} {vC : Value} {wr : World} (h : Out6 W vC wr) (v : Value) : Out6 W v (wr.setCell ⟨W.heap.size + 1, 5, none⟩ v) := by
  obtain ⟨c0, c1, c2, c3, c4, c5⟩ := h.box1
  refine ⟨free_set h.free0 _ _, box_of h.box0 (heap_setCell_ne _ _ _ _ _ (by omega)), free_set h.free1 _ _, ⟨?_, ?_, ?_, ?_, ?_, ?_⟩, h.bel.setCell (by simp only; omega) _, by rw [size_setCell]; exact h.sz⟩ <;> simp [go_sem, c0, c1, c2, c3, c4, c5]
/-- A row on its way: its block is w0's next one. -/
structure In6 (w0 : World) (vR : Value) (wr : World) : Prop where
  free : Free wr w0.heap.size
  box : Box wr w0.heap.size (.int .i64 1) (.bool false) (.bool false) (.slice none 0 0) (.slice none 0 0) vR
  bel : Below w0.heap.size w0 wr
  sz : w0.heap.size + 1 ≤ wr.heap.size
theorem In6.step {w0 : World} {vR : Value} {wr w' : World} (h : In6 w0 vR wr) (hb : Below wr.heap.size wr w') : In6 w0 vR w' :=
  ⟨free_of h.free hb.size (hb.block _ h.free.1), box_below h.box hb, bthen h.bel hb, Nat.le_trans h.sz hb.size⟩
theorem In6.grown {w0 : World} {vR : Value} {wr w' : World} {row : Option Nat} (h : In6 w0 vR wr) (hg : wr.grownBy w' row) (hr : ∀ k, row = some k → w0.heap.size + 1 ≤ k) : In6 w0 vR w' := by
  have h0 : w'.heap[w0.heap.size]? = wr.heap[w0.heap.size]? := hg.block _ h.free.1 (fun e => by have := hr _ e.symm; omega)
  exact ⟨free_of h.free hg.size h0, box_of h.box h0, grown_below h.bel (by have := h.sz; omega) hg (fun k hk => by have := hr k hk; omega), Nat.le_trans h.sz hg.size⟩
theorem In6.set {w0 : World} {vR : Value} {wr : World} (h : In6 w0 vR wr) (v : Value) : In6 w0 v (wr.setCell ⟨w0.heap.size, 5, none⟩ v) := by
  obtain ⟨c0, c1, c2, c3, c4, c5⟩ := h.box
  refine ⟨free_set h.free _ _, ⟨?_, ?_, ?_, ?_, ?_, ?_⟩, h.bel.setCell (by simp only; omega) _, by rw [size_setCell]; exact h.sz⟩ <;> simp [go_sem, c0, c1, c2, c3, c4, c5]
theorem in6_start (w0 : World) : In6 w0 (.slice none 0 0) (w0.alloc rNode) :=
  ⟨⟨by rw [size_alloc]; exact Nat.lt_succ_self _, fun o => by simp [go_sem]⟩, box_new w0 _ _ _ _ _ _ 200, balloc (brefl _) _, by rw [size_alloc]; exact Nat.le_refl _⟩
theorem out6_start (W : World) : Out6 W (.slice none 0 0) ((W.alloc zNode).alloc cNode) := by
  have hb := box_below (zbox W) (balloc (brefl _) cNode)
  have hd := box_new (W.alloc zNode) (.int .i64 2) (.bool false) (.bool false) (.slice none 0 0) (.slice none 0 0) (.slice none 0 0) 200
  rw [size_alloc] at hd
  refine ⟨⟨by simp only [size_alloc]; omega, fun o => by simp [go_sem]⟩, hb, ⟨by simp only [size_alloc]; omega, fun o => by simp [go_sem]⟩, hd, balloc (balloc (brefl W) _) _, by simp only [size_alloc]; omega⟩
end Go.Proofs.YtpmmhmgojjlniaaGreatDoor.Ar
