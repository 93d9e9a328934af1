/- Rows of nodes that grow; the reader's rows. -/
import Derived.Test.YtngfoijmknclhaaGreatDoorJ18
namespace Go.Proofs.YtngfoijmknclhaaGreatDoor.Ar
open Go.RowKit Go.Sort
/-- What becomes of the reader behind a tree. -/
def PnPost (b : Nat) (W : World) (d : Nat) (R : Except Int (Pn × Bs)) (e : Ending) (w' : World) : Prop :=
  But b W w' ∧ match R with
  | .ok (n, k) => ∃ (k' : Bs) (x0 x1 x2 : Value), Px.skip k' = Px.skip k ∧ k'.length ≤ k.length ∧ Rd w' b k' d 0 ∧ Own3 (From W.heap.size w') w' n [x0, x1, x2] ∧ e = .returned (.agg #[x0, x1, x2])
  | .error q => ∃ x0 x1 x2 : Value, Rd w' b [] d q ∧ One3 x0 x1 x2 ∧ e = .returned (.agg #[x0, x1, x2])
/-- A node on its way, in block N; the result's block is W's next one. -/
structure Wy (b : Nat) (W : World) (N : Nat) (x0 v1 v2 : Value) (wr : World) : Prop where
  hb : b < W.heap.size
  hN : W.heap.size < N
  free0 : Free wr W.heap.size
  box0 : Box3 wr W.heap.size (.int .i64 0) (.slice none 0 0) (.slice none 0 0)
  free1 : Free wr N
  box1 : Box3 wr N x0 v1 v2
  but : But b W wr
theorem Wy.ne0 {b : Nat} {W : World} {N : Nat} {x0 v1 v2 : Value} {wr : World} (h : Wy b W N x0 v1 v2 wr) : W.heap.size ≠ b := by have := h.hb; omega
theorem Wy.ne1 {b : Nat} {W : World} {N : Nat} {x0 v1 v2 : Value} {wr : World} (h : Wy b W N x0 v1 v2 wr) : N ≠ b := by have := h.hb; have := h.hN; omega
theorem Wy.lt {b : Nat} {W : World} {N : Nat} {x0 v1 v2 : Value} {wr : World} (h : Wy b W N x0 v1 v2 wr) : N < wr.heap.size := h.free1.1
theorem Wy.step {b : Nat} {W : World} {N : Nat} {x0 v1 v2 : Value} {wr w' : World} (h : Wy b W N x0 v1 v2 wr) (hB : But b wr w') : Wy b W N x0 v1 v2 w' :=
  ⟨h.hb, h.hN, hB.free h.free0 h.ne0, box3_but h.box0 hB h.ne0, hB.free h.free1 h.ne1, box3_but h.box1 hB h.ne1, h.but.trans hB⟩
theorem Wy.alloc {b : Nat} {W : World} {N : Nat} {x0 v1 v2 : Value} {wr : World} (h : Wy b W N x0 v1 v2 wr) (o : Obj) : Wy b W N x0 v1 v2 (wr.alloc o) := h.step (But.of (balloc (brefl _) o))
theorem Wy.drew {b : Nat} {W : World} {N : Nat} {x0 v1 v2 : Value} {wr : World} (h : Wy b W N x0 v1 v2 wr) : Wy b W N x0 v1 v2 wr.drew := h.step (But.of (Below.drew (brefl _)))
theorem Wy.grown {b : Nat} {W : World} {N : Nat} {x0 v1 v2 : Value} {wr w' : World} {row : Option Nat} (h : Wy b W N x0 v1 v2 wr) (hg : wr.grownBy w' row) (hr : ∀ k, row = some k → W.heap.size < k ∧ k ≠ N) : Wy b W N x0 v1 v2 w' := by
  have h0 : w'.heap[W.heap.size]? = wr.heap[W.heap.size]? := hg.block _ h.free0.1 (fun e => by have := (hr _ e.symm).1; omega)
  have h1 : w'.heap[N]? = wr.heap[N]? := hg.block _ h.lt (fun e => (hr _ e.symm).2 rfl)
  have hs := hg.size
  exact ⟨h.hb, h.hN, free_of h.free0 hs h0, box3_of h.box0 h0, free_of h.free1 hs h1, box3_of h.box1 h1, h.but.grown hg (fun k hk => by have := (hr k hk).1; omega)⟩
theorem Wy.set2 {b : Nat} {W : World} {N : Nat} {x0 v1 v2 : Value} {wr : World} (h : Wy b W N x0 v1 v2 wr) (v : Value) : Wy b W N x0 v1 v (wr.setCell ⟨N, 2, none⟩ v) := by
  obtain ⟨c0, c1, c2⟩ := h.box1
  have hN := h.hN
  refine ⟨h.hb, h.hN, free_set h.free0 _ _, box3_of h.box0 (heap_setCell_ne _ _ _ _ _ (by omega)), free_set h.free1 _ _, ⟨?_, ?_, ?_⟩, h.but.setCell (.inr (by simp only; omega)) _⟩ <;> simp [go_sem, c0, c1, c2]
/-- Trees side by side in a row of the call's own; block N is another one's. -/
def Kids (B N : Nat) (w : World) (us : List Pn) (v : Value) : Prop :=
  ∃ (css : List (List Value)) (S : Nat → Prop), css.length = us.length ∧ (∀ c ∈ css, c.length = 3) ∧ w.ownsRow B 136 3 v us.length css.flatten ∧ (∀ k, v.ownBlock = some k → k ≠ N) ∧ (∀ k, S k → B ≤ k ∧ k < w.heap.size ∧ k ≠ N ∧ v.ownBlock ≠ some k) ∧
  ∀ i (h : i < us.length) (h' : i < css.length), Own3 S w us[i] css[i]
theorem Kids.nil (B N : Nat) (w : World) : Kids B N w [] (.slice none 0 0) :=
  ⟨[], fun _ => False, rfl, by simp, ⟨rfl, .inl ⟨rfl, rfl⟩⟩, fun k hk => by simp [Value.ownBlock] at hk, fun k hk => hk.elim, fun i h => by simp at h⟩
theorem Kids.keep {B N : Nat} {w w' : World} {us : List Pn} {v : Value} (h : Kids B N w us v) (hs : w.heap.size ≤ w'.heap.size) (hk : ∀ k, B ≤ k → k ≠ N → k < w.heap.size → w'.heap[k]? = w.heap[k]?) : Kids B N w' us v := by
  obtain ⟨css, S, h1, h2, h3, h4, h5, h6⟩ := h
  refine ⟨css, S, h1, h2, row_same h3 (fun g hg => hk g (h3.lt g hg).1 (h4 g hg) (h3.lt g hg).2), h4, fun k hS => ?_, fun i hi hi' => (h6 i hi hi').keep hs fun k hS => hk k (h5 k hS).1 (h5 k hS).2.2.1 (h5 k hS).2.1⟩
  have := h5 k hS
  exact ⟨this.1, by omega, this.2.2⟩
theorem Kids.but {B N b : Nat} {w w' : World} {us : List Pn} {v : Value} (h : Kids B N w us v) (hB : But b w w') (hb : b < B) : Kids B N w' us v := h.keep hB.size fun k hk _ hl => hB.block k (by omega) hl
theorem Kids.set {B N : Nat} {w : World} {us : List Pn} {v : Value} (h : Kids B N w us v) (o : Nat) (u : Value) : Kids B N (w.setCell ⟨N, o, none⟩ u) us v := h.keep (by rw [size_setCell]; omega) fun k _ hN _ => heap_setCell_ne _ _ _ _ _ hN
theorem Kids.row {B N : Nat} {w : World} {us : List Pn} {v : Value} (h : Kids B N w us v) : ∃ xs, w.ownsRow B 136 3 v us.length xs ∧ (∀ k, v.ownBlock = some k → B ≤ k ∧ k < w.heap.size ∧ k ≠ N) ∧ ∃ o c, v = .slice o us.length c := by
  obtain ⟨css, S, h1, h2, h3, h4, _⟩ := h
  exact ⟨_, h3, fun k hk => ⟨(h3.lt k hk).1, (h3.lt k hk).2, h4 k hk⟩, row_slice h3⟩
/-- One more. S2: where the new one lies. -/
theorem Kids.more {B N : Nat} {w w2 : World} {us : List Pn} {v : Value} {t : Pn} {y0 y1 y2 : Value} {S2 : Nat → Prop} {g cap n : Nat} (hn : n = us.length) (h : Kids B N w us v) (ht : Own3 S2 w t [y0, y1, y2]) (hS2 : ∀ k, S2 k → B ≤ k ∧ k ≠ N ∧ v.ownBlock ≠ some k) (hN : N < w.heap.size) {xs : List Value} (hxs : w.ownsRow B 136 3 v us.length xs)
    (ho : w2.ownsRow B 136 3 (.slice (some ⟨g, 0, none⟩) (n + 1) cap) (n + 1) (xs ++ [y0, y1, y2])) (hg : w.grownBy w2 v.ownBlock) (hl : v.ownBlock = some g ∨ g = w.heap.size) : Kids B N w2 (us ++ [t]) (.slice (some ⟨g, 0, none⟩) (n + 1) cap) := by
  subst hn
  obtain ⟨css, S, h1, h2, h3, h4, h5, h6⟩ := h
  have hx : xs = css.flatten := by
    rcases hxs.2 with ⟨e1, e2⟩ | ⟨g1, c1, u1, e1, _, e2, _, _, _, e3⟩
    · have hl0 : us.length = 0 := e2
      have a1 := hxs.1
      have a2 := h3.1
      rw [hl0] at a1 a2
      have b1 : xs = [] := List.length_eq_zero_iff.1 (by omega)
      have b2 : css.flatten = [] := List.length_eq_zero_iff.1 (by omega)
      rw [b1, b2]
    · rcases h3.2 with ⟨f1, f2⟩ | ⟨g2, c2, u2, f1, _, f2, _, _, _, f3⟩
      · rw [f1] at e1; simp at e1
      · rw [f1] at e1
        simp only [Value.slice.injEq, Option.some.injEq, Addr.mk.injEq] at e1
        obtain ⟨⟨rfl, _⟩, _, _⟩ := e1
        rw [f2] at e2
        simp only [Option.some.injEq, Obj.cells.injEq] at e2
        rw [← e3, ← f3, e2.1]
  subst hx
  have hsz := hg.size
  have hkeep : ∀ k, k < w.heap.size → v.ownBlock ≠ some k → w2.heap[k]? = w.heap[k]? := fun k hk hne => hg.block k hk (fun e => hne e.symm)
  refine ⟨css ++ [[y0, y1, y2]], fun k => S k ∨ S2 k, by simp [h1], ?_, by simpa using ho, ?_, ?_, ?_⟩
  · intro c hc
    rcases List.mem_append.1 hc with hc | hc
    · exact h2 c hc
    · simp at hc; subst hc; rfl
  · intro k hk
    simp only [Value.ownBlock, Option.some.injEq] at hk
    subst hk
    rcases hl with hl | hl
    · exact h4 _ hl
    · omega
  · rintro k (hk | hk)
    · have := h5 k hk
      refine ⟨this.1, by omega, this.2.2.1, ?_⟩
      intro e
      simp only [Value.ownBlock, Option.some.injEq] at e
      subst e
      rcases hl with hl | hl
      · exact this.2.2.2 hl
      · omega
    · have h7 := hS2 k hk
      have h8 := ht.1 k hk
      refine ⟨h7.1, by omega, h7.2.1, ?_⟩
      intro e
      simp only [Value.ownBlock, Option.some.injEq] at e
      subst e
      rcases hl with hl | hl
      · exact h7.2.2 hl
      · omega
  · have hb : ∀ k, (S k ∨ S2 k) → k < w2.heap.size := by
      rintro k (hk | hk)
      · have := (h5 k hk).2.1; omega
      · have := ht.1 k hk; omega
    intro i hi hi'
    by_cases hlt : i < us.length
    · rw [List.getElem_append_left hlt, List.getElem_append_left (by omega)]
      exact ((h6 i hlt (by omega)).keep hsz fun k hk => hkeep k (h5 k hk).2.1 (h5 k hk).2.2.2).mono (fun k hk => .inl hk) hb
    · have hie : i = us.length := by simp at hi; omega
      have e1 : (us ++ [t])[i] = t := by subst hie; simp
      have e2 : (css ++ [[y0, y1, y2]])[i] = [y0, y1, y2] := by
        rw [List.getElem_append_right (by omega)]
        simp
      rw [e1, e2]
      exact (ht.keep hsz fun k hk => hkeep k (ht.1 k hk) (hS2 k hk).2.2).mono (fun k hk => .inr hk) hb
/-- The node over trees side by side lies. -/
theorem Kids.own {A B N : Nat} {w w' : World} {us : List Pn} {o : Option Addr} {c : Nat} {kd : Int} (h : Kids B N w us (.slice o us.length c)) (hA : A ≤ B) (hl : us.length ≤ 10000) (hs : w.heap.size ≤ w'.heap.size) (hk : ∀ k, B ≤ k → k ≠ N → k < w.heap.size → w'.heap[k]? = w.heap[k]?) :
    Own3 (From A w') w' (.mk kd [] us) [.int .i64 kd, .slice none 0 0, .slice o us.length c] := by
  obtain ⟨css, S, h1, h2, h3, h4, h5, h6⟩ := h
  refine ⟨fun k hk => hk.2, fun w2 hw2 => ?_⟩
  have hall : ∀ k, B ≤ k → k ≠ N → k < w.heap.size → w2.heap[k]? = w.heap[k]? := fun k a1 a2 a3 => (hw2 k ⟨by omega, by omega⟩).trans (hk k a1 a2 a3)
  have ha : ∀ i (hi : i < us.length), Pn.At w2 us[i] (css.getD i []) := by
    intro i hi
    have hi' : i < css.length := by omega
    have := (h6 i hi hi').2 w2 fun k hS => hall k (h5 k hS).1 (h5 k hS).2.2.1 (h5 k hS).2.1
    simpa [List.getD, hi'] using this
  by_cases h0 : us = []
  · subst h0
    exact Pn.At.mk (w := w2) (k := kd) (ps := []) (us := []) (po := none) (pc := 0) (uo := o) (uc := c) 0 0 (fun i => css.getD i []) ⟨by simp, by simp⟩ (.inl rfl) (.inl rfl) (fun i hi => by simp at hi) (fun i hi => by simp at hi)
  · obtain ⟨g, hg, hB, hlt, hrd⟩ := row_six (w' := w2) h3 (List.length_pos_iff.2 h0) (fun k hk1 => hall k (h3.lt k hk1).1 (h4 k hk1) (h3.lt k hk1).2)
    refine Pn.At.mk (w := w2) (k := kd) (ps := []) (us := us) (po := none) (pc := 0) (uo := o) (uc := c) g 0 (fun i => css.getD i []) ⟨by simp, by omega⟩ (.inl rfl) (.inr hg) (fun i hi j hj => ?_) ha
    have hi' : i < css.length := by omega
    have e : css.getD i [] = css[i] := by simp [List.getD, hi']
    have h3l := h2 css[i] (List.getElem_mem hi')
    have hj3 : j < 3 := by
      have := hj
      simp only [e] at this
      omega
    rw [Nat.zero_add]
    refine hrd _ _ ?_
    have : ∀ (l : List (List Value)), (∀ c ∈ l, c.length = 3) → ∀ (i : Nat) (h : i < l.length) (j : Nat), j < 3 → l.flatten[i * 3 + j]? = (l[i])[j]? := by
      intro l
      induction l with
      | nil => intro _ i h; simp at h
      | cons x l ih =>
        intro hx i h j hj
        have hx3 := hx x (by simp)
        cases i with
        | zero => rw [List.flatten_cons, Nat.zero_mul, Nat.zero_add, List.getElem?_append_left (by omega)]; rfl
        | succ i =>
          rw [List.flatten_cons, List.getElem?_append_right (by omega), hx3, show (i + 1) * 3 + j - 3 = i * 3 + j by omega, ih (fun c hc => hx c (by simp [hc])) i (by simpa using h) j hj]
          rfl
    rw [this css h2 i hi' j hj3]
    have hj4 : j < css[i].length := by omega
    rw [List.getElem?_eq_getElem hj4]
    simp only [e]
theorem pnPost_err {b : Nat} {W : World} {d : Nat} {R : Except Int (Pn × Bs)} {v : Int} {x0 x1 x2 : Value} {w' : World} (hR : R = .error v) (hB : But b W w') (hr : Rd w' b [] d v) (h1 : One3 x0 x1 x2) : PnPost b W d R (.returned (.agg #[x0, x1, x2])) w' := by
  rw [hR]
  exact ⟨hB, x0, x1, x2, hr, h1, rfl⟩
theorem pnPost_ok {b : Nat} {W : World} {d : Nat} {R : Except Int (Pn × Bs)} {n : Pn} {k k' : Bs} {x0 x1 x2 : Value} {w' : World} (hR : R = .ok (n, k)) (hB : But b W w') (hk : Px.skip k' = Px.skip k) (hl : k'.length ≤ k.length) (hr : Rd w' b k' d 0) (h1 : Own3 (From W.heap.size w') w' n [x0, x1, x2]) : PnPost b W d R (.returned (.agg #[x0, x1, x2])) w' := by
  rw [hR]
  exact ⟨hB, k', x0, x1, x2, hk, hl, hr, h1, rfl⟩
end Go.Proofs.YtngfoijmknclhaaGreatDoor.Ar
