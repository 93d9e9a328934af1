/- Part of the proof. -/
import Derived.Test.YtnadhplhnfpeaaaGreatDoorAZ
import Derived.Test.YtnadhplhnfpeaaaGreatDoorA32
namespace Go.Proofs.YtnadhplhnfpeaaaGreatDoor.Ar
open Go.RowKit Go.Sort
def PnPost (b : Nat) (W : World) (d : Nat) (R : Except Int (Pn × Bs)) (e : Ending) (w' : World) : Prop :=
  But b W w' ∧ match R with
  | .ok (n, k) => ∃ (k' : Bs) (x0 x1 x2 : Value), Px.skip k' = Px.skip k ∧ k'.length ≤ k.length ∧ Rd w' b k' d 0 ∧ Own3 (From W.heap.size w') w' n [x0, x1, x2] ∧ e = .returned (.agg #[x0, x1, x2])
  | .error q => ∃ x0 x1 x2 : Value, Rd w' b [] d q ∧ One3 x0 x1 x2 ∧ e = .returned (.agg #[x0, x1, x2])
structure Wy (b : Nat) (W : World) (N : Nat) (x0 v1 v2 : Value) (wr : World) : Prop where
  hb : b < W.heap.size
  hN : W.heap.size < N
  free0 : Free wr W.heap.size
  box0 : Box3 wr W.heap.size (.int .i64 0) (.slice none 0 0) (.slice none 0 0)
  free1 : Free wr N
  box1 : Box3 wr N x0 v1 v2
  but : But b W wr
theorem Wy.ne0 {b : Nat} {W : World} {N : Nat} {x0 v1 v2 : Value} {wr : World} (h : Wy b W N x0 v1 v2 wr) : W.heap.size ≠ b := by have := h.hb; omega
theorem Wy.ne1 {b : Nat} {W : World} {N : Nat} {x0 v1 v2 : Value} {wr : World} (h : Wy b W N x0 v1 v2 wr) : N ≠ b := by have := h.hb; have := h.hN; omega
theorem Wy.lt {b : Nat} {W : World} {N : Nat} {x0 v1 v2 : Value} {wr : World} (h : Wy b W N x0 v1 v2 wr) : N < wr.heap.size := h.free1.1
theorem Wy.step {b : Nat} {W : World} {N : Nat} {x0 v1 v2 : Value} {wr w' : World} (h : Wy b W N x0 v1 v2 wr) (hB : But b wr w') : Wy b W N x0 v1 v2 w' :=
  ⟨h.hb, h.hN, hB.free h.free0 h.ne0, box3_but h.box0 hB h.ne0, hB.free h.free1 h.ne1, box3_but h.box1 hB h.ne1, h.but.trans hB⟩
theorem Wy.alloc {b : Nat} {W : World} {N : Nat} {x0 v1 v2 : Value} {wr : World} (h : Wy b W N x0 v1 v2 wr) (o : Obj) : Wy b W N x0 v1 v2 (wr.alloc o) := h.step (But.of (balloc (brefl _) o))
theorem Wy.drew {b : Nat} {W : World} {N : Nat} {x0 v1 v2 : Value} {wr : World} (h : Wy b W N x0 v1 v2 wr) : Wy b W N x0 v1 v2 wr.drew := h.step (But.of (Below.drew (brefl _)))
theorem Wy.grown {b : Nat} {W : World} {N : Nat} {x0 v1 v2 : Value} {wr w' : World} {row : Option Nat} (h : Wy b W N x0 v1 v2 wr) (hg : wr.grownBy w' row) (hr : ∀ k, row = some k → W.heap.size < k ∧ k ≠ N) : Wy b W N x0 v1 v2 w' := by
 have h0 : w'.heap[W.heap.size]? = wr.heap[W.heap.size]? := hg.block _ h.free0.1 (fun e => by have := (hr _ e.symm).1; omega)
 have h1 : w'.heap[N]? = wr.heap[N]? := hg.block _ h.lt (fun e => (hr _ e.symm).2 rfl)
 have hs := hg.size
 exact ⟨h.hb, h.hN, free_of h.free0 hs h0, box3_of h.box0 h0, free_of h.free1 hs h1, box3_of h.box1 h1, h.but.grown hg (fun k hk => by have := (hr k hk).1; omega)⟩
theorem Wy.set2 {b : Nat} {W : World} {N : Nat} {x0 v1 v2 : Value} {wr : World} (h : Wy b W N x0 v1 v2 wr) (v : Value) : Wy b W N x0 v1 v (wr.setCell ⟨N, 2, none⟩ v) := by
 obtain ⟨c0, c1, c2⟩ := h.box1
 have hN := h.hN
 refine ⟨h.hb, h.hN, free_set h.free0 _ _, box3_of h.box0 (heap_setCell_ne _ _ _ _ _ (by omega)), free_set h.free1 _ _, ⟨?_, ?_, ?_⟩, h.but.setCell (.inr (by simp only; omega)) _⟩ <;> simp [go_sem, c0, c1, c2]
def Kids (B N : Nat) (w : World) (us : List Pn) (v : Value) : Prop :=
  ∃ (css : List (List Value)) (S : Nat → Prop), css.length = us.length ∧ (∀ c ∈ css, c.length = 3) ∧ w.ownsRow B 199 3 v us.length css.flatten ∧ (∀ k, v.ownBlock = some k → k ≠ N) ∧ (∀ k, S k → B ≤ k ∧ k < w.heap.size ∧ k ≠ N ∧ v.ownBlock ≠ some k) ∧
  ∀ i (h : i < us.length) (h' : i < css.length), Own3 S w us[i] css[i]
theorem Kids.nil (B N : Nat) (w : World) : Kids B N w [] (.slice none 0 0) :=
  ⟨[], fun _ => False, rfl, by simp, ⟨rfl, .inl ⟨rfl, rfl⟩⟩, fun k hk => by simp [Value.ownBlock] at hk, fun k hk => hk.elim, fun i h => by simp at h⟩
theorem Kids.keep {B N : Nat} {w w' : World} {us : List Pn} {v : Value} (h : Kids B N w us v) (hs : w.heap.size ≤ w'.heap.size) (hk : ∀ k, B ≤ k → k ≠ N → k < w.heap.size → w'.heap[k]? = w.heap[k]?) : Kids B N w' us v := by
 obtain ⟨css, S, h1, h2, h3, h4, h5, h6⟩ := h
 refine ⟨css, S, h1, h2, row_same h3 (fun g hg => hk g (h3.lt g hg).1 (h4 g hg) (h3.lt g hg).2), h4, fun k hS => ?_, fun i hi hi' => (h6 i hi hi').keep hs fun k hS => hk k (h5 k hS).1 (h5 k hS).2.2.1 (h5 k hS).2.1⟩
 have := h5 k hS
 exact ⟨this.1, by omega, this.2.2⟩
theorem Kids.but {B N b : Nat} {w w' : World} {us : List Pn} {v : Value} (h : Kids B N w us v) (hB : But b w w') (hb : b < B) : Kids B N w' us v := h.keep hB.size fun k hk _ hl => hB.block k (by omega) hl
theorem Kids.set {B N : Nat} {w : World} {us : List Pn} {v : Value} (h : Kids B N w us v) (o : Nat) (u : Value) : Kids B N (w.setCell ⟨N, o, none⟩ u) us v := h.keep (by rw [size_setCell]; omega) fun k _ hN _ => heap_setCell_ne _ _ _ _ _ hN
theorem Kids.row {B N : Nat} {w : World} {us : List Pn} {v : Value} (h : Kids B N w us v) : ∃ xs, w.ownsRow B 199 3 v us.length xs ∧ (∀ k, v.ownBlock = some k → B ≤ k ∧ k < w.heap.size ∧ k ≠ N) ∧ ∃ o c, v = .slice o us.length c := by
 obtain ⟨css, S, h1, h2, h3, h4, _⟩ := h
 exact ⟨_, h3, fun k hk => ⟨(h3.lt k hk).1, (h3.lt k hk).2, h4 k hk⟩, row_slice h3⟩
theorem Kids.more {B N : Nat} {w w2 : World} {us : List Pn} {v : Value} {t : Pn} {y0 y1 y2 : Value} {S2 : Nat → Prop} {g cap n : Nat} (hn : n = us.length) (h : Kids B N w us v) (ht : Own3 S2 w t [y0, y1, y2]) (hS2 : ∀ k, S2 k → B ≤ k ∧ k ≠ N ∧ v.ownBlock ≠ some k) (hN : N < w.heap.size) {xs : List Value} (hxs : w.ownsRow B 199 3 v us.length xs)
    (ho : w2.ownsRow B 199 3 (.slice (some ⟨g, 0, none⟩) (n + 1) cap) (n + 1) (xs ++ [y0, y1, y2])) (hg : w.grownBy w2 v.ownBlock) (hl : v.ownBlock = some g ∨ g = w.heap.size) : Kids B N w2 (us ++ [t]) (.slice (some ⟨g, 0, none⟩) (n + 1) cap) := by
 subst hn
 obtain ⟨css, S, h1, h2, h3, h4, h5, h6⟩ := h
 have hx : xs = css.flatten := by
  rcases hxs.2 with ⟨e1, e2⟩ | ⟨g1, c1, u1, e1, _, e2, _, _, _, e3⟩
  ·
   have hl0 : us.length = 0 := e2
   have a1 := hxs.1
   have a2 := h3.1
   rw [hl0] at a1 a2
   have b1 : xs = [] := List.length_eq_zero_iff.1 (by omega)
   have b2 : css.flatten = [] := List.length_eq_zero_iff.1 (by omega)
   rw [b1, b2]
  rcases h3.2 with ⟨f1, f2⟩ | ⟨g2, c2, u2, f1, _, f2, _, _, _, f3⟩
  ·
   rw [f1] at e1; simp at e1
  rw [f1] at e1
  simp only [Value.slice.injEq, Option.some.injEq, Addr.mk.injEq] at e1
  obtain ⟨⟨rfl, _⟩, _, _⟩ := e1
  rw [f2] at e2
  simp only [Option.some.injEq, Obj.cells.injEq] at e2
  rw [← e3, ← f3, e2.1]
 subst hx
 have hsz := hg.size
 have hkeep : ∀ k, k < w.heap.size → v.ownBlock ≠ some k → w2.heap[k]? = w.heap[k]? := fun k hk hne => hg.block k hk (fun e => hne e.symm)
 refine ⟨css ++ [[y0, y1, y2]], fun k => S k ∨ S2 k, by simp [h1], ?_, by simpa using ho, ?_, ?_, ?_⟩
 ·
  intro c hc
  rcases List.mem_append.1 hc with hc | hc
  ·
   exact h2 c hc
  simp at hc; subst hc; rfl
 ·
  intro k hk
  simp only [Value.ownBlock, Option.some.injEq] at hk
  subst hk
  rcases hl with hl | hl
  ·
   exact h4 _ hl
  omega
 ·
  rintro k (hk | hk)
  ·
   have := h5 k hk
   refine ⟨this.1, by omega, this.2.2.1, ?_⟩
   intro e
   simp only [Value.ownBlock, Option.some.injEq] at e
   subst e
   rcases hl with hl | hl
   ·
    exact this.2.2.2 hl
   omega
  have h7 := hS2 k hk
  have h8 := ht.1 k hk
  refine ⟨h7.1, by omega, h7.2.1, ?_⟩
  intro e
  simp only [Value.ownBlock, Option.some.injEq] at e
  subst e
  rcases hl with hl | hl
  ·
   exact h7.2.2 hl
  omega
 have hb : ∀ k, (S k ∨ S2 k) → k < w2.heap.size := by
  rintro k (hk | hk)
  ·
   have := (h5 k hk).2.1; omega
  have := ht.1 k hk; omega
 intro i hi hi'
 by_cases hlt : i < us.length
 ·
  rw [List.getElem_append_left hlt, List.getElem_append_left (by omega)]
  exact ((h6 i hlt (by omega)).keep hsz fun k hk => hkeep k (h5 k hk).2.1 (h5 k hk).2.2.2).mono (fun k hk => .inl hk) hb
 have hie : i = us.length := by simp at hi; omega
 have e1 : (us ++ [t])[i] = t := by subst hie; simp
 have e2 : (css ++ [[y0, y1, y2]])[i] = [y0, y1, y2] := by
  rw [List.getElem_append_right (by omega)]
  simp
 rw [e1, e2]
 exact (ht.keep hsz fun k hk => hkeep k (ht.1 k hk) (hS2 k hk).2.2).mono (fun k hk => .inr hk) hb
theorem Kids.own {A B N : Nat} {w w' : World} {us : List Pn} {o : Option Addr} {c : Nat} {kd : Int} (h : Kids B N w us (.slice o us.length c)) (hA : A ≤ B) (hl : us.length ≤ 10000) (hs : w.heap.size ≤ w'.heap.size) (hk : ∀ k, B ≤ k → k ≠ N → k < w.heap.size → w'.heap[k]? = w.heap[k]?) :
    Own3 (From A w') w' (.mk kd [] us) [.int .i64 kd, .slice none 0 0, .slice o us.length c] := by
 obtain ⟨css, S, h1, h2, h3, h4, h5, h6⟩ := h
 refine ⟨fun k hk => hk.2, fun w2 hw2 => ?_⟩
 have hall : ∀ k, B ≤ k → k ≠ N → k < w.heap.size → w2.heap[k]? = w.heap[k]? := fun k a1 a2 a3 => (hw2 k ⟨by omega, by omega⟩).trans (hk k a1 a2 a3)
 have ha : ∀ i (hi : i < us.length), Pn.At w2 us[i] (css.getD i []) := by
  intro i hi
  have hi' : i < css.length := by omega
  have := (h6 i hi hi').2 w2 fun k hS => hall k (h5 k hS).1 (h5 k hS).2.2.1 (h5 k hS).2.1
  simpa [List.getD, hi'] using this
 by_cases h0 : us = []
 ·
  subst h0
  exact Pn.At.mk (w := w2) (k := kd) (ps := []) (us := []) (po := none) (pc := 0) (uo := o) (uc := c) 0 0 (fun i => css.getD i []) ⟨by simp, by simp⟩ (.inl rfl) (.inl rfl) (fun i hi => by simp at hi) (fun i hi => by simp at hi)
 obtain ⟨g, hg, hB, hlt, hrd⟩ := row_six (w' := w2) h3 (List.length_pos_iff.2 h0) (fun k hk1 => hall k (h3.lt k hk1).1 (h4 k hk1) (h3.lt k hk1).2)
 refine Pn.At.mk (w := w2) (k := kd) (ps := []) (us := us) (po := none) (pc := 0) (uo := o) (uc := c) g 0 (fun i => css.getD i []) ⟨by simp, by omega⟩ (.inl rfl) (.inr hg) (fun i hi j hj => ?_) ha
 have hi' : i < css.length := by omega
 have e : css.getD i [] = css[i] := by simp [List.getD, hi']
 have h3l := h2 css[i] (List.getElem_mem hi')
 have hj3 : j < 3 := by
  have := hj
  simp only [e] at this
  omega
 rw [Nat.zero_add]
 refine hrd _ _ ?_
 have : ∀ (l : List (List Value)), (∀ c ∈ l, c.length = 3) → ∀ (i : Nat) (h : i < l.length) (j : Nat), j < 3 → l.flatten[i * 3 + j]? = (l[i])[j]? := by
  intro l
  induction l with
  | nil => intro _ i h; simp at h
  | cons x l ih =>
   intro hx i h j hj
   have hx3 := hx x (by simp)
   cases i with
   | zero => rw [List.flatten_cons, Nat.zero_mul, Nat.zero_add, List.getElem?_append_left (by omega)]; rfl
   | succ i =>
    rw [List.flatten_cons, List.getElem?_append_right (by omega), hx3, show (i + 1) * 3 + j - 3 = i * 3 + j by omega, ih (fun c hc => hx c (by simp [hc])) i (by simpa using h) j hj]
    rfl
 rw [this css h2 i hi' j hj3]
 have hj4 : j < css[i].length := by omega
 rw [List.getElem?_eq_getElem hj4]
 simp only [e]
theorem pnPost_err {b : Nat} {W : World} {d : Nat} {R : Except Int (Pn × Bs)} {v : Int} {x0 x1 x2 : Value} {w' : World} (hR : R = .error v) (hB : But b W w') (hr : Rd w' b [] d v) (h1 : One3 x0 x1 x2) : PnPost b W d R (.returned (.agg #[x0, x1, x2])) w' := by
 rw [hR]
 exact ⟨hB, x0, x1, x2, hr, h1, rfl⟩
theorem pnPost_ok {b : Nat} {W : World} {d : Nat} {R : Except Int (Pn × Bs)} {n : Pn} {k k' : Bs} {x0 x1 x2 : Value} {w' : World} (hR : R = .ok (n, k)) (hB : But b W w') (hk : Px.skip k' = Px.skip k) (hl : k'.length ≤ k.length) (hr : Rd w' b k' d 0) (h1 : Own3 (From W.heap.size w') w' n [x0, x1, x2]) : PnPost b W d R (.returned (.agg #[x0, x1, x2])) w' := by
 rw [hR]
 exact ⟨hB, k', x0, x1, x2, hk, hl, hr, h1, rfl⟩
def rowR (R : Except Int (List Nd × Bs)) : Except Int (Pn × Bs) := match R with | .ok (l, k) => .ok (.mk 4 [] (l.map Nd.pn), k) | .error e => .error e
def RowRel (A : Prop) (b : Nat) (W : World) (d D : Nat) (R : Except Int (List Nd × Bs)) (wr : World) : Prop :=
  (A ∧ ∃ (f : Nat) (r : Bs) (acc : List Nd) (vU : Value), R = Px.row (Px.choice D) f acc r ∧ r.length < f ∧ r.length ≤ 100 ∧ acc.length + r.length ≤ 1000 ∧ Rd wr b r d 0 ∧ Wy b W (W.heap.size + 1) (.int .i64 4) (.slice none 0 0) vU wr ∧ Kids (W.heap.size + 1) (W.heap.size + 1) wr (acc.map Nd.pn) vU) ∨
  (∃ (v : Int) (vU : Value), v ≠ 0 ∧ vU.oneCell' = true ∧ R = .error v ∧ Rd wr b [] d v ∧ Wy b W (W.heap.size + 1) (.int .i64 4) (.slice none 0 0) vU wr)
theorem wy_start {b : Nat} {W : World} (hb : b < W.heap.size) (x0 v1 v2 : Value) : Wy b W (W.heap.size + 1) x0 v1 v2 ((W.alloc zN).alloc (.cells #[x0, v1, v2] 199)) := by
 have h := way_start hb x0 v1 v2
 exact ⟨h.hb, Nat.lt_succ_self _, h.free0, h.box0, h.free1, h.box1, h.but⟩
theorem item_zero (K : Trims) {W : World} {b : Nat} {r : Bs} {d : Nat} {q : Int} (h : Rd W b r d q) (x0 x1 x2 : Value) (h1 : One3 x0 x1 x2) (hs : Px.sign r = 0) :
    Calls Tryz.prog 154 #[.pointer (some ⟨b, 0, none⟩), .agg #[x0, x1, x2]] W fun e w' => But b W w' ∧ Rd w' b (Px.skip r) d q ∧ e = .returned (.agg #[x0, x1, x2]) := by
 refine (item_is5 K h x0 x1 x2 h1).mono ?_
 rintro e w' ⟨hB, ⟨_, hR, he⟩ | ⟨hn, _⟩⟩
 ·
  exact ⟨hB, hR, he⟩
 exact absurd hs hn
theorem item_sign (K : Trims) {W : World} {b : Nat} {r : Bs} {d : Nat} {q : Int} (h : Rd W b r d q) (x0 x1 x2 : Value) (h1 : One3 x0 x1 x2) (n : Nat) (hs : Px.sign r = n) (hn : n ≠ 0) :
    Calls Tryz.prog 154 #[.pointer (some ⟨b, 0, none⟩), .agg #[x0, x1, x2]] W fun e w' => But b W w' ∧ Rd w' b (Px.next r) d q ∧ ∃ g, W.heap.size ≤ g ∧ w'.heap[g]? = some (.cells #[x0, x1, x2] 199) ∧ e = .returned (.agg #[.int .i64 ((n : Int) + 2), .slice none 0 0, .slice (some ⟨g, 0, none⟩) 1 1]) := by
 refine (item_is5 K h x0 x1 x2 h1).mono ?_
 subst hs
 rintro e w' ⟨hB, ⟨h0, _⟩ | ⟨_, hR, g, hg, hc, he⟩⟩
 ·
  exact absurd h0 hn
 exact ⟨hB, hR, g, hg, hc, he⟩
theorem sign_own {S : Nat → Prop} {w w' : World} {n : Nd} {k : Nat} {x0 x1 x2 : Value} {g : Nat} {t : TypeId} (h : Own3 S w (Nd.pn n) [x0, x1, x2]) (hs : w.heap.size ≤ w'.heap.size) (hk : ∀ j, S j → w'.heap[j]? = w.heap[j]?) (hg : w'.heap[g]? = some (.cells #[x0, x1, x2] t)) :
    Own3 (fun j => S j ∨ j = g) w' (Nd.pn (.st k n)) [.int .i64 ((k : Int) + 2), .slice none 0 0, .slice (some ⟨g, 0, none⟩) 1 1] := by
 have h' := h.keep hs hk
 refine ⟨fun j hj => ?_, fun w2 h2 => ?_⟩
 ·
  rcases hj with hj | rfl
  ·
   exact h'.1 j hj
  exact heap_lt hg
 have ha := h'.2 w2 fun j hj => h2 j (.inl hj)
 have hh := (h2 g (.inr rfl)).trans hg
 rw [Nd.pn]
 refine Pn.At.mk (w := w2) (k := (k : Int) + 2) (ps := []) (us := [Nd.pn n]) (po := none) (pc := 0) (uo := some ⟨g, 0, none⟩) (uc := 1) g 0 (fun _ => [x0, x1, x2]) ⟨by simp, by simp⟩ (.inl rfl) (.inr rfl) (fun i hi j hj => ?_) (fun i hi => ?_)
 ·
  have hi0 : i = 0 := by simp at hi; exact hi
  subst hi0
  rw [cell_of_row w2 g _ _ t _ hh]
  have hj3 : j < 3 := hj
  match j, hj3 with
  | 0, _ => rfl
  | 1, _ => rfl
  | 2, _ => rfl
 have hi0 : i = 0 := by simp at hi; exact hi
 subst hi0
 exact ha
theorem sign_two (r : Bs) : Px.sign r = 0 ∨ (∃ n, Px.sign r = n ∧ n ≠ 0) := by
 by_cases h : Px.sign r = 0
 ·
  exact .inl h
 exact .inr ⟨_, rfl, h⟩
theorem sign_next {r : Bs} (h : Px.sign r ≠ 0) : (Px.next r).length < r.length := by
 obtain ⟨d, hd⟩ := sign_isAt h
 exact Px.next_len hd
theorem row_halt {ch : Rdr} {f : Nat} {acc : List Nd} {r : Bs} (h : ∀ c t, Px.skip r = c :: t → Px.starts c = false) : Px.row ch (f + 1) acc r = .ok (acc, Px.skip r) := by
 rw [Px.row]
 cases hk : Px.skip r with
 | nil => rfl
 | cons c t => simp only [h c t hk, Bool.false_eq_true, if_false]
theorem row_item {ch : Rdr} {f : Nat} {acc : List Nd} {r : Bs} {c : UInt8} {t : Bs} (hk : Px.skip r = c :: t) (hs : Px.starts c = true) : Px.row ch (f + 1) acc r = (match Px.atom ch r with | .error e => .error e | .ok (n, k) => if Px.sign k = 0 then Px.row ch f (acc ++ [n]) k else Px.row ch f (acc ++ [.st (Px.sign k) n]) (Px.next k)) := by
 have hkk : Px.skip (c :: t) = Px.skip r := by rw [← hk, Px.skip_idem]
 rw [Px.row, hk]
 simp only [hs, if_true]
 unfold Px.item
 rw [atom_cong hkk]
 cases Px.atom ch r with
 | error e => rfl
 | ok z =>
  obtain ⟨n, k⟩ := z
  by_cases h : Px.sign k = 0
  ·
   simp only [h, if_true]
  simp only [h, if_false]
set_option maxHeartbeats 32000000 in
set_option maxRecDepth 100000 in
theorem row_is5 {T : World → Prop} (K : ReadKit T) {A : Prop} {W : World} {b : Nat} {d D : Nat} (hD : ∀ r q, Px.atom (Px.choice D) r = .error q → q ≠ 0) {R0 : Except Int (List Nd × Bs)} (hRel : Hid (RowRel A b W d D R0 ((W.alloc zN).alloc (.cells #[.int .i64 4, .slice none 0 0, .slice none 0 0] 199)))) (hbW : b < W.heap.size) (hT : Ty T b W) (hI : A → InnerOk T b d D) :
    Calls Tryz.prog 148 #[.pointer (some ⟨b, 0, none⟩)] W (PnPost b W d (rowR R0)) := by
 have HT := hide hT
 have HI := hide hI
 have HS := hRel
 clear hT hI hRel
 go_enter Tryz.func148, Tryz.ntmps148
 go_wp2_with fail
 generalize (W.alloc zN).alloc (.cells #[.int .i64 4, .slice none 0 0, .slice none 0 0] 199) = W1 at *
 go_loopw [] (fun wr => Hid (RowRel A b W d D R0 wr)) (fun wr => mes wr b)
 case atStart => exact HS
 case round =>
  rcases hrel.out with ⟨hA, f, r, acc, vU, hR, hf, hl, hal, hrd, hw, hK⟩ | ⟨v, vU, hv, hvU, hR, hrd, hw⟩
  ·
   obtain ⟨f, rfl⟩ : ∃ g, f = g + 1 := ⟨f - 1, by omega⟩
   have HM := hide (show mes wr b = r.length + 1 by rw [hrd.mes]; simp)
   have HWY := hide hw
   have HKD := hide hK
   have HTy := hide (HT.out.but hw.but)
   have hb1 : b < W.heap.size + 1 := by omega
   have hacc : acc.length ≤ 1000 := by omega
   by_cases hst : ∃ c t, Px.skip r = c :: t ∧ Px.starts c = true
   ·
    obtain ⟨c, t, hk, hs⟩ := hst
    have CA := hide (atom_yes K hrd HTy.out hl (HI.out hA) hk hs)
    have hri := row_item (ch := Px.choice D) (f := f) (acc := acc) hk hs
    cases ha : Px.atom (Px.choice D) r with
    | error v =>
     have hv := hD _ _ ha
     have HR : Hid (R0 = .error v) := by show _ = _; rw [hR, hri, ha]
     rw [ha] at CA
     clear hR hf hl hal hrd hw hK hk hs hri ha hrel
     go_wp2_with fail
     refine CA.out.mono ?_
     rintro e w1 ⟨x0, x1, x2, ⟨hB, y0, y1, y2, hR1, _, _⟩, h1, rfl⟩
     have CI := hide (item_zero K.trims (hR1.alloc (.cells #[x0, x1, x2] 199)).drew x0 x1 x2 h1 rfl)
     have BA := hide ((But.of (b := b) (balloc (brefl w1) (.cells #[x0, x1, x2] 199))).drew)
     have HW1 := hide ((HWY.out.step hB).step BA.out)
     have HK1k := hide ((HKD.out.but hB hb1).but BA.out hb1)
     have hw1 : W.heap.size + 1 < w1.heap.size := (HWY.out.step hB).lt
     have d2 := (HWY.out.step hB).box1.2.2
     have hn1 : w1.heap.size ≠ b := by have := HWY.out.hb; omega
     have hn2 : w1.heap.size ≠ W.heap.size + 1 := by omega
     have hn3 : W.heap.size + 1 ≠ w1.heap.size := by omega
     obtain ⟨xs0, hxs0, hvb0, uo, uc, hvU⟩ := HKD.out.row
     have hlen : (acc.map Nd.pn).length = acc.length := List.length_map ..
     rw [hlen] at hvU
     have hvb : ∀ k, vU.ownBlock = some k → W.heap.size + 1 ≤ k ∧ k < wr.heap.size ∧ k ≠ W.heap.size + 1 := hvb0
     have hwr1 := hB.size
     obtain ⟨o0, o1, o2⟩ := h1
     have s0 := fun w a m => run_store Tryz.prog w a x0 m o0
     have s1 := fun w a m => run_store Tryz.prog w a x1 m o1
     have s2 := fun w a m => run_store Tryz.prog w a x2 m o2
     subst hvU
     clear CA hR1 hxs0 hvb0
     go_wp2_with fail
     go_region_law (first
       | (go_simp
          go_at_call 154
          refine CI.out.mono ?_
          rintro e w2 ⟨hB2, hR2, rfl⟩
          have HW2 := hide (HW1.out.step hB2)
          have HK2k := hide (HK1k.out.but hB2 hb1)
          have hsw2 : w1.heap.size < w2.heap.size := by have := hB2.size; simp only [size_alloc, drew_heap] at this; omega
          have hl2 : W.heap.size + 1 < w2.heap.size := HW2.out.lt
          have hn7 : W.heap.size + 1 ≠ w2.heap.size := by omega
          have cw1 := HW2.out.box1.2.2)
       | (obtain ⟨xs, hxs, _⟩ := (HK2k.out.but (But.of (b := b) (balloc (brefl _) (.cells #[x0, x1, x2] 199))) hb1).row
          have HK3 := hide (HK2k.out.but (But.of (b := b) (balloc (brefl _) (.cells #[x0, x1, x2] 199))) hb1)
          refine step_node rfl (.tmp 16) (.tmp 20) rfl (W.heap.size + 1) (.slice uo acc.length uc) acc.length xs (by simp [Act.eval]) (by rw [← hlen]; simpa [hlen] using hxs) w2.heap.size 1 (by simp [Act.eval]) x0 x1 x2 (box3_new w2 _ _ _ 199) ⟨o0, o1, o2⟩ (by omega) (by rw [size_alloc]; omega) _ rfl ?_
          intro g cap w3 ho hg hloc
          have HW3 := hide ((HW2.out.alloc (.cells #[x0, x1, x2] 199)).grown hg (fun k hk => by have := hvb k hk; omega))
          have cc := HW3.out.box1.2.2
          have ff := HW3.out.free1.2 2))
     all_goals
      have HR3 := hide (((hR2.alloc (.cells #[x0, x1, x2] 199)).grown hg (fun k hk => by have := hvb k hk; omega)).other (p := ⟨W.heap.size + 1, 2, none⟩) HWY.out.ne1 (.slice (some ⟨g, 0, none⟩) (acc.length + 1) cap))
      have HW4 := hide (HW3.out.set2 (.slice (some ⟨g, 0, none⟩) (acc.length + 1) cap))
      clear ho hg hloc cc ff HW3 hB2 cw1
      go_wp2_with fail
      refine ⟨.inr ⟨v, _, hv, rfl, HR.out, HR3.out, HW4.out⟩, ?_⟩
      rw [HM.out, HR3.out.mes, if_neg hv]
      exact Nat.succ_pos _
    | ok z =>
     obtain ⟨n, k⟩ := z
     rw [ha] at hri CA
     simp only at hri
     have hkl := (Px.atom_suf (Px.choice_suf D) ha).2
     rcases sign_two k with hsg | ⟨sn, hsg, hsn⟩
     ·
      have HR : Hid (R0 = Px.row (Px.choice D) f (acc ++ [n]) k) := by show _ = _; rw [hR, hri, if_pos hsg]
      have HL : Hid (k.length < f ∧ k.length ≤ 100 ∧ acc.length + 1 + k.length ≤ 1000 ∧ k.length < r.length) := by show _ ∧ _; omega
      clear hR hf hl hal hrd hw hK hk hs hri ha hrel hkl
      go_wp2_with fail
      refine CA.out.mono ?_
      rintro e w1 ⟨x0, x1, x2, ⟨hB, k', y0, y1, y2, hk1, hk2, hR1, hT1, he⟩, h1, rfl⟩
      simp at he
      obtain ⟨rfl, rfl, rfl⟩ := he
      have HK1 := hide hk1
      have HK2 := hide hk2
      have HT1 := hide hT1
      have CI := hide (item_zero K.trims (hR1.alloc (.cells #[x0, x1, x2] 199)).drew x0 x1 x2 h1 ((sign_cong hk1).trans hsg))
      clear hk1 hk2 hT1 hsg
      have BA := hide ((But.of (b := b) (balloc (brefl w1) (.cells #[x0, x1, x2] 199))).drew)
      have HW1 := hide ((HWY.out.step hB).step BA.out)
      have HK1k := hide ((HKD.out.but hB hb1).but BA.out hb1)
      have hw1 : W.heap.size + 1 < w1.heap.size := (HWY.out.step hB).lt
      have d2 := (HWY.out.step hB).box1.2.2
      have hn1 : w1.heap.size ≠ b := by have := HWY.out.hb; omega
      have hn2 : w1.heap.size ≠ W.heap.size + 1 := by omega
      have hn3 : W.heap.size + 1 ≠ w1.heap.size := by omega
      obtain ⟨xs0, hxs0, hvb0, uo, uc, hvU⟩ := HKD.out.row
      have hlen : (acc.map Nd.pn).length = acc.length := List.length_map ..
      rw [hlen] at hvU
      have hvb : ∀ k, vU.ownBlock = some k → W.heap.size + 1 ≤ k ∧ k < wr.heap.size ∧ k ≠ W.heap.size + 1 := hvb0
      have hwr1 := hB.size
      obtain ⟨o0, o1, o2⟩ := h1
      have s0 := fun w a m => run_store Tryz.prog w a x0 m o0
      have s1 := fun w a m => run_store Tryz.prog w a x1 m o1
      have s2 := fun w a m => run_store Tryz.prog w a x2 m o2
      subst hvU
      clear CA hR1 hxs0 hvb0
      go_wp2_with fail
      go_region_law (first
        | (go_simp
           go_at_call 154
           refine CI.out.mono ?_
           rintro e w2 ⟨hB2, hR2, rfl⟩
           have HW2 := hide (HW1.out.step hB2)
           have HK2k := hide (HK1k.out.but hB2 hb1)
           have hsw2 : w1.heap.size < w2.heap.size := by have := hB2.size; simp only [size_alloc, drew_heap] at this; omega
           have hl2 : W.heap.size + 1 < w2.heap.size := HW2.out.lt
           have hn7 : W.heap.size + 1 ≠ w2.heap.size := by omega
           have cw1 := HW2.out.box1.2.2)
        | (obtain ⟨xs, hxs, _⟩ := (HK2k.out.but (But.of (b := b) (balloc (brefl _) (.cells #[x0, x1, x2] 199))) hb1).row
           have HK3 := hide (HK2k.out.but (But.of (b := b) (balloc (brefl _) (.cells #[x0, x1, x2] 199))) hb1)
           refine step_node rfl (.tmp 16) (.tmp 20) rfl (W.heap.size + 1) (.slice uo acc.length uc) acc.length xs (by simp [Act.eval]) (by rw [← hlen]; simpa [hlen] using hxs) w2.heap.size 1 (by simp [Act.eval]) x0 x1 x2 (box3_new w2 _ _ _ 199) ⟨o0, o1, o2⟩ (by omega) (by rw [size_alloc]; omega) _ rfl ?_
           intro g cap w3 ho hg hloc
           have HW3 := hide ((HW2.out.alloc (.cells #[x0, x1, x2] 199)).grown hg (fun k hk => by have := hvb k hk; omega))
           have cc := HW3.out.box1.2.2
           have ff := HW3.out.free1.2 2))
      all_goals
       have HR3 := hide (((hR2.alloc (.cells #[x0, x1, x2] 199)).grown hg (fun k hk => by have := hvb k hk; omega)).other (p := ⟨W.heap.size + 1, 2, none⟩) HWY.out.ne1 (.slice (some ⟨g, 0, none⟩) (acc.length + 1) cap))
       have HW4 := hide (HW3.out.set2 (.slice (some ⟨g, 0, none⟩) (acc.length + 1) cap))
       have hwb := HWY.out.lt
       have hT2 : Own3 (From wr.heap.size w1) (w2.alloc (.cells #[x0, x1, x2] 199)) (Nd.pn n) [x0, x1, x2] := HT1.out.keep (by have := hB2.size; simp only [size_alloc, drew_heap] at this ⊢; omega) (fun j hj => by
         have h1 := hB2.block j (by have := hj.1; have := HWY.out.hb; omega) (by have := hj.2; rw [drew_heap, size_alloc]; omega)
         rw [heap_alloc_lt _ _ j (by have := hB2.size; simp only [size_alloc, drew_heap] at this; have := hj.2; omega), h1, drew_heap, heap_alloc_lt _ _ j hj.2])
       have HKN := hide ((Kids.more hlen.symm HK3.out hT2 (fun j hj => ⟨by have := hj.1; omega, by have := hj.1; omega, fun e => by have := hvb j e; have := hj.1; omega⟩) (by have := hB2.size; simp only [size_alloc, drew_heap] at this ⊢; omega) hxs ho hg hloc).set 2 (.slice (some ⟨g, 0, none⟩) (acc.length + 1) cap))
       clear ho hg hloc cc ff HW3 hB2 cw1 hT2
       go_wp2_with fail
       have hL := HL.out
       have hk2 := HK2.out
       have hsl := (Px.skip_suf k').length_le
       refine ⟨.inl ⟨hA, f, Px.skip k', acc ++ [n], _, ?_, by omega, by omega, by simp only [List.length_append, List.length_cons, List.length_nil]; omega, HR3.out, HW4.out, ?_⟩, ?_⟩
       ·
        rw [HR.out]
        exact (row_cong ((Px.skip_idem k').trans HK1.out) _ _ _).symm
       ·
        simpa using HKN.out
       rw [HM.out, HR3.out.mes, if_pos rfl]
       omega
     have HR : Hid (R0 = Px.row (Px.choice D) f (acc ++ [.st sn n]) (Px.next k)) := by show _ = _; rw [hR, hri, if_neg (by rw [hsg]; exact hsn), hsg]
     have hnl := sign_next (r := k) (by rw [hsg]; exact hsn)
     have HL : Hid ((Px.next k).length < f ∧ (Px.next k).length ≤ 100 ∧ acc.length + 1 + (Px.next k).length ≤ 1000 ∧ (Px.next k).length < r.length) := by show _ ∧ _; omega
     clear hR hf hl hal hrd hw hK hk hs hri ha hrel hkl hnl
     go_wp2_with fail
     refine CA.out.mono ?_
     rintro e w1 ⟨x0, x1, x2, ⟨hB, k', y0, y1, y2, hk1, hk2, hR1, hT1, he⟩, h1, rfl⟩
     simp at he
     obtain ⟨rfl, rfl, rfl⟩ := he
     have HNX := hide (next_cong hk1)
     have HT1 := hide hT1
     have CI := hide (item_sign K.trims (hR1.alloc (.cells #[x0, x1, x2] 199)).drew x0 x1 x2 h1 sn ((sign_cong hk1).trans hsg) hsn)
     clear hk1 hk2 hT1 hsg
     have BA := hide ((But.of (b := b) (balloc (brefl w1) (.cells #[x0, x1, x2] 199))).drew)
     have HW1 := hide ((HWY.out.step hB).step BA.out)
     have HK1k := hide ((HKD.out.but hB hb1).but BA.out hb1)
     have hw1 : W.heap.size + 1 < w1.heap.size := (HWY.out.step hB).lt
     have d2 := (HWY.out.step hB).box1.2.2
     have hn1 : w1.heap.size ≠ b := by have := HWY.out.hb; omega
     have hn2 : w1.heap.size ≠ W.heap.size + 1 := by omega
     have hn3 : W.heap.size + 1 ≠ w1.heap.size := by omega
     obtain ⟨xs0, hxs0, hvb0, uo, uc, hvU⟩ := HKD.out.row
     have hlen : (acc.map Nd.pn).length = acc.length := List.length_map ..
     rw [hlen] at hvU
     have hvb : ∀ k, vU.ownBlock = some k → W.heap.size + 1 ≤ k ∧ k < wr.heap.size ∧ k ≠ W.heap.size + 1 := hvb0
     have hwr1 := hB.size
     obtain ⟨o0, o1, o2⟩ := h1
     have s0 := fun w a m => run_store Tryz.prog w a x0 m o0
     have s1 := fun w a m => run_store Tryz.prog w a x1 m o1
     have s2 := fun w a m => run_store Tryz.prog w a x2 m o2
     subst hvU
     clear CA hR1 hxs0 hvb0
     go_wp2_with fail
     go_region_law (first
       | (go_simp
          go_at_call 154
          refine CI.out.mono ?_
          rintro e w2 ⟨hB2, hR2, g1, hg1, hc1, rfl⟩
          have HW2 := hide (HW1.out.step hB2)
          have HK2k := hide (HK1k.out.but hB2 hb1)
          have hsw2 : w1.heap.size < w2.heap.size := by have := hB2.size; simp only [size_alloc, drew_heap] at this; omega
          have hl2 : W.heap.size + 1 < w2.heap.size := HW2.out.lt
          have hn7 : W.heap.size + 1 ≠ w2.heap.size := by omega
          have cw1 := HW2.out.box1.2.2)
       | (obtain ⟨xs, hxs, _⟩ := (HK2k.out.but (But.of (b := b) (balloc (brefl _) (.cells #[.int .i64 ((sn : Int) + 2), .slice none 0 0, .slice (some ⟨g1, 0, none⟩) 1 1] 199))) hb1).row
          have HK3 := hide (HK2k.out.but (But.of (b := b) (balloc (brefl _) (.cells #[.int .i64 ((sn : Int) + 2), .slice none 0 0, .slice (some ⟨g1, 0, none⟩) 1 1] 199))) hb1)
          refine step_node rfl (.tmp 16) (.tmp 20) rfl (W.heap.size + 1) (.slice uo acc.length uc) acc.length xs (by simp [Act.eval]) (by rw [← hlen]; simpa [hlen] using hxs) w2.heap.size 1 (by simp [Act.eval]) _ _ _ (box3_new w2 _ _ _ 199) ⟨rfl, rfl, rfl⟩ (by omega) (by rw [size_alloc]; omega) _ rfl ?_
          intro g cap w3 ho hg hloc
          have HW3 := hide ((HW2.out.alloc (.cells #[.int .i64 ((sn : Int) + 2), .slice none 0 0, .slice (some ⟨g1, 0, none⟩) 1 1] 199)).grown hg (fun k hk => by have := hvb k hk; omega))
          have cc := HW3.out.box1.2.2
          have ff := HW3.out.free1.2 2))
     all_goals
      have HR3 := hide (((hR2.alloc (.cells #[.int .i64 ((sn : Int) + 2), .slice none 0 0, .slice (some ⟨g1, 0, none⟩) 1 1] 199)).grown hg (fun k hk => by have := hvb k hk; omega)).other (p := ⟨W.heap.size + 1, 2, none⟩) HWY.out.ne1 (.slice (some ⟨g, 0, none⟩) (acc.length + 1) cap))
      have HW4 := hide (HW3.out.set2 (.slice (some ⟨g, 0, none⟩) (acc.length + 1) cap))
      have hwb := HWY.out.lt
      have hsz2 : w1.heap.size < w2.heap.size := by have := hB2.size; simp only [size_alloc, drew_heap] at this; omega
      have hT2 := sign_own (k := sn) (w' := w2.alloc (.cells #[.int .i64 ((sn : Int) + 2), .slice none 0 0, .slice (some ⟨g1, 0, none⟩) 1 1] 199)) (g := g1) (t := 199) HT1.out (by rw [size_alloc]; omega) (fun j hj => by
        have h1 := hB2.block j (by have := hj.1; have := HWY.out.hb; omega) (by have := hj.2; rw [drew_heap, size_alloc]; omega)
        rw [heap_alloc_lt _ _ j (by have := hj.2; omega), h1, drew_heap, heap_alloc_lt _ _ j hj.2]) (by rw [heap_alloc_lt _ _ g1 (heap_lt hc1)]; exact hc1)
      have HKN := hide ((Kids.more hlen.symm HK3.out hT2 (fun j hj => by
        rcases hj with hj | rfl
        · exact ⟨by have := hj.1; omega, by have := hj.1; omega, fun e => by have := hvb j e; have := hj.1; omega⟩
        · rw [drew_heap, size_alloc] at hg1
          have hB0 := hB.size
          exact ⟨by omega, by omega, fun e => by have := hvb _ e; omega⟩) (by rw [size_alloc]; omega) hxs ho hg hloc).set 2 (.slice (some ⟨g, 0, none⟩) (acc.length + 1) cap))
      clear ho hg hloc cc ff HW3 hB2 cw1 hT2 hc1 hg1
      go_wp2_with fail
      have hL := HL.out
      have hnx := HNX.out
      refine ⟨.inl ⟨hA, f, Px.next k', acc ++ [.st sn n], _, ?_, by rw [hnx]; omega, by rw [hnx]; omega, by rw [hnx]; simp only [List.length_append, List.length_cons, List.length_nil]; omega, HR3.out, HW4.out, ?_⟩, ?_⟩
      ·
       rw [HR.out, hnx]
      ·
       simpa using HKN.out
      rw [HM.out, HR3.out.mes, if_pos rfl, hnx]
      omega
   have hno : ∀ c t, Px.skip r = c :: t → Px.starts c = false := by
    intro c t h
    cases hc : Px.starts c with
    | false => rfl
    | true => exact absurd ⟨c, t, h, hc⟩ hst
   have CA := hide (atom_no K hrd hl hno)
   have HR : Hid (R0 = .ok (acc, Px.skip r)) := by show _ = _; rw [hR, row_halt hno]
   have hal2 : (acc.map Nd.pn).length ≤ 10000 := by rw [List.length_map]; omega
   obtain ⟨xs, hxs, hvb, uo, uc, hvU⟩ := HKD.out.row
   clear hR hf hl hal hrd hw hK hst hno hrel hxs hvb
   go_wp2_with fail
   refine CA.out.mono ?_
   rintro e w1 ⟨rfl, hB, hR1⟩
   have R2 := hide hR1
   have HW2 := hide (HWY.out.step hB)
   have HK2 := hide (HKD.out.but hB hb1)
   subst hvU
   obtain ⟨d0, d1, d2⟩ := HW2.out.box1
   obtain ⟨e0, e1, e2⟩ := HW2.out.box0
   have fr := HW2.out.free0.2
   have f0 := fr 0
   have f1 := fr 1
   have f2 := fr 2
   have hne := HW2.out.ne0
   have hN := HW2.out.hN
   have hlt0 := box3_lt HW2.out.box0
   have hlt1 := HW2.out.lt
   have hn5 : W.heap.size ≠ w1.heap.size := by omega
   have hn6 : W.heap.size + 1 ≠ w1.heap.size := by omega
   clear hB hR1 CA fr
   go_wp2_with fail
   change bodyPost Tryz.prog Tryz.f148 (PnPost b W d (rowR R0)) Exit.ret _ ((put3 w1 W.heap.size (.int .i64 4) (.slice none 0 0) (.slice uo acc.length uc)).alloc zN)
   refine bodyPost_ret (v := .agg #[.int .i64 4, .slice none 0 0, .slice uo acc.length uc]) (res_n Tryz.results148 _ _ W.heap.size rfl (box3_below (put3_box HW2.out.box0 _ _ _) (balloc (brefl _) _))) rfl ?_
   refine pnPost_ok (n := .mk 4 [] (acc.map Nd.pn)) (k := Px.skip r) (k' := Px.skip r) (by rw [HR.out]; rfl) ((put3_but HW2.out.but (.inr (Nat.le_refl _)) _ _ _).alloc _) rfl (Nat.le_refl _) ((put3_rd R2.out hne _ _ _).alloc _) ?_
   have hown := Kids.own (A := W.heap.size) (kd := 4) (w' := (put3 w1 W.heap.size (.int .i64 4) (.slice none 0 0) (.slice uo acc.length uc)).alloc zN) HK2.out (by omega) hal2 (by rw [size_alloc, put3_size]; omega) (fun k hk _ hl => (heap_alloc_lt _ _ k (by rw [put3_size]; exact hl)).trans (put3_other _ _ _ _ _ k (by omega)))
   rw [List.length_map] at hown
   exact hown
  have HR := hide hR
  have HWY := hide hw
  have CA := hide (atom_no K hrd (by simp) (fun c t h => by cases h))
  clear hR hw hrel hrd
  go_wp2_with fail
  refine CA.out.mono ?_
  rintro e w1 ⟨rfl, hB, hR1⟩
  have R2 := hide (show Rd w1 b [] d v from hR1)
  have HW2 := hide (HWY.out.step hB)
  obtain ⟨d0, d1, d2⟩ := HW2.out.box1
  obtain ⟨e0, e1, e2⟩ := HW2.out.box0
  have fr := HW2.out.free0.2
  have f0 := fr 0
  have f1 := fr 1
  have f2 := fr 2
  have hne := HW2.out.ne0
  have s2 := fun w a m => run_store Tryz.prog w a vU m hvU
  have hlt0 := box3_lt HW2.out.box0
  have hlt1 := HW2.out.lt
  have hn5 : W.heap.size ≠ w1.heap.size := by omega
  have hn6 : W.heap.size + 1 ≠ w1.heap.size := by omega
  clear hB hR1 CA fr
  go_wp2_with fail
  change bodyPost Tryz.prog Tryz.f148 (PnPost b W d (rowR R0)) Exit.ret _ ((put3 w1 W.heap.size (.int .i64 4) (.slice none 0 0) vU).alloc zN)
  refine bodyPost_ret (v := .agg #[.int .i64 4, .slice none 0 0, vU]) (res_n Tryz.results148 _ _ W.heap.size rfl (box3_below (put3_box HW2.out.box0 _ _ _) (balloc (brefl _) _))) rfl ?_
  exact pnPost_err (by rw [HR.out]; rfl) ((put3_but HW2.out.but (.inr (Nat.le_refl _)) _ _ _).alloc _) ((put3_rd R2.out hne _ _ _).alloc _) ⟨rfl, rfl, hvU⟩
end Go.Proofs.YtnadhplhnfpeaaaGreatDoor.Ar
