/- The document's set: two rows of numbers in one node. -/
import Derived.Test.YtpmmhmgojjlniaaGreatDoorO11
import Derived.Deep.AppendLies
import Derived.OneCell
import Derived.Deep.MidRow
namespace Go.Proofs.YtpmmhmgojjlniaaGreatDoor.Ar
open Go.RowKit Go.Sort

theorem row_same {w w' : World} {B e size n : Nat} {v : Value} {xs : List Value} (h : w.ownsRow B e size v n xs) (hb : ∀ g, v.ownBlock = some g → w'.heap[g]? = w.heap[g]?) : w'.ownsRow B e size v n xs := by
  obtain ⟨h1, h2⟩ := h
  refine ⟨h1, ?_⟩
  rcases h2 with h2 | ⟨g, cap, cur, rfl, hB, hg, r⟩
  · exact .inl h2
  · exact .inr ⟨g, cap, cur, rfl, hB, (hb g rfl).trans hg, r⟩
/-- A node's block that may be written. -/
def Free (w : World) (b : Nat) : Prop := b < w.heap.size ∧ ∀ o, w.frozen? ⟨b, o, none⟩ = false
theorem free_of {w w' : World} {b : Nat} (h : Free w b) (hs : w.heap.size ≤ w'.heap.size) (hb : w'.heap[b]? = w.heap[b]?) : Free w' b :=
  ⟨Nat.lt_of_lt_of_le h.1 hs, fun o => (World.frozen?_of_block (a := ⟨b, o, none⟩) hb).trans (h.2 o)⟩
theorem box_of {w w' : World} {b : Nat} {x0 x1 x2 x3 x4 x5 : Value} (h : Box w b x0 x1 x2 x3 x4 x5) (hb : w'.heap[b]? = w.heap[b]?) : Box w' b x0 x1 x2 x3 x4 x5 := by
  have e : ∀ o, w'.cell? ⟨b, o, none⟩ = w.cell? ⟨b, o, none⟩ := fun o => World.cell?_of_block (a := ⟨b, o, none⟩) hb
  obtain ⟨h0, h1, h2, h3, h4, h5⟩ := h
  exact ⟨(e 0).trans h0, (e 1).trans h1, (e 2).trans h2, (e 3).trans h3, (e 4).trans h4, (e 5).trans h5⟩
theorem heap_setCell_ne (w : World) (b o k : Nat) (v : Value) (h : k ≠ b) : (w.setCell ⟨b, o, none⟩ v).heap[k]? = w.heap[k]? := by
  unfold World.setCell
  rw [Array.getElem?_modify, if_neg (fun e => h e.symm)]
theorem size_setCell (w : World) (a : Addr) (v : Value) : (w.setCell a v).heap.size = w.heap.size := by simp [World.setCell]
theorem heap_alloc_lt (w : World) (o : Obj) (k : Nat) (h : k < w.heap.size) : (w.alloc o).heap[k]? = w.heap[k]? := by
  show (w.heap.push o)[k]? = _
  rw [Array.getElem?_push, if_neg (Nat.ne_of_lt h)]
theorem size_alloc (w : World) (o : Obj) : (w.alloc o).heap.size = w.heap.size + 1 := by simp

/-- The document's set on its way: the result's block, the node's block, the two rows. -/
structure SetInv (W : World) (acc : List Prt) (vF vT : Value) (wr : World) : Prop where
  free0 : Free wr W.heap.size
  box0 : Box wr W.heap.size (.int .i64 0) (.bool false) (.bool false) (.slice none 0 0) (.slice none 0 0) (.slice none 0 0)
  free1 : Free wr (W.heap.size + 1)
  box1 : Box wr (W.heap.size + 1) (.int .i64 0) (.bool false) (.bool true) vF vT (.slice none 0 0)
  rowF : wr.ownsRow (W.heap.size + 2) 3 1 vF acc.length (Is.cells (acc.map Prod.fst))
  rowT : wr.ownsRow (W.heap.size + 2) 3 1 vT acc.length (Is.cells (acc.map fun p => p.2.1))
  sep : ∀ k, vF.ownBlock = some k → vT.ownBlock ≠ some k
  below : Below W.heap.size W wr
  big : W.heap.size + 2 ≤ wr.heap.size
/-- Behind the first of two appends. -/
structure SetMid (W : World) (acc : List Prt) (a : Int) (vF vT nF : Value) (w1 : World) : Prop where
  free0 : Free w1 W.heap.size
  box0 : Box w1 W.heap.size (.int .i64 0) (.bool false) (.bool false) (.slice none 0 0) (.slice none 0 0) (.slice none 0 0)
  free1 : Free w1 (W.heap.size + 1)
  box1 : Box w1 (W.heap.size + 1) (.int .i64 0) (.bool false) (.bool true) vF vT (.slice none 0 0)
  rowF : w1.ownsRow (W.heap.size + 2) 3 1 nF (acc.length + 1) (Is.cells (acc.map Prod.fst) ++ [.int .i64 a])
  rowT : w1.ownsRow (W.heap.size + 2) 3 1 vT acc.length (Is.cells (acc.map fun p => p.2.1))
  sep : ∀ k, nF.ownBlock = some k → vT.ownBlock ≠ some k
  below : Below W.heap.size W w1
  big : W.heap.size + 2 ≤ w1.heap.size
theorem SetInv.first {W : World} {acc : List Prt} {vF vT : Value} {wr w1 : World} {a : Int} {o : Obj} {g cap : Nat} (h : SetInv W acc vF vT wr) (ho : w1.ownsRow (W.heap.size + 2) 3 1 (.slice (some ⟨g, 0, none⟩) (acc.length + 1) cap) (acc.length + 1) (Is.cells (acc.map Prod.fst) ++ [.int .i64 a]))
    (hg : (wr.alloc o).grownBy w1 vF.ownBlock) (hl : vF.ownBlock = some g ∨ g = wr.heap.size + 1) : SetMid W acc a vF vT (.slice (some ⟨g, 0, none⟩) (acc.length + 1) cap) w1 := by
  have hbig := h.big
  have hsz := hg.size
  rw [size_alloc] at hsz
  have hF : ∀ k, vF.ownBlock = some k → W.heap.size + 2 ≤ k ∧ k < wr.heap.size := fun k hk => h.rowF.lt k hk
  have hT : ∀ k, vT.ownBlock = some k → W.heap.size + 2 ≤ k ∧ k < wr.heap.size := fun k hk => h.rowT.lt k hk
  have hblk : ∀ k, k < wr.heap.size → vF.ownBlock ≠ some k → w1.heap[k]? = wr.heap[k]? := fun k hk hne =>
    (hg.block k (by rw [size_alloc]; omega) (fun e => hne e.symm)).trans (heap_alloc_lt wr o k hk)
  have h0 : w1.heap[W.heap.size]? = wr.heap[W.heap.size]? := hblk _ (by omega) (fun e => by have := (hF _ e).1; omega)
  have h1 : w1.heap[W.heap.size + 1]? = wr.heap[W.heap.size + 1]? := hblk _ (by omega) (fun e => by have := (hF _ e).1; omega)
  refine ⟨free_of h.free0 (by omega) h0, box_of h.box0 h0, free_of h.free1 (by omega) h1, box_of h.box1 h1, ho, row_same h.rowT fun k hk => hblk k (hT k hk).2 (fun e => h.sep k e hk), ?_, ?_, by omega⟩
  · intro k hk hk2
    simp only [Value.ownBlock, Option.some.injEq] at hk
    subst hk
    rcases hl with hl | hl
    · exact h.sep _ hl hk2
    · have := (hT _ hk2).2; omega
  · exact Below.grown (h.below.alloc h.below.size o) hg (by rw [size_alloc]; omega) fun k hk => by have := (hF k hk).1; omega
theorem SetMid.second {W : World} {acc : List Prt} {vF vT nF : Value} {w1 w3 : World} {a b : Int} (tw : Bool) {o : Obj} {g cap : Nat} (h : SetMid W acc a vF vT nF w1)
    (ho : w3.ownsRow (W.heap.size + 2) 3 1 (.slice (some ⟨g, 0, none⟩) (acc.length + 1) cap) (acc.length + 1) (Is.cells (acc.map fun p => p.2.1) ++ [.int .i64 b]))
    (hg : ((w1.setCell ⟨W.heap.size + 1, 3, none⟩ nF).alloc o).grownBy w3 vT.ownBlock) (hl : vT.ownBlock = some g ∨ g = w1.heap.size + 1) :
    Free w3 (W.heap.size + 1) ∧ Box w3 (W.heap.size + 1) (.int .i64 0) (.bool false) (.bool true) nF vT (.slice none 0 0) ∧ SetInv W (acc ++ [(a, b, tw)]) nF (.slice (some ⟨g, 0, none⟩) (acc.length + 1) cap) (w3.setCell ⟨W.heap.size + 1, 4, none⟩ (.slice (some ⟨g, 0, none⟩) (acc.length + 1) cap)) := by
  have hbig := h.big
  have hsz := hg.size
  rw [size_alloc, size_setCell] at hsz
  have hF : ∀ k, nF.ownBlock = some k → W.heap.size + 2 ≤ k ∧ k < w1.heap.size := fun k hk => h.rowF.lt k hk
  have hT : ∀ k, vT.ownBlock = some k → W.heap.size + 2 ≤ k ∧ k < w1.heap.size := fun k hk => h.rowT.lt k hk
  have hblk : ∀ k, k < w1.heap.size → vT.ownBlock ≠ some k → w3.heap[k]? = (w1.setCell ⟨W.heap.size + 1, 3, none⟩ nF).heap[k]? := fun k hk hne =>
    (hg.block k (by rw [size_alloc, size_setCell]; omega) (fun e => hne e.symm)).trans (heap_alloc_lt _ o k (by rw [size_setCell]; exact hk))
  have h1 : w3.heap[W.heap.size + 1]? = (w1.setCell ⟨W.heap.size + 1, 3, none⟩ nF).heap[W.heap.size + 1]? := hblk _ (by omega) (fun e => by have := (hT _ e).1; omega)
  have h0 : w3.heap[W.heap.size]? = w1.heap[W.heap.size]? := (hblk _ (by omega) (fun e => by have := (hT _ e).1; omega)).trans (heap_setCell_ne _ _ _ _ _ (by omega))
  have fS : Free (w1.setCell ⟨W.heap.size + 1, 3, none⟩ nF) (W.heap.size + 1) := ⟨by rw [size_setCell]; exact h.free1.1, fun o => by simpa using h.free1.2 o⟩
  have bS : Box (w1.setCell ⟨W.heap.size + 1, 3, none⟩ nF) (W.heap.size + 1) (.int .i64 0) (.bool false) (.bool true) nF vT (.slice none 0 0) := by
    obtain ⟨c0, c1, c2, c3, c4, c5⟩ := h.box1
    refine ⟨?_, ?_, ?_, ?_, ?_, ?_⟩ <;> simp [go_sem, c0, c1, c2, c3, c4, c5]
  have f3 := free_of (w' := w3) fS (by rw [size_setCell]; omega) h1
  have b3 := box_of (w' := w3) bS h1
  refine ⟨f3, b3, ?_⟩
  have hsz' : (w3.setCell ⟨W.heap.size + 1, 4, none⟩ (.slice (some ⟨g, 0, none⟩) (acc.length + 1) cap)).heap.size = w3.heap.size := size_setCell _ _ _
  have hB3 : Below W.heap.size W w3 := Below.grown ((h.below.setCell (p := ⟨W.heap.size + 1, 3, none⟩) (Nat.le_succ _) nF).alloc (by rw [size_setCell]; exact h.below.size) o) hg (by rw [size_alloc, size_setCell]; omega) fun k hk => by have := (hT k hk).1; omega
  refine ⟨?_, ?_, ?_, ?_, ?_, ?_, ?_, hB3.setCell (p := ⟨W.heap.size + 1, 4, none⟩) (Nat.le_succ _) _, by rw [hsz']; omega⟩
  · exact free_of (free_of h.free0 (w' := w3) (by omega) h0) (by rw [hsz']; omega) (heap_setCell_ne _ _ _ _ _ (by omega))
  · exact box_of (box_of h.box0 (w' := w3) h0) (heap_setCell_ne _ _ _ _ _ (by omega))
  · exact ⟨by rw [hsz']; exact f3.1, fun o => by simpa using f3.2 o⟩
  · obtain ⟨c0, c1, c2, c3, c4, c5⟩ := b3
    refine ⟨?_, ?_, ?_, ?_, ?_, ?_⟩ <;> simp [go_sem, c0, c1, c2, c3, c4, c5]
  · have hr : w3.ownsRow (W.heap.size + 2) 3 1 nF (acc.length + 1) (Is.cells (acc.map Prod.fst) ++ [.int .i64 a]) :=
      row_same h.rowF fun k hk => (hblk k (hF k hk).2 (fun e => h.sep k hk e)).trans (heap_setCell_ne _ _ _ _ _ (by have := (hF k hk).1; omega))
    have := ownsRow_setCell_below hr (a := ⟨W.heap.size + 1, 4, none⟩) (Nat.lt_succ_self _) (.slice (some ⟨g, 0, none⟩) (acc.length + 1) cap)
    simpa [Is.cells] using this
  · have := ownsRow_setCell_below ho (a := ⟨W.heap.size + 1, 4, none⟩) (Nat.lt_succ_self _) (.slice (some ⟨g, 0, none⟩) (acc.length + 1) cap)
    simpa [Is.cells] using this
  · intro k hk hk2
    simp only [Value.ownBlock, Option.some.injEq] at hk2
    subst hk2
    rcases hl with hl | hl
    · exact h.sep _ hk hl
    · have := (hF _ hk).2; omega
/-- A tree that lies in blocks from B on: it lies there in every world that keeps those. -/
def Tr.Own (B : Nat) (w : World) (t : Tr) (cs : List Value) : Prop := ∀ w', (∀ k, B ≤ k → k < w.heap.size → w'.heap[k]? = w.heap[k]?) → Tr.At w' t cs
theorem Tr.Own.at {B : Nat} {w : World} {t : Tr} {cs : List Value} (h : Tr.Own B w t cs) : Tr.At w t cs := h w fun _ _ _ => rfl
theorem Tr.Own.keep {B B' : Nat} {w w' : World} {t : Tr} {cs : List Value} (h : Tr.Own B w t cs) (hB : B' ≤ B) (hs : w.heap.size ≤ w'.heap.size) (hk : ∀ k, B ≤ k → k < w.heap.size → w'.heap[k]? = w.heap[k]?) : Tr.Own B' w' t cs :=
  fun w2 h2 => h w2 fun k h3 h4 => (h2 k (by omega) (by omega)).trans (hk k h3 h4)
/-- Six cells put into a block. -/
def put6 (w : World) (g : Nat) (y0 y1 y2 y3 y4 y5 : Value) : World := (((((w.setCell ⟨g, 0, none⟩ y0).setCell ⟨g, 1, none⟩ y1).setCell ⟨g, 2, none⟩ y2).setCell ⟨g, 3, none⟩ y3).setCell ⟨g, 4, none⟩ y4).setCell ⟨g, 5, none⟩ y5
theorem put6_size (w : World) (g : Nat) (y0 y1 y2 y3 y4 y5 : Value) : (put6 w g y0 y1 y2 y3 y4 y5).heap.size = w.heap.size := by simp [put6]
theorem put6_other (w : World) (g : Nat) (y0 y1 y2 y3 y4 y5 : Value) (k : Nat) (h : k ≠ g) : (put6 w g y0 y1 y2 y3 y4 y5).heap[k]? = w.heap[k]? := by
  unfold put6
  rw [heap_setCell_ne _ _ _ _ _ h, heap_setCell_ne _ _ _ _ _ h, heap_setCell_ne _ _ _ _ _ h, heap_setCell_ne _ _ _ _ _ h, heap_setCell_ne _ _ _ _ _ h, heap_setCell_ne _ _ _ _ _ h]
theorem put6_below {W w : World} {g : Nat} (h : Below W.heap.size W w) (hg : W.heap.size ≤ g) (y0 y1 y2 y3 y4 y5 : Value) : Below W.heap.size W (put6 w g y0 y1 y2 y3 y4 y5) :=
  (((((h.setCell (p := ⟨g, 0, none⟩) hg y0).setCell (p := ⟨g, 1, none⟩) hg y1).setCell (p := ⟨g, 2, none⟩) hg y2).setCell (p := ⟨g, 3, none⟩) hg y3).setCell (p := ⟨g, 4, none⟩) hg y4).setCell (p := ⟨g, 5, none⟩) hg y5
theorem put6_box {w : World} {g : Nat} {x0 x1 x2 x3 x4 x5 : Value} (h : Box w g x0 x1 x2 x3 x4 x5) (y0 y1 y2 y3 y4 y5 : Value) : Box (put6 w g y0 y1 y2 y3 y4 y5) g y0 y1 y2 y3 y4 y5 := by
  obtain ⟨c0, c1, c2, c3, c4, c5⟩ := h
  unfold put6
  refine ⟨?_, ?_, ?_, ?_, ?_, ?_⟩ <;> simp [go_sem, c0, c1, c2, c3, c4, c5]
theorem box_range {w : World} {g : Nat} {y0 y1 y2 y3 y4 y5 : Value} (h : Box w g y0 y1 y2 y3 y4 y5) : w.rangeAt g 0 [y0, y1, y2, y3, y4, y5] := by
  obtain ⟨c0, c1, c2, c3, c4, c5⟩ := h
  intro j v hj
  rw [Nat.zero_add]
  match j, hj with
  | 0, hj => simp at hj; subst hj; exact c0
  | 1, hj => simp at hj; subst hj; exact c1
  | 2, hj => simp at hj; subst hj; exact c2
  | 3, hj => simp at hj; subst hj; exact c3
  | 4, hj => simp at hj; subst hj; exact c4
  | 5, hj => simp at hj; subst hj; exact c5
end Go.Proofs.YtpmmhmgojjlniaaGreatDoor.Ar
namespace Go.Proofs.YtpmmhmgojjlniaaGreatDoor.Ar
open Go.RowKit Go.Sort

theorem number_err {r : Bs} {q : Int} (h : Px.number r = .error q) : q ≠ 0 := by
  unfold Px.number at h
  split at h
  · split at h
    · cases h
    · cases h; decide
  · cases h; decide
theorem set_err : ∀ (f : Nat) (acc : List Prt) (r : Bs) (q : Int), Px.set f acc r = .error q → q ≠ 0
  | 0, _, _, _, h => by cases h; decide
  | f + 1, acc, r, q, h => by
    rw [Px.set] at h
    split at h
    · cases h
    · split at h
      · rename_i e hn; cases h; exact number_err hn
      · split at h
        · split at h
          · rename_i e hn; cases h; exact number_err hn
          · split at h
            · cases h; decide
            · exact set_err f _ _ q h
        · exact set_err f _ _ q h
def NoErr (ch : Bs → Except Int (List (List Nd) × Bs)) : Prop := ∀ r q, ch r = .error q → q ≠ 0
theorem atom_err {ch : Bs → Except Int (List (List Nd) × Bs)} (hc : NoErr ch) {r : Bs} {q : Int} (h : Px.atom ch r = .error q) : q ≠ 0 := by
  unfold Px.atom at h
  split at h
  · cases h
  · split at h
    · split at h
      · rename_i e hs; cases h; exact set_err _ _ _ _ hs
      · cases h
    · split at h
      · split at h
        · rename_i e hs; cases h; exact hc _ _ hs
        · split at h
          · cases h
          · cases h; decide
      · split at h
        · rename_i e hs; cases h; exact number_err hs
        · cases h
theorem item_err {ch : Bs → Except Int (List (List Nd) × Bs)} (hc : NoErr ch) {r : Bs} {q : Int} (h : Px.item ch r = .error q) : q ≠ 0 := by
  unfold Px.item at h
  split at h
  · rename_i e hs; cases h; exact atom_err hc hs
  · split at h <;> cases h
theorem row_err {ch : Bs → Except Int (List (List Nd) × Bs)} (hc : NoErr ch) : ∀ (f : Nat) (acc : List Nd) (r : Bs) (q : Int), Px.row ch f acc r = .error q → q ≠ 0
  | 0, _, _, _, h => by cases h; decide
  | f + 1, acc, r, q, h => by
    rw [Px.row] at h
    split at h
    · cases h
    · split at h
      · split at h
        · rename_i e hs; cases h; exact item_err hc hs
        · exact row_err hc f _ _ q h
      · cases h
theorem rows_err {ch : Bs → Except Int (List (List Nd) × Bs)} (hc : NoErr ch) : ∀ (f : Nat) (acc : List (List Nd)) (r : Bs) (q : Int), Px.rows ch f acc r = .error q → q ≠ 0
  | 0, _, _, _, h => by cases h; decide
  | f + 1, acc, r, q, h => by
    rw [Px.rows] at h
    split at h
    · rename_i e hs; cases h; exact row_err hc _ _ _ _ hs
    · split at h
      · exact rows_err hc f _ _ q h
      · cases h
theorem choice_err : ∀ d, NoErr (Px.choice d)
  | 0 => fun r q h => by cases h; decide
  | d + 1 => fun r q h => rows_err (choice_err d) _ _ r q h
theorem err_ne {s : Bs} {q : Int} (h : Px.parse s = .error q) : q ≠ 0 := by
  unfold Px.parse at h
  by_cases hl : 64 < s.length
  · rw [if_pos hl] at h; cases h; decide
  · rw [if_neg hl] at h
    cases hc : Px.choice 8 (if Px.isAt s 94 = true then Px.next s else s) with
    | error e => rw [hc] at h; cases h; exact choice_err 8 _ _ hc
    | ok z =>
      rw [hc] at h
      simp only at h
      by_cases hk : Px.skip (if Px.isAt z.2 36 = true then Px.next z.2 else z.2) = []
      · rw [if_pos hk] at h; cases h
      · rw [if_neg hk] at h; cases h; decide
theorem slot_lit (W : World) (l : List Int) (t : TypeId) : Is.slot (W.alloc (.cells (Is.cells l).toArray t)) (some ⟨W.heap.size, 0, none⟩) l := by
  refine .inr ⟨_, 0, rfl, fun j hj => ?_⟩
  rw [Nat.zero_add]
  simp [Is.cells, hj]

end Go.Proofs.YtpmmhmgojjlniaaGreatDoor.Ar
namespace Go.Proofs.YtpmmhmgojjlniaaGreatDoor.Ar
open Go.RowKit Go.Sort

theorem bool_of (P : Prop) : ∃ b : Bool, (b = true ↔ P) := by
  by_cases h : P
  · exact ⟨true, fun _ => h, fun _ => rfl⟩
  · exact ⟨false, fun e => (by cases e), fun e => absurd e h⟩
theorem ba_size (l : Bs) : (⟨l.toArray⟩ : ByteArray).size = l.length := by
  show l.toArray.size = _
  simp
theorem ba_list (l : Bs) : (⟨l.toArray⟩ : ByteArray).data.toList = l := by simp

end Go.Proofs.YtpmmhmgojjlniaaGreatDoor.Ar
namespace Go.Proofs.YtpmmhmgojjlniaaGreatDoor.Ar

/-- What is left ends ahead of what is put behind it: something but blanks is left, or a ) is put there. -/
def Cut (k u : Bs) : Prop := Px.skip k ≠ [] ∨ ∃ v, u = 41 :: v
theorem skip_app_ne {k u : Bs} (h : Px.skip k ≠ []) : Px.skip (k ++ u) = Px.skip k ++ u := by
  induction k with
  | nil => exact absurd rfl h
  | cons c t ih =>
    by_cases hc : c = 32
    · subst hc
      rw [Px.skip_blank] at h ⊢
      rw [List.cons_append, Px.skip_blank]
      exact ih h
    · rw [List.cons_append, Px.skip_of hc, Px.skip_of hc]
      rfl
theorem skip_app_nil {k : Bs} (h : Px.skip k = []) (u : Bs) : Px.skip (k ++ u) = Px.skip u := by
  induction k with
  | nil => rfl
  | cons c t ih =>
    by_cases hc : c = 32
    · subst hc
      rw [Px.skip_blank] at h
      rw [List.cons_append, Px.skip_blank]
      exact ih h
    · rw [Px.skip_of hc] at h
      cases h
theorem Cut.skip {k u : Bs} (h : Cut k u) : Px.skip (k ++ u) = Px.skip k ++ u := by
  rcases h with h | ⟨v, rfl⟩
  · exact skip_app_ne h
  · by_cases hk : Px.skip k = []
    · rw [skip_app_nil hk, hk, Px.skip_of (by decide)]
      rfl
    · exact skip_app_ne hk
theorem Cut.isAt {k u : Bs} (h : Cut k u) (d : UInt8) (hd : d ≠ 41) : Px.isAt (k ++ u) d = Px.isAt k d := by
  unfold Px.isAt
  rw [h.skip]
  cases hk : Px.skip k with
  | nil =>
    rcases h with h | ⟨v, rfl⟩
    · exact absurd hk h
    · simpa using fun e => hd e.symm
  | cons c t => rfl
theorem Cut.isAt_yes {k u : Bs} (h : Cut k u) {d : UInt8} (hd : Px.isAt k d = true) : Px.isAt (k ++ u) d = true := by
  obtain ⟨t, h1, _⟩ := Px.isAt_some hd
  unfold Px.isAt
  rw [h.skip, h1]
  simp
theorem Cut.next {k u : Bs} (h : Cut k u) {d : UInt8} (hd : Px.isAt k d = true) : Px.next (k ++ u) = Px.next k ++ u := by
  obtain ⟨t, h1, h2⟩ := Px.isAt_some hd
  rw [h2]
  unfold Px.next
  rw [h.skip, h1]
  rfl
theorem dropW_nil {p : UInt8 → Bool} : ∀ l : List UInt8, l.dropWhile p = [] ↔ ∀ x ∈ l, p x = true
  | [] => by simp
  | c :: r => by
    have ih := dropW_nil (p := p) r
    rw [List.dropWhile_cons]
    cases h : p c
    · simp [h]
    · simp [h, ih]
theorem skip_ne_suf {k r : Bs} (h : Px.skip k ≠ []) (hk : k <:+ r) : Px.skip r ≠ [] := by
  obtain ⟨p, rfl⟩ := hk
  intro e
  apply h
  have : ∀ c ∈ p ++ k, c = 32 := by
    intro c hc
    unfold Px.skip at e
    have := ((dropW_nil _).1 e) c hc
    simpa using this
  unfold Px.skip
  rw [dropW_nil]
  intro c hc
  simpa using this c (by simp [hc])
theorem Cut.suf {k r u : Bs} (h : Cut k u) (hk : k <:+ r) : Cut r u := by
  rcases h with h | h
  · exact .inl (skip_ne_suf h hk)
  · exact .inr h
theorem skip_suf_of_next {r : Bs} : Px.next r <:+ Px.skip r := List.tail_suffix _

theorem take_end : ∀ (q : Bs), (q.drop (q.takeWhile Ad.dig).length = []) ∨ ∃ c t, q.drop (q.takeWhile Ad.dig).length = c :: t ∧ Ad.dig c = false
  | [] => .inl rfl
  | c :: t => by
    rw [List.takeWhile_cons]
    cases h : Ad.dig c
    · exact .inr ⟨c, t, by simp, h⟩
    · simpa using take_end t
theorem number_app {r k u : Bs} {x : Int} (h : Px.number r = .ok (x, k)) (hc : Cut k u) : Px.number (r ++ u) = .ok (x, k ++ u) := by
  have hr : Cut r u := hc.suf (Px.number_suf h).1
  have hk : k = (Px.skip r).drop (Px.digits r).length := by
    unfold Px.number at h
    split at h
    · split at h
      · simp only [Except.ok.injEq, Prod.mk.injEq] at h; exact h.2.symm
      · cases h
    · cases h
  have hsplit : Px.skip r = Px.digits r ++ k := by
    rw [hk]
    have hp : Px.digits r <+: Px.skip r := List.takeWhile_prefix _
    obtain ⟨t, ht⟩ := hp
    rw [← ht]
    simp
  have hnd : NoDig (k ++ u) := by
    cases k with
    | nil =>
      rcases hc with hc | ⟨v, rfl⟩
      · exact absurd rfl hc
      · exact NoDig.of (by decide) v
    | cons c t =>
      have : Ad.dig c = false := by
        have he := take_end (Px.skip r)
        rw [show (Px.skip r).takeWhile Ad.dig = Px.digits r from rfl, ← hk] at he
        rcases he with he | ⟨c', t', he, hd⟩
        · cases he
        · rw [(List.cons.inj he).1]; exact hd
      exact NoDig.of this _
  have hdd : Px.digits (r ++ u) = Px.digits r := by
    have e1 : Px.digits (r ++ u) = (Px.digits r ++ (k ++ u)).takeWhile Ad.dig := by
      unfold Px.digits at hsplit ⊢
      rw [hr.skip, ← List.append_assoc, ← hsplit]
    rw [e1]
    refine take_all ?_ hnd
    unfold Px.digits Ad.digs
    exact List.all_takeWhile
  unfold Px.number at h ⊢
  rw [hdd, hr.skip]
  split at h
  · rename_i h1
    rw [if_pos h1]
    split at h
    · rename_i h2
      rw [if_pos h2]
      simp only [Except.ok.injEq, Prod.mk.injEq] at h ⊢
      refine ⟨h.1, ?_⟩
      rw [hsplit, List.append_assoc]
      simp
    · cases h
  · cases h
theorem set_mono : ∀ (f : Nat) (acc : List Prt) (r : Bs) (y : List Prt × Bs) (g : Nat), f ≤ g → Px.set f acc r = .ok y → Px.set g acc r = .ok y
  | 0, _, _, _, _, _, h => by cases h
  | f + 1, acc, r, y, 0, hg, h => by omega
  | f + 1, acc, r, y, g + 1, hg, h => by
    rw [Px.set] at h ⊢
    split at h
    · rename_i hc
      rw [if_pos hc]; exact h
    · rename_i hc
      rw [if_neg hc]
      split at h
      · cases h
      · rename_i a k hn
        split at h
        · rename_i h1
          rw [if_pos h1]
          split at h
          · cases h
          · rename_i b k2 hn2
            split at h
            · cases h
            · rename_i h2
              rw [if_neg h2]
              exact set_mono f _ k2 y g (by omega) h
        · rename_i h1
          rw [if_neg h1]
          exact set_mono f _ k y g (by omega) h
theorem set_app : ∀ (f : Nat) (acc : List Prt) (r : Bs) (rs : List Prt) (k u : Bs), Px.set f acc r = .ok (rs, k) → Cut k u → Px.set f acc (r ++ u) = .ok (rs, k ++ u)
  | 0, _, _, _, _, _, h, _ => by cases h
  | f + 1, acc, r, rs, k, u, h, hc => by
    have hr : Cut r u := hc.suf (Px.set_suf _ _ _ _ _ h).1
    rw [Px.set] at h ⊢
    rw [hr.isAt 93 (by decide)]
    split at h
    · rename_i h1
      rw [if_pos h1, hr.next h1.2]
      simp only [Except.ok.injEq, Prod.mk.injEq] at h ⊢
      exact ⟨h.1, by rw [h.2]⟩
    · rename_i h1
      rw [if_neg h1]
      split at h
      · cases h
      · rename_i a k1 hn
        by_cases hm : Px.isAt k1 45 = true
        · rw [if_pos hm] at h
          split at h
          · cases h
          · rename_i b k2 hn2
            split at h
            · cases h
            · rename_i hab
              have c2 : Cut k2 u := hc.suf (Px.set_suf _ _ _ _ _ h).1
              have c1 : Cut k1 u := c2.suf ((Px.number_suf hn2).1.trans (Px.next_suf k1))
              rw [number_app hn c1]
              simp only [c1.isAt 45 (by decide), hm, if_true]
              rw [c1.next hm, number_app hn2 c2]
              simp only [if_neg hab]
              exact set_app f _ k2 rs k u h hc
        · rw [if_neg hm] at h
          have c1 : Cut k1 u := hc.suf (Px.set_suf _ _ _ _ _ h).1
          rw [number_app hn c1]
          simp only [c1.isAt 45 (by decide), if_neg hm]
          exact set_app f _ k1 rs k u h hc
end Go.Proofs.YtpmmhmgojjlniaaGreatDoor.Ar
namespace Go.Proofs.YtpmmhmgojjlniaaGreatDoor.Ar

abbrev Rdr : Type := Bs → Except Int (List (List Nd) × Bs)
def App (ch : Rdr) : Prop := ∀ r c k u, ch r = .ok (c, k) → Cut k u → ch (r ++ u) = .ok (c, k ++ u)
theorem atom_app {ch : Rdr} (hS : Px.Suf ch) (hA : App ch) {r k u : Bs} {n : Nd} (h : Px.atom ch r = .ok (n, k)) (hc : Cut k u) : Px.atom ch (r ++ u) = .ok (n, k ++ u) := by
  have hr : Cut r u := hc.suf (Px.atom_suf hS h).1
  unfold Px.atom at h ⊢
  rw [hr.isAt 46 (by decide), hr.isAt 91 (by decide), hr.isAt 40 (by decide)]
  split at h
  · rename_i h1
    rw [if_pos h1, hr.next h1]
    simp only [Except.ok.injEq, Prod.mk.injEq] at h ⊢
    exact ⟨h.1, by rw [h.2]⟩
  · rename_i h1
    rw [if_neg h1]
    split at h
    · rename_i h2
      rw [if_pos h2, hr.next h2]
      split at h
      · cases h
      · rename_i rs k1 hs
        simp only [Except.ok.injEq, Prod.mk.injEq] at h
        obtain ⟨rfl, rfl⟩ := h
        rw [set_mono _ _ _ _ _ (by simp) (set_app _ _ _ _ _ u hs hc)]
    · rename_i h2
      rw [if_neg h2]
      split at h
      · rename_i h3
        rw [if_pos h3, hr.next h3]
        split at h
        · cases h
        · rename_i c k1 hs
          split at h
          · rename_i h4
            simp only [Except.ok.injEq, Prod.mk.injEq] at h
            obtain ⟨rfl, rfl⟩ := h
            have c1 : Cut k1 u := hc.suf (Px.next_suf k1)
            rw [hA _ _ _ u hs c1]
            simp only [c1.isAt_yes h4, if_true, c1.next h4]
          · cases h
      · rename_i h3
        rw [if_neg h3]
        split at h
        · cases h
        · rename_i x k1 hn
          simp only [Except.ok.injEq, Prod.mk.injEq] at h
          obtain ⟨rfl, rfl⟩ := h
          rw [number_app hn hc]
theorem Cut.sign {k u : Bs} (h : Cut k u) : Px.sign (k ++ u) = Px.sign k := by
  unfold Px.sign
  rw [h.isAt 42 (by decide), h.isAt 43 (by decide), h.isAt 63 (by decide)]
theorem sign_isAt {k : Bs} (h : Px.sign k ≠ 0) : ∃ d, Px.isAt k d = true := by
  unfold Px.sign at h
  split at h
  · rename_i h1; exact ⟨_, h1⟩
  · split at h
    · rename_i h1; exact ⟨_, h1⟩
    · split at h
      · rename_i h1; exact ⟨_, h1⟩
      · exact absurd rfl h
theorem item_app {ch : Rdr} (hS : Px.Suf ch) (hA : App ch) {r k u : Bs} {n : Nd} (h : Px.item ch r = .ok (n, k)) (hc : Cut k u) : Px.item ch (r ++ u) = .ok (n, k ++ u) := by
  unfold Px.item at h ⊢
  split at h
  · cases h
  · rename_i m k1 ha
    split at h
    · rename_i hs
      simp only [Except.ok.injEq, Prod.mk.injEq] at h
      obtain ⟨rfl, rfl⟩ := h
      rw [atom_app hS hA ha hc]
      simp only [hc.sign, hs, if_true]
    · rename_i hs
      simp only [Except.ok.injEq, Prod.mk.injEq] at h
      obtain ⟨rfl, rfl⟩ := h
      have c1 : Cut k1 u := hc.suf (Px.next_suf k1)
      obtain ⟨d, hd⟩ := sign_isAt hs
      rw [atom_app hS hA ha c1]
      simp only [c1.sign, if_neg hs, c1.next hd]
theorem row_app {ch : Rdr} (hS : Px.Suf ch) (hA : App ch) : ∀ (f : Nat) (acc : List Nd) (r : Bs) (l : List Nd) (k u : Bs), Px.row ch f acc r = .ok (l, k) → Cut k u → Px.row ch f acc (r ++ u) = .ok (l, k ++ u)
  | 0, _, _, _, _, _, h, _ => by cases h
  | f + 1, acc, r, l, k, u, h, hc => by
    have hr : Cut r u := hc.suf (Px.row_suf hS _ _ _ _ _ h)
    rw [Px.row] at h ⊢
    rw [hr.skip]
    split at h
    · rename_i he
      simp only [Except.ok.injEq, Prod.mk.injEq] at h
      obtain ⟨rfl, rfl⟩ := h
      rw [he]
      rcases hc with hc | ⟨v, rfl⟩
      · exact absurd rfl hc
      · rfl
    · rename_i c t he
      rw [he]
      simp only [List.cons_append]
      split at h
      · rename_i hst
        rw [if_pos hst]
        split at h
        · cases h
        · rename_i n k1 hi
          have c1 : Cut k1 u := hc.suf (Px.row_suf hS _ _ _ _ _ h)
          have := item_app hS hA hi c1
          rw [List.cons_append] at this
          rw [this]
          exact row_app hS hA f _ k1 l k u h hc
      · rename_i hst
        rw [if_neg hst]
        simp only [Except.ok.injEq, Prod.mk.injEq] at h
        obtain ⟨rfl, rfl⟩ := h
        rfl
theorem row_mono {ch : Rdr} : ∀ (f : Nat) (acc : List Nd) (r : Bs) (y : List Nd × Bs) (g : Nat), f ≤ g → Px.row ch f acc r = .ok y → Px.row ch g acc r = .ok y
  | 0, _, _, _, _, _, h => by cases h
  | f + 1, acc, r, y, 0, hg, h => by omega
  | f + 1, acc, r, y, g + 1, hg, h => by
    rw [Px.row] at h ⊢
    split at h
    · rename_i he
      exact h
    · rename_i c t he
      split at h
      · rename_i hst
        rw [if_pos hst]
        split at h
        · cases h
        · rename_i n k1 hi
          exact row_mono f _ k1 y g (by omega) h
      · rename_i hst
        rw [if_neg hst]
        exact h
theorem rows_mono {ch : Rdr} : ∀ (f : Nat) (acc : List (List Nd)) (r : Bs) (y : List (List Nd) × Bs) (g : Nat), f ≤ g → Px.rows ch f acc r = .ok y → Px.rows ch g acc r = .ok y
  | 0, _, _, _, _, _, h => by cases h
  | f + 1, acc, r, y, 0, hg, h => by omega
  | f + 1, acc, r, y, g + 1, hg, h => by
    rw [Px.rows] at h ⊢
    split at h
    · cases h
    · rename_i row k1 hr
      split at h
      · rename_i h1
        rw [if_pos h1]
        exact rows_mono f _ _ y g (by omega) h
      · rename_i h1
        rw [if_neg h1]
        exact h
theorem rows_app {ch : Rdr} (hS : Px.Suf ch) (hA : App ch) : ∀ (f : Nat) (acc : List (List Nd)) (r : Bs) (l : List (List Nd)) (k u : Bs), Px.rows ch f acc r = .ok (l, k) → Cut k u → Px.rows ch f acc (r ++ u) = .ok (l, k ++ u)
  | 0, _, _, _, _, _, h, _ => by cases h
  | f + 1, acc, r, l, k, u, h, hc => by
    rw [Px.rows] at h ⊢
    split at h
    · cases h
    · rename_i row k1 hr
      by_cases h1 : Px.isAt k1 124 = true
      · rw [if_pos h1] at h
        have c1 : Cut k1 u := hc.suf ((Px.rows_suf hS _ _ _ _ _ h).trans (Px.next_suf k1))
        rw [row_mono _ _ _ _ _ (by simp) (row_app hS hA _ _ _ _ _ u hr c1)]
        simp only [c1.isAt 124 (by decide), if_pos h1, c1.next h1]
        exact rows_app hS hA f _ _ l k u h hc
      · rw [if_neg h1] at h
        simp only [Except.ok.injEq, Prod.mk.injEq] at h
        obtain ⟨rfl, rfl⟩ := h
        rw [row_mono _ _ _ _ _ (by simp) (row_app hS hA _ _ _ _ _ u hr hc)]
        simp only [hc.isAt 124 (by decide), if_neg h1]
theorem choice_app : ∀ d, App (Px.choice d)
  | 0 => fun r c k u h _ => by cases h
  | d + 1 => fun r c k u h hc => rows_mono _ _ _ _ _ (by simp) (rows_app (Px.choice_suf d) (choice_app d) _ [] r c k u h hc)

/-- What one reader reads the other one reads. -/
def Le (ch ch' : Rdr) : Prop := ∀ r y, ch r = .ok y → ch' r = .ok y
theorem atom_le {ch ch' : Rdr} (hl : Le ch ch') {r : Bs} {y : Nd × Bs} (h : Px.atom ch r = .ok y) : Px.atom ch' r = .ok y := by
  unfold Px.atom at h ⊢
  split at h
  · rename_i h1; rw [if_pos h1]; exact h
  · rename_i h1
    rw [if_neg h1]
    split at h
    · rename_i h2; rw [if_pos h2]; exact h
    · rename_i h2
      rw [if_neg h2]
      split at h
      · rename_i h3
        rw [if_pos h3]
        cases hc : ch (Px.next r) with
        | error e => rw [hc] at h; cases h
        | ok z =>
          rw [hc] at h
          rw [hl _ _ hc]
          exact h
      · rename_i h3
        rw [if_neg h3]; exact h
theorem item_le {ch ch' : Rdr} (hl : Le ch ch') {r : Bs} {y : Nd × Bs} (h : Px.item ch r = .ok y) : Px.item ch' r = .ok y := by
  unfold Px.item at h ⊢
  cases ha : Px.atom ch r with
  | error e => rw [ha] at h; cases h
  | ok z =>
    rw [ha] at h
    rw [atom_le hl ha]
    exact h
theorem row_le {ch ch' : Rdr} (hl : Le ch ch') : ∀ (f : Nat) (acc : List Nd) (r : Bs) (y : List Nd × Bs), Px.row ch f acc r = .ok y → Px.row ch' f acc r = .ok y
  | 0, _, _, _, h => by cases h
  | f + 1, acc, r, y, h => by
    rw [Px.row] at h ⊢
    cases he : Px.skip r with
    | nil => rw [he] at h; exact h
    | cons c t =>
      rw [he] at h
      simp only at h ⊢
      by_cases hst : Px.starts c = true
      · rw [if_pos hst] at h ⊢
        cases hi : Px.item ch (c :: t) with
        | error e => rw [hi] at h; cases h
        | ok z =>
          rw [hi] at h
          rw [item_le hl hi]
          exact row_le hl f _ _ y h
      · rw [if_neg hst] at h ⊢
        exact h
theorem rows_le {ch ch' : Rdr} (hl : Le ch ch') : ∀ (f : Nat) (acc : List (List Nd)) (r : Bs) (y : List (List Nd) × Bs), Px.rows ch f acc r = .ok y → Px.rows ch' f acc r = .ok y
  | 0, _, _, _, h => by cases h
  | f + 1, acc, r, y, h => by
    rw [Px.rows] at h ⊢
    cases hr : Px.row ch (r.length + 1) [] r with
    | error e => rw [hr] at h; cases h
    | ok z =>
      rw [hr] at h
      rw [row_le hl _ _ _ _ hr]
      simp only at h ⊢
      by_cases h1 : Px.isAt z.2 124 = true
      · rw [if_pos h1] at h ⊢
        exact rows_le hl f _ _ y h
      · rw [if_neg h1] at h ⊢
        exact h
theorem choice_deep : ∀ d, Le (Px.choice d) (Px.choice (d + 1))
  | 0 => fun r y h => by cases h
  | d + 1 => fun r y h => rows_le (choice_deep d) _ [] r y h
end Go.Proofs.YtpmmhmgojjlniaaGreatDoor.Ar
