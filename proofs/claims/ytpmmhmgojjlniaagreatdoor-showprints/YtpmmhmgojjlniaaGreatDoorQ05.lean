/- The document's number. -/
import Derived.Test.YtpmmhmgojjlniaaGreatDoorQ03
import Derived.Test.YtpmmhmgojjlniaaGreatDoorQ04
import Derived.Deep.AppendLies
import Derived.OneCell
import Derived.Deep.MidRow
import Derived.Deep.RegionWith
import Derived.BigRegion
namespace Go.Proofs.YtpmmhmgojjlniaaGreatDoor.Ar
open Go.RowKit Go.Sort
def NumGood (s : ByteArray) (w : World) (R : Except Int (Int × Bs)) (e : Ending) (w' : World) : Prop :=
  match R with
  | .ok (x, k) => ∃ j : Nat, Pos s j k ∧ e = .returned (.tuple #[.int .i64 x, .int .i64 j, .int .i64 0]) ∧ w' = w
  | .error q => ∃ j : Int, e = .returned (.tuple #[.int .i64 0, .int .i64 j, .int .i64 q]) ∧ w' = w

theorem Pos.drop {s : ByteArray} {n : Nat} {r : Bs} (h : Pos s n r) (k : Nat) (hk : k ≤ r.length) : Pos s (n + k) (r.drop k) := by
  have hl := h.len
  refine ⟨?_, by omega⟩
  rw [← List.drop_drop, h.1]
theorem take_dig_at (q : Bs) (k : Nat) (hk : k < (q.takeWhile Ad.dig).length) : ∃ t, q.drop k = (q.takeWhile Ad.dig)[k] :: t ∧ Ad.dig (q.takeWhile Ad.dig)[k] = true := by
  have hp : q.takeWhile Ad.dig <+: q := List.takeWhile_prefix _
  have hl := hp.length_le
  refine ⟨q.drop (k + 1), ?_, ?_⟩
  · rw [List.drop_eq_getElem_cons (by omega)]
    congr 1
    exact (hp.getElem hk).symm
  · have : (q.takeWhile Ad.dig)[k] ∈ q.takeWhile Ad.dig := List.getElem_mem hk
    exact List.all_eq_true.1 List.all_takeWhile _ this
theorem take_dig_end : ∀ (q : Bs), (q.drop (q.takeWhile Ad.dig).length = []) ∨ ∃ c t, q.drop (q.takeWhile Ad.dig).length = c :: t ∧ Ad.dig c = false
  | [] => .inl rfl
  | c :: t => by
    rw [List.takeWhile_cons]
    cases h : Ad.dig c
    · exact .inr ⟨c, t, by simp, h⟩
    · simpa using take_dig_end t
theorem digs_takeWhile (q : Bs) : Ad.digs (q.takeWhile Ad.dig) = true := by
  unfold Ad.digs
  exact List.all_takeWhile
theorem num_take_succ (ds : Bs) (k : Nat) (hk : k < ds.length) : Ad.num (ds.take (k + 1)) = 10 * Ad.num (ds.take k) + ((ds[k].toNat : Int) - 48) := by
  rw [List.take_succ_eq_append_getElem hk, Ad.num_snoc]
theorem digs_take (ds : Bs) (k : Nat) (h : Ad.digs ds = true) : Ad.digs (ds.take k) = true := by
  unfold Ad.digs at *
  rw [List.all_eq_true] at *
  exact fun c hc => h c (List.mem_of_mem_take hc)
theorem clamp_step (a : Int) (d : Int) (_ha : 0 ≤ a) (hd : 0 ≤ d) : Ad.clampM (10 * a + d) = Ad.clampM (10 * Ad.clampM a + d) := by
  unfold Ad.clampM
  split <;> split <;> (try split) <;> omega
theorem clamp_le (a : Int) : Ad.clampM a ≤ 1000000 := by
  unfold Ad.clampM
  split <;> omega
theorem clamp_ge (a : Int) (h : 0 ≤ a) : 0 ≤ Ad.clampM a := by
  unfold Ad.clampM
  split <;> omega

theorem num_bad (s : ByteArray) (w : World) (j q : Int) : NumGood s w (.error q) (.returned (.tuple #[.int .i64 0, .int .i64 j, .int .i64 q])) w := ⟨j, rfl, rfl⟩
theorem num_ok (s : ByteArray) (w : World) (x : Int) (m k : Nat) (r : Bs) (h : Pos s (m + k) r) : NumGood s w (.ok (x, r)) (.returned (.tuple #[.int .i64 x, .int .i64 ((m : Int) + (k : Int)), .int .i64 0])) w :=
  ⟨m + k, h, by simp, rfl⟩
end Go.Proofs.YtpmmhmgojjlniaaGreatDoor.Ar
namespace Go.Proofs.YtpmmhmgojjlniaaGreatDoor.Ar
open Go.RowKit Go.Sort
theorem row_same {w w' : World} {B e size n : Nat} {v : Value} {xs : List Value} (h : w.ownsRow B e size v n xs) (hb : ∀ g, v.ownBlock = some g → w'.heap[g]? = w.heap[g]?) : w'.ownsRow B e size v n xs := by
  obtain ⟨h1, h2⟩ := h
  refine ⟨h1, ?_⟩
  rcases h2 with h2 | ⟨g, cap, cur, rfl, hB, hg, r⟩
  · exact .inl h2
  · exact .inr ⟨g, cap, cur, rfl, hB, (hb g rfl).trans hg, r⟩
/-- A node's block that may be written. -/
def Free (w : World) (b : Nat) : Prop := b < w.heap.size ∧ ∀ o, w.frozen? ⟨b, o, none⟩ = false
theorem free_of {w w' : World} {b : Nat} (h : Free w b) (hs : w.heap.size ≤ w'.heap.size) (hb : w'.heap[b]? = w.heap[b]?) : Free w' b :=
  ⟨Nat.lt_of_lt_of_le h.1 hs, fun o => (World.frozen?_of_block (a := ⟨b, o, none⟩) hb).trans (h.2 o)⟩
theorem box_of {w w' : World} {b : Nat} {x0 x1 x2 x3 x4 x5 : Value} (h : Box w b x0 x1 x2 x3 x4 x5) (hb : w'.heap[b]? = w.heap[b]?) : Box w' b x0 x1 x2 x3 x4 x5 := by
  have e : ∀ o, w'.cell? ⟨b, o, none⟩ = w.cell? ⟨b, o, none⟩ := fun o => World.cell?_of_block (a := ⟨b, o, none⟩) hb
  obtain ⟨h0, h1, h2, h3, h4, h5⟩ := h
  exact ⟨(e 0).trans h0, (e 1).trans h1, (e 2).trans h2, (e 3).trans h3, (e 4).trans h4, (e 5).trans h5⟩
theorem heap_setCell_ne (w : World) (b o k : Nat) (v : Value) (h : k ≠ b) : (w.setCell ⟨b, o, none⟩ v).heap[k]? = w.heap[k]? := by
  unfold World.setCell
  rw [Array.getElem?_modify, if_neg (fun e => h e.symm)]
theorem size_setCell (w : World) (a : Addr) (v : Value) : (w.setCell a v).heap.size = w.heap.size := by simp [World.setCell]
theorem heap_alloc_lt (w : World) (o : Obj) (k : Nat) (h : k < w.heap.size) : (w.alloc o).heap[k]? = w.heap[k]? := by
  show (w.heap.push o)[k]? = _
  rw [Array.getElem?_push, if_neg (Nat.ne_of_lt h)]
theorem size_alloc (w : World) (o : Obj) : (w.alloc o).heap.size = w.heap.size + 1 := by simp

/-- The document's set on its way: the result's block, the node's block, the two rows. -/
structure SetInv (W : World) (acc : List Prt) (vF vT : Value) (wr : World) : Prop where
  free0 : Free wr W.heap.size
  box0 : Box wr W.heap.size (.int .i64 0) (.bool false) (.bool false) (.slice none 0 0) (.slice none 0 0) (.slice none 0 0)
  free1 : Free wr (W.heap.size + 1)
  box1 : Box wr (W.heap.size + 1) (.int .i64 0) (.bool false) (.bool true) vF vT (.slice none 0 0)
  rowF : wr.ownsRow (W.heap.size + 2) 3 1 vF acc.length (Is.cells (acc.map Prod.fst))
  rowT : wr.ownsRow (W.heap.size + 2) 3 1 vT acc.length (Is.cells (acc.map fun p => p.2.1))
  sep : ∀ k, vF.ownBlock = some k → vT.ownBlock ≠ some k
  below : Below W.heap.size W wr
  big : W.heap.size + 2 ≤ wr.heap.size
/-- Behind the first of two appends. -/
structure SetMid (W : World) (acc : List Prt) (a : Int) (vF vT nF : Value) (w1 : World) : Prop where
  free0 : Free w1 W.heap.size
  box0 : Box w1 W.heap.size (.int .i64 0) (.bool false) (.bool false) (.slice none 0 0) (.slice none 0 0) (.slice none 0 0)
  free1 : Free w1 (W.heap.size + 1)
  box1 : Box w1 (W.heap.size + 1) (.int .i64 0) (.bool false) (.bool true) vF vT (.slice none 0 0)
  rowF : w1.ownsRow (W.heap.size + 2) 3 1 nF (acc.length + 1) (Is.cells (acc.map Prod.fst) ++ [.int .i64 a])
  rowT : w1.ownsRow (W.heap.size + 2) 3 1 vT acc.length (Is.cells (acc.map fun p => p.2.1))
  sep : ∀ k, nF.ownBlock = some k → vT.ownBlock ≠ some k
  below : Below W.heap.size W w1
  big : W.heap.size + 2 ≤ w1.heap.size
theorem SetInv.first {W : World} {acc : List Prt} {vF vT : Value} {wr w1 : World} {a : Int} {o : Obj} {g cap : Nat} (h : SetInv W acc vF vT wr) (ho : w1.ownsRow (W.heap.size + 2) 3 1 (.slice (some ⟨g, 0, none⟩) (acc.length + 1) cap) (acc.length + 1) (Is.cells (acc.map Prod.fst) ++ [.int .i64 a]))
    (hg : (wr.alloc o).grownBy w1 vF.ownBlock) (hl : vF.ownBlock = some g ∨ g = wr.heap.size + 1) : SetMid W acc a vF vT (.slice (some ⟨g, 0, none⟩) (acc.length + 1) cap) w1 := by
  have hbig := h.big
  have hsz := hg.size
  rw [size_alloc] at hsz
  have hF : ∀ k, vF.ownBlock = some k → W.heap.size + 2 ≤ k ∧ k < wr.heap.size := fun k hk => h.rowF.lt k hk
  have hT : ∀ k, vT.ownBlock = some k → W.heap.size + 2 ≤ k ∧ k < wr.heap.size := fun k hk => h.rowT.lt k hk
  have hblk : ∀ k, k < wr.heap.size → vF.ownBlock ≠ some k → w1.heap[k]? = wr.heap[k]? := fun k hk hne =>
    (hg.block k (by rw [size_alloc]; omega) (fun e => hne e.symm)).trans (heap_alloc_lt wr o k hk)
  have h0 : w1.heap[W.heap.size]? = wr.heap[W.heap.size]? := hblk _ (by omega) (fun e => by have := (hF _ e).1; omega)
  have h1 : w1.heap[W.heap.size + 1]? = wr.heap[W.heap.size + 1]? := hblk _ (by omega) (fun e => by have := (hF _ e).1; omega)
  refine ⟨free_of h.free0 (by omega) h0, box_of h.box0 h0, free_of h.free1 (by omega) h1, box_of h.box1 h1, ho, row_same h.rowT fun k hk => hblk k (hT k hk).2 (fun e => h.sep k e hk), ?_, ?_, by omega⟩
  · intro k hk hk2
    simp only [Value.ownBlock, Option.some.injEq] at hk
    subst hk
    rcases hl with hl | hl
    · exact h.sep _ hl hk2
    · have := (hT _ hk2).2; omega
  · exact Below.grown (h.below.alloc h.below.size o) hg (by rw [size_alloc]; omega) fun k hk => by have := (hF k hk).1; omega
theorem SetMid.second {W : World} {acc : List Prt} {vF vT nF : Value} {w1 w3 : World} {a b : Int} (tw : Bool) {o : Obj} {g cap : Nat} (h : SetMid W acc a vF vT nF w1)
    (ho : w3.ownsRow (W.heap.size + 2) 3 1 (.slice (some ⟨g, 0, none⟩) (acc.length + 1) cap) (acc.length + 1) (Is.cells (acc.map fun p => p.2.1) ++ [.int .i64 b]))
    (hg : ((w1.setCell ⟨W.heap.size + 1, 3, none⟩ nF).alloc o).grownBy w3 vT.ownBlock) (hl : vT.ownBlock = some g ∨ g = w1.heap.size + 1) :
    Free w3 (W.heap.size + 1) ∧ Box w3 (W.heap.size + 1) (.int .i64 0) (.bool false) (.bool true) nF vT (.slice none 0 0) ∧ SetInv W (acc ++ [(a, b, tw)]) nF (.slice (some ⟨g, 0, none⟩) (acc.length + 1) cap) (w3.setCell ⟨W.heap.size + 1, 4, none⟩ (.slice (some ⟨g, 0, none⟩) (acc.length + 1) cap)) := by
  have hbig := h.big
  have hsz := hg.size
  rw [size_alloc, size_setCell] at hsz
  have hF : ∀ k, nF.ownBlock = some k → W.heap.size + 2 ≤ k ∧ k < w1.heap.size := fun k hk => h.rowF.lt k hk
  have hT : ∀ k, vT.ownBlock = some k → W.heap.size + 2 ≤ k ∧ k < w1.heap.size := fun k hk => h.rowT.lt k hk
  have hblk : ∀ k, k < w1.heap.size → vT.ownBlock ≠ some k → w3.heap[k]? = (w1.setCell ⟨W.heap.size + 1, 3, none⟩ nF).heap[k]? := fun k hk hne =>
    (hg.block k (by rw [size_alloc, size_setCell]; omega) (fun e => hne e.symm)).trans (heap_alloc_lt _ o k (by rw [size_setCell]; exact hk))
  have h1 : w3.heap[W.heap.size + 1]? = (w1.setCell ⟨W.heap.size + 1, 3, none⟩ nF).heap[W.heap.size + 1]? := hblk _ (by omega) (fun e => by have := (hT _ e).1; omega)
  have h0 : w3.heap[W.heap.size]? = w1.heap[W.heap.size]? := (hblk _ (by omega) (fun e => by have := (hT _ e).1; omega)).trans (heap_setCell_ne _ _ _ _ _ (by omega))
  have fS : Free (w1.setCell ⟨W.heap.size + 1, 3, none⟩ nF) (W.heap.size + 1) := ⟨by rw [size_setCell]; exact h.free1.1, fun o => by simpa using h.free1.2 o⟩
  have bS : Box (w1.setCell ⟨W.heap.size + 1, 3, none⟩ nF) (W.heap.size + 1) (.int .i64 0) (.bool false) (.bool true) nF vT (.slice none 0 0) := by
    obtain ⟨c0, c1, c2, c3, c4, c5⟩ := h.box1
    refine ⟨?_, ?_, ?_, ?_, ?_, ?_⟩ <;> simp [go_sem, c0, c1, c2, c3, c4, c5]
  have f3 := free_of (w' := w3) fS (by rw [size_setCell]; omega) h1
  have b3 := box_of (w' := w3) bS h1
  refine ⟨f3, b3, ?_⟩
  have hsz' : (w3.setCell ⟨W.heap.size + 1, 4, none⟩ (.slice (some ⟨g, 0, none⟩) (acc.length + 1) cap)).heap.size = w3.heap.size := size_setCell _ _ _
  have hB3 : Below W.heap.size W w3 := Below.grown ((h.below.setCell (p := ⟨W.heap.size + 1, 3, none⟩) (Nat.le_succ _) nF).alloc (by rw [size_setCell]; exact h.below.size) o) hg (by rw [size_alloc, size_setCell]; omega) fun k hk => by have := (hT k hk).1; omega
  refine ⟨?_, ?_, ?_, ?_, ?_, ?_, ?_, hB3.setCell (p := ⟨W.heap.size + 1, 4, none⟩) (Nat.le_succ _) _, by rw [hsz']; omega⟩
  · exact free_of (free_of h.free0 (w' := w3) (by omega) h0) (by rw [hsz']; omega) (heap_setCell_ne _ _ _ _ _ (by omega))
  · exact box_of (box_of h.box0 (w' := w3) h0) (heap_setCell_ne _ _ _ _ _ (by omega))
  · exact ⟨by rw [hsz']; exact f3.1, fun o => by simpa using f3.2 o⟩
  · obtain ⟨c0, c1, c2, c3, c4, c5⟩ := b3
    refine ⟨?_, ?_, ?_, ?_, ?_, ?_⟩ <;> simp [go_sem, c0, c1, c2, c3, c4, c5]
  · have hr : w3.ownsRow (W.heap.size + 2) 3 1 nF (acc.length + 1) (Is.cells (acc.map Prod.fst) ++ [.int .i64 a]) :=
      row_same h.rowF fun k hk => (hblk k (hF k hk).2 (fun e => h.sep k hk e)).trans (heap_setCell_ne _ _ _ _ _ (by have := (hF k hk).1; omega))
    have := ownsRow_setCell_below hr (a := ⟨W.heap.size + 1, 4, none⟩) (Nat.lt_succ_self _) (.slice (some ⟨g, 0, none⟩) (acc.length + 1) cap)
    simpa [Is.cells] using this
  · have := ownsRow_setCell_below ho (a := ⟨W.heap.size + 1, 4, none⟩) (Nat.lt_succ_self _) (.slice (some ⟨g, 0, none⟩) (acc.length + 1) cap)
    simpa [Is.cells] using this
  · intro k hk hk2
    simp only [Value.ownBlock, Option.some.injEq] at hk2
    subst hk2
    rcases hl with hl | hl
    · exact h.sep _ hk hl
    · have := (hF _ hk).2; omega
/-- A tree that lies in blocks from B on: it lies there in every world that keeps those. -/
def Tr.Own (B : Nat) (w : World) (t : Tr) (cs : List Value) : Prop := ∀ w', (∀ k, B ≤ k → k < w.heap.size → w'.heap[k]? = w.heap[k]?) → Tr.At w' t cs
theorem Tr.Own.at {B : Nat} {w : World} {t : Tr} {cs : List Value} (h : Tr.Own B w t cs) : Tr.At w t cs := h w fun _ _ _ => rfl
theorem Tr.Own.keep {B B' : Nat} {w w' : World} {t : Tr} {cs : List Value} (h : Tr.Own B w t cs) (hB : B' ≤ B) (hs : w.heap.size ≤ w'.heap.size) (hk : ∀ k, B ≤ k → k < w.heap.size → w'.heap[k]? = w.heap[k]?) : Tr.Own B' w' t cs :=
  fun w2 h2 => h w2 fun k h3 h4 => (h2 k (by omega) (by omega)).trans (hk k h3 h4)
/-- Six cells put into a block. -/
def put6 (w : World) (g : Nat) (y0 y1 y2 y3 y4 y5 : Value) : World := (((((w.setCell ⟨g, 0, none⟩ y0).setCell ⟨g, 1, none⟩ y1).setCell ⟨g, 2, none⟩ y2).setCell ⟨g, 3, none⟩ y3).setCell ⟨g, 4, none⟩ y4).setCell ⟨g, 5, none⟩ y5
theorem put6_size (w : World) (g : Nat) (y0 y1 y2 y3 y4 y5 : Value) : (put6 w g y0 y1 y2 y3 y4 y5).heap.size = w.heap.size := by simp [put6]
theorem put6_other (w : World) (g : Nat) (y0 y1 y2 y3 y4 y5 : Value) (k : Nat) (h : k ≠ g) : (put6 w g y0 y1 y2 y3 y4 y5).heap[k]? = w.heap[k]? := by
  unfold put6
  rw [heap_setCell_ne _ _ _ _ _ h, heap_setCell_ne _ _ _ _ _ h, heap_setCell_ne _ _ _ _ _ h, heap_setCell_ne _ _ _ _ _ h, heap_setCell_ne _ _ _ _ _ h, heap_setCell_ne _ _ _ _ _ h]
theorem put6_below {W w : World} {g : Nat} (h : Below W.heap.size W w) (hg : W.heap.size ≤ g) (y0 y1 y2 y3 y4 y5 : Value) : Below W.heap.size W (put6 w g y0 y1 y2 y3 y4 y5) :=
  (((((h.setCell (p := ⟨g, 0, none⟩) hg y0).setCell (p := ⟨g, 1, none⟩) hg y1).setCell (p := ⟨g, 2, none⟩) hg y2).setCell (p := ⟨g, 3, none⟩) hg y3).setCell (p := ⟨g, 4, none⟩) hg y4).setCell (p := ⟨g, 5, none⟩) hg y5
theorem put6_box {w : World} {g : Nat} {x0 x1 x2 x3 x4 x5 : Value} (h : Box w g x0 x1 x2 x3 x4 x5) (y0 y1 y2 y3 y4 y5 : Value) : Box (put6 w g y0 y1 y2 y3 y4 y5) g y0 y1 y2 y3 y4 y5 := by
  obtain ⟨c0, c1, c2, c3, c4, c5⟩ := h
  unfold put6
  refine ⟨?_, ?_, ?_, ?_, ?_, ?_⟩ <;> simp [go_sem, c0, c1, c2, c3, c4, c5]
theorem box_range {w : World} {g : Nat} {y0 y1 y2 y3 y4 y5 : Value} (h : Box w g y0 y1 y2 y3 y4 y5) : w.rangeAt g 0 [y0, y1, y2, y3, y4, y5] := by
  obtain ⟨c0, c1, c2, c3, c4, c5⟩ := h
  intro j v hj
  rw [Nat.zero_add]
  match j, hj with
  | 0, hj => simp at hj; subst hj; exact c0
  | 1, hj => simp at hj; subst hj; exact c1
  | 2, hj => simp at hj; subst hj; exact c2
  | 3, hj => simp at hj; subst hj; exact c3
  | 4, hj => simp at hj; subst hj; exact c4
  | 5, hj => simp at hj; subst hj; exact c5
end Go.Proofs.YtpmmhmgojjlniaaGreatDoor.Ar
namespace Go.Proofs.YtpmmhmgojjlniaaGreatDoor.Ar
open Go.RowKit Go.Sort
theorem number_err {r : Bs} {q : Int} (h : Px.number r = .error q) : q ≠ 0 := by
  unfold Px.number at h
  split at h
  · split at h
    · cases h
    · cases h; decide
  · cases h; decide
theorem set_err : ∀ (f : Nat) (acc : List Prt) (r : Bs) (q : Int), Px.set f acc r = .error q → q ≠ 0
  | 0, _, _, _, h => by cases h; decide
  | f + 1, acc, r, q, h => by
    rw [Px.set] at h
    split at h
    · cases h
    · split at h
      · rename_i e hn; cases h; exact number_err hn
      · split at h
        · split at h
          · rename_i e hn; cases h; exact number_err hn
          · split at h
            · cases h; decide
            · exact set_err f _ _ q h
        · exact set_err f _ _ q h
def NoErr (ch : Bs → Except Int (List (List Nd) × Bs)) : Prop := ∀ r q, ch r = .error q → q ≠ 0
theorem atom_err {ch : Bs → Except Int (List (List Nd) × Bs)} (hc : NoErr ch) {r : Bs} {q : Int} (h : Px.atom ch r = .error q) : q ≠ 0 := by
  unfold Px.atom at h
  split at h
  · cases h
  · split at h
    · split at h
      · rename_i e hs; cases h; exact set_err _ _ _ _ hs
      · cases h
    · split at h
      · split at h
        · rename_i e hs; cases h; exact hc _ _ hs
        · split at h
          · cases h
          · cases h; decide
      · split at h
        · rename_i e hs; cases h; exact number_err hs
        · cases h
theorem item_err {ch : Bs → Except Int (List (List Nd) × Bs)} (hc : NoErr ch) {r : Bs} {q : Int} (h : Px.item ch r = .error q) : q ≠ 0 := by
  unfold Px.item at h
  split at h
  · rename_i e hs; cases h; exact atom_err hc hs
  · split at h <;> cases h
theorem row_err {ch : Bs → Except Int (List (List Nd) × Bs)} (hc : NoErr ch) : ∀ (f : Nat) (acc : List Nd) (r : Bs) (q : Int), Px.row ch f acc r = .error q → q ≠ 0
  | 0, _, _, _, h => by cases h; decide
  | f + 1, acc, r, q, h => by
    rw [Px.row] at h
    split at h
    · cases h
    · split at h
      · split at h
        · rename_i e hs; cases h; exact item_err hc hs
        · exact row_err hc f _ _ q h
      · cases h
theorem rows_err {ch : Bs → Except Int (List (List Nd) × Bs)} (hc : NoErr ch) : ∀ (f : Nat) (acc : List (List Nd)) (r : Bs) (q : Int), Px.rows ch f acc r = .error q → q ≠ 0
  | 0, _, _, _, h => by cases h; decide
  | f + 1, acc, r, q, h => by
    rw [Px.rows] at h
    split at h
    · rename_i e hs; cases h; exact row_err hc _ _ _ _ hs
    · split at h
      · exact rows_err hc f _ _ q h
      · cases h
theorem choice_err : ∀ d, NoErr (Px.choice d)
  | 0 => fun r q h => by cases h; decide
  | d + 1 => fun r q h => rows_err (choice_err d) _ _ r q h
end Go.Proofs.YtpmmhmgojjlniaaGreatDoor.Ar
namespace Go.Proofs.YtpmmhmgojjlniaaGreatDoor.Ar
abbrev Rdr : Type := Bs → Except Int (List (List Nd) × Bs)
theorem sign_isAt {k : Bs} (h : Px.sign k ≠ 0) : ∃ d, Px.isAt k d = true := by
  unfold Px.sign at h
  split at h
  · rename_i h1; exact ⟨_, h1⟩
  · split at h
    · rename_i h1; exact ⟨_, h1⟩
    · split at h
      · rename_i h1; exact ⟨_, h1⟩
      · exact absurd rfl h
end Go.Proofs.YtpmmhmgojjlniaaGreatDoor.Ar
namespace Go.Proofs.YtpmmhmgojjlniaaGreatDoor.Ar
open Go.RowKit Go.Sort
theorem Tr.inv {w : World} {k : Int} {d s : Bool} {f t : List Int} {ks : List Tr} {cs : List Value} (h : Tr.At w (.mk k d s f t ks) cs) :
    ∃ (fo : Option Addr) (fc : Nat) (to : Option Addr) (tc : Nat) (ko : Option Addr) (kc b off : Nat) (css : Nat → List Value), cs = [.int .i64 k, .bool d, .bool s, .slice fo f.length fc, .slice to t.length tc, .slice ko ks.length kc] ∧ (f.length ≤ 100000 ∧ t.length ≤ 100000 ∧ ks.length ≤ 100000) ∧ Is.slot w fo f ∧ Is.slot w to t ∧ (ks = [] ∨ ko = some ⟨b, off, none⟩) ∧ (∀ i, i < ks.length → Six w b (off + i * 6) (css i)) ∧ (∀ i (h : i < ks.length), Tr.At w ks[i] (css i)) := by
  cases h with
  | mk b off css hn hf ht hk hr ha => exact ⟨_, _, _, _, _, _, b, off, css, rfl, hn, hf, ht, hk, hr, ha⟩
abbrev tx (l : Bs) : ByteArray := ⟨l.toArray⟩
end Go.Proofs.YtpmmhmgojjlniaaGreatDoor.Ar
namespace Go.Proofs.YtpmmhmgojjlniaaGreatDoor.Ar
open Go.RowKit Go.Sort
/-- Six values of one cell each. -/
def One6 (x0 x1 x2 x3 x4 x5 : Value) : Prop := x0.oneCell' = true ∧ x1.oneCell' = true ∧ x2.oneCell' = true ∧ x3.oneCell' = true ∧ x4.oneCell' = true ∧ x5.oneCell' = true
/-- What a reader of a node hands back. -/
def NodeGood (s : ByteArray) (W : World) (R : Except Int (Nd × Bs)) (e : Ending) (w' : World) : Prop :=
  Below W.heap.size W w' ∧
  match R with
  | .ok (n, k) => ∃ (j : Nat) (x0 x1 x2 x3 x4 x5 : Value), Pos s j k ∧ Tr.Own W.heap.size w' (Nd.tr n) [x0, x1, x2, x3, x4, x5] ∧ e = .returned (.tuple #[.agg #[x0, x1, x2, x3, x4, x5], .int .i64 j, .int .i64 0])
  | .error q => ∃ (x0 x1 x2 x3 x4 x5 : Value) (j : Int), One6 x0 x1 x2 x3 x4 x5 ∧ e = .returned (.tuple #[.agg #[x0, x1, x2, x3, x4, x5], .int .i64 j, .int .i64 q])
def setR (R : Except Int (List Prt × Bs)) : Except Int (Nd × Bs) := match R with | .ok (rs, k) => .ok (.num false true rs, k) | .error e => .error e

theorem append_lies3 {w : World} {ops : Array Oper} {rest : List Oper} {o : Oper} {a : Act} {Q : Exit → Act → World → Prop} (hgd : o.guard = none) (s x : Operand)
    (ho : o.op = .call { callee := .builtin .append, args := #[s, x], argTypes := #[57, 57] }) (B : Nat) (v : Value) (n : Nat) (xs : List Value) (hs : a.eval s = v) (hown : w.ownsRow B 3 1 v n xs)
    (u : Int) (g0 c : Nat) (hx : a.eval x = .slice (some ⟨g0, 0, none⟩) 1 c) (hc : w.cell? ⟨g0, 0, none⟩ = some (.int .i64 u)) (hn : n ≤ 1000) (hB : B ≤ w.heap.size) (H : Nat) (hH : w.heap.size = H)
    (h : ∀ g cap w', w'.ownsRow B 3 1 (.slice (some ⟨g, 0, none⟩) (n + 1) cap) (n + 1) (xs ++ [.int .i64 u]) → w.grownBy w' v.ownBlock → (v.ownBlock = some g ∨ g = H) → wpList Tryz.prog ops Q rest (a.put o.dst (.slice (some ⟨g, 0, none⟩) (n + 1) cap)) w') : wpList Tryz.prog ops Q (o :: rest) a w := by
  obtain ⟨i0, hi, hz0, hz1, hz2⟩ := info_partsI
  refine wpList_append_lies w hgd s x 57 ho B 3 i0 _ 1 8 Tryz.underlying57 hi hz0 hz1 hz2 rfl (by decide) v n xs hs hown ⟨g0, 0, none⟩ 1 c [.int .i64 u] hx rfl ?_ (Is.cells_one [u]) (by decide) (by unfold maxLen; omega) (by omega) hB H hH fun g cap w' h1 h2 h3 _ => h g cap w' h1 h2 h3
  intro j q hj
  match j, hj with
  | 0, hj =>
    simp at hj
    subst hj
    simpa [Addr.add] using hc
theorem drew_heap (w : World) : w.drew.heap = w.heap := rfl
theorem box_drew {w : World} {b : Nat} {x0 x1 x2 x3 x4 x5 : Value} (h : Box w b x0 x1 x2 x3 x4 x5) : Box w.drew b x0 x1 x2 x3 x4 x5 := h
theorem wrap_succ (m : Nat) (h : m ≤ 100000) : IntKind.i64.wrap ((m : Int) + 1) = ((m + 1 : Nat) : Int) := by
  simp (disch := omega) only [IntWalk.i64_in]
  omega
theorem nodeGood_ok {s : ByteArray} {W w' : World} {R : Except Int (Nd × Bs)} {n : Nd} {k : Bs} {j : Nat} {ji : Int} {x0 x1 x2 x3 x4 x5 : Value} (hR : R = .ok (n, k)) (hb : Below W.heap.size W w') (hp : Pos s j k) (ht : Tr.Own W.heap.size w' (Nd.tr n) [x0, x1, x2, x3, x4, x5]) (hj : ji = (j : Int)) : NodeGood s W R (.returned (.tuple #[.agg #[x0, x1, x2, x3, x4, x5], .int .i64 ji, .int .i64 0])) w' := by
  rw [hR, hj]
  exact ⟨hb, j, x0, x1, x2, x3, x4, x5, hp, ht, rfl⟩
theorem cell_new (W : World) (x : Value) (t : TypeId) : (W.alloc (.cells #[x] t)).cell? ⟨W.heap.size, 0, none⟩ = some x := by simp
theorem Pos.nextAt {s : ByteArray} {j : Nat} {k : Bs} (h : Pos s j k) {c : UInt8} (hc : Px.isAt k c = true) : Pos s (s.size - (Px.skip k).length + 1) (Px.next k) := by
  obtain ⟨t, h1, h2⟩ := Px.isAt_some hc
  have hp := h.skip
  rw [h1] at hp
  obtain ⟨_, _, h3⟩ := hp.cons
  rw [h1, h2]
  exact h3
theorem set_err1 {f : Nat} {acc : List Prt} {r : Bs} {q : Int} (h : ¬ (acc ≠ [] ∧ Px.isAt r 93 = true)) (h1 : Px.number r = .error q) : Px.set (f + 1) acc r = .error q := by
  rw [Px.set, if_neg h, h1]
theorem set_one {f : Nat} {acc : List Prt} {r k : Bs} {a : Int} (h : ¬ (acc ≠ [] ∧ Px.isAt r 93 = true)) (h1 : Px.number r = .ok (a, k)) (h2 : Px.isAt k 45 = false) : Px.set (f + 1) acc r = Px.set f (acc ++ [(a, a, false)]) k := by
  rw [Px.set, if_neg h, h1]
  simp [h2]
theorem set_err2 {f : Nat} {acc : List Prt} {r k : Bs} {a q : Int} (h : ¬ (acc ≠ [] ∧ Px.isAt r 93 = true)) (h1 : Px.number r = .ok (a, k)) (h2 : Px.isAt k 45 = true) (h3 : Px.number (Px.next k) = .error q) : Px.set (f + 1) acc r = .error q := by
  rw [Px.set, if_neg h, h1]
  simp [h2, h3]
theorem set_less {f : Nat} {acc : List Prt} {r k k2 : Bs} {a b : Int} (h : ¬ (acc ≠ [] ∧ Px.isAt r 93 = true)) (h1 : Px.number r = .ok (a, k)) (h2 : Px.isAt k 45 = true) (h3 : Px.number (Px.next k) = .ok (b, k2)) (h4 : b < a) : Px.set (f + 1) acc r = .error 7 := by
  rw [Px.set, if_neg h, h1]
  simp [h2, h3, h4]
theorem set_two {f : Nat} {acc : List Prt} {r k k2 : Bs} {a b : Int} (h : ¬ (acc ≠ [] ∧ Px.isAt r 93 = true)) (h1 : Px.number r = .ok (a, k)) (h2 : Px.isAt k 45 = true) (h3 : Px.number (Px.next k) = .ok (b, k2)) (h4 : ¬ b < a) : Px.set (f + 1) acc r = Px.set f (acc ++ [(a, b, true)]) k2 := by
  rw [Px.set, if_neg h, h1]
  simp [h2, h3, h4]
theorem nodeGood_err {s : ByteArray} {W w' : World} {R : Except Int (Nd × Bs)} {q j : Int} {x0 x1 x2 x3 x4 x5 : Value} (hR : R = .error q) (hb : Below W.heap.size W w') (h1 : One6 x0 x1 x2 x3 x4 x5) : NodeGood s W R (.returned (.tuple #[.agg #[x0, x1, x2, x3, x4, x5], .int .i64 j, .int .i64 q])) w' := by
  rw [hR]
  exact ⟨hb, x0, x1, x2, x3, x4, x5, j, h1, rfl⟩
/-- The node that a set hands back. -/
theorem setInv_at {W : World} {acc : List Prt} {fo to : Option Addr} {fc tc : Nat} {wr w' : World} (h : SetInv W acc (.slice fo acc.length fc) (.slice to acc.length tc) wr) (hl : acc.length ≤ 1000) (hb : ∀ k, W.heap.size + 2 ≤ k → k < wr.heap.size → w'.heap[k]? = wr.heap[k]?) :
    Tr.At w' (Nd.tr (.num false true acc)) [.int .i64 0, .bool false, .bool true, .slice fo acc.length fc, .slice to acc.length tc, .slice none 0 0] := by
  have hs : ∀ {o : Option Addr} {c : Nat} {xs : List Int}, xs.length = acc.length → wr.ownsRow (W.heap.size + 2) 3 1 (.slice o acc.length c) acc.length (Is.cells xs) → Is.slot w' o xs := by
    intro o c xs hx ho
    rcases ho.2 with ⟨h1, h2⟩ | ⟨g, cap, cur, h1, h2, h3, h4, h5, h6, h7⟩
    · left
      exact List.length_eq_zero_iff.1 (by omega)
    · simp only [Value.slice.injEq] at h1
      refine .inr ⟨g, 0, h1.1, fun j hj => ?_⟩
      have hg : w'.heap[g]? = some (.cells cur 3) := (hb g h2 (heap_lt h3)).trans h3
      rw [cell_of_row w' g _ cur 3 _ hg, Nat.zero_add]
      have h8 : (cur.toList.take (acc.length * 1))[j]? = (Is.cells xs)[j]? := by rw [h7]
      rw [List.getElem?_take, if_pos (by omega)] at h8
      simpa [Is.cells, hj] using h8
  have e1 : (acc.map Prod.fst).length = acc.length := by simp
  have e2 : (acc.map fun p => p.2.1).length = acc.length := by simp
  have := Tr.At.mk (w := w') (k := 0) (d := false) (s := true) (f := acc.map Prod.fst) (t := acc.map fun p => p.2.1) (ks := []) (fo := fo) (fc := fc) (to := to) (tc := tc) (ko := none) (kc := 0) 0 0 (fun _ => []) ⟨by omega, by omega, by simp⟩ (hs e1 h.rowF) (hs e2 h.rowT) (.inl rfl) (fun i hi => by simp at hi) (fun i hi => by simp at hi)
  rw [e1, e2] at this
  rw [Nd.tr]
  exact this

end Go.Proofs.YtpmmhmgojjlniaaGreatDoor.Ar
namespace Go.Proofs.YtpmmhmgojjlniaaGreatDoor.Ar
open Go.RowKit Go.Sort
/-- Of what there was, all but block b is as it was. -/
structure But (b : Nat) (w w' : World) : Prop where
  os : w'.os = w.os
  tape : w'.tape = w.tape
  output : w'.output = w.output
  size : w.heap.size ≤ w'.heap.size
  block : ∀ k, k ≠ b → k < w.heap.size → w'.heap[k]? = w.heap[k]?
theorem But.refl (b : Nat) (w : World) : But b w w := ⟨rfl, rfl, rfl, Nat.le_refl _, fun _ _ _ => rfl⟩
theorem But.trans {b : Nat} {u v w : World} (h : But b u v) (k : But b v w) : But b u w :=
  ⟨k.os.trans h.os, k.tape.trans h.tape, k.output.trans h.output, Nat.le_trans h.size k.size, fun i hi hl => (k.block i hi (Nat.lt_of_lt_of_le hl h.size)).trans (h.block i hi hl)⟩
theorem But.of {b : Nat} {w w' : World} (h : Below w.heap.size w w') : But b w w' := ⟨h.os, h.tape, h.output, h.size, fun k _ hk => h.block k hk⟩
theorem But.below {b N : Nat} {w w' : World} (h : But b w w') (hN : N ≤ b) (hS : N ≤ w.heap.size) : Below N w w' := ⟨h.os, h.tape, h.output, h.size, fun k hk => h.block k (by omega) (by omega)⟩
theorem But.alloc {b : Nat} {w w' : World} (h : But b w w') (o : Obj) : But b w (w'.alloc o) := h.trans (But.of (balloc (brefl _) o))
theorem But.drew {b : Nat} {w w' : World} (h : But b w w') : But b w w'.drew := h.trans (But.of (Below.drew (brefl _)))
theorem But.setCell {b : Nat} {w w' : World} (h : But b w w') {p : Addr} (hp : p.block = b ∨ w.heap.size ≤ p.block) (u : Value) : But b w (w'.setCell p u) :=
  ⟨h.os, h.tape, h.output, by rw [size_setCell]; exact h.size, fun k hk hl => by
    rw [Below.heap_setCell _ _ _ _ (by rcases hp with e | e <;> omega)]
    exact h.block k hk hl⟩
theorem But.grown {b : Nat} {u w w' : World} {row : Option Nat} (h : But b u w) (hg : w.grownBy w' row) (hr : ∀ k, row = some k → u.heap.size ≤ k) : But b u w' :=
  ⟨hg.os.trans h.os, hg.tape.trans h.tape, hg.output.trans h.output, Nat.le_trans h.size hg.size, fun k hk hl => (hg.block k (Nat.lt_of_lt_of_le hl h.size) (fun e => by have := hr k e.symm; omega)).trans (h.block k hk hl)⟩
theorem But.free {b c : Nat} {w w' : World} (h : But b w w') (hf : Free w c) (hc : c ≠ b) : Free w' c := free_of hf h.size (h.block c hc hf.1)
theorem free_alloc {w : World} {b : Nat} (h : Free w b) (o : Obj) : Free (w.alloc o) b := free_of h (by rw [size_alloc]; omega) (heap_alloc_lt _ _ _ h.1)
theorem free_set {w : World} {b : Nat} (h : Free w b) (p : Addr) (u : Value) : Free (w.setCell p u) b := ⟨by rw [size_setCell]; exact h.1, fun o => by simpa using h.2 o⟩

/-- The reader's three cells: what is left, how deep, the first fault. -/
def Rd (w : World) (b : Nat) (r : Bs) (d : Nat) (q : Int) : Prop := w.cell? ⟨b, 0, none⟩ = some (.string (tx r)) ∧ w.cell? ⟨b, 1, none⟩ = some (.int .i64 d) ∧ w.cell? ⟨b, 2, none⟩ = some (.int .i64 q) ∧ Free w b
theorem Rd.of {w w' : World} {b : Nat} {r : Bs} {d : Nat} {q : Int} (h : Rd w b r d q) (hs : w.heap.size ≤ w'.heap.size) (hb : w'.heap[b]? = w.heap[b]?) : Rd w' b r d q := by
  have e : ∀ o, w'.cell? ⟨b, o, none⟩ = w.cell? ⟨b, o, none⟩ := fun o => World.cell?_of_block (a := ⟨b, o, none⟩) hb
  exact ⟨(e 0).trans h.1, (e 1).trans h.2.1, (e 2).trans h.2.2.1, free_of h.2.2.2 hs hb⟩
theorem Rd.below {w w' : World} {b : Nat} {r : Bs} {d : Nat} {q : Int} (h : Rd w b r d q) (hb : Below w.heap.size w w') : Rd w' b r d q := h.of hb.size (hb.block b h.2.2.2.1)
theorem Rd.alloc {w : World} {b : Nat} {r : Bs} {d : Nat} {q : Int} (h : Rd w b r d q) (o : Obj) : Rd (w.alloc o) b r d q := h.below (balloc (brefl _) o)
theorem Rd.drew {w : World} {b : Nat} {r : Bs} {d : Nat} {q : Int} (h : Rd w b r d q) : Rd w.drew b r d q := h.below (Below.drew (brefl _))
theorem Rd.lt {w : World} {b : Nat} {r : Bs} {d : Nat} {q : Int} (h : Rd w b r d q) : b < w.heap.size := h.2.2.2.1
theorem Rd.other {w : World} {b : Nat} {r : Bs} {d : Nat} {q : Int} (h : Rd w b r d q) {p : Addr} (hp : p.block ≠ b) (u : Value) : Rd (w.setCell p u) b r d q := h.of (by rw [size_setCell]; omega) (Below.heap_setCell _ _ _ _ (fun e => hp e.symm))
theorem Rd.rest {w : World} {b : Nat} {r : Bs} {d : Nat} {q : Int} (h : Rd w b r d q) (r' : Bs) : Rd (w.setCell ⟨b, 0, none⟩ (.string (tx r'))) b r' d q := by
  obtain ⟨h0, h1, h2, h3⟩ := h
  exact ⟨by simp [go_sem, h0], by simp [go_sem, h1], by simp [go_sem, h2], free_set h3 _ _⟩
theorem Rd.deep {w : World} {b : Nat} {r : Bs} {d : Nat} {q : Int} (h : Rd w b r d q) (d' : Nat) : Rd (w.setCell ⟨b, 1, none⟩ (.int .i64 d')) b r d' q := by
  obtain ⟨h0, h1, h2, h3⟩ := h
  exact ⟨by simp [go_sem, h0], by simp [go_sem, h1], by simp [go_sem, h2], free_set h3 _ _⟩
theorem Rd.fault {w : World} {b : Nat} {r : Bs} {d : Nat} {q : Int} (h : Rd w b r d q) (q' : Int) : Rd (w.setCell ⟨b, 2, none⟩ (.int .i64 q')) b r d q' := by
  obtain ⟨h0, h1, h2, h3⟩ := h
  exact ⟨by simp [go_sem, h0], by simp [go_sem, h1], by simp [go_sem, h2], free_set h3 _ _⟩
/-- What must be laid is laid, and the reader's block came behind it. -/
def Ty (T : World → Prop) (b : Nat) (W : World) : Prop := ∃ w0, T w0 ∧ Below w0.heap.size w0 W ∧ w0.heap.size ≤ b
theorem Ty.but {T : World → Prop} {b : Nat} {w w' : World} (h : Ty T b w) (hb : But b w w') : Ty T b w' := by
  obtain ⟨w0, h0, h1, h2⟩ := h
  exact ⟨w0, h0, h1.trans (hb.below h2 h1.size), h2⟩

/-- What is asked of strings.TrimLeft. -/
structure Trims : Prop where
  blank : ∀ (r : Bs) (W : World), Calls Tryz.prog 328 #[.string (tx r), .string ⟨#[32]⟩] W fun e w' => e = .returned (.string (tx (Px.skip r))) ∧ Below W.heap.size W w'
  digs : ∀ (r : Bs) (W : World), Calls Tryz.prog 328 #[.string (tx r), .string ⟨#[48, 49, 50, 51, 52, 53, 54, 55, 56, 57]⟩] W fun e w' => e = .returned (.string (tx (r.dropWhile Ad.dig))) ∧ Below W.heap.size W w'

theorem rskip_is (K : Trims) {W : World} {b : Nat} {r : Bs} {d : Nat} {q : Int} (h : Rd W b r d q) :
    Calls Tryz.prog 301 #[.pointer (some ⟨b, 0, none⟩)] W fun e w' => e = .returned (.tuple #[]) ∧ But b W w' ∧ Rd w' b (Px.skip r) d q := by
  have CT := hide (K.blank r W)
  have HR := hide h
  obtain ⟨c0, c1, c2, fr⟩ := h
  generalize tx r = s at c0 CT
  go_enter Tryz.func301, Tryz.ntmps301
  go_wp2_with fail
  refine CT.out.mono ?_
  rintro e w1 ⟨rfl, hb⟩
  have R1 := hide (HR.out.below hb)
  have B1 := hide (But.of (b := b) hb)
  obtain ⟨d0, d1, d2, fr2⟩ := R1.out
  have f0 := fr2.2 0
  clear hb c0 c1 c2 fr fr2
  go_wp2_with fail
  exact bodyPost_end (results_none Tryz.results301 _ _ _) rfl ⟨rfl, B1.out.setCell (.inl rfl) _, R1.out.rest _⟩
end Go.Proofs.YtpmmhmgojjlniaaGreatDoor.Ar
