import Derived.Test.YtbceoinhmpnjaaaGreatDoorR1
import Derived.Test.YtbceoinhmpnjaaaGreatDoorP1
import Derived.Deep.AppendLies
import Derived.OneCell
import Derived.Deep.MidRow
import Derived.Deep.RegionWith
import Derived.BigRegion
import Derived.Test.YtbceoinhmpnjaaaGreatDoorQ1
/- The document's set: two rows of numbers in one node. -/
namespace Go.Proofs.YtbceoinhmpnjaaaGreatDoor
open Go.RowKit Go.Sort

theorem row_same {w w' : World} {B e size n : Nat} {v : Value} {xs : List Value} (h : w.ownsRow B e size v n xs) (hb : ∀ g, v.ownBlock = some g → w'.heap[g]? = w.heap[g]?) : w'.ownsRow B e size v n xs := by
  obtain ⟨h1, h2⟩ := h
  refine ⟨h1, ?_⟩
  rcases h2 with h2 | ⟨g, cap, cur, rfl, hB, hg, r⟩
  · exact .inl h2
  · exact .inr ⟨g, cap, cur, rfl, hB, (hb g rfl).trans hg, r⟩
/-- A node's block that may be written. -/
def Free (w : World) (b : Nat) : Prop := b < w.heap.size ∧ ∀ o, w.frozen? ⟨b, o, none⟩ = false
theorem free_of {w w' : World} {b : Nat} (h : Free w b) (hs : w.heap.size ≤ w'.heap.size) (hb : w'.heap[b]? = w.heap[b]?) : Free w' b :=
  ⟨Nat.lt_of_lt_of_le h.1 hs, fun o => (World.frozen?_of_block (a := ⟨b, o, none⟩) hb).trans (h.2 o)⟩
theorem box_of {w w' : World} {b : Nat} {x0 x1 x2 x3 x4 x5 : Value} (h : Box w b x0 x1 x2 x3 x4 x5) (hb : w'.heap[b]? = w.heap[b]?) : Box w' b x0 x1 x2 x3 x4 x5 := by
  have e : ∀ o, w'.cell? ⟨b, o, none⟩ = w.cell? ⟨b, o, none⟩ := fun o => World.cell?_of_block (a := ⟨b, o, none⟩) hb
  obtain ⟨h0, h1, h2, h3, h4, h5⟩ := h
  exact ⟨(e 0).trans h0, (e 1).trans h1, (e 2).trans h2, (e 3).trans h3, (e 4).trans h4, (e 5).trans h5⟩
theorem heap_setCell_ne (w : World) (b o k : Nat) (v : Value) (h : k ≠ b) : (w.setCell ⟨b, o, none⟩ v).heap[k]? = w.heap[k]? := by
  unfold World.setCell
  rw [Array.getElem?_modify, if_neg (fun e => h e.symm)]
theorem size_setCell (w : World) (a : Addr) (v : Value) : (w.setCell a v).heap.size = w.heap.size := by simp [World.setCell]
theorem heap_alloc_lt (w : World) (o : Obj) (k : Nat) (h : k < w.heap.size) : (w.alloc o).heap[k]? = w.heap[k]? := by
  show (w.heap.push o)[k]? = _
  rw [Array.getElem?_push, if_neg (Nat.ne_of_lt h)]
theorem size_alloc (w : World) (o : Obj) : (w.alloc o).heap.size = w.heap.size + 1 := by simp

/-- The document's set on its way: the result's block, the node's block, the two rows. -/
structure SetInv (W : World) (acc : List Prt) (vF vT : Value) (wr : World) : Prop where
  free0 : Free wr W.heap.size
  box0 : Box wr W.heap.size (.int .i64 0) (.bool false) (.bool false) (.slice none 0 0) (.slice none 0 0) (.slice none 0 0)
  free1 : Free wr (W.heap.size + 1)
  box1 : Box wr (W.heap.size + 1) (.int .i64 0) (.bool false) (.bool true) vF vT (.slice none 0 0)
  rowF : wr.ownsRow (W.heap.size + 2) 3 1 vF acc.length (Is.cells (acc.map Prod.fst))
  rowT : wr.ownsRow (W.heap.size + 2) 3 1 vT acc.length (Is.cells (acc.map fun p => p.2.1))
  sep : ∀ k, vF.ownBlock = some k → vT.ownBlock ≠ some k
  below : Below W.heap.size W wr
  big : W.heap.size + 2 ≤ wr.heap.size
/-- Behind the first of two appends. -/
structure SetMid (W : World) (acc : List Prt) (a : Int) (vF vT nF : Value) (w1 : World) : Prop where
  free0 : Free w1 W.heap.size
  box0 : Box w1 W.heap.size (.int .i64 0) (.bool false) (.bool false) (.slice none 0 0) (.slice none 0 0) (.slice none 0 0)
  free1 : Free w1 (W.heap.size + 1)
  box1 : Box w1 (W.heap.size + 1) (.int .i64 0) (.bool false) (.bool true) vF vT (.slice none 0 0)
  rowF : w1.ownsRow (W.heap.size + 2) 3 1 nF (acc.length + 1) (Is.cells (acc.map Prod.fst) ++ [.int .i64 a])
  rowT : w1.ownsRow (W.heap.size + 2) 3 1 vT acc.length (Is.cells (acc.map fun p => p.2.1))
  sep : ∀ k, nF.ownBlock = some k → vT.ownBlock ≠ some k
  below : Below W.heap.size W w1
  big : W.heap.size + 2 ≤ w1.heap.size
theorem SetInv.first {W : World} {acc : List Prt} {vF vT : Value} {wr w1 : World} {a : Int} {o : Obj} {g cap : Nat} (h : SetInv W acc vF vT wr) (ho : w1.ownsRow (W.heap.size + 2) 3 1 (.slice (some ⟨g, 0, none⟩) (acc.length + 1) cap) (acc.length + 1) (Is.cells (acc.map Prod.fst) ++ [.int .i64 a]))
    (hg : (wr.alloc o).grownBy w1 vF.ownBlock) (hl : vF.ownBlock = some g ∨ g = wr.heap.size + 1) : SetMid W acc a vF vT (.slice (some ⟨g, 0, none⟩) (acc.length + 1) cap) w1 := by
  have hbig := h.big
  have hsz := hg.size
  rw [size_alloc] at hsz
  have hF : ∀ k, vF.ownBlock = some k → W.heap.size + 2 ≤ k ∧ k < wr.heap.size := fun k hk => h.rowF.lt k hk
  have hT : ∀ k, vT.ownBlock = some k → W.heap.size + 2 ≤ k ∧ k < wr.heap.size := fun k hk => h.rowT.lt k hk
  have hblk : ∀ k, k < wr.heap.size → vF.ownBlock ≠ some k → w1.heap[k]? = wr.heap[k]? := fun k hk hne =>
    (hg.block k (by rw [size_alloc]; omega) (fun e => hne e.symm)).trans (heap_alloc_lt wr o k hk)
  have h0 : w1.heap[W.heap.size]? = wr.heap[W.heap.size]? := hblk _ (by omega) (fun e => by have := (hF _ e).1; omega)
  have h1 : w1.heap[W.heap.size + 1]? = wr.heap[W.heap.size + 1]? := hblk _ (by omega) (fun e => by have := (hF _ e).1; omega)
  refine ⟨free_of h.free0 (by omega) h0, box_of h.box0 h0, free_of h.free1 (by omega) h1, box_of h.box1 h1, ho, row_same h.rowT fun k hk => hblk k (hT k hk).2 (fun e => h.sep k e hk), ?_, ?_, by omega⟩
  · intro k hk hk2
    simp only [Value.ownBlock, Option.some.injEq] at hk
    subst hk
    rcases hl with hl | hl
    · exact h.sep _ hl hk2
    · have := (hT _ hk2).2; omega
  · exact Below.grown (h.below.alloc h.below.size o) hg (by rw [size_alloc]; omega) fun k hk => by have := (hF k hk).1; omega
theorem SetMid.second {W : World} {acc : List Prt} {vF vT nF : Value} {w1 w3 : World} {a b : Int} (tw : Bool) {o : Obj} {g cap : Nat} (h : SetMid W acc a vF vT nF w1)
    (ho : w3.ownsRow (W.heap.size + 2) 3 1 (.slice (some ⟨g, 0, none⟩) (acc.length + 1) cap) (acc.length + 1) (Is.cells (acc.map fun p => p.2.1) ++ [.int .i64 b]))
    (hg : ((w1.setCell ⟨W.heap.size + 1, 3, none⟩ nF).alloc o).grownBy w3 vT.ownBlock) (hl : vT.ownBlock = some g ∨ g = w1.heap.size + 1) :
    Free w3 (W.heap.size + 1) ∧ Box w3 (W.heap.size + 1) (.int .i64 0) (.bool false) (.bool true) nF vT (.slice none 0 0) ∧ SetInv W (acc ++ [(a, b, tw)]) nF (.slice (some ⟨g, 0, none⟩) (acc.length + 1) cap) (w3.setCell ⟨W.heap.size + 1, 4, none⟩ (.slice (some ⟨g, 0, none⟩) (acc.length + 1) cap)) := by
  have hbig := h.big
  have hsz := hg.size
  rw [size_alloc, size_setCell] at hsz
  have hF : ∀ k, nF.ownBlock = some k → W.heap.size + 2 ≤ k ∧ k < w1.heap.size := fun k hk => h.rowF.lt k hk
  have hT : ∀ k, vT.ownBlock = some k → W.heap.size + 2 ≤ k ∧ k < w1.heap.size := fun k hk => h.rowT.lt k hk
  have hblk : ∀ k, k < w1.heap.size → vT.ownBlock ≠ some k → w3.heap[k]? = (w1.setCell ⟨W.heap.size + 1, 3, none⟩ nF).heap[k]? := fun k hk hne =>
    (hg.block k (by rw [size_alloc, size_setCell]; omega) (fun e => hne e.symm)).trans (heap_alloc_lt _ o k (by rw [size_setCell]; exact hk))
  have h1 : w3.heap[W.heap.size + 1]? = (w1.setCell ⟨W.heap.size + 1, 3, none⟩ nF).heap[W.heap.size + 1]? := hblk _ (by omega) (fun e => by have := (hT _ e).1; omega)
  have h0 : w3.heap[W.heap.size]? = w1.heap[W.heap.size]? := (hblk _ (by omega) (fun e => by have := (hT _ e).1; omega)).trans (heap_setCell_ne _ _ _ _ _ (by omega))
  have fS : Free (w1.setCell ⟨W.heap.size + 1, 3, none⟩ nF) (W.heap.size + 1) := ⟨by rw [size_setCell]; exact h.free1.1, fun o => by simpa using h.free1.2 o⟩
  have bS : Box (w1.setCell ⟨W.heap.size + 1, 3, none⟩ nF) (W.heap.size + 1) (.int .i64 0) (.bool false) (.bool true) nF vT (.slice none 0 0) := by
    obtain ⟨c0, c1, c2, c3, c4, c5⟩ := h.box1
    refine ⟨?_, ?_, ?_, ?_, ?_, ?_⟩ <;> simp [go_sem, c0, c1, c2, c3, c4, c5]
  have f3 := free_of (w' := w3) fS (by rw [size_setCell]; omega) h1
  have b3 := box_of (w' := w3) bS h1
  refine ⟨f3, b3, ?_⟩
  have hsz' : (w3.setCell ⟨W.heap.size + 1, 4, none⟩ (.slice (some ⟨g, 0, none⟩) (acc.length + 1) cap)).heap.size = w3.heap.size := size_setCell _ _ _
  have hB3 : Below W.heap.size W w3 := Below.grown ((h.below.setCell (p := ⟨W.heap.size + 1, 3, none⟩) (Nat.le_succ _) nF).alloc (by rw [size_setCell]; exact h.below.size) o) hg (by rw [size_alloc, size_setCell]; omega) fun k hk => by have := (hT k hk).1; omega
  refine ⟨?_, ?_, ?_, ?_, ?_, ?_, ?_, hB3.setCell (p := ⟨W.heap.size + 1, 4, none⟩) (Nat.le_succ _) _, by rw [hsz']; omega⟩
  · exact free_of (free_of h.free0 (w' := w3) (by omega) h0) (by rw [hsz']; omega) (heap_setCell_ne _ _ _ _ _ (by omega))
  · exact box_of (box_of h.box0 (w' := w3) h0) (heap_setCell_ne _ _ _ _ _ (by omega))
  · exact ⟨by rw [hsz']; exact f3.1, fun o => by simpa using f3.2 o⟩
  · obtain ⟨c0, c1, c2, c3, c4, c5⟩ := b3
    refine ⟨?_, ?_, ?_, ?_, ?_, ?_⟩ <;> simp [go_sem, c0, c1, c2, c3, c4, c5]
  · have hr : w3.ownsRow (W.heap.size + 2) 3 1 nF (acc.length + 1) (Is.cells (acc.map Prod.fst) ++ [.int .i64 a]) :=
      row_same h.rowF fun k hk => (hblk k (hF k hk).2 (fun e => h.sep k hk e)).trans (heap_setCell_ne _ _ _ _ _ (by have := (hF k hk).1; omega))
    have := ownsRow_setCell_below hr (a := ⟨W.heap.size + 1, 4, none⟩) (Nat.lt_succ_self _) (.slice (some ⟨g, 0, none⟩) (acc.length + 1) cap)
    simpa [Is.cells] using this
  · have := ownsRow_setCell_below ho (a := ⟨W.heap.size + 1, 4, none⟩) (Nat.lt_succ_self _) (.slice (some ⟨g, 0, none⟩) (acc.length + 1) cap)
    simpa [Is.cells] using this
  · intro k hk hk2
    simp only [Value.ownBlock, Option.some.injEq] at hk2
    subst hk2
    rcases hl with hl | hl
    · exact h.sep _ hk hl
    · have := (hF _ hk).2; omega
/-- A tree that lies in blocks from B on: it lies there in every world that keeps those. -/
def Tr.Own (B : Nat) (w : World) (t : Tr) (cs : List Value) : Prop := ∀ w', (∀ k, B ≤ k → k < w.heap.size → w'.heap[k]? = w.heap[k]?) → Tr.At w' t cs
theorem Tr.Own.at {B : Nat} {w : World} {t : Tr} {cs : List Value} (h : Tr.Own B w t cs) : Tr.At w t cs := h w fun _ _ _ => rfl
theorem Tr.Own.keep {B B' : Nat} {w w' : World} {t : Tr} {cs : List Value} (h : Tr.Own B w t cs) (hB : B' ≤ B) (hs : w.heap.size ≤ w'.heap.size) (hk : ∀ k, B ≤ k → k < w.heap.size → w'.heap[k]? = w.heap[k]?) : Tr.Own B' w' t cs :=
  fun w2 h2 => h w2 fun k h3 h4 => (h2 k (by omega) (by omega)).trans (hk k h3 h4)
/-- Six cells put into a block. -/
def put6 (w : World) (g : Nat) (y0 y1 y2 y3 y4 y5 : Value) : World := (((((w.setCell ⟨g, 0, none⟩ y0).setCell ⟨g, 1, none⟩ y1).setCell ⟨g, 2, none⟩ y2).setCell ⟨g, 3, none⟩ y3).setCell ⟨g, 4, none⟩ y4).setCell ⟨g, 5, none⟩ y5
theorem put6_size (w : World) (g : Nat) (y0 y1 y2 y3 y4 y5 : Value) : (put6 w g y0 y1 y2 y3 y4 y5).heap.size = w.heap.size := by simp [put6]
theorem put6_other (w : World) (g : Nat) (y0 y1 y2 y3 y4 y5 : Value) (k : Nat) (h : k ≠ g) : (put6 w g y0 y1 y2 y3 y4 y5).heap[k]? = w.heap[k]? := by
  unfold put6
  rw [heap_setCell_ne _ _ _ _ _ h, heap_setCell_ne _ _ _ _ _ h, heap_setCell_ne _ _ _ _ _ h, heap_setCell_ne _ _ _ _ _ h, heap_setCell_ne _ _ _ _ _ h, heap_setCell_ne _ _ _ _ _ h]
theorem put6_below {W w : World} {g : Nat} (h : Below W.heap.size W w) (hg : W.heap.size ≤ g) (y0 y1 y2 y3 y4 y5 : Value) : Below W.heap.size W (put6 w g y0 y1 y2 y3 y4 y5) :=
  (((((h.setCell (p := ⟨g, 0, none⟩) hg y0).setCell (p := ⟨g, 1, none⟩) hg y1).setCell (p := ⟨g, 2, none⟩) hg y2).setCell (p := ⟨g, 3, none⟩) hg y3).setCell (p := ⟨g, 4, none⟩) hg y4).setCell (p := ⟨g, 5, none⟩) hg y5
theorem put6_box {w : World} {g : Nat} {x0 x1 x2 x3 x4 x5 : Value} (h : Box w g x0 x1 x2 x3 x4 x5) (y0 y1 y2 y3 y4 y5 : Value) : Box (put6 w g y0 y1 y2 y3 y4 y5) g y0 y1 y2 y3 y4 y5 := by
  obtain ⟨c0, c1, c2, c3, c4, c5⟩ := h
  unfold put6
  refine ⟨?_, ?_, ?_, ?_, ?_, ?_⟩ <;> simp [go_sem, c0, c1, c2, c3, c4, c5]
theorem box_range {w : World} {g : Nat} {y0 y1 y2 y3 y4 y5 : Value} (h : Box w g y0 y1 y2 y3 y4 y5) : w.rangeAt g 0 [y0, y1, y2, y3, y4, y5] := by
  obtain ⟨c0, c1, c2, c3, c4, c5⟩ := h
  intro j v hj
  rw [Nat.zero_add]
  match j, hj with
  | 0, hj => simp at hj; subst hj; exact c0
  | 1, hj => simp at hj; subst hj; exact c1
  | 2, hj => simp at hj; subst hj; exact c2
  | 3, hj => simp at hj; subst hj; exact c3
  | 4, hj => simp at hj; subst hj; exact c4
  | 5, hj => simp at hj; subst hj; exact c5
theorem info30 : (Tryz.prog.info? 30).map (·.size) = some 6 := by kernel_rfl
theorem res_node {fn : Func} {p a b : Tmp} (h : fn.results = #[.cell p 30, .tmp a, .tmp b]) (tmps : Array Value) (w : World) (g : Nat) {y0 y1 y2 y3 y4 y5 va vb : Value}
    (hp : tmps.getD p undef = .pointer (some ⟨g, 0, none⟩)) (ha : tmps.getD a undef = va) (hb : tmps.getD b undef = vb) (hg : Box w g y0 y1 y2 y3 y4 y5) :
    (results fn tmps).run Tryz.prog w = .ok (.tuple #[.agg #[y0, y1, y2, y3, y4, y5], va, vb]) w := by
  have hp' : tmps[p]?.getD undef = .pointer (some ⟨g, 0, none⟩) := by simpa using hp
  have ha' : tmps[a]?.getD undef = va := by simpa using ha
  have hb' : tmps[b]?.getD undef = vb := by simpa using hb
  have hl := run_loadVar_mid (P := Tryz.prog) w g 0 30 _ _ (box_range hg) Tryz.underlying30 rfl (by rw [info30]; rfl)
  simp [results, h, hp', ha', hb', asAddr, hl]
end Go.Proofs.YtbceoinhmpnjaaaGreatDoor

/- The document's set: its walk. -/
namespace Go.Proofs.YtbceoinhmpnjaaaGreatDoor
open Go.RowKit Go.Sort

/-- Six values of one cell each. -/
def One6 (x0 x1 x2 x3 x4 x5 : Value) : Prop := x0.oneCell' = true ∧ x1.oneCell' = true ∧ x2.oneCell' = true ∧ x3.oneCell' = true ∧ x4.oneCell' = true ∧ x5.oneCell' = true
/-- What a reader of a node hands back. -/
def NodeGood (s : ByteArray) (W : World) (R : Except Int (Nd × Bs)) (e : Ending) (w' : World) : Prop :=
  Below W.heap.size W w' ∧
  match R with
  | .ok (n, k) => ∃ (j : Nat) (x0 x1 x2 x3 x4 x5 : Value), Pos s j k ∧ Tr.Own W.heap.size w' (Nd.tr n) [x0, x1, x2, x3, x4, x5] ∧ e = .returned (.tuple #[.agg #[x0, x1, x2, x3, x4, x5], .int .i64 j, .int .i64 0])
  | .error q => ∃ (x0 x1 x2 x3 x4 x5 : Value) (j : Int), One6 x0 x1 x2 x3 x4 x5 ∧ e = .returned (.tuple #[.agg #[x0, x1, x2, x3, x4, x5], .int .i64 j, .int .i64 q])
def setR (R : Except Int (List Prt × Bs)) : Except Int (Nd × Bs) := match R with | .ok (rs, k) => .ok (.num false true rs, k) | .error e => .error e

theorem setInv_start (W : World) : SetInv W [] (.slice none 0 0) (.slice none 0 0) ((W.alloc (.cells #[.int .i64 0, .bool false, .bool false, .slice none 0 0, .slice none 0 0, .slice none 0 0] 30)).alloc (.cells #[.int .i64 0, .bool false, .bool true, .slice none 0 0, .slice none 0 0, .slice none 0 0] 30)) := by
  have hb := box_below (box_new W (.int .i64 0) (.bool false) (.bool false) (.slice none 0 0) (.slice none 0 0) (.slice none 0 0) 30) (balloc (brefl _) (.cells #[.int .i64 0, .bool false, .bool true, .slice none 0 0, .slice none 0 0, .slice none 0 0] 30))
  have hb2 := box_new (W.alloc (.cells #[.int .i64 0, .bool false, .bool false, .slice none 0 0, .slice none 0 0, .slice none 0 0] 30)) (.int .i64 0) (.bool false) (.bool true) (.slice none 0 0) (.slice none 0 0) (.slice none 0 0) 30
  rw [size_alloc] at hb2
  refine ⟨⟨by simp only [size_alloc]; omega, fun o => by simp [go_sem]⟩, hb, ⟨by simp only [size_alloc]; omega, fun o => by simp [go_sem]⟩, hb2, ⟨rfl, .inl ⟨rfl, rfl⟩⟩, ⟨rfl, .inl ⟨rfl, rfl⟩⟩, fun k hk => by simp [Value.ownBlock] at hk, balloc (balloc (brefl W) _) _, by simp⟩

theorem append_lies3 {w : World} {ops : Array Oper} {rest : List Oper} {o : Oper} {a : Act} {Q : Exit → Act → World → Prop} (hgd : o.guard = none) (s x : Operand)
    (ho : o.op = .call { callee := .builtin .append, args := #[s, x], argTypes := #[27, 27] }) (B : Nat) (v : Value) (n : Nat) (xs : List Value) (hs : a.eval s = v) (hown : w.ownsRow B 3 1 v n xs)
    (u : Int) (g0 c : Nat) (hx : a.eval x = .slice (some ⟨g0, 0, none⟩) 1 c) (hc : w.cell? ⟨g0, 0, none⟩ = some (.int .i64 u)) (hn : n ≤ 1000) (hB : B ≤ w.heap.size) (H : Nat) (hH : w.heap.size = H)
    (h : ∀ g cap w', w'.ownsRow B 3 1 (.slice (some ⟨g, 0, none⟩) (n + 1) cap) (n + 1) (xs ++ [.int .i64 u]) → w.grownBy w' v.ownBlock → (v.ownBlock = some g ∨ g = H) → wpList Tryz.prog ops Q rest (a.put o.dst (.slice (some ⟨g, 0, none⟩) (n + 1) cap)) w') : wpList Tryz.prog ops Q (o :: rest) a w := by
  obtain ⟨i0, hi, hz0, hz1, hz2⟩ := info_partsI
  refine wpList_append_lies w hgd s x 27 ho B 3 i0 _ 1 8 Tryz.underlying27 hi hz0 hz1 hz2 rfl (by decide) v n xs hs hown ⟨g0, 0, none⟩ 1 c [.int .i64 u] hx rfl ?_ (Is.cells_one [u]) (by decide) (by unfold maxLen; omega) (by omega) hB H hH fun g cap w' h1 h2 h3 _ => h g cap w' h1 h2 h3
  intro j q hj
  match j, hj with
  | 0, hj =>
    simp at hj
    subst hj
    simpa [Addr.add] using hc
theorem drew_heap (w : World) : w.drew.heap = w.heap := rfl
theorem box_drew {w : World} {b : Nat} {x0 x1 x2 x3 x4 x5 : Value} (h : Box w b x0 x1 x2 x3 x4 x5) : Box w.drew b x0 x1 x2 x3 x4 x5 := h
theorem wrap_ok (n : Nat) (h : n ≤ 100000) : IntKind.i64.wrap (n : Int) = (n : Int) := by
  simp (disch := omega) only [IntWalk.i64_in]
theorem wrap_succ (m : Nat) (h : m ≤ 100000) : IntKind.i64.wrap ((m : Int) + 1) = ((m + 1 : Nat) : Int) := by
  simp (disch := omega) only [IntWalk.i64_in]
  omega
theorem nodeGood_ok {s : ByteArray} {W w' : World} {R : Except Int (Nd × Bs)} {n : Nd} {k : Bs} {j : Nat} {ji : Int} {x0 x1 x2 x3 x4 x5 : Value} (hR : R = .ok (n, k)) (hb : Below W.heap.size W w') (hp : Pos s j k) (ht : Tr.Own W.heap.size w' (Nd.tr n) [x0, x1, x2, x3, x4, x5]) (hj : ji = (j : Int)) : NodeGood s W R (.returned (.tuple #[.agg #[x0, x1, x2, x3, x4, x5], .int .i64 ji, .int .i64 0])) w' := by
  rw [hR, hj]
  exact ⟨hb, j, x0, x1, x2, x3, x4, x5, hp, ht, rfl⟩
theorem cell_new (W : World) (x : Value) (t : TypeId) : (W.alloc (.cells #[x] t)).cell? ⟨W.heap.size, 0, none⟩ = some x := by simp
theorem Pos.nextAt {s : ByteArray} {j : Nat} {k : Bs} (h : Pos s j k) {c : UInt8} (hc : Px.isAt k c = true) : Pos s (s.size - (Px.skip k).length + 1) (Px.next k) := by
  obtain ⟨t, h1, h2⟩ := Px.isAt_some hc
  have hp := h.skip
  rw [h1] at hp
  obtain ⟨_, _, h3⟩ := hp.cons
  rw [h1, h2]
  exact h3
theorem set_err1 {f : Nat} {acc : List Prt} {r : Bs} {q : Int} (h : ¬ (acc ≠ [] ∧ Px.isAt r 93 = true)) (h1 : Px.number r = .error q) : Px.set (f + 1) acc r = .error q := by
  rw [Px.set, if_neg h, h1]
theorem set_one {f : Nat} {acc : List Prt} {r k : Bs} {a : Int} (h : ¬ (acc ≠ [] ∧ Px.isAt r 93 = true)) (h1 : Px.number r = .ok (a, k)) (h2 : Px.isAt k 45 = false) : Px.set (f + 1) acc r = Px.set f (acc ++ [(a, a, false)]) k := by
  rw [Px.set, if_neg h, h1]
  simp [h2]
theorem set_err2 {f : Nat} {acc : List Prt} {r k : Bs} {a q : Int} (h : ¬ (acc ≠ [] ∧ Px.isAt r 93 = true)) (h1 : Px.number r = .ok (a, k)) (h2 : Px.isAt k 45 = true) (h3 : Px.number (Px.next k) = .error q) : Px.set (f + 1) acc r = .error q := by
  rw [Px.set, if_neg h, h1]
  simp [h2, h3]
theorem set_less {f : Nat} {acc : List Prt} {r k k2 : Bs} {a b : Int} (h : ¬ (acc ≠ [] ∧ Px.isAt r 93 = true)) (h1 : Px.number r = .ok (a, k)) (h2 : Px.isAt k 45 = true) (h3 : Px.number (Px.next k) = .ok (b, k2)) (h4 : b < a) : Px.set (f + 1) acc r = .error 7 := by
  rw [Px.set, if_neg h, h1]
  simp [h2, h3, h4]
theorem set_two {f : Nat} {acc : List Prt} {r k k2 : Bs} {a b : Int} (h : ¬ (acc ≠ [] ∧ Px.isAt r 93 = true)) (h1 : Px.number r = .ok (a, k)) (h2 : Px.isAt k 45 = true) (h3 : Px.number (Px.next k) = .ok (b, k2)) (h4 : ¬ b < a) : Px.set (f + 1) acc r = Px.set f (acc ++ [(a, b, true)]) k2 := by
  rw [Px.set, if_neg h, h1]
  simp [h2, h3, h4]
theorem nodeGood_err {s : ByteArray} {W w' : World} {R : Except Int (Nd × Bs)} {q j : Int} {x0 x1 x2 x3 x4 x5 : Value} (hR : R = .error q) (hb : Below W.heap.size W w') (h1 : One6 x0 x1 x2 x3 x4 x5) : NodeGood s W R (.returned (.tuple #[.agg #[x0, x1, x2, x3, x4, x5], .int .i64 j, .int .i64 q])) w' := by
  rw [hR]
  exact ⟨hb, x0, x1, x2, x3, x4, x5, j, h1, rfl⟩
/-- The node that a set hands back. -/
theorem setInv_at {W : World} {acc : List Prt} {fo to : Option Addr} {fc tc : Nat} {wr w' : World} (h : SetInv W acc (.slice fo acc.length fc) (.slice to acc.length tc) wr) (hl : acc.length ≤ 1000) (hb : ∀ k, W.heap.size + 2 ≤ k → k < wr.heap.size → w'.heap[k]? = wr.heap[k]?) :
    Tr.At w' (Nd.tr (.num false true acc)) [.int .i64 0, .bool false, .bool true, .slice fo acc.length fc, .slice to acc.length tc, .slice none 0 0] := by
  have hs : ∀ {o : Option Addr} {c : Nat} {xs : List Int}, xs.length = acc.length → wr.ownsRow (W.heap.size + 2) 3 1 (.slice o acc.length c) acc.length (Is.cells xs) → Is.slot w' o xs := by
    intro o c xs hx ho
    rcases ho.2 with ⟨h1, h2⟩ | ⟨g, cap, cur, h1, h2, h3, h4, h5, h6, h7⟩
    · left
      exact List.length_eq_zero_iff.1 (by omega)
    · simp only [Value.slice.injEq] at h1
      refine .inr ⟨g, 0, h1.1, fun j hj => ?_⟩
      have hg : w'.heap[g]? = some (.cells cur 3) := (hb g h2 (heap_lt h3)).trans h3
      rw [cell_of_row w' g _ cur 3 _ hg, Nat.zero_add]
      have h8 : (cur.toList.take (acc.length * 1))[j]? = (Is.cells xs)[j]? := by rw [h7]
      rw [List.getElem?_take, if_pos (by omega)] at h8
      simpa [Is.cells, hj] using h8
  have e1 : (acc.map Prod.fst).length = acc.length := by simp
  have e2 : (acc.map fun p => p.2.1).length = acc.length := by simp
  have := Tr.At.mk (w := w') (k := 0) (d := false) (s := true) (f := acc.map Prod.fst) (t := acc.map fun p => p.2.1) (ks := []) (fo := fo) (fc := fc) (to := to) (tc := tc) (ko := none) (kc := 0) 0 0 (fun _ => []) ⟨by omega, by omega, by simp⟩ (hs e1 h.rowF) (hs e2 h.rowT) (.inl rfl) (fun i hi => by simp at hi) (fun i hi => by simp at hi)
  rw [e1, e2] at this
  rw [Nd.tr]
  exact this

set_option maxHeartbeats 16000000 in
set_option maxRecDepth 100000 in
theorem refSet_is (s : ByteArray) (hs : s.size ≤ 64) (n : Nat) (r0 : Bs) (hp : Pos s n r0) (f0 : Nat) (hf : r0.length < f0) (W : World) :
    Calls Tryz.prog 58 #[.string s, .int .i64 n] W (NodeGood s W (setR (Px.set f0 [] r0))) := by
  have HI := hide (setInv_start W)
  have HP := hide hp
  obtain ⟨R, hR⟩ : ∃ R, R = Px.set f0 [] r0 := ⟨_, rfl⟩
  have HR0 := hide hR
  have HF := hide hf
  rw [← hR]
  clear hp hR hf
  go_enter Tryz.func58, Tryz.ntmps58
  go_wp2_with fail
  generalize (W.alloc (.cells #[.int .i64 0, .bool false, .bool false, .slice none 0 0, .slice none 0 0, .slice none 0 0] 30)).alloc (.cells #[.int .i64 0, .bool false, .bool true, .slice none 0 0, .slice none 0 0, .slice none 0 0] 30) = W1 at *
  go_loopw [1, 8, 9, 10, 11] (fun v1 _ _ _ _ wr => ∃ (at_ f : Nat) (r : Bs) (acc : List Prt) (fo : Option Addr) (fc : Nat) (to : Option Addr) (tc : Nat), v1 = .int .i64 at_ ∧ Hid (Pos s at_ r) ∧ at_ ≤ s.size ∧ acc.length ≤ at_ ∧ Hid (R = Px.set f acc r) ∧ Hid (r.length < f) ∧ Hid (SetInv W acc (.slice fo acc.length fc) (.slice to acc.length tc) wr)) (fun v1 _ _ _ _ _ => s.size - (intOf v1).toNat)
  case atStart => exact ⟨n, f0, r0, [], none, 0, none, 0, rfl, HP, HP.out.2, Nat.zero_le _, HR0, HF, HI⟩
  case round =>
    obtain ⟨at_, f, r, acc, fo, fc, to, tc, rfl, HPr, hat, hac, HR, HFr, HI1⟩ := hrel
    obtain ⟨c0, c1, c2, c3, c4, c5⟩ := HI1.out.box1
    obtain ⟨d0, d1, d2, d3, d4, d5⟩ := HI1.out.box0
    have f3 := HI1.out.free1.2 3
    have f4 := HI1.out.free1.2 4
    have g0 := HI1.out.free0.2 0
    have g1 := HI1.out.free0.2 1
    have g2 := HI1.out.free0.2 2
    have g3 := HI1.out.free0.2 3
    have g4 := HI1.out.free0.2 4
    have g5 := HI1.out.free0.2 5
    match f, HFr, HR with
    | f + 1, HFr, HR =>
    have CN := hide (fun w => number_is s (by omega) at_ r HPr.out w)
    by_cases ha : acc = []
    · have HNY : Hid (¬ (acc ≠ [] ∧ Px.isAt r 93 = true)) := fun h => h.1 ha
      have hal : ((acc.length : Int) == 0) = true := by simp [ha]
      clear ha
      cases hN : Px.number r with
      | error q =>
        have HX : Hid (setR R = .error q) := by show _ = _; rw [HR.out, set_err1 HNY.out hN]; rfl
        have hq := number_err hN
        have hq' : (q == 0) = false := by simpa using hq
        rw [hN] at CN
        clear hN
        go_wp2_with fail
        refine (CN.out _).mono ?_
        rintro e w2 ⟨j, rfl, hw⟩
        have hw' := hw.symm
        clear hw
        subst hw'
        go_wp2_with fail
        refine bodyPost_ret (res_node Tryz.results58 _ _ W.heap.size rfl rfl rfl (put6_box HI1.out.box0 _ _ _ _ _ _)) rfl (nodeGood_err HX.out (put6_below HI1.out.below (Nat.le_refl _) _ _ _ _ _ _) ⟨rfl, rfl, rfl, rfl, rfl, rfl⟩)
      | ok z =>
        obtain ⟨va, k⟩ := z
        obtain ⟨hks, hkl⟩ := Px.number_suf hN
        rw [hN] at CN
        have HKL := hide hkl
        clear hks hkl
        cases h45 : Px.isAt k 45 with
        | false =>
          have HX : Hid (R = Px.set f (acc ++ [(va, va, false)]) k) := by show _ = _; rw [HR.out, set_one HNY.out hN h45]
          have CI := hide (fun (j : Nat) (hj : Pos s j k) w => is_is s (by omega) j k hj 45 45 rfl false h45 w)
          clear h45 hN
          go_wp2_with fail
          refine (CN.out _).mono ?_
          rintro e w2 ⟨j, hj, rfl, hw⟩
          have hw' := hw.symm
          clear hw
          subst hw'
          have HJ := hide hj
          have hlj : at_ < j := by
            have h1 := hj.len
            have h2 := HPr.out.len
            have h3 := HKL.out
            omega
          have hjs := hj.2
          clear hj
          go_wp2_with fail
          refine (CI.out _ HJ.out _).mono ?_
          rintro e w2 ⟨rfl, hw⟩
          have hw' := hw.symm
          clear hw
          subst hw'
          go_wp2_with (at_builtin; go_must (refine append_lies3 rfl _ _ rfl (W.heap.size + 2) (.slice fo acc.length fc) acc.length (Is.cells (acc.map Prod.fst)) rfl (HI1.out.rowF.alloc _) va _ _ rfl (cell_new _ _ _) (by omega) (by have := HI1.out.big; rw [size_alloc]; omega) (wr.heap.size + 1) (size_alloc _ _) ?_))
          intro gF cF w1 ho hg hloc
          have MI := hide (HI1.out.first ho hg hloc)
          clear ho hg hloc c0 c1 c2 c3 c4 c5 d0 d1 d2 d3 d4 d5 f3 f4 g0 g1 g2 g3 g4 g5
          obtain ⟨c0, c1, c2, c3, c4, c5⟩ := MI.out.box1
          have f3 := MI.out.free1.2 3
          have f4 := MI.out.free1.2 4
          go_wp2_with (at_builtin; go_must (refine append_lies3 rfl _ _ rfl (W.heap.size + 2) (.slice to acc.length tc) acc.length (Is.cells (acc.map fun p => p.2.1)) rfl ((ownsRow_setCell_below MI.out.rowT (a := ⟨W.heap.size + 1, 3, none⟩) (Nat.lt_succ_self _) _).alloc _) va _ _ rfl (by rw [← size_setCell w1 ⟨W.heap.size + 1, 3, none⟩ (.slice (some ⟨gF, 0, none⟩) (acc.length + 1) cF)]; exact cell_new _ _ _) (by omega) (by have := MI.out.big; rw [size_alloc, size_setCell]; omega) (w1.heap.size + 1) (by rw [size_alloc, size_setCell]) ?_))
          intro gT cT w3 ho hg hloc
          obtain ⟨fr3, bx3, hinv⟩ := MI.out.second false ho hg hloc
          have HI2 := hide hinv
          clear ho hg hloc c0 c1 c2 c3 c4 c5 f3 f4 hinv
          obtain ⟨c0, c1, c2, c3, c4, c5⟩ := bx3
          have f3 := fr3.2 3
          have f4 := fr3.2 4
          clear fr3
          go_wp2_with fail
          exact ⟨⟨j, f, _, acc ++ [(va, va, false)], _, cF, _, cT, rfl, HJ, HJ.out.2, by simp only [List.length_append, List.length_cons, List.length_nil]; omega, HX, hide (by have := HFr.out; have := HKL.out; omega), by simpa using HI2⟩, by simp [intOf] <;> omega⟩
        | true =>
          have CI := hide (fun (j : Nat) (hj : Pos s j k) w => is_is s (by omega) j k hj 45 45 rfl true h45 w)
          have CS := hide (fun (j : Nat) (hj : Pos s j k) w => skip_is s (by omega) j k hj _ hj.skip w)
          have hnl := Px.next_len h45
          have CN2 := hide (fun (j : Nat) (hj : Pos s j k) w => number_is s (by omega) _ (Px.next k) (hj.nextAt h45) w)
          have hsk : s.size - (Px.skip k).length ≤ 64 := by omega
          generalize s.size - (Px.skip k).length = m at CS CN2 hsk
          cases hN2 : Px.number (Px.next k) with
          | error q =>
            have HX : Hid (setR R = .error q) := by show _ = _; rw [HR.out, set_err2 HNY.out hN h45 hN2]; rfl
            have hq := number_err hN2
            have hq' : (q == 0) = false := by simpa using hq
            rw [hN2] at CN2
            clear hN hN2 h45 hnl
            go_wp2_with fail
            refine (CN.out _).mono ?_
            rintro e w2 ⟨j, hj, rfl, hw⟩
            have hw' := hw.symm
            clear hw
            subst hw'
            have HJ := hide hj
            have hjs := hj.2
            clear hj
            go_wp2_with fail
            refine (CI.out _ HJ.out _).mono ?_
            rintro e w2 ⟨rfl, hw⟩
            have hw' := hw.symm
            clear hw
            subst hw'
            go_wp2_with fail
            refine (CS.out _ HJ.out _).mono ?_
            rintro e w2 ⟨rfl, hw⟩
            have hw' := hw.symm
            clear hw
            subst hw'
            have CC := hide (CN2.out _ HJ.out wr)
            go_wp2_with fail
            refine CC.out.mono ?_
            rintro e w2 ⟨j2, rfl, hw⟩
            have hw' := hw.symm
            clear hw
            subst hw'
            go_wp2_with fail
            refine bodyPost_ret (res_node Tryz.results58 _ _ W.heap.size rfl rfl rfl (put6_box HI1.out.box0 _ _ _ _ _ _)) rfl (nodeGood_err HX.out (put6_below HI1.out.below (Nat.le_refl _) _ _ _ _ _ _) ⟨rfl, rfl, rfl, rfl, rfl, rfl⟩)
          | ok z =>
            obtain ⟨vb, k2⟩ := z
            obtain ⟨_, hkl2⟩ := Px.number_suf hN2
            rw [hN2] at CN2
            by_cases hlt : vb < va
            · have HX : Hid (setR R = .error 7) := by show _ = _; rw [HR.out, set_less HNY.out hN h45 hN2 hlt]; rfl
              clear hN hN2 h45 hnl hkl2
              go_wp2_with fail
              refine (CN.out _).mono ?_
              rintro e w2 ⟨j, hj, rfl, hw⟩
              have hw' := hw.symm
              clear hw
              subst hw'
              have HJ := hide hj
              have hjs := hj.2
              clear hj
              go_wp2_with fail
              refine (CI.out _ HJ.out _).mono ?_
              rintro e w2 ⟨rfl, hw⟩
              have hw' := hw.symm
              clear hw
              subst hw'
              go_wp2_with fail
              refine (CS.out _ HJ.out _).mono ?_
              rintro e w2 ⟨rfl, hw⟩
              have hw' := hw.symm
              clear hw
              subst hw'
              have CC := hide (CN2.out _ HJ.out wr)
              go_wp2_with fail
              refine CC.out.mono ?_
              rintro e w2 ⟨j2, hj2, rfl, hw⟩
              have hw' := hw.symm
              clear hw
              subst hw'
              clear hj2
              go_wp2_with fail
              refine bodyPost_ret (res_node Tryz.results58 _ _ W.heap.size rfl rfl rfl (put6_box HI1.out.box0 _ _ _ _ _ _)) rfl (nodeGood_err HX.out (put6_below HI1.out.below (Nat.le_refl _) _ _ _ _ _ _) ⟨rfl, rfl, rfl, rfl, rfl, rfl⟩)
            · have HX : Hid (R = Px.set f (acc ++ [(va, vb, true)]) k2) := by show _ = _; rw [HR.out, set_two HNY.out hN h45 hN2 hlt]
              have HL2 : Hid (k2.length < k.length) := by show _ < _; omega
              clear hN hN2 h45 hnl hkl2
              go_wp2_with fail
              refine (CN.out _).mono ?_
              rintro e w2 ⟨j, hj, rfl, hw⟩
              have hw' := hw.symm
              clear hw
              subst hw'
              have HJ1 := hide hj
              have hjs := hj.2
              clear hj
              go_wp2_with fail
              refine (CI.out _ HJ1.out _).mono ?_
              rintro e w2 ⟨rfl, hw⟩
              have hw' := hw.symm
              clear hw
              subst hw'
              go_wp2_with fail
              refine (CS.out _ HJ1.out _).mono ?_
              rintro e w2 ⟨rfl, hw⟩
              have hw' := hw.symm
              clear hw
              subst hw'
              have CC := hide (CN2.out _ HJ1.out wr)
              go_wp2_with fail
              refine CC.out.mono ?_
              rintro e w2 ⟨j2, hj2, rfl, hw⟩
              have hw' := hw.symm
              clear hw
              subst hw'
              have HJ := hide hj2
              have hlj : at_ < j2 := by
                have h1 := hj2.len
                have h2 := HPr.out.len
                have h3 := HKL.out
                have h4 := HL2.out
                omega
              have hjs2 := hj2.2
              have hFL : k2.length < f := by
                have h3 := HKL.out
                have h4 := HL2.out
                have h5 := HFr.out
                omega
              have HFL := hide hFL
              clear hj2 hFL
              go_wp2_with (at_builtin; go_must (refine append_lies3 rfl _ _ rfl (W.heap.size + 2) (.slice fo acc.length fc) acc.length (Is.cells (acc.map Prod.fst)) rfl (HI1.out.rowF.alloc _) va _ _ rfl (cell_new _ _ _) (by omega) (by have := HI1.out.big; rw [size_alloc]; omega) (wr.heap.size + 1) (size_alloc _ _) ?_))
              intro gF cF w1 ho hg hloc
              have MI := hide (HI1.out.first ho hg hloc)
              clear ho hg hloc c0 c1 c2 c3 c4 c5 d0 d1 d2 d3 d4 d5 f3 f4 g0 g1 g2 g3 g4 g5
              obtain ⟨c0, c1, c2, c3, c4, c5⟩ := MI.out.box1
              have f3 := MI.out.free1.2 3
              have f4 := MI.out.free1.2 4
              go_wp2_with (at_builtin; go_must (refine append_lies3 rfl _ _ rfl (W.heap.size + 2) (.slice to acc.length tc) acc.length (Is.cells (acc.map fun p => p.2.1)) rfl ((ownsRow_setCell_below MI.out.rowT (a := ⟨W.heap.size + 1, 3, none⟩) (Nat.lt_succ_self _) _).alloc _) vb _ _ rfl (by rw [← size_setCell w1 ⟨W.heap.size + 1, 3, none⟩ (.slice (some ⟨gF, 0, none⟩) (acc.length + 1) cF)]; exact cell_new _ _ _) (by omega) (by have := MI.out.big; rw [size_alloc, size_setCell]; omega) (w1.heap.size + 1) (by rw [size_alloc, size_setCell]) ?_))
              intro gT cT w3 ho hg hloc
              obtain ⟨fr3, bx3, hinv⟩ := MI.out.second true ho hg hloc
              have HI2 := hide hinv
              clear ho hg hloc c0 c1 c2 c3 c4 c5 f3 f4 hinv
              obtain ⟨c0, c1, c2, c3, c4, c5⟩ := bx3
              have f3 := fr3.2 3
              have f4 := fr3.2 4
              clear fr3
              go_wp2_with fail
              exact ⟨⟨j2, f, _, acc ++ [(va, vb, true)], _, cF, _, cT, rfl, HJ, HJ.out.2, by simp only [List.length_append, List.length_cons, List.length_nil]; omega, HX, HFL, by simpa using HI2⟩, by simp [intOf] <;> omega⟩
    · have hal : ((acc.length : Int) == 0) = false := by simpa using ha
      cases h93 : Px.isAt r 93 with
      | false =>
        have HNY : Hid (¬ (acc ≠ [] ∧ Px.isAt r 93 = true)) := fun h => by rw [h93] at h; exact absurd h.2 (by decide)
        have CB := hide (fun w => is_is s (by omega) at_ r HPr.out 93 93 rfl false h93 w)
        clear ha h93
        cases hN : Px.number r with
        | error q =>
          have HX : Hid (setR R = .error q) := by show _ = _; rw [HR.out, set_err1 HNY.out hN]; rfl
          have hq := number_err hN
          have hq' : (q == 0) = false := by simpa using hq
          rw [hN] at CN
          clear hN
          go_wp2_with fail
          refine (CB.out _).mono ?_
          rintro e w2 ⟨rfl, hw⟩
          have hw' := hw.symm
          clear hw
          subst hw'
          go_wp2_with fail
          refine (CN.out _).mono ?_
          rintro e w2 ⟨j, rfl, hw⟩
          have hw' := hw.symm
          clear hw
          subst hw'
          go_wp2_with fail
          refine bodyPost_ret (res_node Tryz.results58 _ _ W.heap.size rfl rfl rfl (put6_box HI1.out.box0 _ _ _ _ _ _)) rfl (nodeGood_err HX.out (put6_below HI1.out.below (Nat.le_refl _) _ _ _ _ _ _) ⟨rfl, rfl, rfl, rfl, rfl, rfl⟩)
        | ok z =>
          obtain ⟨va, k⟩ := z
          obtain ⟨hks, hkl⟩ := Px.number_suf hN
          rw [hN] at CN
          have HKL := hide hkl
          clear hks hkl
          cases h45 : Px.isAt k 45 with
          | false =>
            have HX : Hid (R = Px.set f (acc ++ [(va, va, false)]) k) := by show _ = _; rw [HR.out, set_one HNY.out hN h45]
            have CI := hide (fun (j : Nat) (hj : Pos s j k) w => is_is s (by omega) j k hj 45 45 rfl false h45 w)
            clear h45 hN
            go_wp2_with fail
            refine (CB.out _).mono ?_
            rintro e w2 ⟨rfl, hw⟩
            have hw' := hw.symm
            clear hw
            subst hw'
            go_wp2_with fail
            refine (CN.out _).mono ?_
            rintro e w2 ⟨j, hj, rfl, hw⟩
            have hw' := hw.symm
            clear hw
            subst hw'
            have HJ := hide hj
            have hlj : at_ < j := by
              have h1 := hj.len
              have h2 := HPr.out.len
              have h3 := HKL.out
              omega
            have hjs := hj.2
            clear hj
            go_wp2_with fail
            refine (CI.out _ HJ.out _).mono ?_
            rintro e w2 ⟨rfl, hw⟩
            have hw' := hw.symm
            clear hw
            subst hw'
            go_wp2_with (at_builtin; go_must (refine append_lies3 rfl _ _ rfl (W.heap.size + 2) (.slice fo acc.length fc) acc.length (Is.cells (acc.map Prod.fst)) rfl (HI1.out.rowF.alloc _) va _ _ rfl (cell_new _ _ _) (by omega) (by have := HI1.out.big; rw [size_alloc]; omega) (wr.heap.size + 1) (size_alloc _ _) ?_))
            intro gF cF w1 ho hg hloc
            have MI := hide (HI1.out.first ho hg hloc)
            clear ho hg hloc c0 c1 c2 c3 c4 c5 d0 d1 d2 d3 d4 d5 f3 f4 g0 g1 g2 g3 g4 g5
            obtain ⟨c0, c1, c2, c3, c4, c5⟩ := MI.out.box1
            have f3 := MI.out.free1.2 3
            have f4 := MI.out.free1.2 4
            go_wp2_with (at_builtin; go_must (refine append_lies3 rfl _ _ rfl (W.heap.size + 2) (.slice to acc.length tc) acc.length (Is.cells (acc.map fun p => p.2.1)) rfl ((ownsRow_setCell_below MI.out.rowT (a := ⟨W.heap.size + 1, 3, none⟩) (Nat.lt_succ_self _) _).alloc _) va _ _ rfl (by rw [← size_setCell w1 ⟨W.heap.size + 1, 3, none⟩ (.slice (some ⟨gF, 0, none⟩) (acc.length + 1) cF)]; exact cell_new _ _ _) (by omega) (by have := MI.out.big; rw [size_alloc, size_setCell]; omega) (w1.heap.size + 1) (by rw [size_alloc, size_setCell]) ?_))
            intro gT cT w3 ho hg hloc
            obtain ⟨fr3, bx3, hinv⟩ := MI.out.second false ho hg hloc
            have HI2 := hide hinv
            clear ho hg hloc c0 c1 c2 c3 c4 c5 f3 f4 hinv
            obtain ⟨c0, c1, c2, c3, c4, c5⟩ := bx3
            have f3 := fr3.2 3
            have f4 := fr3.2 4
            clear fr3
            go_wp2_with fail
            exact ⟨⟨j, f, _, acc ++ [(va, va, false)], _, cF, _, cT, rfl, HJ, HJ.out.2, by simp only [List.length_append, List.length_cons, List.length_nil]; omega, HX, hide (by have := HFr.out; have := HKL.out; omega), by simpa using HI2⟩, by simp [intOf] <;> omega⟩
          | true =>
            have CI := hide (fun (j : Nat) (hj : Pos s j k) w => is_is s (by omega) j k hj 45 45 rfl true h45 w)
            have CS := hide (fun (j : Nat) (hj : Pos s j k) w => skip_is s (by omega) j k hj _ hj.skip w)
            have hnl := Px.next_len h45
            have CN2 := hide (fun (j : Nat) (hj : Pos s j k) w => number_is s (by omega) _ (Px.next k) (hj.nextAt h45) w)
            have hsk : s.size - (Px.skip k).length ≤ 64 := by omega
            generalize s.size - (Px.skip k).length = m at CS CN2 hsk
            cases hN2 : Px.number (Px.next k) with
            | error q =>
              have HX : Hid (setR R = .error q) := by show _ = _; rw [HR.out, set_err2 HNY.out hN h45 hN2]; rfl
              have hq := number_err hN2
              have hq' : (q == 0) = false := by simpa using hq
              rw [hN2] at CN2
              clear hN hN2 h45 hnl
              go_wp2_with fail
              refine (CB.out _).mono ?_
              rintro e w2 ⟨rfl, hw⟩
              have hw' := hw.symm
              clear hw
              subst hw'
              go_wp2_with fail
              refine (CN.out _).mono ?_
              rintro e w2 ⟨j, hj, rfl, hw⟩
              have hw' := hw.symm
              clear hw
              subst hw'
              have HJ := hide hj
              have hjs := hj.2
              clear hj
              go_wp2_with fail
              refine (CI.out _ HJ.out _).mono ?_
              rintro e w2 ⟨rfl, hw⟩
              have hw' := hw.symm
              clear hw
              subst hw'
              go_wp2_with fail
              refine (CS.out _ HJ.out _).mono ?_
              rintro e w2 ⟨rfl, hw⟩
              have hw' := hw.symm
              clear hw
              subst hw'
              have CC := hide (CN2.out _ HJ.out wr)
              go_wp2_with fail
              refine CC.out.mono ?_
              rintro e w2 ⟨j2, rfl, hw⟩
              have hw' := hw.symm
              clear hw
              subst hw'
              go_wp2_with fail
              refine bodyPost_ret (res_node Tryz.results58 _ _ W.heap.size rfl rfl rfl (put6_box HI1.out.box0 _ _ _ _ _ _)) rfl (nodeGood_err HX.out (put6_below HI1.out.below (Nat.le_refl _) _ _ _ _ _ _) ⟨rfl, rfl, rfl, rfl, rfl, rfl⟩)
            | ok z =>
              obtain ⟨vb, k2⟩ := z
              obtain ⟨_, hkl2⟩ := Px.number_suf hN2
              rw [hN2] at CN2
              by_cases hlt : vb < va
              · have HX : Hid (setR R = .error 7) := by show _ = _; rw [HR.out, set_less HNY.out hN h45 hN2 hlt]; rfl
                clear hN hN2 h45 hnl hkl2
                go_wp2_with fail
                refine (CB.out _).mono ?_
                rintro e w2 ⟨rfl, hw⟩
                have hw' := hw.symm
                clear hw
                subst hw'
                go_wp2_with fail
                refine (CN.out _).mono ?_
                rintro e w2 ⟨j, hj, rfl, hw⟩
                have hw' := hw.symm
                clear hw
                subst hw'
                have HJ := hide hj
                have hjs := hj.2
                clear hj
                go_wp2_with fail
                refine (CI.out _ HJ.out _).mono ?_
                rintro e w2 ⟨rfl, hw⟩
                have hw' := hw.symm
                clear hw
                subst hw'
                go_wp2_with fail
                refine (CS.out _ HJ.out _).mono ?_
                rintro e w2 ⟨rfl, hw⟩
                have hw' := hw.symm
                clear hw
                subst hw'
                have CC := hide (CN2.out _ HJ.out wr)
                go_wp2_with fail
                refine CC.out.mono ?_
                rintro e w2 ⟨j2, hj2, rfl, hw⟩
                have hw' := hw.symm
                clear hw
                subst hw'
                clear hj2
                go_wp2_with fail
                refine bodyPost_ret (res_node Tryz.results58 _ _ W.heap.size rfl rfl rfl (put6_box HI1.out.box0 _ _ _ _ _ _)) rfl (nodeGood_err HX.out (put6_below HI1.out.below (Nat.le_refl _) _ _ _ _ _ _) ⟨rfl, rfl, rfl, rfl, rfl, rfl⟩)
              · have HX : Hid (R = Px.set f (acc ++ [(va, vb, true)]) k2) := by show _ = _; rw [HR.out, set_two HNY.out hN h45 hN2 hlt]
                have HL2 : Hid (k2.length < k.length) := by show _ < _; omega
                clear hN hN2 h45 hnl hkl2
                go_wp2_with fail
                refine (CB.out _).mono ?_
                rintro e w2 ⟨rfl, hw⟩
                have hw' := hw.symm
                clear hw
                subst hw'
                go_wp2_with fail
                refine (CN.out _).mono ?_
                rintro e w2 ⟨j, hj, rfl, hw⟩
                have hw' := hw.symm
                clear hw
                subst hw'
                have HJ1 := hide hj
                have hjs := hj.2
                clear hj
                go_wp2_with fail
                refine (CI.out _ HJ1.out _).mono ?_
                rintro e w2 ⟨rfl, hw⟩
                have hw' := hw.symm
                clear hw
                subst hw'
                go_wp2_with fail
                refine (CS.out _ HJ1.out _).mono ?_
                rintro e w2 ⟨rfl, hw⟩
                have hw' := hw.symm
                clear hw
                subst hw'
                have CC := hide (CN2.out _ HJ1.out wr)
                go_wp2_with fail
                refine CC.out.mono ?_
                rintro e w2 ⟨j2, hj2, rfl, hw⟩
                have hw' := hw.symm
                clear hw
                subst hw'
                have HJ := hide hj2
                have hlj : at_ < j2 := by
                  have h1 := hj2.len
                  have h2 := HPr.out.len
                  have h3 := HKL.out
                  have h4 := HL2.out
                  omega
                have hjs2 := hj2.2
                have hFL : k2.length < f := by
                  have h3 := HKL.out
                  have h4 := HL2.out
                  have h5 := HFr.out
                  omega
                have HFL := hide hFL
                clear hj2 hFL
                go_wp2_with (at_builtin; go_must (refine append_lies3 rfl _ _ rfl (W.heap.size + 2) (.slice fo acc.length fc) acc.length (Is.cells (acc.map Prod.fst)) rfl (HI1.out.rowF.alloc _) va _ _ rfl (cell_new _ _ _) (by omega) (by have := HI1.out.big; rw [size_alloc]; omega) (wr.heap.size + 1) (size_alloc _ _) ?_))
                intro gF cF w1 ho hg hloc
                have MI := hide (HI1.out.first ho hg hloc)
                clear ho hg hloc c0 c1 c2 c3 c4 c5 d0 d1 d2 d3 d4 d5 f3 f4 g0 g1 g2 g3 g4 g5
                obtain ⟨c0, c1, c2, c3, c4, c5⟩ := MI.out.box1
                have f3 := MI.out.free1.2 3
                have f4 := MI.out.free1.2 4
                go_wp2_with (at_builtin; go_must (refine append_lies3 rfl _ _ rfl (W.heap.size + 2) (.slice to acc.length tc) acc.length (Is.cells (acc.map fun p => p.2.1)) rfl ((ownsRow_setCell_below MI.out.rowT (a := ⟨W.heap.size + 1, 3, none⟩) (Nat.lt_succ_self _) _).alloc _) vb _ _ rfl (by rw [← size_setCell w1 ⟨W.heap.size + 1, 3, none⟩ (.slice (some ⟨gF, 0, none⟩) (acc.length + 1) cF)]; exact cell_new _ _ _) (by omega) (by have := MI.out.big; rw [size_alloc, size_setCell]; omega) (w1.heap.size + 1) (by rw [size_alloc, size_setCell]) ?_))
                intro gT cT w3 ho hg hloc
                obtain ⟨fr3, bx3, hinv⟩ := MI.out.second true ho hg hloc
                have HI2 := hide hinv
                clear ho hg hloc c0 c1 c2 c3 c4 c5 f3 f4 hinv
                obtain ⟨c0, c1, c2, c3, c4, c5⟩ := bx3
                have f3 := fr3.2 3
                have f4 := fr3.2 4
                clear fr3
                go_wp2_with fail
                exact ⟨⟨j2, f, _, acc ++ [(va, vb, true)], _, cF, _, cT, rfl, HJ, HJ.out.2, by simp only [List.length_append, List.length_cons, List.length_nil]; omega, HX, HFL, by simpa using HI2⟩, by simp [intOf] <;> omega⟩
      | true =>
        have HX : Hid (R = .ok (acc, Px.next r)) := by show _ = _; rw [HR.out, Px.set, if_pos ⟨ha, h93⟩]
        have HX2 : Hid (setR R = .ok (.num false true acc, Px.next r)) := by show _ = _; rw [HX.out]; rfl
        have CB := hide (fun w => is_is s (by omega) at_ r HPr.out 93 93 rfl true h93 w)
        have CS := hide (fun w => skip_is s (by omega) at_ r HPr.out _ HPr.out.skip w)
        have HJ := hide (HPr.out.nextAt h93)
        have hsk : s.size - (Px.skip r).length ≤ 64 := by omega
        generalize s.size - (Px.skip r).length = m at CS HJ hsk
        clear ha h93 CN
        go_wp2_with fail
        refine (CB.out _).mono ?_
        rintro e w2 ⟨rfl, hw⟩
        have hw' := hw.symm
        clear hw
        subst hw'
        go_wp2_with fail
        go_region_with (first | (go_at_call 27; refine (CS.out _).mono ?_; rintro e w' ⟨rfl, rfl⟩))
        all_goals
          go_wp2_with fail
          simp only [List.getElem_toArray, List.getElem_cons_zero, List.getElem_cons_succ, Act.put, List.setIfInBounds_toArray, List.set_cons_zero, List.set_cons_succ]
          have HB : Hid (Box (put6 wr W.heap.size (.int .i64 0) (.bool false) (.bool true) (.slice fo acc.length fc) (.slice to acc.length tc) (.slice none 0 0)).drew W.heap.size (.int .i64 0) (.bool false) (.bool true) (.slice fo acc.length fc) (.slice to acc.length tc) (.slice none 0 0)) := hide (box_drew (put6_box HI1.out.box0 _ _ _ _ _ _))
          have HA : Hid (Tr.Own W.heap.size (put6 wr W.heap.size (.int .i64 0) (.bool false) (.bool true) (.slice fo acc.length fc) (.slice to acc.length tc) (.slice none 0 0)).drew (Nd.tr (.num false true acc)) [.int .i64 0, .bool false, .bool true, .slice fo acc.length fc, .slice to acc.length tc, .slice none 0 0]) := fun w'' h => setInv_at (w' := w'') HI1.out (by omega) (fun k hk hk2 => (h k (by omega) (by rw [drew_heap, put6_size]; exact hk2)).trans (by rw [drew_heap]; exact put6_other _ _ _ _ _ _ _ _ k (by omega)))
          have HBL := hide (Below.drew (put6_below HI1.out.below (Nat.le_refl _) (.int .i64 0) (.bool false) (.bool true) (.slice fo acc.length fc) (.slice to acc.length tc) (.slice none 0 0)))
          have HW := wrap_succ m (by omega)
          rw [HW]
          change bodyPost Tryz.prog Tryz.f58 (NodeGood s W (setR R)) Exit.ret _ (put6 wr W.heap.size (.int .i64 0) (.bool false) (.bool true) (.slice fo acc.length fc) (.slice to acc.length tc) (.slice none 0 0)).drew
          refine bodyPost_ret (v := .tuple #[.agg #[.int .i64 0, .bool false, .bool true, .slice fo acc.length fc, .slice to acc.length tc, .slice none 0 0], .int .i64 ((m + 1 : Nat) : Int), .int .i64 0]) ?_ rfl (nodeGood_ok HX2.out HBL.out HJ.out HA.out rfl)
          exact res_node Tryz.results58 _ _ W.heap.size rfl rfl rfl HB.out
end Go.Proofs.YtbceoinhmpnjaaaGreatDoor

