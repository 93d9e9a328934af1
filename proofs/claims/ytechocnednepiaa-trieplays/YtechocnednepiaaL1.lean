import Derived.Test.YtechocnednepiaaP17
/- Lists of prefixes with numbers; the document's At. -/
namespace Go.Proofs.Ytechocnednepiaa
open Go.RowKit

/-- A list of prefixes with numbers. -/
abbrev Prs := List (Pf × Int)
def Pr.enc (x : Pf × Int) : List Value := [.int .u32 x.1.1, .int .i64 x.1.2, .int .i64 x.2]
def Pr.cells (l : Prs) : List Value := l.flatMap Pr.enc
def Pr.reads (w : World) (b off : Nat) (l : Prs) : Prop := ∀ j u, (Pr.cells l)[j]? = some u → w.cell? ⟨b, off + j, none⟩ = some u
def Pr.rowAt (w : World) (ao : Option Addr) (l : Prs) : Prop := l = [] ∨ ∃ b off, ao = some ⟨b, off, none⟩ ∧ Pr.reads w b off l
theorem Pr.cells_length (l : Prs) : (Pr.cells l).length = l.length * 3 := by
  induction l with
  | nil => rfl
  | cons x l ih => simp only [Pr.cells, List.flatMap_cons, List.length_append, List.length_cons] at *; simp only [Pr.enc, List.length_cons, List.length_nil]; omega
theorem Pr.cells_get (l : Prs) (i : Nat) (h : i < l.length) : (Pr.cells l)[i * 3]? = some (.int .u32 l[i].1.1) ∧ (Pr.cells l)[i * 3 + 1]? = some (.int .i64 l[i].1.2) ∧ (Pr.cells l)[i * 3 + 2]? = some (.int .i64 l[i].2) := by
  induction l generalizing i with
  | nil => simp at h
  | cons x l ih =>
    cases i with
    | zero => simp [Pr.cells, Pr.enc]
    | succ i =>
      have := ih i (by simpa using h)
      have e : (i + 1) * 3 = i * 3 + 1 + 1 + 1 := by omega
      simpa [Pr.cells, Pr.enc, e] using this
theorem Pr.reads_at {w : World} {b off : Nat} {l : Prs} (h : Pr.reads w b off l) (i : Nat) (hi : i < l.length) :
    w.cell? ⟨b, off + i * 3, none⟩ = some (.int .u32 l[i].1.1) ∧ w.cell? ⟨b, off + i * 3 + 1, none⟩ = some (.int .i64 l[i].1.2) ∧ w.cell? ⟨b, off + i * 3 + 2, none⟩ = some (.int .i64 l[i].2) := by
  have := Pr.cells_get l i hi
  exact ⟨h _ _ this.1, by rw [Nat.add_assoc]; exact h _ _ this.2.1, by rw [Nat.add_assoc]; exact h _ _ this.2.2⟩
theorem Pr.reads_below {w w' : World} {b off : Nat} {l : Prs} (h : Pr.reads w b off l) (hb : Below w.heap.size w w') : Pr.reads w' b off l := by
  intro j u hu
  have := h j u hu
  rw [hb.cell (p := ⟨b, off + j, none⟩) (block_lt_of_cell this)]
  exact this
theorem Pr.rowAt_below {w w' : World} {ao : Option Addr} {l : Prs} (h : Pr.rowAt w ao l) (hb : Below w.heap.size w w') : Pr.rowAt w' ao l := by
  rcases h with h | ⟨b, off, h, hr⟩
  · exact .inl h
  · exact .inr ⟨b, off, h, Pr.reads_below hr hb⟩
/-- Which comes ahead. -/
def ahead (p q : Pf) : Bool := if p.1 = q.1 then decide (p.2 < q.2) else decide (p.1 < q.1)
/-- The place of a prefix, and whether it is there. -/
def place : Prs → Pf → Nat × Bool
  | [], _ => (0, false)
  | x :: l, p => if x.1 = p then (0, true) else if ahead p x.1 then (0, false) else ((place l p).1 + 1, (place l p).2)
theorem place_le (l : Prs) (p : Pf) : (place l p).1 ≤ l.length := by
  induction l with
  | nil => simp [place]
  | cons x l ih =>
    simp only [place]
    split
    · simp
    · split
      · simp
      · simp; omega
theorem place_drop {l : Prs} {p : Pf} {k : Nat} (h : k < l.length) : place (l.drop k) p = if l[k].1 = p then (0, true) else if ahead p l[k].1 then (0, false) else ((place (l.drop (k + 1)) p).1 + 1, (place (l.drop (k + 1)) p).2) := by
  rw [List.drop_eq_getElem_cons h, place]

set_option maxHeartbeats 4000000 in
set_option maxRecDepth 100000 in
theorem refAt_is (ao : Option Addr) (cap : Nat) (l : Prs) (p : Pf) (w : World) (hR : Pr.rowAt w ao l) (hn : l.length ≤ 1000000) :
    Calls Try.prog 42 #[.slice ao l.length cap, pv p] w fun e w' => e = .returned (.tuple #[.int .i64 ((place l p).1 : Nat), .bool (place l p).2]) ∧ Below w.heap.size w w' := by
  have HR := hide hR
  clear hR
  have TB0 := hide (two_new w p)
  have BB0 := hide (balloc (brefl w) (.cells #[.int .u32 p.1, .int .i64 p.2] 30))
  obtain ⟨p0, p1⟩ := p
  unfold pv
  go_enter Try.func42, Try.ntmps42
  go_wp2_with fail
  generalize w.alloc (.cells #[.int .u32 p0, .int .i64 p1] 30) = W at *
  go_loopw [6] (fun v6 wr => ∃ k : Nat, k ≤ l.length ∧ v6 = .int .i64 k ∧ Hid (place l (p0, p1) = (k + (place (l.drop k) (p0, p1)).1, (place (l.drop k) (p0, p1)).2)) ∧ Hid (Below w.heap.size w wr) ∧ Hid (Two wr w.heap.size (p0, p1))) (fun v6 _ => l.length - (intOf v6).toNat)
  case atStart => exact ⟨0, Nat.zero_le _, rfl, by show _ = _; simp, BB0, TB0⟩
  case round =>
    obtain ⟨k, hk, rfl, HPL, HB, TB⟩ := hrel
    clear BB0 TB0
    by_cases hlt : k < l.length
    · have hlt' : (k : Int) < (l.length : Int) := by omega
      obtain ⟨b, off, rfl, r1⟩ : ∃ b off, ao = some ⟨b, off, none⟩ ∧ Pr.reads wr b off l := by
        rcases Pr.rowAt_below HR.out HB.out with h | h
        · rw [h] at hlt; simp at hlt
        · exact h
      obtain ⟨e0, e1, _⟩ := Pr.reads_at r1 k hlt
      have HPD := hide (place_drop (p := (p0, p1)) hlt)
      obtain ⟨d0, d1, _, _⟩ := TB.out.cells
      clear r1
      generalize l[k].1 = x at *
      obtain ⟨x0, x1⟩ := x
      have hgd := guardP
      by_cases hq : (x0, x1) = (p0, p1)
      · have HQ := hide hq
        simp only [Prod.mk.injEq] at hq
        obtain ⟨rfl, rfl⟩ := hq
        have heq := eq_eq x0 x1
        have HE : Hid (place l (x0, x1) = (k, true)) := by show _ = _; rw [HPL.out, HPD.out, if_pos rfl]; simp
        go_wp2_with fail
        refine wp_region_held_drew (S := fun w' => (w'.cell? ⟨w.heap.size, 0, none⟩ = some (.int .u32 x0) ∧ w'.cell? ⟨w.heap.size, 1, none⟩ = some (.int .i64 x1)) ∧ (w'.cell? ⟨b, off + k * 3, none⟩ = some (.int .u32 x0) ∧ w'.cell? ⟨b, off + k * 3 + 1, none⟩ = some (.int .i64 x1))) (by kernel_rfl) ⟨⟨d0, d1⟩, ⟨e0, e1⟩⟩ (fun hHeld => ?_)
        refine wpAnyH_take (i := 0) (v := .slice (some ⟨b, off, none⟩) l.length cap) rfl (by kernel_rfl) (by kernel_rfl) (by kernel_rfl) (fun _ _ _ h => h) (Or.inl ⟨by rfl, fun w hSw => by dsimp only at hSw; go_simp⟩) hHeld ?_
        simp only [Act.put, List.getElem_toArray, List.getElem_cons_zero, List.setIfInBounds_toArray, List.set_cons_zero, List.set_cons_succ]
        refine wpAnyH_take (i := 1) (v := .int .i64 k) rfl (by kernel_rfl) (by kernel_rfl) (by kernel_rfl) (fun _ _ _ h => h) (Or.inl ⟨by rfl, fun w hSw => by dsimp only at hSw; go_simp⟩) hHeld ?_
        simp only [Act.put, List.getElem_toArray, List.getElem_cons_zero, List.getElem_cons_succ, List.setIfInBounds_toArray, List.set_cons_zero, List.set_cons_succ]
        refine wpAnyH_take (i := 2) (v := .pointer (some ⟨b, off + k * 3, none⟩)) rfl (by kernel_rfl) (by kernel_rfl) (by kernel_rfl) (fun _ _ _ h => h) (Or.inl ⟨by rfl, fun w hSw => by dsimp only at hSw; go_simp⟩) hHeld ?_
        simp only [Act.put, List.getElem_toArray, List.getElem_cons_zero, List.getElem_cons_succ, List.setIfInBounds_toArray, List.set_cons_zero, List.set_cons_succ]
        refine wpAnyH_take (i := 3) (v := .pointer (some ⟨b, off + k * 3, none⟩)) rfl (by kernel_rfl) (by kernel_rfl) (by kernel_rfl) (fun _ _ _ h => h) (Or.inl ⟨by rfl, fun w hSw => by dsimp only at hSw; go_simp⟩) hHeld ?_
        simp only [Act.put, List.getElem_toArray, List.getElem_cons_zero, List.getElem_cons_succ, List.setIfInBounds_toArray, List.set_cons_zero, List.set_cons_succ]
        refine wpAnyH_take (i := 4) (v := .agg #[.int .u32 x0, .int .i64 x1]) rfl (by kernel_rfl) (by kernel_rfl) (by kernel_rfl) (fun _ _ _ h => h) (Or.inl ⟨by rfl, fun w hSw => by dsimp only at hSw; go_simp⟩) hHeld ?_
        simp only [Act.put, List.getElem_toArray, List.getElem_cons_zero, List.getElem_cons_succ, List.setIfInBounds_toArray, List.set_cons_zero, List.set_cons_succ]
        refine wpAnyH_take (i := 5) (v := .agg #[.int .u32 x0, .int .i64 x1]) rfl (by kernel_rfl) (by kernel_rfl) (by kernel_rfl) (fun _ _ _ h => h) (Or.inl ⟨by rfl, fun w hSw => by dsimp only at hSw; go_simp⟩) hHeld ?_
        simp only [Act.put, List.getElem_toArray, List.getElem_cons_zero, List.getElem_cons_succ, List.setIfInBounds_toArray, List.set_cons_zero, List.set_cons_succ]
        refine wpAnyH_take (i := 6) (v := .bool true) rfl (by kernel_rfl) (by kernel_rfl) (by kernel_rfl) (fun _ _ _ h => h) (Or.inl ⟨by rfl, fun w hSw => by dsimp only at hSw; go_simp⟩) hHeld ?_
        simp only [Act.put, List.getElem_toArray, List.getElem_cons_zero, List.getElem_cons_succ, List.setIfInBounds_toArray, List.set_cons_zero, List.set_cons_succ]
        refine wpAnyH_done (by kernel_rfl) ?_ _
        go_wp2_with fail
        go_ret2
        rw [HE.out]
        exact ⟨rfl, HB.out.drew⟩
      · have heq := eq_ne hq
        have HQ := hide hq
        clear hq
        go_wp2_with fail
        refine wp_region_held_drew (S := fun w' => (w'.cell? ⟨w.heap.size, 0, none⟩ = some (.int .u32 p0) ∧ w'.cell? ⟨w.heap.size, 1, none⟩ = some (.int .i64 p1)) ∧ (w'.cell? ⟨b, off + k * 3, none⟩ = some (.int .u32 x0) ∧ w'.cell? ⟨b, off + k * 3 + 1, none⟩ = some (.int .i64 x1))) (by kernel_rfl) ⟨⟨d0, d1⟩, ⟨e0, e1⟩⟩ (fun hHeld => ?_)
        refine wpAnyH_take (i := 0) (v := .slice (some ⟨b, off, none⟩) l.length cap) rfl (by kernel_rfl) (by kernel_rfl) (by kernel_rfl) (fun _ _ _ h => h) (Or.inl ⟨by rfl, fun w hSw => by dsimp only at hSw; go_simp⟩) hHeld ?_
        simp only [Act.put, List.getElem_toArray, List.getElem_cons_zero, List.setIfInBounds_toArray, List.set_cons_zero, List.set_cons_succ]
        refine wpAnyH_take (i := 1) (v := .int .i64 k) rfl (by kernel_rfl) (by kernel_rfl) (by kernel_rfl) (fun _ _ _ h => h) (Or.inl ⟨by rfl, fun w hSw => by dsimp only at hSw; go_simp⟩) hHeld ?_
        simp only [Act.put, List.getElem_toArray, List.getElem_cons_zero, List.getElem_cons_succ, List.setIfInBounds_toArray, List.set_cons_zero, List.set_cons_succ]
        refine wpAnyH_take (i := 2) (v := .pointer (some ⟨b, off + k * 3, none⟩)) rfl (by kernel_rfl) (by kernel_rfl) (by kernel_rfl) (fun _ _ _ h => h) (Or.inl ⟨by rfl, fun w hSw => by dsimp only at hSw; go_simp⟩) hHeld ?_
        simp only [Act.put, List.getElem_toArray, List.getElem_cons_zero, List.getElem_cons_succ, List.setIfInBounds_toArray, List.set_cons_zero, List.set_cons_succ]
        refine wpAnyH_take (i := 3) (v := .pointer (some ⟨b, off + k * 3, none⟩)) rfl (by kernel_rfl) (by kernel_rfl) (by kernel_rfl) (fun _ _ _ h => h) (Or.inl ⟨by rfl, fun w hSw => by dsimp only at hSw; go_simp⟩) hHeld ?_
        simp only [Act.put, List.getElem_toArray, List.getElem_cons_zero, List.getElem_cons_succ, List.setIfInBounds_toArray, List.set_cons_zero, List.set_cons_succ]
        refine wpAnyH_take (i := 4) (v := .agg #[.int .u32 x0, .int .i64 x1]) rfl (by kernel_rfl) (by kernel_rfl) (by kernel_rfl) (fun _ _ _ h => h) (Or.inl ⟨by rfl, fun w hSw => by dsimp only at hSw; go_simp⟩) hHeld ?_
        simp only [Act.put, List.getElem_toArray, List.getElem_cons_zero, List.getElem_cons_succ, List.setIfInBounds_toArray, List.set_cons_zero, List.set_cons_succ]
        refine wpAnyH_take (i := 5) (v := .agg #[.int .u32 p0, .int .i64 p1]) rfl (by kernel_rfl) (by kernel_rfl) (by kernel_rfl) (fun _ _ _ h => h) (Or.inl ⟨by rfl, fun w hSw => by dsimp only at hSw; go_simp⟩) hHeld ?_
        simp only [Act.put, List.getElem_toArray, List.getElem_cons_zero, List.getElem_cons_succ, List.setIfInBounds_toArray, List.set_cons_zero, List.set_cons_succ]
        refine wpAnyH_take (i := 6) (v := .bool false) rfl (by kernel_rfl) (by kernel_rfl) (by kernel_rfl) (fun _ _ _ h => h) (Or.inl ⟨by rfl, fun w hSw => by dsimp only at hSw; go_simp⟩) hHeld ?_
        simp only [Act.put, List.getElem_toArray, List.getElem_cons_zero, List.getElem_cons_succ, List.setIfInBounds_toArray, List.set_cons_zero, List.set_cons_succ]
        refine wpAnyH_done (by kernel_rfl) ?_ _
        clear hHeld
        have TB := hide (TB.out.below (Below.drew (brefl _)))
        have HB := hide HB.out.drew
        obtain ⟨d0, d1, _, _⟩ := TB.out.cells
        replace e0 : wr.drew.cell? ⟨b, off + k * 3, none⟩ = some (.int .u32 x0) := e0
        replace e1 : wr.drew.cell? ⟨b, off + k * 3 + 1, none⟩ = some (.int .i64 x1) := e1
        generalize wr.drew = wq at *
        have TB := hide (TB.out.below (Below.drew (brefl _)))
        have HB := hide HB.out.drew
        have CB := hide (fun W => refBefore_any p0 p1 x0 x1 W)
        cases ha : ahead (p0, p1) (x0, x1)
        · have hb : (if p0 = x0 then decide (p1 < x1) else decide (p0 < x0)) = false := ha
          rw [hb] at CB
          have HE : Hid (place l (p0, p1) = (k + 1 + (place (l.drop (k + 1)) (p0, p1)).1, (place (l.drop (k + 1)) (p0, p1)).2)) := by
            show _ = _
            rw [HPL.out, HPD.out, if_neg HQ.out, ha]
            simp; omega
          clear ha hb
          go_wp2_with fail
          refine wp_region_held_drew (S := fun w' => (w'.cell? ⟨w.heap.size, 0, none⟩ = some (.int .u32 p0) ∧ w'.cell? ⟨w.heap.size, 1, none⟩ = some (.int .i64 p1)) ∧ (w'.cell? ⟨b, off + k * 3, none⟩ = some (.int .u32 x0) ∧ w'.cell? ⟨b, off + k * 3 + 1, none⟩ = some (.int .i64 x1))) (by kernel_rfl) ⟨⟨d0, d1⟩, ⟨e0, e1⟩⟩ (fun hHeld => ?_)
          refine wpAnyH_take (i := 0) (v := .agg #[.int .u32 p0, .int .i64 p1]) rfl (by kernel_rfl) (by kernel_rfl) (by kernel_rfl) (fun _ _ _ h => h) (Or.inl ⟨by rfl, fun w hSw => by dsimp only at hSw; go_simp⟩) hHeld ?_
          simp only [Act.put, List.getElem_toArray, List.getElem_cons_zero, List.setIfInBounds_toArray, List.set_cons_zero, List.set_cons_succ]
          refine wpAnyH_take (i := 1) (v := .slice (some ⟨b, off, none⟩) l.length cap) rfl (by kernel_rfl) (by kernel_rfl) (by kernel_rfl) (fun _ _ _ h => h) (Or.inl ⟨by rfl, fun w hSw => by dsimp only at hSw; go_simp⟩) hHeld ?_
          simp only [Act.put, List.getElem_toArray, List.getElem_cons_zero, List.getElem_cons_succ, List.setIfInBounds_toArray, List.set_cons_zero, List.set_cons_succ]
          refine wpAnyH_take (i := 2) (v := .int .i64 k) rfl (by kernel_rfl) (by kernel_rfl) (by kernel_rfl) (fun _ _ _ h => h) (Or.inl ⟨by rfl, fun w hSw => by dsimp only at hSw; go_simp⟩) hHeld ?_
          simp only [Act.put, List.getElem_toArray, List.getElem_cons_zero, List.getElem_cons_succ, List.setIfInBounds_toArray, List.set_cons_zero, List.set_cons_succ]
          refine wpAnyH_take (i := 3) (v := .pointer (some ⟨b, off + k * 3, none⟩)) rfl (by kernel_rfl) (by kernel_rfl) (by kernel_rfl) (fun _ _ _ h => h) (Or.inl ⟨by rfl, fun w hSw => by dsimp only at hSw; go_simp⟩) hHeld ?_
          simp only [Act.put, List.getElem_toArray, List.getElem_cons_zero, List.getElem_cons_succ, List.setIfInBounds_toArray, List.set_cons_zero, List.set_cons_succ]
          refine wpAnyH_take (i := 4) (v := .pointer (some ⟨b, off + k * 3, none⟩)) rfl (by kernel_rfl) (by kernel_rfl) (by kernel_rfl) (fun _ _ _ h => h) (Or.inl ⟨by rfl, fun w hSw => by dsimp only at hSw; go_simp⟩) hHeld ?_
          simp only [Act.put, List.getElem_toArray, List.getElem_cons_zero, List.getElem_cons_succ, List.setIfInBounds_toArray, List.set_cons_zero, List.set_cons_succ]
          refine wpAnyH_take (i := 5) (v := .agg #[.int .u32 x0, .int .i64 x1]) rfl (by kernel_rfl) (by kernel_rfl) (by kernel_rfl) (fun _ _ _ h => h) (Or.inl ⟨by rfl, fun w hSw => by dsimp only at hSw; go_simp⟩) hHeld ?_
          simp only [Act.put, List.getElem_toArray, List.getElem_cons_zero, List.getElem_cons_succ, List.setIfInBounds_toArray, List.set_cons_zero, List.set_cons_succ]
          refine wpAnyH_ready (rs := [6]) (by kernel_rfl) (by simp) ?_
          refine AllReadyH.cons rfl (fun K hK => ?_) AllReadyH.nil
          go_simp
          go_wp2_with (go_at_call 60; refine (CB.out _).mono ?_; rintro e w4 ⟨rfl, hb4⟩; have HB4 := hide hb4; have T4 := hide (TB.out.below hb4); have HH := hide (And.intro (And.intro T4.out.cells.1 T4.out.cells.2.1) (And.intro ((hb4.cell (p := ⟨b, off + k * 3, none⟩) (block_lt_of_cell e0)).trans e0) ((hb4.cell (p := ⟨b, off + k * 3 + 1, none⟩) (block_lt_of_cell e1)).trans e1))); clear hb4)
          refine hK.out _ _ HH.out (fun hHeld => ?_)
          clear hK K
          try simp only [Act.put, List.getElem_toArray, List.getElem_cons_zero, List.getElem_cons_succ, List.setIfInBounds_toArray, List.set_cons_zero, List.set_cons_succ]
          refine wpAnyH_done (by kernel_rfl) ?_ _
          go_wp2_with fail
          refine ⟨⟨k + 1, by omega, by go_num, HE, hide (bthen HB.out HB4.out), T4⟩, by simp [intOf]; omega⟩
        · have hb : (if p0 = x0 then decide (p1 < x1) else decide (p0 < x0)) = true := ha
          rw [hb] at CB
          have HE : Hid (place l (p0, p1) = (k, false)) := by
            show _ = _
            rw [HPL.out, HPD.out, if_neg HQ.out, ha]
            simp
          clear ha hb
          go_wp2_with fail
          refine wp_region_held_drew (S := fun w' => (w'.cell? ⟨w.heap.size, 0, none⟩ = some (.int .u32 p0) ∧ w'.cell? ⟨w.heap.size, 1, none⟩ = some (.int .i64 p1)) ∧ (w'.cell? ⟨b, off + k * 3, none⟩ = some (.int .u32 x0) ∧ w'.cell? ⟨b, off + k * 3 + 1, none⟩ = some (.int .i64 x1))) (by kernel_rfl) ⟨⟨d0, d1⟩, ⟨e0, e1⟩⟩ (fun hHeld => ?_)
          refine wpAnyH_take (i := 0) (v := .agg #[.int .u32 p0, .int .i64 p1]) rfl (by kernel_rfl) (by kernel_rfl) (by kernel_rfl) (fun _ _ _ h => h) (Or.inl ⟨by rfl, fun w hSw => by dsimp only at hSw; go_simp⟩) hHeld ?_
          simp only [Act.put, List.getElem_toArray, List.getElem_cons_zero, List.setIfInBounds_toArray, List.set_cons_zero, List.set_cons_succ]
          refine wpAnyH_take (i := 1) (v := .slice (some ⟨b, off, none⟩) l.length cap) rfl (by kernel_rfl) (by kernel_rfl) (by kernel_rfl) (fun _ _ _ h => h) (Or.inl ⟨by rfl, fun w hSw => by dsimp only at hSw; go_simp⟩) hHeld ?_
          simp only [Act.put, List.getElem_toArray, List.getElem_cons_zero, List.getElem_cons_succ, List.setIfInBounds_toArray, List.set_cons_zero, List.set_cons_succ]
          refine wpAnyH_take (i := 2) (v := .int .i64 k) rfl (by kernel_rfl) (by kernel_rfl) (by kernel_rfl) (fun _ _ _ h => h) (Or.inl ⟨by rfl, fun w hSw => by dsimp only at hSw; go_simp⟩) hHeld ?_
          simp only [Act.put, List.getElem_toArray, List.getElem_cons_zero, List.getElem_cons_succ, List.setIfInBounds_toArray, List.set_cons_zero, List.set_cons_succ]
          refine wpAnyH_take (i := 3) (v := .pointer (some ⟨b, off + k * 3, none⟩)) rfl (by kernel_rfl) (by kernel_rfl) (by kernel_rfl) (fun _ _ _ h => h) (Or.inl ⟨by rfl, fun w hSw => by dsimp only at hSw; go_simp⟩) hHeld ?_
          simp only [Act.put, List.getElem_toArray, List.getElem_cons_zero, List.getElem_cons_succ, List.setIfInBounds_toArray, List.set_cons_zero, List.set_cons_succ]
          refine wpAnyH_take (i := 4) (v := .pointer (some ⟨b, off + k * 3, none⟩)) rfl (by kernel_rfl) (by kernel_rfl) (by kernel_rfl) (fun _ _ _ h => h) (Or.inl ⟨by rfl, fun w hSw => by dsimp only at hSw; go_simp⟩) hHeld ?_
          simp only [Act.put, List.getElem_toArray, List.getElem_cons_zero, List.getElem_cons_succ, List.setIfInBounds_toArray, List.set_cons_zero, List.set_cons_succ]
          refine wpAnyH_take (i := 5) (v := .agg #[.int .u32 x0, .int .i64 x1]) rfl (by kernel_rfl) (by kernel_rfl) (by kernel_rfl) (fun _ _ _ h => h) (Or.inl ⟨by rfl, fun w hSw => by dsimp only at hSw; go_simp⟩) hHeld ?_
          simp only [Act.put, List.getElem_toArray, List.getElem_cons_zero, List.getElem_cons_succ, List.setIfInBounds_toArray, List.set_cons_zero, List.set_cons_succ]
          refine wpAnyH_ready (rs := [6]) (by kernel_rfl) (by simp) ?_
          refine AllReadyH.cons rfl (fun K hK => ?_) AllReadyH.nil
          go_simp
          go_wp2_with (go_at_call 60; refine (CB.out _).mono ?_; rintro e w4 ⟨rfl, hb4⟩; have HB4 := hide hb4; have T4 := hide (TB.out.below hb4); have HH := hide (And.intro (And.intro T4.out.cells.1 T4.out.cells.2.1) (And.intro ((hb4.cell (p := ⟨b, off + k * 3, none⟩) (block_lt_of_cell e0)).trans e0) ((hb4.cell (p := ⟨b, off + k * 3 + 1, none⟩) (block_lt_of_cell e1)).trans e1))); clear hb4)
          refine hK.out _ _ HH.out (fun hHeld => ?_)
          clear hK K
          try simp only [Act.put, List.getElem_toArray, List.getElem_cons_zero, List.getElem_cons_succ, List.setIfInBounds_toArray, List.set_cons_zero, List.set_cons_succ]
          refine wpAnyH_done (by kernel_rfl) ?_ _
          go_wp2_with fail
          go_ret2
          rw [HE.out]
          exact ⟨rfl, bthen HB.out HB4.out⟩
    · have hkl : k = l.length := by omega
      have HE : Hid (place l (p0, p1) = (l.length, false)) := by
        show _ = _
        rw [HPL.out, hkl]
        simp [place]
      clear hkl
      go_wp2_with fail
      go_ret2
      rw [HE.out]
      exact ⟨rfl, HB.out⟩
end Go.Proofs.Ytechocnednepiaa
