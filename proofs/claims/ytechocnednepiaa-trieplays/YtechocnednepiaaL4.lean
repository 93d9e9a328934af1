import Derived.Test.YtechocnednepiaaL3
/- The law's step. -/
namespace Go.Proofs.Ytechocnednepiaa
open Go.RowKit

/-- A step in a block of its own. -/
def Five (w : World) (b : Nat) (k v : Int) (p : Pf) (a : Int) : Prop := w.heap[b]? = some (.cells #[.int .i64 k, .int .i64 v, .int .u32 p.1, .int .i64 p.2, .int .u32 a] 32 (0, 0))
theorem Five.cells {w : World} {b : Nat} {k v a : Int} {p : Pf} (h : Five w b k v p a) : w.cell? ⟨b, 0, none⟩ = some (.int .i64 k) ∧ w.cell? ⟨b, 1, none⟩ = some (.int .i64 v) ∧ w.cell? ⟨b, 2, none⟩ = some (.int .u32 p.1) ∧ w.cell? ⟨b, 3, none⟩ = some (.int .i64 p.2) ∧ w.cell? ⟨b, 4, none⟩ = some (.int .u32 a) :=
  ⟨by rw [cell_of_row w b 0 _ 32 _ h]; rfl, by rw [cell_of_row w b 1 _ 32 _ h]; rfl, by rw [cell_of_row w b 2 _ 32 _ h]; rfl, by rw [cell_of_row w b 3 _ 32 _ h]; rfl, by rw [cell_of_row w b 4 _ 32 _ h]; rfl⟩
theorem five_new (w : World) (k v : Int) (p : Pf) (a : Int) : Five (w.alloc (.cells #[.int .i64 k, .int .i64 v, .int .u32 p.1, .int .i64 p.2, .int .u32 a] 32)) w.heap.size k v p a := heap_alloc_new _ _
theorem Five.below {w w' : World} {b : Nat} {k v a : Int} {p : Pf} (h : Five w b k v p a) (hb : Below w.heap.size w w') : Five w' b k v p a := (hb.block b (lt_of_block h)).trans h
theorem Five.kept {S : Nat → Prop} {w w' : World} {b : Nat} {k v a : Int} {p : Pf} (h : Five w b k v p a) (hk : Keep S w w') (hs : ¬ S b) : Five w' b k v p a := (hk.block b hs (lt_of_block h)).trans h
/-- What a step hands back. -/
def Stepped (w0 : World) (T : Nat) (l : Prs) (e : Ending) (w' : World) : Prop :=
  ∃ (t' : Nt) (ao' : Option Addr) (cap' : Nat) (l' : Prs), e = .returned (.tuple #[.slice ao' l'.length cap', .bool true]) ∧ St w0 w' T t' ao' cap' l' ∧ l'.length ≤ l.length + 1
theorem putL_length (l : Prs) (p : Pf) (v : Int) : (putL l p v).length ≤ l.length + 1 := by
  unfold putL
  have h := place_le l p
  cases hb : (place l p).2
  · simp; omega
  · have := place_lt hb
    simp; omega
set_option maxHeartbeats 8000000 in
set_option maxRecDepth 100000 in
theorem step_put_bad {w0 w : World} {T : Nat} {t : Nt} {ao : Option Addr} {cap : Nat} {l : Prs} (hS : St w0 w T t ao cap l) (v a : Int) {p : Pf} (h0 : 0 ≤ p.1) (h1 : p.1 ≤ 4294967295) (hm : Ad.may p.1 p.2 = false) :
    Calls Try.prog 10 #[.pointer (some ⟨T, 0, none⟩), .slice ao l.length cap, .agg #[.int .i64 0, .int .i64 v, .int .u32 p.1, .int .i64 p.2, .int .u32 a]] w (Stepped w0 T l) := by
  have CP := hide (fun W => put_bad T p (nb v) W h0 h1 hm)
  have CM := hide (fun W => refMay_is p.1 p.2 false hm W h0 h1)
  have FV := hide (five_new w 0 v p a)
  have HB := hide (balloc (brefl w) (.cells #[.int .i64 0, .int .i64 v, .int .u32 p.1, .int .i64 p.2, .int .u32 a] 32))
  have ST := hide hS
  clear hS hm
  obtain ⟨p0, p1⟩ := p
  unfold pv at CP
  go_enter Try.func10, Try.ntmps10
  go_wp2_with fail
  generalize w.alloc (.cells #[.int .i64 0, .int .i64 v, .int .u32 p0, .int .i64 p1, .int .u32 a] 32) = W at *
  obtain ⟨g0, g1, g2, g3, g4⟩ := FV.out.cells
  refine wp_region_held_drew (S := fun w' => w'.cell? ⟨w.heap.size, 1, none⟩ = some (.int .i64 v) ∧ w'.cell? ⟨w.heap.size, 2, none⟩ = some (.int .u32 p0) ∧ w'.cell? ⟨w.heap.size, 3, none⟩ = some (.int .i64 p1)) (by kernel_rfl) ⟨g1, g2, g3⟩ (fun hHeld => ?_)
  refine wpAnyH_take (i := 0) (v := .pointer (some ⟨T, 0, none⟩)) rfl (by kernel_rfl) (by kernel_rfl) (by kernel_rfl) (fun _ _ _ h => h) (Or.inl ⟨by rfl, fun w hSw => by dsimp only at hSw; go_simp⟩) hHeld ?_
  simp only [Act.put, List.getElem_toArray, List.getElem_cons_zero, List.setIfInBounds_toArray, List.set_cons_zero, List.set_cons_succ]
  refine wpAnyH_take (i := 1) (v := .pointer (some ⟨w.heap.size, 2, none⟩)) rfl (by kernel_rfl) (by kernel_rfl) (by kernel_rfl) (fun _ _ _ h => h) (Or.inl ⟨by rfl, fun w hSw => by dsimp only at hSw; go_simp⟩) hHeld ?_
  simp only [Act.put, List.getElem_toArray, List.getElem_cons_zero, List.getElem_cons_succ, List.setIfInBounds_toArray, List.set_cons_zero, List.set_cons_succ]
  refine wpAnyH_take (i := 2) (v := .agg #[.int .u32 p0, .int .i64 p1]) rfl (by kernel_rfl) (by kernel_rfl) (by kernel_rfl) (fun _ _ _ h => h) (Or.inl ⟨by rfl, fun w hSw => by dsimp only at hSw; go_simp⟩) hHeld ?_
  simp only [Act.put, List.getElem_toArray, List.getElem_cons_zero, List.getElem_cons_succ, List.setIfInBounds_toArray, List.set_cons_zero, List.set_cons_succ]
  refine wpAnyH_take (i := 3) (v := .pointer (some ⟨w.heap.size, 1, none⟩)) rfl (by kernel_rfl) (by kernel_rfl) (by kernel_rfl) (fun _ _ _ h => h) (Or.inl ⟨by rfl, fun w hSw => by dsimp only at hSw; go_simp⟩) hHeld ?_
  simp only [Act.put, List.getElem_toArray, List.getElem_cons_zero, List.getElem_cons_succ, List.setIfInBounds_toArray, List.set_cons_zero, List.set_cons_succ]
  refine wpAnyH_take (i := 4) (v := .int .i64 v) rfl (by kernel_rfl) (by kernel_rfl) (by kernel_rfl) (fun _ _ _ h => h) (Or.inl ⟨by rfl, fun w hSw => by dsimp only at hSw; go_simp⟩) hHeld ?_
  simp only [Act.put, List.getElem_toArray, List.getElem_cons_zero, List.getElem_cons_succ, List.setIfInBounds_toArray, List.set_cons_zero, List.set_cons_succ]
  refine wpAnyH_ready (rs := [5]) (by kernel_rfl) (by simp) ?_
  refine AllReadyH.cons rfl (fun K hK => ?_) AllReadyH.nil
  go_simp
  go_wp2_with (go_at_call 38; refine (number_is v _).mono ?_; rintro e w4 ⟨rfl, rfl⟩)
  refine hK.out _ _ hHeld (fun hHeld => ?_)
  clear hK K
  try simp only [Act.put, List.getElem_toArray, List.getElem_cons_zero, List.getElem_cons_succ, List.setIfInBounds_toArray, List.set_cons_zero, List.set_cons_succ]
  refine wpAnyH_ready (rs := [6]) (by kernel_rfl) (by simp) ?_
  refine AllReadyH.cons rfl (fun K hK => ?_) AllReadyH.nil
  go_simp
  go_wp2_with (go_at_call 33; refine (CP.out _).mono ?_; rintro e w2 ⟨rfl, hb2⟩; have HB2 := hide (bthen HB.out.drew hb2); have F2 := hide (FV.out.below (bthen (Below.drew (brefl _)) hb2)); have HH := hide (And.intro F2.out.cells.2.1 (And.intro F2.out.cells.2.2.1 F2.out.cells.2.2.2.1)); clear hb2)
  refine hK.out _ _ HH.out (fun hHeld => ?_)
  clear hK K
  try simp only [Act.put, List.getElem_toArray, List.getElem_cons_zero, List.getElem_cons_succ, List.setIfInBounds_toArray, List.set_cons_zero, List.set_cons_succ]
  refine wpAnyH_take (i := 7) (v := .tuple #[.bool false, .int .i64 1]) rfl (by kernel_rfl) (by kernel_rfl) (by kernel_rfl) (fun _ _ _ h => h) (Or.inl ⟨by rfl, fun w hSw => by dsimp only at hSw; go_simp⟩) hHeld ?_
  simp only [Act.put, List.getElem_toArray, List.getElem_cons_zero, List.getElem_cons_succ, List.setIfInBounds_toArray, List.set_cons_zero, List.set_cons_succ]
  refine wpAnyH_take (i := 8) (v := .bool false) rfl (by kernel_rfl) (by kernel_rfl) (by kernel_rfl) (fun _ _ _ h => h) (Or.inl ⟨by rfl, fun w hSw => by dsimp only at hSw; go_simp⟩) hHeld ?_
  simp only [Act.put, List.getElem_toArray, List.getElem_cons_zero, List.getElem_cons_succ, List.setIfInBounds_toArray, List.set_cons_zero, List.set_cons_succ]
  refine wpAnyH_take (i := 9) (v := .int .i64 1) rfl (by kernel_rfl) (by kernel_rfl) (by kernel_rfl) (fun _ _ _ h => h) (Or.inl ⟨by rfl, fun w hSw => by dsimp only at hSw; go_simp⟩) hHeld ?_
  simp only [Act.put, List.getElem_toArray, List.getElem_cons_zero, List.getElem_cons_succ, List.setIfInBounds_toArray, List.set_cons_zero, List.set_cons_succ]
  refine wpAnyH_take (i := 10) (v := .bool false) rfl (by kernel_rfl) (by kernel_rfl) (by kernel_rfl) (fun _ _ _ h => h) (Or.inl ⟨by rfl, fun w hSw => by dsimp only at hSw; go_simp⟩) hHeld ?_
  simp only [Act.put, List.getElem_toArray, List.getElem_cons_zero, List.getElem_cons_succ, List.setIfInBounds_toArray, List.set_cons_zero, List.set_cons_succ]
  refine wpAnyH_take (i := 11) (v := .int .i64 1) rfl (by kernel_rfl) (by kernel_rfl) (by kernel_rfl) (fun _ _ _ h => h) (Or.inl ⟨by rfl, fun w hSw => by dsimp only at hSw; go_simp⟩) hHeld ?_
  simp only [Act.put, List.getElem_toArray, List.getElem_cons_zero, List.getElem_cons_succ, List.setIfInBounds_toArray, List.set_cons_zero, List.set_cons_succ]
  refine wpAnyH_done (by kernel_rfl) ?_ _
  clear hHeld HH g0 g1 g2 g3 g4
  obtain ⟨g0, g1, g2, g3, g4⟩ := F2.out.cells
  go_wp2_with fail
  refine (CM.out _).mono ?_
  rintro e w3 ⟨rfl, hb3⟩
  have HB3 := hide (bthen HB2.out hb3)
  clear hb3
  go_wp2_with fail
  go_ret2
  exact ⟨t, ao, cap, l, rfl, ST.out.next HB3.out, Nat.le_succ _⟩
set_option maxHeartbeats 8000000 in
set_option maxRecDepth 100000 in
theorem step_put {w0 w : World} {T : Nat} {t : Nt} {ao : Option Addr} {cap : Nat} {l : Prs} (hS : St w0 w T t ao cap l) (v a : Int) {p : Pf} (hp : Gd p) (hn : l.length ≤ 1000) :
    Calls Try.prog 10 #[.pointer (some ⟨T, 0, none⟩), .slice ao l.length cap, .agg #[.int .i64 0, .int .i64 v, .int .u32 p.1, .int .i64 p.2, .int .u32 a]] w (Stepped w0 T l) := by
  have FV := hide (five_new w 0 v p a)
  have HB := hide (balloc (brefl w) (.cells #[.int .i64 0, .int .i64 v, .int .u32 p.1, .int .i64 p.2, .int .u32 a] 32))
  have CM := hide (fun W => refMay_is p.1 p.2 true hp.may W hp.1 hp.2.1)
  have HP := hide hp
  have SW := hide (hS.next HB.out)
  have ST := hide hS
  have HNL := hide hn
  have HPL := hide (putL_length l p (nb v))
  clear hS hp
  obtain ⟨p0, p1⟩ := p
  go_enter Try.func10, Try.ntmps10
  go_wp2_with fail
  generalize w.alloc (.cells #[.int .i64 0, .int .i64 v, .int .u32 p0, .int .i64 p1, .int .u32 a] 32) = W at *
  have CP := hide (fun W2 (hW : Below W.heap.size W W2) => put_is (SW.out.next hW).tri HP.out (nb v) (by rw [(SW.out.next hW).len]; have := HNL.out; omega))
  unfold pv at CP
  obtain ⟨g0, g1, g2, g3, g4⟩ := FV.out.cells
  refine wp_region_held_drew (S := fun w' => w'.cell? ⟨w.heap.size, 1, none⟩ = some (.int .i64 v) ∧ w'.cell? ⟨w.heap.size, 2, none⟩ = some (.int .u32 p0) ∧ w'.cell? ⟨w.heap.size, 3, none⟩ = some (.int .i64 p1)) (by kernel_rfl) ⟨g1, g2, g3⟩ (fun hHeld => ?_)
  refine wpAnyH_take (i := 0) (v := .pointer (some ⟨T, 0, none⟩)) rfl (by kernel_rfl) (by kernel_rfl) (by kernel_rfl) (fun _ _ _ h => h) (Or.inl ⟨by rfl, fun w hSw => by dsimp only at hSw; go_simp⟩) hHeld ?_
  simp only [Act.put, List.getElem_toArray, List.getElem_cons_zero, List.setIfInBounds_toArray, List.set_cons_zero, List.set_cons_succ]
  refine wpAnyH_take (i := 1) (v := .pointer (some ⟨w.heap.size, 2, none⟩)) rfl (by kernel_rfl) (by kernel_rfl) (by kernel_rfl) (fun _ _ _ h => h) (Or.inl ⟨by rfl, fun w hSw => by dsimp only at hSw; go_simp⟩) hHeld ?_
  simp only [Act.put, List.getElem_toArray, List.getElem_cons_zero, List.getElem_cons_succ, List.setIfInBounds_toArray, List.set_cons_zero, List.set_cons_succ]
  refine wpAnyH_take (i := 2) (v := .agg #[.int .u32 p0, .int .i64 p1]) rfl (by kernel_rfl) (by kernel_rfl) (by kernel_rfl) (fun _ _ _ h => h) (Or.inl ⟨by rfl, fun w hSw => by dsimp only at hSw; go_simp⟩) hHeld ?_
  simp only [Act.put, List.getElem_toArray, List.getElem_cons_zero, List.getElem_cons_succ, List.setIfInBounds_toArray, List.set_cons_zero, List.set_cons_succ]
  refine wpAnyH_take (i := 3) (v := .pointer (some ⟨w.heap.size, 1, none⟩)) rfl (by kernel_rfl) (by kernel_rfl) (by kernel_rfl) (fun _ _ _ h => h) (Or.inl ⟨by rfl, fun w hSw => by dsimp only at hSw; go_simp⟩) hHeld ?_
  simp only [Act.put, List.getElem_toArray, List.getElem_cons_zero, List.getElem_cons_succ, List.setIfInBounds_toArray, List.set_cons_zero, List.set_cons_succ]
  refine wpAnyH_take (i := 4) (v := .int .i64 v) rfl (by kernel_rfl) (by kernel_rfl) (by kernel_rfl) (fun _ _ _ h => h) (Or.inl ⟨by rfl, fun w hSw => by dsimp only at hSw; go_simp⟩) hHeld ?_
  simp only [Act.put, List.getElem_toArray, List.getElem_cons_zero, List.getElem_cons_succ, List.setIfInBounds_toArray, List.set_cons_zero, List.set_cons_succ]
  refine wpAnyH_ready (rs := [5]) (by kernel_rfl) (by simp) ?_
  refine AllReadyH.cons rfl (fun K hK => ?_) AllReadyH.nil
  go_simp
  go_wp2_with (go_at_call 38; refine (number_is v _).mono ?_; rintro e w4 ⟨rfl, rfl⟩)
  refine hK.out _ _ hHeld (fun hHeld => ?_)
  clear hK K
  try simp only [Act.put, List.getElem_toArray, List.getElem_cons_zero, List.getElem_cons_succ, List.setIfInBounds_toArray, List.set_cons_zero, List.set_cons_succ]
  refine wpAnyH_ready (rs := [6]) (by kernel_rfl) (by simp) ?_
  refine AllReadyH.cons rfl (fun K hK => ?_) AllReadyH.nil
  go_simp
  go_wp2_with (go_at_call 33; refine (CP.out _ (Below.drew (brefl _))).mono ?_; rintro e w2 ⟨is, t', pre, o, post, rfl, hP⟩; have HPT := hide hP; have F2 := hide ((FV.out.below (Below.drew (brefl _))).kept hP.keep (fun e => by have := ST.out.tri.lt _ e; simp at this)); have HH := hide (And.intro F2.out.cells.2.1 (And.intro F2.out.cells.2.2.1 F2.out.cells.2.2.2.1)); clear hP)
  refine hK.out _ _ HH.out (fun hHeld => ?_)
  clear hK K
  try simp only [Act.put, List.getElem_toArray, List.getElem_cons_zero, List.getElem_cons_succ, List.setIfInBounds_toArray, List.set_cons_zero, List.set_cons_succ]
  refine wpAnyH_take (i := 7) (v := .tuple #[.bool is, .int .i64 0]) rfl (by kernel_rfl) (by kernel_rfl) (by kernel_rfl) (fun _ _ _ h => h) (Or.inl ⟨by rfl, fun w hSw => by dsimp only at hSw; go_simp⟩) hHeld ?_
  simp only [Act.put, List.getElem_toArray, List.getElem_cons_zero, List.getElem_cons_succ, List.setIfInBounds_toArray, List.set_cons_zero, List.set_cons_succ]
  refine wpAnyH_take (i := 8) (v := .bool is) rfl (by kernel_rfl) (by kernel_rfl) (by kernel_rfl) (fun _ _ _ h => h) (Or.inl ⟨by rfl, fun w hSw => by dsimp only at hSw; go_simp⟩) hHeld ?_
  simp only [Act.put, List.getElem_toArray, List.getElem_cons_zero, List.getElem_cons_succ, List.setIfInBounds_toArray, List.set_cons_zero, List.set_cons_succ]
  refine wpAnyH_take (i := 9) (v := .int .i64 0) rfl (by kernel_rfl) (by kernel_rfl) (by kernel_rfl) (fun _ _ _ h => h) (Or.inl ⟨by rfl, fun w hSw => by dsimp only at hSw; go_simp⟩) hHeld ?_
  simp only [Act.put, List.getElem_toArray, List.getElem_cons_zero, List.getElem_cons_succ, List.setIfInBounds_toArray, List.set_cons_zero, List.set_cons_succ]
  refine wpAnyH_take (i := 10) (v := .bool is) rfl (by kernel_rfl) (by kernel_rfl) (by kernel_rfl) (fun _ _ _ h => h) (Or.inl ⟨by rfl, fun w hSw => by dsimp only at hSw; go_simp⟩) hHeld ?_
  simp only [Act.put, List.getElem_toArray, List.getElem_cons_zero, List.getElem_cons_succ, List.setIfInBounds_toArray, List.set_cons_zero, List.set_cons_succ]
  refine wpAnyH_take (i := 11) (v := .int .i64 0) rfl (by kernel_rfl) (by kernel_rfl) (by kernel_rfl) (fun _ _ _ h => h) (Or.inl ⟨by rfl, fun w hSw => by dsimp only at hSw; go_simp⟩) hHeld ?_
  simp only [Act.put, List.getElem_toArray, List.getElem_cons_zero, List.getElem_cons_succ, List.setIfInBounds_toArray, List.set_cons_zero, List.set_cons_succ]
  refine wpAnyH_done (by kernel_rfl) ?_ _
  clear hHeld HH g0 g1 g2 g3 g4 CP
  obtain ⟨g0, g1, g2, g3, g4⟩ := F2.out.cells
  go_wp2_with fail
  refine (CM.out _).mono ?_
  rintro e w3 ⟨rfl, hb3⟩
  have HB3 := hide hb3
  have F3 := hide (F2.out.below hb3)
  obtain ⟨g0, g1, g2, g3, g4⟩ := F3.out.cells
  have G3 : Hid (Pr.Good w3 ao cap l) := ((SW.out.next (Below.drew (brefl _))).good.kept HPT.out.keep (fun x e => ((SW.out.next (Below.drew (brefl _))).off x e).1)).below hb3
  have CR := hide (fun W2 (hW : Below w3.heap.size w3 W2) => refPut_is (p0, p1) (nb v) (G3.out.below hW) (by have := HNL.out; omega))
  replace HB3 := hide (brefl w3)
  have HQ3 := hide hb3
  clear hb3
  unfold pv at CR
  go_wp2_with fail
  refine wp_region_held_drew (S := fun w' => w'.cell? ⟨w.heap.size, 1, none⟩ = some (.int .i64 v) ∧ w'.cell? ⟨w.heap.size, 2, none⟩ = some (.int .u32 p0) ∧ w'.cell? ⟨w.heap.size, 3, none⟩ = some (.int .i64 p1)) (by kernel_rfl) ⟨g1, g2, g3⟩ (fun hHeld => ?_)
  refine wpAnyH_take (i := 0) (v := .slice ao l.length cap) rfl (by kernel_rfl) (by kernel_rfl) (by kernel_rfl) (fun _ _ _ h => h) (Or.inl ⟨by rfl, fun w hSw => by dsimp only at hSw; go_simp⟩) hHeld ?_
  simp only [Act.put, List.getElem_toArray, List.getElem_cons_zero, List.setIfInBounds_toArray, List.set_cons_zero, List.set_cons_succ]
  refine wpAnyH_take (i := 1) (v := .pointer (some ⟨w.heap.size, 2, none⟩)) rfl (by kernel_rfl) (by kernel_rfl) (by kernel_rfl) (fun _ _ _ h => h) (Or.inl ⟨by rfl, fun w hSw => by dsimp only at hSw; go_simp⟩) hHeld ?_
  simp only [Act.put, List.getElem_toArray, List.getElem_cons_zero, List.getElem_cons_succ, List.setIfInBounds_toArray, List.set_cons_zero, List.set_cons_succ]
  refine wpAnyH_take (i := 2) (v := .agg #[.int .u32 p0, .int .i64 p1]) rfl (by kernel_rfl) (by kernel_rfl) (by kernel_rfl) (fun _ _ _ h => h) (Or.inl ⟨by rfl, fun w hSw => by dsimp only at hSw; go_simp⟩) hHeld ?_
  simp only [Act.put, List.getElem_toArray, List.getElem_cons_zero, List.getElem_cons_succ, List.setIfInBounds_toArray, List.set_cons_zero, List.set_cons_succ]
  refine wpAnyH_take (i := 3) (v := .pointer (some ⟨w.heap.size, 1, none⟩)) rfl (by kernel_rfl) (by kernel_rfl) (by kernel_rfl) (fun _ _ _ h => h) (Or.inl ⟨by rfl, fun w hSw => by dsimp only at hSw; go_simp⟩) hHeld ?_
  simp only [Act.put, List.getElem_toArray, List.getElem_cons_zero, List.getElem_cons_succ, List.setIfInBounds_toArray, List.set_cons_zero, List.set_cons_succ]
  refine wpAnyH_take (i := 4) (v := .int .i64 v) rfl (by kernel_rfl) (by kernel_rfl) (by kernel_rfl) (fun _ _ _ h => h) (Or.inl ⟨by rfl, fun w hSw => by dsimp only at hSw; go_simp⟩) hHeld ?_
  simp only [Act.put, List.getElem_toArray, List.getElem_cons_zero, List.getElem_cons_succ, List.setIfInBounds_toArray, List.set_cons_zero, List.set_cons_succ]
  refine wpAnyH_ready (rs := [5]) (by kernel_rfl) (by simp) ?_
  refine AllReadyH.cons rfl (fun K hK => ?_) AllReadyH.nil
  go_simp
  go_wp2_with (go_at_call 38; refine (number_is v _).mono ?_; rintro e w4 ⟨rfl, rfl⟩)
  refine hK.out _ _ hHeld (fun hHeld => ?_)
  clear hK K
  try simp only [Act.put, List.getElem_toArray, List.getElem_cons_zero, List.getElem_cons_succ, List.setIfInBounds_toArray, List.set_cons_zero, List.set_cons_succ]
  refine wpAnyH_ready (rs := [6]) (by kernel_rfl) (by simp) ?_
  refine AllReadyH.cons rfl (fun K hK => ?_) AllReadyH.nil
  go_simp
  go_wp2_with (go_at_call 39; refine (CR.out _ (HB3.out.drew)).mono ?_; rintro e w5 ⟨u, rfl, hN, hb5⟩; have HN5 := hide hN; have HB5 := hide hb5; have F5 := hide (F3.out.below (bthen (Below.drew (brefl _)) hb5)); have HJ := hide (And.intro F5.out.cells.2.1 (And.intro F5.out.cells.2.2.1 F5.out.cells.2.2.2.1)); clear hN hb5)
  refine hK.out _ _ HJ.out (fun hHeld => ?_)
  clear hK K
  try simp only [Act.put, List.getElem_toArray, List.getElem_cons_zero, List.getElem_cons_succ, List.setIfInBounds_toArray, List.set_cons_zero, List.set_cons_succ]
  refine wpAnyH_take (i := 7) (v := .tuple #[u, .bool (place l (p0, p1)).2]) rfl (by kernel_rfl) (by kernel_rfl) (by kernel_rfl) (fun _ _ _ h => h) (Or.inl ⟨by rfl, fun w hSw => by dsimp only at hSw; go_simp⟩) hHeld ?_
  simp only [Act.put, List.getElem_toArray, List.getElem_cons_zero, List.getElem_cons_succ, List.setIfInBounds_toArray, List.set_cons_zero, List.set_cons_succ]
  refine wpAnyH_take (i := 8) (v := u) rfl (by kernel_rfl) (by kernel_rfl) (by kernel_rfl) (fun _ _ _ h => h) (Or.inl ⟨by rfl, fun w hSw => by dsimp only at hSw; go_simp⟩) hHeld ?_
  simp only [Act.put, List.getElem_toArray, List.getElem_cons_zero, List.getElem_cons_succ, List.setIfInBounds_toArray, List.set_cons_zero, List.set_cons_succ]
  refine wpAnyH_take (i := 9) (v := .bool (place l (p0, p1)).2) rfl (by kernel_rfl) (by kernel_rfl) (by kernel_rfl) (fun _ _ _ h => h) (Or.inl ⟨by rfl, fun w hSw => by dsimp only at hSw; go_simp⟩) hHeld ?_
  simp only [Act.put, List.getElem_toArray, List.getElem_cons_zero, List.getElem_cons_succ, List.setIfInBounds_toArray, List.set_cons_zero, List.set_cons_succ]
  refine wpAnyH_take (i := 10) (v := u) rfl (by kernel_rfl) (by kernel_rfl) (by kernel_rfl) (fun _ _ _ h => h) (Or.inl ⟨by rfl, fun w hSw => by dsimp only at hSw; go_simp⟩) hHeld ?_
  simp only [Act.put, List.getElem_toArray, List.getElem_cons_zero, List.getElem_cons_succ, List.setIfInBounds_toArray, List.set_cons_zero, List.set_cons_succ]
  refine wpAnyH_take (i := 11) (v := .bool (place l (p0, p1)).2) rfl (by kernel_rfl) (by kernel_rfl) (by kernel_rfl) (fun _ _ _ h => h) (Or.inl ⟨by rfl, fun w hSw => by dsimp only at hSw; go_simp⟩) hHeld ?_
  simp only [Act.put, List.getElem_toArray, List.getElem_cons_zero, List.getElem_cons_succ, List.setIfInBounds_toArray, List.set_cons_zero, List.set_cons_succ]
  refine wpAnyH_done (by kernel_rfl) ?_ _
  obtain ⟨hpl, ao', cap', hu, hst⟩ := (SW.out.next (Below.drew (brefl _))).put HP.out (nb_bd v) HPT.out (pr_new (bthen HQ3.out (Below.drew (brefl _))) HN5.out) (bthen (bthen HQ3.out (Below.drew (brefl _))) HB5.out)
  subst hu
  have HST := hide hst
  have hpl2 := hpl
  rw [hpl]
  clear hst hpl hpl2
  cases is
  · go_wp2_with fail
    go_ret2
    exact ⟨t', ao', cap', _, rfl, HST.out, HPL.out⟩
  · go_wp2_with fail
    go_ret2
    exact ⟨t', ao', cap', _, rfl, HST.out, HPL.out⟩
end Go.Proofs.Ytechocnednepiaa
