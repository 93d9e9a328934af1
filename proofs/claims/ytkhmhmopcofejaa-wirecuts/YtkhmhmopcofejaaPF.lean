import Derived.Test.YtkhmhmopcofejaaPE
import Derived.Lib.MakeNoZero
import Derived.Laws.CopyRow
import Derived.Laws.Externs
import Derived.Lib.SliceRun
/- The contracts of bytes.Clone, and of bytes.Repeat where sixteen bytes 255 are made. -/
namespace Go.Proofs.Ytkhmhmopcofejaa
open Go.RowKit Go.Sort

theorem eq_nil : ∀ (w : World) (a : Option Addr) (n c n' c' : Nat), (binOp .eql 31 (.slice a n c) (.slice none n' c')).run Try.prog w = .ok (.bool a.isNone) w := fun w a n c n' c' => Lib.run_eql_slice_nil w _ _ a n c n' c' Try.underlying31
theorem own_none (W : World) (B : Nat) (hB : B ≤ W.heap.size) : Own (W.alloc (.cells #[] 5)) B (.slice (some ⟨W.heap.size, 0, none⟩) 0 0) [] :=
  ⟨rfl, .inr ⟨W.heap.size, 0, _, rfl, hB, heap_new W _ 5, Nat.le_refl _, by decide, rfl, rfl⟩⟩
set_option maxHeartbeats 1000000 in
set_option maxRecDepth 100000 in
theorem clone_is (ao : Option Addr) (ca : Nat) (l : List UInt8) (hl : l.length ≤ 100000) (w : World) (hS : Bs.slot w ao l) (hC : camB ao l.length ca) :
    Calls Try.prog 41 #[.slice ao l.length ca] w (News w l) := by
  have q31 := eq_nil
  cases ao with
  | none =>
    have h0 : l = [] := by
      rcases hS with h | ⟨b, off, h, _⟩
      · exact h
      · cases h
    subst h0
    go_enter Try.func41, Try.ntmps41
    go_wp2_with fail
    go_ret
    exact ⟨_, rfl, own_nil w _, brefl w⟩
  | some ad =>
    have A1 := hide (balloc (brefl w) (.cells #[] 5))
    have O1 := hide (own_none w w.heap.size (Nat.le_refl _))
    have S1 := hide (Bs.slot_below hS A1.out)
    have hlen : ([] : List UInt8).length + l.length ≤ 1000000 := by simp; omega
    clear hS
    go_enter Try.func41, Try.ntmps41
    go_wp2_with (at_builtin; go_must (refine app_bytes rfl _ _ rfl w.heap.size (.slice (some ⟨w.heap.size, 0, none⟩) 0 0) [] rfl (.inl O1.out) (some ad) l.length ca l rfl rfl S1.out hC hlen A1.out.size (.inr O1.out) ?_))
    intro v1 w1 o1 g1 x1
    have OW : Hid (Own w1 w.heap.size v1 l) := o1
    have B1 : Hid (Below w.heap.size w w1) := Below.grown A1.out g1 A1.out.size fun k hk => (by cases hk; exact Nat.le_refl _)
    clear o1 g1 x1 O1 S1 A1
    go_wp2_with fail
    go_ret
    exact ⟨_, rfl, OW.out, B1.out⟩
set_option maxHeartbeats 1000000 in
set_option maxRecDepth 100000 in
theorem mul_is (w : World) : Calls Try.prog 75 #[.int .u64 1, .int .u64 16] w fun e w' => e = .returned (.tuple #[.int .u64 0, .int .u64 16]) ∧ w = w' := by
  go_enter Try.func75, Try.ntmps75
  go_wp2
  go_ret2
  exact ⟨rfl, rfl⟩
abbrev b255 : Value := .int .u8 255
theorem row_cell {w : World} {g : Nat} {cur : Array Value} {k : Nat} (hg : w.heap[g]? = some (.cells cur 5 (0, 0))) (hk : cur.toList.take k = List.replicate k b255) : ∀ j v, (List.replicate k b255)[j]? = some v → w.cell? ((⟨g, 0, none⟩ : Addr).add j) = some v := by
  intro j v hj
  have hjk : j < k := by have := (List.getElem?_eq_some_iff.1 hj).1; simpa using this
  rw [show (⟨g, 0, none⟩ : Addr).add j = ⟨g, j, none⟩ by unfold Addr.add; split <;> simp_all]
  have e : cur[j]? = some v := by
    rw [← hk, List.getElem?_take_of_lt hjk] at hj
    simpa using hj
  simp only [World.cell?, hg]
  exact e
theorem row_more {cur : Array Value} {k : Nat} (hk : cur.toList.take k = List.replicate k b255) (hs : k + k ≤ cur.size) : let c' := (cur.toList.take k ++ List.replicate k b255 ++ cur.toList.drop (k + (List.replicate k b255).length)).toArray; c'.size = cur.size ∧ c'.toList.take (k + k) = List.replicate (k + k) b255 := by
  intro c'
  have e1 : (List.replicate k b255 ++ List.replicate k b255) = List.replicate (k + k) b255 := by rw [List.replicate_append_replicate]
  constructor
  · simp only [c', List.size_toArray, List.length_append, List.length_take, List.length_replicate, List.length_drop, Array.length_toList]
    omega
  · simp only [c']
    rw [hk, e1]
    rw [List.take_append_of_le_length (by simp)]
    simp
theorem size_info : (Try.prog.info? 5).map (·.size) = some 1 := by kernel_rfl
set_option maxHeartbeats 2000000 in
set_option maxRecDepth 100000 in
theorem repeat_is (g0 c0 : Nat) (w : World) (hc : w.cell? ⟨g0, 0, none⟩ = some b255) :
    Calls Try.prog 55 #[.slice (some ⟨g0, 0, none⟩) 1 c0, .int .i64 16] w fun e w' => ∃ v', e = .returned v' ∧ Full w' w.heap.size v' (List.replicate 16 255) ∧ Below w.heap.size w w' := by
  have HC := hide hc
  obtain ⟨cs, hrunM, hle, _⟩ := Lib.run_makeNoZero (P := Try.prog) w #[3] 31 5 Try.underlying31 16 (by decide)
  have hcall : (callFunc 76 #[.int .i64 16]).run Try.prog w = .ok (.value (.slice (some ⟨w.heap.size, 0, none⟩) 16 cs.size)) (w.drew.drew.alloc (.cells cs 5)) := by
    rw [run_callFunc_extern Try.func76 (by kernel_rfl) (by kernel_rfl) (by kernel_rfl) (e := Extern.BytealgMakeNoZero.makeNoZero #[3] #[31]) (by kernel_rfl)]
    have hr' : (Extern.BytealgMakeNoZero.makeNoZero #[3] #[31] #[.int .i64 16]).run Try.prog w = .ok (.slice (some ⟨w.heap.size, 0, none⟩) 16 cs.size) (w.drew.drew.alloc (.cells cs 5)) := hrunM
    rw [hr']
    rfl
  have hle' : (16 : Int) ≤ (cs.size : Int) := by omega
  obtain ⟨W, hW⟩ : ∃ W, w.drew.drew.alloc (.cells cs 5) = W := ⟨_, rfl⟩
  have NW : Hid (W.heap[w.heap.size]? = some (.cells cs 5 (0, 0))) := by rw [← hW]; exact heap_new w.drew.drew cs 5
  have BW : Hid (Below w.heap.size w W) := by rw [← hW]; exact (((brefl w).drew).drew).alloc (Nat.le_refl _) _
  have h0 : w.heap.size ≠ g0 := by have := block_lt_of_cell hc; simp only at this; omega
  have cW : W.cell? ⟨g0, 0, none⟩ = some b255 := (BW.out.cell (p := ⟨g0, 0, none⟩) (block_lt_of_cell hc)).trans hc
  have hr1 : (Builtin.copy_ #[31, 31] 3 #[.slice (some ⟨w.heap.size, 0, none⟩) 16 16, .slice (some ⟨g0, 0, none⟩) 1 c0]).run Try.prog W = .ok (.int .i64 1) (W.setRow w.heap.size (cs.toList.take 0 ++ [b255] ++ cs.toList.drop (0 + 1)).toArray) := by
    refine run_copy_row Try.prog W 31 31 3 5 w.heap.size 0 16 16 ⟨g0, 0, none⟩ 1 c0 cs 5 [b255] Try.underlying31 size_info NW.out rfl ?_ (by simp; omega) (fun v hv => by simp at hv; subst hv; rfl)
    intro j v hj
    match j, hj with
    | 0, hj => simp at hj; subst hj; simpa [Addr.add] using cW
  have N1 : Hid ((W.setRow w.heap.size (cs.toList.take 0 ++ [b255] ++ cs.toList.drop (0 + 1)).toArray).heap[w.heap.size]? = some (.cells (cs.toList.take 0 ++ [b255] ++ cs.toList.drop (0 + 1)).toArray 5 (0, 0))) := setRow_heap W w.heap.size cs _ 5 _ NW.out
  have B1 : Hid (Below w.heap.size w (W.setRow w.heap.size (cs.toList.take 0 ++ [b255] ++ cs.toList.drop (0 + 1)).toArray)) := ⟨BW.out.os, BW.out.tape, BW.out.output, (by simpa using BW.out.size), fun k hk => (setRow_other W w.heap.size k _ (by omega)).trans (BW.out.block k hk)⟩
  have L1 : Hid ((cs.toList.take 0 ++ [b255] ++ cs.toList.drop (0 + 1)).toArray.size = cs.size ∧ (cs.toList.take 0 ++ [b255] ++ cs.toList.drop (0 + 1)).toArray.toList.take 1 = List.replicate 1 b255) := ⟨by simp; omega, by simp⟩
  obtain ⟨c1, hc1⟩ : ∃ c1, (cs.toList.take 0 ++ [b255] ++ cs.toList.drop (0 + 1)).toArray = c1 := ⟨_, rfl⟩
  obtain ⟨W1, hW1⟩ : ∃ W1, W.setRow w.heap.size c1 = W1 := ⟨_, rfl⟩
  rw [hc1, hW1] at hr1 B1
  have N1' : Hid (W1.heap[w.heap.size]? = some (.cells c1 5 (0, 0))) := by rw [← hW1, ← hc1]; exact N1.out
  have L1' : Hid (c1.size = cs.size ∧ c1.toList.take 1 = List.replicate 1 b255) := by rw [← hc1]; exact L1.out
  clear N1 L1 hc1 hW1
  have HLE := hide hle
  have CM := hide (fun W' => mul_is W')
  clear hrunM hc hle
  go_enter Try.func55, Try.ntmps55
  go_wp2_with (first | (go_at_call 75; refine (CM.out _).mono ?_; rintro e w2 ⟨rfl, rfl⟩) | (at_builtin; go_must (refine Lib.wpList_copy_run _ rfl _ _ 31 31 rfl _ _ rfl rfl hr1 ?_)))
  clear hr1 hcall hW NW BW cW h0 HC CM
  go_loopw [10] (fun v10 wr => ∃ (k : Nat) (cur : Array Value), (k = 1 ∨ k = 2 ∨ k = 4 ∨ k = 8 ∨ k = 16) ∧ v10 = .int .i64 k ∧ Hid (wr.heap[w.heap.size]? = some (.cells cur 5 (0, 0)) ∧ 16 ≤ cur.size ∧ cur.toList.take k = List.replicate k b255 ∧ Below w.heap.size w wr)) (fun v10 _ => 16 - (intOf v10).toNat)
  case atStart => exact ⟨1, c1, .inl rfl, rfl, ⟨N1'.out, by rw [L1'.out.1]; exact HLE.out, L1'.out.2, B1.out⟩⟩
  case round =>
    obtain ⟨k, cur, hk, rfl, HH⟩ := hrel
    rcases hk with rfl | rfl | rfl | rfl | rfl
    · obtain ⟨h1, h2, h3, h4⟩ := HH.out
      have hr2 : (Builtin.copy_ #[31, 31] 3 #[.slice (some ⟨w.heap.size, 1, none⟩) 15 15, .slice (some ⟨w.heap.size, 0, none⟩) 1 16]).run Try.prog wr.drew = .ok (.int .i64 1) (wr.drew.setRow w.heap.size (cur.toList.take 1 ++ List.replicate 1 b255 ++ cur.toList.drop (1 + (List.replicate 1 b255).length)).toArray) :=
        run_copy_row Try.prog wr.drew 31 31 3 5 w.heap.size 1 15 15 ⟨w.heap.size, 0, none⟩ 1 16 cur 5 (List.replicate 1 b255) Try.underlying31 size_info h1 (by decide) (row_cell h1 h3) (by rw [List.length_replicate]; omega) (fun v hv => by rw [List.eq_of_mem_replicate hv]; rfl)
      have N2 : Hid ((wr.drew.setRow w.heap.size (cur.toList.take 1 ++ List.replicate 1 b255 ++ cur.toList.drop (1 + (List.replicate 1 b255).length)).toArray).heap[w.heap.size]? = some (.cells (cur.toList.take 1 ++ List.replicate 1 b255 ++ cur.toList.drop (1 + (List.replicate 1 b255).length)).toArray 5 (0, 0))) := setRow_heap wr.drew w.heap.size cur _ 5 _ h1
      have B2 : Hid (Below w.heap.size w (wr.drew.setRow w.heap.size (cur.toList.take 1 ++ List.replicate 1 b255 ++ cur.toList.drop (1 + (List.replicate 1 b255).length)).toArray)) := ⟨h4.os, h4.tape, h4.output, (by simpa using h4.size), fun k hk => (setRow_other wr.drew w.heap.size k _ (by omega)).trans (h4.block k hk)⟩
      have L2 : Hid ((cur.toList.take 1 ++ List.replicate 1 b255 ++ cur.toList.drop (1 + (List.replicate 1 b255).length)).toArray.size = cur.size ∧ (cur.toList.take 1 ++ List.replicate 1 b255 ++ cur.toList.drop (1 + (List.replicate 1 b255).length)).toArray.toList.take 2 = List.replicate 2 b255) := row_more (k := 1) h3 (by omega)
      have H2 := hide h2
      generalize (cur.toList.take 1 ++ List.replicate 1 b255 ++ cur.toList.drop (1 + (List.replicate 1 b255).length)).toArray = c2 at *
      generalize wr.drew.setRow w.heap.size c2 = W2 at *
      clear h1 h2 h3 h4 HH
      go_wp2_with fail
      refine wp_region_held_drew (S := fun _ => True) (by kernel_rfl) trivial (fun hHeld => ?_)
      refine wpAnyH_take (i := 0) (v := .int .i64 1) rfl (by kernel_rfl) (by kernel_rfl) (by kernel_rfl) (fun _ _ _ h => h) (Or.inl ⟨by rfl, fun w hSw => by dsimp only at hSw; go_simp⟩) hHeld ?_
      simp only [Act.put, List.getElem_toArray, List.getElem_cons_zero, List.setIfInBounds_toArray, List.set_cons_zero, List.set_cons_succ]
      refine wpAnyH_take (i := 1) (v := .slice (some ⟨w.heap.size, 0, none⟩) 16 16) rfl (by kernel_rfl) (by kernel_rfl) (by kernel_rfl) (fun _ _ _ h => h) (Or.inl ⟨by rfl, fun w hSw => by dsimp only at hSw; go_simp⟩) hHeld ?_
      simp only [Act.put, List.getElem_toArray, List.getElem_cons_zero, List.getElem_cons_succ, List.setIfInBounds_toArray, List.set_cons_zero, List.set_cons_succ]
      refine wpAnyH_take (i := 2) (v := .int .i64 1) rfl (by kernel_rfl) (by kernel_rfl) (by kernel_rfl) (fun _ _ _ h => h) (Or.inl ⟨by rfl, fun w hSw => by dsimp only at hSw; go_simp⟩) hHeld ?_
      simp only [Act.put, List.getElem_toArray, List.getElem_cons_zero, List.getElem_cons_succ, List.setIfInBounds_toArray, List.set_cons_zero, List.set_cons_succ]
      refine wpAnyH_take (i := 3) (v := .slice (some ⟨w.heap.size, 1, none⟩) 15 15) rfl (by kernel_rfl) (by kernel_rfl) (by kernel_rfl) (fun _ _ _ h => h) (Or.inl ⟨by rfl, fun w hSw => by dsimp only at hSw; go_simp⟩) hHeld ?_
      simp only [Act.put, List.getElem_toArray, List.getElem_cons_zero, List.getElem_cons_succ, List.setIfInBounds_toArray, List.set_cons_zero, List.set_cons_succ]
      refine wpAnyH_take (i := 4) (v := .slice (some ⟨w.heap.size, 0, none⟩) 16 16) rfl (by kernel_rfl) (by kernel_rfl) (by kernel_rfl) (fun _ _ _ h => h) (Or.inl ⟨by rfl, fun w hSw => by dsimp only at hSw; go_simp⟩) hHeld ?_
      simp only [Act.put, List.getElem_toArray, List.getElem_cons_zero, List.getElem_cons_succ, List.setIfInBounds_toArray, List.set_cons_zero, List.set_cons_succ]
      refine wpAnyH_take (i := 5) (v := .int .i64 1) rfl (by kernel_rfl) (by kernel_rfl) (by kernel_rfl) (fun _ _ _ h => h) (Or.inl ⟨by rfl, fun w hSw => by dsimp only at hSw; go_simp⟩) hHeld ?_
      simp only [Act.put, List.getElem_toArray, List.getElem_cons_zero, List.getElem_cons_succ, List.setIfInBounds_toArray, List.set_cons_zero, List.set_cons_succ]
      refine wpAnyH_take (i := 6) (v := .slice (some ⟨w.heap.size, 0, none⟩) 1 16) rfl (by kernel_rfl) (by kernel_rfl) (by kernel_rfl) (fun _ _ _ h => h) (Or.inl ⟨by rfl, fun w hSw => by dsimp only at hSw; go_simp⟩) hHeld ?_
      simp only [Act.put, List.getElem_toArray, List.getElem_cons_zero, List.getElem_cons_succ, List.setIfInBounds_toArray, List.set_cons_zero, List.set_cons_succ]
      refine wpAnyH_ready (rs := [7]) (by kernel_rfl) (by simp) ?_
      refine AllReadyH.cons rfl (fun K hK => ?_) AllReadyH.nil
      go_simp
      refine hK.out _ _ trivial (fun hHeld => ?_)
      clear hK K
      try simp only [Act.put, List.getElem_toArray, List.getElem_cons_zero, List.getElem_cons_succ, List.setIfInBounds_toArray, List.set_cons_zero, List.set_cons_succ]
      refine wpAnyH_take (i := 8) (v := .int .i64 2) rfl (by kernel_rfl) (by kernel_rfl) (by kernel_rfl) (fun _ _ _ h => h) (Or.inl ⟨by rfl, fun w hSw => by dsimp only at hSw; go_simp <;> decide⟩) hHeld ?_
      simp only [Act.put, List.getElem_toArray, List.getElem_cons_zero, List.getElem_cons_succ, List.setIfInBounds_toArray, List.set_cons_zero, List.set_cons_succ]
      refine wpAnyH_take (i := 9) (v := .int .i64 2) rfl (by kernel_rfl) (by kernel_rfl) (by kernel_rfl) (fun _ _ _ h => h) (Or.inl ⟨by rfl, fun w hSw => by dsimp only at hSw; go_simp⟩) hHeld ?_
      simp only [Act.put, List.getElem_toArray, List.getElem_cons_zero, List.getElem_cons_succ, List.setIfInBounds_toArray, List.set_cons_zero, List.set_cons_succ]
      refine wpAnyH_done (by kernel_rfl) ?_ _
      go_wp2_with fail
      go_roundw
      case rel => exact ⟨2, c2, by decide, rfl, ⟨N2.out, by rw [L2.out.1]; exact H2.out, L2.out.2, B2.out⟩⟩
      case measure => simp [intOf]
    · obtain ⟨h1, h2, h3, h4⟩ := HH.out
      have hr2 : (Builtin.copy_ #[31, 31] 3 #[.slice (some ⟨w.heap.size, 2, none⟩) 14 14, .slice (some ⟨w.heap.size, 0, none⟩) 2 16]).run Try.prog wr.drew = .ok (.int .i64 2) (wr.drew.setRow w.heap.size (cur.toList.take 2 ++ List.replicate 2 b255 ++ cur.toList.drop (2 + (List.replicate 2 b255).length)).toArray) :=
        run_copy_row Try.prog wr.drew 31 31 3 5 w.heap.size 2 14 14 ⟨w.heap.size, 0, none⟩ 2 16 cur 5 (List.replicate 2 b255) Try.underlying31 size_info h1 (by decide) (row_cell h1 h3) (by rw [List.length_replicate]; omega) (fun v hv => by rw [List.eq_of_mem_replicate hv]; rfl)
      have N2 : Hid ((wr.drew.setRow w.heap.size (cur.toList.take 2 ++ List.replicate 2 b255 ++ cur.toList.drop (2 + (List.replicate 2 b255).length)).toArray).heap[w.heap.size]? = some (.cells (cur.toList.take 2 ++ List.replicate 2 b255 ++ cur.toList.drop (2 + (List.replicate 2 b255).length)).toArray 5 (0, 0))) := setRow_heap wr.drew w.heap.size cur _ 5 _ h1
      have B2 : Hid (Below w.heap.size w (wr.drew.setRow w.heap.size (cur.toList.take 2 ++ List.replicate 2 b255 ++ cur.toList.drop (2 + (List.replicate 2 b255).length)).toArray)) := ⟨h4.os, h4.tape, h4.output, (by simpa using h4.size), fun k hk => (setRow_other wr.drew w.heap.size k _ (by omega)).trans (h4.block k hk)⟩
      have L2 : Hid ((cur.toList.take 2 ++ List.replicate 2 b255 ++ cur.toList.drop (2 + (List.replicate 2 b255).length)).toArray.size = cur.size ∧ (cur.toList.take 2 ++ List.replicate 2 b255 ++ cur.toList.drop (2 + (List.replicate 2 b255).length)).toArray.toList.take 4 = List.replicate 4 b255) := row_more (k := 2) h3 (by omega)
      have H2 := hide h2
      generalize (cur.toList.take 2 ++ List.replicate 2 b255 ++ cur.toList.drop (2 + (List.replicate 2 b255).length)).toArray = c2 at *
      generalize wr.drew.setRow w.heap.size c2 = W2 at *
      clear h1 h2 h3 h4 HH
      go_wp2_with fail
      refine wp_region_held_drew (S := fun _ => True) (by kernel_rfl) trivial (fun hHeld => ?_)
      refine wpAnyH_take (i := 0) (v := .int .i64 2) rfl (by kernel_rfl) (by kernel_rfl) (by kernel_rfl) (fun _ _ _ h => h) (Or.inl ⟨by rfl, fun w hSw => by dsimp only at hSw; go_simp⟩) hHeld ?_
      simp only [Act.put, List.getElem_toArray, List.getElem_cons_zero, List.setIfInBounds_toArray, List.set_cons_zero, List.set_cons_succ]
      refine wpAnyH_take (i := 1) (v := .slice (some ⟨w.heap.size, 0, none⟩) 16 16) rfl (by kernel_rfl) (by kernel_rfl) (by kernel_rfl) (fun _ _ _ h => h) (Or.inl ⟨by rfl, fun w hSw => by dsimp only at hSw; go_simp⟩) hHeld ?_
      simp only [Act.put, List.getElem_toArray, List.getElem_cons_zero, List.getElem_cons_succ, List.setIfInBounds_toArray, List.set_cons_zero, List.set_cons_succ]
      refine wpAnyH_take (i := 2) (v := .int .i64 2) rfl (by kernel_rfl) (by kernel_rfl) (by kernel_rfl) (fun _ _ _ h => h) (Or.inl ⟨by rfl, fun w hSw => by dsimp only at hSw; go_simp⟩) hHeld ?_
      simp only [Act.put, List.getElem_toArray, List.getElem_cons_zero, List.getElem_cons_succ, List.setIfInBounds_toArray, List.set_cons_zero, List.set_cons_succ]
      refine wpAnyH_take (i := 3) (v := .slice (some ⟨w.heap.size, 2, none⟩) 14 14) rfl (by kernel_rfl) (by kernel_rfl) (by kernel_rfl) (fun _ _ _ h => h) (Or.inl ⟨by rfl, fun w hSw => by dsimp only at hSw; go_simp⟩) hHeld ?_
      simp only [Act.put, List.getElem_toArray, List.getElem_cons_zero, List.getElem_cons_succ, List.setIfInBounds_toArray, List.set_cons_zero, List.set_cons_succ]
      refine wpAnyH_take (i := 4) (v := .slice (some ⟨w.heap.size, 0, none⟩) 16 16) rfl (by kernel_rfl) (by kernel_rfl) (by kernel_rfl) (fun _ _ _ h => h) (Or.inl ⟨by rfl, fun w hSw => by dsimp only at hSw; go_simp⟩) hHeld ?_
      simp only [Act.put, List.getElem_toArray, List.getElem_cons_zero, List.getElem_cons_succ, List.setIfInBounds_toArray, List.set_cons_zero, List.set_cons_succ]
      refine wpAnyH_take (i := 5) (v := .int .i64 2) rfl (by kernel_rfl) (by kernel_rfl) (by kernel_rfl) (fun _ _ _ h => h) (Or.inl ⟨by rfl, fun w hSw => by dsimp only at hSw; go_simp⟩) hHeld ?_
      simp only [Act.put, List.getElem_toArray, List.getElem_cons_zero, List.getElem_cons_succ, List.setIfInBounds_toArray, List.set_cons_zero, List.set_cons_succ]
      refine wpAnyH_take (i := 6) (v := .slice (some ⟨w.heap.size, 0, none⟩) 2 16) rfl (by kernel_rfl) (by kernel_rfl) (by kernel_rfl) (fun _ _ _ h => h) (Or.inl ⟨by rfl, fun w hSw => by dsimp only at hSw; go_simp⟩) hHeld ?_
      simp only [Act.put, List.getElem_toArray, List.getElem_cons_zero, List.getElem_cons_succ, List.setIfInBounds_toArray, List.set_cons_zero, List.set_cons_succ]
      refine wpAnyH_ready (rs := [7]) (by kernel_rfl) (by simp) ?_
      refine AllReadyH.cons rfl (fun K hK => ?_) AllReadyH.nil
      go_simp
      refine hK.out _ _ trivial (fun hHeld => ?_)
      clear hK K
      try simp only [Act.put, List.getElem_toArray, List.getElem_cons_zero, List.getElem_cons_succ, List.setIfInBounds_toArray, List.set_cons_zero, List.set_cons_succ]
      refine wpAnyH_take (i := 8) (v := .int .i64 4) rfl (by kernel_rfl) (by kernel_rfl) (by kernel_rfl) (fun _ _ _ h => h) (Or.inl ⟨by rfl, fun w hSw => by dsimp only at hSw; go_simp <;> decide⟩) hHeld ?_
      simp only [Act.put, List.getElem_toArray, List.getElem_cons_zero, List.getElem_cons_succ, List.setIfInBounds_toArray, List.set_cons_zero, List.set_cons_succ]
      refine wpAnyH_take (i := 9) (v := .int .i64 4) rfl (by kernel_rfl) (by kernel_rfl) (by kernel_rfl) (fun _ _ _ h => h) (Or.inl ⟨by rfl, fun w hSw => by dsimp only at hSw; go_simp⟩) hHeld ?_
      simp only [Act.put, List.getElem_toArray, List.getElem_cons_zero, List.getElem_cons_succ, List.setIfInBounds_toArray, List.set_cons_zero, List.set_cons_succ]
      refine wpAnyH_done (by kernel_rfl) ?_ _
      go_wp2_with fail
      go_roundw
      case rel => exact ⟨4, c2, by decide, rfl, ⟨N2.out, by rw [L2.out.1]; exact H2.out, L2.out.2, B2.out⟩⟩
      case measure => simp [intOf]
    · obtain ⟨h1, h2, h3, h4⟩ := HH.out
      have hr2 : (Builtin.copy_ #[31, 31] 3 #[.slice (some ⟨w.heap.size, 4, none⟩) 12 12, .slice (some ⟨w.heap.size, 0, none⟩) 4 16]).run Try.prog wr.drew = .ok (.int .i64 4) (wr.drew.setRow w.heap.size (cur.toList.take 4 ++ List.replicate 4 b255 ++ cur.toList.drop (4 + (List.replicate 4 b255).length)).toArray) :=
        run_copy_row Try.prog wr.drew 31 31 3 5 w.heap.size 4 12 12 ⟨w.heap.size, 0, none⟩ 4 16 cur 5 (List.replicate 4 b255) Try.underlying31 size_info h1 (by decide) (row_cell h1 h3) (by rw [List.length_replicate]; omega) (fun v hv => by rw [List.eq_of_mem_replicate hv]; rfl)
      have N2 : Hid ((wr.drew.setRow w.heap.size (cur.toList.take 4 ++ List.replicate 4 b255 ++ cur.toList.drop (4 + (List.replicate 4 b255).length)).toArray).heap[w.heap.size]? = some (.cells (cur.toList.take 4 ++ List.replicate 4 b255 ++ cur.toList.drop (4 + (List.replicate 4 b255).length)).toArray 5 (0, 0))) := setRow_heap wr.drew w.heap.size cur _ 5 _ h1
      have B2 : Hid (Below w.heap.size w (wr.drew.setRow w.heap.size (cur.toList.take 4 ++ List.replicate 4 b255 ++ cur.toList.drop (4 + (List.replicate 4 b255).length)).toArray)) := ⟨h4.os, h4.tape, h4.output, (by simpa using h4.size), fun k hk => (setRow_other wr.drew w.heap.size k _ (by omega)).trans (h4.block k hk)⟩
      have L2 : Hid ((cur.toList.take 4 ++ List.replicate 4 b255 ++ cur.toList.drop (4 + (List.replicate 4 b255).length)).toArray.size = cur.size ∧ (cur.toList.take 4 ++ List.replicate 4 b255 ++ cur.toList.drop (4 + (List.replicate 4 b255).length)).toArray.toList.take 8 = List.replicate 8 b255) := row_more (k := 4) h3 (by omega)
      have H2 := hide h2
      generalize (cur.toList.take 4 ++ List.replicate 4 b255 ++ cur.toList.drop (4 + (List.replicate 4 b255).length)).toArray = c2 at *
      generalize wr.drew.setRow w.heap.size c2 = W2 at *
      clear h1 h2 h3 h4 HH
      go_wp2_with fail
      refine wp_region_held_drew (S := fun _ => True) (by kernel_rfl) trivial (fun hHeld => ?_)
      refine wpAnyH_take (i := 0) (v := .int .i64 4) rfl (by kernel_rfl) (by kernel_rfl) (by kernel_rfl) (fun _ _ _ h => h) (Or.inl ⟨by rfl, fun w hSw => by dsimp only at hSw; go_simp⟩) hHeld ?_
      simp only [Act.put, List.getElem_toArray, List.getElem_cons_zero, List.setIfInBounds_toArray, List.set_cons_zero, List.set_cons_succ]
      refine wpAnyH_take (i := 1) (v := .slice (some ⟨w.heap.size, 0, none⟩) 16 16) rfl (by kernel_rfl) (by kernel_rfl) (by kernel_rfl) (fun _ _ _ h => h) (Or.inl ⟨by rfl, fun w hSw => by dsimp only at hSw; go_simp⟩) hHeld ?_
      simp only [Act.put, List.getElem_toArray, List.getElem_cons_zero, List.getElem_cons_succ, List.setIfInBounds_toArray, List.set_cons_zero, List.set_cons_succ]
      refine wpAnyH_take (i := 2) (v := .int .i64 4) rfl (by kernel_rfl) (by kernel_rfl) (by kernel_rfl) (fun _ _ _ h => h) (Or.inl ⟨by rfl, fun w hSw => by dsimp only at hSw; go_simp⟩) hHeld ?_
      simp only [Act.put, List.getElem_toArray, List.getElem_cons_zero, List.getElem_cons_succ, List.setIfInBounds_toArray, List.set_cons_zero, List.set_cons_succ]
      refine wpAnyH_take (i := 3) (v := .slice (some ⟨w.heap.size, 4, none⟩) 12 12) rfl (by kernel_rfl) (by kernel_rfl) (by kernel_rfl) (fun _ _ _ h => h) (Or.inl ⟨by rfl, fun w hSw => by dsimp only at hSw; go_simp⟩) hHeld ?_
      simp only [Act.put, List.getElem_toArray, List.getElem_cons_zero, List.getElem_cons_succ, List.setIfInBounds_toArray, List.set_cons_zero, List.set_cons_succ]
      refine wpAnyH_take (i := 4) (v := .slice (some ⟨w.heap.size, 0, none⟩) 16 16) rfl (by kernel_rfl) (by kernel_rfl) (by kernel_rfl) (fun _ _ _ h => h) (Or.inl ⟨by rfl, fun w hSw => by dsimp only at hSw; go_simp⟩) hHeld ?_
      simp only [Act.put, List.getElem_toArray, List.getElem_cons_zero, List.getElem_cons_succ, List.setIfInBounds_toArray, List.set_cons_zero, List.set_cons_succ]
      refine wpAnyH_take (i := 5) (v := .int .i64 4) rfl (by kernel_rfl) (by kernel_rfl) (by kernel_rfl) (fun _ _ _ h => h) (Or.inl ⟨by rfl, fun w hSw => by dsimp only at hSw; go_simp⟩) hHeld ?_
      simp only [Act.put, List.getElem_toArray, List.getElem_cons_zero, List.getElem_cons_succ, List.setIfInBounds_toArray, List.set_cons_zero, List.set_cons_succ]
      refine wpAnyH_take (i := 6) (v := .slice (some ⟨w.heap.size, 0, none⟩) 4 16) rfl (by kernel_rfl) (by kernel_rfl) (by kernel_rfl) (fun _ _ _ h => h) (Or.inl ⟨by rfl, fun w hSw => by dsimp only at hSw; go_simp⟩) hHeld ?_
      simp only [Act.put, List.getElem_toArray, List.getElem_cons_zero, List.getElem_cons_succ, List.setIfInBounds_toArray, List.set_cons_zero, List.set_cons_succ]
      refine wpAnyH_ready (rs := [7]) (by kernel_rfl) (by simp) ?_
      refine AllReadyH.cons rfl (fun K hK => ?_) AllReadyH.nil
      go_simp
      refine hK.out _ _ trivial (fun hHeld => ?_)
      clear hK K
      try simp only [Act.put, List.getElem_toArray, List.getElem_cons_zero, List.getElem_cons_succ, List.setIfInBounds_toArray, List.set_cons_zero, List.set_cons_succ]
      refine wpAnyH_take (i := 8) (v := .int .i64 8) rfl (by kernel_rfl) (by kernel_rfl) (by kernel_rfl) (fun _ _ _ h => h) (Or.inl ⟨by rfl, fun w hSw => by dsimp only at hSw; go_simp <;> decide⟩) hHeld ?_
      simp only [Act.put, List.getElem_toArray, List.getElem_cons_zero, List.getElem_cons_succ, List.setIfInBounds_toArray, List.set_cons_zero, List.set_cons_succ]
      refine wpAnyH_take (i := 9) (v := .int .i64 8) rfl (by kernel_rfl) (by kernel_rfl) (by kernel_rfl) (fun _ _ _ h => h) (Or.inl ⟨by rfl, fun w hSw => by dsimp only at hSw; go_simp⟩) hHeld ?_
      simp only [Act.put, List.getElem_toArray, List.getElem_cons_zero, List.getElem_cons_succ, List.setIfInBounds_toArray, List.set_cons_zero, List.set_cons_succ]
      refine wpAnyH_done (by kernel_rfl) ?_ _
      go_wp2_with fail
      go_roundw
      case rel => exact ⟨8, c2, by decide, rfl, ⟨N2.out, by rw [L2.out.1]; exact H2.out, L2.out.2, B2.out⟩⟩
      case measure => simp [intOf]
    · obtain ⟨h1, h2, h3, h4⟩ := HH.out
      have hr2 : (Builtin.copy_ #[31, 31] 3 #[.slice (some ⟨w.heap.size, 8, none⟩) 8 8, .slice (some ⟨w.heap.size, 0, none⟩) 8 16]).run Try.prog wr.drew = .ok (.int .i64 8) (wr.drew.setRow w.heap.size (cur.toList.take 8 ++ List.replicate 8 b255 ++ cur.toList.drop (8 + (List.replicate 8 b255).length)).toArray) :=
        run_copy_row Try.prog wr.drew 31 31 3 5 w.heap.size 8 8 8 ⟨w.heap.size, 0, none⟩ 8 16 cur 5 (List.replicate 8 b255) Try.underlying31 size_info h1 (by decide) (row_cell h1 h3) (by rw [List.length_replicate]; omega) (fun v hv => by rw [List.eq_of_mem_replicate hv]; rfl)
      have N2 : Hid ((wr.drew.setRow w.heap.size (cur.toList.take 8 ++ List.replicate 8 b255 ++ cur.toList.drop (8 + (List.replicate 8 b255).length)).toArray).heap[w.heap.size]? = some (.cells (cur.toList.take 8 ++ List.replicate 8 b255 ++ cur.toList.drop (8 + (List.replicate 8 b255).length)).toArray 5 (0, 0))) := setRow_heap wr.drew w.heap.size cur _ 5 _ h1
      have B2 : Hid (Below w.heap.size w (wr.drew.setRow w.heap.size (cur.toList.take 8 ++ List.replicate 8 b255 ++ cur.toList.drop (8 + (List.replicate 8 b255).length)).toArray)) := ⟨h4.os, h4.tape, h4.output, (by simpa using h4.size), fun k hk => (setRow_other wr.drew w.heap.size k _ (by omega)).trans (h4.block k hk)⟩
      have L2 : Hid ((cur.toList.take 8 ++ List.replicate 8 b255 ++ cur.toList.drop (8 + (List.replicate 8 b255).length)).toArray.size = cur.size ∧ (cur.toList.take 8 ++ List.replicate 8 b255 ++ cur.toList.drop (8 + (List.replicate 8 b255).length)).toArray.toList.take 16 = List.replicate 16 b255) := row_more (k := 8) h3 (by omega)
      have H2 := hide h2
      generalize (cur.toList.take 8 ++ List.replicate 8 b255 ++ cur.toList.drop (8 + (List.replicate 8 b255).length)).toArray = c2 at *
      generalize wr.drew.setRow w.heap.size c2 = W2 at *
      clear h1 h2 h3 h4 HH
      go_wp2_with fail
      refine wp_region_held_drew (S := fun _ => True) (by kernel_rfl) trivial (fun hHeld => ?_)
      refine wpAnyH_take (i := 0) (v := .int .i64 8) rfl (by kernel_rfl) (by kernel_rfl) (by kernel_rfl) (fun _ _ _ h => h) (Or.inl ⟨by rfl, fun w hSw => by dsimp only at hSw; go_simp⟩) hHeld ?_
      simp only [Act.put, List.getElem_toArray, List.getElem_cons_zero, List.setIfInBounds_toArray, List.set_cons_zero, List.set_cons_succ]
      refine wpAnyH_take (i := 1) (v := .slice (some ⟨w.heap.size, 0, none⟩) 16 16) rfl (by kernel_rfl) (by kernel_rfl) (by kernel_rfl) (fun _ _ _ h => h) (Or.inl ⟨by rfl, fun w hSw => by dsimp only at hSw; go_simp⟩) hHeld ?_
      simp only [Act.put, List.getElem_toArray, List.getElem_cons_zero, List.getElem_cons_succ, List.setIfInBounds_toArray, List.set_cons_zero, List.set_cons_succ]
      refine wpAnyH_take (i := 2) (v := .int .i64 8) rfl (by kernel_rfl) (by kernel_rfl) (by kernel_rfl) (fun _ _ _ h => h) (Or.inl ⟨by rfl, fun w hSw => by dsimp only at hSw; go_simp⟩) hHeld ?_
      simp only [Act.put, List.getElem_toArray, List.getElem_cons_zero, List.getElem_cons_succ, List.setIfInBounds_toArray, List.set_cons_zero, List.set_cons_succ]
      refine wpAnyH_take (i := 3) (v := .slice (some ⟨w.heap.size, 8, none⟩) 8 8) rfl (by kernel_rfl) (by kernel_rfl) (by kernel_rfl) (fun _ _ _ h => h) (Or.inl ⟨by rfl, fun w hSw => by dsimp only at hSw; go_simp⟩) hHeld ?_
      simp only [Act.put, List.getElem_toArray, List.getElem_cons_zero, List.getElem_cons_succ, List.setIfInBounds_toArray, List.set_cons_zero, List.set_cons_succ]
      refine wpAnyH_take (i := 4) (v := .slice (some ⟨w.heap.size, 0, none⟩) 16 16) rfl (by kernel_rfl) (by kernel_rfl) (by kernel_rfl) (fun _ _ _ h => h) (Or.inl ⟨by rfl, fun w hSw => by dsimp only at hSw; go_simp⟩) hHeld ?_
      simp only [Act.put, List.getElem_toArray, List.getElem_cons_zero, List.getElem_cons_succ, List.setIfInBounds_toArray, List.set_cons_zero, List.set_cons_succ]
      refine wpAnyH_take (i := 5) (v := .int .i64 8) rfl (by kernel_rfl) (by kernel_rfl) (by kernel_rfl) (fun _ _ _ h => h) (Or.inl ⟨by rfl, fun w hSw => by dsimp only at hSw; go_simp⟩) hHeld ?_
      simp only [Act.put, List.getElem_toArray, List.getElem_cons_zero, List.getElem_cons_succ, List.setIfInBounds_toArray, List.set_cons_zero, List.set_cons_succ]
      refine wpAnyH_take (i := 6) (v := .slice (some ⟨w.heap.size, 0, none⟩) 8 16) rfl (by kernel_rfl) (by kernel_rfl) (by kernel_rfl) (fun _ _ _ h => h) (Or.inl ⟨by rfl, fun w hSw => by dsimp only at hSw; go_simp⟩) hHeld ?_
      simp only [Act.put, List.getElem_toArray, List.getElem_cons_zero, List.getElem_cons_succ, List.setIfInBounds_toArray, List.set_cons_zero, List.set_cons_succ]
      refine wpAnyH_ready (rs := [7]) (by kernel_rfl) (by simp) ?_
      refine AllReadyH.cons rfl (fun K hK => ?_) AllReadyH.nil
      go_simp
      refine hK.out _ _ trivial (fun hHeld => ?_)
      clear hK K
      try simp only [Act.put, List.getElem_toArray, List.getElem_cons_zero, List.getElem_cons_succ, List.setIfInBounds_toArray, List.set_cons_zero, List.set_cons_succ]
      refine wpAnyH_take (i := 8) (v := .int .i64 16) rfl (by kernel_rfl) (by kernel_rfl) (by kernel_rfl) (fun _ _ _ h => h) (Or.inl ⟨by rfl, fun w hSw => by dsimp only at hSw; go_simp <;> decide⟩) hHeld ?_
      simp only [Act.put, List.getElem_toArray, List.getElem_cons_zero, List.getElem_cons_succ, List.setIfInBounds_toArray, List.set_cons_zero, List.set_cons_succ]
      refine wpAnyH_take (i := 9) (v := .int .i64 16) rfl (by kernel_rfl) (by kernel_rfl) (by kernel_rfl) (fun _ _ _ h => h) (Or.inl ⟨by rfl, fun w hSw => by dsimp only at hSw; go_simp⟩) hHeld ?_
      simp only [Act.put, List.getElem_toArray, List.getElem_cons_zero, List.getElem_cons_succ, List.setIfInBounds_toArray, List.set_cons_zero, List.set_cons_succ]
      refine wpAnyH_done (by kernel_rfl) ?_ _
      go_wp2_with fail
      go_roundw
      case rel => exact ⟨16, c2, by decide, rfl, ⟨N2.out, by rw [L2.out.1]; exact H2.out, L2.out.2, B2.out⟩⟩
      case measure => simp [intOf]
    · go_wp2_with fail
      go_ret
      refine ⟨_, rfl, ⟨w.heap.size, rfl, Nat.le_refl _, heap_lt HH.out.1, fun j hj => ?_⟩, HH.out.2.2.2⟩
      have := row_cell HH.out.1 HH.out.2.2.1 j b255 (by simp at hj; rw [List.getElem?_replicate_of_lt hj])
      rw [show (⟨w.heap.size, 0, none⟩ : Addr).add j = ⟨w.heap.size, 0 + j, none⟩ by unfold Addr.add; split <;> simp_all] at this
      rw [this, List.getElem_replicate]
      rfl
end Go.Proofs.Ytkhmhmopcofejaa
