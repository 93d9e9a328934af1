import Derived.Test.YtkhmhmopcofejaaQA
import Derived.Test.YtkhmhmopcofejaaPA
import Derived.WalkLawsBesides
import Derived.Deep.RegionHeldLaw
/- The contracts of wire's giveUp, left, next and part. -/
namespace Go.Proofs.Ytkhmhmopcofejaa
open Go.RowKit Go.Sort

/-- What the reader gives up with. -/
def pan : Ending := .panicked [{ v := .iface 32 (.int .i64 4), recovered := false }]
set_option maxRecDepth 100000 in
theorem giveUp_is (w : World) : Calls Try.prog 34 #[] w fun e w' => e = pan ∧ w = w' := by
  go_enter Try.func34, Try.ntmps34
  go_wp2_with fail
  exact ⟨rfl, rfl, rfl⟩
/-- A reader in memory. -/
structure Rdr (w : World) (rb b off c : Nat) (l : List UInt8) (at_ : Nat) : Prop where
  cell : w.heap[rb]? = some (.cells #[.slice (some ⟨b, off, none⟩) l.length c, .int .i64 (at_ : Int)] 65 (0, 0))
  reads : Bs.reads w b off l
  le : at_ ≤ l.length
  cap : l.length ≤ c
  ne : rb ≠ b
  lt : b < w.heap.size
  len : l.length ≤ 70000
theorem two_cells {w : World} {b y : Nat} {x0 x1 : Value} (h : w.heap[b]? = some (.cells #[x0, x1] y (0, 0))) : w.cell? ⟨b, 0, none⟩ = some x0 ∧ w.cell? ⟨b, 1, none⟩ = some x1 ∧ w.frozen? ⟨b, 0, none⟩ = false ∧ w.frozen? ⟨b, 1, none⟩ = false := by
  simp [World.cell?, World.frozen?, h]
set_option maxRecDepth 100000 in
theorem left_is (rb b off c : Nat) (l : List UInt8) (k : Nat) (w : World) (hR : Rdr w rb b off c l k) :
    Calls Try.prog 85 #[.pointer (some ⟨rb, 0, none⟩)] w fun e w' => e = .returned (.int .i64 ((l.length : Int) - (k : Int))) ∧ Below w.heap.size w w' := by
  obtain ⟨c0, c1, _, _⟩ := two_cells hR.cell
  have hle := hR.le
  have hln := hR.len
  have q0 := fun dd os => cell_regrown c0 dd os
  have q1 := fun dd os => cell_regrown c1 dd os
  clear hR c0 c1
  go_enter Try.func85, Try.ntmps85
  go_upto_region 1 with fail
  refine wp_region_quiet_below (by kernel_rfl) (by kernel_rfl) ?_
  repeat (go_big_quiet_step (fail))
  refine wpQuiet_nil ?_
  rintro _ ⟨⟨dd, os⟩, rfl⟩
  have hb3 := below_regrown w dd os
  generalize Sort.grow (redrawn w dd) os = w3 at hb3
  have B3 := hide hb3
  clear hb3
  go_wp2_with fail
  go_ret
  exact ⟨rfl, B3.out⟩
theorem set_at {w : World} {rb : Nat} {x0 x1 : Value} (h : w.heap[rb]? = some (.cells #[x0, x1] 65 (0, 0))) (v : Value) : (w.setCell ⟨rb, 1, none⟩ v).heap[rb]? = some (.cells #[x0, v] 65 (0, 0)) := heap_setCell_same w rb 1 _ 65 v h
theorem grown_set {w w1 : World} {rb : Nat} (h : w.grownBy w1 (some rb)) (o : Nat) (v : Value) : w.grownBy (w1.setCell ⟨rb, o, none⟩ v) (some rb) :=
  ⟨h.os, h.tape, h.output, by simpa using h.size, fun k hk hr => (Below.heap_setCell w1 ⟨rb, o, none⟩ v k (fun e => hr (by rw [e]))).trans (h.block k hk hr)⟩
theorem Rdr.moved {w w1 : World} {rb b off c : Nat} {l : List UInt8} {k k' : Nat} (h : Rdr w rb b off c l k) (hg : w.grownBy w1 (some rb)) (hc : w1.heap[rb]? = some (.cells #[.slice (some ⟨b, off, none⟩) l.length c, .int .i64 (k' : Int)] 65 (0, 0))) (hk : k' ≤ l.length) : Rdr w1 rb b off c l k' :=
  ⟨hc, fun j hj => hg.cell (a := ⟨b, off + j, none⟩) (h.reads j hj) (fun e => h.ne (by simpa using e.symm)), hk, h.cap, h.ne, Nat.lt_of_lt_of_le h.lt hg.size, h.len⟩
theorem Rdr.below {w w1 : World} {rb b off c : Nat} {l : List UInt8} {k : Nat} (h : Rdr w rb b off c l k) (hb : Below w.heap.size w w1) : Rdr w1 rb b off c l k :=
  h.moved (grown_of_below hb) ((hb.block rb (heap_lt h.cell)).trans h.cell) h.le
/-- The reader has given up. -/
def Gup (w : World) (rb : Nat) (e : Ending) (w' : World) : Prop := e = pan ∧ w.grownBy w' (some rb)
set_option maxHeartbeats 1000000 in
set_option maxRecDepth 100000 in
theorem next_no (rb b off c : Nat) (l : List UInt8) (k m : Nat) (w : World) (hR : Rdr w rb b off c l k) (_hm : m ≤ 100000) (h : l.length < k + m) :
    Calls Try.prog 60 #[.pointer (some ⟨rb, 0, none⟩), .int .i64 m] w (Gup w rb) := by
  have CL := hide (left_is rb b off c l k w hR)
  have CG := hide (fun W => giveUp_is W)
  have hx : ((l.length : Int) - (k : Int)) < (m : Int) := by omega
  clear hR
  go_enter Try.func60, Try.ntmps60
  go_wp2_with fail
  refine CL.out.mono ?_
  rintro e w1 ⟨rfl, b1⟩
  have B1 := hide b1
  clear b1 CL
  go_wp2_with fail
  refine (CG.out _).mono ?_
  rintro e w2 ⟨rfl, rfl⟩
  exact ⟨rfl, rfl, grown_of_below B1.out⟩
set_option maxHeartbeats 1000000 in
set_option maxRecDepth 100000 in
theorem next_ok (rb b off c : Nat) (l : List UInt8) (k m : Nat) (w : World) (hR : Rdr w rb b off c l k) (hm : m ≤ 4) (h : k + m ≤ l.length) :
    Calls Try.prog 60 #[.pointer (some ⟨rb, 0, none⟩), .int .i64 m] w fun e w' => e = .returned (.int .i64 (val ((l.drop k).take m) : Nat)) ∧ Rdr w' rb b off c l (k + m) ∧ w.grownBy w' (some rb) := by
  have CL := hide (left_is rb b off c l k w hR)
  have hx : ¬ ((l.length : Int) - (k : Int)) < (m : Int) := by omega
  have HR := hide hR
  have hk1 : k ≤ 70000 := by have := hR.len; omega
  clear hR
  go_enter Try.func60, Try.ntmps60
  go_wp2_with fail
  refine CL.out.mono ?_
  rintro e w1 ⟨rfl, b1⟩
  have R1 := hide (HR.out.below b1)
  have G1 : Hid (w.grownBy w1 (some rb)) := grown_of_below b1
  obtain ⟨c0, c1, f0, f1⟩ := two_cells R1.out.cell
  obtain ⟨W, hW⟩ : ∃ W, w1.setCell ⟨rb, 1, none⟩ (.int .i64 ((k : Int) + (m : Int))) = W := ⟨_, rfl⟩
  have GW : Hid (w1.grownBy W (some rb)) := by rw [← hW]; exact grown_set (grown_refl w1 _) 1 _
  have RW : Hid (Rdr W rb b off c l (k + m)) := R1.out.moved GW.out (by rw [← hW]; exact set_at R1.out.cell _) h
  have G2 := hide (grown_trans G1.out (nx_refl w _) GW.out)
  clear b1 CL GW
  go_upto_region 4 with fail
  clear c0 c1 f0 f1 hW
  obtain ⟨c0, c1, f0, f1⟩ := two_cells RW.out.cell
  have hw : IntKind.i64.wrap ((k : Int) + (m : Int) - (m : Int)) = (k : Int) := by rw [IntKind.wrap_i64]; omega
  have hs : ((k : Int) + (m : Int) - (m : Int)) = (k : Int) := by omega
  have q0 := fun dd os => cell_regrown c0 dd os
  have q1 := fun dd os => cell_regrown c1 dd os
  have CN : Hid (∀ W', Below W.heap.size W W' → Calls Try.prog 65 #[.slice (some ⟨b, off, none⟩) l.length c, .int .i64 k, .int .i64 m] W' fun e w' => e = .returned (.int .i64 (val ((l.drop k).take m) : Nat)) ∧ Below W'.heap.size W' w') := fun W' hb =>
    (number_is b off c l k m hm h (by have := RW.out.len; omega) RW.out.cap W' (RW.out.below hb).reads).mono fun e w' h => ⟨h.1, h.2 ▸ brefl W'⟩
  clear c0 c1 f0 f1
  push_cast at q1
  refine wp_region_quiet_below (by kernel_rfl) (by kernel_rfl) ?_
  repeat (go_big_quiet_step ((go_at_call 65; exact Calls.regrown_of (CN.out _ (below_regrown _ _ _)))))
  refine wpQuiet_nil ?_
  rintro _ ⟨⟨dd, os⟩, rfl⟩
  have hb3 := below_regrown W dd os
  generalize Sort.grow (redrawn W dd) os = w3 at hb3
  have R3 := hide (RW.out.below hb3)
  have G3 := hide (grown_below G2.out hb3)
  clear hb3 q0 q1
  go_wp2_with fail
  go_ret
  exact ⟨rfl, R3.out, G3.out⟩
end Go.Proofs.Ytkhmhmopcofejaa

/- The contract of wire's part. -/
namespace Go.Proofs.Ytkhmhmopcofejaa
open Go.RowKit Go.Sort

set_option maxHeartbeats 1000000 in
set_option maxRecDepth 100000 in
theorem part_no (rb b off c : Nat) (l : List UInt8) (k m : Nat) (w : World) (hR : Rdr w rb b off c l k) (_hm : m ≤ 100000) (h : l.length < k + m) :
    Calls Try.prog 59 #[.pointer (some ⟨rb, 0, none⟩), .int .i64 m] w (Gup w rb) := by
  have CL := hide (left_is rb b off c l k w hR)
  have CG := hide (fun W => giveUp_is W)
  have hx : ((l.length : Int) - (k : Int)) < (m : Int) := by omega
  clear hR
  go_enter Try.func59, Try.ntmps59
  go_wp2_with fail
  refine CL.out.mono ?_
  rintro e w1 ⟨rfl, b1⟩
  have B1 := hide b1
  clear b1 CL
  go_wp2_with fail
  refine (CG.out _).mono ?_
  rintro e w2 ⟨rfl, rfl⟩
  exact ⟨rfl, rfl, grown_of_below B1.out⟩
/-- A reader of some of the bytes. -/
def Parts (w : World) (rb b off c : Nat) (l : List UInt8) (k m : Nat) (e : Ending) (w' : World) : Prop := ∃ g o', e = .returned (.pointer (some ⟨g, 0, none⟩)) ∧ w.heap.size ≤ g ∧ Rdr w' g b o' (c - k) ((l.drop k).take m) 0 ∧ Rdr w' rb b off c l (k + m) ∧ w.grownBy w' (some rb)
set_option maxHeartbeats 1000000 in
set_option maxRecDepth 100000 in
theorem part_ok (rb b off c : Nat) (l : List UInt8) (k m : Nat) (w : World) (hR : Rdr w rb b off c l k) (h : k + m ≤ l.length) :
    Calls Try.prog 59 #[.pointer (some ⟨rb, 0, none⟩), .int .i64 m] w (Parts w rb b off c l k m) := by
  have CL := hide (left_is rb b off c l k w hR)
  have hx : ¬ ((l.length : Int) - (k : Int)) < (m : Int) := by omega
  have HR := hide hR
  have hk1 : l.length ≤ 70000 := hR.len
  have hcp := hR.cap
  obtain ⟨o', ho', hsl⟩ := slice_mid 63 Try.underlying63 b off l.length c k (k + m) (by omega) (by omega)
  rw [show ((k + m : Nat) : Int) = (k : Int) + (m : Int) by push_cast; rfl, show k + m - k = m by omega] at hsl
  have HO := hide ho'
  clear hR ho'
  go_enter Try.func59, Try.ntmps59
  go_wp2_with fail
  refine CL.out.mono ?_
  rintro e w1 ⟨rfl, b1⟩
  have R1 := hide (HR.out.below b1)
  have G1 : Hid (w.grownBy w1 (some rb)) := grown_of_below b1
  obtain ⟨c0, c1, f0, f1⟩ := two_cells R1.out.cell
  obtain ⟨W, hW⟩ : ∃ W, w1.setCell ⟨rb, 1, none⟩ (.int .i64 ((k : Int) + (m : Int))) = W := ⟨_, rfl⟩
  have GW : Hid (w1.grownBy W (some rb)) := by rw [← hW]; exact grown_set (grown_refl w1 _) 1 _
  have RW : Hid (Rdr W rb b off c l (k + m)) := R1.out.moved GW.out (by rw [← hW]; exact set_at R1.out.cell _) h
  have G2 := hide (grown_trans G1.out (nx_refl w _) GW.out)
  clear b1 CL GW
  go_upto_region 4 with fail
  clear c0 c1 f0 f1 hW
  obtain ⟨c0, c1, f0, f1⟩ := two_cells RW.out.cell
  push_cast at c1
  have hs : ((k : Int) + (m : Int) - (m : Int)) = (k : Int) := by omega
  have hw : IntKind.i64.wrap (k : Int) = (k : Int) := by rw [IntKind.wrap_i64]; omega
  have B0 := hide ((brefl W).drew)
  have SA : Hid (((W.drew).alloc (.cells #[.slice (some ⟨b, o', none⟩) m (c - k), .int .i64 0] 65)).cell? ⟨rb, 0, none⟩ = some (.slice (some ⟨b, off, none⟩) l.length c) ∧ ((W.drew).alloc (.cells #[.slice (some ⟨b, o', none⟩) m (c - k), .int .i64 0] 65)).cell? ⟨rb, 1, none⟩ = some (.int .i64 ((k : Int) + (m : Int)))) := by
    have hlt : rb < W.heap.size := heap_lt RW.out.cell
    exact ⟨((balloc (brefl W).drew _).cell (p := ⟨rb, 0, none⟩) hlt).trans c0, ((balloc (brefl W).drew _).cell (p := ⟨rb, 1, none⟩) hlt).trans c1⟩
  clear f0 f1
  refine wp_region_held_drew (S := fun w' => w'.cell? ⟨rb, 0, none⟩ = some (.slice (some ⟨b, off, none⟩) l.length c) ∧ w'.cell? ⟨rb, 1, none⟩ = some (.int .i64 ((k : Int) + (m : Int)))) (by kernel_rfl) ⟨c0, c1⟩ (fun hHeld => ?_)
  refine wpAnyH_take (i := 0) (v := .pointer (some ⟨rb, 0, none⟩)) rfl (by kernel_rfl) (by kernel_rfl) (by kernel_rfl) (fun _ _ _ h => h) (Or.inl ⟨by rfl, fun w hSw => by dsimp only at hSw; go_simp⟩) hHeld ?_
  simp only [Act.put, List.getElem_toArray, List.getElem_cons_zero, List.setIfInBounds_toArray, List.set_cons_zero, List.set_cons_succ]
  refine wpAnyH_take (i := 1) (v := .pointer (some ⟨rb, 0, none⟩)) rfl (by kernel_rfl) (by kernel_rfl) (by kernel_rfl) (fun _ _ _ h => h) (Or.inl ⟨by rfl, fun w hSw => by dsimp only at hSw; go_simp⟩) hHeld ?_
  simp only [Act.put, List.getElem_toArray, List.getElem_cons_zero, List.getElem_cons_succ, List.setIfInBounds_toArray, List.set_cons_zero, List.set_cons_succ]
  refine wpAnyH_take (i := 2) (v := .pointer (some ⟨rb, 0, none⟩)) rfl (by kernel_rfl) (by kernel_rfl) (by kernel_rfl) (fun _ _ _ h => h) (Or.inl ⟨by rfl, fun w hSw => by dsimp only at hSw; go_simp⟩) hHeld ?_
  simp only [Act.put, List.getElem_toArray, List.getElem_cons_zero, List.getElem_cons_succ, List.setIfInBounds_toArray, List.set_cons_zero, List.set_cons_succ]
  refine wpAnyH_take (i := 3) (v := .slice (some ⟨b, off, none⟩) l.length c) rfl (by kernel_rfl) (by kernel_rfl) (by kernel_rfl) (fun _ _ _ h => h) (Or.inl ⟨by rfl, fun w hSw => by dsimp only at hSw; go_simp⟩) hHeld ?_
  simp only [Act.put, List.getElem_toArray, List.getElem_cons_zero, List.getElem_cons_succ, List.setIfInBounds_toArray, List.set_cons_zero, List.set_cons_succ]
  refine wpAnyH_take (i := 4) (v := .pointer (some ⟨rb, 0, none⟩)) rfl (by kernel_rfl) (by kernel_rfl) (by kernel_rfl) (fun _ _ _ h => h) (Or.inl ⟨by rfl, fun w hSw => by dsimp only at hSw; go_simp⟩) hHeld ?_
  simp only [Act.put, List.getElem_toArray, List.getElem_cons_zero, List.getElem_cons_succ, List.setIfInBounds_toArray, List.set_cons_zero, List.set_cons_succ]
  refine wpAnyH_take (i := 5) (v := .pointer (some ⟨rb, 0, none⟩)) rfl (by kernel_rfl) (by kernel_rfl) (by kernel_rfl) (fun _ _ _ h => h) (Or.inl ⟨by rfl, fun w hSw => by dsimp only at hSw; go_simp⟩) hHeld ?_
  simp only [Act.put, List.getElem_toArray, List.getElem_cons_zero, List.getElem_cons_succ, List.setIfInBounds_toArray, List.set_cons_zero, List.set_cons_succ]
  refine wpAnyH_take (i := 6) (v := .pointer (some ⟨rb, 1, none⟩)) rfl (by kernel_rfl) (by kernel_rfl) (by kernel_rfl) (fun _ _ _ h => h) (Or.inl ⟨by rfl, fun w hSw => by dsimp only at hSw; go_simp⟩) hHeld ?_
  simp only [Act.put, List.getElem_toArray, List.getElem_cons_zero, List.getElem_cons_succ, List.setIfInBounds_toArray, List.set_cons_zero, List.set_cons_succ]
  refine wpAnyH_take (i := 7) (v := .int .i64 ((k : Int) + (m : Int))) rfl (by kernel_rfl) (by kernel_rfl) (by kernel_rfl) (fun _ _ _ h => h) (Or.inl ⟨by rfl, fun w hSw => by dsimp only at hSw; go_simp⟩) hHeld ?_
  simp only [Act.put, List.getElem_toArray, List.getElem_cons_zero, List.getElem_cons_succ, List.setIfInBounds_toArray, List.set_cons_zero, List.set_cons_succ]
  refine wpAnyH_take (i := 8) (v := .int .i64 m) rfl (by kernel_rfl) (by kernel_rfl) (by kernel_rfl) (fun _ _ _ h => h) (Or.inl ⟨by rfl, fun w hSw => by dsimp only at hSw; go_simp⟩) hHeld ?_
  simp only [Act.put, List.getElem_toArray, List.getElem_cons_zero, List.getElem_cons_succ, List.setIfInBounds_toArray, List.set_cons_zero, List.set_cons_succ]
  refine wpAnyH_take (i := 9) (v := .int .i64 k) rfl (by kernel_rfl) (by kernel_rfl) (by kernel_rfl) (fun _ _ _ h => h) (Or.inl ⟨by rfl, fun w hSw => by dsimp only at hSw; go_simp⟩) hHeld ?_
  simp only [Act.put, List.getElem_toArray, List.getElem_cons_zero, List.getElem_cons_succ, List.setIfInBounds_toArray, List.set_cons_zero, List.set_cons_succ]
  refine wpAnyH_take (i := 10) (v := .pointer (some ⟨rb, 0, none⟩)) rfl (by kernel_rfl) (by kernel_rfl) (by kernel_rfl) (fun _ _ _ h => h) (Or.inl ⟨by rfl, fun w hSw => by dsimp only at hSw; go_simp⟩) hHeld ?_
  simp only [Act.put, List.getElem_toArray, List.getElem_cons_zero, List.getElem_cons_succ, List.setIfInBounds_toArray, List.set_cons_zero, List.set_cons_succ]
  refine wpAnyH_take (i := 11) (v := .pointer (some ⟨rb, 0, none⟩)) rfl (by kernel_rfl) (by kernel_rfl) (by kernel_rfl) (fun _ _ _ h => h) (Or.inl ⟨by rfl, fun w hSw => by dsimp only at hSw; go_simp⟩) hHeld ?_
  simp only [Act.put, List.getElem_toArray, List.getElem_cons_zero, List.getElem_cons_succ, List.setIfInBounds_toArray, List.set_cons_zero, List.set_cons_succ]
  refine wpAnyH_take (i := 12) (v := .pointer (some ⟨rb, 1, none⟩)) rfl (by kernel_rfl) (by kernel_rfl) (by kernel_rfl) (fun _ _ _ h => h) (Or.inl ⟨by rfl, fun w hSw => by dsimp only at hSw; go_simp⟩) hHeld ?_
  simp only [Act.put, List.getElem_toArray, List.getElem_cons_zero, List.getElem_cons_succ, List.setIfInBounds_toArray, List.set_cons_zero, List.set_cons_succ]
  refine wpAnyH_take (i := 13) (v := .int .i64 ((k : Int) + (m : Int))) rfl (by kernel_rfl) (by kernel_rfl) (by kernel_rfl) (fun _ _ _ h => h) (Or.inl ⟨by rfl, fun w hSw => by dsimp only at hSw; go_simp⟩) hHeld ?_
  simp only [Act.put, List.getElem_toArray, List.getElem_cons_zero, List.getElem_cons_succ, List.setIfInBounds_toArray, List.set_cons_zero, List.set_cons_succ]
  refine wpAnyH_take (i := 14) (v := .slice (some ⟨b, o', none⟩) m (c - k)) rfl (by kernel_rfl) (by kernel_rfl) (by kernel_rfl) (fun _ _ _ h => h) (Or.inl ⟨by rfl, fun w hSw => by dsimp only at hSw; go_simp⟩) hHeld ?_
  simp only [Act.put, List.getElem_toArray, List.getElem_cons_zero, List.getElem_cons_succ, List.setIfInBounds_toArray, List.set_cons_zero, List.set_cons_succ]
  refine wpAnyH_take (i := 15) (v := .agg #[.slice (some ⟨b, o', none⟩) m (c - k), .int .i64 0]) rfl (by kernel_rfl) (by kernel_rfl) (by kernel_rfl) (fun _ _ _ h => h) (Or.inl ⟨by rfl, fun w hSw => by dsimp only at hSw; go_simp⟩) hHeld ?_
  simp only [Act.put, List.getElem_toArray, List.getElem_cons_zero, List.getElem_cons_succ, List.setIfInBounds_toArray, List.set_cons_zero, List.set_cons_succ]
  refine wpAnyH_ready (rs := [16]) (by kernel_rfl) (by simp) ?_
  refine AllReadyH.cons rfl (fun K hK => ?_) AllReadyH.nil
  go_simp
  refine hK.out _ _ SA.out (fun hHeld => ?_)
  clear hK K
  try simp only [Act.put, List.getElem_toArray, List.getElem_cons_zero, List.getElem_cons_succ, List.setIfInBounds_toArray, List.set_cons_zero, List.set_cons_succ]
  refine wpAnyH_take (i := 17) (v := .pointer (some ⟨W.heap.size, 0, none⟩)) rfl (by kernel_rfl) (by kernel_rfl) (by kernel_rfl) (fun _ _ _ h => h) (Or.inl ⟨by rfl, fun w hSw => by dsimp only at hSw; go_simp⟩) hHeld ?_
  simp only [Act.put, List.getElem_toArray, List.getElem_cons_zero, List.getElem_cons_succ, List.setIfInBounds_toArray, List.set_cons_zero, List.set_cons_succ]
  refine wpAnyH_done (by kernel_rfl) ?_ _
  have BA := hide (balloc (brefl W).drew (.cells #[.slice (some ⟨b, o', none⟩) m (c - k), .int .i64 0] 65))
  have NA := hide (heap_new W.drew #[.slice (some ⟨b, o', none⟩) m (c - k), .int .i64 0] 65)
  have RG : Hid (Rdr ((W.drew).alloc (.cells #[.slice (some ⟨b, o', none⟩) m (c - k), .int .i64 0] 65)) W.heap.size b o' (c - k) ((l.drop k).take m) 0) := by
    have hlen : ((l.drop k).take m).length = m := by rw [List.length_take, List.length_drop]; omega
    refine ⟨by rw [hlen]; exact NA.out, fun j hj => ?_, Nat.zero_le _, by omega, fun e => ?_, Nat.lt_of_lt_of_le RW.out.lt BA.out.size, by omega⟩
    · have ho := HO.out (by omega)
      subst ho
      rw [List.getElem_take, List.getElem_drop, Nat.add_assoc]
      exact (RW.out.below BA.out).reads (k + j) (by omega)
    · have := RW.out.lt
      omega
  have RR := hide (RW.out.below BA.out)
  have G3 := hide (grown_below G2.out BA.out)
  have GS := hide G2.out.size
  clear BA NA c0 c1 hHeld SA B0
  go_wp2_with fail
  go_ret
  exact ⟨W.heap.size, o', rfl, GS.out, RG.out, RR.out, G3.out⟩
end Go.Proofs.Ytkhmhmopcofejaa

