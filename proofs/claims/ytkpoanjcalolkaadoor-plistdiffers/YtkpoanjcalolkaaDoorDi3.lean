import Derived.Test.YtkpoanjcalolkaaDoorDi1
/- The contract of plist's Differ. -/
namespace Go.Proofs.YtkpoanjcalolkaaDoor
open Go.RowKit

def Ad.diffV (c k : Int) (f : Bool) (x : Int) : Value := .tuple #[.agg #[.int .u32 c, .int .i64 k], .bool f, .int .i64 x]

/-- Differ's three blocks read as they were laid. -/
def DW (w : World) (va vb : Value) (X : World) : Prop := Below (w.heap.size + 3) (((w.alloc (.cells #[va] 22)).alloc (.cells #[vb] 22)).alloc (.cells #[.int .u32 0, .int .i64 0] 25)) X
theorem dw_lo {w X : World} {va vb : Value} (h : DW w va vb X) : Below w.heap.size w X := (balloc (balloc (balloc (brefl w) _) _) _).trans (Below.mono h (by omega))
theorem dw_size {w X : World} {va vb : Value} (h : DW w va vb X) : w.heap.size + 3 ≤ X.heap.size := by have := Below.size h; simpa using this
theorem dw_then {w X Y : World} {va vb : Value} (h : DW w va vb X) (hb : Below X.heap.size X Y) : DW w va vb Y := Below.trans h (hb.mono (dw_size h))
theorem dw_alloc {w X : World} {va vb : Value} (h : DW w va vb X) (o : Obj) : DW w va vb (X.alloc o) := Below.alloc h (dw_size h) o
theorem dw_a {w X : World} {va vb : Value} (h : DW w va vb X) : X.cell? ⟨w.heap.size, 0, none⟩ = some va := by
  rw [Below.cell h (p := ⟨w.heap.size, 0, none⟩) (by simp), World.cell?_alloc_past _ _ _ (by simp; omega), World.cell?_alloc_past _ _ _ (by simp)]
  exact cell_of_row _ _ 0 _ 22 (0, 0) (heap_alloc_last w _)
theorem dw_b {w X : World} {va vb : Value} (h : DW w va vb X) : X.cell? ⟨w.heap.size + 1, 0, none⟩ = some vb := by
  rw [Below.cell h (p := ⟨w.heap.size + 1, 0, none⟩) (by simp), World.cell?_alloc_past _ _ _ (by simp)]
  have := cell_of_row ((w.alloc (.cells #[va] 22)).alloc (.cells #[vb] 22)) _ 0 _ 22 (0, 0) (heap_alloc_last _ _)
  rw [show (w.alloc (.cells #[va] 22)).heap.size = w.heap.size + 1 by simp] at this
  exact this
theorem dw_r {w X : World} {va vb : Value} (h : DW w va vb X) (j : Nat) : X.cell? ⟨w.heap.size + 2, j, none⟩ = (#[Value.int .u32 0, .int .i64 0] : Array Value)[j]? := by
  rw [Below.cell h (p := ⟨w.heap.size + 2, j, none⟩) (by simp)]
  have := cell_of_row (((w.alloc (.cells #[va] 22)).alloc (.cells #[vb] 22)).alloc (.cells #[.int .u32 0, .int .i64 0] 25)) _ j _ 25 (0, 0) (heap_alloc_last _ _)
  rw [show ((w.alloc (.cells #[va] 22)).alloc (.cells #[vb] 22)).heap.size = w.heap.size + 2 by simp] at this
  exact this
theorem dw_frozen {w X : World} {va vb : Value} (h : DW w va vb X) (j : Nat) : X.frozen? ⟨w.heap.size + 2, j, none⟩ = false := by
  rw [Below.frozen h (p := ⟨w.heap.size + 2, j, none⟩) (by simp)]
  have := World.frozen?_alloc_new (w := (w.alloc (.cells #[va] 22)).alloc (.cells #[vb] 22)) #[.int .u32 0, .int .i64 0] 25 j
  rw [show ((w.alloc (.cells #[va] 22)).alloc (.cells #[vb] 22)).heap.size = w.heap.size + 2 by simp] at this
  exact this

set_option maxHeartbeats 4000000 in
theorem differ_bad1 (ao bo : Option Addr) (ca cb m : Nat) (a : List Ad.R) (x : Int) (w : World) (hRa : Ad.slotR w ao a) (hfa : Ad.fitsR a) (hx : Hid (Ad.rwhy a = x)) (hx0 : (x != 0) = true) :
    Calls Tryd.prog 26 #[.slice ao a.length ca, .slice bo m cb] w fun e w' => e = .returned (Ad.diffV 0 0 false x) ∧ Below w.heap.size w w' := by
  have HRA := hide hRa
  have HFA := hide hfa
  clear hRa hfa
  go_enter Tryd.func26, Tryd.ntmps26
  go_wp2_with fail
  have F0 : Hid (DW w (.slice ao a.length ca) (.slice bo m cb) (((w.alloc (.cells #[.slice ao a.length ca] 22)).alloc (.cells #[.slice bo m cb] 22)).alloc (.cells #[.int .u32 0, .int .i64 0] 25))) := Below.refl _ _
  generalize ((w.alloc (.cells #[.slice ao a.length ca] 22)).alloc (.cells #[.slice bo m cb] 22)).alloc (.cells #[.int .u32 0, .int .i64 0] 25) = W0 at F0 ⊢
  refine (pmay_is ao ca a x hx.out _ (Ad.slotR_below HRA.out (dw_lo F0.out)) HFA.out).mono ?_
  rintro e w1 ⟨rfl, hb1⟩
  have F1 := hide (dw_then F0.out hb1)
  clear hb1 F0
  have r0 := dw_r F1.out 0
  have r1 := dw_r F1.out 1
  have f0 := dw_frozen F1.out 0
  have f1 := dw_frozen F1.out 1
  simp at r0 r1
  go_wp2_with fail
  exact bodyPost_ret (v := Ad.diffV 0 0 false x) (by simp [results, Tryd.results26, go_sem, r0, r1, Ad.diffV]) rfl ⟨rfl, ((dw_lo F1.out).setCell (by simp <;> omega) _).setCell (by simp <;> omega) _⟩

set_option maxHeartbeats 4000000 in
theorem differ_bad2 (ao bo : Option Addr) (ca cb : Nat) (a b : List Ad.R) (x : Int) (w : World) (hRa : Ad.slotR w ao a) (hRb : Ad.slotR w bo b) (hfa : Ad.fitsR a) (hfb : Ad.fitsR b) (hz : Ad.rwhy a = 0) (hx : Hid (Ad.rwhy b = x)) (hx0 : (x != 0) = true) :
    Calls Tryd.prog 26 #[.slice ao a.length ca, .slice bo b.length cb] w fun e w' => e = .returned (Ad.diffV 0 0 false x) ∧ Below w.heap.size w w' := by
  have HRA := hide hRa
  have HRB := hide hRb
  have HFA := hide hfa
  have HFB := hide hfb
  have HZ := hide hz
  clear hRa hRb hfa hfb hz
  go_enter Tryd.func26, Tryd.ntmps26
  go_wp2_with fail
  have F0 : Hid (DW w (.slice ao a.length ca) (.slice bo b.length cb) (((w.alloc (.cells #[.slice ao a.length ca] 22)).alloc (.cells #[.slice bo b.length cb] 22)).alloc (.cells #[.int .u32 0, .int .i64 0] 25))) := Below.refl _ _
  generalize ((w.alloc (.cells #[.slice ao a.length ca] 22)).alloc (.cells #[.slice bo b.length cb] 22)).alloc (.cells #[.int .u32 0, .int .i64 0] 25) = W0 at F0 ⊢
  refine (pmay_is ao ca a 0 HZ.out _ (Ad.slotR_below HRA.out (dw_lo F0.out)) HFA.out).mono ?_
  rintro e w1 ⟨rfl, hb1⟩
  have F1 := hide (dw_then F0.out hb1)
  clear hb1 F0
  have gb := dw_b F1.out
  go_wp2_with fail
  refine (pmay_is bo cb b x hx.out _ (Ad.slotR_below HRB.out (dw_lo F1.out)) HFB.out).mono ?_
  rintro e w2 ⟨rfl, hb2⟩
  have F2 := hide (dw_then F1.out hb2)
  clear hb2 F1 gb
  have r0 := dw_r F2.out 0
  have r1 := dw_r F2.out 1
  have f0 := dw_frozen F2.out 0
  have f1 := dw_frozen F2.out 1
  simp at r0 r1
  go_wp2_with fail
  exact bodyPost_ret (v := Ad.diffV 0 0 false x) (by simp [results, Tryd.results26, go_sem, r0, r1, Ad.diffV]) rfl ⟨rfl, ((dw_lo F2.out).setCell (by simp <;> omega) _).setCell (by simp <;> omega) _⟩

set_option maxHeartbeats 4000000 in
theorem differ_good (ao bo : Option Addr) (ca cb : Nat) (a b : List Ad.R) (w : World) (hRa : Ad.slotR w ao a) (hRb : Ad.slotR w bo b) (hfa : Ad.fitsR a) (hfb : Ad.fitsR b) (hx : Ad.rwhy a = 0) (hy : Ad.rwhy b = 0) :
    Calls Tryd.prog 26 #[.slice ao a.length ca, .slice bo b.length cb] w fun e w' => ∃ c k f, e = .returned (Ad.diffV c k f 0) ∧ Ad.Least (fun x d => Ad.ps a x d != Ad.ps b x d) c k f ∧ Below w.heap.size w w' := by
  have HRA := hide hRa
  have HRB := hide hRb
  have HFA := hide hfa
  have HFB := hide hfb
  have HX := hide hx
  have HY := hide hy
  clear hRa hRb hfa hfb hx hy
  go_enter Tryd.func26, Tryd.ntmps26
  go_wp2_with fail
  have F0 : Hid (DW w (.slice ao a.length ca) (.slice bo b.length cb) (((w.alloc (.cells #[.slice ao a.length ca] 22)).alloc (.cells #[.slice bo b.length cb] 22)).alloc (.cells #[.int .u32 0, .int .i64 0] 25))) := Below.refl _ _
  generalize ((w.alloc (.cells #[.slice ao a.length ca] 22)).alloc (.cells #[.slice bo b.length cb] 22)).alloc (.cells #[.int .u32 0, .int .i64 0] 25) = W0 at F0 ⊢
  refine (pmay_is ao ca a 0 HX.out _ (Ad.slotR_below HRA.out (dw_lo F0.out)) HFA.out).mono ?_
  rintro e w1 ⟨rfl, hb1⟩
  have F1 := hide (dw_then F0.out hb1)
  clear hb1 F0
  have gb := dw_b F1.out
  go_wp2_with fail
  refine (pmay_is bo cb b 0 HY.out _ (Ad.slotR_below HRB.out (dw_lo F1.out)) HFB.out).mono ?_
  rintro e w2 ⟨rfl, hb2⟩
  have F2 := hide (dw_then F1.out hb2)
  clear hb2 F1 gb
  have ga := dw_a F2.out
  have gb := dw_b F2.out
  go_wp2_with fail
  have H16a := hide (Ad.rwhy_len a HX.out)
  have H16b := hide (Ad.rwhy_len b HY.out)
  refine (lay_two w2.heap.size ao bo ca cb a b _ (cell_of_row _ _ 0 _ 22 (0, 0) (heap_alloc_last w2 _)) (cell_of_row _ _ 1 _ 22 (0, 0) (heap_alloc_last w2 _)) (Ad.slotR_below HRA.out (dw_lo (dw_alloc F2.out _))) (Ad.slotR_below HRB.out (dw_lo (dw_alloc F2.out _))) HFA.out HFB.out H16a.out H16b.out).mono ?_
  rintro e w3 ⟨S, C, hgr, rfl, hb3⟩
  have F3 := hide (dw_then (dw_alloc F2.out _) hb3)
  have HGR := hide hgr
  clear hb3 hgr ga gb
  have CP := hide (first_least (a ++ b) (fun r hr => (List.mem_append.1 hr).elim (Ad.rwhy_all a HX.out r) (Ad.rwhy_all b HY.out r)) (fun r hr => (List.mem_append.1 hr).elim (HFA.out r) (HFB.out r)) S C HGR.out 41 #[.pointer (some ⟨w.heap.size, 0, none⟩), .pointer (some ⟨w.heap.size + 1, 0, none⟩)] (fun x d => Ad.ps a x d != Ad.ps b x d) w3
    (fun x c d h => by
      show (Ad.ps a c d != Ad.ps b c d) = (Ad.ps a x d != Ad.ps b x d)
      rw [Ad.ps_col a x c d fun r hr => h r (List.mem_append_left _ hr), Ad.ps_col b x c d fun r hr => h r (List.mem_append_right _ hr)])
    (enters_of Tryd.func41 (by kernel_rfl) rfl)
    (fun W c k hW hc hc2 => clo41 ao bo ca cb a b c k w.heap.size (w.heap.size + 1) W (dw_a (dw_then F3.out hW)) (dw_b (dw_then F3.out hW)) (Ad.slotR_below HRA.out (dw_lo (dw_then F3.out hW))) (Ad.slotR_below HRB.out (dw_lo (dw_then F3.out hW))) HFA.out HFB.out (by have := H16a.out; omega) (by have := H16b.out; omega) hc hc2))
  generalize (gridV S C).toArray = V at CP ⊢
  go_wp2_with fail
  refine CP.out.mono ?_
  rintro e w4 ⟨c, k, f, rfl, hle, hb4⟩
  have F4 := hide (dw_then F3.out hb4)
  have HLE := hide hle
  clear hb4 hle
  have hsz := dw_size F4.out
  have hne : w.heap.size + 1 + 1 ≠ w4.heap.size := by omega
  have r0 := dw_r F4.out 0
  have r1 := dw_r F4.out 1
  have f0 := dw_frozen F4.out 0
  have f1 := dw_frozen F4.out 1
  have g0 := dw_frozen (dw_alloc F4.out (.cells #[.int .u32 c, .int .i64 k] 25)) 0
  have g1 := dw_frozen (dw_alloc F4.out (.cells #[.int .u32 c, .int .i64 k] 25)) 1
  have hlt : w.heap.size + 1 + 1 < w4.heap.size := by omega
  simp at r0 r1
  go_wp2_with fail
  have q0 : (((w4.setCell ⟨w.heap.size + 1 + 1, 0, none⟩ (.int .u32 c)).setCell ⟨w.heap.size + 1 + 1, 1, none⟩ (.int .i64 k)).alloc (.cells #[.int .u32 c, .int .i64 k] 25)).cell? ⟨w.heap.size + 1 + 1, 0, none⟩ = some (.int .u32 c) := by
    rw [World.cell?_alloc_past _ _ _ (by simp; omega), World.cell?_setCell_other _ _ _ _ (by simp), World.cell?_setCell_same _ _ _ r0]
  have q1 : (((w4.setCell ⟨w.heap.size + 1 + 1, 0, none⟩ (.int .u32 c)).setCell ⟨w.heap.size + 1 + 1, 1, none⟩ (.int .i64 k)).alloc (.cells #[.int .u32 c, .int .i64 k] 25)).cell? ⟨w.heap.size + 1 + 1, 1, none⟩ = some (.int .i64 k) := by
    rw [World.cell?_alloc_past _ _ _ (by simp; omega), World.cell?_setCell_same _ _ _ (show _ = some (.int .i64 0) by rw [World.cell?_setCell_other _ _ _ _ (by simp)]; exact r1)]
  have HB : Hid (Below w.heap.size w (((w4.setCell ⟨w.heap.size + 1 + 1, 0, none⟩ (.int .u32 c)).setCell ⟨w.heap.size + 1 + 1, 1, none⟩ (.int .i64 k)).alloc (.cells #[.int .u32 c, .int .i64 k] 25))) := balloc (((dw_lo F4.out).setCell (by simp <;> omega) _).setCell (by simp <;> omega) _) _
  generalize ((w4.setCell ⟨w.heap.size + 1 + 1, 0, none⟩ (.int .u32 c)).setCell ⟨w.heap.size + 1 + 1, 1, none⟩ (.int .i64 k)).alloc (.cells #[.int .u32 c, .int .i64 k] 25) = W9 at q0 q1 HB ⊢
  exact bodyPost_ret (v := Ad.diffV c k f 0) (by simp [results, Tryd.results26, go_sem, q0, q1, Ad.diffV]) rfl ⟨c, k, f, rfl, HLE.out, HB.out⟩
end Go.Proofs.YtkpoanjcalolkaaDoor
