/- show's writer: neighbor. -/
import Derived.Test.YtpmmhmgojjlniaaGreatDoorQ01
import Derived.Test.YtpmmhmgojjlniaaGreatDoorQ33
namespace Go.Proofs.YtpmmhmgojjlniaaGreatDoor
open Go.RowKit Go.Sort
theorem not_nil {s : ByteArray} (h : ¬ s = ⟨#[]⟩) : (s.toList == []) = false := by
  rw [beq_eq_false_iff_ne]
  intro e
  refine h (ByteArray.ext (Array.ext' ?_))
  rw [ByteArray.toList_eq] at e
  exact e
theorem nil_is : ((⟨#[]⟩ : ByteArray).toList == []) = true := by rw [ByteArray.toList_eq]; rfl
/-- A neighbor's words. -/
def nbT (n : Nb) : List ByteArray := [⟨#[110, 101, 105, 103, 104, 98, 111, 114]⟩, n.name] ++ (if n.imp = ⟨#[]⟩ then [] else [⟨#[105, 109, 112, 111, 114, 116]⟩, n.imp]) ++ (if n.exp = ⟨#[]⟩ then [] else [⟨#[101, 120, 112, 111, 114, 116]⟩, n.exp]) ++ (if n.client = true then [⟨#[99, 108, 105, 101, 110, 116]⟩] else [])
def nbB (d : Nat) (n : Nb) : List UInt8 := lineB d (sayT (nbT n))
set_option maxHeartbeats 8000000 in
set_option maxRecDepth 100000 in
theorem neighbor_is (B b : Nat) (l : List UInt8) (d : Nat) (n : Nb) (w : World) (h : IsWr B b (Lib.byteCells l) d w) (hz : l.length + d + (sayT (nbT n)).size + 1 ≤ 1000000000) (hBw : B ≤ w.heap.size) :
    Calls Tryz.prog 138 #[.pointer (some ⟨b, 0, none⟩), .agg #[.string n.name, .string n.imp, .string n.exp, .bool n.client]] w fun e w' => e = .returned (.tuple #[]) ∧ IsWr B b (Lib.byteCells (l ++ nbB d n)) d w' ∧ Below B w w' ∧ KeptB b w w' := by
  obtain ⟨name, imp, exp, cl⟩ := n
  unfold nbB
  simp only at hz ⊢
  have A1 := hide (balloc (brefl w) (.cells #[.string name, .string imp, .string exp, .bool cl] 68))
  have N1 := hide (heap_new w #[.string name, .string imp, .string exp, .bool cl] 68)
  have HI := hide (h.below A1.out)
  have hBW : B ≤ (w.alloc (.cells #[.string name, .string imp, .string exp, .bool cl] 68)).heap.size := Nat.le_trans hBw A1.out.size
  have hbx0 : w.heap.size < (w.alloc (.cells #[.string name, .string imp, .string exp, .bool cl] 68)).heap.size := by rw [size_alloc]; omega
  clear h
  go_enter Tryz.func138, Tryz.ntmps138
  go_upto_region 1 with fail
  obtain ⟨bx, hbx⟩ : ∃ x, w.heap.size = x := ⟨_, rfl⟩
  rw [hbx] at N1 ⊢
  have hbx1 := hbx0
  rw [hbx] at hbx1
  clear hbx0
  generalize w.alloc (.cells #[.string name, .string imp, .string exp, .bool cl] 68) = W1 at *
  have m0 := cell_of N1.out 0 rfl
  go_upto_region 2 with fail
  have B1 := hide (balloc (brefl W1) (.cells #[.string ⟨#[110, 101, 105, 103, 104, 98, 111, 114]⟩, .string name] 9))
  have O1 := hide (owns_new W1 [.string ⟨#[110, 101, 105, 103, 104, 98, 111, 114]⟩, .string name] W1.heap.size (Nat.le_refl _) (by simp))
  clear m0
  generalize hw1 : W1.alloc (.cells #[.string ⟨#[110, 101, 105, 103, 104, 98, 111, 114]⟩, .string name] 9) = w1 at *
  clear hw1
  have m1 := cell_of ((B1.out.block bx hbx1).trans N1.out) 1 rfl
  have m2 := cell_of ((B1.out.block bx hbx1).trans N1.out) 2 rfl
  have m3 := cell_of ((B1.out.block bx hbx1).trans N1.out) 3 rfl
  by_cases himp : imp = ⟨#[]⟩
  · have dimp : (imp.toList == []) = true := by rw [himp]; exact nil_is
    by_cases hexp : exp = ⟨#[]⟩
    · have dexp : (exp.toList == []) = true := by rw [hexp]; exact nil_is
      cases cl with
      | false =>
        have HT : Hid (nbT ⟨name, imp, exp, false⟩ = [⟨#[110, 101, 105, 103, 104, 98, 111, 114]⟩, name]) := by show _ = _; unfold nbT; simp [himp, hexp]
        have C := hide (sayOwn [⟨#[110, 101, 105, 103, 104, 98, 111, 114]⟩, name] B b l d _ _ W1.heap.size w1 (HI.out.below B1.out) (by simp) (by simp) (by rw [← HT.out]; exact hz) (Nat.le_trans hBW B1.out.size) O1.out)
        generalize hLB : lineB d (sayT [⟨#[110, 101, 105, 103, 104, 98, 111, 114]⟩, name]) = LB at C
        have HLB := hide hLB
        have B9 := hide ((below_less A1.out hBw).trans (below_less B1.out hBW))
        have K9 := hide (((KeptB.refl b w).below A1.out).below B1.out)
        clear hz hLB
        go_wp2_with fail
        refine Calls.mono (P := Tryz.prog) (f := 131) C.out ?_
        rintro e w2 ⟨rfl, h2, hb2, hk2⟩
        have B10 := hide (B9.out.trans hb2)
        have K10 := hide (K9.out.trans hk2)
        have W10 := hide h2
        clear h2 hb2 hk2 C
        go_wp2_with fail
        first | go_end0 | refine bodyPost_ret (results_none rfl _ _ _) rfl ?_
        exact ⟨rfl, by rw [HT.out, HLB.out]; exact W10.out, B10.out, K10.out⟩
      | true =>
        have m1 := cell_of ((B1.out.block bx hbx1).trans N1.out) 1 rfl
        have m2 := cell_of ((B1.out.block bx hbx1).trans N1.out) 2 rfl
        have m3 := cell_of ((B1.out.block bx hbx1).trans N1.out) 3 rfl
        go_wp2_with (at_builtin; go_must (refine append_str1 (w0 := W1) rfl _ _ rfl _ 2 _ rfl (O1.out.alloc _) w1.heap.size 1 ⟨#[99, 108, 105, 101, 110, 116]⟩ rfl ?h0 (by omega) (balloc B1.out _) ?_))
        case h0 => simp
        intro v4 w4 hnew hb4
        obtain ⟨no, nc, rfl⟩ := Ar.row_slice hnew
        have O4 := hide hnew
        have B4 := hide hb4
        clear hnew hb4 m1 m2 m3
        have m1 := cell_of ((B4.out.block bx hbx1).trans N1.out) 1 rfl
        have m2 := cell_of ((B4.out.block bx hbx1).trans N1.out) 2 rfl
        have m3 := cell_of ((B4.out.block bx hbx1).trans N1.out) 3 rfl
        have HT : Hid (nbT ⟨name, imp, exp, true⟩ = [⟨#[110, 101, 105, 103, 104, 98, 111, 114]⟩, name, ⟨#[99, 108, 105, 101, 110, 116]⟩]) := by show _ = _; unfold nbT; simp [himp, hexp]
        have C := hide (sayOwn [⟨#[110, 101, 105, 103, 104, 98, 111, 114]⟩, name, ⟨#[99, 108, 105, 101, 110, 116]⟩] B b l d _ _ W1.heap.size w4 (HI.out.below B4.out) (by simp) (by simp) (by rw [← HT.out]; exact hz) (Nat.le_trans hBW B4.out.size) O4.out)
        generalize hLB : lineB d (sayT [⟨#[110, 101, 105, 103, 104, 98, 111, 114]⟩, name, ⟨#[99, 108, 105, 101, 110, 116]⟩]) = LB at C
        have HLB := hide hLB
        have B9 := hide ((below_less A1.out hBw).trans (below_less B4.out hBW))
        have K9 := hide (((KeptB.refl b w).below A1.out).below B4.out)
        clear hz hLB
        go_wp2_with fail
        refine Calls.mono (P := Tryz.prog) (f := 131) C.out ?_
        rintro e w2 ⟨rfl, h2, hb2, hk2⟩
        have B10 := hide (B9.out.trans hb2)
        have K10 := hide (K9.out.trans hk2)
        have W10 := hide h2
        clear h2 hb2 hk2 C
        go_wp2_with fail
        first | go_end0 | refine bodyPost_ret (results_none rfl _ _ _) rfl ?_
        exact ⟨rfl, by rw [HT.out, HLB.out]; exact W10.out, B10.out, K10.out⟩
    · have dexp : (exp.toList == []) = false := not_nil hexp
      have m1 := cell_of ((B1.out.block bx hbx1).trans N1.out) 1 rfl
      have m2 := cell_of ((B1.out.block bx hbx1).trans N1.out) 2 rfl
      have m3 := cell_of ((B1.out.block bx hbx1).trans N1.out) 3 rfl
      go_wp2_with (at_builtin; go_must (refine append_str2 (w0 := W1) rfl _ _ rfl _ 2 _ rfl (O1.out.alloc _) w1.heap.size 2 ⟨#[101, 120, 112, 111, 114, 116]⟩ exp rfl ?h0 ?h1 (by omega) (balloc B1.out _) ?_))
      case h0 => simp
      case h1 => simp
      intro v3 w3 hnew hb4
      obtain ⟨no, nc, rfl⟩ := Ar.row_slice hnew
      have O3 := hide hnew
      have B3 := hide hb4
      clear hnew hb4 m1 m2 m3
      have m1 := cell_of ((B3.out.block bx hbx1).trans N1.out) 1 rfl
      have m2 := cell_of ((B3.out.block bx hbx1).trans N1.out) 2 rfl
      have m3 := cell_of ((B3.out.block bx hbx1).trans N1.out) 3 rfl
      cases cl with
      | false =>
        have HT : Hid (nbT ⟨name, imp, exp, false⟩ = [⟨#[110, 101, 105, 103, 104, 98, 111, 114]⟩, name, ⟨#[101, 120, 112, 111, 114, 116]⟩, exp]) := by show _ = _; unfold nbT; simp [himp, hexp]
        have C := hide (sayOwn [⟨#[110, 101, 105, 103, 104, 98, 111, 114]⟩, name, ⟨#[101, 120, 112, 111, 114, 116]⟩, exp] B b l d _ _ W1.heap.size w3 (HI.out.below B3.out) (by simp) (by simp) (by rw [← HT.out]; exact hz) (Nat.le_trans hBW B3.out.size) O3.out)
        generalize hLB : lineB d (sayT [⟨#[110, 101, 105, 103, 104, 98, 111, 114]⟩, name, ⟨#[101, 120, 112, 111, 114, 116]⟩, exp]) = LB at C
        have HLB := hide hLB
        have B9 := hide ((below_less A1.out hBw).trans (below_less B3.out hBW))
        have K9 := hide (((KeptB.refl b w).below A1.out).below B3.out)
        clear hz hLB
        go_wp2_with fail
        refine Calls.mono (P := Tryz.prog) (f := 131) C.out ?_
        rintro e w2 ⟨rfl, h2, hb2, hk2⟩
        have B10 := hide (B9.out.trans hb2)
        have K10 := hide (K9.out.trans hk2)
        have W10 := hide h2
        clear h2 hb2 hk2 C
        go_wp2_with fail
        first | go_end0 | refine bodyPost_ret (results_none rfl _ _ _) rfl ?_
        exact ⟨rfl, by rw [HT.out, HLB.out]; exact W10.out, B10.out, K10.out⟩
      | true =>
        have m1 := cell_of ((B3.out.block bx hbx1).trans N1.out) 1 rfl
        have m2 := cell_of ((B3.out.block bx hbx1).trans N1.out) 2 rfl
        have m3 := cell_of ((B3.out.block bx hbx1).trans N1.out) 3 rfl
        go_wp2_with (at_builtin; go_must (refine append_str1 (w0 := W1) rfl _ _ rfl _ 4 _ rfl (O3.out.alloc _) w3.heap.size 1 ⟨#[99, 108, 105, 101, 110, 116]⟩ rfl ?h0 (by omega) (balloc B3.out _) ?_))
        case h0 => simp
        intro v4 w4 hnew hb4
        obtain ⟨no, nc, rfl⟩ := Ar.row_slice hnew
        have O4 := hide hnew
        have B4 := hide hb4
        clear hnew hb4 m1 m2 m3
        have m1 := cell_of ((B4.out.block bx hbx1).trans N1.out) 1 rfl
        have m2 := cell_of ((B4.out.block bx hbx1).trans N1.out) 2 rfl
        have m3 := cell_of ((B4.out.block bx hbx1).trans N1.out) 3 rfl
        have HT : Hid (nbT ⟨name, imp, exp, true⟩ = [⟨#[110, 101, 105, 103, 104, 98, 111, 114]⟩, name, ⟨#[101, 120, 112, 111, 114, 116]⟩, exp, ⟨#[99, 108, 105, 101, 110, 116]⟩]) := by show _ = _; unfold nbT; simp [himp, hexp]
        have C := hide (sayOwn [⟨#[110, 101, 105, 103, 104, 98, 111, 114]⟩, name, ⟨#[101, 120, 112, 111, 114, 116]⟩, exp, ⟨#[99, 108, 105, 101, 110, 116]⟩] B b l d _ _ W1.heap.size w4 (HI.out.below B4.out) (by simp) (by simp) (by rw [← HT.out]; exact hz) (Nat.le_trans hBW B4.out.size) O4.out)
        generalize hLB : lineB d (sayT [⟨#[110, 101, 105, 103, 104, 98, 111, 114]⟩, name, ⟨#[101, 120, 112, 111, 114, 116]⟩, exp, ⟨#[99, 108, 105, 101, 110, 116]⟩]) = LB at C
        have HLB := hide hLB
        have B9 := hide ((below_less A1.out hBw).trans (below_less B4.out hBW))
        have K9 := hide (((KeptB.refl b w).below A1.out).below B4.out)
        clear hz hLB
        go_wp2_with fail
        refine Calls.mono (P := Tryz.prog) (f := 131) C.out ?_
        rintro e w2 ⟨rfl, h2, hb2, hk2⟩
        have B10 := hide (B9.out.trans hb2)
        have K10 := hide (K9.out.trans hk2)
        have W10 := hide h2
        clear h2 hb2 hk2 C
        go_wp2_with fail
        first | go_end0 | refine bodyPost_ret (results_none rfl _ _ _) rfl ?_
        exact ⟨rfl, by rw [HT.out, HLB.out]; exact W10.out, B10.out, K10.out⟩
  · have dimp : (imp.toList == []) = false := not_nil himp
    have m1 := cell_of ((B1.out.block bx hbx1).trans N1.out) 1 rfl
    have m2 := cell_of ((B1.out.block bx hbx1).trans N1.out) 2 rfl
    have m3 := cell_of ((B1.out.block bx hbx1).trans N1.out) 3 rfl
    go_wp2_with (at_builtin; go_must (refine append_str2 (w0 := W1) rfl _ _ rfl _ 2 _ rfl (O1.out.alloc _) w1.heap.size 2 ⟨#[105, 109, 112, 111, 114, 116]⟩ imp rfl ?h0 ?h1 (by omega) (balloc B1.out _) ?_))
    case h0 => simp
    case h1 => simp
    intro v2 w2 hnew hb4
    obtain ⟨no, nc, rfl⟩ := Ar.row_slice hnew
    have O2 := hide hnew
    have B2 := hide hb4
    clear hnew hb4 m1 m2 m3
    have m1 := cell_of ((B2.out.block bx hbx1).trans N1.out) 1 rfl
    have m2 := cell_of ((B2.out.block bx hbx1).trans N1.out) 2 rfl
    have m3 := cell_of ((B2.out.block bx hbx1).trans N1.out) 3 rfl
    by_cases hexp : exp = ⟨#[]⟩
    · have dexp : (exp.toList == []) = true := by rw [hexp]; exact nil_is
      cases cl with
      | false =>
        have HT : Hid (nbT ⟨name, imp, exp, false⟩ = [⟨#[110, 101, 105, 103, 104, 98, 111, 114]⟩, name, ⟨#[105, 109, 112, 111, 114, 116]⟩, imp]) := by show _ = _; unfold nbT; simp [himp, hexp]
        have C := hide (sayOwn [⟨#[110, 101, 105, 103, 104, 98, 111, 114]⟩, name, ⟨#[105, 109, 112, 111, 114, 116]⟩, imp] B b l d _ _ W1.heap.size w2 (HI.out.below B2.out) (by simp) (by simp) (by rw [← HT.out]; exact hz) (Nat.le_trans hBW B2.out.size) O2.out)
        generalize hLB : lineB d (sayT [⟨#[110, 101, 105, 103, 104, 98, 111, 114]⟩, name, ⟨#[105, 109, 112, 111, 114, 116]⟩, imp]) = LB at C
        have HLB := hide hLB
        have B9 := hide ((below_less A1.out hBw).trans (below_less B2.out hBW))
        have K9 := hide (((KeptB.refl b w).below A1.out).below B2.out)
        clear hz hLB
        go_wp2_with fail
        refine Calls.mono (P := Tryz.prog) (f := 131) C.out ?_
        rintro e w2 ⟨rfl, h2, hb2, hk2⟩
        have B10 := hide (B9.out.trans hb2)
        have K10 := hide (K9.out.trans hk2)
        have W10 := hide h2
        clear h2 hb2 hk2 C
        go_wp2_with fail
        first | go_end0 | refine bodyPost_ret (results_none rfl _ _ _) rfl ?_
        exact ⟨rfl, by rw [HT.out, HLB.out]; exact W10.out, B10.out, K10.out⟩
      | true =>
        have m1 := cell_of ((B2.out.block bx hbx1).trans N1.out) 1 rfl
        have m2 := cell_of ((B2.out.block bx hbx1).trans N1.out) 2 rfl
        have m3 := cell_of ((B2.out.block bx hbx1).trans N1.out) 3 rfl
        go_wp2_with (at_builtin; go_must (refine append_str1 (w0 := W1) rfl _ _ rfl _ 4 _ rfl (O2.out.alloc _) w2.heap.size 1 ⟨#[99, 108, 105, 101, 110, 116]⟩ rfl ?h0 (by omega) (balloc B2.out _) ?_))
        case h0 => simp
        intro v4 w4 hnew hb4
        obtain ⟨no, nc, rfl⟩ := Ar.row_slice hnew
        have O4 := hide hnew
        have B4 := hide hb4
        clear hnew hb4 m1 m2 m3
        have m1 := cell_of ((B4.out.block bx hbx1).trans N1.out) 1 rfl
        have m2 := cell_of ((B4.out.block bx hbx1).trans N1.out) 2 rfl
        have m3 := cell_of ((B4.out.block bx hbx1).trans N1.out) 3 rfl
        have HT : Hid (nbT ⟨name, imp, exp, true⟩ = [⟨#[110, 101, 105, 103, 104, 98, 111, 114]⟩, name, ⟨#[105, 109, 112, 111, 114, 116]⟩, imp, ⟨#[99, 108, 105, 101, 110, 116]⟩]) := by show _ = _; unfold nbT; simp [himp, hexp]
        have C := hide (sayOwn [⟨#[110, 101, 105, 103, 104, 98, 111, 114]⟩, name, ⟨#[105, 109, 112, 111, 114, 116]⟩, imp, ⟨#[99, 108, 105, 101, 110, 116]⟩] B b l d _ _ W1.heap.size w4 (HI.out.below B4.out) (by simp) (by simp) (by rw [← HT.out]; exact hz) (Nat.le_trans hBW B4.out.size) O4.out)
        generalize hLB : lineB d (sayT [⟨#[110, 101, 105, 103, 104, 98, 111, 114]⟩, name, ⟨#[105, 109, 112, 111, 114, 116]⟩, imp, ⟨#[99, 108, 105, 101, 110, 116]⟩]) = LB at C
        have HLB := hide hLB
        have B9 := hide ((below_less A1.out hBw).trans (below_less B4.out hBW))
        have K9 := hide (((KeptB.refl b w).below A1.out).below B4.out)
        clear hz hLB
        go_wp2_with fail
        refine Calls.mono (P := Tryz.prog) (f := 131) C.out ?_
        rintro e w2 ⟨rfl, h2, hb2, hk2⟩
        have B10 := hide (B9.out.trans hb2)
        have K10 := hide (K9.out.trans hk2)
        have W10 := hide h2
        clear h2 hb2 hk2 C
        go_wp2_with fail
        first | go_end0 | refine bodyPost_ret (results_none rfl _ _ _) rfl ?_
        exact ⟨rfl, by rw [HT.out, HLB.out]; exact W10.out, B10.out, K10.out⟩
    · have dexp : (exp.toList == []) = false := not_nil hexp
      have m1 := cell_of ((B2.out.block bx hbx1).trans N1.out) 1 rfl
      have m2 := cell_of ((B2.out.block bx hbx1).trans N1.out) 2 rfl
      have m3 := cell_of ((B2.out.block bx hbx1).trans N1.out) 3 rfl
      go_wp2_with (at_builtin; go_must (refine append_str2 (w0 := W1) rfl _ _ rfl _ 4 _ rfl (O2.out.alloc _) w2.heap.size 2 ⟨#[101, 120, 112, 111, 114, 116]⟩ exp rfl ?h0 ?h1 (by omega) (balloc B2.out _) ?_))
      case h0 => simp
      case h1 => simp
      intro v3 w3 hnew hb4
      obtain ⟨no, nc, rfl⟩ := Ar.row_slice hnew
      have O3 := hide hnew
      have B3 := hide hb4
      clear hnew hb4 m1 m2 m3
      have m1 := cell_of ((B3.out.block bx hbx1).trans N1.out) 1 rfl
      have m2 := cell_of ((B3.out.block bx hbx1).trans N1.out) 2 rfl
      have m3 := cell_of ((B3.out.block bx hbx1).trans N1.out) 3 rfl
      cases cl with
      | false =>
        have HT : Hid (nbT ⟨name, imp, exp, false⟩ = [⟨#[110, 101, 105, 103, 104, 98, 111, 114]⟩, name, ⟨#[105, 109, 112, 111, 114, 116]⟩, imp, ⟨#[101, 120, 112, 111, 114, 116]⟩, exp]) := by show _ = _; unfold nbT; simp [himp, hexp]
        have C := hide (sayOwn [⟨#[110, 101, 105, 103, 104, 98, 111, 114]⟩, name, ⟨#[105, 109, 112, 111, 114, 116]⟩, imp, ⟨#[101, 120, 112, 111, 114, 116]⟩, exp] B b l d _ _ W1.heap.size w3 (HI.out.below B3.out) (by simp) (by simp) (by rw [← HT.out]; exact hz) (Nat.le_trans hBW B3.out.size) O3.out)
        generalize hLB : lineB d (sayT [⟨#[110, 101, 105, 103, 104, 98, 111, 114]⟩, name, ⟨#[105, 109, 112, 111, 114, 116]⟩, imp, ⟨#[101, 120, 112, 111, 114, 116]⟩, exp]) = LB at C
        have HLB := hide hLB
        have B9 := hide ((below_less A1.out hBw).trans (below_less B3.out hBW))
        have K9 := hide (((KeptB.refl b w).below A1.out).below B3.out)
        clear hz hLB
        go_wp2_with fail
        refine Calls.mono (P := Tryz.prog) (f := 131) C.out ?_
        rintro e w2 ⟨rfl, h2, hb2, hk2⟩
        have B10 := hide (B9.out.trans hb2)
        have K10 := hide (K9.out.trans hk2)
        have W10 := hide h2
        clear h2 hb2 hk2 C
        go_wp2_with fail
        first | go_end0 | refine bodyPost_ret (results_none rfl _ _ _) rfl ?_
        exact ⟨rfl, by rw [HT.out, HLB.out]; exact W10.out, B10.out, K10.out⟩
      | true =>
        have m1 := cell_of ((B3.out.block bx hbx1).trans N1.out) 1 rfl
        have m2 := cell_of ((B3.out.block bx hbx1).trans N1.out) 2 rfl
        have m3 := cell_of ((B3.out.block bx hbx1).trans N1.out) 3 rfl
        go_wp2_with (at_builtin; go_must (refine append_str1 (w0 := W1) rfl _ _ rfl _ 6 _ rfl (O3.out.alloc _) w3.heap.size 1 ⟨#[99, 108, 105, 101, 110, 116]⟩ rfl ?h0 (by omega) (balloc B3.out _) ?_))
        case h0 => simp
        intro v4 w4 hnew hb4
        obtain ⟨no, nc, rfl⟩ := Ar.row_slice hnew
        have O4 := hide hnew
        have B4 := hide hb4
        clear hnew hb4 m1 m2 m3
        have m1 := cell_of ((B4.out.block bx hbx1).trans N1.out) 1 rfl
        have m2 := cell_of ((B4.out.block bx hbx1).trans N1.out) 2 rfl
        have m3 := cell_of ((B4.out.block bx hbx1).trans N1.out) 3 rfl
        have HT : Hid (nbT ⟨name, imp, exp, true⟩ = [⟨#[110, 101, 105, 103, 104, 98, 111, 114]⟩, name, ⟨#[105, 109, 112, 111, 114, 116]⟩, imp, ⟨#[101, 120, 112, 111, 114, 116]⟩, exp, ⟨#[99, 108, 105, 101, 110, 116]⟩]) := by show _ = _; unfold nbT; simp [himp, hexp]
        have C := hide (sayOwn [⟨#[110, 101, 105, 103, 104, 98, 111, 114]⟩, name, ⟨#[105, 109, 112, 111, 114, 116]⟩, imp, ⟨#[101, 120, 112, 111, 114, 116]⟩, exp, ⟨#[99, 108, 105, 101, 110, 116]⟩] B b l d _ _ W1.heap.size w4 (HI.out.below B4.out) (by simp) (by simp) (by rw [← HT.out]; exact hz) (Nat.le_trans hBW B4.out.size) O4.out)
        generalize hLB : lineB d (sayT [⟨#[110, 101, 105, 103, 104, 98, 111, 114]⟩, name, ⟨#[105, 109, 112, 111, 114, 116]⟩, imp, ⟨#[101, 120, 112, 111, 114, 116]⟩, exp, ⟨#[99, 108, 105, 101, 110, 116]⟩]) = LB at C
        have HLB := hide hLB
        have B9 := hide ((below_less A1.out hBw).trans (below_less B4.out hBW))
        have K9 := hide (((KeptB.refl b w).below A1.out).below B4.out)
        clear hz hLB
        go_wp2_with fail
        refine Calls.mono (P := Tryz.prog) (f := 131) C.out ?_
        rintro e w2 ⟨rfl, h2, hb2, hk2⟩
        have B10 := hide (B9.out.trans hb2)
        have K10 := hide (K9.out.trans hk2)
        have W10 := hide h2
        clear h2 hb2 hk2 C
        go_wp2_with fail
        first | go_end0 | refine bodyPost_ret (results_none rfl _ _ _) rfl ?_
        exact ⟨rfl, by rw [HT.out, HLB.out]; exact W10.out, B10.out, K10.out⟩
end Go.Proofs.YtpmmhmgojjlniaaGreatDoor
