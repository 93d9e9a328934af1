/- show's writer: neighbor. -/
import Derived.Test.YtpmmhmgojjlniaaGreatDoorO01
import Derived.Test.YtpmmhmgojjlniaaGreatDoorO03
import Derived.Test.YtpmmhmgojjlniaaGreatDoorO24
namespace Go.Proofs.YtpmmhmgojjlniaaGreatDoor
open Go.RowKit Go.Sort

theorem not_nil {s : ByteArray} (h : ¬ s = ⟨#[]⟩) : (s.toList == []) = false := by
  rw [beq_eq_false_iff_ne]
  intro e
  refine h (ByteArray.ext (Array.ext' ?_))
  rw [ByteArray.toList_eq] at e
  exact e
theorem nil_is : ((⟨#[]⟩ : ByteArray).toList == []) = true := by rw [ByteArray.toList_eq]; rfl
/-- A neighbor's words. -/
def nbT (n : Nb) : List ByteArray := [⟨#[110, 101, 105, 103, 104, 98, 111, 114]⟩, n.name] ++ (if n.imp = ⟨#[]⟩ then [] else [⟨#[105, 109, 112, 111, 114, 116]⟩, n.imp]) ++ (if n.exp = ⟨#[]⟩ then [] else [⟨#[101, 120, 112, 111, 114, 116]⟩, n.exp]) ++ (if n.client = true then [⟨#[99, 108, 105, 101, 110, 116]⟩] else [])
def nbB (d : Nat) (n : Nb) : List UInt8 := lineB d (sayT (nbT n))
set_option maxHeartbeats 8000000 in
set_option maxRecDepth 100000 in
theorem neighbor_is (B b : Nat) (l : List UInt8) (d : Nat) (n : Nb) (w : World) (h : IsWr B b (Lib.byteCells l) d w) (hz : l.length + d + (sayT (nbT n)).size + 1 ≤ 1000000000) (hBw : B ≤ w.heap.size) :
    Calls Tryz.prog 138 #[.pointer (some ⟨b, 0, none⟩), .agg #[.string n.name, .string n.imp, .string n.exp, .bool n.client]] w fun e w' => e = .returned (.tuple #[]) ∧ IsWr B b (Lib.byteCells (l ++ nbB d n)) d w' ∧ Below B w w' ∧ KeptB b w w' := by
  obtain ⟨name, imp, exp, cl⟩ := n
  unfold nbB
  simp only at hz ⊢
  have A1 := hide (balloc (brefl w) (.cells #[.string name, .string imp, .string exp, .bool cl] 68))
  have N1 := hide (heap_new w #[.string name, .string imp, .string exp, .bool cl] 68)
  have HI := hide (h.below A1.out)
  have hBW : B ≤ (w.alloc (.cells #[.string name, .string imp, .string exp, .bool cl] 68)).heap.size := Nat.le_trans hBw A1.out.size
  have hbx0 : w.heap.size < (w.alloc (.cells #[.string name, .string imp, .string exp, .bool cl] 68)).heap.size := by rw [size_alloc]; omega
  clear h
  go_enter Tryz.func138, Tryz.ntmps138
  go_upto_region 1 with fail
  obtain ⟨bx, hbx⟩ : ∃ x, w.heap.size = x := ⟨_, rfl⟩
  rw [hbx] at N1 ⊢
  have hbx1 := hbx0
  rw [hbx] at hbx1
  clear hbx0
  generalize w.alloc (.cells #[.string name, .string imp, .string exp, .bool cl] 68) = W1 at *
  have m0 := cell_of N1.out 0 rfl
  go_upto_region 2 with fail
  have B1 := hide (balloc (brefl W1) (.cells #[.string ⟨#[110, 101, 105, 103, 104, 98, 111, 114]⟩, .string name] 9))
  have O1 := hide (owns_new W1 [.string ⟨#[110, 101, 105, 103, 104, 98, 111, 114]⟩, .string name] W1.heap.size (Nat.le_refl _) (by simp))
  clear m0
  generalize hw1 : W1.alloc (.cells #[.string ⟨#[110, 101, 105, 103, 104, 98, 111, 114]⟩, .string name] 9) = w1 at *
  clear hw1
  have m1 := cell_of ((B1.out.block bx hbx1).trans N1.out) 1 rfl
  have m2 := cell_of ((B1.out.block bx hbx1).trans N1.out) 2 rfl
  have m3 := cell_of ((B1.out.block bx hbx1).trans N1.out) 3 rfl
  by_cases himp : imp = ⟨#[]⟩
  · have dimp : (imp.toList == []) = true := by rw [himp]; exact nil_is
    by_cases hexp : exp = ⟨#[]⟩
    · have dexp : (exp.toList == []) = true := by rw [hexp]; exact nil_is
      cases cl with
      | false =>
        have HT : Hid (nbT ⟨name, imp, exp, false⟩ = [⟨#[110, 101, 105, 103, 104, 98, 111, 114]⟩, name]) := by show _ = _; unfold nbT; simp [himp, hexp]
        have C := hide (sayOwn [⟨#[110, 101, 105, 103, 104, 98, 111, 114]⟩, name] B b l d _ _ W1.heap.size w1 (HI.out.below B1.out) (by simp) (by simp) (by rw [← HT.out]; exact hz) (Nat.le_trans hBW B1.out.size) O1.out)
        generalize hLB : lineB d (sayT [⟨#[110, 101, 105, 103, 104, 98, 111, 114]⟩, name]) = LB at C
        have HLB := hide hLB
        have B9 := hide ((below_less A1.out hBw).trans (below_less B1.out hBW))
        have K9 := hide (((KeptB.refl b w).below A1.out).below B1.out)
        clear hz hLB
        go_wp2_with fail
        refine Calls.mono (P := Tryz.prog) (f := 131) C.out ?_
        rintro e w2 ⟨rfl, h2, hb2, hk2⟩
        have B10 := hide (B9.out.trans hb2)
        have K10 := hide (K9.out.trans hk2)
        have W10 := hide h2
        clear h2 hb2 hk2 C
        go_wp2_with fail
        first | go_end0 | refine bodyPost_ret (results_none rfl _ _ _) rfl ?_
        exact ⟨rfl, by rw [HT.out, HLB.out]; exact W10.out, B10.out, K10.out⟩
      | true =>
        have m1 := cell_of ((B1.out.block bx hbx1).trans N1.out) 1 rfl
        have m2 := cell_of ((B1.out.block bx hbx1).trans N1.out) 2 rfl
        have m3 := cell_of ((B1.out.block bx hbx1).trans N1.out) 3 rfl
        go_wp2_with (at_builtin; go_must (refine append_str1 (w0 := W1) rfl _ _ rfl _ 2 _ rfl (O1.out.alloc _) w1.heap.size 1 ⟨#[99, 108, 105, 101, 110, 116]⟩ rfl ?h0 (by omega) (balloc B1.out _) ?_))
        case h0 => simp
        intro v4 w4 hnew hb4
        obtain ⟨no, nc, rfl⟩ := Ar.row_slice hnew
        have O4 := hide hnew
        have B4 := hide hb4
        clear hnew hb4 m1 m2 m3
        have m1 := cell_of ((B4.out.block bx hbx1).trans N1.out) 1 rfl
        have m2 := cell_of ((B4.out.block bx hbx1).trans N1.out) 2 rfl
        have m3 := cell_of ((B4.out.block bx hbx1).trans N1.out) 3 rfl
        have HT : Hid (nbT ⟨name, imp, exp, true⟩ = [⟨#[110, 101, 105, 103, 104, 98, 111, 114]⟩, name, ⟨#[99, 108, 105, 101, 110, 116]⟩]) := by show _ = _; unfold nbT; simp [himp, hexp]
        have C := hide (sayOwn [⟨#[110, 101, 105, 103, 104, 98, 111, 114]⟩, name, ⟨#[99, 108, 105, 101, 110, 116]⟩] B b l d _ _ W1.heap.size w4 (HI.out.below B4.out) (by simp) (by simp) (by rw [← HT.out]; exact hz) (Nat.le_trans hBW B4.out.size) O4.out)
        generalize hLB : lineB d (sayT [⟨#[110, 101, 105, 103, 104, 98, 111, 114]⟩, name, ⟨#[99, 108, 105, 101, 110, 116]⟩]) = LB at C
        have HLB := hide hLB
        have B9 := hide ((below_less A1.out hBw).trans (below_less B4.out hBW))
        have K9 := hide (((KeptB.refl b w).below A1.out).below B4.out)
        clear hz hLB
        go_wp2_with fail
        refine Calls.mono (P := Tryz.prog) (f := 131) C.out ?_
        rintro e w2 ⟨rfl, h2, hb2, hk2⟩
        have B10 := hide (B9.out.trans hb2)
        have K10 := hide (K9.out.trans hk2)
        have W10 := hide h2
        clear h2 hb2 hk2 C
        go_wp2_with fail
        first | go_end0 | refine bodyPost_ret (results_none rfl _ _ _) rfl ?_
        exact ⟨rfl, by rw [HT.out, HLB.out]; exact W10.out, B10.out, K10.out⟩
    · have dexp : (exp.toList == []) = false := not_nil hexp
      have m1 := cell_of ((B1.out.block bx hbx1).trans N1.out) 1 rfl
      have m2 := cell_of ((B1.out.block bx hbx1).trans N1.out) 2 rfl
      have m3 := cell_of ((B1.out.block bx hbx1).trans N1.out) 3 rfl
      go_wp2_with (at_builtin; go_must (refine append_str2 (w0 := W1) rfl _ _ rfl _ 2 _ rfl (O1.out.alloc _) w1.heap.size 2 ⟨#[101, 120, 112, 111, 114, 116]⟩ exp rfl ?h0 ?h1 (by omega) (balloc B1.out _) ?_))
      case h0 => simp
      case h1 => simp
      intro v3 w3 hnew hb4
      obtain ⟨no, nc, rfl⟩ := Ar.row_slice hnew
      have O3 := hide hnew
      have B3 := hide hb4
      clear hnew hb4 m1 m2 m3
      have m1 := cell_of ((B3.out.block bx hbx1).trans N1.out) 1 rfl
      have m2 := cell_of ((B3.out.block bx hbx1).trans N1.out) 2 rfl
      have m3 := cell_of ((B3.out.block bx hbx1).trans N1.out) 3 rfl
      cases cl with
      | false =>
        have HT : Hid (nbT ⟨name, imp, exp, false⟩ = [⟨#[110, 101, 105, 103, 104, 98, 111, 114]⟩, name, ⟨#[101, 120, 112, 111, 114, 116]⟩, exp]) := by show _ = _; unfold nbT; simp [himp, hexp]
        have C := hide (sayOwn [⟨#[110, 101, 105, 103, 104, 98, 111, 114]⟩, name, ⟨#[101, 120, 112, 111, 114, 116]⟩, exp] B b l d _ _ W1.heap.size w3 (HI.out.below B3.out) (by simp) (by simp) (by rw [← HT.out]; exact hz) (Nat.le_trans hBW B3.out.size) O3.out)
        generalize hLB : lineB d (sayT [⟨#[110, 101, 105, 103, 104, 98, 111, 114]⟩, name, ⟨#[101, 120, 112, 111, 114, 116]⟩, exp]) = LB at C
        have HLB := hide hLB
        have B9 := hide ((below_less A1.out hBw).trans (below_less B3.out hBW))
        have K9 := hide (((KeptB.refl b w).below A1.out).below B3.out)
        clear hz hLB
        go_wp2_with fail
        refine Calls.mono (P := Tryz.prog) (f := 131) C.out ?_
        rintro e w2 ⟨rfl, h2, hb2, hk2⟩
        have B10 := hide (B9.out.trans hb2)
        have K10 := hide (K9.out.trans hk2)
        have W10 := hide h2
        clear h2 hb2 hk2 C
        go_wp2_with fail
        first | go_end0 | refine bodyPost_ret (results_none rfl _ _ _) rfl ?_
        exact ⟨rfl, by rw [HT.out, HLB.out]; exact W10.out, B10.out, K10.out⟩
      | true =>
        have m1 := cell_of ((B3.out.block bx hbx1).trans N1.out) 1 rfl
        have m2 := cell_of ((B3.out.block bx hbx1).trans N1.out) 2 rfl
        have m3 := cell_of ((B3.out.block bx hbx1).trans N1.out) 3 rfl
        go_wp2_with (at_builtin; go_must (refine append_str1 (w0 := W1) rfl _ _ rfl _ 4 _ rfl (O3.out.alloc _) w3.heap.size 1 ⟨#[99, 108, 105, 101, 110, 116]⟩ rfl ?h0 (by omega) (balloc B3.out _) ?_))
        case h0 => simp
        intro v4 w4 hnew hb4
        obtain ⟨no, nc, rfl⟩ := Ar.row_slice hnew
        have O4 := hide hnew
        have B4 := hide hb4
        clear hnew hb4 m1 m2 m3
        have m1 := cell_of ((B4.out.block bx hbx1).trans N1.out) 1 rfl
        have m2 := cell_of ((B4.out.block bx hbx1).trans N1.out) 2 rfl
        have m3 := cell_of ((B4.out.block bx hbx1).trans N1.out) 3 rfl
        have HT : Hid (nbT ⟨name, imp, exp, true⟩ = [⟨#[110, 101, 105, 103, 104, 98, 111, 114]⟩, name, ⟨#[101, 120, 112, 111, 114, 116]⟩, exp, ⟨#[99, 108, 105, 101, 110, 116]⟩]) := by show _ = _; unfold nbT; simp [himp, hexp]
        have C := hide (sayOwn [⟨#[110, 101, 105, 103, 104, 98, 111, 114]⟩, name, ⟨#[101, 120, 112, 111, 114, 116]⟩, exp, ⟨#[99, 108, 105, 101, 110, 116]⟩] B b l d _ _ W1.heap.size w4 (HI.out.below B4.out) (by simp) (by simp) (by rw [← HT.out]; exact hz) (Nat.le_trans hBW B4.out.size) O4.out)
        generalize hLB : lineB d (sayT [⟨#[110, 101, 105, 103, 104, 98, 111, 114]⟩, name, ⟨#[101, 120, 112, 111, 114, 116]⟩, exp, ⟨#[99, 108, 105, 101, 110, 116]⟩]) = LB at C
        have HLB := hide hLB
        have B9 := hide ((below_less A1.out hBw).trans (below_less B4.out hBW))
        have K9 := hide (((KeptB.refl b w).below A1.out).below B4.out)
        clear hz hLB
        go_wp2_with fail
        refine Calls.mono (P := Tryz.prog) (f := 131) C.out ?_
        rintro e w2 ⟨rfl, h2, hb2, hk2⟩
        have B10 := hide (B9.out.trans hb2)
        have K10 := hide (K9.out.trans hk2)
        have W10 := hide h2
        clear h2 hb2 hk2 C
        go_wp2_with fail
        first | go_end0 | refine bodyPost_ret (results_none rfl _ _ _) rfl ?_
        exact ⟨rfl, by rw [HT.out, HLB.out]; exact W10.out, B10.out, K10.out⟩
  · have dimp : (imp.toList == []) = false := not_nil himp
    have m1 := cell_of ((B1.out.block bx hbx1).trans N1.out) 1 rfl
    have m2 := cell_of ((B1.out.block bx hbx1).trans N1.out) 2 rfl
    have m3 := cell_of ((B1.out.block bx hbx1).trans N1.out) 3 rfl
    go_wp2_with (at_builtin; go_must (refine append_str2 (w0 := W1) rfl _ _ rfl _ 2 _ rfl (O1.out.alloc _) w1.heap.size 2 ⟨#[105, 109, 112, 111, 114, 116]⟩ imp rfl ?h0 ?h1 (by omega) (balloc B1.out _) ?_))
    case h0 => simp
    case h1 => simp
    intro v2 w2 hnew hb4
    obtain ⟨no, nc, rfl⟩ := Ar.row_slice hnew
    have O2 := hide hnew
    have B2 := hide hb4
    clear hnew hb4 m1 m2 m3
    have m1 := cell_of ((B2.out.block bx hbx1).trans N1.out) 1 rfl
    have m2 := cell_of ((B2.out.block bx hbx1).trans N1.out) 2 rfl
    have m3 := cell_of ((B2.out.block bx hbx1).trans N1.out) 3 rfl
    by_cases hexp : exp = ⟨#[]⟩
    · have dexp : (exp.toList == []) = true := by rw [hexp]; exact nil_is
      cases cl with
      | false =>
        have HT : Hid (nbT ⟨name, imp, exp, false⟩ = [⟨#[110, 101, 105, 103, 104, 98, 111, 114]⟩, name, ⟨#[105, 109, 112, 111, 114, 116]⟩, imp]) := by show _ = _; unfold nbT; simp [himp, hexp]
        have C := hide (sayOwn [⟨#[110, 101, 105, 103, 104, 98, 111, 114]⟩, name, ⟨#[105, 109, 112, 111, 114, 116]⟩, imp] B b l d _ _ W1.heap.size w2 (HI.out.below B2.out) (by simp) (by simp) (by rw [← HT.out]; exact hz) (Nat.le_trans hBW B2.out.size) O2.out)
        generalize hLB : lineB d (sayT [⟨#[110, 101, 105, 103, 104, 98, 111, 114]⟩, name, ⟨#[105, 109, 112, 111, 114, 116]⟩, imp]) = LB at C
        have HLB := hide hLB
        have B9 := hide ((below_less A1.out hBw).trans (below_less B2.out hBW))
        have K9 := hide (((KeptB.refl b w).below A1.out).below B2.out)
        clear hz hLB
        go_wp2_with fail
        refine Calls.mono (P := Tryz.prog) (f := 131) C.out ?_
        rintro e w2 ⟨rfl, h2, hb2, hk2⟩
        have B10 := hide (B9.out.trans hb2)
        have K10 := hide (K9.out.trans hk2)
        have W10 := hide h2
        clear h2 hb2 hk2 C
        go_wp2_with fail
        first | go_end0 | refine bodyPost_ret (results_none rfl _ _ _) rfl ?_
        exact ⟨rfl, by rw [HT.out, HLB.out]; exact W10.out, B10.out, K10.out⟩
      | true =>
        have m1 := cell_of ((B2.out.block bx hbx1).trans N1.out) 1 rfl
        have m2 := cell_of ((B2.out.block bx hbx1).trans N1.out) 2 rfl
        have m3 := cell_of ((B2.out.block bx hbx1).trans N1.out) 3 rfl
        go_wp2_with (at_builtin; go_must (refine append_str1 (w0 := W1) rfl _ _ rfl _ 4 _ rfl (O2.out.alloc _) w2.heap.size 1 ⟨#[99, 108, 105, 101, 110, 116]⟩ rfl ?h0 (by omega) (balloc B2.out _) ?_))
        case h0 => simp
        intro v4 w4 hnew hb4
        obtain ⟨no, nc, rfl⟩ := Ar.row_slice hnew
        have O4 := hide hnew
        have B4 := hide hb4
        clear hnew hb4 m1 m2 m3
        have m1 := cell_of ((B4.out.block bx hbx1).trans N1.out) 1 rfl
        have m2 := cell_of ((B4.out.block bx hbx1).trans N1.out) 2 rfl
        have m3 := cell_of ((B4.out.block bx hbx1).trans N1.out) 3 rfl
        have HT : Hid (nbT ⟨name, imp, exp, true⟩ = [⟨#[110, 101, 105, 103, 104, 98, 111, 114]⟩, name, ⟨#[105, 109, 112, 111, 114, 116]⟩, imp, ⟨#[99, 108, 105, 101, 110, 116]⟩]) := by show _ = _; unfold nbT; simp [himp, hexp]
        have C := hide (sayOwn [⟨#[110, 101, 105, 103, 104, 98, 111, 114]⟩, name, ⟨#[105, 109, 112, 111, 114, 116]⟩, imp, ⟨#[99, 108, 105, 101, 110, 116]⟩] B b l d _ _ W1.heap.size w4 (HI.out.below B4.out) (by simp) (by simp) (by rw [← HT.out]; exact hz) (Nat.le_trans hBW B4.out.size) O4.out)
        generalize hLB : lineB d (sayT [⟨#[110, 101, 105, 103, 104, 98, 111, 114]⟩, name, ⟨#[105, 109, 112, 111, 114, 116]⟩, imp, ⟨#[99, 108, 105, 101, 110, 116]⟩]) = LB at C
        have HLB := hide hLB
        have B9 := hide ((below_less A1.out hBw).trans (below_less B4.out hBW))
        have K9 := hide (((KeptB.refl b w).below A1.out).below B4.out)
        clear hz hLB
        go_wp2_with fail
        refine Calls.mono (P := Tryz.prog) (f := 131) C.out ?_
        rintro e w2 ⟨rfl, h2, hb2, hk2⟩
        have B10 := hide (B9.out.trans hb2)
        have K10 := hide (K9.out.trans hk2)
        have W10 := hide h2
        clear h2 hb2 hk2 C
        go_wp2_with fail
        first | go_end0 | refine bodyPost_ret (results_none rfl _ _ _) rfl ?_
        exact ⟨rfl, by rw [HT.out, HLB.out]; exact W10.out, B10.out, K10.out⟩
    · have dexp : (exp.toList == []) = false := not_nil hexp
      have m1 := cell_of ((B2.out.block bx hbx1).trans N1.out) 1 rfl
      have m2 := cell_of ((B2.out.block bx hbx1).trans N1.out) 2 rfl
      have m3 := cell_of ((B2.out.block bx hbx1).trans N1.out) 3 rfl
      go_wp2_with (at_builtin; go_must (refine append_str2 (w0 := W1) rfl _ _ rfl _ 4 _ rfl (O2.out.alloc _) w2.heap.size 2 ⟨#[101, 120, 112, 111, 114, 116]⟩ exp rfl ?h0 ?h1 (by omega) (balloc B2.out _) ?_))
      case h0 => simp
      case h1 => simp
      intro v3 w3 hnew hb4
      obtain ⟨no, nc, rfl⟩ := Ar.row_slice hnew
      have O3 := hide hnew
      have B3 := hide hb4
      clear hnew hb4 m1 m2 m3
      have m1 := cell_of ((B3.out.block bx hbx1).trans N1.out) 1 rfl
      have m2 := cell_of ((B3.out.block bx hbx1).trans N1.out) 2 rfl
      have m3 := cell_of ((B3.out.block bx hbx1).trans N1.out) 3 rfl
      cases cl with
      | false =>
        have HT : Hid (nbT ⟨name, imp, exp, false⟩ = [⟨#[110, 101, 105, 103, 104, 98, 111, 114]⟩, name, ⟨#[105, 109, 112, 111, 114, 116]⟩, imp, ⟨#[101, 120, 112, 111, 114, 116]⟩, exp]) := by show _ = _; unfold nbT; simp [himp, hexp]
        have C := hide (sayOwn [⟨#[110, 101, 105, 103, 104, 98, 111, 114]⟩, name, ⟨#[105, 109, 112, 111, 114, 116]⟩, imp, ⟨#[101, 120, 112, 111, 114, 116]⟩, exp] B b l d _ _ W1.heap.size w3 (HI.out.below B3.out) (by simp) (by simp) (by rw [← HT.out]; exact hz) (Nat.le_trans hBW B3.out.size) O3.out)
        generalize hLB : lineB d (sayT [⟨#[110, 101, 105, 103, 104, 98, 111, 114]⟩, name, ⟨#[105, 109, 112, 111, 114, 116]⟩, imp, ⟨#[101, 120, 112, 111, 114, 116]⟩, exp]) = LB at C
        have HLB := hide hLB
        have B9 := hide ((below_less A1.out hBw).trans (below_less B3.out hBW))
        have K9 := hide (((KeptB.refl b w).below A1.out).below B3.out)
        clear hz hLB
        go_wp2_with fail
        refine Calls.mono (P := Tryz.prog) (f := 131) C.out ?_
        rintro e w2 ⟨rfl, h2, hb2, hk2⟩
        have B10 := hide (B9.out.trans hb2)
        have K10 := hide (K9.out.trans hk2)
        have W10 := hide h2
        clear h2 hb2 hk2 C
        go_wp2_with fail
        first | go_end0 | refine bodyPost_ret (results_none rfl _ _ _) rfl ?_
        exact ⟨rfl, by rw [HT.out, HLB.out]; exact W10.out, B10.out, K10.out⟩
      | true =>
        have m1 := cell_of ((B3.out.block bx hbx1).trans N1.out) 1 rfl
        have m2 := cell_of ((B3.out.block bx hbx1).trans N1.out) 2 rfl
        have m3 := cell_of ((B3.out.block bx hbx1).trans N1.out) 3 rfl
        go_wp2_with (at_builtin; go_must (refine append_str1 (w0 := W1) rfl _ _ rfl _ 6 _ rfl (O3.out.alloc _) w3.heap.size 1 ⟨#[99, 108, 105, 101, 110, 116]⟩ rfl ?h0 (by omega) (balloc B3.out _) ?_))
        case h0 => simp
        intro v4 w4 hnew hb4
        obtain ⟨no, nc, rfl⟩ := Ar.row_slice hnew
        have O4 := hide hnew
        have B4 := hide hb4
        clear hnew hb4 m1 m2 m3
        have m1 := cell_of ((B4.out.block bx hbx1).trans N1.out) 1 rfl
        have m2 := cell_of ((B4.out.block bx hbx1).trans N1.out) 2 rfl
        have m3 := cell_of ((B4.out.block bx hbx1).trans N1.out) 3 rfl
        have HT : Hid (nbT ⟨name, imp, exp, true⟩ = [⟨#[110, 101, 105, 103, 104, 98, 111, 114]⟩, name, ⟨#[105, 109, 112, 111, 114, 116]⟩, imp, ⟨#[101, 120, 112, 111, 114, 116]⟩, exp, ⟨#[99, 108, 105, 101, 110, 116]⟩]) := by show _ = _; unfold nbT; simp [himp, hexp]
        have C := hide (sayOwn [⟨#[110, 101, 105, 103, 104, 98, 111, 114]⟩, name, ⟨#[105, 109, 112, 111, 114, 116]⟩, imp, ⟨#[101, 120, 112, 111, 114, 116]⟩, exp, ⟨#[99, 108, 105, 101, 110, 116]⟩] B b l d _ _ W1.heap.size w4 (HI.out.below B4.out) (by simp) (by simp) (by rw [← HT.out]; exact hz) (Nat.le_trans hBW B4.out.size) O4.out)
        generalize hLB : lineB d (sayT [⟨#[110, 101, 105, 103, 104, 98, 111, 114]⟩, name, ⟨#[105, 109, 112, 111, 114, 116]⟩, imp, ⟨#[101, 120, 112, 111, 114, 116]⟩, exp, ⟨#[99, 108, 105, 101, 110, 116]⟩]) = LB at C
        have HLB := hide hLB
        have B9 := hide ((below_less A1.out hBw).trans (below_less B4.out hBW))
        have K9 := hide (((KeptB.refl b w).below A1.out).below B4.out)
        clear hz hLB
        go_wp2_with fail
        refine Calls.mono (P := Tryz.prog) (f := 131) C.out ?_
        rintro e w2 ⟨rfl, h2, hb2, hk2⟩
        have B10 := hide (B9.out.trans hb2)
        have K10 := hide (K9.out.trans hk2)
        have W10 := hide h2
        clear h2 hb2 hk2 C
        go_wp2_with fail
        first | go_end0 | refine bodyPost_ret (results_none rfl _ _ _) rfl ?_
        exact ⟨rfl, by rw [HT.out, HLB.out]; exact W10.out, B10.out, K10.out⟩
end Go.Proofs.YtpmmhmgojjlniaaGreatDoor
namespace Go.Proofs.YtpmmhmgojjlniaaGreatDoor
open Go.RowKit Go.Sort

set_option maxHeartbeats 2000000 in
set_option maxRecDepth 100000 in
theorem indexComm_is {f : Nat} {caps : Array Value} {G : (Int × Int) → Prop} {p : (Int × Int) → Bool} (v : Value) (l : List (Int × Int)) (w : World) (hf : FnIs w f caps 2 PrR G p) (h : Rd w 2 PrR v l) (hg : ∀ a ∈ l, G a) (hz : l.length ≤ 100000) :
    Calls Tryz.prog 304 #[v, .func (.func f) #[] caps] w fun e w' => ∃ i : Int, e = .returned (.int .i64 i) ∧ AnyIs i (l.any p) ∧ Below w.heap.size w w' := by
  obtain ⟨ao, ca, rfl⟩ := h.slice
  have H := hide h
  have hcf := hf.enter
  have HF := hide (fun W a x hW hx hg => hf.ok W a x hW hx hg)
  have HG := hide hg
  clear h hf hg
  go_enter Tryz.func304, Tryz.ntmps304
  go_wp2_with fail
  go_loopw [8] (fun v8 wr => ∃ k : Nat, v8 = .int .i64 k ∧ k ≤ l.length ∧ Hid ((l.take k).any p = false) ∧ Hid (Below w.heap.size w wr)) (fun v8 _ => l.length - (intOf v8).toNat)
  case atStart => exact ⟨0, rfl, Nat.zero_le _, hide rfl, brefl w⟩
  case round =>
    obtain ⟨k, rfl, hk, HA, HBR⟩ := hrel
    by_cases hkl : k < l.length
    · have hkl' : (k : Int) < (l.length : Int) := by omega
      obtain ⟨b, off, xs, rfl, hbw, hx, ha⟩ := (Rd.below PrR.mono H.out HBR.out).at_ hkl
      obtain ⟨x0, x1, rfl⟩ := list2 hx.len
      have c0 := ha 0 _ rfl
      have c1 := ha 1 _ rfl
      simp only [Nat.add_zero] at c0
      clear ha
      have CP := hide (HF.out wr l[k] (.agg #[x0, x1]) HBR.out ⟨_, hx, rfl, rfl⟩ (HG.out _ (List.getElem_mem hkl)))
      have HT := hide (any_take (p := p) hkl)
      have HAT := hide (any_of_at (p := p) hkl)
      clear hx
      generalize p l[k] = r at *
      cases r with
      | true =>
        have HY := hide (HAT.out rfl)
        clear HT HAT HA
        go_wp2_with (refine CP.out.mono ?_; rintro e w1 ⟨rfl, hb1⟩)
        have B1 := hide (bthen HBR.out hb1)
        clear hb1
        go_ret
        exact ⟨_, rfl, ⟨fun _ => HY.out, fun _ => Int.natCast_nonneg _⟩, B1.out⟩
      | false =>
        have HN : Hid ((l.take (k + 1)).any p = false) := by show _ = _; rw [HT.out, HA.out]; rfl
        clear HT HAT HA
        go_wp2_with (refine CP.out.mono ?_; rintro e w1 ⟨rfl, hb1⟩)
        have B1 := hide (bthen HBR.out hb1)
        clear hb1
        exact ⟨⟨k + 1, by go_num, by omega, HN, B1⟩, by simp [intOf] <;> omega⟩
    · have hkl' : ¬ (k : Int) < (l.length : Int) := by omega
      have HN : Hid (l.any p = false) := by
        have h := HA.out
        rw [List.take_of_length_le (by omega)] at h
        exact h
      clear HA
      go_wp2_with fail
      go_ret
      exact ⟨-1, rfl, ⟨fun h => absurd h (by decide), fun h => by rw [HN.out] at h; cases h⟩, HBR.out⟩
theorem containsComm_is {f : Nat} {caps : Array Value} {G : (Int × Int) → Prop} {p : (Int × Int) → Bool} (v : Value) (l : List (Int × Int)) (w : World) (hf : FnIs w f caps 2 PrR G p) (h : Rd w 2 PrR v l) (hg : ∀ a ∈ l, G a) (hz : l.length ≤ 100000) :
    Calls Tryz.prog 264 #[v, .func (.func f) #[] caps] w fun e w' => e = .returned (.bool (l.any p)) ∧ Below w.heap.size w w' := by
  have C := hide (indexComm_is v l w hf h hg hz)
  obtain ⟨ao, ca, rfl⟩ := h.slice
  clear hf h hg
  go_enter Tryz.func264, Tryz.ntmps264
  go_wp2_with fail
  refine C.out.mono ?_
  rintro e w1 ⟨i, rfl, hi, hb⟩
  go_wp2_with fail
  go_ret
  refine ⟨ret_bool ?_, hb⟩
  by_cases h0 : 0 ≤ i
  · rw [hi.1 h0]; simpa using h0
  · have : l.any p = false := by
      cases ha : l.any p with
      | false => rfl
      | true => exact absurd (hi.2 ha) h0
    rw [this]
    simpa using h0
set_option maxRecDepth 100000 in
theorem notMayComm_is {f : Nat} {caps : Array Value} {G : (Int × Int) → Prop} {p : (Int × Int) → Bool} {W0 : World} {bm : Nat} (hf : FnIs W0 f caps 2 PrR G p) (hm : W0.cell? ⟨bm, 0, none⟩ = some (.func (.func f) #[] caps)) :
    FnIs W0 263 #[.pointer (some ⟨bm, 0, none⟩)] 2 PrR G (fun x => !p x) where
  enter := fun args w => by go_simp
  ok := fun W a x hW hx hga => by
    have hbm := World.block_lt_of_cell? W0 _ hm
    have hxw := hx
    obtain ⟨xs, h1, h2, rfl⟩ := hx
    obtain ⟨x0, x1, rfl⟩ := list2 h2
    have A1 := balloc (brefl W) (.cells #[x0, x1] 53)
    have hm1 := (A1.cell (p := ⟨bm, 0, none⟩) (Nat.lt_of_lt_of_le hbm hW.size)).trans ((hW.cell (p := ⟨bm, 0, none⟩) hbm).trans hm)
    have C := hide (hf.ok (W.alloc (.cells #[x0, x1] 53)) a _ (bthen hW A1) (VR.mono PrR.mono hxw A1) hga)
    have hcf := hf.enter
    have B1 := hide A1
    clear hf hm hW hga hxw h1 h2 A1
    go_enter Tryz.func263, Tryz.ntmps263
    go_wp2_with (refine C.out.mono ?_; rintro e w1 ⟨rfl, hb1⟩)
    have B2 := hide (bthen B1.out hb1)
    clear hb1
    go_ret
    exact ⟨rfl, B2.out⟩
set_option maxRecDepth 100000 in
theorem fewComm_is {f : Nat} {caps : Array Value} {G : (Int × Int) → Prop} {p : (Int × Int) → Bool} (v : Value) (l : List (Int × Int)) (most : Int) (w : World) (hf : FnIs w f caps 2 PrR G p) (h : Rd w 2 PrR v l) (hg : ∀ a ∈ l, G a) (hz : l.length ≤ 100000) :
    Calls Tryz.prog 216 #[v, .int .i64 most, .func (.func f) #[] caps] w fun e w' => e = .returned (.bool (decide ((l.length : Int) ≤ most) && l.all p)) ∧ Below w.heap.size w w' := by
  have A1 := balloc (brefl w) (.cells #[.func (.func f) #[] caps] 126)
  have hm : (w.alloc (.cells #[.func (.func f) #[] caps] 126)).cell? ⟨w.heap.size, 0, none⟩ = some (.func (.func f) #[] caps) := cell_of (heap_new w _ _) 0 rfl
  have C := hide (containsComm_is v l (w.alloc (.cells #[.func (.func f) #[] caps] 126)) (notMayComm_is (hf.from A1) hm) (h.below PrR.mono A1) hg hz)
  have B1 := hide A1
  obtain ⟨ao, ca, rfl⟩ := h.slice
  clear hf h hg A1 hm
  have HQ : Hid (l.all p = !(l.any fun x => !p x)) := by show _ = _; rw [List.not_any_eq_all_not]; simp
  by_cases hl : (l.length : Int) ≤ most
  · go_enter Tryz.func216, Tryz.ntmps216
    go_wp2_with (refine C.out.mono ?_; rintro e w1 ⟨rfl, hb1⟩)
    have B2 := hide (bthen B1.out hb1)
    clear hb1
    go_ret
    refine ⟨ret_bool ?_, B2.out⟩
    rw [decide_eq_true hl, HQ.out]
    rfl
  · have HL := hide hl
    go_enter Tryz.func216, Tryz.ntmps216
    go_wp2_with fail
    go_ret
    refine ⟨ret_bool ?_, B1.out⟩
    rw [decide_eq_false (Int.not_le.2 HL.out)]
    rfl
end Go.Proofs.YtpmmhmgojjlniaaGreatDoor
namespace Go.Proofs.YtpmmhmgojjlniaaGreatDoor
open Go.RowKit Go.Sort

set_option maxHeartbeats 2000000 in
set_option maxRecDepth 100000 in
theorem indexint_is {f : Nat} {caps : Array Value} {G : Int → Prop} {p : Int → Bool} (v : Value) (l : List Int) (w : World) (hf : FnIs w f caps 1 InR G p) (h : Rd w 1 InR v l) (hg : ∀ a ∈ l, G a) (hz : l.length ≤ 100000) :
    Calls Tryz.prog 305 #[v, .func (.func f) #[] caps] w fun e w' => ∃ i : Int, e = .returned (.int .i64 i) ∧ AnyIs i (l.any p) ∧ Below w.heap.size w w' := by
  obtain ⟨ao, ca, rfl⟩ := h.slice
  have H := hide h
  have hcf := hf.enter
  have HF := hide (fun W a x hW hx hg => hf.ok W a x hW hx hg)
  have HG := hide hg
  clear h hf hg
  go_enter Tryz.func305, Tryz.ntmps305
  go_wp2_with fail
  go_loopw [8] (fun v8 wr => ∃ k : Nat, v8 = .int .i64 k ∧ k ≤ l.length ∧ Hid ((l.take k).any p = false) ∧ Hid (Below w.heap.size w wr)) (fun v8 _ => l.length - (intOf v8).toNat)
  case atStart => exact ⟨0, rfl, Nat.zero_le _, hide rfl, brefl w⟩
  case round =>
    obtain ⟨k, rfl, hk, HA, HBR⟩ := hrel
    by_cases hkl : k < l.length
    · have hkl' : (k : Int) < (l.length : Int) := by omega
      obtain ⟨b, off, xs, rfl, hbw, hx, ha⟩ := (Rd.below InR.mono H.out HBR.out).at_ hkl
      obtain ⟨x0, rfl⟩ := list1 hx.len
      have c0 := ha 0 _ rfl
      simp only [Nat.add_zero, Nat.mul_one] at c0
      clear ha
      have CP := hide (HF.out wr l[k] (x0) HBR.out ⟨_, hx, rfl, rfl⟩ (HG.out _ (List.getElem_mem hkl)))
      have HT := hide (any_take (p := p) hkl)
      have HAT := hide (any_of_at (p := p) hkl)
      clear hx
      generalize p l[k] = r at *
      cases r with
      | true =>
        have HY := hide (HAT.out rfl)
        clear HT HAT HA
        go_wp2_with (refine CP.out.mono ?_; rintro e w1 ⟨rfl, hb1⟩)
        have B1 := hide (bthen HBR.out hb1)
        clear hb1
        go_ret
        exact ⟨_, rfl, ⟨fun _ => HY.out, fun _ => Int.natCast_nonneg _⟩, B1.out⟩
      | false =>
        have HN : Hid ((l.take (k + 1)).any p = false) := by show _ = _; rw [HT.out, HA.out]; rfl
        clear HT HAT HA
        go_wp2_with (refine CP.out.mono ?_; rintro e w1 ⟨rfl, hb1⟩)
        have B1 := hide (bthen HBR.out hb1)
        clear hb1
        exact ⟨⟨k + 1, by go_num, by omega, HN, B1⟩, by simp [intOf] <;> omega⟩
    · have hkl' : ¬ (k : Int) < (l.length : Int) := by omega
      have HN : Hid (l.any p = false) := by
        have h := HA.out
        rw [List.take_of_length_le (by omega)] at h
        exact h
      clear HA
      go_wp2_with fail
      go_ret
      exact ⟨-1, rfl, ⟨fun h => absurd h (by decide), fun h => by rw [HN.out] at h; cases h⟩, HBR.out⟩
theorem containsint_is {f : Nat} {caps : Array Value} {G : Int → Prop} {p : Int → Bool} (v : Value) (l : List Int) (w : World) (hf : FnIs w f caps 1 InR G p) (h : Rd w 1 InR v l) (hg : ∀ a ∈ l, G a) (hz : l.length ≤ 100000) :
    Calls Tryz.prog 266 #[v, .func (.func f) #[] caps] w fun e w' => e = .returned (.bool (l.any p)) ∧ Below w.heap.size w w' := by
  have C := hide (indexint_is v l w hf h hg hz)
  obtain ⟨ao, ca, rfl⟩ := h.slice
  clear hf h hg
  go_enter Tryz.func266, Tryz.ntmps266
  go_wp2_with fail
  refine C.out.mono ?_
  rintro e w1 ⟨i, rfl, hi, hb⟩
  go_wp2_with fail
  go_ret
  refine ⟨ret_bool ?_, hb⟩
  by_cases h0 : 0 ≤ i
  · rw [hi.1 h0]; simpa using h0
  · have : l.any p = false := by
      cases ha : l.any p with
      | false => rfl
      | true => exact absurd (hi.2 ha) h0
    rw [this]
    simpa using h0
set_option maxRecDepth 100000 in
theorem notMayint_is {f : Nat} {caps : Array Value} {G : Int → Prop} {p : Int → Bool} {W0 : World} {bm : Nat} (hf : FnIs W0 f caps 1 InR G p) (hm : W0.cell? ⟨bm, 0, none⟩ = some (.func (.func f) #[] caps)) :
    FnIs W0 265 #[.pointer (some ⟨bm, 0, none⟩)] 1 InR G (fun x => !p x) where
  enter := fun args w => by go_simp
  ok := fun W a x hW hx hga => by
    have hbm := World.block_lt_of_cell? W0 _ hm
    have A1 := brefl W
    have hm1 := (hW.cell (p := ⟨bm, 0, none⟩) hbm).trans hm
    have C := hide (hf.ok W a x hW hx hga)
    have hcf := hf.enter
    have B1 := hide A1
    clear hf hm hW hga hx A1
    go_enter Tryz.func265, Tryz.ntmps265
    go_wp2_with (refine C.out.mono ?_; rintro e w1 ⟨rfl, hb1⟩)
    have B2 := hide (bthen B1.out hb1)
    clear hb1
    go_ret
    exact ⟨rfl, B2.out⟩
set_option maxRecDepth 100000 in
theorem fewint_is {f : Nat} {caps : Array Value} {G : Int → Prop} {p : Int → Bool} (v : Value) (l : List Int) (most : Int) (w : World) (hf : FnIs w f caps 1 InR G p) (h : Rd w 1 InR v l) (hg : ∀ a ∈ l, G a) (hz : l.length ≤ 100000) :
    Calls Tryz.prog 217 #[v, .int .i64 most, .func (.func f) #[] caps] w fun e w' => e = .returned (.bool (decide ((l.length : Int) ≤ most) && l.all p)) ∧ Below w.heap.size w w' := by
  have A1 := balloc (brefl w) (.cells #[.func (.func f) #[] caps] 129)
  have hm : (w.alloc (.cells #[.func (.func f) #[] caps] 129)).cell? ⟨w.heap.size, 0, none⟩ = some (.func (.func f) #[] caps) := cell_of (heap_new w _ _) 0 rfl
  have C := hide (containsint_is v l (w.alloc (.cells #[.func (.func f) #[] caps] 129)) (notMayint_is (hf.from A1) hm) (h.below InR.mono A1) hg hz)
  have B1 := hide A1
  obtain ⟨ao, ca, rfl⟩ := h.slice
  clear hf h hg A1 hm
  have HQ : Hid (l.all p = !(l.any fun x => !p x)) := by show _ = _; rw [List.not_any_eq_all_not]; simp
  by_cases hl : (l.length : Int) ≤ most
  · go_enter Tryz.func217, Tryz.ntmps217
    go_wp2_with (refine C.out.mono ?_; rintro e w1 ⟨rfl, hb1⟩)
    have B2 := hide (bthen B1.out hb1)
    clear hb1
    go_ret
    refine ⟨ret_bool ?_, B2.out⟩
    rw [decide_eq_true hl, HQ.out]
    rfl
  · have HL := hide hl
    go_enter Tryz.func217, Tryz.ntmps217
    go_wp2_with fail
    go_ret
    refine ⟨ret_bool ?_, B1.out⟩
    rw [decide_eq_false (Int.not_le.2 HL.out)]
    rfl
end Go.Proofs.YtpmmhmgojjlniaaGreatDoor
