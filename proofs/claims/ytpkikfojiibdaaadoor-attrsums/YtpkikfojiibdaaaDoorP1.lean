/- Numbers from one to another: what is asked by closures. -/
import Derived.Test.YtpkikfojiibdaaaDoorH2
namespace Go.Proofs.YtpkikfojiibdaaaDoor
open Go.RowKit Go.Sort

/-- Two boxes with the least and the greatest number. -/
def UpAt (w : World) (p q : Nat) (lo hi : Int) : Prop := w.cell? ⟨p, 0, none⟩ = some (.int .i64 lo) ∧ w.cell? ⟨q, 0, none⟩ = some (.int .i64 hi)
theorem UpAt.below {w w' : World} {p q : Nat} {lo hi : Int} (h : UpAt w p q lo hi) (hb : Below w.heap.size w w') : UpAt w' p q lo hi :=
  ⟨(hb.cell (p := ⟨p, 0, none⟩) (block_lt_of_cell h.1)).trans h.1, (hb.cell (p := ⟨q, 0, none⟩) (block_lt_of_cell h.2)).trans h.2⟩
/-- The question that upTo hands back. -/
def UpGood (w : World) (lo hi : Int) (e : Ending) (w' : World) : Prop :=
  ∃ p q, e = .returned (.func (.func 52) #[] #[.pointer (some ⟨p, 0, none⟩), .pointer (some ⟨q, 0, none⟩)]) ∧ UpAt w' p q lo hi ∧ Below w.heap.size w w'
set_option maxRecDepth 100000 in
theorem upTo_is (lo hi : Int) (w : World) : Calls Tryd.prog 28 #[.int .i64 lo, .int .i64 hi] w (UpGood w lo hi) := by
  have HB := hide (balloc (balloc (brefl w) (.cells #[.int .i64 lo] 3)) (.cells #[.int .i64 hi] 3))
  go_enter Tryd.func28, Tryd.ntmps28
  go_wp2_with fail
  go_ret
  exact ⟨_, _, rfl, ⟨by simp, by simp⟩, HB.out⟩
theorem isUpTo_is (lo hi n : Int) (r : Bool) (hr : decide (lo ≤ n ∧ n ≤ hi) = r) (p q : Nat) (W : World) (h : UpAt W p q lo hi) :
    Calls Tryd.prog 52 #[.int .i64 n, .pointer (some ⟨p, 0, none⟩), .pointer (some ⟨q, 0, none⟩)] W fun e w' => e = .returned (.bool r) ∧ w' = W := by
  obtain ⟨h0, h1⟩ := h
  by_cases a : lo ≤ n
  · by_cases b : n ≤ hi
    · have HR : Hid (true = r) := by show _ = _; rw [← hr]; simp [a, b]
      clear hr
      go_enter Tryd.func52, Tryd.ntmps52
      go_wp2_with fail
      go_ret
      exact ⟨ret_bool HR.out, rfl⟩
    · have HR : Hid (false = r) := by show _ = _; rw [← hr]; simp [b]
      clear hr
      go_enter Tryd.func52, Tryd.ntmps52
      go_wp2_with fail
      go_ret
      exact ⟨ret_bool HR.out, rfl⟩
  · have HR : Hid (false = r) := by show _ = _; rw [← hr]; simp [a]
    clear hr
    go_enter Tryd.func52, Tryd.ntmps52
    go_wp2_with fail
    go_ret
    exact ⟨ret_bool HR.out, rfl⟩
theorem mayPref_is (n : Int) (r : Bool) (hr : decide (0 ≤ n ∧ n ≤ 1048576) = r) (W : World) : Calls Tryd.prog 23 #[.int .i64 n] W fun e w' => e = .returned (.bool r) ∧ Below W.heap.size W w' := by
  have C1 := hide (upTo_is 0 1048576 W)
  have C2 := hide (fun p q W => isUpTo_is 0 1048576 n r hr p q W)
  clear hr
  go_enter Tryd.func23, Tryd.ntmps23
  go_wp2_with fail
  refine C1.out.mono ?_
  rintro e w1 ⟨p, q, rfl, hu, hb⟩
  have HB := hide hb
  have C3 := hide (C2.out p q w1 hu)
  clear hb hu C2 C1
  go_wp2_with fail
  refine C3.out.mono ?_
  rintro e w2 ⟨rfl, rfl⟩
  go_wp2_with fail
  go_ret
  exact ⟨rfl, HB.out⟩
theorem mayMed_is (n : Int) (r : Bool) (hr : decide (0 ≤ n ∧ n ≤ 1048576) = r) (W : World) : Calls Tryd.prog 24 #[.int .i64 n] W fun e w' => e = .returned (.bool r) ∧ Below W.heap.size W w' := by
  have C1 := hide (upTo_is 0 1048576 W)
  have C2 := hide (fun p q W => isUpTo_is 0 1048576 n r hr p q W)
  clear hr
  go_enter Tryd.func24, Tryd.ntmps24
  go_wp2_with fail
  refine C1.out.mono ?_
  rintro e w1 ⟨p, q, rfl, hu, hb⟩
  have HB := hide hb
  have C3 := hide (C2.out p q w1 hu)
  clear hb hu C2 C1
  go_wp2_with fail
  refine C3.out.mono ?_
  rintro e w2 ⟨rfl, rfl⟩
  go_wp2_with fail
  go_ret
  exact ⟨rfl, HB.out⟩
theorem mayOrigin_is (n : Int) (r : Bool) (hr : decide (0 ≤ n ∧ n ≤ 2) = r) (W : World) : Calls Tryd.prog 25 #[.int .i64 n] W fun e w' => e = .returned (.bool r) ∧ Below W.heap.size W w' := by
  have C1 := hide (upTo_is 0 2 W)
  have C2 := hide (fun p q W => isUpTo_is 0 2 n r hr p q W)
  clear hr
  go_enter Tryd.func25, Tryd.ntmps25
  go_wp2_with fail
  refine C1.out.mono ?_
  rintro e w1 ⟨p, q, rfl, hu, hb⟩
  have HB := hide hb
  have C3 := hide (C2.out p q w1 hu)
  clear hb hu C2 C1
  go_wp2_with fail
  refine C3.out.mono ?_
  rintro e w2 ⟨rfl, rfl⟩
  go_wp2_with fail
  go_ret
  exact ⟨rfl, HB.out⟩
end Go.Proofs.YtpkikfojiibdaaaDoor
