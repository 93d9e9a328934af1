/- The law AddrMinus, walked: lists that are too long, or of prefixes that may not be. -/
import Derived.Test.YtfkajefminopjabDoorY3
import Derived.Test.YtfkajefminopjabDoorL1
namespace Go.Proofs.YtfkajefminopjabDoor
open Go.RowKit

theorem two_step {W w1 : World} {n : Nat} {a b : Int} (hb : Below W.heap.size W w1) (t : Two W n a b) : Two w1 n a b := two_below hb t.1 t.2.1
theorem two_base {W w1 : World} {n B : Nat} {a b : Int} (hb : Below B W w1) (hn : n < B) (t : Two W n a b) : Two w1 n a b :=
  two_of ((hb.cell (p := ⟨n, 0, none⟩) hn).trans t.1) ((hb.cell (p := ⟨n, 1, none⟩) hn).trans t.2.1)
theorem two_new (w : World) (a b : Int) : Two (w.alloc (.cells #[.int .u32 a, .int .i64 b] 25)) w.heap.size a b := two_of (by simp [go_sem]) (by simp [go_sem])

set_option maxHeartbeats 1000000 in
theorem law3_mid (ao : Option Addr) (n c : Nat) (qa qd x : Int) (w : World) (h1 : 30 < n) (h2 : n ≤ 1024) :
    Calls Tryd.prog 3 #[.slice ao n c, .agg #[.int .u32 qa, .int .i64 qd], .int .u32 x] w fun e w' => e = .returned (.bool true) ∧ Below w.heap.size w w' := by
  have g1 : (30 : Int) < (n : Int) := by omega
  have g2 : (n : Int) ≤ 1024 := by omega
  go_enter Tryd.func3, Tryd.ntmps3
  go_wp2_with fail
  refine (lives_any _).mono ?_
  rintro e w1 ⟨rfl, hb1⟩
  have B1 := hide (bthen (balloc (brefl w) _) hb1)
  clear hb1
  go_wp2_with fail
  go_ret
  exact ⟨rfl, B1.out⟩

set_option maxHeartbeats 1000000 in
theorem law3_long (ao : Option Addr) (n c : Nat) (qa qd x : Int) (w : World) (h1 : 1024 < n) :
    Calls Tryd.prog 3 #[.slice ao n c, .agg #[.int .u32 qa, .int .i64 qd], .int .u32 x] w fun e w' => e = .returned (.bool true) ∧ Below w.heap.size w w' := by
  have g1 : (30 : Int) < (n : Int) := by omega
  have g2 : ¬ (n : Int) ≤ 1024 := by omega
  go_enter Tryd.func3, Tryd.ntmps3
  go_wp2_with fail
  refine (minus_long ao n c qa qd _ h1).mono ?_
  rintro e w1 ⟨rfl, hb1'⟩
  have hb1 := bthen (balloc (brefl w) _) hb1'
  clear hb1'
  go_wp2_with fail
  refine (refWhy_long ao n c _ h1).mono ?_
  rintro e w2 ⟨rfl, hb2⟩
  have hb2' := bthen hb1 hb2
  go_wp2_with fail
  refine (refWhy_long ao n c _ h1).mono ?_
  rintro e w3 ⟨rfl, hb3⟩
  have hb3' := bthen hb2' hb3
  go_wp2_with fail
  refine (lives_any _).mono ?_
  rintro e w4 ⟨rfl, hb4⟩
  have hb4' := bthen hb3' hb4
  go_wp2_with fail
  go_ret
  exact ⟨rfl, hb4'⟩

set_option maxHeartbeats 1000000 in
theorem law3_bad (ao : Option Addr) (c : Nat) (l : List (Int × Int)) (qa qd x : Int) (w : World) (hS : Ad.slot w ao l) (hf : Ad.fits l) (h1 : l.length ≤ 30) (hw : Ad.why l ≠ 0) :
    Calls Tryd.prog 3 #[.slice ao l.length c, .agg #[.int .u32 qa, .int .i64 qd], .int .u32 x] w fun e w' => e = .returned (.bool true) ∧ Below w.heap.size w w' := by
  have g1 : ¬ (30 : Int) < (l.length : Int) := by omega
  have HS := hide hS
  have HF := hide hf
  have HW := hide hw
  clear hS hf hw
  go_enter Tryd.func3, Tryd.ntmps3
  go_wp2_with fail
  refine (minus_bad ao c l qa qd _ (Ad.slot_below HS.out (balloc (brefl w) _)) HF.out (by omega) HW.out).mono ?_
  rintro e w1 ⟨rfl, hb1'⟩
  have hb1 := bthen (balloc (brefl w) _) hb1'
  clear hb1'
  have HS1 := hide (Ad.slot_below HS.out hb1)
  have hne : (Ad.why l != 0) = true := by simpa using HW.out
  go_wp2_with fail
  refine (refWhy_slot ao c l _ HS1.out HF.out (by omega)).mono ?_
  rintro e w2 ⟨rfl, hb2⟩
  have hb2' := bthen hb1 hb2
  have HS2 := hide (Ad.slot_below HS1.out hb2)
  go_wp2_with fail
  refine (refWhy_slot ao c l _ HS2.out HF.out (by omega)).mono ?_
  rintro e w3 ⟨rfl, hb3⟩
  have hb3' := bthen hb2' hb3
  go_wp2_with fail
  refine (lives_any _).mono ?_
  rintro e w4 ⟨rfl, hb4⟩
  have hb4' := bthen hb3' hb4
  go_wp2_with fail
  go_ret
  exact ⟨rfl, hb4'⟩

set_option maxHeartbeats 1000000 in
theorem law3_none (ao : Option Addr) (c : Nat) (l : List (Int × Int)) (qa qd x : Int) (w : World) (hS : Ad.slot w ao l) (hg : Ad.good l) (h1 : l.length ≤ 30) (hq0 : 0 ≤ qa) (hq1 : qa ≤ 4294967295) (hm : Ad.may qa qd = false) :
    Calls Tryd.prog 3 #[.slice ao l.length c, .agg #[.int .u32 qa, .int .i64 qd], .int .u32 x] w fun e w' => e = .returned (.bool true) ∧ Below w.heap.size w w' := by
  have g1 : ¬ (30 : Int) < (l.length : Int) := by omega
  have HS := hide hS
  have HG := hide hg
  have HF : Hid (Ad.fits l) := fun y hy => ⟨(hg y hy).1, (hg y hy).2.1⟩
  have HM := hide hm
  clear hS hg hm
  go_enter Tryd.func3, Tryd.ntmps3
  go_wp2_with fail
  refine (minus_none ao c l qa qd _ (Ad.slot_below HS.out (balloc (brefl w) _)) HG.out (by omega) hq0 hq1 HM.out).mono ?_
  rintro e w1 ⟨rfl, hb1'⟩
  have hb1 := bthen (balloc (brefl w) _) hb1'
  have T1 := hide (two_step hb1' (two_new w qa qd))
  clear hb1'
  have HS1 := hide (Ad.slot_below HS.out hb1)
  go_wp2_with fail
  refine (refWhy_slot ao c l _ HS1.out HF.out (by omega)).mono ?_
  rintro e w2 ⟨rfl, hb2⟩
  rw [Ad.why_good HG.out (by omega)]
  have hb2' := bthen hb1 hb2
  obtain ⟨q0, q1, q2, _⟩ := two_step hb2 T1.out
  go_wp2_with fail
  refine (refMay_is _ _ _ HM.out _ hq0 hq1).mono ?_
  rintro e w3 ⟨rfl, hb3⟩
  have hb3' := bthen hb2' hb3
  go_wp2_with fail
  refine (lives_any _).mono ?_
  rintro e w4 ⟨rfl, hb4⟩
  have hb4' := bthen hb3' hb4
  go_wp2_with fail
  go_ret
  exact ⟨rfl, hb4'⟩
end Go.Proofs.YtfkajefminopjabDoor
