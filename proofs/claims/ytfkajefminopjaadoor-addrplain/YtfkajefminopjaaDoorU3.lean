/- The law AddrPlain, walked: lists that are too long, or of prefixes that may not be. -/
import Derived.Test.YtfkajefminopjaaDoorU2
import Derived.Test.YtfkajefminopjaaDoorL1
namespace Go.Proofs.YtfkajefminopjaaDoor
open Go.RowKit

set_option maxHeartbeats 1000000 in
theorem law8_mid (ao : Option Addr) (n c : Nat) (x : Int) (w : World) (h1 : 40 < n) (h2 : n ≤ 1024) :
    Calls Tryd.prog 8 #[.slice ao n c, .int .u32 x] w fun e w' => e = .returned (.bool true) ∧ Below w.heap.size w w' := by
  have g1 : (40 : Int) < (n : Int) := by omega
  have g2 : (n : Int) ≤ 1024 := by omega
  go_enter Tryd.func8, Tryd.ntmps8
  go_wp2_with fail
  refine (lives_any _).mono ?_
  rintro e w1 ⟨rfl, hb1⟩
  go_wp2_with fail
  go_ret
  exact ⟨rfl, hb1⟩

set_option maxHeartbeats 1000000 in
theorem law8_long (ao : Option Addr) (n c : Nat) (x : Int) (w : World) (h1 : 1024 < n) :
    Calls Tryd.prog 8 #[.slice ao n c, .int .u32 x] w fun e w' => e = .returned (.bool true) ∧ Below w.heap.size w w' := by
  have g1 : (40 : Int) < (n : Int) := by omega
  have g2 : ¬ (n : Int) ≤ 1024 := by omega
  go_enter Tryd.func8, Tryd.ntmps8
  go_wp2_with fail
  refine (plain_long ao n c _ h1).mono ?_
  rintro e w1 ⟨rfl, hb1⟩
  go_wp2_with fail
  refine (refWhy_long ao n c _ h1).mono ?_
  rintro e w2 ⟨rfl, hb2⟩
  have hb2' := bthen hb1 hb2
  go_wp2_with fail
  refine (refWhy_long ao n c _ h1).mono ?_
  rintro e w3 ⟨rfl, hb3⟩
  have hb3' := bthen hb2' hb3
  go_wp2_with fail
  refine (lives_any _).mono ?_
  rintro e w4 ⟨rfl, hb4⟩
  have hb4' := bthen hb3' hb4
  go_wp2_with fail
  go_ret
  exact ⟨rfl, hb4'⟩

set_option maxHeartbeats 1000000 in
theorem law8_bad (ao : Option Addr) (c : Nat) (l : List (Int × Int)) (x : Int) (w : World) (hS : Ad.slot w ao l) (hf : Ad.fits l) (h1 : l.length ≤ 40) (hw : Ad.why l ≠ 0) :
    Calls Tryd.prog 8 #[.slice ao l.length c, .int .u32 x] w fun e w' => e = .returned (.bool true) ∧ Below w.heap.size w w' := by
  have g1 : ¬ (40 : Int) < (l.length : Int) := by omega
  have HS := hide hS
  have HF := hide hf
  have HW := hide hw
  clear hS hf hw
  go_enter Tryd.func8, Tryd.ntmps8
  go_wp2_with fail
  refine (plain_bad ao c l _ HS.out HF.out (by omega) HW.out).mono ?_
  rintro e w1 ⟨rfl, hb1⟩
  have HS1 := hide (Ad.slot_below HS.out hb1)
  have hne : (Ad.why l != 0) = true := by simpa using HW.out
  go_wp2_with fail
  refine (refWhy_slot ao c l _ HS1.out HF.out (by omega)).mono ?_
  rintro e w2 ⟨rfl, hb2⟩
  have hb2' := bthen hb1 hb2
  have HS2 := hide (Ad.slot_below HS1.out hb2)
  go_wp2_with fail
  refine (refWhy_slot ao c l _ HS2.out HF.out (by omega)).mono ?_
  rintro e w3 ⟨rfl, hb3⟩
  have hb3' := bthen hb2' hb3
  go_wp2_with fail
  refine (lives_any _).mono ?_
  rintro e w4 ⟨rfl, hb4⟩
  have hb4' := bthen hb3' hb4
  go_wp2_with fail
  go_ret
  exact ⟨rfl, hb4'⟩
end Go.Proofs.YtfkajefminopjaaDoor
