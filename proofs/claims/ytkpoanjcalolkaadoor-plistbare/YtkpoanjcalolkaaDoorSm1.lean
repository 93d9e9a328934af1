/- The contract of the document's Same, of two lists that are the same. -/
import Derived.Test.YtkpoanjcalolkaaDoorPl4
namespace Go.Proofs.YtkpoanjcalolkaaDoor
open Go.RowKit

set_option maxHeartbeats 4000000 in
theorem refSame_any (ao bo : Option Addr) (ca cb : Nat) (l : List Ad.R) (w : World) (hA : Ad.slotR w ao l) (hB : Ad.slotR w bo l) (hlen : l.length ≤ 1000000) :
    Calls Tryd.prog 25 #[.slice ao l.length ca, .slice bo l.length cb] w fun e w' => e = .returned (.bool true) ∧ Below w.heap.size w w' := by
  have HA := hide hA
  have HB := hide hB
  clear hA hB
  go_enter Tryd.func25, Tryd.ntmps25
  go_wp2_with fail
  go_loopw [5] (fun v wr => ∃ k : Nat, v = .int .i64 k ∧ k ≤ l.length ∧ Below w.heap.size w wr) (fun v _ => l.length - (intOf v).toNat)
  case atStart => exact ⟨0, rfl, Nat.zero_le _, brefl w⟩
  case round =>
    obtain ⟨k, rfl, hk, hbr⟩ := hrel
    have HBR := hide hbr
    clear hbr
    by_cases hkl : k < l.length
    · have hkl' : (k : Int) < (l.length : Int) := by omega
      obtain ⟨b, off, rfl, hrd⟩ := Ad.slotR_at HA.out hkl
      obtain ⟨b2, off2, rfl, hrd2⟩ := Ad.slotR_at HB.out hkl
      obtain ⟨e0, e1, e2, e3, e4⟩ := Ad.readsR_at (Ad.readsR_below hrd HBR.out) k hkl
      obtain ⟨f0, f1, f2, f3, f4⟩ := Ad.readsR_at (Ad.readsR_below hrd2 HBR.out) k hkl
      clear hrd hrd2
      generalize l[k] = y at *
      obtain ⟨y0, y1, y2, y3, y4⟩ := y
      have r0 := fun dd os => cell_regrown e0 dd os
      have r1 := fun dd os => cell_regrown e1 dd os
      have r2 := fun dd os => cell_regrown e2 dd os
      have r3 := fun dd os => cell_regrown e3 dd os
      have r4 := fun dd os => cell_regrown e4 dd os
      have s0 := fun dd os => cell_regrown f0 dd os
      have s1 := fun dd os => cell_regrown f1 dd os
      have s2 := fun dd os => cell_regrown f2 dd os
      have s3 := fun dd os => cell_regrown f3 dd os
      have s4 := fun dd os => cell_regrown f4 dd os
      go_wp2_with fail
      refine wp_region_quiet_below (by kernel_rfl) (by kernel_rfl) ?_
      repeat (go_big_quiet_step (fail))
      refine wpQuiet_nil ?_
      rintro _ ⟨⟨dd, os⟩, rfl⟩
      have hb1 := below_regrown wr dd os
      generalize Sort.grow (redrawn wr dd) os = w1 at hb1
      have B1 := hide (bthen HBR.out hb1)
      clear hb1 r0 r1 r2 r3 r4 s0 s1 s2 s3 s4
      go_wp2_with fail
      exact ⟨⟨k + 1, by go_num, by omega, B1.out⟩, by simp [intOf] <;> omega⟩
    · have hkl' : ¬ (k : Int) < (l.length : Int) := by omega
      go_wp2_with fail
      go_ret
      exact ⟨rfl, HBR.out⟩
end Go.Proofs.YtkpoanjcalolkaaDoor
