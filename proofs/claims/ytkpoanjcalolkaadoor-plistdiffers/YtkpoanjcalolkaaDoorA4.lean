import Derived.Test.YtkpoanjcalolkaaDoorA2
import Derived.Test.YtkpoanjcalolkaaDoorM1
import Derived.RegionTactic
/- The contracts of addr's Last, Halves. -/
namespace Go.Proofs.YtkpoanjcalolkaaDoor
open Go.RowKit

set_option maxHeartbeats 400000 in
theorem last_any (a b : Int) (w : World) (ha : 0 ≤ a) (ha2 : a ≤ 4294967295) :
    Calls Tryd.prog 52 #[.agg #[.int .u32 a, .int .i64 b]] w fun e w' => e = .returned (.int .u32 (Ad.last a b)) ∧ Below w.heap.size w w' := by
  cases hm : Ad.may a b
  · go_enter Tryd.func52, Tryd.ntmps52
    go_wp2_with fail
    refine (may_is _ _ _ hm _ ha ha2).mono ?_
    rintro e w1 ⟨rfl, hb1⟩
    go_wp2_with fail
    go_ret
    exact ⟨ret_int (by simp [Ad.last, hm]), bthen (balloc (brefl w) _) hb1⟩
  · obtain ⟨h0, h1, h2⟩ := (Ad.may_iff a b).1 hm
    have hl := Ad.last_bits a b ha ha2 h0 h1 h2
    have HL : Hid (bits .or .u32 a (4294967295 / 2 ^ b.toNat) = Ad.last a b) := by rw [Ad.last, if_pos hm]; exact hl
    clear hl h2
    go_enter Tryd.func52, Tryd.ntmps52
    go_wp2_with fail
    refine (may_is _ _ _ hm _ ha ha2).mono ?_
    rintro e w1 ⟨rfl, hb1⟩
    obtain ⟨hc1, hf1⟩ := bcell hb1
    go_wp2_with fail
    go_quiet (fail)
    go_wp2_with fail
    go_ret
    exact ⟨ret_int HL.out, below_drewN (bthen (balloc (brefl w) _) hb1) _⟩

theorem bset {w W : World} (h : Below w.heap.size w W) {p : Addr} (hp : w.heap.size ≤ p.block) (u : Value) : Below w.heap.size w (W.setCell p u) := h.setCell hp u

end Go.Proofs.YtkpoanjcalolkaaDoor
