/- What AddrPlain's walk wants: what Plain makes, and the document's answers, for whatever slice. -/
import Derived.Test.YtfkajefminopjabDoorU1
import Derived.Test.YtfkajefminopjabDoorO3
import Derived.Test.YtfkajefminopjabDoorO4
namespace Go.Proofs.YtfkajefminopjabDoor
open Go.RowKit

theorem Ad.made_plain {l x : List (Int × Int)} (hg : Ad.good l) (h : Ad.made l x) : Ad.plain x ∧ Ad.good x ∧ (∀ a, Ad.cov x a ↔ Ad.cov l a) ∧ x.length ≤ l.length := by
  obtain ⟨l', hp, hr, rfl⟩ := h
  have := Ad.merged l l' hg hp hr
  exact ⟨this.1, this.1.1, this.2.1, by simpa using this.2.2⟩
theorem Ad.made_same {l1 l2 x1 x2 : List (Int × Int)} (hg : Ad.good l1) (hp : l1.Perm l2) (h1 : Ad.made l1 x1) (h2 : Ad.made l2 x2) : x1 = x2 := by
  obtain ⟨m1, hp1, hr1, rfl⟩ := h1
  obtain ⟨m2, hp2, hr2, rfl⟩ := h2
  rw [Ad.merged_same l1 l2 m1 m2 hg hp hp1 hr1 hp2 hr2]
theorem Ad.made_self {x z : List (Int × Int)} (hp : Ad.plain x) (h : Ad.made x z) : z = x := by
  obtain ⟨m, hpm, hrm, rfl⟩ := h
  exact Ad.merged_plain x m hp hpm hrm

theorem Ad.slot_row {w : World} {ao : Option Addr} {l : List (Int × Int)} (h : Ad.slot w ao l) : Ad.rowAt w ao l := by
  rcases h with ⟨_, h⟩ | h
  · exact .inl h
  · exact .inr h

theorem refWhy_slot (ao : Option Addr) (cap : Nat) (l : List (Int × Int)) (w : World) (hR : Ad.slot w ao l) (hf : Ad.fits l) (hlen : l.length ≤ 1024) :
    Calls Tryd.prog 6 #[.slice ao l.length cap] w fun e w' => e = .returned (.int .i64 (Ad.why l)) ∧ Below w.heap.size w w' :=
  refWhy_row ao cap l w (Ad.slot_row hR) hf hlen
theorem refIn_slot (ao : Option Addr) (cap : Nat) (l : List (Int × Int)) (x : Int) (r : Bool) (w : World) (hR : Ad.slot w ao l) (hg : Ad.good l) (hlen : l.length ≤ 1000000) (hx : 0 ≤ x) (hx2 : x ≤ 4294967295) (hr : r = true ↔ Ad.cov l x) :
    Calls Tryd.prog 10 #[.slice ao l.length cap, .int .u32 x] w fun e w' => e = .returned (.bool r) ∧ Below w.heap.size w w' :=
  refIn_is ao cap l x r w (Ad.slot_row hR) hg hlen hx hx2 hr
theorem refEdges_slot (ao : Option Addr) (c : Nat) (l : List (Int × Int)) (w : World) (hR : Ad.slot w ao l) (hg : Ad.good l) (hlen : l.length ≤ 1000000) :
    Calls Tryd.prog 9 #[.slice ao l.length c] w fun e w' => ∃ g cap es, e = .returned (.slice (some ⟨g, 0, none⟩) es.length cap) ∧ es.length = 2 + 4 * l.length ∧ Ad.addrs es ∧ w'.ownsRow w.heap.size 23 1 (.slice (some ⟨g, 0, none⟩) es.length cap) es.length (Ad.u32s es) ∧ Below w.heap.size w w' :=
  refEdges_any ao c l w (Ad.slot_row hR) hg hlen
theorem same_yes (a1 a2 : Option Addr) (c1 c2 : Nat) (l : List (Int × Int)) (w : World) (hm : l.length ≤ 1000000) (h1 : Ad.slot w a1 l) (h2 : Ad.slot w a2 l) :
    Calls Tryd.prog 14 #[.slice a1 l.length c1, .slice a2 l.length c2] w fun e w' => e = .returned (.bool true) ∧ Below w.heap.size w w' := by
  have := same_any a1 a2 c1 c2 l l w rfl hm (Ad.slot_row h1) (Ad.slot_row h2)
  simpa using this

set_option maxHeartbeats 1000000 in
theorem refIsPlain_nil (c : Nat) (w : World) :
    Calls Tryd.prog 8 #[.slice none 0 c] w fun e w' => e = .returned (.bool true) ∧ Below w.heap.size w w' := by
  go_enter Tryd.func8, Tryd.ntmps8
  go_wp2_with fail
  refine wp_loop_rounds 1 ?_
  rw [rounds_succ]
  go_wp2_with fail
  go_ret
  exact ⟨rfl, brefl w⟩

theorem refIsPlain_slot (ao : Option Addr) (cap : Nat) (l : List (Int × Int)) (w : World) (hR : Ad.slot w ao l) (hp : Ad.plain l) (hlen : l.length ≤ 1000000) :
    Calls Tryd.prog 8 #[.slice ao l.length cap] w fun e w' => e = .returned (.bool true) ∧ Below w.heap.size w w' := by
  rcases hR with ⟨rfl, rfl⟩ | ⟨b, off, rfl, h⟩
  · exact refIsPlain_nil cap w
  · exact refIsPlain_yes b off cap l w h hp hlen
end Go.Proofs.YtfkajefminopjabDoor
