/- The contracts of addr's check, merge and Plain for whatever slice. -/
import Derived.Test.YtfkajefminopjabDoorR2
import Derived.Test.YtfkajefminopjabDoorD3
namespace Go.Proofs.YtfkajefminopjabDoor
open Go.RowKit

set_option maxHeartbeats 1000000 in
theorem check_nil (c : Nat) (w : World) :
    Calls Tryd.prog 15 #[.slice none 0 c] w fun e w' => e = .returned (.int .i64 0) ∧ w' = w := by
  go_enter Tryd.func15, Tryd.ntmps15
  go_wp2_with fail
  refine wp_loop_rounds 1 ?_
  rw [rounds_succ]
  go_wp2_with fail
  go_ret
  exact ⟨rfl, rfl⟩

set_option maxHeartbeats 1000000 in
theorem plain_long (a : Option Addr) (n cap : Nat) (w : World) (h : 1024 < n) :
    Calls Tryd.prog 12 #[.slice a n cap] w fun e w' => e = .returned (.tuple #[.slice none 0 0, .int .i64 2]) ∧ Below w.heap.size w w' := by
  go_enter Tryd.func12, Tryd.ntmps12
  go_wp2_with fail
  refine (check_long a n cap _ h).mono ?_
  rintro e w1 ⟨rfl, hb1⟩
  go_wp2_with fail
  go_ret2
  exact ⟨rfl, hb1⟩

set_option maxHeartbeats 1000000 in
theorem merge_nil (c : Nat) (w : World) :
    Calls Tryd.prog 18 #[.slice none 0 c] w fun e w' => e = .returned (.slice none 0 0) ∧ Below w.heap.size w w' := by
  go_enter Tryd.func18, Tryd.ntmps18
  go_wp2_with fail
  refine (clone_nil 0 c _).mono ?_
  rintro e w1 ⟨rfl, rfl⟩
  go_wp2_with fail
  refine (sort_none _ _ _ _).mono ?_
  rintro e w2 ⟨rfl, rfl⟩
  go_wp2_with fail
  refine wp_loop_rounds 1 ?_
  rw [rounds_succ]
  go_wp2_with fail
  go_ret
  exact ⟨rfl, brefl _⟩

set_option maxHeartbeats 1000000 in
theorem plain_nil (c : Nat) (w : World) :
    Calls Tryd.prog 12 #[.slice none 0 c] w fun e w' => e = .returned (.tuple #[.slice none 0 0, .int .i64 0]) ∧ Below w.heap.size w w' := by
  go_enter Tryd.func12, Tryd.ntmps12
  go_wp2_with fail
  refine (check_nil c _).mono ?_
  rintro e w1 ⟨rfl, rfl⟩
  go_wp2_with fail
  refine (merge_nil c _).mono ?_
  rintro e w2 ⟨rfl, hb⟩
  go_wp2_with fail
  go_ret2
  exact ⟨rfl, hb⟩

/-- What Plain makes of a list. -/
def Ad.made (l x : List (Int × Int)) : Prop := ∃ l' : List (Int × Int), l'.Perm l ∧ Ad.rises l' ∧ x = (Ad.stack l').reverse

theorem Ad.why_good {l : List (Int × Int)} (hg : Ad.good l) (hl : l.length ≤ 1024) : Ad.why l = 0 := by
  unfold Ad.why
  rw [if_neg (by omega), if_pos (List.all_eq_true.2 fun x hx => (hg x hx).2.2)]

theorem plain_good (ao : Option Addr) (c : Nat) (l : List (Int × Int)) (w : World) (hS : Ad.slot w ao l) (hg : Ad.good l) (hlen : l.length ≤ 1024) :
    Calls Tryd.prog 12 #[.slice ao l.length c] w fun e w' => ∃ x ao' c', Ad.made l x ∧ e = .returned (.tuple #[.slice ao' x.length c', .int .i64 0]) ∧ Ad.slot w' ao' x ∧ Below w.heap.size w w' := by
  rcases hS with ⟨rfl, rfl⟩ | ⟨b, off, rfl, hR⟩
  · refine (plain_nil c w).mono ?_
    rintro e w1 ⟨rfl, hb⟩
    exact ⟨[], none, 0, ⟨[], .refl _, fun i j hi => by simp at hi, rfl⟩, rfl, .inl ⟨rfl, rfl⟩, hb⟩
  · refine (plain_ok b off c l w hR (fun y hy => ⟨(hg y hy).1, (hg y hy).2.1⟩) hlen (Ad.why_good hg hlen)).mono ?_
    rintro e w1 ⟨l', v', hp, hr, rfl, ho, hb⟩
    obtain ⟨ao', c', rfl⟩ := row_slice ho
    exact ⟨(Ad.stack l').reverse, ao', c', ⟨l', hp, hr, rfl⟩, by simp, Ad.slot_own ho, hb⟩

theorem plain_bad (ao : Option Addr) (c : Nat) (l : List (Int × Int)) (w : World) (hS : Ad.slot w ao l) (hf : Ad.fits l) (hlen : l.length ≤ 1024) (hw : Ad.why l ≠ 0) :
    Calls Tryd.prog 12 #[.slice ao l.length c] w fun e w' => e = .returned (.tuple #[.slice none 0 0, .int .i64 (Ad.why l)]) ∧ Below w.heap.size w w' := by
  rcases hS with ⟨rfl, rfl⟩ | ⟨b, off, rfl, hR⟩
  · exact absurd (by decide) hw
  · exact plain_no b off c l w hR hf hlen hw
end Go.Proofs.YtfkajefminopjabDoor
