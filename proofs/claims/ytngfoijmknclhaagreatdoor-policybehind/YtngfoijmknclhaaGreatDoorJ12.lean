/- The contracts of slices.Contains and ContainsFunc at communities, and of comm's Has. -/
import Derived.Test.YtngfoijmknclhaaGreatDoorJ06
import Derived.Test.YtngfoijmknclhaaGreatDoorJ11
namespace Go.Proofs.YtngfoijmknclhaaGreatDoor.Cm
open Go.RowKit Go.Sort
theorem beq_sym (a b : Int) : (a == b) = (b == a) := by
  rw [Bool.eq_iff_iff, beq_iff_eq, beq_iff_eq]
  exact eq_comm
theorem Co.cells_at {w : World} {b off : Nat} {l : List Co.C} (h : Co.reads w b off l) : ∀ j, j < l.length → ∀ i v, (Co.enc l[j]!)[i]? = some v → w.cell? ⟨b, off + j * 2 + i, none⟩ = some v := by
  intro j hj i v hi
  rw [Co.bang l j hj] at hi
  obtain ⟨h0, h1⟩ := Co.reads_at h j hj
  match i, hi with
  | 0, hi => simp only [Co.enc, List.getElem?_cons_zero, Option.some.injEq] at hi; subst hi; exact h0
  | 1, hi => simp only [Co.enc, List.getElem?_cons_succ, List.getElem?_cons_zero, Option.some.injEq] at hi; subst hi; exact h1
  | i + 2, hi => simp [Co.enc] at hi

set_option maxHeartbeats 1000000 in
theorem idxQ_none (a : Option Addr) (c : Nat) (x y : Int) (w : World) :
    Calls Tryz.prog 145 #[.slice a 0 c, .agg #[.int .i64 x, .int .i64 y]] w fun e w' => e = .returned (.int .i64 (-1)) ∧ Below w.heap.size w w' := by
  go_enter Tryz.func145, Tryz.ntmps145
  go_wp2_with fail
  go_loopw [8] (fun i wr => i = .int .i64 0 ∧ Below w.heap.size w wr) (fun i _ => 0)
  case atStart => exact ⟨rfl, balloc (brefl w) _⟩
  case round =>
    obtain ⟨rfl, hbr⟩ := hrel
    go_wp2_with fail
    go_ret
    exact ⟨rfl, hbr⟩
theorem containsQ_none (a : Option Addr) (c : Nat) (x y : Int) (w : World) :
    Calls Tryz.prog 109 #[.slice a 0 c, .agg #[.int .i64 x, .int .i64 y]] w fun e w' => e = .returned (.bool false) ∧ Below w.heap.size w w' := by
  go_enter Tryz.func109, Tryz.ntmps109
  go_wp2_with fail
  refine (idxQ_none _ _ _ _ _).mono ?_
  rintro e w1 ⟨rfl, hb1⟩
  go_wp2_with fail
  go_ret
  exact ⟨rfl, bthen (balloc (brefl w) _) hb1⟩
set_option maxHeartbeats 1000000 in
theorem idxF_none (a : Option Addr) (c : Nat) (fv : Value) (w : World) :
    Calls Tryz.prog 134 #[.slice a 0 c, fv] w fun e w' => e = .returned (.int .i64 (-1)) ∧ w' = w := by
  go_enter Tryz.func134, Tryz.ntmps134
  go_wp2_with fail
  go_loopw [8] (fun i wr => i = .int .i64 0 ∧ wr = w) (fun i _ => 0)
  case atStart => exact ⟨rfl, rfl⟩
  case round =>
    obtain ⟨rfl, rfl⟩ := hrel
    go_wp2_with fail
    go_ret
    exact ⟨rfl, rfl⟩
theorem containsF_none (a : Option Addr) (c : Nat) (fv : Value) (w : World) :
    Calls Tryz.prog 93 #[.slice a 0 c, fv] w fun e w' => e = .returned (.bool false) ∧ w' = w := by
  go_enter Tryz.func93, Tryz.ntmps93
  go_wp2_with fail
  refine (idxF_none _ _ _ _).mono ?_
  rintro e w1 ⟨rfl, rfl⟩
  go_wp2_with fail
  go_ret
  exact ⟨rfl, rfl⟩

theorem contains_is (ao : Option Addr) (ca : Nat) (l : List Co.C) (c d : Int) (r : Bool) (hr : Co.inL l (c, d) = r) (w : World) (hA : Co.slot w ao l) (hlen : l.length ≤ 1000000) :
    Calls Tryz.prog 109 #[.slice ao l.length ca, .agg #[.int .i64 c, .int .i64 d]] w fun e w' => e = .returned (.bool r) ∧ Below w.heap.size w w' := by
  rcases Nat.eq_zero_or_pos l.length with h0 | h0
  · obtain rfl := List.length_eq_zero_iff.1 h0
    obtain rfl : false = r := hr
    exact containsQ_none ao ca c d w
  · obtain ⟨b, off, rfl, hrd⟩ := Co.slot_at hA h0
    have hcon := AnyQ.slices_Contains Tryz.hasQ 2 Tryz.isAgg39 Tryz.sizeOf39 Co.enc (fun _ => rfl) (fun x y : Co.C => x.1 == y.1 && x.2 == y.2) ⟨fun x y w => eqC x.1 x.2 y.1 y.2 w, GuardAt.agg _ (by kernel_rfl)⟩ b off l.length ca l (c, d) w (Nat.le_refl _) (by omega) (Co.cells_at hrd)
    refine Calls.mono (show Calls Tryz.prog 109 _ _ _ from hcon) ?_
    rintro e w' ⟨rfl, hb'⟩
    refine ⟨ret_bool ?_, hb'⟩
    rw [List.take_length, ← hr]
    show (l.any fun y => c == y.1 && d == y.2) = l.any fun y => y.1 == c && y.2 == d
    have e : (fun y : Co.C => (c == y.1 && d == y.2)) = fun y => (y.1 == c && y.2 == d) := by
      funext y
      rw [beq_sym c y.1, beq_sym d y.2]
    rw [e]

/-- What is asked of those that are added. -/
theorem clo46 (a b : Int) (r : Bool) (h : Co.may (a, b) = r) (W : World) : Calls Tryz.prog 169 #[.agg #[.int .i64 a, .int .i64 b]] W fun e w' => e = .returned (.bool (!r)) ∧ Below W.heap.size W w' := by
  cases r
  all_goals
    have H := hide h
    clear h
    go_enter Tryz.func169, Tryz.ntmps169
    go_wp2_with fail
    refine (may_is _ _ _ H.out _).mono ?_
    rintro e w1 ⟨rfl, hb1⟩
    go_wp2_with fail
    go_ret
    exact ⟨rfl, bthen (balloc (brefl W) _) hb1⟩
theorem pred46 (w : World) : PredBelow Tryz.prog 169 #[] (fun x : Co.C => .agg (Co.enc x).toArray) (fun x => !Co.may x) w := fun W x hb => by
  refine Calls.mono (clo46 x.1 x.2 _ rfl W) ?_
  rintro e w1 ⟨rfl, hb1⟩
  exact ⟨rfl, hb.trans (hb1.mono hb.size)⟩
theorem containsF_is (ao : Option Addr) (ca : Nat) (l : List Co.C) (r : Bool) (hr : (l.any fun x => !Co.may x) = r) (w : World) (hA : Co.slot w ao l) (hlen : l.length ≤ 1000000) :
    Calls Tryz.prog 93 #[.slice ao l.length ca, .func (.func 169) #[] #[]] w fun e w' => e = .returned (.bool r) ∧ Below w.heap.size w w' := by
  rcases Nat.eq_zero_or_pos l.length with h0 | h0
  · obtain rfl := List.length_eq_zero_iff.1 h0
    obtain rfl : false = r := hr
    exact (containsF_none ao ca _ w).mono fun _ _ ⟨h1, h2⟩ => ⟨h1, h2 ▸ brefl _⟩
  · obtain ⟨b, off, rfl, hrd⟩ := Co.slot_at hA h0
    have hb : b < w.heap.size := block_lt_of_cell (Co.reads_at hrd 0 h0).1
    have eg : ∀ args w, (callFunc 169 args).run Tryz.prog w = .ok (.enter 169 args) w := enters_of Tryz.func169 (by kernel_rfl) rfl
    have hcon := AnyQ.slices_ContainsFunc Tryz.hasF 2 Tryz.isAgg39 Tryz.sizeOf39 Co.enc (fun _ => rfl) (fun x => !Co.may x) 169 #[] eg b off l.length ca l w (pred46 w) (Nat.le_refl _) (by omega) hb (Co.cells_at hrd)
    refine Calls.mono (show Calls Tryz.prog 93 _ _ _ from hcon) ?_
    rintro e w' ⟨rfl, hb'⟩
    exact ⟨ret_bool (by rw [List.take_length]; exact hr), hb'⟩

def Co.has (l : List Co.C) (c : Co.C) : Bool := Co.set l && Co.inL l c

end Go.Proofs.YtngfoijmknclhaaGreatDoor.Cm
