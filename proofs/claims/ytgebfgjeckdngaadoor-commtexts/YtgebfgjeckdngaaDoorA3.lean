/- The contracts of slices.Contains and ContainsFunc at communities, and of comm's Has. -/
import Derived.Test.YtgebfgjeckdngaaDoorA2
import Derived.Test.YtgebfgjeckdngaaDoorS1
namespace Go.Proofs.YtgebfgjeckdngaaDoor
open Go.RowKit Go.Sort

theorem beq_sym (a b : Int) : (a == b) = (b == a) := by
  rw [Bool.eq_iff_iff, beq_iff_eq, beq_iff_eq]
  exact eq_comm
theorem Co.cells_at {w : World} {b off : Nat} {l : List Co.C} (h : Co.reads w b off l) : ∀ j, j < l.length → ∀ i v, (Co.enc l[j]!)[i]? = some v → w.cell? ⟨b, off + j * 2 + i, none⟩ = some v := by
  intro j hj i v hi
  rw [Co.bang l j hj] at hi
  obtain ⟨h0, h1⟩ := Co.reads_at h j hj
  match i, hi with
  | 0, hi => simp only [Co.enc, List.getElem?_cons_zero, Option.some.injEq] at hi; subst hi; exact h0
  | 1, hi => simp only [Co.enc, List.getElem?_cons_succ, List.getElem?_cons_zero, Option.some.injEq] at hi; subst hi; exact h1
  | i + 2, hi => simp [Co.enc] at hi

set_option maxHeartbeats 1000000 in
theorem idxQ_none (a : Option Addr) (c : Nat) (x y : Int) (w : World) :
    Calls Tryd.prog 59 #[.slice a 0 c, .agg #[.int .i64 x, .int .i64 y]] w fun e w' => e = .returned (.int .i64 (-1)) ∧ Below w.heap.size w w' := by
  go_enter Tryd.func59, Tryd.ntmps59
  go_wp2_with fail
  go_loopw [8] (fun i wr => i = .int .i64 0 ∧ Below w.heap.size w wr) (fun i _ => 0)
  case atStart => exact ⟨rfl, balloc (brefl w) _⟩
  case round =>
    obtain ⟨rfl, hbr⟩ := hrel
    go_wp2_with fail
    go_ret
    exact ⟨rfl, hbr⟩
theorem containsQ_none (a : Option Addr) (c : Nat) (x y : Int) (w : World) :
    Calls Tryd.prog 42 #[.slice a 0 c, .agg #[.int .i64 x, .int .i64 y]] w fun e w' => e = .returned (.bool false) ∧ Below w.heap.size w w' := by
  go_enter Tryd.func42, Tryd.ntmps42
  go_wp2_with fail
  refine (idxQ_none _ _ _ _ _).mono ?_
  rintro e w1 ⟨rfl, hb1⟩
  go_wp2_with fail
  go_ret
  exact ⟨rfl, bthen (balloc (brefl w) _) hb1⟩
set_option maxHeartbeats 1000000 in
theorem idxF_none (a : Option Addr) (c : Nat) (fv : Value) (w : World) :
    Calls Tryd.prog 64 #[.slice a 0 c, fv] w fun e w' => e = .returned (.int .i64 (-1)) ∧ w' = w := by
  go_enter Tryd.func64, Tryd.ntmps64
  go_wp2_with fail
  go_loopw [8] (fun i wr => i = .int .i64 0 ∧ wr = w) (fun i _ => 0)
  case atStart => exact ⟨rfl, rfl⟩
  case round =>
    obtain ⟨rfl, rfl⟩ := hrel
    go_wp2_with fail
    go_ret
    exact ⟨rfl, rfl⟩
theorem containsF_none (a : Option Addr) (c : Nat) (fv : Value) (w : World) :
    Calls Tryd.prog 47 #[.slice a 0 c, fv] w fun e w' => e = .returned (.bool false) ∧ w' = w := by
  go_enter Tryd.func47, Tryd.ntmps47
  go_wp2_with fail
  refine (idxF_none _ _ _ _).mono ?_
  rintro e w1 ⟨rfl, rfl⟩
  go_wp2_with fail
  go_ret
  exact ⟨rfl, rfl⟩

theorem contains_is (ao : Option Addr) (ca : Nat) (l : List Co.C) (c d : Int) (r : Bool) (hr : Co.inL l (c, d) = r) (w : World) (hA : Co.slot w ao l) (hlen : l.length ≤ 1000000) :
    Calls Tryd.prog 42 #[.slice ao l.length ca, .agg #[.int .i64 c, .int .i64 d]] w fun e w' => e = .returned (.bool r) ∧ Below w.heap.size w w' := by
  rcases Nat.eq_zero_or_pos l.length with h0 | h0
  · obtain rfl := List.length_eq_zero_iff.1 h0
    obtain rfl : false = r := hr
    exact containsQ_none ao ca c d w
  · obtain ⟨b, off, rfl, hrd⟩ := Co.slot_at hA h0
    have hcon := AnyQ.slices_Contains Tryd.hasQ 2 Tryd.isAgg23 Tryd.sizeOf23 Co.enc (fun _ => rfl) (fun x y : Co.C => x.1 == y.1 && x.2 == y.2) ⟨fun x y w => eqC x.1 x.2 y.1 y.2 w, GuardAt.agg _ (by kernel_rfl)⟩ b off l.length ca l (c, d) w (Nat.le_refl _) (by omega) (Co.cells_at hrd)
    refine Calls.mono (show Calls Tryd.prog 42 _ _ _ from hcon) ?_
    rintro e w' ⟨rfl, hb'⟩
    refine ⟨ret_bool ?_, hb'⟩
    rw [List.take_length, ← hr]
    show (l.any fun y => c == y.1 && d == y.2) = l.any fun y => y.1 == c && y.2 == d
    have e : (fun y : Co.C => (c == y.1 && d == y.2)) = fun y => (y.1 == c && y.2 == d) := by
      funext y
      rw [beq_sym c y.1, beq_sym d y.2]
    rw [e]

/-- What is asked of those that are added. -/
theorem clo46 (a b : Int) (r : Bool) (h : Co.may (a, b) = r) (W : World) : Calls Tryd.prog 46 #[.agg #[.int .i64 a, .int .i64 b]] W fun e w' => e = .returned (.bool (!r)) ∧ Below W.heap.size W w' := by
  cases r
  all_goals
    have H := hide h
    clear h
    go_enter Tryd.func46, Tryd.ntmps46
    go_wp2_with fail
    refine (may_is _ _ _ H.out _).mono ?_
    rintro e w1 ⟨rfl, hb1⟩
    go_wp2_with fail
    go_ret
    exact ⟨rfl, bthen (balloc (brefl W) _) hb1⟩
theorem pred46 (w : World) : PredBelow Tryd.prog 46 #[] (fun x : Co.C => .agg (Co.enc x).toArray) (fun x => !Co.may x) w := fun W x hb => by
  refine Calls.mono (clo46 x.1 x.2 _ rfl W) ?_
  rintro e w1 ⟨rfl, hb1⟩
  exact ⟨rfl, hb.trans (hb1.mono hb.size)⟩
theorem containsF_is (ao : Option Addr) (ca : Nat) (l : List Co.C) (r : Bool) (hr : (l.any fun x => !Co.may x) = r) (w : World) (hA : Co.slot w ao l) (hlen : l.length ≤ 1000000) :
    Calls Tryd.prog 47 #[.slice ao l.length ca, .func (.func 46) #[] #[]] w fun e w' => e = .returned (.bool r) ∧ Below w.heap.size w w' := by
  rcases Nat.eq_zero_or_pos l.length with h0 | h0
  · obtain rfl := List.length_eq_zero_iff.1 h0
    obtain rfl : false = r := hr
    exact (containsF_none ao ca _ w).mono fun _ _ ⟨h1, h2⟩ => ⟨h1, h2 ▸ brefl _⟩
  · obtain ⟨b, off, rfl, hrd⟩ := Co.slot_at hA h0
    have hb : b < w.heap.size := block_lt_of_cell (Co.reads_at hrd 0 h0).1
    have eg : ∀ args w, (callFunc 46 args).run Tryd.prog w = .ok (.enter 46 args) w := enters_of Tryd.func46 (by kernel_rfl) rfl
    have hcon := AnyQ.slices_ContainsFunc Tryd.hasF 2 Tryd.isAgg23 Tryd.sizeOf23 Co.enc (fun _ => rfl) (fun x => !Co.may x) 46 #[] eg b off l.length ca l w (pred46 w) (Nat.le_refl _) (by omega) hb (Co.cells_at hrd)
    refine Calls.mono (show Calls Tryd.prog 47 _ _ _ from hcon) ?_
    rintro e w' ⟨rfl, hb'⟩
    exact ⟨ret_bool (by rw [List.take_length]; exact hr), hb'⟩

def Co.has (l : List Co.C) (c : Co.C) : Bool := Co.set l && Co.inL l c

theorem has_is (ao : Option Addr) (ca : Nat) (l : List Co.C) (c d : Int) (r : Bool) (hr : Co.has l (c, d) = r) (w : World) (hA : Co.slot w ao l) (hlen : l.length ≤ 1000000) :
    Calls Tryd.prog 22 #[.slice ao l.length ca, .agg #[.int .i64 c, .int .i64 d]] w fun e w' => e = .returned (.bool r) ∧ Below w.heap.size w w' := by
  obtain ⟨s, hs⟩ : ∃ s, Co.set l = s := ⟨_, rfl⟩
  obtain ⟨i, hi⟩ : ∃ i, Co.inL l (c, d) = i := ⟨_, rfl⟩
  have HR : Hid (r = (s && i)) := by show _ = _; rw [← hr, Co.has, hs, hi]
  have HS := hide hs
  have HI := hide hi
  have HA := hide (Co.slot_below hA (balloc (brefl w) (.cells #[.int .i64 c, .int .i64 d] 23)))
  clear hr hs hi hA
  have TB := hide (two_new w c d 23)
  have B0 := hide (balloc (brefl w) (.cells #[.int .i64 c, .int .i64 d] 23))
  cases s
  · go_enter Tryd.func22, Tryd.ntmps22
    go_wp2_with fail
    refine (set_is ao ca l _ HS.out _ HA.out).mono ?_
    rintro e w1 ⟨rfl, hb1⟩
    go_wp2_with fail
    go_ret
    exact ⟨ret_bool (by rw [HR.out]; rfl), bthen B0.out hb1⟩
  · go_enter Tryd.func22, Tryd.ntmps22
    go_wp2_with fail
    refine (set_is ao ca l _ HS.out _ HA.out).mono ?_
    rintro e w1 ⟨rfl, hb1⟩
    obtain ⟨t0, t1, t2, t3⟩ := two_below hb1 TB.out
    have B1 := hide (bthen B0.out hb1)
    have HA1 := hide (Co.slot_below HA.out hb1)
    clear hb1
    go_wp2_with fail
    refine (contains_is ao ca l c d i HI.out _ HA1.out hlen).mono ?_
    rintro e w2 ⟨rfl, hb2⟩
    go_wp2_with fail
    go_ret
    exact ⟨ret_bool (by rw [HR.out]; rfl), bthen B1.out hb2⟩
end Go.Proofs.YtgebfgjeckdngaaDoor
