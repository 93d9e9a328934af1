/- The program's Has, Short and Loops. -/
import Derived.Test.YtnbedjgjkoeflaaDoorK2
import Derived.Test.YtnbedjgjkoeflaaDoorS2
import Derived.Test.YtnbedjgjkoeflaaDoorM1
import Derived.Lib.OwnBridge
namespace Go.Proofs.YtnbedjgjkoeflaaDoor
open Go.RowKit Go.Sort

theorem reads_getD {W : World} {b off : Nat} {l : List Int} (h : Is.reads W b off l) : ∀ j, j < l.length → W.cell? ⟨b, off + j, none⟩ = some (.int .i64 (l.getD j 0)) := by
  intro j hj
  rw [h j hj]
  simp [hj]
theorem contains_is (ao : Option Addr) (ca : Nat) (l : List Int) (n : Int) (r : Bool) (hr : l.contains n = r) (W : World) (hA : Is.slot W ao l) (hl : l.length ≤ 320) :
    Calls Tryd.prog 46 #[.slice ao l.length ca, .int .i64 n] W fun e w' => e = .returned (.bool r) ∧ w' = W := by
  by_cases h0 : l = []
  · subst h0
    obtain rfl : false = r := hr
    exact Tryd.slices_Contains_int_empty ao ca n W
  · obtain ⟨b, off, rfl, hrd⟩ := Is.slot_at hA (k := 0) (List.length_pos_iff.2 h0)
    have h := Tryd.slices_Contains_int b off l.length ca l n W (Nat.le_refl _) (by omega) (reads_getD hrd)
    rw [List.take_length, hr] at h
    exact h
theorem has_is (ao : Option Addr) (ca : Nat) (l : List Int) (n : Int) (r : Bool) (hr : l.contains n = r) (W : World) (hA : Is.slot W ao l) (hl : l.length ≤ 320) :
    Calls Tryd.prog 20 #[.slice ao l.length ca, .int .i64 n] W fun e w' => e = .returned (.bool r) ∧ w' = W := by
  have CC := hide (contains_is ao ca l n r hr W hA hl)
  clear hA hr
  go_enter Tryd.func20, Tryd.ntmps20
  go_wp2_with fail
  refine CC.out.mono ?_
  rintro e w1 ⟨rfl, rfl⟩
  go_wp2_with fail
  go_ret
  exact ⟨rfl, rfl⟩

/-- Numbers in a row of the call's own. -/
def RowOwn (w : World) (x : List Int) (e : Ending) (w' : World) : Prop := ∃ (o : Option Addr) (c : Nat), e = .returned (.slice o x.length c) ∧ w'.ownsRow w.heap.size 3 1 (.slice o x.length c) x.length (Is.cells x) ∧ Below w.heap.size w w'

theorem clone_is (ao : Option Addr) (ca : Nat) (l : List Int) (W : World) (hA : Is.slot W ao l) (hl : l.length ≤ 320) : Calls Tryd.prog 54 #[.slice ao l.length ca] W (RowOwn W l) := by
  by_cases h0 : l = []
  · subst h0
    cases ao with
    | none =>
      refine (Tryd.slices_Clone_int_nil 0 ca W).mono ?_
      rintro e w' ⟨rfl, rfl⟩
      exact ⟨none, 0, rfl, World.ownsRow_nil _ _ _ _, brefl _⟩
    | some a =>
      refine (Tryd.slices_Clone_int_zero a ca W).mono ?_
      rintro e w' ⟨v, rfl, hown, _, hb⟩
      obtain ⟨o, c, rfl⟩ := row_slice hown
      exact ⟨o, c, rfl, hown, hb⟩
  · obtain ⟨b, off, rfl, hrd⟩ := Is.slot_at hA (k := 0) (List.length_pos_iff.2 h0)
    refine (Tryd.slices_Clone_int b off l.length ca l W (Nat.le_refl _) (by omega) (reads_getD hrd)).mono ?_
    rintro e w' ⟨v, rfl, hown, _, hb⟩
    obtain ⟨o, c, rfl⟩ := row_slice hown
    rw [List.take_length] at hown
    exact ⟨o, c, rfl, hown, hb⟩
/-- slices.Compact of a row of the caller's own. -/
theorem compact_is (o : Option Addr) (c : Nat) (l x : List Int) (hx : Lib.compact l = x) (w0 W : World) (hown : W.ownsRow w0.heap.size 3 1 (.slice o l.length c) l.length (Is.cells l)) (hb : Below w0.heap.size w0 W) (hl : l.length ≤ 320) :
    Calls Tryd.prog 48 #[.slice o l.length c] W fun e w' => ∃ (o' : Option Addr) (c' : Nat), e = .returned (.slice o' x.length c') ∧ w'.ownsRow w0.heap.size 3 1 (.slice o' x.length c') x.length (Is.cells x) ∧ Below w0.heap.size w0 w' := by
  by_cases h0 : l = []
  · subst h0
    obtain rfl : [] = x := hx
    refine (Tryd.slices_Compact_int_empty o c W).mono ?_
    rintro e w' ⟨rfl, rfl⟩
    exact ⟨o, c, rfl, hown, hb⟩
  · have hne : Value.slice o l.length c ≠ .slice none 0 0 := by
      intro e
      simp only [Value.slice.injEq] at e
      exact h0 (List.length_eq_zero_iff.1 e.2.1)
    obtain ⟨g, cap, hv, hge, hlt, hcap, _, _, hH⟩ := Lib.holds_of_ownsRow (enc := Value.int .i64) (zs := l) hown hne
    simp only [Value.slice.injEq] at hv
    obtain ⟨rfl, -, rfl⟩ := hv
    have hlen := compact_len l
    refine (Tryd.slices_Compact_int g 0 c l W hH (by omega) hcap).mono ?_
    rintro e w' ⟨rfl, q, rfl⟩
    rw [hx] at hlen
    rw [hx]
    refine ⟨_, _, rfl, ?_, Lib.below_putRow hb hge⟩
    have h := Lib.ownsRow_putRow (enc := Value.int .i64) (zs := l) (ys := x ++ List.replicate (l.length - x.length) 0) (q := q) (k := x.length) hown (by simp; omega) hlen
    rw [List.take_left] at h
    exact h
theorem short_is (ao : Option Addr) (ca : Nat) (l x : List Int) (hx : Is.short l = x) (W : World) (hA : Is.slot W ao l) (hl : l.length ≤ 320) : Calls Tryd.prog 34 #[.slice ao l.length ca] W (RowOwn W x) := by
  have C1 := hide (clone_is ao ca l W hA hl)
  have C2 := hide (fun o c w1 h1 h2 => compact_is o c l x ((compact_short l).trans hx) W w1 h1 h2 hl)
  clear hA hx
  go_enter Tryd.func34, Tryd.ntmps34
  go_wp2_with fail
  refine C1.out.mono ?_
  rintro e w1 ⟨o, c, rfl, hown, hb⟩
  have C3 := hide (C2.out o c w1 hown hb)
  clear C1 C2 hown hb
  go_wp2_with fail
  refine C3.out.mono ?_
  rintro e w2 ⟨o2, c2, rfl, hown, hb⟩
  have O2 := hide hown
  have B2 := hide hb
  clear hown hb C3
  go_wp2_with fail
  go_ret
  exact ⟨_, _, rfl, O2.out, B2.out⟩

theorem sort_is (o : Option Addr) (c : Nat) (l x : List Int) (hx : (l.mergeSort fun x y => decide (x ≤ y)) = x) (w0 W : World) (hown : W.ownsRow w0.heap.size 3 1 (.slice o l.length c) l.length (Is.cells l)) (hb : Below w0.heap.size w0 W) (hl : l.length ≤ 320) :
    Calls Tryd.prog 47 #[.slice o l.length c] W fun e w' => e = .returned (.tuple #[]) ∧ w'.ownsRow w0.heap.size 3 1 (.slice o l.length c) l.length (Is.cells x) ∧ Below w0.heap.size w0 w' := by
  by_cases h0 : l = []
  · subst h0
    obtain rfl : [] = x := by rw [← hx]; simp
    refine (show Calls Tryd.prog 47 _ _ _ from Any.slices_Sort_int_none Tryd.lays189 o c W).mono ?_
    rintro e w' ⟨rfl, rfl⟩
    exact ⟨rfl, hown, hb⟩
  · have hne : Value.slice o l.length c ≠ .slice none 0 0 := by
      intro e
      simp only [Value.slice.injEq] at e
      exact h0 (List.length_eq_zero_iff.1 e.2.1)
    obtain ⟨g, cap, hv, hge, hlt, hcap, _, _, hH⟩ := Lib.holds_of_ownsRow (enc := Value.int .i64) (zs := l) hown hne
    simp only [Value.slice.injEq] at hv
    obtain ⟨rfl, -, rfl⟩ := hv
    refine (Tryd.slices_Sort_int g 0 c l W hH hlt (by omega)).mono ?_
    rintro e w' ⟨rfl, n, os, rfl⟩
    rw [hx]
    have hxl : x.length = l.length := by rw [← hx]; exact (List.mergeSort_perm _ _).length_eq
    have h := Lib.ownsRow_putRow (enc := Value.int .i64) (zs := l) (ys := x) (q := n) (k := l.length) hown hxl (Nat.le_refl _)
    rw [← hxl, List.take_length, hxl] at h
    have hg : Below (putRow (Value.int .i64) (Sort.ahead W n) g 0 x.toArray).heap.size (putRow (Value.int .i64) (Sort.ahead W n) g 0 x.toArray) (Sort.grow (putRow (Value.int .i64) (Sort.ahead W n) g 0 x.toArray) os) := (show Grows _ _ from ⟨0, os, rfl⟩).below
    exact ⟨rfl, row_below h hg, bthen (Lib.below_putRow hb hge) hg⟩

theorem loops_is (ao : Option Addr) (ca : Nat) (l : List Int) (r : Bool) (hr : Is.loops l = r) (W : World) (hA : Is.slot W ao l) (hl : l.length ≤ 320) :
    Calls Tryd.prog 24 #[.slice ao l.length ca] W fun e w' => e = .returned (.bool r) ∧ Below W.heap.size W w' := by
  obtain ⟨x, hx⟩ : ∃ x, Is.short l = x := ⟨_, rfl⟩
  obtain ⟨y, hy⟩ : ∃ y, (x.mergeSort fun x y => decide (x ≤ y)) = y := ⟨_, rfl⟩
  obtain ⟨z, hz⟩ : ∃ z, Lib.compact y = z := ⟨_, rfl⟩
  have hxl : x.length ≤ 320 := by
    rw [← hx, ← compact_short]
    exact Nat.le_trans (compact_len l) hl
  have hyl : y.length = x.length := by rw [← hy]; exact (List.mergeSort_perm _ _).length_eq
  have HR : Hid (decide (z.length < x.length) = r) := by
    show _ = _
    rw [← hr, loops_sorted, hx, hy, hz]
  have C1 := hide (short_is ao ca l x hx W hA hl)
  have C2 := hide (fun o c w1 h1 h2 => sort_is o c x y hy W w1 h1 h2 hxl)
  have C3 := hide (fun o c w1 h1 h2 => compact_is o c y z hz W w1 h1 h2 (by omega))
  clear hx hy hz hr hA
  go_enter Tryd.func24, Tryd.ntmps24
  go_wp2_with fail
  refine C1.out.mono ?_
  rintro e w1 ⟨o, c, rfl, hown, hb⟩
  have C4 := hide (C2.out o c w1 hown hb)
  clear C1 C2 hown hb
  go_wp2_with fail
  refine C4.out.mono ?_
  rintro e w2 ⟨rfl, hown, hb⟩
  have C5 := hide (C3.out o c w2 (by rw [hyl]; exact hown) hb)
  rw [hyl] at C5
  clear C3 C4 hown hb
  go_wp2_with fail
  refine C5.out.mono ?_
  rintro e w3 ⟨o3, c3, rfl, _, hb⟩
  have B3 := hide hb
  clear hb C5
  go_wp2_with fail
  go_ret
  exact ⟨ret_bool HR.out, B3.out⟩
end Go.Proofs.YtnbedjgjkoeflaaDoor
