import Derived.Test.YtkpoanjcalolkaaDoorPl2
import Derived.Test.YtkpoanjcalolkaaDoorH1
/- Lists of rules: where they lie; the contracts of plist's May and the document's Why and First. -/
namespace Go.Proofs.YtkpoanjcalolkaaDoor
open Go.RowKit

def Ad.cellsR (l : List Ad.R) : List Value := l.flatMap Ad.encR
def Ad.fitsR (l : List Ad.R) : Prop := ∀ x ∈ l, 0 ≤ x.1 ∧ x.1 ≤ 4294967295
def Ad.readsR (w : World) (b off : Nat) (l : List Ad.R) : Prop := ∀ j u, (Ad.cellsR l)[j]? = some u → w.cell? ⟨b, off + j, none⟩ = some u

theorem Ad.cellsR_length (l : List Ad.R) : (Ad.cellsR l).length = l.length * 5 := by
  induction l with
  | nil => rfl
  | cons x l ih => simp only [Ad.cellsR, List.flatMap_cons, List.length_append, List.length_cons] at *; simp only [Ad.encR, List.length_cons, List.length_nil]; omega

theorem Ad.cellsR_get (l : List Ad.R) (i j : Nat) (h : i < l.length) (hj : j < 5) : (Ad.cellsR l)[i * 5 + j]? = (Ad.encR l[i])[j]? := by
  induction l generalizing i with
  | nil => simp at h
  | cons x l ih =>
    cases i with
    | zero =>
      simp only [Ad.cellsR, List.flatMap_cons, Nat.zero_mul, Nat.zero_add, List.getElem_cons_zero]
      rw [List.getElem?_append_left (by simp [Ad.encR]; omega)]
    | succ i =>
      have := ih i (by simpa using h)
      simp only [Ad.cellsR, List.flatMap_cons, List.getElem_cons_succ] at *
      rw [List.getElem?_append_right (by simp [Ad.encR]; omega)]
      rw [← this]
      congr 1
      simp [Ad.encR]; omega

theorem Ad.readsR_at {w : World} {b off : Nat} {l : List Ad.R} (h : Ad.readsR w b off l) (i : Nat) (hi : i < l.length) :
    w.cell? ⟨b, off + i * 5, none⟩ = some (.int .u32 l[i].1) ∧ w.cell? ⟨b, off + i * 5 + 1, none⟩ = some (.int .i64 l[i].2.1) ∧ w.cell? ⟨b, off + i * 5 + 2, none⟩ = some (.int .i64 l[i].2.2.1) ∧ w.cell? ⟨b, off + i * 5 + 3, none⟩ = some (.int .i64 l[i].2.2.2.1) ∧ w.cell? ⟨b, off + i * 5 + 4, none⟩ = some (.bool l[i].2.2.2.2) := by
  have g := fun j hj => Ad.cellsR_get l i j hi hj
  have k := fun j u hj (hu : (Ad.encR l[i])[j]? = some u) => h (i * 5 + j) u ((g j hj).trans hu)
  refine ⟨k 0 _ (by decide) rfl, ?_, ?_, ?_, ?_⟩
  · rw [Nat.add_assoc]; exact k 1 _ (by decide) rfl
  · rw [Nat.add_assoc]; exact k 2 _ (by decide) rfl
  · rw [Nat.add_assoc]; exact k 3 _ (by decide) rfl
  · rw [Nat.add_assoc]; exact k 4 _ (by decide) rfl

theorem Ad.readsR_below {w w' : World} {b off : Nat} {l : List Ad.R} (h : Ad.readsR w b off l) (hb : Below w.heap.size w w') : Ad.readsR w' b off l := by
  intro j u hu
  have := h j u hu
  rw [hb.cell (p := ⟨b, off + j, none⟩) (block_lt_of_cell this)]
  exact this

/-- A slice at which a list of rules lies: nil has none. -/
def Ad.slotR (w : World) (ao : Option Addr) (l : List Ad.R) : Prop := l = [] ∨ ∃ b off, ao = some ⟨b, off, none⟩ ∧ Ad.readsR w b off l

theorem Ad.slotR_below {w w' : World} {ao : Option Addr} {l : List Ad.R} (h : Ad.slotR w ao l) (hb : Below w.heap.size w w') : Ad.slotR w' ao l := by
  rcases h with h | ⟨b, off, h, hr⟩
  · exact .inl h
  · exact .inr ⟨b, off, h, Ad.readsR_below hr hb⟩

theorem Ad.slotR_at {w : World} {ao : Option Addr} {l : List Ad.R} (h : Ad.slotR w ao l) {k : Nat} (hk : k < l.length) : ∃ b off, ao = some ⟨b, off, none⟩ ∧ Ad.readsR w b off l := by
  rcases h with h | h
  · rw [h] at hk; simp at hk
  · exact h

theorem Ad.rwhy_ok (l : List Ad.R) (h : l.length ≤ 16) (ha : ∀ j (hj : j < l.length), Ad.rmay l[j] = true) : Ad.rwhy l = 0 := by
  have hn : l.all Ad.rmay = true := by
    rw [List.all_eq_true]
    intro x hx
    obtain ⟨j, hj, rfl⟩ := List.getElem_of_mem hx
    exact ha j hj
  rw [Ad.rwhy, if_neg (by omega), if_pos hn]

theorem Ad.rwhy_bad (l : List Ad.R) (h : l.length ≤ 16) (k : Nat) (hk : k < l.length) (ha : Ad.rmay l[k] = false) : Ad.rwhy l = 1 := by
  have hn : l.all Ad.rmay = false := by
    rw [List.all_eq_false]
    exact ⟨l[k], List.getElem_mem hk, by simp [ha]⟩
  rw [Ad.rwhy, if_neg (by omega), if_neg (by rw [hn]; decide)]

set_option maxHeartbeats 1000000 in
theorem pmay_row (ao : Option Addr) (cap : Nat) (l : List Ad.R) (w : World) (hR : Ad.slotR w ao l) (hf : Ad.fitsR l) (hlen : l.length ≤ 16) :
    Calls Tryd.prog 11 #[.slice ao l.length cap] w fun e w' => e = .returned (.int .i64 (Ad.rwhy l)) ∧ Below w.heap.size w w' := by
  have HR := hide hR
  have HF := hide hf
  clear hR hf
  have hgt : ¬ (16 : Int) < (l.length : Int) := by omega
  go_enter Tryd.func11, Tryd.ntmps11
  go_wp2_with fail
  go_loopw [10] (fun i wr => ∃ k : Nat, k ≤ l.length ∧ i = .int .i64 k ∧ (∀ j (hj : j < l.length), j < k → Ad.rmay l[j] = true) ∧ Below w.heap.size w wr) (fun i _ => l.length - (intOf i).toNat)
  case atStart => exact ⟨0, Nat.zero_le _, rfl, fun j _ hj => absurd hj (Nat.not_lt_zero _), brefl w⟩
  case round =>
    obtain ⟨k, hk, rfl, hall, hbr⟩ := hrel
    have HALL := hide hall
    clear hall
    by_cases hlt : k < l.length
    · obtain ⟨b, off, rfl, hrd⟩ := Ad.slotR_at HR.out hlt
      obtain ⟨e0, e1, e2, e3, e4⟩ := Ad.readsR_at (Ad.readsR_below hrd hbr) k hlt
      clear hrd
      have hx := hide (HF.out l[k] (List.getElem_mem hlt))
      generalize hxx : l[k] = x at *
      obtain ⟨a, d, g, t, p⟩ := x
      have HX := hide hxx
      clear hxx
      have hx0 : 0 ≤ a := hx.out.1
      have hx1 : a ≤ 4294967295 := hx.out.2
      cases hm : Ad.rmay (a, d, g, t, p)
      · go_wp2_with fail
        refine (rmay_is _ _ _ _ _ _ hm _ hx0 hx1).mono ?_
        rintro e w1 ⟨rfl, hb1⟩
        go_wp2_with fail
        go_ret
        exact ⟨ret_int (Ad.rwhy_bad l hlen k hlt (by rw [HX.out]; exact hm)).symm, bthen (balloc hbr _) hb1⟩
      · go_wp2_with fail
        refine (rmay_is _ _ _ _ _ _ hm _ hx0 hx1).mono ?_
        rintro e w1 ⟨rfl, hb1⟩
        go_wp2_with fail
        refine ⟨⟨k + 1, by omega, by go_num, fun j hj hjk => ?_, bthen (balloc hbr _) hb1⟩, by simp [intOf]; omega⟩
        rcases Nat.lt_succ_iff_lt_or_eq.1 hjk with h1 | rfl
        · exact HALL.out j hj h1
        · rw [HX.out]; exact hm
    · go_wp2_with fail
      go_ret
      exact ⟨ret_int (Ad.rwhy_ok l hlen fun j hj => HALL.out j hj (by omega)).symm, hbr⟩

set_option maxHeartbeats 1000000 in
theorem pmay_long (a : Option Addr) (n cap : Nat) (w : World) (h : 16 < n) :
    Calls Tryd.prog 11 #[.slice a n cap] w fun e w' => e = .returned (.int .i64 2) ∧ Below w.heap.size w w' := by
  have hgt : (16 : Int) < (n : Int) := by omega
  go_enter Tryd.func11, Tryd.ntmps11
  go_wp2_with fail
  go_ret
  exact ⟨rfl, brefl w⟩

theorem pmay_any (ao : Option Addr) (cap : Nat) (l : List Ad.R) (w : World) (hR : Ad.slotR w ao l) (hf : Ad.fitsR l) :
    Calls Tryd.prog 11 #[.slice ao l.length cap] w fun e w' => e = .returned (.int .i64 (Ad.rwhy l)) ∧ Below w.heap.size w w' := by
  by_cases h : l.length ≤ 16
  · exact pmay_row ao cap l w hR hf h
  · have e : Ad.rwhy l = 2 := by rw [Ad.rwhy, if_pos (by omega)]
    rw [e]
    exact pmay_long ao l.length cap w (by omega)

set_option maxHeartbeats 1000000 in
theorem refRWhy_row (ao : Option Addr) (cap : Nat) (l : List Ad.R) (w : World) (hR : Ad.slotR w ao l) (hf : Ad.fitsR l) (hlen : l.length ≤ 16) :
    Calls Tryd.prog 12 #[.slice ao l.length cap] w fun e w' => e = .returned (.int .i64 (Ad.rwhy l)) ∧ Below w.heap.size w w' := by
  have HR := hide hR
  have HF := hide hf
  clear hR hf
  have hgt : ¬ (16 : Int) < (l.length : Int) := by omega
  go_enter Tryd.func12, Tryd.ntmps12
  go_wp2_with fail
  go_loopw [3] (fun i wr => ∃ k : Nat, k ≤ l.length ∧ i = .int .i64 k ∧ (∀ j (hj : j < l.length), j < k → Ad.rmay l[j] = true) ∧ Below w.heap.size w wr) (fun i _ => l.length - (intOf i).toNat)
  case atStart => exact ⟨0, Nat.zero_le _, rfl, fun j _ hj => absurd hj (Nat.not_lt_zero _), brefl w⟩
  case round =>
    obtain ⟨k, hk, rfl, hall, hbr⟩ := hrel
    have HALL := hide hall
    clear hall
    by_cases hlt : k < l.length
    · obtain ⟨b, off, rfl, hrd⟩ := Ad.slotR_at HR.out hlt
      obtain ⟨e0, e1, e2, e3, e4⟩ := Ad.readsR_at (Ad.readsR_below hrd hbr) k hlt
      clear hrd
      have hx := hide (HF.out l[k] (List.getElem_mem hlt))
      generalize hxx : l[k] = x at *
      obtain ⟨a, d, g, t, p⟩ := x
      have HX := hide hxx
      clear hxx
      have hx0 : 0 ≤ a := hx.out.1
      have hx1 : a ≤ 4294967295 := hx.out.2
      cases hm : Ad.rmay (a, d, g, t, p)
      · go_wp2_with fail
        refine (refRMay_is _ _ _ _ _ _ hm _ hx0 hx1).mono ?_
        rintro e w1 ⟨rfl, hb1⟩
        go_wp2_with fail
        go_ret
        exact ⟨ret_int (Ad.rwhy_bad l hlen k hlt (by rw [HX.out]; exact hm)).symm, bthen hbr hb1⟩
      · go_wp2_with fail
        refine (refRMay_is _ _ _ _ _ _ hm _ hx0 hx1).mono ?_
        rintro e w1 ⟨rfl, hb1⟩
        go_wp2_with fail
        refine ⟨⟨k + 1, by omega, by go_num, fun j hj hjk => ?_, bthen hbr hb1⟩, by simp [intOf]; omega⟩
        rcases Nat.lt_succ_iff_lt_or_eq.1 hjk with h1 | rfl
        · exact HALL.out j hj h1
        · rw [HX.out]; exact hm
    · go_wp2_with fail
      go_ret
      exact ⟨ret_int (Ad.rwhy_ok l hlen fun j hj => HALL.out j hj (by omega)).symm, hbr⟩

set_option maxHeartbeats 1000000 in
theorem refRWhy_long (a : Option Addr) (n cap : Nat) (w : World) (h : 16 < n) :
    Calls Tryd.prog 12 #[.slice a n cap] w fun e w' => e = .returned (.int .i64 2) ∧ Below w.heap.size w w' := by
  have hgt : (16 : Int) < (n : Int) := by omega
  go_enter Tryd.func12, Tryd.ntmps12
  go_wp2_with fail
  go_ret
  exact ⟨rfl, brefl w⟩

theorem refRWhy_any (ao : Option Addr) (cap : Nat) (l : List Ad.R) (w : World) (hR : Ad.slotR w ao l) (hf : Ad.fitsR l) :
    Calls Tryd.prog 12 #[.slice ao l.length cap] w fun e w' => e = .returned (.int .i64 (Ad.rwhy l)) ∧ Below w.heap.size w w' := by
  by_cases h : l.length ≤ 16
  · exact refRWhy_row ao cap l w hR hf h
  · have e : Ad.rwhy l = 2 := by rw [Ad.rwhy, if_pos (by omega)]
    rw [e]
    exact refRWhy_long ao l.length cap w (by omega)

theorem Ad.get_bang (l : List Ad.R) (k : Nat) (h : k < l.length) : l[k]! = l[k] := by simp [h]

set_option maxHeartbeats 1000000 in
theorem refFirst_any (ao : Option Addr) (cap : Nat) (l : List Ad.R) (c d : Int) (w : World) (hR : Ad.slotR w ao l) (hf : Ad.fitsR l) (hlen : l.length ≤ 1000000) (hc : 0 ≤ c) (hc2 : c ≤ 4294967295) :
    Calls Tryd.prog 22 #[.slice ao l.length cap, .agg #[.int .u32 c, .int .i64 d]] w fun e w' => e = .returned (.int .i64 (Ad.first l c d)) ∧ Below w.heap.size w w' := by
  have HR := hide hR
  have HF := hide hf
  clear hR hf
  go_enter Tryd.func22, Tryd.ntmps22
  go_wp2_with fail
  go_loopw [5] (fun i wr => ∃ k : Nat, k ≤ l.length ∧ i = .int .i64 k ∧ (∀ j, j < k → Ad.met l[j]! c d = false) ∧ Below w.heap.size w wr ∧ Two wr w.heap.size c d) (fun i _ => l.length - (intOf i).toNat)
  case atStart => exact ⟨0, Nat.zero_le _, rfl, fun j hj => absurd hj (Nat.not_lt_zero _), balloc (brefl w) _, two_of (by simp) (by simp)⟩
  case round =>
    obtain ⟨k, hk, rfl, hall, hbr, htw⟩ := hrel
    have HALL := hide hall
    clear hall
    obtain ⟨t0, t1, t2, t3⟩ := htw
    by_cases hlt : k < l.length
    · obtain ⟨b, off, rfl, hrd⟩ := Ad.slotR_at HR.out hlt
      obtain ⟨e0, e1, e2, e3, e4⟩ := Ad.readsR_at (Ad.readsR_below hrd hbr) k hlt
      clear hrd
      have hx := hide (HF.out l[k] (List.getElem_mem hlt))
      generalize hxx : l[k] = x at *
      obtain ⟨a, bb, g, t, p⟩ := x
      have HX : Hid (l[k]! = (a, bb, g, t, p)) := by show _ = _; rw [Ad.get_bang l k hlt]; exact hxx
      clear hxx
      have hx0 : 0 ≤ a := hx.out.1
      have hx1 : a ≤ 4294967295 := hx.out.2
      have r0 := fun dd os => cell_regrown e0 dd os
      have r1 := fun dd os => cell_regrown e1 dd os
      have r2 := fun dd os => cell_regrown e2 dd os
      have r3 := fun dd os => cell_regrown e3 dd os
      have r4 := fun dd os => cell_regrown e4 dd os
      have s0 := fun dd os => cell_regrown t0 dd os
      have s1 := fun dd os => cell_regrown t1 dd os
      cases hm : Ad.met (a, bb, g, t, p) c d
      · go_wp2_with fail
        refine wp_region_quiet_below (by kernel_rfl) (by kernel_rfl) ?_
        repeat (go_big_quiet_step ((go_at_call 14; exact Calls.regrown_of (refMet_is _ _ _ _ _ _ _ _ hm _ hx0 hx1 hc hc2))))
        refine wpQuiet_nil ?_
        rintro _ ⟨⟨dd, os⟩, rfl⟩
        have hb1 := below_regrown wr dd os
        generalize Sort.grow (redrawn wr dd) os = w1 at hb1
        have HT := hide (two_below hb1 t0 t1)
        go_wp2_with fail
        refine ⟨⟨k + 1, by omega, by go_num, fun j hjk => ?_, bthen hbr hb1, HT.out⟩, by simp [intOf]; omega⟩
        rcases Nat.lt_succ_iff_lt_or_eq.1 hjk with h1 | rfl
        · exact HALL.out j h1
        · rw [HX.out]; exact hm
      · go_wp2_with fail
        refine wp_region_quiet_below (by kernel_rfl) (by kernel_rfl) ?_
        repeat (go_big_quiet_step ((go_at_call 14; exact Calls.regrown_of (refMet_is _ _ _ _ _ _ _ _ hm _ hx0 hx1 hc hc2))))
        refine wpQuiet_nil ?_
        rintro _ ⟨⟨dd, os⟩, rfl⟩
        have hb1 := below_regrown wr dd os
        generalize Sort.grow (redrawn wr dd) os = w1 at hb1
        go_wp2_with fail
        go_ret
        exact ⟨ret_int (Ad.first_hit l c d k hlt (by rw [HX.out]; exact hm) HALL.out).symm, bthen hbr hb1⟩
    · go_wp2_with fail
      go_ret
      exact ⟨ret_int (Ad.first_miss l c d fun j hj => HALL.out j (by omega)).symm, hbr⟩
end Go.Proofs.YtkpoanjcalolkaaDoor
