/- The texts of attributes. -/
import Derived.Test.YtngfoijmknclhaaGreatDoorJ06
import Derived.Test.YtngfoijmknclhaaGreatDoorJ07
import Derived.Test.YtngfoijmknclhaaGreatDoorJ12
import Derived.Test.YtngfoijmknclhaaGreatDoorJ30
import Derived.Laws.MakeOwn
import Derived.Lib.SlicesCompact
import Derived.Lib.SliceRun
import Derived.Laws.IdiomCopy
namespace Go.Proofs.YtngfoijmknclhaaGreatDoor
open Go.RowKit
theorem set_may {l : List Cm.Co.C} (h : Cm.Co.set l = true) : ∀ c ∈ l, Cm.Co.may c = true := by
  intro c hc
  obtain ⟨j, hj, rfl⟩ := List.mem_iff_getElem.1 hc
  have := ((Cm.Co.set_iff l).1 h).2 j hj
  cases hm : Cm.Co.may l[j]
  · rw [Cm.Co.ok_may l j hj hm] at this
    cases this
  · rfl
end Go.Proofs.YtngfoijmknclhaaGreatDoor
namespace Go.Proofs.YtngfoijmknclhaaGreatDoor.Cm
open Go.RowKit Go.Sort Go.Lib
/-- The row of block g holds d, and may be written. -/
def Co.holds (w : World) (g : Nat) (d : Array Co.C) : Prop := ∀ i, i < d.size → w.cell? ⟨g, i * 2, none⟩ = some (.int .i64 (d[i]!).1) ∧ w.cell? ⟨g, i * 2 + 1, none⟩ = some (.int .i64 (d[i]!).2) ∧ w.frozen? ⟨g, i * 2, none⟩ = false ∧ w.frozen? ⟨g, i * 2 + 1, none⟩ = false

theorem Co.holds_below {w w' : World} {g : Nat} {d : Array Co.C} (h : Co.holds w g d) (hb : Below w.heap.size w w') : Co.holds w' g d := by
  intro i hi
  obtain ⟨h0, h1, h2, h3⟩ := h i hi
  have hg : g < w.heap.size := block_lt_of_cell h0
  exact ⟨(hb.cell (p := ⟨g, i * 2, none⟩) hg).trans h0, (hb.cell (p := ⟨g, i * 2 + 1, none⟩) hg).trans h1, (hb.frozen (p := ⟨g, i * 2, none⟩) hg).trans h2, (hb.frozen (p := ⟨g, i * 2 + 1, none⟩) hg).trans h3⟩

theorem Co.holds_set {w : World} {g : Nat} {d : Array Co.C} (h : Co.holds w g d) (k : Nat) (hk : k < d.size) (x : Co.C) : Co.holds ((w.setCell ⟨g, k * 2, none⟩ (.int .i64 x.1)).setCell ⟨g, k * 2 + 1, none⟩ (.int .i64 x.2)) g (d.setIfInBounds k x) := by
  intro i hi
  have hi' : i < d.size := by simpa using hi
  obtain ⟨h0, h1, h2, h3⟩ := h i hi'
  obtain ⟨k0, k1, k2, k3⟩ := h k hk
  by_cases e : i = k
  · subst e
    rw [getElem!_set_same d i x hi']
    have m1 : (⟨g, i * 2 + 1, none⟩ : Addr) ≠ ⟨g, i * 2, none⟩ := by intro h; injection h; omega
    have m2 : (⟨g, i * 2, none⟩ : Addr) ≠ ⟨g, i * 2 + 1, none⟩ := by intro h; injection h; omega
    refine ⟨?_, ?_, by simpa using h2, by simpa using h3⟩
    · rw [World.cell?_setCell_other (h := m1)]
      exact World.cell?_setCell_same _ _ _ h0
    · exact World.cell?_setCell_same _ _ _ (u := .int .i64 (d[i]!).2) (by rw [World.cell?_setCell_other (h := m2)]; exact h1)
  · rw [getElem!_set_other d k i x e]
    have n1 : (⟨g, k * 2, none⟩ : Addr) ≠ ⟨g, i * 2, none⟩ := by intro h; injection h; omega
    have n2 : (⟨g, k * 2 + 1, none⟩ : Addr) ≠ ⟨g, i * 2, none⟩ := by intro h; injection h; omega
    have n3 : (⟨g, k * 2, none⟩ : Addr) ≠ ⟨g, i * 2 + 1, none⟩ := by intro h; injection h; omega
    have n4 : (⟨g, k * 2 + 1, none⟩ : Addr) ≠ ⟨g, i * 2 + 1, none⟩ := by intro h; injection h; omega
    refine ⟨?_, ?_, by simpa using h2, by simpa using h3⟩
    · rw [World.cell?_setCell_other (h := n2), World.cell?_setCell_other (h := n1)]; exact h0
    · rw [World.cell?_setCell_other (h := n4), World.cell?_setCell_other (h := n3)]; exact h1

theorem Co.holds_reads {w : World} {g : Nat} {d : Array Co.C} (h : Co.holds w g d) (m : Nat) (hm : m ≤ d.size) : Co.reads w g 0 (d.toList.take m) := by
  intro j u hu
  have hj : j < (d.toList.take m).length * 2 := by have := (List.getElem?_eq_some_iff.1 hu).1; rwa [Co.cells_length] at this
  have hlen : (d.toList.take m).length = m := by simp; omega
  have hi : j / 2 < (d.toList.take m).length := by omega
  have hi' : j / 2 < d.size := by omega
  obtain ⟨h0, h1, _⟩ := h (j / 2) hi'
  obtain ⟨c0, c1⟩ := Co.cells_get (d.toList.take m) (j / 2) hi
  have e : (d.toList.take m)[j / 2] = d[j / 2]! := by simp [hi']
  rw [e] at c0 c1
  rw [Nat.zero_add]
  rcases Nat.mod_two_eq_zero_or_one j with h2 | h2
  · have ej : j / 2 * 2 = j := by omega
    rw [ej] at c0 h0
    rw [hu] at c0
    rw [Option.some.inj c0]
    exact h0
  · have ej : j / 2 * 2 + 1 = j := by omega
    rw [ej] at c1 h1
    rw [hu] at c1
    rw [Option.some.inj c1]
    exact h1

theorem below_sets {B g : Nat} {a : World} (hg : B ≤ g) : ∀ (vs : List Value) (o : Nat) (w : World), Below B a w → Below B a (w.setCells g o vs)
  | [], _, _, h => h
  | v :: r, o, _, h => below_sets hg r (o + 1) _ (h.setCell (p := ⟨g, o, none⟩) hg v)

theorem clear_run {w : World} {g k n c : Nat} {d : Array Co.C} (h : Co.holds w g d) (hk : k + n ≤ d.size) (hn : 0 < n) :
    ∃ vs, ∀ ty : TypeId, (Builtin.clear_ #[28] ty #[.slice (some ⟨g, k * 2, none⟩) n c]).run Tryz.prog w = .ok (.tuple #[]) (w.setCells g (k * 2) vs) := by
  have hzl : (Builtin.zeroCells #[Value.int .i64 0, Value.int .i64 0] n).toList.length = n * 2 := by
    have := size_zeroCells #[Value.int .i64 0, Value.int .i64 0] n
    simpa using this
  have hcell : ∀ j, j < n * 2 → (w.cell? ⟨g, k * 2 + j, none⟩).isSome = true ∧ w.frozen? ⟨g, k * 2 + j, none⟩ = false := by
    intro j hj
    obtain ⟨h0, h1, h2, h3⟩ := h (k + j / 2) (by omega)
    rcases Nat.mod_two_eq_zero_or_one j with e | e
    · rw [show k * 2 + j = (k + j / 2) * 2 by omega]
      exact ⟨by rw [h0]; rfl, h2⟩
    · rw [show k * 2 + j = (k + j / 2) * 2 + 1 by omega]
      exact ⟨by rw [h1]; rfl, h3⟩
  have hone : ∀ v ∈ (Builtin.zeroCells #[Value.int .i64 0, Value.int .i64 0] n).toList, v.oneCell' = true := by
    intro v hv
    simp only [Builtin.zeroCells, Array.toList_map, List.mem_map] at hv
    obtain ⟨i, _, rfl⟩ := hv
    rcases Nat.mod_two_eq_zero_or_one i with e | e
    · simp [e]; rfl
    · simp [e]; rfl
  have hst := run_storeCells_cells (P := Tryz.prog) g (k * 2) (Builtin.zeroCells #[Value.int .i64 0, Value.int .i64 0] n).toList 0 w (fun j hj => by rw [Nat.add_zero]; exact (hcell j (by omega)).1) (fun j hj => by rw [Nat.add_zero]; exact (hcell j (by omega)).2) hone
  simp only [Nat.add_zero] at hst
  refine ⟨(Builtin.zeroCells #[Value.int .i64 0, Value.int .i64 0] n).toList, fun ty => ?_⟩
  obtain ⟨m, rfl⟩ : ∃ m, n = m + 1 := ⟨n - 1, by omega⟩
  have hv := Tryz.zeroValue39
  have e : (Value.agg #[Value.int .i64 0, Value.int .i64 0]).cells = #[Value.int .i64 0, Value.int .i64 0] := rfl
  simp [Builtin.clear_, run_underlying Tryz.underlying28, hv, e, hst]
end Go.Proofs.YtngfoijmknclhaaGreatDoor.Cm
namespace Go.Proofs.YtngfoijmknclhaaGreatDoor.Cm
open Go.RowKit Go.Sort Go.Lib
theorem Co.comp_all (d : Array Co.C) (h : ∀ j, j < d.size → keeps d j = true) : compactUpTo d d.size = d.toList := by rw [compactUpTo_all d _ h, range_map_get]
theorem Co.comp_end {d dk : Array Co.C} {k : Nat} (h : CompInv d d.size k dk) : dk.toList.take k = compactUpTo d d.size := by
  have hs := h.size
  have hl := h.lt
  apply List.ext_getElem?
  intro j
  by_cases hj : j < k
  · rw [h.low j hj, List.getElem?_take_of_lt hj]
    simp [show j < dk.size by omega]
  · rw [List.getElem?_eq_none (l := dk.toList.take k) (by simp; omega), List.getElem?_eq_none (l := compactUpTo d d.size) (by rw [h.len]; omega)]

theorem holds_sets {w : World} {g k : Nat} {vs : List Value} {d : Array Co.C} (h : Co.holds w g d) (hk : k ≤ d.size) : Co.holds (w.setCells g (k * 2) vs) g (d.toList.take k).toArray := by
  intro i hi
  have hi2 : i < k := by simp at hi; omega
  obtain ⟨h0, h1, h2, h3⟩ := h i (by omega)
  have e : (d.toList.take k).toArray[i]! = d[i]! := by
    have : i < d.size := by omega
    simp [this, hi2]
  rw [e]
  refine ⟨?_, ?_, ?_, ?_⟩
  · rw [World.cell?_setCells_out g vs (k * 2) w ⟨g, i * 2, none⟩ (fun _ _ => .inl (by simp; omega))]; exact h0
  · rw [World.cell?_setCells_out g vs (k * 2) w ⟨g, i * 2 + 1, none⟩ (fun _ _ => .inl (by simp; omega))]; exact h1
  · rw [World.frozen?_setCells]; exact h2
  · rw [World.frozen?_setCells]; exact h3

set_option maxHeartbeats 8000000 in
set_option maxRecDepth 100000 in
theorem compact_is (g cap B : Nat) (d : Array Co.C) (w : World) (h : Co.holds w g d) (hB : B ≤ g) (hsz : d.size ≤ 100000) (hcap : d.size ≤ cap) :
    Calls Tryz.prog 172 #[.slice (some ⟨g, 0, none⟩) d.size cap] w fun e w' => e = .returned (.slice (some ⟨g, 0, none⟩) (compactUpTo d d.size).length cap) ∧ Co.holds w' g (compactUpTo d d.size).toArray ∧ Below B w w' := by
  have HH := hide h
  clear h
  by_cases h2 : d.size < 2
  · have hall := hide (Co.comp_all d (fun j hj => keeps_lt_one d j (by omega)))
    have h2' : (d.size : Int) < 2 := by omega
    have HL : Hid (d.size = (compactUpTo d d.size).length) := by show _ = _; rw [hall.out]; simp
    clear h2
    go_enter Tryz.func172, Tryz.ntmps172
    go_wp2_with fail
    go_ret
    refine ⟨?_, ?_, Below.refl _ _⟩
    · rw [← HL.out]; rfl
    · rw [hall.out]; simpa using HH.out
  · have h2' : ¬ (d.size : Int) < 2 := by omega
    have hgl : Hid (g < w.heap.size) := block_lt_of_cell (HH.out 0 (by omega)).1
    go_enter Tryz.func172, Tryz.ntmps172
    go_wp2_with fail
    go_loopw [3] (fun v wr => ∃ m : Nat, v = .int .i64 ((m + 1 : Nat) : Int) ∧ m + 1 ≤ d.size ∧ (∀ j, j < m + 1 → keeps d j = true) ∧ Below w.heap.size w wr) (fun v _ => d.size - (intOf v).toNat)
    case atStart => exact ⟨0, rfl, by omega, keeps_lt_one d, brefl w⟩
    case round =>
      obtain ⟨m, rfl, hm, hall, hbr⟩ := hrel
      have HALL := hide hall
      have HBR := hide hbr
      clear hall hbr
      by_cases hlt : m + 1 < d.size
      · have hlt' : (m : Int) + 1 < (d.size : Int) := by omega
        have hml : (m : Int) < (d.size : Int) := by omega
        have hw2 : ((m : Int) + 1 - 1) = m := by omega
        have HK := Co.holds_below HH.out HBR.out
        obtain ⟨e0, e1, _, _⟩ := HK (m + 1) hlt
        obtain ⟨f0, f1, _, _⟩ := HK m (by omega)
        clear HK
        generalize hx : d[m + 1]! = x at e0 e1
        generalize hy : d[m]! = y at f0 f1
        have HX := hide hx
        have HY := hide hy
        clear hx hy
        obtain ⟨x0, x1⟩ := x
        obtain ⟨y0, y1⟩ := y
        have r0 := fun dd os => cell_regrown e0 dd os
        have r1 := fun dd os => cell_regrown e1 dd os
        have s0 := fun dd os => cell_regrown f0 dd os
        have s1 := fun dd os => cell_regrown f1 dd os
        have hq := eqC
        have hgd := guardC
        cases hd2 : (x0 == y0 && x1 == y1)
        · have HD := hide hd2
          go_wp2_with fail
          refine wp_region_quiet_below (by kernel_rfl) (by kernel_rfl) ?_
          repeat (go_big_quiet_step (fail))
          refine wpQuiet_nil ?_
          rintro _ ⟨⟨dd, os⟩, rfl⟩
          have hb1 := below_regrown wr dd os
          generalize Sort.grow (redrawn wr dd) os = w1 at hb1
          have B1 := hide (bthen HBR.out hb1)
          clear hb1 r0 r1 s0 s1 e0 e1 f0 f1 hq hgd
          go_wp2_with fail
          refine ⟨⟨m + 1, by go_num, by omega, fun j hj => ?_, B1.out⟩, by simp [intOf] <;> omega⟩
          by_cases e : j = m + 1
          · subst e
            exact keeps_pos (by rw [HX.out, show m + 1 - 1 = m by omega, HY.out]; intro e; have := HD.out; simp at e this; exact this e.1 e.2)
          · exact HALL.out j (by omega)
        · have HD := hide hd2
          have hks : ¬ (d.size : Int) < (m : Int) + 1 := by omega
          go_wp2_with fail
          refine wp_region_quiet_below (by kernel_rfl) (by kernel_rfl) ?_
          repeat (go_big_quiet_step (fail))
          refine wpQuiet_nil ?_
          rintro _ ⟨⟨dd, os⟩, rfl⟩
          have hb1 := below_regrown wr dd os
          generalize Sort.grow (redrawn wr dd) os = w1 at hb1
          have B1 := hide (bthen HBR.out hb1)
          clear hb1 r0 r1 s0 s1 e0 e1 f0 f1 hq hgd
          go_wp2_with fail
          have HDUP := hide (keeps_neg (d := d) (m := m + 1) (by omega) (by rw [HX.out, show m + 1 - 1 = m by omega, HY.out]; have := HD.out; simp at this; rw [this.1, this.2]))
          go_loopw [3, 5] (fun v3 v5 wr => ∃ (kk j : Nat) (dk : Array Co.C), v3 = .int .i64 kk ∧ v5 = .int .i64 ((j + 1 : Nat) : Int) ∧ m + 1 + (j + 1) ≤ d.size ∧ CompInv d (m + 1 + (j + 1)) kk dk ∧ Co.holds wr g dk ∧ Below B w wr) (fun _ v5 _ => d.size - (intOf v5).toNat)
          case atStart => exact ⟨m + 1, 0, d, by go_num, rfl, by omega, CompInv.start HALL.out HDUP.out, Co.holds_below HH.out B1.out, B1.out.mono (by have := hgl.out; omega)⟩
          case round =>
            clear B1 HDUP HD
            obtain ⟨kk, j, dk, rfl, rfl, hj, hI, hho, hbr⟩ := hrel
            have hkk := hI.lt
            have hds := hI.size
            have HI := hide hI
            have HO := hide hho
            have HBB := hide hbr
            clear hbr
            by_cases hjl : m + 1 + (j + 1) < d.size
            · have hjl' : (j : Int) + 1 < ((d.size - (m + 1) : Nat) : Int) := by omega
              have hjl2 : (j : Int) < ((d.size - (m + 1) : Nat) : Int) := by omega
              have hkl' : (kk : Int) < (d.size : Int) := by omega
              have hw3 : ((j : Int) + 1 - 1) = j := by omega
              obtain ⟨e0, e1, _, _⟩ := hho (m + 1 + (j + 1)) (by omega)
              obtain ⟨f0, f1, _, _⟩ := hho (m + 1 + j) (by omega)
              obtain ⟨c0, c1, c2, c3⟩ := hho kk (by omega)
              rw [hI.high (m + 1 + (j + 1)) (by omega), show (m + 1 + (j + 1)) * 2 = (m + 1) * 2 + (j + 1) * 2 by omega] at e0 e1
              rw [hI.high (m + 1 + j) (by omega), show (m + 1 + j) * 2 = (m + 1) * 2 + j * 2 by omega] at f0 f1
              clear hho hI
              generalize hu : d[m + 1 + (j + 1)]! = u at e0 e1
              generalize hv : d[m + 1 + j]! = v at f0 f1
              generalize dk[kk]! = old at c0 c1
              have HU := hide hu
              have HV := hide hv
              clear hu hv
              obtain ⟨u0, u1⟩ := u
              obtain ⟨v0, v1⟩ := v
              have r0 := fun dd os => cell_regrown e0 dd os
              have r1 := fun dd os => cell_regrown e1 dd os
              have s0 := fun dd os => cell_regrown f0 dd os
              have s1 := fun dd os => cell_regrown f1 dd os
              have hq := neqC
              have hgd := guardC
              cases hd2 : (u0 == v0 && u1 == v1)
              · have HD := hide hd2
                go_wp2_with fail
                refine wp_region_quiet_below (by kernel_rfl) (by kernel_rfl) ?_
                repeat (go_big_quiet_step (fail))
                refine wpQuiet_nil ?_
                rintro _ ⟨⟨dd, os⟩, rfl⟩
                have hb1 := below_regrown wr dd os
                generalize Sort.grow (redrawn wr dd) os = w2 at hb1
                have HO2 := Co.holds_below HO.out hb1
                have B2 := hide (HBB.out.trans (hb1.mono (by have := HBB.out.size; have := hgl.out; omega)))
                have E0 := (hb1.cell (p := ⟨g, (m + 1) * 2 + (j + 1) * 2, none⟩) (block_lt_of_cell e0)).trans e0
                have E1 := (hb1.cell (p := ⟨g, (m + 1) * 2 + (j + 1) * 2 + 1, none⟩) (block_lt_of_cell e1)).trans e1
                have C0 := (hb1.cell (p := ⟨g, kk * 2, none⟩) (block_lt_of_cell c0)).trans c0
                have C1 := (hb1.cell (p := ⟨g, kk * 2 + 1, none⟩) (block_lt_of_cell c1)).trans c1
                have C2 := (hb1.frozen (p := ⟨g, kk * 2, none⟩) (block_lt_of_cell c0)).trans c2
                have C3 := (hb1.frozen (p := ⟨g, kk * 2 + 1, none⟩) (block_lt_of_cell c1)).trans c3
                have HOS := hide (Co.holds_set HO2 kk (by omega) (u0, u1))
                clear hb1 r0 r1 s0 s1 e0 e1 f0 f1 hq hgd c0 c1 c2 c3 HO2
                go_wp2_with fail
                refine ⟨⟨kk + 1, j + 1, dk.setIfInBounds kk (u0, u1), by go_num, by go_num, by omega, ?_, HOS.out, ?_⟩, by simp [intOf] <;> omega⟩
                · have hkp : keeps d (m + 1 + (j + 1)) = true := keeps_pos (by rw [HU.out, show m + 1 + (j + 1) - 1 = m + 1 + j by omega, HV.out]; intro e; have := HD.out; simp at e this; exact this e.1 e.2)
                  have := HI.out.keep hjl hkp
                  rw [HU.out] at this
                  exact this
                · exact (B2.out.setCell (p := ⟨g, kk * 2, none⟩) hB _).setCell (p := ⟨g, kk * 2 + 1, none⟩) hB _
              · have HD := hide hd2
                go_wp2_with fail
                refine wp_region_quiet_below (by kernel_rfl) (by kernel_rfl) ?_
                repeat (go_big_quiet_step (fail))
                refine wpQuiet_nil ?_
                rintro _ ⟨⟨dd, os⟩, rfl⟩
                have hb1 := below_regrown wr dd os
                generalize Sort.grow (redrawn wr dd) os = w2 at hb1
                have HO2 := hide (Co.holds_below HO.out hb1)
                have B2 := hide (HBB.out.trans (hb1.mono (by have := HBB.out.size; have := hgl.out; omega)))
                clear hb1 r0 r1 s0 s1 e0 e1 f0 f1 hq hgd c0 c1 c2 c3
                go_wp2_with fail
                refine ⟨⟨kk, j + 1, dk, rfl, by go_num, by omega, ?_, HO2.out, B2.out⟩, by simp [intOf] <;> omega⟩
                exact HI.out.skip (keeps_neg (by omega) (by rw [HU.out, show m + 1 + (j + 1) - 1 = m + 1 + j by omega, HV.out]; have := HD.out; simp at this; rw [this.1, this.2]))
            · have hjE : m + 1 + (j + 1) = d.size := by omega
              have hjl' : ¬ (j : Int) + 1 < ((d.size - (m + 1) : Nat) : Int) := by omega
              have hkl' : ¬ (d.size : Int) < (kk : Int) := by omega
              obtain ⟨vs, hcl⟩ := clear_run (k := kk) (n := d.size - kk) (c := cap - kk) HO.out (by omega) (by omega)
              have HE : Hid (dk.toList.take kk = compactUpTo d d.size ∧ (compactUpTo d d.size).length = kk) := by
                have h1 := HI.out
                rw [hjE] at h1
                exact ⟨Co.comp_end h1, h1.len⟩
              have HS := hide (holds_sets (vs := vs) HO.out (show kk ≤ dk.size by omega))
              have BS := hide (below_sets hB vs (kk * 2) _ HBB.out)
              clear hho hI hjE
              go_wp2_with fail
              go_ret
              refine ⟨?_, ?_, BS.out⟩
              · rw [HE.out.2]; rfl
              · rw [← HE.out.1]; exact HS.out
      · have hmE : m + 1 = d.size := by omega
        have hlt' : ¬ (m : Int) + 1 < (d.size : Int) := by omega
        have hall := hide (Co.comp_all d (fun j hj => HALL.out j (by omega)))
        have HL : Hid (d.size = (compactUpTo d d.size).length) := by show _ = _; rw [hall.out]; simp
        clear hmE
        go_wp2_with fail
        go_ret
        refine ⟨?_, ?_, HBR.out.mono (by have := hgl.out; omega)⟩
        · rw [← HL.out]; rfl
        · rw [hall.out]; simpa using Co.holds_below HH.out HBR.out
end Go.Proofs.YtngfoijmknclhaaGreatDoor.Cm
