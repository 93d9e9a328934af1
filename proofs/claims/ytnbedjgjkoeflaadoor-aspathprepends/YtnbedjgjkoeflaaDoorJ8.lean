/- The law AspathPrepends, over the contracts of the program's functions. -/
import Derived.Test.YtnbedjgjkoeflaaDoorJ5
import Derived.Laws.MakeOwn
import Derived.Laws.CopyOwn
import Derived.Laws.OwnMore
namespace Go.Proofs.YtnbedjgjkoeflaaDoor
open Go.RowKit Go.Sort

theorem Is.slot_set {w : World} {o : Option Addr} {l : List Int} (h : Is.slot w o l) (g j : Nat) (v : Value) (hne : l = [] ∨ ∀ ad, o = some ad → ad.block ≠ g) : Is.slot (w.setCell ⟨g, j, none⟩ v) o l := by
  rcases h with h | ⟨b, off, rfl, hr⟩
  · exact .inl h
  · rcases hne with h | hne
    · exact .inl h
    · refine .inr ⟨b, off, rfl, fun i hi => ?_⟩
      have hb : b ≠ g := hne _ rfl
      rw [World.cell?_setCell_other (h := by intro e; cases e; exact hb rfl)]
      exact hr i hi
/-- Behind Prepend: the row x that may be written, and another list y apart from it. -/
def PSt (W3 : World) (o : Option Addr) (c : Nat) (oy : Option Addr) (y u : List Int) (wr : World) : Prop :=
  (u = [] ∨ wr.ownsRow W3.heap.size 3 1 (.slice o u.length c) u.length (Is.cells u)) ∧ Below W3.heap.size W3 wr ∧ Is.slot wr oy y ∧ (y = [] ∨ u = [] ∨ ∀ ad bd, o = some ad → oy = some bd → bd.block ≠ ad.block)
theorem PSt.round {W3 : World} {o : Option Addr} {c : Nat} {oy : Option Addr} {y u : List Int} {wr : World} (h : PSt W3 o c oy y u wr) (k : Nat) (hk : k < u.length) :
    ∃ g, o = some ⟨g, 0, none⟩ ∧ wr.cell? ⟨g, k, none⟩ = some (.int .i64 u[k]) ∧ wr.frozen? ⟨g, k, none⟩ = false ∧ ∀ v, PSt W3 o c oy y (u.set k v) (wr.setCell ⟨g, k, none⟩ (.int .i64 v)) := by
  obtain ⟨hown, hb, hs, hne⟩ := h
  have hown := hown.resolve_left (by intro e; subst e; simp at hk)
  obtain ⟨g, rfl, hge⟩ : ∃ g, o = some ⟨g, 0, none⟩ ∧ W3.heap.size ≤ g := by
    rcases hown.2 with ⟨_, h⟩ | ⟨g, cap', cur, hv, hge, _⟩
    · omega
    · simp only [Value.slice.injEq] at hv
      exact ⟨g, hv.1, hge⟩
  refine ⟨g, rfl, ?_, hown.frozenAt k, fun v => ⟨.inr ?_, bset hb (p := ⟨g, k, none⟩) hge _, ?_, ?_⟩⟩
  · rw [hown.cellAt k (by omega)]
    simp [Is.cells, hk]
  · have := (hown.stored k (.int .i64 v)).1
    rw [List.length_set]
    have e : Is.cells (u.set k v) = (Is.cells u).set k (.int .i64 v) := by simp [Is.cells, List.map_set]
    rw [e]
    exact this
  · refine Is.slot_set hs g k _ ?_
    rcases hne with h | h | h
    · exact .inl h
    · rw [h] at hk; simp at hk
    · exact .inr fun bd hbd => h _ bd rfl hbd
  · rcases hne with h | h | h
    · exact .inl h
    · rw [h] at hk; simp at hk
    · exact .inr (.inr h)

theorem room_cells (w' : World) (B g n : Nat) (h : w'.ownsRow B 3 1 (.slice (some ⟨g, 0, none⟩) n n) n (madeCells (Value.int .i64 0).cells (n * 1)).toList) : w'.heap[g]? = some (.cells (List.replicate n (Value.int .i64 0)).toArray 3 (0, 0)) := by
  rcases h.2 with ⟨hv, _⟩ | ⟨g', cap, cur, hv, _, hg, _, _, hcs, htk⟩
  · simp at hv
  · simp only [Value.slice.injEq, Option.some.injEq, Addr.mk.injEq, and_true, true_and] at hv
    obtain ⟨rfl, rfl⟩ := hv
    have e : cur.toList = (madeCells (Value.int .i64 0).cells (n * 1)).toList := by
      rw [← htk, List.take_of_length_le (by rw [Array.length_toList, hcs]; exact Nat.le_refl _)]
    have e2 : (madeCells (Value.int .i64 0).cells (n * 1)).toList = List.replicate n (Value.int .i64 0) := by
      refine List.ext_getElem (by simp [size_madeCells]) fun i h1 h2 => ?_
      simp [madeCells, Value.cells, Nat.mod_one]
    rw [hg]
    congr 2
    apply Array.ext'
    rw [e, e2]

theorem Is.prepend_small (l : List Int) (n t : Int) (x : List Int) (q : Int) (h : Is.prepend l n t = (x, q)) : x.length ≤ 16 ∧ ∀ v ∈ x, 0 < v ∧ v < 65536 := by
  by_cases hq : q = 0
  · subst hq
    obtain ⟨_, h1, _, _, h2⟩ := Is.prepend_ok l n t x h
    exact ⟨h1, fun v hv => (Is.as_iff v).1 (((Is.may_all x).1 h2).2 v hv)⟩
  · rw [Is.prepend_bad l n t x q h hq]
    exact ⟨by decide, by simp⟩

theorem PSt.below {W3 : World} {o : Option Addr} {c : Nat} {oy : Option Addr} {y u : List Int} {wr w' : World} (h : PSt W3 o c oy y u wr) (hb : Below wr.heap.size wr w') : PSt W3 o c oy y u w' :=
  ⟨h.1.imp id fun h => row_below h hb, bthen h.2.1 hb, Is.slot_below h.2.2.1 hb, h.2.2.2⟩
theorem up_step (x : List Int) (k : Nat) (hk : k < x.length) : ((x.take k).map (· + 1) ++ x.drop k).set k (x[k] + 1) = (x.take (k + 1)).map (· + 1) ++ x.drop (k + 1) := by
  rw [List.set_append_right _ _ (by simp; omega), List.length_map, List.length_take, Nat.min_eq_left (by omega), Nat.sub_self, List.drop_eq_getElem_cons hk, List.set_cons_zero, List.take_succ_eq_append_getElem hk, List.map_append]
  simp
theorem up_get (x : List Int) (k : Nat) (hk : k < x.length) (hk' : k < ((x.take k).map (· + 1) ++ x.drop k).length) : ((x.take k).map (· + 1) ++ x.drop k)[k] = x[k] := by
  rw [List.getElem_append_right (by simp; omega)]
  simp [Nat.min_eq_left (show k ≤ x.length by omega)]
theorem down_step (x : List Int) (k : Nat) (hk : k < x.length) : (x.take k ++ (x.drop k).map (· + 1)).set k x[k] = x.take (k + 1) ++ (x.drop (k + 1)).map (· + 1) := by
  rw [List.set_append_right _ _ (by simp; omega), List.length_take, Nat.min_eq_left (by omega), Nat.sub_self, List.drop_eq_getElem_cons hk, List.map_cons, List.set_cons_zero, List.take_succ_eq_append_getElem hk, List.append_assoc]
  rfl
theorem down_get (x : List Int) (k : Nat) (hk : k < x.length) (hk' : k < (x.take k ++ (x.drop k).map (· + 1)).length) : (x.take k ++ (x.drop k).map (· + 1))[k] = x[k] + 1 := by
  rw [List.getElem_append_right (by simp; omega)]
  simp [Nat.min_eq_left (show k ≤ x.length by omega)]
/-- Where what is copied comes from. -/
def Src (w2 : World) (g : Nat) (ao : Option Addr) (l : List Int) : Prop := 0 < (Is.cells l).length → some (⟨g, 0, none⟩ : Addr) = some ⟨g, 0, none⟩ ∧ ∃ ad, ao = some ad ∧ ∀ j v, (Is.cells l)[j]? = some v → w2.cell? (ad.add j) = some v
theorem infoSz : (Tryd.prog.info? 3).map (·.size) = some 1 := by kernel_rfl

set_option maxHeartbeats 4000000 in
theorem pre_long {T : World → Prop} (K : Kit T) (ao : Option Addr) (ca na : Nat) (n t : Int) (w : World) (hT : T w) (h : 300 < na) :
    Calls Tryd.prog 4 #[.slice ao na ca, .int .i64 n, .int .i64 t] w fun e w' => e = .returned (.bool true) ∧ Below w.heap.size w w' := by
  have CL := hide (lives_is K w hT)
  have F1 := hide (fun W => few_is ao na ca false (by simp; omega) W)
  clear hT h
  go_enter Tryd.func4, Tryd.ntmps4
  go_wp2_with fail
  refine (F1.out _).mono ?_
  rintro e w1 ⟨rfl, rfl⟩
  go_wp2_with fail
  refine CL.out.mono ?_
  rintro e w2 ⟨rfl, hb2⟩
  go_wp2_with fail
  go_ret
  exact ⟨rfl, hb2⟩

set_option maxRecDepth 10000 in
set_option maxHeartbeats 8000000 in
theorem pre_short {T : World → Prop} (K : Kit T) (ao : Option Addr) (ca : Nat) (l : List Int) (n t : Int) (x : List Int) (q : Int) (w : World) (hT : T w) (hA : Is.slot w ao l) (cA : came ao ca) (hl : l.length ≤ 300) (h : Is.prepend l n t = (x, q)) :
    Calls Tryd.prog 4 #[.slice ao l.length ca, .int .i64 n, .int .i64 t] w fun e w' => e = .returned (.bool true) ∧ Below w.heap.size w w' := by
  obtain ⟨hx16, hxs⟩ := Is.prepend_small l n t x q h
  have HXS := hide hxs
  have F1 := hide (fun W => few_is ao l.length ca true (by simpa using hl) W)
  obtain ⟨i0, hi, hz0, hz1, hz2⟩ := info_partsI
  obtain ⟨w2, hmk, hown, hgr⟩ := run_makeSlice_full w w.heap.size 22 3 i0 _ 1 Tryd.underlying22 hi hz0 hz1 .i64 .i64 (l.length + 20) (by omega) (by rw [hz2]; omega) (by unfold maxLen; omega) (Nat.le_refl _)
  have B2 := hide (Below.grown (brefl w) hgr (Nat.le_refl _) (fun k hk => by cases hk))
  have hrm := hide (room_cells w2 _ _ _ hown)
  rw [show (((l.length + 20 : Nat)) : Int) = (l.length : Int) + 20 by omega] at hmk
  have HPOS : Src w2 w.heap.size ao l := by
    intro h0
    rw [Is.cells_length] at h0
    obtain ⟨b, off, rfl, hrd⟩ := Is.slot_at hA h0
    refine ⟨rfl, _, rfl, fun j v hv => ?_⟩
    obtain ⟨hj, rfl⟩ := Is.cells_get l j v hv
    rw [show (⟨b, off, none⟩ : Addr).add j = ⟨b, off + j, none⟩ by unfold Addr.add; split <;> simp_all]
    exact Is.reads_below hrd B2.out j hj
  have HT := hide hT
  have HA := hide hA
  have HC := hide cA
  have HH := hide h
  have CL := hide (fun W (hW : Below w.heap.size w W) => lives_is K W (K.on hT hW))
  clear hT hA cA h hi hz0 hz1 hz2 hown hgr hxs
  go_enter Tryd.func4, Tryd.ntmps4
  go_wp2_with fail
  refine (F1.out _).mono ?_
  rintro e w1 ⟨rfl, rfl⟩
  go_wp2_with (refine wpList_copy_splice rfl _ _ 22 22 rfl 3 Tryd.underlying22 infoSz (some ⟨w1.heap.size, 0, none⟩) ao (l.length + 20) (l.length + 20) l.length ca rfl rfl w1.heap.size 0 (List.replicate (l.length + 20) (.int .i64 0)) 3 hrm.out (Is.cells l) (by rw [Is.cells_length]; exact (Nat.min_eq_left (by omega)).symm) HPOS (by rw [Is.cells_length, List.length_replicate]; omega) (Is.cells_one l) w1.heap.size w1 B2.out (Nat.le_refl _) ?_)
  intro w3 hg3 hb3
  obtain ⟨rm, hrmd⟩ : ∃ rm, rm = l ++ List.replicate 20 0 := ⟨_, rfl⟩
  have HRM := hide hrmd
  have hrl : rm.length = l.length + 20 := by rw [hrmd]; simp
  have RD3 : Hid (Is.reads w3 w1.heap.size 0 rm) := by
    intro j hj
    rw [Nat.zero_add, cell_of_row w3 w1.heap.size j _ 3 (0, 0) hg3.out]
    have e : splice (List.replicate (l.length + 20) (Value.int .i64 0)) 0 (Is.cells l) = Is.cells rm := by
      rw [hrmd, Is.cells_app]
      simp [splice, Is.cells]
    rw [e]
    simp [Is.cells, hj]
  have SL3 : Hid (Is.slot w3 (some ⟨w1.heap.size, 0, none⟩) l) := by
    refine .inr ⟨_, 0, rfl, fun j hj => ?_⟩
    have := RD3.out j (by omega)
    rw [this]
    congr 2
    simp only [hrmd]
    rw [List.getElem_append_left hj]
  have B3 := hide hb3
  have CP := hide (K.prepend (some ⟨w1.heap.size, 0, none⟩) (l.length + 20) l n t x q HH.out w3 (K.on HT.out hb3) SL3.out (came_some _ _ _) (by omega))
  clear hg3 hb3 hrm HPOS hmk hrmd B2
  generalize w1.heap.size = G at RD3 SL3 CP ⊢
  go_wp2_with fail
  refine CP.out.mono ?_
  rintro e w4 ⟨o1, c1, rfl, hown, hb4⟩
  have O4 := hide hown
  have B4 := hide (bthen B3.out hb4)
  have D4 := hide hb4
  have CQ := hide (refPrepend_is ao ca l n t x q HH.out w4 (Is.slot_below HA.out B4.out) HC.out hl)
  clear hown hb4 CP SL3
  go_wp2_with fail
  refine CQ.out.mono ?_
  rintro e w5 ⟨o2, c2, rfl, hown, hb5⟩
  have HST : Hid (PSt w3 o1 c1 o2 x x w5) := by
    refine ⟨O4.out.1.imp id fun h => row_below h hb5, bthen D4.out hb5, Is.slot_own hown, ?_⟩
    by_cases hx0 : x = []
    · exact .inl hx0
    · refine .inr (.inr fun ad bd had hbd => ?_)
      have hpos : 0 < x.length := List.length_pos_iff.2 hx0
      have h1 : ad.block < w4.heap.size := by
        rcases (O4.out.1.resolve_left hx0).2 with ⟨_, h⟩ | ⟨g, cap', cur, hv, _, hg, _⟩
        · omega
        · simp only [Value.slice.injEq] at hv
          rw [hv.1] at had
          cases had
          exact heap_lt hg
      have h2 : w4.heap.size ≤ bd.block := by
        rcases hown.2 with ⟨_, h⟩ | ⟨g, cap', cur, hv, hge, _⟩
        · omega
        · simp only [Value.slice.injEq] at hv
          rw [hv.1] at hbd
          cases hbd
          exact hge
      omega
  clear hown hb5 CQ O4 B4 D4
  go_wp2_with fail
  go_loopw [12] (fun v wr => ∃ (k : Nat) (u : List Int), v = .int .i64 k ∧ k ≤ x.length ∧ Hid (u = (x.take k).map (· + 1) ++ x.drop k) ∧ u.length = x.length ∧ PSt w3 o1 c1 o2 x u wr) (fun v _ => x.length - (intOf v).toNat)
  case atStart => exact ⟨0, x, rfl, Nat.zero_le _, hide (by simp), rfl, HST.out⟩
  case round =>
    clear HST
    obtain ⟨k, u, rfl, hk, HU, hul, hst⟩ := hrel
    by_cases hkl : k < x.length
    · have hkl' : (k : Int) < (x.length : Int) := by omega
      obtain ⟨g, rfl, c0, f0, hnx⟩ := hst.round k (by omega)
      have hbd := HXS.out x[k] (List.getElem_mem hkl)
      have hget : u[k]'(by omega) = x[k] := by simp only [HU.out]; exact up_get x k hkl _
      have HNU : Hid (u.set k (x[k] + 1) = (x.take (k + 1)).map (· + 1) ++ x.drop (k + 1)) := by
        show _ = _
        rw [HU.out]
        exact up_step x k hkl
      have HNX := hide (hnx (x[k] + 1))
      rw [hget] at c0
      have HUL : Hid ((u.set k (x[k] + 1)).length = x.length) := by show _ = _; rw [List.length_set]; exact hul
      clear hnx hst hget hul
      generalize x[k] = z at *
      obtain ⟨z0, z1⟩ := hbd
      go_wp2_with fail
      exact ⟨⟨k + 1, u.set k (z + 1), by go_num, by omega, HNU, HUL.out, HNX.out⟩, by simp [intOf] <;> omega⟩
    · have hkl' : ¬ (k : Int) < (x.length : Int) := by omega
      obtain rfl : k = x.length := by omega
      have HST := hide hst
      have HU2 : Hid (u = x.map (· + 1)) := by show _ = _; rw [HU.out]; simp
      clear hst HU hul
      obtain ⟨W6, hW6⟩ : ∃ W6, W6 = wr := ⟨_, rfl⟩
      rw [← hW6] at HST ⊢
      clear hW6
      have RR := hide (fun W (hW : Below W6.heap.size W6 W) => Is.reads_below RD3.out (bthen HST.out.2.1 hW))
      have RP := hide (fun W (hW : Below W6.heap.size W6 W) => Is.slot_below HA.out (bthen (bthen B3.out HST.out.2.1) hW))
      clear RD3
      go_wp2_with fail
      go_loopw [13] (fun v wr => ∃ j : Nat, v = .int .i64 j ∧ j ≤ l.length + 20 ∧ Below W6.heap.size W6 wr) (fun v _ => l.length + 20 - (intOf v).toNat)
      case atStart => exact ⟨0, rfl, Nat.zero_le _, brefl _⟩
      case round =>
        obtain ⟨j, rfl, hj, hbq⟩ := hrel
        have HBQ := hide hbq
        clear hbq
        by_cases hjr : j < l.length + 20
        · have hjr' : (j : Int) < (l.length : Int) + 20 := by omega
          have e0 := RR.out _ HBQ.out j (by omega)
          rw [Nat.zero_add] at e0
          by_cases hjl : j < l.length
          · have hjl' : (j : Int) < (l.length : Int) := by omega
            have hv : rm[j]'(by omega) = l[j] := by simp only [HRM.out]; exact List.getElem_append_left hjl
            rw [hv] at e0
            obtain ⟨b, off, rfl, hrd⟩ := Is.slot_at (RP.out _ HBQ.out) hjl
            have e1 := hrd j hjl
            clear hrd hv
            generalize l[j] = z at *
            have r0 := fun dd os => cell_regrown e0 dd os
            have r1 := fun dd os => cell_regrown e1 dd os
            go_wp2_with fail
            have hjd : decide ((l.length : Int) ≤ (j : Int)) = false := decide_eq_false (by omega)
            have hjn : decide (l.length ≤ j) = false := decide_eq_false (by omega)
            refine wp_region_quiet_below (by kernel_rfl) (by kernel_rfl) ?_
            repeat (go_big_quiet_step (fail))
            refine wpQuiet_nil ?_
            rintro _ ⟨⟨dd, os⟩, rfl⟩
            have hb7 := below_regrown wr dd os
            generalize Sort.grow (redrawn wr dd) os = w7 at hb7
            have B7 := hide (bthen HBQ.out hb7)
            clear hb7 r0 r1 e0 e1
            go_wp2_with fail
            exact ⟨⟨j + 1, by go_num, by omega, B7.out⟩, by simp [intOf] <;> omega⟩
          · have hjl' : (l.length : Int) ≤ (j : Int) := by omega
            have hv : rm[j]'(by omega) = 0 := by simp only [HRM.out]; rw [List.getElem_append_right (by omega), List.getElem_replicate]
            rw [hv] at e0
            clear hv
            have r0 := fun dd os => cell_regrown e0 dd os
            go_wp2_with fail
            have hjd : decide ((j : Int) < (l.length : Int)) = false := decide_eq_false (by omega)
            have hjn : decide (j < l.length) = false := decide_eq_false (by omega)
            refine wp_region_quiet_below (by kernel_rfl) (by kernel_rfl) ?_
            repeat (go_big_quiet_step (fail))
            refine wpQuiet_nil ?_
            rintro _ ⟨⟨dd, os⟩, rfl⟩
            have hb7 := below_regrown wr dd os
            generalize Sort.grow (redrawn wr dd) os = w7 at hb7
            have B7 := hide (bthen HBQ.out hb7)
            clear hb7 r0 e0
            go_wp2_with fail
            exact ⟨⟨j + 1, by go_num, by omega, B7.out⟩, by simp [intOf] <;> omega⟩
        · have hjr' : ¬ (j : Int) < (l.length : Int) + 20 := by omega
          obtain rfl : j = l.length + 20 := by omega
          have HST := hide (HST.out.below HBQ.out)
          clear HBQ RR RP
          go_wp2_with fail
          go_loopw [14] (fun v wr => ∃ (k : Nat) (u : List Int), v = .int .i64 k ∧ k ≤ x.length ∧ Hid (u = x.take k ++ (x.drop k).map (· + 1)) ∧ u.length = x.length ∧ PSt w3 o1 c1 o2 x u wr) (fun v _ => x.length - (intOf v).toNat)
          case atStart => exact ⟨0, u, rfl, Nat.zero_le _, hide (by rw [HU2.out]; simp), by rw [HU2.out]; simp, HST.out⟩
          case round =>
            clear HST HU2
            obtain ⟨k, u, rfl, hk, HU, hul, hst⟩ := hrel
            by_cases hkl : k < x.length
            · have hkl' : (k : Int) < (x.length : Int) := by omega
              obtain ⟨g, rfl, c0, f0, hnx⟩ := hst.round k (by omega)
              have hbd := HXS.out x[k] (List.getElem_mem hkl)
              have hget : u[k]'(by omega) = x[k] + 1 := by simp only [HU.out]; exact down_get x k hkl _
              have HNU : Hid (u.set k x[k] = x.take (k + 1) ++ (x.drop (k + 1)).map (· + 1)) := by
                show _ = _
                rw [HU.out]
                exact down_step x k hkl
              have HNX := hide (hnx x[k])
              rw [hget] at c0
              have HUL : Hid ((u.set k x[k]).length = x.length) := by show _ = _; rw [List.length_set]; exact hul
              clear hnx hst hget hul
              generalize x[k] = z at *
              obtain ⟨z0, z1⟩ := hbd
              go_wp2_with fail
              exact ⟨⟨k + 1, u.set k z, by go_num, by omega, HNU, HUL.out, HNX.out⟩, by simp [intOf] <;> omega⟩
            · have hkl' : ¬ (k : Int) < (x.length : Int) := by omega
              obtain rfl : k = x.length := by omega
              obtain rfl : u = x := by rw [HU.out]; simp
              have B8 := hide (bthen B3.out hst.2.1)
              have CS := hide (same_is o1 o2 c1 c2 u u true (by simp) wr (hst.1.elim .inl Is.slot_own) hst.2.2.1 (by omega))
              clear hst HU hul
              go_wp2_with fail
              refine CS.out.mono ?_
              rintro e w9 ⟨rfl, hb9⟩
              have B9 := hide (bthen B8.out hb9)
              clear hb9 CS
              go_wp2_with fail
              refine (CL.out _ B9.out).mono ?_
              rintro e w10 ⟨rfl, hb10⟩
              go_wp2_with fail
              go_ret
              exact ⟨rfl, bthen B9.out hb10⟩

theorem pre_law {T : World → Prop} (K : Kit T) (ao : Option Addr) (ca : Nat) (l : List Int) (n t : Int) (w : World) (hT : T w) (hA : Is.slot w ao l) (cA : came ao ca) :
    Calls Tryd.prog 4 #[.slice ao l.length ca, .int .i64 n, .int .i64 t] w fun e w' => e = .returned (.bool true) ∧ Below w.heap.size w w' := by
  by_cases ha : l.length ≤ 300
  · exact pre_short K ao ca l n t _ _ w hT hA cA ha rfl
  · exact pre_long K ao ca _ n t w hT (by omega)
end Go.Proofs.YtnbedjgjkoeflaaDoor
