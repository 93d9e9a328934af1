/- The contract of addr's without. -/
import Derived.Test.YtfkajefminopjabDoorY1
import Derived.Test.YtfkajefminopjabDoorU2
import Derived.Deep.RegionHeldLaw
import Derived.Deep.AppendLies
namespace Go.Proofs.YtfkajefminopjabDoor
open Go.RowKit

set_option maxHeartbeats 1000000 in
theorem without_no (a b c d : Int) (w : World) (ha : 0 ≤ a) (ha2 : a ≤ 4294967295) (hc : 0 ≤ c) (hc2 : c ≤ 4294967295) (h : (Ad.contains a b c d || Ad.contains c d a b) = false) :
    Calls Tryd.prog 17 #[.agg #[.int .u32 a, .int .i64 b], .agg #[.int .u32 c, .int .i64 d]] w fun e w' => ∃ g cap, e = .returned (.slice (some ⟨g, 0, none⟩) 1 cap) ∧ w'.ownsRow w.heap.size 25 2 (.slice (some ⟨g, 0, none⟩) 1 cap) 1 (Ad.cells [(a, b)]) ∧ Below w.heap.size w w' := by
  have HH := hide h
  clear h
  go_enter Tryd.func17, Tryd.ntmps17
  go_wp2_with fail
  refine (meets_is _ _ _ _ _ HH.out _ ha ha2 hc hc2).mono ?_
  rintro e w1 ⟨rfl, hb1⟩
  have t0 := two_below hb1 (n := w.heap.size) (a := a) (b := b) (by simp [go_sem]) (by simp [go_sem])
  obtain ⟨p0, p1, p2, _⟩ := t0
  have B1 := hide (bthen (balloc (balloc (brefl w) _) _) hb1)
  clear hb1
  go_wp2_with fail
  go_ret
  refine ⟨w1.heap.size, 1, rfl, ?_, balloc B1.out _⟩
  exact World.ownsRow_lit w1 #[.int .u32 a, .int .i64 b] 1 (B1.out.size) (by decide) rfl

theorem far_set {N L : Nat} (h : N ≠ L) (W : World) (u v : Value) (j i : Nat) : ((W.setCell ⟨N, 0, none⟩ u).setCell ⟨N, j, none⟩ v).cell? ⟨L, i, none⟩ = W.cell? ⟨L, i, none⟩ :=
  (World.cell?_setCell_far _ _ _ _ h).trans (World.cell?_setCell_far _ _ _ _ h)

theorem set_fst {W : World} {N : Nat} {u0 : Value} (h : W.cell? ⟨N, 0, none⟩ = some u0) (u v : Value) : ((W.setCell ⟨N, 0, none⟩ u).setCell ⟨N, 1, none⟩ v).cell? ⟨N, 0, none⟩ = some u := by
  rw [World.cell?_setCell_other _ _ _ _ (by simp)]
  exact World.cell?_setCell_same _ _ _ h

theorem set_snd {W : World} {N : Nat} {u0 : Value} (h : W.cell? ⟨N, 1, none⟩ = some u0) (u v : Value) : ((W.setCell ⟨N, 0, none⟩ u).setCell ⟨N, 1, none⟩ v).cell? ⟨N, 1, none⟩ = some v := by
  refine World.cell?_setCell_same (u := u0) _ _ _ ?_
  rw [World.cell?_setCell_other _ _ _ _ (by simp)]
  exact h

theorem Ad.cells_one1 (x : Int × Int) : Ad.cells [x] = Ad.enc x := by simp [Ad.cells]

set_option maxHeartbeats 2000000 in
set_option maxRecDepth 100000 in
theorem without_yes (a b c d : Int) (w : World) (ha : 0 ≤ a) (ha2 : a ≤ 4294967295) (hc : 0 ≤ c) (hc2 : c ≤ 4294967295) (hm : Ad.may a b = true) (hm2 : Ad.may c d = true) (h : Ad.contains a b c d = true) :
    Calls Tryd.prog 17 #[.agg #[.int .u32 a, .int .i64 b], .agg #[.int .u32 c, .int .i64 d]] w fun e w' => ∃ ls ao cap, e = .returned (.slice ao ls.length cap) ∧ w'.ownsRow w.heap.size 25 2 (.slice ao ls.length cap) ls.length (Ad.cells ls) ∧ Ad.good ls ∧ ls.length ≤ 32 ∧ (∀ x, Ad.cov ls x ↔ Ad.inn (a, b) x ∧ ¬ Ad.inn (c, d) x) ∧ Below w.heap.size w w' := by
  obtain ⟨i0, hi, hz0, hz1, hz2⟩ := info_parts infoPrefix
  have hh : (Ad.contains a b c d || Ad.contains c d a b) = true := by simp [h]
  have HH := hide hh
  have hb0 : 0 ≤ b := ((Ad.may_iff _ _).1 hm).1
  have hd2 : d ≤ 32 := ((Ad.may_iff _ _).1 hm2).2.1
  have hbd : b ≤ d := ((Ad.contains_iff _ _ _ _ hm hm2).1 h).1
  have HS0 := hide (Ad.split_zero a b c d ha ha2 hm h)
  have HM2 := hide hm2
  clear h hh hm hm2
  obtain ⟨n, hn⟩ := Int.eq_ofNat_of_zero_le (show 0 ≤ d - b by omega)
  go_enter Tryd.func17, Tryd.ntmps17
  go_wp2_with fail
  refine (meets_is _ _ _ _ _ HH.out _ ha ha2 hc hc2).mono ?_
  rintro e w1 ⟨rfl, hb1⟩
  obtain ⟨p0, p1, p2, _⟩ := two_below hb1 (n := w.heap.size) (a := a) (b := b) (by simp [go_sem]) (by simp [go_sem])
  obtain ⟨q0, q1, q2, _⟩ := two_below hb1 (n := w.heap.size + 1) (a := c) (b := d) (by simp [go_sem]) (by simp [go_sem])
  obtain ⟨_, hf1⟩ := bcell hb1
  have f0 : w1.frozen? ⟨w.heap.size, 0, none⟩ = false := by simp [hf1, go_sem]
  have f1 : w1.frozen? ⟨w.heap.size, 1, none⟩ = false := by simp [hf1, go_sem]
  have B1 := hide (bthen (balloc (balloc (brefl w) _) _) hb1)
  clear hb1 hf1
  go_wp2_with fail
  generalize hN : w.heap.size = N at *
  have HNN := hide hN
  clear hN
  go_loopw [5, 20] (fun v i wr => ∃ (k : Nat) (a' : Int) (ls : List (Int × Int)), k ≤ n ∧ i = .int .i64 k ∧ (∃ ao cp, v = .slice ao k cp) ∧ wr.ownsRow w1.heap.size 25 2 v k (Ad.cells ls) ∧ Ad.split a b c d k a' ls ∧
      (wr.cell? ⟨N, 0, none⟩ = some (.int .u32 a') ∧ wr.cell? ⟨N, 1, none⟩ = some (.int .i64 (b + k))) ∧ (wr.cell? ⟨N + 1, 0, none⟩ = some (.int .u32 c) ∧ wr.cell? ⟨N + 1, 1, none⟩ = some (.int .i64 d)) ∧
      (wr.frozen? ⟨N, 0, none⟩ = false ∧ wr.frozen? ⟨N, 1, none⟩ = false) ∧ w1.heap.size ≤ wr.heap.size ∧ Below N w wr) (fun _ i _ => n - (intOf i).toNat)
  case atStart =>
    exact ⟨0, a, [], Nat.zero_le _, rfl, ⟨none, 0, rfl⟩, World.ownsRow_nil _ _ _ _, HS0.out, ⟨p0, by simpa using p1⟩, ⟨q0, q1⟩, ⟨f0, f1⟩, Nat.le_refl _, B1.out⟩
  case round =>
    obtain ⟨k, a', ls, hk, rfl, ⟨ao, cp, rfl⟩, ho, hsp, ⟨c0, c1⟩, ⟨r0, r1⟩, ⟨g0, g1⟩, hsz, hbr⟩ := hrel
    have HO := hide ho
    have HSP := hide hsp
    have HOL := hide ho.lt
    have HBR := hide hbr
    clear ho hsp hbr p0 p1 q0 q1 f0 f1
    by_cases hlt : k < n
    · have ga := HSP.out.1
      have ga0 : 0 ≤ a' := ga.1
      have ga1 : a' ≤ 4294967295 := ga.2.1
      have HGA := hide ga.2.2
      clear ga
      go_wp2_with fail
      refine (halves_yes a' (b + k) _ ga0 ga1 HGA.out (by omega) (by omega)).mono ?_
      rintro e w2 ⟨rfl, hb2⟩
      obtain ⟨hc2, hf2⟩ := bcell hb2
      have hNr : N < wr.heap.size := by omega
      have hNr1 : N + 1 < wr.heap.size := by omega
      have c0' : w2.cell? ⟨N, 0, none⟩ = some (.int .u32 a') := (hc2 _ _ hNr).trans c0
      have c1' : w2.cell? ⟨N, 1, none⟩ = some (.int .i64 (b + k)) := (hc2 _ _ hNr).trans c1
      have r0' : w2.cell? ⟨N + 1, 0, none⟩ = some (.int .u32 c) := (hc2 _ _ hNr1).trans r0
      have r1' : w2.cell? ⟨N + 1, 1, none⟩ = some (.int .i64 d) := (hc2 _ _ hNr1).trans r1
      have g0' : w2.frozen? ⟨N, 0, none⟩ = false := (hf2 _ _ hNr).trans g0
      have g1' : w2.frozen? ⟨N, 1, none⟩ = false := (hf2 _ _ hNr).trans g1
      have hsz2 := hb2.size
      have hx1 : N + 1 < w2.heap.size := by omega
      have hx2 : N + 1 < w2.heap.size + 1 := by omega
      have hBB := hide (HBR.out.trans (hb2.mono (by have := HBR.out.size; omega)))
      have HO2 := hide (row_below HO.out hb2)
      clear hc2 hf2 c0 c1 r0 r1 g0 g1 hb2
      cases hcon : Ad.contains a' (b + k + 1) c d
      · go_wp2_with fail
        refine (contains_is _ _ _ _ _ hcon _ ga0 ga1 hc hc2).mono ?_
        rintro e w3 ⟨rfl, hb3⟩
        obtain ⟨l0, l1, l2, _⟩ := two_below hb3 (n := w2.heap.size) (a := a') (b := b + k + 1) (by simp [go_sem]) (by simp [go_sem])
        obtain ⟨m0, m1, m2, _⟩ := two_below hb3 (n := w2.heap.size + 1) (a := a' + Ad.sz (b + k + 1)) (b := b + k + 1) (by simp [go_sem]) (by simp [go_sem])
        obtain ⟨_, hf3⟩ := bcell hb3
        have g0'' : w3.frozen? ⟨N, 0, none⟩ = false := by simp [hf3, go_sem, g0', show N < w2.heap.size + 1 + 1 by omega, show N < w2.heap.size + 1 by omega, show N < w2.heap.size by omega]
        have g1'' : w3.frozen? ⟨N, 1, none⟩ = false := by simp [hf3, go_sem, g1', show N < w2.heap.size + 1 + 1 by omega, show N < w2.heap.size + 1 by omega, show N < w2.heap.size by omega]
        have c0'' : w3.cell? ⟨N, 0, none⟩ = some (.int .u32 a') := by
          rw [hb3.cell (p := ⟨N, 0, none⟩) (by simp; omega)]
          simp [go_sem, show N < w2.heap.size + 1 by omega, show N < w2.heap.size by omega, c0']
        have c1'' : w3.cell? ⟨N, 1, none⟩ = some (.int .i64 (b + k)) := by
          rw [hb3.cell (p := ⟨N, 1, none⟩) (by simp; omega)]
          simp [go_sem, show N < w2.heap.size + 1 by omega, show N < w2.heap.size by omega, c1']
        have r0'' : w3.cell? ⟨N + 1, 0, none⟩ = some (.int .u32 c) := by
          rw [hb3.cell (p := ⟨N + 1, 0, none⟩) (by simp; omega)]
          simp [go_sem, hx1, hx2, r0']
        have r1'' : w3.cell? ⟨N + 1, 1, none⟩ = some (.int .i64 d) := by
          rw [hb3.cell (p := ⟨N + 1, 1, none⟩) (by simp; omega)]
          simp [go_sem, hx1, hx2, r1']
        have HO3 := hide (row_below ((HO2.out.alloc _).alloc _) hb3)
        have HB3 : Hid (Below N w w3) := hBB.out.trans ((((Below.refl _ _).alloc (by have := HBR.out.size; have := HNN.out; omega) _).alloc (by have := HBR.out.size; have := HNN.out; simp; omega) _).trans (hb3.mono (by have := HBR.out.size; have := HNN.out; simp; omega)))
        have hw13 : w1.heap.size ≤ w3.heap.size := by have := hb3.size; simp at this; omega
        have hL : w1.heap.size ≤ w2.heap.size := by omega
        generalize w2.heap.size = L at *
        clear hb3 hf3 r0' r1' g0' g1' c0' c1' HO2 hBB hx1 hx2
        have hNL : N ≠ L := by omega
        have hNN1 : N ≠ N + 1 := by omega
        have hNM : N ≠ L + 1 := by omega
        have hN3 : N < w3.heap.size := by omega
        have hN4 : N + 1 < w3.heap.size := by omega
        have hsN1 : ∀ (o : Obj), N + 1 < (w3.alloc o).heap.size := fun o => by simp; omega
        have hbN1 : some (N + 1) ≠ Value.ownBlock (.slice ao k cp) := fun e => by have := HOL.out (N + 1) e.symm; omega
        have hfa : ∀ (o : Obj) (i : Nat), (w3.alloc o).frozen? ⟨N, i, none⟩ = w3.frozen? ⟨N, i, none⟩ := fun o i => World.frozen?_of_block (Below.heap_alloc w3 o N (by omega))
        have hsL : ∀ (o : Obj), L < (w3.alloc o).heap.size := fun o => by simp; omega
        have hsM : ∀ (o : Obj), L + 1 < (w3.alloc o).heap.size := fun o => by simp; omega
        have hsN : ∀ (o : Obj), N < (w3.alloc o).heap.size := fun o => by simp; omega
        have hbL : some L ≠ Value.ownBlock (.slice ao k cp) := fun e => by have := HOL.out L e.symm; omega
        have hbM : some (L + 1) ≠ Value.ownBlock (.slice ao k cp) := fun e => by have := HOL.out (L + 1) e.symm; omega
        have hbN : some N ≠ Value.ownBlock (.slice ao k cp) := fun e => by have := HOL.out N e.symm; omega
        go_wp2_with fail
        go_region_held_law (fun w' => w'.cell? ⟨L, 0, none⟩ = some (.int .u32 a') ∧ w'.cell? ⟨L, 1, none⟩ = some (.int .i64 (b + k + 1)) ∧ w'.cell? ⟨L + 1, 0, none⟩ = some (.int .u32 (a' + Ad.sz (b + k + 1))) ∧ w'.cell? ⟨L + 1, 1, none⟩ = some (.int .i64 (b + k + 1)))
          (first
            | exact ⟨l0, l1, m0, m1⟩
            | exact ⟨(World.cell?_alloc_past _ _ _ l2).trans l0, (World.cell?_alloc_past _ _ _ l2).trans l1, (World.cell?_alloc_past _ _ _ m2).trans m0, (World.cell?_alloc_past _ _ _ m2).trans m1⟩
            | exact ⟨y0, y1, y2, y3⟩
            | exact ⟨(far_set hNL _ _ _ _ _).trans y0, (far_set hNL _ _ _ _ _).trans y1, (far_set hNM _ _ _ _ _).trans y2, (far_set hNM _ _ _ _ _).trans y3⟩)
          (first
            | (refine step_append_lies _ rfl (.tmp 36) (.tmp 38) 22 rfl w1.heap.size 25 i0 (.agg #[.int .u32 0, .int .i64 0]) 2 16 Tryd.underlying22 hi hz0 hz1 hz2 rfl (by decide) (.slice ao k cp) k (Ad.cells ls) (by simp [Act.eval]) (HO3.out.alloc _) ⟨w3.heap.size, 0, none⟩ 1 1 (Ad.enc (a', b + k + 1)) (by simp [Act.eval]) rfl (by
                intro j u hj
                match j, hj with
                | 0, hj => simp [Ad.enc] at hj; subst hj; simp [Addr.add, go_sem]
                | 1, hj => simp [Ad.enc] at hj; subst hj; simp [Addr.add, go_sem]) (by intro u hu; simp [Ad.enc] at hu; rcases hu with rfl | rfl <;> rfl) (by decide) (by unfold maxLen; omega) (by omega) (by simp; omega) _ rfl ?_
               intro g' cap' w4 hown hgrow hat hlt'
               have y0 := (hgrow.cell_far ⟨L, 0, none⟩ (hsL _) hbL).trans ((World.cell?_alloc_past _ _ _ l2).trans l0)
               have y1 := (hgrow.cell_far ⟨L, 1, none⟩ (hsL _) hbL).trans ((World.cell?_alloc_past _ _ _ l2).trans l1)
               have y2 := (hgrow.cell_far ⟨L + 1, 0, none⟩ (hsM _) hbM).trans ((World.cell?_alloc_past _ _ _ m2).trans m0)
               have y3 := (hgrow.cell_far ⟨L + 1, 1, none⟩ (hsM _) hbM).trans ((World.cell?_alloc_past _ _ _ m2).trans m1)
               have z0 := (hgrow.frozen_far ⟨N, 0, none⟩ (hsN _) hbN).trans ((hfa _ _).trans g0'')
               have z1 := (hgrow.frozen_far ⟨N, 1, none⟩ (hsN _) hbN).trans ((hfa _ _).trans g1'')
               have v0 := (hgrow.cell_far ⟨N, 0, none⟩ (hsN _) hbN).trans ((World.cell?_alloc_past _ _ _ hN3).trans c0'')
               have v1 := (hgrow.cell_far ⟨N, 1, none⟩ (hsN _) hbN).trans ((World.cell?_alloc_past _ _ _ hN3).trans c1'')))
        have HOW := hide hown
        have HB4 : Hid (Below N w w4) := Below.grown (row := Value.ownBlock (.slice ao k cp)) ((HB3.out.alloc (by omega) _).drew) hgrow (by simp; omega) (fun j hj => by have := HOL.out j hj; omega)
        have x0 := (hgrow.cell_far ⟨N + 1, 0, none⟩ (hsN1 _) hbN1).trans ((World.cell?_alloc_past _ _ _ hN4).trans r0'')
        have x1 := (hgrow.cell_far ⟨N + 1, 1, none⟩ (hsN1 _) hbN1).trans ((World.cell?_alloc_past _ _ _ hN4).trans r1'')
        have h4 := hgrow.size
        clear hown hgrow hat
        go_wp2_with fail
        refine ⟨⟨k + 1, a' + Ad.sz (b + k + 1), ls ++ [(a', b + k + 1)], by omega, by go_num, ⟨_, _, rfl⟩, ?_, Ad.split_high a b c d k a' ls hb0 hd2 HM2.out (by omega) HSP.out hcon, ⟨?_, ?_⟩, ⟨(far_set hNN1 _ _ _ _ _).trans x0, (far_set hNN1 _ _ _ _ _).trans x1⟩, ⟨?_, ?_⟩, ?_, ?_⟩, by simp [intOf]; omega⟩
        · rw [Ad.cells_append, Ad.cells_one1]
          exact ownsRow_setCell_below (ownsRow_setCell_below HOW.out (a := ⟨N, 0, none⟩) p2 _) (a := ⟨N, 1, none⟩) p2 _
        · exact set_fst v0 _ _
        · rw [show b + ((k + 1 : Nat) : Int) = b + k + 1 by omega]
          exact set_snd v1 _ _
        · simpa using z0
        · simpa using z1
        · simp at h4 ⊢; omega
        · exact (HB4.out.setCell (p := ⟨N, 0, none⟩) (Nat.le_refl _) _).setCell (p := ⟨N, 1, none⟩) (Nat.le_refl _) _
      · go_wp2_with fail
        refine (contains_is _ _ _ _ _ hcon _ ga0 ga1 hc hc2).mono ?_
        rintro e w3 ⟨rfl, hb3⟩
        obtain ⟨l0, l1, l2, _⟩ := two_below hb3 (n := w2.heap.size) (a := a') (b := b + k + 1) (by simp [go_sem]) (by simp [go_sem])
        obtain ⟨m0, m1, m2, _⟩ := two_below hb3 (n := w2.heap.size + 1) (a := a' + Ad.sz (b + k + 1)) (b := b + k + 1) (by simp [go_sem]) (by simp [go_sem])
        obtain ⟨_, hf3⟩ := bcell hb3
        have g0'' : w3.frozen? ⟨N, 0, none⟩ = false := by simp [hf3, go_sem, g0', show N < w2.heap.size + 1 + 1 by omega, show N < w2.heap.size + 1 by omega, show N < w2.heap.size by omega]
        have g1'' : w3.frozen? ⟨N, 1, none⟩ = false := by simp [hf3, go_sem, g1', show N < w2.heap.size + 1 + 1 by omega, show N < w2.heap.size + 1 by omega, show N < w2.heap.size by omega]
        have c0'' : w3.cell? ⟨N, 0, none⟩ = some (.int .u32 a') := by
          rw [hb3.cell (p := ⟨N, 0, none⟩) (by simp; omega)]
          simp [go_sem, show N < w2.heap.size + 1 by omega, show N < w2.heap.size by omega, c0']
        have c1'' : w3.cell? ⟨N, 1, none⟩ = some (.int .i64 (b + k)) := by
          rw [hb3.cell (p := ⟨N, 1, none⟩) (by simp; omega)]
          simp [go_sem, show N < w2.heap.size + 1 by omega, show N < w2.heap.size by omega, c1']
        have r0'' : w3.cell? ⟨N + 1, 0, none⟩ = some (.int .u32 c) := by
          rw [hb3.cell (p := ⟨N + 1, 0, none⟩) (by simp; omega)]
          simp [go_sem, hx1, hx2, r0']
        have r1'' : w3.cell? ⟨N + 1, 1, none⟩ = some (.int .i64 d) := by
          rw [hb3.cell (p := ⟨N + 1, 1, none⟩) (by simp; omega)]
          simp [go_sem, hx1, hx2, r1']
        have HO3 := hide (row_below ((HO2.out.alloc _).alloc _) hb3)
        have HB3 : Hid (Below N w w3) := hBB.out.trans ((((Below.refl _ _).alloc (by have := HBR.out.size; have := HNN.out; omega) _).alloc (by have := HBR.out.size; have := HNN.out; simp; omega) _).trans (hb3.mono (by have := HBR.out.size; have := HNN.out; simp; omega)))
        have hw13 : w1.heap.size ≤ w3.heap.size := by have := hb3.size; simp at this; omega
        have hL : w1.heap.size ≤ w2.heap.size := by omega
        generalize w2.heap.size = L at *
        clear hb3 hf3 r0' r1' g0' g1' c0' c1' HO2 hBB hx1 hx2
        have hNL : N ≠ L := by omega
        have hNN1 : N ≠ N + 1 := by omega
        have hNM : N ≠ L + 1 := by omega
        have hN3 : N < w3.heap.size := by omega
        have hN4 : N + 1 < w3.heap.size := by omega
        have hsN1 : ∀ (o : Obj), N + 1 < (w3.alloc o).heap.size := fun o => by simp; omega
        have hbN1 : some (N + 1) ≠ Value.ownBlock (.slice ao k cp) := fun e => by have := HOL.out (N + 1) e.symm; omega
        have hfa : ∀ (o : Obj) (i : Nat), (w3.alloc o).frozen? ⟨N, i, none⟩ = w3.frozen? ⟨N, i, none⟩ := fun o i => World.frozen?_of_block (Below.heap_alloc w3 o N (by omega))
        have hsL : ∀ (o : Obj), L < (w3.alloc o).heap.size := fun o => by simp; omega
        have hsM : ∀ (o : Obj), L + 1 < (w3.alloc o).heap.size := fun o => by simp; omega
        have hsN : ∀ (o : Obj), N < (w3.alloc o).heap.size := fun o => by simp; omega
        have hbL : some L ≠ Value.ownBlock (.slice ao k cp) := fun e => by have := HOL.out L e.symm; omega
        have hbM : some (L + 1) ≠ Value.ownBlock (.slice ao k cp) := fun e => by have := HOL.out (L + 1) e.symm; omega
        have hbN : some N ≠ Value.ownBlock (.slice ao k cp) := fun e => by have := HOL.out N e.symm; omega
        go_wp2_with fail
        go_region_held_law (fun w' => w'.cell? ⟨L, 0, none⟩ = some (.int .u32 a') ∧ w'.cell? ⟨L, 1, none⟩ = some (.int .i64 (b + k + 1)) ∧ w'.cell? ⟨L + 1, 0, none⟩ = some (.int .u32 (a' + Ad.sz (b + k + 1))) ∧ w'.cell? ⟨L + 1, 1, none⟩ = some (.int .i64 (b + k + 1)))
          (first
            | exact ⟨l0, l1, m0, m1⟩
            | exact ⟨(World.cell?_alloc_past _ _ _ l2).trans l0, (World.cell?_alloc_past _ _ _ l2).trans l1, (World.cell?_alloc_past _ _ _ m2).trans m0, (World.cell?_alloc_past _ _ _ m2).trans m1⟩
            | exact ⟨y0, y1, y2, y3⟩
            | exact ⟨(far_set hNL _ _ _ _ _).trans y0, (far_set hNL _ _ _ _ _).trans y1, (far_set hNM _ _ _ _ _).trans y2, (far_set hNM _ _ _ _ _).trans y3⟩)
          (first
            | (refine step_append_lies _ rfl (.tmp 31) (.tmp 33) 22 rfl w1.heap.size 25 i0 (.agg #[.int .u32 0, .int .i64 0]) 2 16 Tryd.underlying22 hi hz0 hz1 hz2 rfl (by decide) (.slice ao k cp) k (Ad.cells ls) (by simp [Act.eval]) (HO3.out.alloc _) ⟨w3.heap.size, 0, none⟩ 1 1 (Ad.enc (a' + Ad.sz (b + k + 1), b + k + 1)) (by simp [Act.eval]) rfl (by
                intro j u hj
                match j, hj with
                | 0, hj => simp [Ad.enc] at hj; subst hj; simp [Addr.add, go_sem]
                | 1, hj => simp [Ad.enc] at hj; subst hj; simp [Addr.add, go_sem]) (by intro u hu; simp [Ad.enc] at hu; rcases hu with rfl | rfl <;> rfl) (by decide) (by unfold maxLen; omega) (by omega) (by simp; omega) _ rfl ?_
               intro g' cap' w4 hown hgrow hat hlt'
               have y0 := (hgrow.cell_far ⟨L, 0, none⟩ (hsL _) hbL).trans ((World.cell?_alloc_past _ _ _ l2).trans l0)
               have y1 := (hgrow.cell_far ⟨L, 1, none⟩ (hsL _) hbL).trans ((World.cell?_alloc_past _ _ _ l2).trans l1)
               have y2 := (hgrow.cell_far ⟨L + 1, 0, none⟩ (hsM _) hbM).trans ((World.cell?_alloc_past _ _ _ m2).trans m0)
               have y3 := (hgrow.cell_far ⟨L + 1, 1, none⟩ (hsM _) hbM).trans ((World.cell?_alloc_past _ _ _ m2).trans m1)
               have z0 := (hgrow.frozen_far ⟨N, 0, none⟩ (hsN _) hbN).trans ((hfa _ _).trans g0'')
               have z1 := (hgrow.frozen_far ⟨N, 1, none⟩ (hsN _) hbN).trans ((hfa _ _).trans g1'')
               have v0 := (hgrow.cell_far ⟨N, 0, none⟩ (hsN _) hbN).trans ((World.cell?_alloc_past _ _ _ hN3).trans c0'')
               have v1 := (hgrow.cell_far ⟨N, 1, none⟩ (hsN _) hbN).trans ((World.cell?_alloc_past _ _ _ hN3).trans c1'')))
        have HOW := hide hown
        have HB4 : Hid (Below N w w4) := Below.grown (row := Value.ownBlock (.slice ao k cp)) ((HB3.out.alloc (by omega) _).drew) hgrow (by simp; omega) (fun j hj => by have := HOL.out j hj; omega)
        have x0 := (hgrow.cell_far ⟨N + 1, 0, none⟩ (hsN1 _) hbN1).trans ((World.cell?_alloc_past _ _ _ hN4).trans r0'')
        have x1 := (hgrow.cell_far ⟨N + 1, 1, none⟩ (hsN1 _) hbN1).trans ((World.cell?_alloc_past _ _ _ hN4).trans r1'')
        have h4 := hgrow.size
        clear hown hgrow hat
        go_wp2_with fail
        refine ⟨⟨k + 1, a', ls ++ [(a' + Ad.sz (b + k + 1), b + k + 1)], by omega, by go_num, ⟨_, _, rfl⟩, ?_, Ad.split_low a b c d k a' ls hb0 hd2 (by omega) HSP.out hcon, ⟨?_, ?_⟩, ⟨(far_set hNN1 _ _ _ _ _).trans x0, (far_set hNN1 _ _ _ _ _).trans x1⟩, ⟨?_, ?_⟩, ?_, ?_⟩, by simp [intOf]; omega⟩
        · rw [Ad.cells_append, Ad.cells_one1]
          exact ownsRow_setCell_below (ownsRow_setCell_below HOW.out (a := ⟨N, 0, none⟩) p2 _) (a := ⟨N, 1, none⟩) p2 _
        · exact set_fst v0 _ _
        · rw [show b + ((k + 1 : Nat) : Int) = b + k + 1 by omega]
          exact set_snd v1 _ _
        · simpa using z0
        · simpa using z1
        · simp at h4 ⊢; omega
        · exact (HB4.out.setCell (p := ⟨N, 0, none⟩) (Nat.le_refl _) _).setCell (p := ⟨N, 1, none⟩) (Nat.le_refl _) _
    · have hkn : k = n := by omega
      subst hkn
      go_wp2_with fail
      go_ret
      have hl := HSP.out.2.2.2.1
      refine ⟨ls, ao, cp, by rw [hl]; rfl, ?_, HSP.out.2.2.1, by omega, Ad.split_end a b c d k a' ls HM2.out (by omega) HSP.out, by rw [HNN.out]; exact HBR.out⟩
      rw [hl]
      exact row_base HO.out (by have := HNN.out; omega)

set_option maxHeartbeats 2000000 in
set_option maxRecDepth 100000 in
theorem without_in (a b c d : Int) (w : World) (ha : 0 ≤ a) (ha2 : a ≤ 4294967295) (hc : 0 ≤ c) (hc2 : c ≤ 4294967295) (h0 : 0 ≤ d) (h32 : b ≤ 32) (hdb : d ≤ b) (h : Ad.contains c d a b = true) :
    Calls Tryd.prog 17 #[.agg #[.int .u32 a, .int .i64 b], .agg #[.int .u32 c, .int .i64 d]] w fun e w' => e = .returned (.slice none 0 0) ∧ Below w.heap.size w w' := by
  have hh : (Ad.contains a b c d || Ad.contains c d a b) = true := by simp [h]
  have HH := hide hh
  clear h hh
  have hneg : ¬ (0 : Int) < d - b := by omega
  go_enter Tryd.func17, Tryd.ntmps17
  go_wp2_with fail
  refine (meets_is _ _ _ _ _ HH.out _ ha ha2 hc hc2).mono ?_
  rintro e w1 ⟨rfl, hb1⟩
  obtain ⟨p0, p1, p2, _⟩ := two_below hb1 (n := w.heap.size) (a := a) (b := b) (by simp [go_sem]) (by simp [go_sem])
  obtain ⟨q0, q1, q2, _⟩ := two_below hb1 (n := w.heap.size + 1) (a := c) (b := d) (by simp [go_sem]) (by simp [go_sem])
  have B1 := hide (bthen (balloc (balloc (brefl w) _) _) hb1)
  clear hb1
  go_wp2_with fail
  refine wp_loop_rounds 1 ?_
  rw [rounds_succ]
  go_wp2_with fail
  go_ret
  exact ⟨rfl, B1.out⟩

/-- What without leaves, in all three cases. -/
theorem without_any (a b c d : Int) (w : World) (ha : 0 ≤ a) (ha2 : a ≤ 4294967295) (hc : 0 ≤ c) (hc2 : c ≤ 4294967295) (hm : Ad.may a b = true) (hm2 : Ad.may c d = true) :
    Calls Tryd.prog 17 #[.agg #[.int .u32 a, .int .i64 b], .agg #[.int .u32 c, .int .i64 d]] w fun e w' => ∃ ls ao cap, e = .returned (.slice ao ls.length cap) ∧ w'.ownsRow w.heap.size 25 2 (.slice ao ls.length cap) ls.length (Ad.cells ls) ∧ Ad.good ls ∧ ls.length ≤ 32 ∧ (∀ x, Ad.cov ls x ↔ Ad.inn (a, b) x ∧ ¬ Ad.inn (c, d) x) ∧ Below w.heap.size w w' := by
  cases h1 : Ad.contains a b c d
  · cases h2 : Ad.contains c d a b
    · refine (without_no a b c d w ha ha2 hc hc2 (by simp [h1, h2])).mono ?_
      rintro e w1 ⟨g, cap, rfl, ho, hb⟩
      refine ⟨[(a, b)], some ⟨g, 0, none⟩, cap, rfl, ho, ?_, by simp, fun x => ?_, hb⟩
      · intro y hy
        rw [List.mem_singleton.1 hy]
        exact ⟨ha, ha2, hm⟩
      · constructor
        · rintro ⟨p, hp, hx⟩
          rw [List.mem_singleton.1 hp] at hx
          exact ⟨hx, Ad.meets_none (a, b) (c, d) hm hm2 h1 h2 x hx⟩
        · rintro ⟨hx, _⟩
          exact ⟨(a, b), by simp, hx⟩
    · refine (without_in a b c d w ha ha2 hc hc2 ((Ad.may_iff _ _).1 hm2).1 ((Ad.may_iff _ _).1 hm).2.1 ((Ad.contains_iff _ _ _ _ hm2 hm).1 h2).1 h2).mono ?_
      rintro e w1 ⟨rfl, hb⟩
      refine ⟨[], none, 0, rfl, World.ownsRow_nil _ _ _ _, fun _ h => by (cases h), by decide, fun x => ?_, hb⟩
      constructor
      · rintro ⟨p, hp, _⟩; cases hp
      · rintro ⟨hx, hn⟩
        exact absurd (Ad.inside_inn (a, b) (c, d) hm hm2 h2 x hx) hn
  · exact without_yes a b c d w ha ha2 hc hc2 hm hm2 h1
end Go.Proofs.YtfkajefminopjabDoor
