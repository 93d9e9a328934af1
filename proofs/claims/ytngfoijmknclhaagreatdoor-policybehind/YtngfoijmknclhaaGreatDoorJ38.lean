/- The program's Copy. -/
import Derived.Test.YtngfoijmknclhaaGreatDoorJ33
import Derived.Test.YtngfoijmknclhaaGreatDoorJ37
namespace Go.Proofs.YtngfoijmknclhaaGreatDoor
open Go.RowKit Go.Sort
theorem put_at0 {w : World} {p t : Nat} {z0 z1 z2 z3 z4 z5 z6 : Value} (h : w.heap[p]? = some (.cells #[z0, z1, z2, z3, z4, z5, z6] t (0, 0))) (v : Value) : (w.setCell ⟨p, 0, none⟩ v).heap[p]? = some (.cells #[v, z1, z2, z3, z4, z5, z6] t (0, 0)) := by
  rw [heap_setCell_same w p 0 _ t v h]
  simp
theorem put_at1 {w : World} {p t : Nat} {z0 z1 z2 z3 z4 z5 z6 : Value} (h : w.heap[p]? = some (.cells #[z0, z1, z2, z3, z4, z5, z6] t (0, 0))) (v : Value) : (w.setCell ⟨p, 1, none⟩ v).heap[p]? = some (.cells #[z0, v, z2, z3, z4, z5, z6] t (0, 0)) := by
  rw [heap_setCell_same w p 1 _ t v h]
  simp
theorem put_at2 {w : World} {p t : Nat} {z0 z1 z2 z3 z4 z5 z6 : Value} (h : w.heap[p]? = some (.cells #[z0, z1, z2, z3, z4, z5, z6] t (0, 0))) (v : Value) : (w.setCell ⟨p, 2, none⟩ v).heap[p]? = some (.cells #[z0, z1, v, z3, z4, z5, z6] t (0, 0)) := by
  rw [heap_setCell_same w p 2 _ t v h]
  simp
theorem put_at3 {w : World} {p t : Nat} {z0 z1 z2 z3 z4 z5 z6 : Value} (h : w.heap[p]? = some (.cells #[z0, z1, z2, z3, z4, z5, z6] t (0, 0))) (v : Value) : (w.setCell ⟨p, 3, none⟩ v).heap[p]? = some (.cells #[z0, z1, z2, v, z4, z5, z6] t (0, 0)) := by
  rw [heap_setCell_same w p 3 _ t v h]
  simp
theorem put_at4 {w : World} {p t : Nat} {z0 z1 z2 z3 z4 z5 z6 : Value} (h : w.heap[p]? = some (.cells #[z0, z1, z2, z3, z4, z5, z6] t (0, 0))) (v : Value) : (w.setCell ⟨p, 4, none⟩ v).heap[p]? = some (.cells #[z0, z1, z2, z3, v, z5, z6] t (0, 0)) := by
  rw [heap_setCell_same w p 4 _ t v h]
  simp
theorem put_at6 {w : World} {p t : Nat} {z0 z1 z2 z3 z4 z5 z6 : Value} (h : w.heap[p]? = some (.cells #[z0, z1, z2, z3, z4, z5, z6] t (0, 0))) (v : Value) : (w.setCell ⟨p, 6, none⟩ v).heap[p]? = some (.cells #[z0, z1, z2, z3, z4, z5, v] t (0, 0)) := by
  rw [heap_setCell_same w p 6 _ t v h]
  simp
theorem wr_keep {B B' : Nat} {w w' : World} {o : Option Addr} {n : Nat} (h : Wr B w o n) (hB : B' ≤ B) (hk : ∀ b, B ≤ b → w'.heap[b]? = w.heap[b]?) : Wr B' w' o n := by
  rcases h with h | ⟨g, off, rfl, hg, hc⟩
  · exact .inl h
  · refine .inr ⟨g, off, rfl, Nat.le_trans hB hg, fun j hj => ?_⟩
    have := hc j hj
    unfold World.cell? World.frozen? at *
    rw [hk g hg]
    exact this
/-- Clones whose blocks are kept. -/
theorem copy_fin {a : At} {B : Nat} {W0 w0 w1 w2 w3 wf : World} {o1 o2 o3 : Option Addr} (hB : B ≤ W0.heap.size) (b0 : Below W0.heap.size W0 w0) (d1 : Below w0.heap.size w0 w1) (d2 : Below w1.heap.size w1 w2) (d3 : Below w2.heap.size w2 w3)
    (s1 : Is.slot w1 o1 a.path) (r1 : Wr w0.heap.size w1 o1 a.path.length) (s2 : Cm.Co.slot w2 o2 a.comms) (r2 : Wr w1.heap.size w2 o2 (a.comms.length * 2)) (s3 : Is.slot w3 o3 a.cl) (r3 : Wr w2.heap.size w3 o3 a.cl.length)
    (hk : ∀ b, W0.heap.size ≤ b → wf.heap[b]? = w3.heap[b]?) : At.mine B wf a o1 o2 o3 := by
  have q1 := wr_mono (wr_below (wr_below r1 d2) d3) b0.size
  have q2 := wr_mono (wr_below r2 d3) (Nat.le_trans b0.size d1.size)
  have q3 := wr_mono r3 (Nat.le_trans b0.size (Nat.le_trans d1.size d2.size))
  exact ⟨mine_keep (B := W0.heap.size) ⟨⟨Is.slot_below (Is.slot_below s1 d2) d3, Cm.Co.slot_below s2 d3, s3⟩, q1, q2, q3⟩ hk, wr_keep q1 hB hk, wr_keep q2 hB hk, wr_keep q3 hB hk⟩
set_option maxHeartbeats 16000000 in
set_option maxRecDepth 100000 in
theorem copyA_is (a : At) (po co ko : Option Addr) (cp cc ck : Nat) (w : World) (hA : At.lies w a po co ko) (hC : At.came a po co ko cp cc ck) (h1 : a.path.length ≤ 100) (h2 : a.comms.length ≤ 100) (h3 : a.cl.length ≤ 100) :
    Calls Tryz.prog 38 #[.agg #[.int .i64 a.pf, .int .i64 a.md, .int .i64 a.og, .slice po a.path.length cp, .slice co a.comms.length cc, .int .i64 a.fr, .slice ko a.cl.length ck]] w (CopyGood w a) := by
  obtain ⟨x0, x1, x2, pa, cm, x5, kl⟩ := a
  simp only at *
  obtain ⟨n1, n2, hbb⟩ := boxes2 w #[.int .i64 x0, .int .i64 x1, .int .i64 x2, .slice po pa.length cp, .slice co cm.length cc, .int .i64 x5, .slice ko kl.length ck] #[.int .i64 0, .int .i64 0, .int .i64 0, .slice none 0 0, .slice none 0 0, .int .i64 0, .slice none 0 0] 30 30
  have NP := hide n1
  have NQ := hide n2
  have BB := hide hbb
  have PG : Hid (w.heap.size ≤ w.heap.size) := Nat.le_refl _
  have QG : Hid (w.heap.size ≤ w.heap.size + 1) := Nat.le_succ _
  have QP : Hid (w.heap.size + 1 ≠ w.heap.size) := Nat.succ_ne_self _
  have PL := hide (heap_lt n1)
  have QL := hide (heap_lt n2)
  have BP := hide hbb.size
  have LA := hide (At.lies_below hA hbb)
  have HC := hide hC
  clear n1 n2 hbb hA hC
  go_enter Tryz.func38, Tryz.ntmps38
  go_wp2_with fail
  generalize (w.alloc (.cells #[.int .i64 x0, .int .i64 x1, .int .i64 x2, .slice po pa.length cp, .slice co cm.length cc, .int .i64 x5, .slice ko kl.length ck] 30)).alloc (.cells #[.int .i64 0, .int .i64 0, .int .i64 0, .slice none 0 0, .slice none 0 0, .int .i64 0, .slice none 0 0] 30) = W0 at *
  obtain ⟨p, hp⟩ : ∃ p, p = w.heap.size := ⟨_, rfl⟩
  obtain ⟨q, hq⟩ : ∃ q, q = w.heap.size + 1 := ⟨_, rfl⟩
  rw [← hq, ← hp] at QP
  rw [← hq] at NQ QG QL
  rw [← hp] at NP PL
  have PG : Hid (w.heap.size ≤ p) := by show _ ≤ _; rw [hp]; exact Nat.le_refl _
  rw [← hq, ← hp]
  clear hp hq
  have C1 := hide (fun W' (hb : Below W0.heap.size W0 W') => cloneI_is po cp pa W' (Is.slot_below LA.out.1 hb) HC.out.1 (by omega))
  have C2 := hide (fun W' (hb : Below W0.heap.size W0 W') => cloneC_is co cc cm W' (Cm.Co.slot_below LA.out.2.1 hb) HC.out.2.1 (by omega))
  have C3 := hide (fun W' (hb : Below W0.heap.size W0 W') => cloneI_is ko ck kl W' (Is.slot_below LA.out.2.2 hb) HC.out.2.2.1 (by omega))
  have B0 : Hid (Below W0.heap.size W0 W0.drew) := (brefl W0).drew
  have N0 := hide ((B0.out.block p PL.out).trans NP.out)
  clear h1 h2 h3 LA HC NP
  refine wp_region_held_drew (S := fun _ => True) (by kernel_rfl) trivial (fun hHeld => ?_)
  generalize W0.drew = w0 at *
  obtain ⟨c0, c1, c2, c3, c4, c5, c6⟩ := seven_cells N0.out
  refine wpAnyH_take (i := 0) (v := .pointer (some ⟨p, 3, none⟩)) rfl (by kernel_rfl) (by kernel_rfl) (by kernel_rfl) (fun _ _ _ h => h) (Or.inl ⟨by rfl, fun w hSw => by dsimp only at hSw; go_simp⟩) hHeld ?_
  simp only [Act.put, List.getElem_toArray, List.getElem_cons_zero, List.setIfInBounds_toArray, List.set_cons_zero, List.set_cons_succ]
  refine wpAnyH_take (i := 3) (v := .pointer (some ⟨p, 4, none⟩)) rfl (by kernel_rfl) (by kernel_rfl) (by kernel_rfl) (fun _ _ _ h => h) (Or.inl ⟨by rfl, fun w hSw => by dsimp only at hSw; go_simp⟩) hHeld ?_
  simp only [Act.put, List.getElem_toArray, List.getElem_cons_zero, List.getElem_cons_succ, List.setIfInBounds_toArray, List.set_cons_zero, List.set_cons_succ]
  refine wpAnyH_take (i := 6) (v := .pointer (some ⟨p, 6, none⟩)) rfl (by kernel_rfl) (by kernel_rfl) (by kernel_rfl) (fun _ _ _ h => h) (Or.inl ⟨by rfl, fun w hSw => by dsimp only at hSw; go_simp⟩) hHeld ?_
  simp only [Act.put, List.getElem_toArray, List.getElem_cons_zero, List.getElem_cons_succ, List.setIfInBounds_toArray, List.set_cons_zero, List.set_cons_succ]
  refine wpAnyH_ready (rs := [1, 4, 7]) (by kernel_rfl) (by simp) ?_
  refine AllReadyH.cons rfl (fun K hK => ?_) ?_
  · go_simp
    refine hK.out _ _ trivial (fun hHeld => ?_)
    clear hK K
    try simp only [Act.put, List.getElem_toArray, List.getElem_cons_zero, List.getElem_cons_succ, List.setIfInBounds_toArray, List.set_cons_zero, List.set_cons_succ]
    refine wpAnyH_ready (rs := [2, 4, 7]) (by kernel_rfl) (by simp) ?_
    refine AllReadyH.cons rfl (fun K hK => ?_) ?_
    · go_simp
      go_wp2_with (refine (C1.out _ B0.out).mono ?_; rintro e w1 ⟨o1, k1, rfl, s1, r1, m1, hb⟩; have S1 := hide s1; have R1 := hide r1; have M1 := hide m1; have D1 := hide hb; have B1 := hide (bthen B0.out hb); have N1 := hide ((hb.block p (heap_lt N0.out)).trans N0.out); clear s1 r1 m1 hb)
      refine hK.out _ _ trivial (fun hHeld => ?_)
      clear hK K
      try simp only [Act.put, List.getElem_toArray, List.getElem_cons_zero, List.getElem_cons_succ, List.setIfInBounds_toArray, List.set_cons_zero, List.set_cons_succ]
      clear c0 c1 c2 c3 c4 c5 c6
      obtain ⟨c0, c1, c2, c3, c4, c5, c6⟩ := seven_cells N1.out
      refine wpAnyH_ready (rs := [4, 7]) (by kernel_rfl) (by simp) ?_
      refine AllReadyH.cons rfl (fun K hK => ?_) ?_
      · go_simp
        refine hK.out _ _ trivial (fun hHeld => ?_)
        clear hK K
        try simp only [Act.put, List.getElem_toArray, List.getElem_cons_zero, List.getElem_cons_succ, List.setIfInBounds_toArray, List.set_cons_zero, List.set_cons_succ]
        refine wpAnyH_ready (rs := [5, 7]) (by kernel_rfl) (by simp) ?_
        refine AllReadyH.cons rfl (fun K hK => ?_) ?_
        · go_simp
          go_wp2_with (refine (C2.out _ B1.out).mono ?_; rintro e w2 ⟨o2, k2, rfl, s2, r2, m2, hb⟩; have S2 := hide s2; have R2 := hide r2; have M2 := hide m2; have D2 := hide hb; have B2 := hide (bthen B1.out hb); have N2 := hide ((hb.block p (heap_lt N1.out)).trans N1.out); clear s2 r2 m2 hb)
          refine hK.out _ _ trivial (fun hHeld => ?_)
          clear hK K
          try simp only [Act.put, List.getElem_toArray, List.getElem_cons_zero, List.getElem_cons_succ, List.setIfInBounds_toArray, List.set_cons_zero, List.set_cons_succ]
          clear c0 c1 c2 c3 c4 c5 c6
          obtain ⟨c0, c1, c2, c3, c4, c5, c6⟩ := seven_cells N2.out
          refine wpAnyH_ready (rs := [7]) (by kernel_rfl) (by simp) ?_
          refine AllReadyH.cons rfl (fun K hK => ?_) ?_
          · go_simp
            refine hK.out _ _ trivial (fun hHeld => ?_)
            clear hK K
            try simp only [Act.put, List.getElem_toArray, List.getElem_cons_zero, List.getElem_cons_succ, List.setIfInBounds_toArray, List.set_cons_zero, List.set_cons_succ]
            refine wpAnyH_take (i := 9) (v := .pointer (some ⟨p, 3, none⟩)) rfl (by kernel_rfl) (by kernel_rfl) (by kernel_rfl) (fun _ _ _ h => h) (Or.inl ⟨by rfl, fun w hSw => by dsimp only at hSw; go_simp⟩) hHeld ?_
            simp only [Act.put, List.getElem_toArray, List.getElem_cons_zero, List.getElem_cons_succ, List.setIfInBounds_toArray, List.set_cons_zero, List.set_cons_succ]
            refine wpAnyH_ready (rs := [8]) (by kernel_rfl) (by simp) ?_
            refine AllReadyH.cons rfl (fun K hK => ?_) ?_
            · go_simp
              go_wp2_with (refine (C3.out _ B2.out).mono ?_; rintro e w3 ⟨o3, k3, rfl, s3, r3, m3, hb⟩; have S3 := hide s3; have R3 := hide r3; have M3 := hide m3; have D3 := hide hb; have B3 := hide (bthen B2.out hb); have N3 := hide ((hb.block p (heap_lt N2.out)).trans N2.out); clear s3 r3 m3 hb)
              refine hK.out _ _ trivial (fun hHeld => ?_)
              clear hK K
              try simp only [Act.put, List.getElem_toArray, List.getElem_cons_zero, List.getElem_cons_succ, List.setIfInBounds_toArray, List.set_cons_zero, List.set_cons_succ]
              clear c0 c1 c2 c3 c4 c5 c6
              obtain ⟨c0, c1, c2, c3, c4, c5, c6⟩ := seven_cells N3.out
              have NW := N3
              clear c0 c1 c2 c3 c4 c5 c6
              have OW : Hid (∀ b, W0.heap.size ≤ b → w3.heap[b]? = w3.heap[b]?) := fun _ _ => rfl
              have BW := hide (bthen BB.out B3.out)
              obtain ⟨c0, c1, c2, c3, c4, c5, c6⟩ := seven_cells NW.out
              have fr := frozenG NW.out 3
              have NX := hide (put_at3 NW.out (.slice o1 pa.length k1))
              have OX : Hid (∀ b, W0.heap.size ≤ b → (w3.setCell ⟨p, 3, none⟩ (.slice o1 pa.length k1)).heap[b]? = w3.heap[b]?) := fun b hb => (heap_setCell_other _ ⟨p, 3, none⟩ b _ (Nat.ne_of_gt (Nat.lt_of_lt_of_le PL.out hb))).trans (OW.out b hb)
              have BXX := hide (bset BW.out (p := ⟨p, 3, none⟩) PG.out (.slice o1 pa.length k1))
              have QX := hide ((heap_setCell_other w3 ⟨p, 3, none⟩ q (.slice o1 pa.length k1) QP.out).trans (((B3.out.block q QL.out).trans NQ.out)))
              refine wpAnyH_ready (rs := [10]) (by kernel_rfl) (by simp) ?_
              refine AllReadyH.cons rfl (fun K hK => ?_) AllReadyH.nil
              go_simp
              refine hK.out _ _ trivial (fun hHeld => ?_)
              clear hK K
              try simp only [Act.put, List.getElem_toArray, List.getElem_cons_zero, List.getElem_cons_succ, List.setIfInBounds_toArray, List.set_cons_zero, List.set_cons_succ]
              clear c0 c1 c2 c3 c4 c5 c6 fr
              generalize w3.setCell ⟨p, 3, none⟩ (.slice o1 pa.length k1) = wa at *
              clear NW OW BW
              have NW := NX
              have OW := OX
              have BW := BXX
              have QW := QX
              clear NX OX BXX QX
              refine wpAnyH_take (i := 11) (v := .pointer (some ⟨p, 4, none⟩)) rfl (by kernel_rfl) (by kernel_rfl) (by kernel_rfl) (fun _ _ _ h => h) (Or.inl ⟨by rfl, fun w hSw => by dsimp only at hSw; go_simp⟩) hHeld ?_
              simp only [Act.put, List.getElem_toArray, List.getElem_cons_zero, List.getElem_cons_succ, List.setIfInBounds_toArray, List.set_cons_zero, List.set_cons_succ]
              obtain ⟨c0, c1, c2, c3, c4, c5, c6⟩ := seven_cells NW.out
              have fr := frozenG NW.out 4
              have NX := hide (put_at4 NW.out (.slice o2 cm.length k2))
              have OX : Hid (∀ b, W0.heap.size ≤ b → (wa.setCell ⟨p, 4, none⟩ (.slice o2 cm.length k2)).heap[b]? = w3.heap[b]?) := fun b hb => (heap_setCell_other _ ⟨p, 4, none⟩ b _ (Nat.ne_of_gt (Nat.lt_of_lt_of_le PL.out hb))).trans (OW.out b hb)
              have BXX := hide (bset BW.out (p := ⟨p, 4, none⟩) PG.out (.slice o2 cm.length k2))
              have QX := hide ((heap_setCell_other wa ⟨p, 4, none⟩ q (.slice o2 cm.length k2) QP.out).trans QW.out)
              refine wpAnyH_ready (rs := [12]) (by kernel_rfl) (by simp) ?_
              refine AllReadyH.cons rfl (fun K hK => ?_) AllReadyH.nil
              go_simp
              refine hK.out _ _ trivial (fun hHeld => ?_)
              clear hK K
              try simp only [Act.put, List.getElem_toArray, List.getElem_cons_zero, List.getElem_cons_succ, List.setIfInBounds_toArray, List.set_cons_zero, List.set_cons_succ]
              clear c0 c1 c2 c3 c4 c5 c6 fr
              generalize wa.setCell ⟨p, 4, none⟩ (.slice o2 cm.length k2) = wb at *
              clear NW OW BW QW
              have NW := NX
              have OW := OX
              have BW := BXX
              have QW := QX
              clear NX OX BXX QX
              refine wpAnyH_take (i := 13) (v := .pointer (some ⟨p, 6, none⟩)) rfl (by kernel_rfl) (by kernel_rfl) (by kernel_rfl) (fun _ _ _ h => h) (Or.inl ⟨by rfl, fun w hSw => by dsimp only at hSw; go_simp⟩) hHeld ?_
              simp only [Act.put, List.getElem_toArray, List.getElem_cons_zero, List.getElem_cons_succ, List.setIfInBounds_toArray, List.set_cons_zero, List.set_cons_succ]
              obtain ⟨c0, c1, c2, c3, c4, c5, c6⟩ := seven_cells NW.out
              have fr := frozenG NW.out 6
              have NX := hide (put_at6 NW.out (.slice o3 kl.length k3))
              have OX : Hid (∀ b, W0.heap.size ≤ b → (wb.setCell ⟨p, 6, none⟩ (.slice o3 kl.length k3)).heap[b]? = w3.heap[b]?) := fun b hb => (heap_setCell_other _ ⟨p, 6, none⟩ b _ (Nat.ne_of_gt (Nat.lt_of_lt_of_le PL.out hb))).trans (OW.out b hb)
              have BXX := hide (bset BW.out (p := ⟨p, 6, none⟩) PG.out (.slice o3 kl.length k3))
              have QX := hide ((heap_setCell_other wb ⟨p, 6, none⟩ q (.slice o3 kl.length k3) QP.out).trans QW.out)
              refine wpAnyH_ready (rs := [14]) (by kernel_rfl) (by simp) ?_
              refine AllReadyH.cons rfl (fun K hK => ?_) AllReadyH.nil
              go_simp
              refine hK.out _ _ trivial (fun hHeld => ?_)
              clear hK K
              try simp only [Act.put, List.getElem_toArray, List.getElem_cons_zero, List.getElem_cons_succ, List.setIfInBounds_toArray, List.set_cons_zero, List.set_cons_succ]
              clear c0 c1 c2 c3 c4 c5 c6 fr
              generalize wb.setCell ⟨p, 6, none⟩ (.slice o3 kl.length k3) = wc at *
              clear NW OW BW QW
              have NW := NX
              have OW := OX
              have BW := BXX
              have QW := QX
              clear NX OX BXX QX
              refine wpAnyH_done (by kernel_rfl) ?_ _
              obtain ⟨c0, c1, c2, c3, c4, c5, c6⟩ := seven_cells NW.out
              obtain ⟨z0, z1, z2, z3, z4, z5, z6⟩ := seven_cells QW.out
              have f0 := frozenG QW.out 0
              have f1 := frozenG QW.out 1
              have f2 := frozenG QW.out 2
              have f3 := frozenG QW.out 3
              have f4 := frozenG QW.out 4
              have f5 := frozenG QW.out 5
              have f6 := frozenG QW.out 6
              have NE := hide (put7_same QW.out (.int .i64 x0) (.int .i64 x1) (.int .i64 x2) (.slice o1 pa.length k1) (.slice o2 cm.length k2) (.int .i64 x5) (.slice o3 kl.length k3))
              have BE := hide (put7_below BW.out QG.out (.int .i64 x0) (.int .i64 x1) (.int .i64 x2) (.slice o1 pa.length k1) (.slice o2 cm.length k2) (.int .i64 x5) (.slice o3 kl.length k3))
              have OE : Hid (∀ b, W0.heap.size ≤ b → (put7 wc q (.int .i64 x0) (.int .i64 x1) (.int .i64 x2) (.slice o1 pa.length k1) (.slice o2 cm.length k2) (.int .i64 x5) (.slice o3 kl.length k3)).heap[b]? = w3.heap[b]?) := fun b hb => (put7_other _ _ _ _ _ _ _ _ _ b (Nat.ne_of_gt (Nat.lt_of_lt_of_le QL.out hb))).trans (OW.out b hb)
              have FIN := hide (copy_fin (a := ⟨x0, x1, x2, pa, cm, x5, kl⟩) BP.out B0.out D1.out D2.out D3.out S1.out R1.out S2.out R2.out S3.out R3.out OE.out)
              clear OE OW BW QL PL B0 B1 B2 B3 D1 D2 D3 S1 S2 S3 R1 R2 R3 N1 N2 N3
              go_wp2_with fail
              change bodyPost _ _ _ _ _ (put7 wc q (.int .i64 x0) (.int .i64 x1) (.int .i64 x2) (.slice o1 pa.length k1) (.slice o2 cm.length k2) (.int .i64 x5) (.slice o3 kl.length k3))
              generalize put7 wc q (.int .i64 x0) (.int .i64 x1) (.int .i64 x2) (.slice o1 pa.length k1) (.slice o2 cm.length k2) (.int .i64 x5) (.slice o3 kl.length k3) = w9 at *
              obtain ⟨y0, y1, y2, y3, y4, y5, y6⟩ := seven_cells NE.out
              refine bodyPost_ret (v := .agg #[.int .i64 x0, .int .i64 x1, .int .i64 x2, .slice o1 pa.length k1, .slice o2 cm.length k2, .int .i64 x5, .slice o3 kl.length k3]) ?_ rfl ⟨o1, o2, o3, k1, k2, k3, rfl, FIN.out, ⟨M1.out.1, M2.out, M3.out.1, M3.out.2⟩, BE.out⟩
              simp [results, Tryz.results38, go_sem, y0, y1, y2, y3, y4, y5, y6]
            exact AllReadyH.nil
          exact AllReadyH.nil
        refine AllReadyH.cons rfl (fun K hK => ?_) ?_
        · go_simp
          refine hK.out _ _ trivial (fun hHeld => ?_)
          clear hK K
          try simp only [Act.put, List.getElem_toArray, List.getElem_cons_zero, List.getElem_cons_succ, List.setIfInBounds_toArray, List.set_cons_zero, List.set_cons_succ]
          refine wpAnyH_take (i := 9) (v := .pointer (some ⟨p, 3, none⟩)) rfl (by kernel_rfl) (by kernel_rfl) (by kernel_rfl) (fun _ _ _ h => h) (Or.inl ⟨by rfl, fun w hSw => by dsimp only at hSw; go_simp⟩) hHeld ?_
          simp only [Act.put, List.getElem_toArray, List.getElem_cons_zero, List.getElem_cons_succ, List.setIfInBounds_toArray, List.set_cons_zero, List.set_cons_succ]
          refine wpAnyH_ready (rs := [5]) (by kernel_rfl) (by simp) ?_
          refine AllReadyH.cons rfl (fun K hK => ?_) ?_
          · go_simp
            go_wp2_with (refine (C2.out _ B1.out).mono ?_; rintro e w2 ⟨o2, k2, rfl, s2, r2, m2, hb⟩; have S2 := hide s2; have R2 := hide r2; have M2 := hide m2; have D2 := hide hb; have B2 := hide (bthen B1.out hb); have N2 := hide ((hb.block p (heap_lt N1.out)).trans N1.out); clear s2 r2 m2 hb)
            refine hK.out _ _ trivial (fun hHeld => ?_)
            clear hK K
            try simp only [Act.put, List.getElem_toArray, List.getElem_cons_zero, List.getElem_cons_succ, List.setIfInBounds_toArray, List.set_cons_zero, List.set_cons_succ]
            clear c0 c1 c2 c3 c4 c5 c6
            obtain ⟨c0, c1, c2, c3, c4, c5, c6⟩ := seven_cells N2.out
            refine wpAnyH_ready (rs := [8]) (by kernel_rfl) (by simp) ?_
            refine AllReadyH.cons rfl (fun K hK => ?_) ?_
            · go_simp
              go_wp2_with (refine (C3.out _ B2.out).mono ?_; rintro e w3 ⟨o3, k3, rfl, s3, r3, m3, hb⟩; have S3 := hide s3; have R3 := hide r3; have M3 := hide m3; have D3 := hide hb; have B3 := hide (bthen B2.out hb); have N3 := hide ((hb.block p (heap_lt N2.out)).trans N2.out); clear s3 r3 m3 hb)
              refine hK.out _ _ trivial (fun hHeld => ?_)
              clear hK K
              try simp only [Act.put, List.getElem_toArray, List.getElem_cons_zero, List.getElem_cons_succ, List.setIfInBounds_toArray, List.set_cons_zero, List.set_cons_succ]
              clear c0 c1 c2 c3 c4 c5 c6
              obtain ⟨c0, c1, c2, c3, c4, c5, c6⟩ := seven_cells N3.out
              have NW := N3
              clear c0 c1 c2 c3 c4 c5 c6
              have OW : Hid (∀ b, W0.heap.size ≤ b → w3.heap[b]? = w3.heap[b]?) := fun _ _ => rfl
              have BW := hide (bthen BB.out B3.out)
              obtain ⟨c0, c1, c2, c3, c4, c5, c6⟩ := seven_cells NW.out
              have fr := frozenG NW.out 3
              have NX := hide (put_at3 NW.out (.slice o1 pa.length k1))
              have OX : Hid (∀ b, W0.heap.size ≤ b → (w3.setCell ⟨p, 3, none⟩ (.slice o1 pa.length k1)).heap[b]? = w3.heap[b]?) := fun b hb => (heap_setCell_other _ ⟨p, 3, none⟩ b _ (Nat.ne_of_gt (Nat.lt_of_lt_of_le PL.out hb))).trans (OW.out b hb)
              have BXX := hide (bset BW.out (p := ⟨p, 3, none⟩) PG.out (.slice o1 pa.length k1))
              have QX := hide ((heap_setCell_other w3 ⟨p, 3, none⟩ q (.slice o1 pa.length k1) QP.out).trans (((B3.out.block q QL.out).trans NQ.out)))
              refine wpAnyH_ready (rs := [10]) (by kernel_rfl) (by simp) ?_
              refine AllReadyH.cons rfl (fun K hK => ?_) AllReadyH.nil
              go_simp
              refine hK.out _ _ trivial (fun hHeld => ?_)
              clear hK K
              try simp only [Act.put, List.getElem_toArray, List.getElem_cons_zero, List.getElem_cons_succ, List.setIfInBounds_toArray, List.set_cons_zero, List.set_cons_succ]
              clear c0 c1 c2 c3 c4 c5 c6 fr
              generalize w3.setCell ⟨p, 3, none⟩ (.slice o1 pa.length k1) = wa at *
              clear NW OW BW
              have NW := NX
              have OW := OX
              have BW := BXX
              have QW := QX
              clear NX OX BXX QX
              refine wpAnyH_take (i := 11) (v := .pointer (some ⟨p, 4, none⟩)) rfl (by kernel_rfl) (by kernel_rfl) (by kernel_rfl) (fun _ _ _ h => h) (Or.inl ⟨by rfl, fun w hSw => by dsimp only at hSw; go_simp⟩) hHeld ?_
              simp only [Act.put, List.getElem_toArray, List.getElem_cons_zero, List.getElem_cons_succ, List.setIfInBounds_toArray, List.set_cons_zero, List.set_cons_succ]
              obtain ⟨c0, c1, c2, c3, c4, c5, c6⟩ := seven_cells NW.out
              have fr := frozenG NW.out 4
              have NX := hide (put_at4 NW.out (.slice o2 cm.length k2))
              have OX : Hid (∀ b, W0.heap.size ≤ b → (wa.setCell ⟨p, 4, none⟩ (.slice o2 cm.length k2)).heap[b]? = w3.heap[b]?) := fun b hb => (heap_setCell_other _ ⟨p, 4, none⟩ b _ (Nat.ne_of_gt (Nat.lt_of_lt_of_le PL.out hb))).trans (OW.out b hb)
              have BXX := hide (bset BW.out (p := ⟨p, 4, none⟩) PG.out (.slice o2 cm.length k2))
              have QX := hide ((heap_setCell_other wa ⟨p, 4, none⟩ q (.slice o2 cm.length k2) QP.out).trans QW.out)
              refine wpAnyH_ready (rs := [12]) (by kernel_rfl) (by simp) ?_
              refine AllReadyH.cons rfl (fun K hK => ?_) AllReadyH.nil
              go_simp
              refine hK.out _ _ trivial (fun hHeld => ?_)
              clear hK K
              try simp only [Act.put, List.getElem_toArray, List.getElem_cons_zero, List.getElem_cons_succ, List.setIfInBounds_toArray, List.set_cons_zero, List.set_cons_succ]
              clear c0 c1 c2 c3 c4 c5 c6 fr
              generalize wa.setCell ⟨p, 4, none⟩ (.slice o2 cm.length k2) = wb at *
              clear NW OW BW QW
              have NW := NX
              have OW := OX
              have BW := BXX
              have QW := QX
              clear NX OX BXX QX
              refine wpAnyH_take (i := 13) (v := .pointer (some ⟨p, 6, none⟩)) rfl (by kernel_rfl) (by kernel_rfl) (by kernel_rfl) (fun _ _ _ h => h) (Or.inl ⟨by rfl, fun w hSw => by dsimp only at hSw; go_simp⟩) hHeld ?_
              simp only [Act.put, List.getElem_toArray, List.getElem_cons_zero, List.getElem_cons_succ, List.setIfInBounds_toArray, List.set_cons_zero, List.set_cons_succ]
              obtain ⟨c0, c1, c2, c3, c4, c5, c6⟩ := seven_cells NW.out
              have fr := frozenG NW.out 6
              have NX := hide (put_at6 NW.out (.slice o3 kl.length k3))
              have OX : Hid (∀ b, W0.heap.size ≤ b → (wb.setCell ⟨p, 6, none⟩ (.slice o3 kl.length k3)).heap[b]? = w3.heap[b]?) := fun b hb => (heap_setCell_other _ ⟨p, 6, none⟩ b _ (Nat.ne_of_gt (Nat.lt_of_lt_of_le PL.out hb))).trans (OW.out b hb)
              have BXX := hide (bset BW.out (p := ⟨p, 6, none⟩) PG.out (.slice o3 kl.length k3))
              have QX := hide ((heap_setCell_other wb ⟨p, 6, none⟩ q (.slice o3 kl.length k3) QP.out).trans QW.out)
              refine wpAnyH_ready (rs := [14]) (by kernel_rfl) (by simp) ?_
              refine AllReadyH.cons rfl (fun K hK => ?_) AllReadyH.nil
              go_simp
              refine hK.out _ _ trivial (fun hHeld => ?_)
              clear hK K
              try simp only [Act.put, List.getElem_toArray, List.getElem_cons_zero, List.getElem_cons_succ, List.setIfInBounds_toArray, List.set_cons_zero, List.set_cons_succ]
              clear c0 c1 c2 c3 c4 c5 c6 fr
              generalize wb.setCell ⟨p, 6, none⟩ (.slice o3 kl.length k3) = wc at *
              clear NW OW BW QW
              have NW := NX
              have OW := OX
              have BW := BXX
              have QW := QX
              clear NX OX BXX QX
              refine wpAnyH_done (by kernel_rfl) ?_ _
              obtain ⟨c0, c1, c2, c3, c4, c5, c6⟩ := seven_cells NW.out
              obtain ⟨z0, z1, z2, z3, z4, z5, z6⟩ := seven_cells QW.out
              have f0 := frozenG QW.out 0
              have f1 := frozenG QW.out 1
              have f2 := frozenG QW.out 2
              have f3 := frozenG QW.out 3
              have f4 := frozenG QW.out 4
              have f5 := frozenG QW.out 5
              have f6 := frozenG QW.out 6
              have NE := hide (put7_same QW.out (.int .i64 x0) (.int .i64 x1) (.int .i64 x2) (.slice o1 pa.length k1) (.slice o2 cm.length k2) (.int .i64 x5) (.slice o3 kl.length k3))
              have BE := hide (put7_below BW.out QG.out (.int .i64 x0) (.int .i64 x1) (.int .i64 x2) (.slice o1 pa.length k1) (.slice o2 cm.length k2) (.int .i64 x5) (.slice o3 kl.length k3))
              have OE : Hid (∀ b, W0.heap.size ≤ b → (put7 wc q (.int .i64 x0) (.int .i64 x1) (.int .i64 x2) (.slice o1 pa.length k1) (.slice o2 cm.length k2) (.int .i64 x5) (.slice o3 kl.length k3)).heap[b]? = w3.heap[b]?) := fun b hb => (put7_other _ _ _ _ _ _ _ _ _ b (Nat.ne_of_gt (Nat.lt_of_lt_of_le QL.out hb))).trans (OW.out b hb)
              have FIN := hide (copy_fin (a := ⟨x0, x1, x2, pa, cm, x5, kl⟩) BP.out B0.out D1.out D2.out D3.out S1.out R1.out S2.out R2.out S3.out R3.out OE.out)
              clear OE OW BW QL PL B0 B1 B2 B3 D1 D2 D3 S1 S2 S3 R1 R2 R3 N1 N2 N3
              go_wp2_with fail
              change bodyPost _ _ _ _ _ (put7 wc q (.int .i64 x0) (.int .i64 x1) (.int .i64 x2) (.slice o1 pa.length k1) (.slice o2 cm.length k2) (.int .i64 x5) (.slice o3 kl.length k3))
              generalize put7 wc q (.int .i64 x0) (.int .i64 x1) (.int .i64 x2) (.slice o1 pa.length k1) (.slice o2 cm.length k2) (.int .i64 x5) (.slice o3 kl.length k3) = w9 at *
              obtain ⟨y0, y1, y2, y3, y4, y5, y6⟩ := seven_cells NE.out
              refine bodyPost_ret (v := .agg #[.int .i64 x0, .int .i64 x1, .int .i64 x2, .slice o1 pa.length k1, .slice o2 cm.length k2, .int .i64 x5, .slice o3 kl.length k3]) ?_ rfl ⟨o1, o2, o3, k1, k2, k3, rfl, FIN.out, ⟨M1.out.1, M2.out, M3.out.1, M3.out.2⟩, BE.out⟩
              simp [results, Tryz.results38, go_sem, y0, y1, y2, y3, y4, y5, y6]
            exact AllReadyH.nil
          exact AllReadyH.nil
        exact AllReadyH.nil
      refine AllReadyH.cons rfl (fun K hK => ?_) ?_
      · go_simp
        refine hK.out _ _ trivial (fun hHeld => ?_)
        clear hK K
        try simp only [Act.put, List.getElem_toArray, List.getElem_cons_zero, List.getElem_cons_succ, List.setIfInBounds_toArray, List.set_cons_zero, List.set_cons_succ]
        refine wpAnyH_ready (rs := [4]) (by kernel_rfl) (by simp) ?_
        refine AllReadyH.cons rfl (fun K hK => ?_) ?_
        · go_simp
          refine hK.out _ _ trivial (fun hHeld => ?_)
          clear hK K
          try simp only [Act.put, List.getElem_toArray, List.getElem_cons_zero, List.getElem_cons_succ, List.setIfInBounds_toArray, List.set_cons_zero, List.set_cons_succ]
          refine wpAnyH_take (i := 9) (v := .pointer (some ⟨p, 3, none⟩)) rfl (by kernel_rfl) (by kernel_rfl) (by kernel_rfl) (fun _ _ _ h => h) (Or.inl ⟨by rfl, fun w hSw => by dsimp only at hSw; go_simp⟩) hHeld ?_
          simp only [Act.put, List.getElem_toArray, List.getElem_cons_zero, List.getElem_cons_succ, List.setIfInBounds_toArray, List.set_cons_zero, List.set_cons_succ]
          refine wpAnyH_ready (rs := [5]) (by kernel_rfl) (by simp) ?_
          refine AllReadyH.cons rfl (fun K hK => ?_) ?_
          · go_simp
            go_wp2_with (refine (C2.out _ B1.out).mono ?_; rintro e w2 ⟨o2, k2, rfl, s2, r2, m2, hb⟩; have S2 := hide s2; have R2 := hide r2; have M2 := hide m2; have D2 := hide hb; have B2 := hide (bthen B1.out hb); have N2 := hide ((hb.block p (heap_lt N1.out)).trans N1.out); clear s2 r2 m2 hb)
            refine hK.out _ _ trivial (fun hHeld => ?_)
            clear hK K
            try simp only [Act.put, List.getElem_toArray, List.getElem_cons_zero, List.getElem_cons_succ, List.setIfInBounds_toArray, List.set_cons_zero, List.set_cons_succ]
            clear c0 c1 c2 c3 c4 c5 c6
            obtain ⟨c0, c1, c2, c3, c4, c5, c6⟩ := seven_cells N2.out
            refine wpAnyH_ready (rs := [8]) (by kernel_rfl) (by simp) ?_
            refine AllReadyH.cons rfl (fun K hK => ?_) ?_
            · go_simp
              go_wp2_with (refine (C3.out _ B2.out).mono ?_; rintro e w3 ⟨o3, k3, rfl, s3, r3, m3, hb⟩; have S3 := hide s3; have R3 := hide r3; have M3 := hide m3; have D3 := hide hb; have B3 := hide (bthen B2.out hb); have N3 := hide ((hb.block p (heap_lt N2.out)).trans N2.out); clear s3 r3 m3 hb)
              refine hK.out _ _ trivial (fun hHeld => ?_)
              clear hK K
              try simp only [Act.put, List.getElem_toArray, List.getElem_cons_zero, List.getElem_cons_succ, List.setIfInBounds_toArray, List.set_cons_zero, List.set_cons_succ]
              clear c0 c1 c2 c3 c4 c5 c6
              obtain ⟨c0, c1, c2, c3, c4, c5, c6⟩ := seven_cells N3.out
              have NW := N3
              clear c0 c1 c2 c3 c4 c5 c6
              have OW : Hid (∀ b, W0.heap.size ≤ b → w3.heap[b]? = w3.heap[b]?) := fun _ _ => rfl
              have BW := hide (bthen BB.out B3.out)
              obtain ⟨c0, c1, c2, c3, c4, c5, c6⟩ := seven_cells NW.out
              have fr := frozenG NW.out 3
              have NX := hide (put_at3 NW.out (.slice o1 pa.length k1))
              have OX : Hid (∀ b, W0.heap.size ≤ b → (w3.setCell ⟨p, 3, none⟩ (.slice o1 pa.length k1)).heap[b]? = w3.heap[b]?) := fun b hb => (heap_setCell_other _ ⟨p, 3, none⟩ b _ (Nat.ne_of_gt (Nat.lt_of_lt_of_le PL.out hb))).trans (OW.out b hb)
              have BXX := hide (bset BW.out (p := ⟨p, 3, none⟩) PG.out (.slice o1 pa.length k1))
              have QX := hide ((heap_setCell_other w3 ⟨p, 3, none⟩ q (.slice o1 pa.length k1) QP.out).trans (((B3.out.block q QL.out).trans NQ.out)))
              refine wpAnyH_ready (rs := [10]) (by kernel_rfl) (by simp) ?_
              refine AllReadyH.cons rfl (fun K hK => ?_) AllReadyH.nil
              go_simp
              refine hK.out _ _ trivial (fun hHeld => ?_)
              clear hK K
              try simp only [Act.put, List.getElem_toArray, List.getElem_cons_zero, List.getElem_cons_succ, List.setIfInBounds_toArray, List.set_cons_zero, List.set_cons_succ]
              clear c0 c1 c2 c3 c4 c5 c6 fr
              generalize w3.setCell ⟨p, 3, none⟩ (.slice o1 pa.length k1) = wa at *
              clear NW OW BW
              have NW := NX
              have OW := OX
              have BW := BXX
              have QW := QX
              clear NX OX BXX QX
              refine wpAnyH_take (i := 11) (v := .pointer (some ⟨p, 4, none⟩)) rfl (by kernel_rfl) (by kernel_rfl) (by kernel_rfl) (fun _ _ _ h => h) (Or.inl ⟨by rfl, fun w hSw => by dsimp only at hSw; go_simp⟩) hHeld ?_
              simp only [Act.put, List.getElem_toArray, List.getElem_cons_zero, List.getElem_cons_succ, List.setIfInBounds_toArray, List.set_cons_zero, List.set_cons_succ]
              obtain ⟨c0, c1, c2, c3, c4, c5, c6⟩ := seven_cells NW.out
              have fr := frozenG NW.out 4
              have NX := hide (put_at4 NW.out (.slice o2 cm.length k2))
              have OX : Hid (∀ b, W0.heap.size ≤ b → (wa.setCell ⟨p, 4, none⟩ (.slice o2 cm.length k2)).heap[b]? = w3.heap[b]?) := fun b hb => (heap_setCell_other _ ⟨p, 4, none⟩ b _ (Nat.ne_of_gt (Nat.lt_of_lt_of_le PL.out hb))).trans (OW.out b hb)
              have BXX := hide (bset BW.out (p := ⟨p, 4, none⟩) PG.out (.slice o2 cm.length k2))
              have QX := hide ((heap_setCell_other wa ⟨p, 4, none⟩ q (.slice o2 cm.length k2) QP.out).trans QW.out)
              refine wpAnyH_ready (rs := [12]) (by kernel_rfl) (by simp) ?_
              refine AllReadyH.cons rfl (fun K hK => ?_) AllReadyH.nil
              go_simp
              refine hK.out _ _ trivial (fun hHeld => ?_)
              clear hK K
              try simp only [Act.put, List.getElem_toArray, List.getElem_cons_zero, List.getElem_cons_succ, List.setIfInBounds_toArray, List.set_cons_zero, List.set_cons_succ]
              clear c0 c1 c2 c3 c4 c5 c6 fr
              generalize wa.setCell ⟨p, 4, none⟩ (.slice o2 cm.length k2) = wb at *
              clear NW OW BW QW
              have NW := NX
              have OW := OX
              have BW := BXX
              have QW := QX
              clear NX OX BXX QX
              refine wpAnyH_take (i := 13) (v := .pointer (some ⟨p, 6, none⟩)) rfl (by kernel_rfl) (by kernel_rfl) (by kernel_rfl) (fun _ _ _ h => h) (Or.inl ⟨by rfl, fun w hSw => by dsimp only at hSw; go_simp⟩) hHeld ?_
              simp only [Act.put, List.getElem_toArray, List.getElem_cons_zero, List.getElem_cons_succ, List.setIfInBounds_toArray, List.set_cons_zero, List.set_cons_succ]
              obtain ⟨c0, c1, c2, c3, c4, c5, c6⟩ := seven_cells NW.out
              have fr := frozenG NW.out 6
              have NX := hide (put_at6 NW.out (.slice o3 kl.length k3))
              have OX : Hid (∀ b, W0.heap.size ≤ b → (wb.setCell ⟨p, 6, none⟩ (.slice o3 kl.length k3)).heap[b]? = w3.heap[b]?) := fun b hb => (heap_setCell_other _ ⟨p, 6, none⟩ b _ (Nat.ne_of_gt (Nat.lt_of_lt_of_le PL.out hb))).trans (OW.out b hb)
              have BXX := hide (bset BW.out (p := ⟨p, 6, none⟩) PG.out (.slice o3 kl.length k3))
              have QX := hide ((heap_setCell_other wb ⟨p, 6, none⟩ q (.slice o3 kl.length k3) QP.out).trans QW.out)
              refine wpAnyH_ready (rs := [14]) (by kernel_rfl) (by simp) ?_
              refine AllReadyH.cons rfl (fun K hK => ?_) AllReadyH.nil
              go_simp
              refine hK.out _ _ trivial (fun hHeld => ?_)
              clear hK K
              try simp only [Act.put, List.getElem_toArray, List.getElem_cons_zero, List.getElem_cons_succ, List.setIfInBounds_toArray, List.set_cons_zero, List.set_cons_succ]
              clear c0 c1 c2 c3 c4 c5 c6 fr
              generalize wb.setCell ⟨p, 6, none⟩ (.slice o3 kl.length k3) = wc at *
              clear NW OW BW QW
              have NW := NX
              have OW := OX
              have BW := BXX
              have QW := QX
              clear NX OX BXX QX
              refine wpAnyH_done (by kernel_rfl) ?_ _
              obtain ⟨c0, c1, c2, c3, c4, c5, c6⟩ := seven_cells NW.out
              obtain ⟨z0, z1, z2, z3, z4, z5, z6⟩ := seven_cells QW.out
              have f0 := frozenG QW.out 0
              have f1 := frozenG QW.out 1
              have f2 := frozenG QW.out 2
              have f3 := frozenG QW.out 3
              have f4 := frozenG QW.out 4
              have f5 := frozenG QW.out 5
              have f6 := frozenG QW.out 6
              have NE := hide (put7_same QW.out (.int .i64 x0) (.int .i64 x1) (.int .i64 x2) (.slice o1 pa.length k1) (.slice o2 cm.length k2) (.int .i64 x5) (.slice o3 kl.length k3))
              have BE := hide (put7_below BW.out QG.out (.int .i64 x0) (.int .i64 x1) (.int .i64 x2) (.slice o1 pa.length k1) (.slice o2 cm.length k2) (.int .i64 x5) (.slice o3 kl.length k3))
              have OE : Hid (∀ b, W0.heap.size ≤ b → (put7 wc q (.int .i64 x0) (.int .i64 x1) (.int .i64 x2) (.slice o1 pa.length k1) (.slice o2 cm.length k2) (.int .i64 x5) (.slice o3 kl.length k3)).heap[b]? = w3.heap[b]?) := fun b hb => (put7_other _ _ _ _ _ _ _ _ _ b (Nat.ne_of_gt (Nat.lt_of_lt_of_le QL.out hb))).trans (OW.out b hb)
              have FIN := hide (copy_fin (a := ⟨x0, x1, x2, pa, cm, x5, kl⟩) BP.out B0.out D1.out D2.out D3.out S1.out R1.out S2.out R2.out S3.out R3.out OE.out)
              clear OE OW BW QL PL B0 B1 B2 B3 D1 D2 D3 S1 S2 S3 R1 R2 R3 N1 N2 N3
              go_wp2_with fail
              change bodyPost _ _ _ _ _ (put7 wc q (.int .i64 x0) (.int .i64 x1) (.int .i64 x2) (.slice o1 pa.length k1) (.slice o2 cm.length k2) (.int .i64 x5) (.slice o3 kl.length k3))
              generalize put7 wc q (.int .i64 x0) (.int .i64 x1) (.int .i64 x2) (.slice o1 pa.length k1) (.slice o2 cm.length k2) (.int .i64 x5) (.slice o3 kl.length k3) = w9 at *
              obtain ⟨y0, y1, y2, y3, y4, y5, y6⟩ := seven_cells NE.out
              refine bodyPost_ret (v := .agg #[.int .i64 x0, .int .i64 x1, .int .i64 x2, .slice o1 pa.length k1, .slice o2 cm.length k2, .int .i64 x5, .slice o3 kl.length k3]) ?_ rfl ⟨o1, o2, o3, k1, k2, k3, rfl, FIN.out, ⟨M1.out.1, M2.out, M3.out.1, M3.out.2⟩, BE.out⟩
              simp [results, Tryz.results38, go_sem, y0, y1, y2, y3, y4, y5, y6]
            exact AllReadyH.nil
          exact AllReadyH.nil
        exact AllReadyH.nil
      exact AllReadyH.nil
    refine AllReadyH.cons rfl (fun K hK => ?_) ?_
    · go_simp
      refine hK.out _ _ trivial (fun hHeld => ?_)
      clear hK K
      try simp only [Act.put, List.getElem_toArray, List.getElem_cons_zero, List.getElem_cons_succ, List.setIfInBounds_toArray, List.set_cons_zero, List.set_cons_succ]
      refine wpAnyH_ready (rs := [2, 7]) (by kernel_rfl) (by simp) ?_
      refine AllReadyH.cons rfl (fun K hK => ?_) ?_
      · go_simp
        go_wp2_with (refine (C1.out _ B0.out).mono ?_; rintro e w1 ⟨o1, k1, rfl, s1, r1, m1, hb⟩; have S1 := hide s1; have R1 := hide r1; have M1 := hide m1; have D1 := hide hb; have B1 := hide (bthen B0.out hb); have N1 := hide ((hb.block p (heap_lt N0.out)).trans N0.out); clear s1 r1 m1 hb)
        refine hK.out _ _ trivial (fun hHeld => ?_)
        clear hK K
        try simp only [Act.put, List.getElem_toArray, List.getElem_cons_zero, List.getElem_cons_succ, List.setIfInBounds_toArray, List.set_cons_zero, List.set_cons_succ]
        clear c0 c1 c2 c3 c4 c5 c6
        obtain ⟨c0, c1, c2, c3, c4, c5, c6⟩ := seven_cells N1.out
        refine wpAnyH_ready (rs := [5, 7]) (by kernel_rfl) (by simp) ?_
        refine AllReadyH.cons rfl (fun K hK => ?_) ?_
        · go_simp
          go_wp2_with (refine (C2.out _ B1.out).mono ?_; rintro e w2 ⟨o2, k2, rfl, s2, r2, m2, hb⟩; have S2 := hide s2; have R2 := hide r2; have M2 := hide m2; have D2 := hide hb; have B2 := hide (bthen B1.out hb); have N2 := hide ((hb.block p (heap_lt N1.out)).trans N1.out); clear s2 r2 m2 hb)
          refine hK.out _ _ trivial (fun hHeld => ?_)
          clear hK K
          try simp only [Act.put, List.getElem_toArray, List.getElem_cons_zero, List.getElem_cons_succ, List.setIfInBounds_toArray, List.set_cons_zero, List.set_cons_succ]
          clear c0 c1 c2 c3 c4 c5 c6
          obtain ⟨c0, c1, c2, c3, c4, c5, c6⟩ := seven_cells N2.out
          refine wpAnyH_ready (rs := [7]) (by kernel_rfl) (by simp) ?_
          refine AllReadyH.cons rfl (fun K hK => ?_) ?_
          · go_simp
            refine hK.out _ _ trivial (fun hHeld => ?_)
            clear hK K
            try simp only [Act.put, List.getElem_toArray, List.getElem_cons_zero, List.getElem_cons_succ, List.setIfInBounds_toArray, List.set_cons_zero, List.set_cons_succ]
            refine wpAnyH_take (i := 9) (v := .pointer (some ⟨p, 3, none⟩)) rfl (by kernel_rfl) (by kernel_rfl) (by kernel_rfl) (fun _ _ _ h => h) (Or.inl ⟨by rfl, fun w hSw => by dsimp only at hSw; go_simp⟩) hHeld ?_
            simp only [Act.put, List.getElem_toArray, List.getElem_cons_zero, List.getElem_cons_succ, List.setIfInBounds_toArray, List.set_cons_zero, List.set_cons_succ]
            refine wpAnyH_ready (rs := [8]) (by kernel_rfl) (by simp) ?_
            refine AllReadyH.cons rfl (fun K hK => ?_) ?_
            · go_simp
              go_wp2_with (refine (C3.out _ B2.out).mono ?_; rintro e w3 ⟨o3, k3, rfl, s3, r3, m3, hb⟩; have S3 := hide s3; have R3 := hide r3; have M3 := hide m3; have D3 := hide hb; have B3 := hide (bthen B2.out hb); have N3 := hide ((hb.block p (heap_lt N2.out)).trans N2.out); clear s3 r3 m3 hb)
              refine hK.out _ _ trivial (fun hHeld => ?_)
              clear hK K
              try simp only [Act.put, List.getElem_toArray, List.getElem_cons_zero, List.getElem_cons_succ, List.setIfInBounds_toArray, List.set_cons_zero, List.set_cons_succ]
              clear c0 c1 c2 c3 c4 c5 c6
              obtain ⟨c0, c1, c2, c3, c4, c5, c6⟩ := seven_cells N3.out
              have NW := N3
              clear c0 c1 c2 c3 c4 c5 c6
              have OW : Hid (∀ b, W0.heap.size ≤ b → w3.heap[b]? = w3.heap[b]?) := fun _ _ => rfl
              have BW := hide (bthen BB.out B3.out)
              obtain ⟨c0, c1, c2, c3, c4, c5, c6⟩ := seven_cells NW.out
              have fr := frozenG NW.out 3
              have NX := hide (put_at3 NW.out (.slice o1 pa.length k1))
              have OX : Hid (∀ b, W0.heap.size ≤ b → (w3.setCell ⟨p, 3, none⟩ (.slice o1 pa.length k1)).heap[b]? = w3.heap[b]?) := fun b hb => (heap_setCell_other _ ⟨p, 3, none⟩ b _ (Nat.ne_of_gt (Nat.lt_of_lt_of_le PL.out hb))).trans (OW.out b hb)
              have BXX := hide (bset BW.out (p := ⟨p, 3, none⟩) PG.out (.slice o1 pa.length k1))
              have QX := hide ((heap_setCell_other w3 ⟨p, 3, none⟩ q (.slice o1 pa.length k1) QP.out).trans (((B3.out.block q QL.out).trans NQ.out)))
              refine wpAnyH_ready (rs := [10]) (by kernel_rfl) (by simp) ?_
              refine AllReadyH.cons rfl (fun K hK => ?_) AllReadyH.nil
              go_simp
              refine hK.out _ _ trivial (fun hHeld => ?_)
              clear hK K
              try simp only [Act.put, List.getElem_toArray, List.getElem_cons_zero, List.getElem_cons_succ, List.setIfInBounds_toArray, List.set_cons_zero, List.set_cons_succ]
              clear c0 c1 c2 c3 c4 c5 c6 fr
              generalize w3.setCell ⟨p, 3, none⟩ (.slice o1 pa.length k1) = wa at *
              clear NW OW BW
              have NW := NX
              have OW := OX
              have BW := BXX
              have QW := QX
              clear NX OX BXX QX
              refine wpAnyH_take (i := 11) (v := .pointer (some ⟨p, 4, none⟩)) rfl (by kernel_rfl) (by kernel_rfl) (by kernel_rfl) (fun _ _ _ h => h) (Or.inl ⟨by rfl, fun w hSw => by dsimp only at hSw; go_simp⟩) hHeld ?_
              simp only [Act.put, List.getElem_toArray, List.getElem_cons_zero, List.getElem_cons_succ, List.setIfInBounds_toArray, List.set_cons_zero, List.set_cons_succ]
              obtain ⟨c0, c1, c2, c3, c4, c5, c6⟩ := seven_cells NW.out
              have fr := frozenG NW.out 4
              have NX := hide (put_at4 NW.out (.slice o2 cm.length k2))
              have OX : Hid (∀ b, W0.heap.size ≤ b → (wa.setCell ⟨p, 4, none⟩ (.slice o2 cm.length k2)).heap[b]? = w3.heap[b]?) := fun b hb => (heap_setCell_other _ ⟨p, 4, none⟩ b _ (Nat.ne_of_gt (Nat.lt_of_lt_of_le PL.out hb))).trans (OW.out b hb)
              have BXX := hide (bset BW.out (p := ⟨p, 4, none⟩) PG.out (.slice o2 cm.length k2))
              have QX := hide ((heap_setCell_other wa ⟨p, 4, none⟩ q (.slice o2 cm.length k2) QP.out).trans QW.out)
              refine wpAnyH_ready (rs := [12]) (by kernel_rfl) (by simp) ?_
              refine AllReadyH.cons rfl (fun K hK => ?_) AllReadyH.nil
              go_simp
              refine hK.out _ _ trivial (fun hHeld => ?_)
              clear hK K
              try simp only [Act.put, List.getElem_toArray, List.getElem_cons_zero, List.getElem_cons_succ, List.setIfInBounds_toArray, List.set_cons_zero, List.set_cons_succ]
              clear c0 c1 c2 c3 c4 c5 c6 fr
              generalize wa.setCell ⟨p, 4, none⟩ (.slice o2 cm.length k2) = wb at *
              clear NW OW BW QW
              have NW := NX
              have OW := OX
              have BW := BXX
              have QW := QX
              clear NX OX BXX QX
              refine wpAnyH_take (i := 13) (v := .pointer (some ⟨p, 6, none⟩)) rfl (by kernel_rfl) (by kernel_rfl) (by kernel_rfl) (fun _ _ _ h => h) (Or.inl ⟨by rfl, fun w hSw => by dsimp only at hSw; go_simp⟩) hHeld ?_
              simp only [Act.put, List.getElem_toArray, List.getElem_cons_zero, List.getElem_cons_succ, List.setIfInBounds_toArray, List.set_cons_zero, List.set_cons_succ]
              obtain ⟨c0, c1, c2, c3, c4, c5, c6⟩ := seven_cells NW.out
              have fr := frozenG NW.out 6
              have NX := hide (put_at6 NW.out (.slice o3 kl.length k3))
              have OX : Hid (∀ b, W0.heap.size ≤ b → (wb.setCell ⟨p, 6, none⟩ (.slice o3 kl.length k3)).heap[b]? = w3.heap[b]?) := fun b hb => (heap_setCell_other _ ⟨p, 6, none⟩ b _ (Nat.ne_of_gt (Nat.lt_of_lt_of_le PL.out hb))).trans (OW.out b hb)
              have BXX := hide (bset BW.out (p := ⟨p, 6, none⟩) PG.out (.slice o3 kl.length k3))
              have QX := hide ((heap_setCell_other wb ⟨p, 6, none⟩ q (.slice o3 kl.length k3) QP.out).trans QW.out)
              refine wpAnyH_ready (rs := [14]) (by kernel_rfl) (by simp) ?_
              refine AllReadyH.cons rfl (fun K hK => ?_) AllReadyH.nil
              go_simp
              refine hK.out _ _ trivial (fun hHeld => ?_)
              clear hK K
              try simp only [Act.put, List.getElem_toArray, List.getElem_cons_zero, List.getElem_cons_succ, List.setIfInBounds_toArray, List.set_cons_zero, List.set_cons_succ]
              clear c0 c1 c2 c3 c4 c5 c6 fr
              generalize wb.setCell ⟨p, 6, none⟩ (.slice o3 kl.length k3) = wc at *
              clear NW OW BW QW
              have NW := NX
              have OW := OX
              have BW := BXX
              have QW := QX
              clear NX OX BXX QX
              refine wpAnyH_done (by kernel_rfl) ?_ _
              obtain ⟨c0, c1, c2, c3, c4, c5, c6⟩ := seven_cells NW.out
              obtain ⟨z0, z1, z2, z3, z4, z5, z6⟩ := seven_cells QW.out
              have f0 := frozenG QW.out 0
              have f1 := frozenG QW.out 1
              have f2 := frozenG QW.out 2
              have f3 := frozenG QW.out 3
              have f4 := frozenG QW.out 4
              have f5 := frozenG QW.out 5
              have f6 := frozenG QW.out 6
              have NE := hide (put7_same QW.out (.int .i64 x0) (.int .i64 x1) (.int .i64 x2) (.slice o1 pa.length k1) (.slice o2 cm.length k2) (.int .i64 x5) (.slice o3 kl.length k3))
              have BE := hide (put7_below BW.out QG.out (.int .i64 x0) (.int .i64 x1) (.int .i64 x2) (.slice o1 pa.length k1) (.slice o2 cm.length k2) (.int .i64 x5) (.slice o3 kl.length k3))
              have OE : Hid (∀ b, W0.heap.size ≤ b → (put7 wc q (.int .i64 x0) (.int .i64 x1) (.int .i64 x2) (.slice o1 pa.length k1) (.slice o2 cm.length k2) (.int .i64 x5) (.slice o3 kl.length k3)).heap[b]? = w3.heap[b]?) := fun b hb => (put7_other _ _ _ _ _ _ _ _ _ b (Nat.ne_of_gt (Nat.lt_of_lt_of_le QL.out hb))).trans (OW.out b hb)
              have FIN := hide (copy_fin (a := ⟨x0, x1, x2, pa, cm, x5, kl⟩) BP.out B0.out D1.out D2.out D3.out S1.out R1.out S2.out R2.out S3.out R3.out OE.out)
              clear OE OW BW QL PL B0 B1 B2 B3 D1 D2 D3 S1 S2 S3 R1 R2 R3 N1 N2 N3
              go_wp2_with fail
              change bodyPost _ _ _ _ _ (put7 wc q (.int .i64 x0) (.int .i64 x1) (.int .i64 x2) (.slice o1 pa.length k1) (.slice o2 cm.length k2) (.int .i64 x5) (.slice o3 kl.length k3))
              generalize put7 wc q (.int .i64 x0) (.int .i64 x1) (.int .i64 x2) (.slice o1 pa.length k1) (.slice o2 cm.length k2) (.int .i64 x5) (.slice o3 kl.length k3) = w9 at *
              obtain ⟨y0, y1, y2, y3, y4, y5, y6⟩ := seven_cells NE.out
              refine bodyPost_ret (v := .agg #[.int .i64 x0, .int .i64 x1, .int .i64 x2, .slice o1 pa.length k1, .slice o2 cm.length k2, .int .i64 x5, .slice o3 kl.length k3]) ?_ rfl ⟨o1, o2, o3, k1, k2, k3, rfl, FIN.out, ⟨M1.out.1, M2.out, M3.out.1, M3.out.2⟩, BE.out⟩
              simp [results, Tryz.results38, go_sem, y0, y1, y2, y3, y4, y5, y6]
            exact AllReadyH.nil
          exact AllReadyH.nil
        refine AllReadyH.cons rfl (fun K hK => ?_) ?_
        · go_simp
          refine hK.out _ _ trivial (fun hHeld => ?_)
          clear hK K
          try simp only [Act.put, List.getElem_toArray, List.getElem_cons_zero, List.getElem_cons_succ, List.setIfInBounds_toArray, List.set_cons_zero, List.set_cons_succ]
          refine wpAnyH_take (i := 9) (v := .pointer (some ⟨p, 3, none⟩)) rfl (by kernel_rfl) (by kernel_rfl) (by kernel_rfl) (fun _ _ _ h => h) (Or.inl ⟨by rfl, fun w hSw => by dsimp only at hSw; go_simp⟩) hHeld ?_
          simp only [Act.put, List.getElem_toArray, List.getElem_cons_zero, List.getElem_cons_succ, List.setIfInBounds_toArray, List.set_cons_zero, List.set_cons_succ]
          refine wpAnyH_ready (rs := [5]) (by kernel_rfl) (by simp) ?_
          refine AllReadyH.cons rfl (fun K hK => ?_) ?_
          · go_simp
            go_wp2_with (refine (C2.out _ B1.out).mono ?_; rintro e w2 ⟨o2, k2, rfl, s2, r2, m2, hb⟩; have S2 := hide s2; have R2 := hide r2; have M2 := hide m2; have D2 := hide hb; have B2 := hide (bthen B1.out hb); have N2 := hide ((hb.block p (heap_lt N1.out)).trans N1.out); clear s2 r2 m2 hb)
            refine hK.out _ _ trivial (fun hHeld => ?_)
            clear hK K
            try simp only [Act.put, List.getElem_toArray, List.getElem_cons_zero, List.getElem_cons_succ, List.setIfInBounds_toArray, List.set_cons_zero, List.set_cons_succ]
            clear c0 c1 c2 c3 c4 c5 c6
            obtain ⟨c0, c1, c2, c3, c4, c5, c6⟩ := seven_cells N2.out
            refine wpAnyH_ready (rs := [8]) (by kernel_rfl) (by simp) ?_
            refine AllReadyH.cons rfl (fun K hK => ?_) ?_
            · go_simp
              go_wp2_with (refine (C3.out _ B2.out).mono ?_; rintro e w3 ⟨o3, k3, rfl, s3, r3, m3, hb⟩; have S3 := hide s3; have R3 := hide r3; have M3 := hide m3; have D3 := hide hb; have B3 := hide (bthen B2.out hb); have N3 := hide ((hb.block p (heap_lt N2.out)).trans N2.out); clear s3 r3 m3 hb)
              refine hK.out _ _ trivial (fun hHeld => ?_)
              clear hK K
              try simp only [Act.put, List.getElem_toArray, List.getElem_cons_zero, List.getElem_cons_succ, List.setIfInBounds_toArray, List.set_cons_zero, List.set_cons_succ]
              clear c0 c1 c2 c3 c4 c5 c6
              obtain ⟨c0, c1, c2, c3, c4, c5, c6⟩ := seven_cells N3.out
              have NW := N3
              clear c0 c1 c2 c3 c4 c5 c6
              have OW : Hid (∀ b, W0.heap.size ≤ b → w3.heap[b]? = w3.heap[b]?) := fun _ _ => rfl
              have BW := hide (bthen BB.out B3.out)
              obtain ⟨c0, c1, c2, c3, c4, c5, c6⟩ := seven_cells NW.out
              have fr := frozenG NW.out 3
              have NX := hide (put_at3 NW.out (.slice o1 pa.length k1))
              have OX : Hid (∀ b, W0.heap.size ≤ b → (w3.setCell ⟨p, 3, none⟩ (.slice o1 pa.length k1)).heap[b]? = w3.heap[b]?) := fun b hb => (heap_setCell_other _ ⟨p, 3, none⟩ b _ (Nat.ne_of_gt (Nat.lt_of_lt_of_le PL.out hb))).trans (OW.out b hb)
              have BXX := hide (bset BW.out (p := ⟨p, 3, none⟩) PG.out (.slice o1 pa.length k1))
              have QX := hide ((heap_setCell_other w3 ⟨p, 3, none⟩ q (.slice o1 pa.length k1) QP.out).trans (((B3.out.block q QL.out).trans NQ.out)))
              refine wpAnyH_ready (rs := [10]) (by kernel_rfl) (by simp) ?_
              refine AllReadyH.cons rfl (fun K hK => ?_) AllReadyH.nil
              go_simp
              refine hK.out _ _ trivial (fun hHeld => ?_)
              clear hK K
              try simp only [Act.put, List.getElem_toArray, List.getElem_cons_zero, List.getElem_cons_succ, List.setIfInBounds_toArray, List.set_cons_zero, List.set_cons_succ]
              clear c0 c1 c2 c3 c4 c5 c6 fr
              generalize w3.setCell ⟨p, 3, none⟩ (.slice o1 pa.length k1) = wa at *
              clear NW OW BW
              have NW := NX
              have OW := OX
              have BW := BXX
              have QW := QX
              clear NX OX BXX QX
              refine wpAnyH_take (i := 11) (v := .pointer (some ⟨p, 4, none⟩)) rfl (by kernel_rfl) (by kernel_rfl) (by kernel_rfl) (fun _ _ _ h => h) (Or.inl ⟨by rfl, fun w hSw => by dsimp only at hSw; go_simp⟩) hHeld ?_
              simp only [Act.put, List.getElem_toArray, List.getElem_cons_zero, List.getElem_cons_succ, List.setIfInBounds_toArray, List.set_cons_zero, List.set_cons_succ]
              obtain ⟨c0, c1, c2, c3, c4, c5, c6⟩ := seven_cells NW.out
              have fr := frozenG NW.out 4
              have NX := hide (put_at4 NW.out (.slice o2 cm.length k2))
              have OX : Hid (∀ b, W0.heap.size ≤ b → (wa.setCell ⟨p, 4, none⟩ (.slice o2 cm.length k2)).heap[b]? = w3.heap[b]?) := fun b hb => (heap_setCell_other _ ⟨p, 4, none⟩ b _ (Nat.ne_of_gt (Nat.lt_of_lt_of_le PL.out hb))).trans (OW.out b hb)
              have BXX := hide (bset BW.out (p := ⟨p, 4, none⟩) PG.out (.slice o2 cm.length k2))
              have QX := hide ((heap_setCell_other wa ⟨p, 4, none⟩ q (.slice o2 cm.length k2) QP.out).trans QW.out)
              refine wpAnyH_ready (rs := [12]) (by kernel_rfl) (by simp) ?_
              refine AllReadyH.cons rfl (fun K hK => ?_) AllReadyH.nil
              go_simp
              refine hK.out _ _ trivial (fun hHeld => ?_)
              clear hK K
              try simp only [Act.put, List.getElem_toArray, List.getElem_cons_zero, List.getElem_cons_succ, List.setIfInBounds_toArray, List.set_cons_zero, List.set_cons_succ]
              clear c0 c1 c2 c3 c4 c5 c6 fr
              generalize wa.setCell ⟨p, 4, none⟩ (.slice o2 cm.length k2) = wb at *
              clear NW OW BW QW
              have NW := NX
              have OW := OX
              have BW := BXX
              have QW := QX
              clear NX OX BXX QX
              refine wpAnyH_take (i := 13) (v := .pointer (some ⟨p, 6, none⟩)) rfl (by kernel_rfl) (by kernel_rfl) (by kernel_rfl) (fun _ _ _ h => h) (Or.inl ⟨by rfl, fun w hSw => by dsimp only at hSw; go_simp⟩) hHeld ?_
              simp only [Act.put, List.getElem_toArray, List.getElem_cons_zero, List.getElem_cons_succ, List.setIfInBounds_toArray, List.set_cons_zero, List.set_cons_succ]
              obtain ⟨c0, c1, c2, c3, c4, c5, c6⟩ := seven_cells NW.out
              have fr := frozenG NW.out 6
              have NX := hide (put_at6 NW.out (.slice o3 kl.length k3))
              have OX : Hid (∀ b, W0.heap.size ≤ b → (wb.setCell ⟨p, 6, none⟩ (.slice o3 kl.length k3)).heap[b]? = w3.heap[b]?) := fun b hb => (heap_setCell_other _ ⟨p, 6, none⟩ b _ (Nat.ne_of_gt (Nat.lt_of_lt_of_le PL.out hb))).trans (OW.out b hb)
              have BXX := hide (bset BW.out (p := ⟨p, 6, none⟩) PG.out (.slice o3 kl.length k3))
              have QX := hide ((heap_setCell_other wb ⟨p, 6, none⟩ q (.slice o3 kl.length k3) QP.out).trans QW.out)
              refine wpAnyH_ready (rs := [14]) (by kernel_rfl) (by simp) ?_
              refine AllReadyH.cons rfl (fun K hK => ?_) AllReadyH.nil
              go_simp
              refine hK.out _ _ trivial (fun hHeld => ?_)
              clear hK K
              try simp only [Act.put, List.getElem_toArray, List.getElem_cons_zero, List.getElem_cons_succ, List.setIfInBounds_toArray, List.set_cons_zero, List.set_cons_succ]
              clear c0 c1 c2 c3 c4 c5 c6 fr
              generalize wb.setCell ⟨p, 6, none⟩ (.slice o3 kl.length k3) = wc at *
              clear NW OW BW QW
              have NW := NX
              have OW := OX
              have BW := BXX
              have QW := QX
              clear NX OX BXX QX
              refine wpAnyH_done (by kernel_rfl) ?_ _
              obtain ⟨c0, c1, c2, c3, c4, c5, c6⟩ := seven_cells NW.out
              obtain ⟨z0, z1, z2, z3, z4, z5, z6⟩ := seven_cells QW.out
              have f0 := frozenG QW.out 0
              have f1 := frozenG QW.out 1
              have f2 := frozenG QW.out 2
              have f3 := frozenG QW.out 3
              have f4 := frozenG QW.out 4
              have f5 := frozenG QW.out 5
              have f6 := frozenG QW.out 6
              have NE := hide (put7_same QW.out (.int .i64 x0) (.int .i64 x1) (.int .i64 x2) (.slice o1 pa.length k1) (.slice o2 cm.length k2) (.int .i64 x5) (.slice o3 kl.length k3))
              have BE := hide (put7_below BW.out QG.out (.int .i64 x0) (.int .i64 x1) (.int .i64 x2) (.slice o1 pa.length k1) (.slice o2 cm.length k2) (.int .i64 x5) (.slice o3 kl.length k3))
              have OE : Hid (∀ b, W0.heap.size ≤ b → (put7 wc q (.int .i64 x0) (.int .i64 x1) (.int .i64 x2) (.slice o1 pa.length k1) (.slice o2 cm.length k2) (.int .i64 x5) (.slice o3 kl.length k3)).heap[b]? = w3.heap[b]?) := fun b hb => (put7_other _ _ _ _ _ _ _ _ _ b (Nat.ne_of_gt (Nat.lt_of_lt_of_le QL.out hb))).trans (OW.out b hb)
              have FIN := hide (copy_fin (a := ⟨x0, x1, x2, pa, cm, x5, kl⟩) BP.out B0.out D1.out D2.out D3.out S1.out R1.out S2.out R2.out S3.out R3.out OE.out)
              clear OE OW BW QL PL B0 B1 B2 B3 D1 D2 D3 S1 S2 S3 R1 R2 R3 N1 N2 N3
              go_wp2_with fail
              change bodyPost _ _ _ _ _ (put7 wc q (.int .i64 x0) (.int .i64 x1) (.int .i64 x2) (.slice o1 pa.length k1) (.slice o2 cm.length k2) (.int .i64 x5) (.slice o3 kl.length k3))
              generalize put7 wc q (.int .i64 x0) (.int .i64 x1) (.int .i64 x2) (.slice o1 pa.length k1) (.slice o2 cm.length k2) (.int .i64 x5) (.slice o3 kl.length k3) = w9 at *
              obtain ⟨y0, y1, y2, y3, y4, y5, y6⟩ := seven_cells NE.out
              refine bodyPost_ret (v := .agg #[.int .i64 x0, .int .i64 x1, .int .i64 x2, .slice o1 pa.length k1, .slice o2 cm.length k2, .int .i64 x5, .slice o3 kl.length k3]) ?_ rfl ⟨o1, o2, o3, k1, k2, k3, rfl, FIN.out, ⟨M1.out.1, M2.out, M3.out.1, M3.out.2⟩, BE.out⟩
              simp [results, Tryz.results38, go_sem, y0, y1, y2, y3, y4, y5, y6]
            exact AllReadyH.nil
          exact AllReadyH.nil
        exact AllReadyH.nil
      refine AllReadyH.cons rfl (fun K hK => ?_) ?_
      · go_simp
        refine hK.out _ _ trivial (fun hHeld => ?_)
        clear hK K
        try simp only [Act.put, List.getElem_toArray, List.getElem_cons_zero, List.getElem_cons_succ, List.setIfInBounds_toArray, List.set_cons_zero, List.set_cons_succ]
        refine wpAnyH_ready (rs := [2]) (by kernel_rfl) (by simp) ?_
        refine AllReadyH.cons rfl (fun K hK => ?_) ?_
        · go_simp
          go_wp2_with (refine (C1.out _ B0.out).mono ?_; rintro e w1 ⟨o1, k1, rfl, s1, r1, m1, hb⟩; have S1 := hide s1; have R1 := hide r1; have M1 := hide m1; have D1 := hide hb; have B1 := hide (bthen B0.out hb); have N1 := hide ((hb.block p (heap_lt N0.out)).trans N0.out); clear s1 r1 m1 hb)
          refine hK.out _ _ trivial (fun hHeld => ?_)
          clear hK K
          try simp only [Act.put, List.getElem_toArray, List.getElem_cons_zero, List.getElem_cons_succ, List.setIfInBounds_toArray, List.set_cons_zero, List.set_cons_succ]
          clear c0 c1 c2 c3 c4 c5 c6
          obtain ⟨c0, c1, c2, c3, c4, c5, c6⟩ := seven_cells N1.out
          refine wpAnyH_take (i := 9) (v := .pointer (some ⟨p, 3, none⟩)) rfl (by kernel_rfl) (by kernel_rfl) (by kernel_rfl) (fun _ _ _ h => h) (Or.inl ⟨by rfl, fun w hSw => by dsimp only at hSw; go_simp⟩) hHeld ?_
          simp only [Act.put, List.getElem_toArray, List.getElem_cons_zero, List.getElem_cons_succ, List.setIfInBounds_toArray, List.set_cons_zero, List.set_cons_succ]
          refine wpAnyH_ready (rs := [5]) (by kernel_rfl) (by simp) ?_
          refine AllReadyH.cons rfl (fun K hK => ?_) ?_
          · go_simp
            go_wp2_with (refine (C2.out _ B1.out).mono ?_; rintro e w2 ⟨o2, k2, rfl, s2, r2, m2, hb⟩; have S2 := hide s2; have R2 := hide r2; have M2 := hide m2; have D2 := hide hb; have B2 := hide (bthen B1.out hb); have N2 := hide ((hb.block p (heap_lt N1.out)).trans N1.out); clear s2 r2 m2 hb)
            refine hK.out _ _ trivial (fun hHeld => ?_)
            clear hK K
            try simp only [Act.put, List.getElem_toArray, List.getElem_cons_zero, List.getElem_cons_succ, List.setIfInBounds_toArray, List.set_cons_zero, List.set_cons_succ]
            clear c0 c1 c2 c3 c4 c5 c6
            obtain ⟨c0, c1, c2, c3, c4, c5, c6⟩ := seven_cells N2.out
            refine wpAnyH_ready (rs := [8]) (by kernel_rfl) (by simp) ?_
            refine AllReadyH.cons rfl (fun K hK => ?_) ?_
            · go_simp
              go_wp2_with (refine (C3.out _ B2.out).mono ?_; rintro e w3 ⟨o3, k3, rfl, s3, r3, m3, hb⟩; have S3 := hide s3; have R3 := hide r3; have M3 := hide m3; have D3 := hide hb; have B3 := hide (bthen B2.out hb); have N3 := hide ((hb.block p (heap_lt N2.out)).trans N2.out); clear s3 r3 m3 hb)
              refine hK.out _ _ trivial (fun hHeld => ?_)
              clear hK K
              try simp only [Act.put, List.getElem_toArray, List.getElem_cons_zero, List.getElem_cons_succ, List.setIfInBounds_toArray, List.set_cons_zero, List.set_cons_succ]
              clear c0 c1 c2 c3 c4 c5 c6
              obtain ⟨c0, c1, c2, c3, c4, c5, c6⟩ := seven_cells N3.out
              have NW := N3
              clear c0 c1 c2 c3 c4 c5 c6
              have OW : Hid (∀ b, W0.heap.size ≤ b → w3.heap[b]? = w3.heap[b]?) := fun _ _ => rfl
              have BW := hide (bthen BB.out B3.out)
              obtain ⟨c0, c1, c2, c3, c4, c5, c6⟩ := seven_cells NW.out
              have fr := frozenG NW.out 3
              have NX := hide (put_at3 NW.out (.slice o1 pa.length k1))
              have OX : Hid (∀ b, W0.heap.size ≤ b → (w3.setCell ⟨p, 3, none⟩ (.slice o1 pa.length k1)).heap[b]? = w3.heap[b]?) := fun b hb => (heap_setCell_other _ ⟨p, 3, none⟩ b _ (Nat.ne_of_gt (Nat.lt_of_lt_of_le PL.out hb))).trans (OW.out b hb)
              have BXX := hide (bset BW.out (p := ⟨p, 3, none⟩) PG.out (.slice o1 pa.length k1))
              have QX := hide ((heap_setCell_other w3 ⟨p, 3, none⟩ q (.slice o1 pa.length k1) QP.out).trans (((B3.out.block q QL.out).trans NQ.out)))
              refine wpAnyH_ready (rs := [10]) (by kernel_rfl) (by simp) ?_
              refine AllReadyH.cons rfl (fun K hK => ?_) AllReadyH.nil
              go_simp
              refine hK.out _ _ trivial (fun hHeld => ?_)
              clear hK K
              try simp only [Act.put, List.getElem_toArray, List.getElem_cons_zero, List.getElem_cons_succ, List.setIfInBounds_toArray, List.set_cons_zero, List.set_cons_succ]
              clear c0 c1 c2 c3 c4 c5 c6 fr
              generalize w3.setCell ⟨p, 3, none⟩ (.slice o1 pa.length k1) = wa at *
              clear NW OW BW
              have NW := NX
              have OW := OX
              have BW := BXX
              have QW := QX
              clear NX OX BXX QX
              refine wpAnyH_take (i := 11) (v := .pointer (some ⟨p, 4, none⟩)) rfl (by kernel_rfl) (by kernel_rfl) (by kernel_rfl) (fun _ _ _ h => h) (Or.inl ⟨by rfl, fun w hSw => by dsimp only at hSw; go_simp⟩) hHeld ?_
              simp only [Act.put, List.getElem_toArray, List.getElem_cons_zero, List.getElem_cons_succ, List.setIfInBounds_toArray, List.set_cons_zero, List.set_cons_succ]
              obtain ⟨c0, c1, c2, c3, c4, c5, c6⟩ := seven_cells NW.out
              have fr := frozenG NW.out 4
              have NX := hide (put_at4 NW.out (.slice o2 cm.length k2))
              have OX : Hid (∀ b, W0.heap.size ≤ b → (wa.setCell ⟨p, 4, none⟩ (.slice o2 cm.length k2)).heap[b]? = w3.heap[b]?) := fun b hb => (heap_setCell_other _ ⟨p, 4, none⟩ b _ (Nat.ne_of_gt (Nat.lt_of_lt_of_le PL.out hb))).trans (OW.out b hb)
              have BXX := hide (bset BW.out (p := ⟨p, 4, none⟩) PG.out (.slice o2 cm.length k2))
              have QX := hide ((heap_setCell_other wa ⟨p, 4, none⟩ q (.slice o2 cm.length k2) QP.out).trans QW.out)
              refine wpAnyH_ready (rs := [12]) (by kernel_rfl) (by simp) ?_
              refine AllReadyH.cons rfl (fun K hK => ?_) AllReadyH.nil
              go_simp
              refine hK.out _ _ trivial (fun hHeld => ?_)
              clear hK K
              try simp only [Act.put, List.getElem_toArray, List.getElem_cons_zero, List.getElem_cons_succ, List.setIfInBounds_toArray, List.set_cons_zero, List.set_cons_succ]
              clear c0 c1 c2 c3 c4 c5 c6 fr
              generalize wa.setCell ⟨p, 4, none⟩ (.slice o2 cm.length k2) = wb at *
              clear NW OW BW QW
              have NW := NX
              have OW := OX
              have BW := BXX
              have QW := QX
              clear NX OX BXX QX
              refine wpAnyH_take (i := 13) (v := .pointer (some ⟨p, 6, none⟩)) rfl (by kernel_rfl) (by kernel_rfl) (by kernel_rfl) (fun _ _ _ h => h) (Or.inl ⟨by rfl, fun w hSw => by dsimp only at hSw; go_simp⟩) hHeld ?_
              simp only [Act.put, List.getElem_toArray, List.getElem_cons_zero, List.getElem_cons_succ, List.setIfInBounds_toArray, List.set_cons_zero, List.set_cons_succ]
              obtain ⟨c0, c1, c2, c3, c4, c5, c6⟩ := seven_cells NW.out
              have fr := frozenG NW.out 6
              have NX := hide (put_at6 NW.out (.slice o3 kl.length k3))
              have OX : Hid (∀ b, W0.heap.size ≤ b → (wb.setCell ⟨p, 6, none⟩ (.slice o3 kl.length k3)).heap[b]? = w3.heap[b]?) := fun b hb => (heap_setCell_other _ ⟨p, 6, none⟩ b _ (Nat.ne_of_gt (Nat.lt_of_lt_of_le PL.out hb))).trans (OW.out b hb)
              have BXX := hide (bset BW.out (p := ⟨p, 6, none⟩) PG.out (.slice o3 kl.length k3))
              have QX := hide ((heap_setCell_other wb ⟨p, 6, none⟩ q (.slice o3 kl.length k3) QP.out).trans QW.out)
              refine wpAnyH_ready (rs := [14]) (by kernel_rfl) (by simp) ?_
              refine AllReadyH.cons rfl (fun K hK => ?_) AllReadyH.nil
              go_simp
              refine hK.out _ _ trivial (fun hHeld => ?_)
              clear hK K
              try simp only [Act.put, List.getElem_toArray, List.getElem_cons_zero, List.getElem_cons_succ, List.setIfInBounds_toArray, List.set_cons_zero, List.set_cons_succ]
              clear c0 c1 c2 c3 c4 c5 c6 fr
              generalize wb.setCell ⟨p, 6, none⟩ (.slice o3 kl.length k3) = wc at *
              clear NW OW BW QW
              have NW := NX
              have OW := OX
              have BW := BXX
              have QW := QX
              clear NX OX BXX QX
              refine wpAnyH_done (by kernel_rfl) ?_ _
              obtain ⟨c0, c1, c2, c3, c4, c5, c6⟩ := seven_cells NW.out
              obtain ⟨z0, z1, z2, z3, z4, z5, z6⟩ := seven_cells QW.out
              have f0 := frozenG QW.out 0
              have f1 := frozenG QW.out 1
              have f2 := frozenG QW.out 2
              have f3 := frozenG QW.out 3
              have f4 := frozenG QW.out 4
              have f5 := frozenG QW.out 5
              have f6 := frozenG QW.out 6
              have NE := hide (put7_same QW.out (.int .i64 x0) (.int .i64 x1) (.int .i64 x2) (.slice o1 pa.length k1) (.slice o2 cm.length k2) (.int .i64 x5) (.slice o3 kl.length k3))
              have BE := hide (put7_below BW.out QG.out (.int .i64 x0) (.int .i64 x1) (.int .i64 x2) (.slice o1 pa.length k1) (.slice o2 cm.length k2) (.int .i64 x5) (.slice o3 kl.length k3))
              have OE : Hid (∀ b, W0.heap.size ≤ b → (put7 wc q (.int .i64 x0) (.int .i64 x1) (.int .i64 x2) (.slice o1 pa.length k1) (.slice o2 cm.length k2) (.int .i64 x5) (.slice o3 kl.length k3)).heap[b]? = w3.heap[b]?) := fun b hb => (put7_other _ _ _ _ _ _ _ _ _ b (Nat.ne_of_gt (Nat.lt_of_lt_of_le QL.out hb))).trans (OW.out b hb)
              have FIN := hide (copy_fin (a := ⟨x0, x1, x2, pa, cm, x5, kl⟩) BP.out B0.out D1.out D2.out D3.out S1.out R1.out S2.out R2.out S3.out R3.out OE.out)
              clear OE OW BW QL PL B0 B1 B2 B3 D1 D2 D3 S1 S2 S3 R1 R2 R3 N1 N2 N3
              go_wp2_with fail
              change bodyPost _ _ _ _ _ (put7 wc q (.int .i64 x0) (.int .i64 x1) (.int .i64 x2) (.slice o1 pa.length k1) (.slice o2 cm.length k2) (.int .i64 x5) (.slice o3 kl.length k3))
              generalize put7 wc q (.int .i64 x0) (.int .i64 x1) (.int .i64 x2) (.slice o1 pa.length k1) (.slice o2 cm.length k2) (.int .i64 x5) (.slice o3 kl.length k3) = w9 at *
              obtain ⟨y0, y1, y2, y3, y4, y5, y6⟩ := seven_cells NE.out
              refine bodyPost_ret (v := .agg #[.int .i64 x0, .int .i64 x1, .int .i64 x2, .slice o1 pa.length k1, .slice o2 cm.length k2, .int .i64 x5, .slice o3 kl.length k3]) ?_ rfl ⟨o1, o2, o3, k1, k2, k3, rfl, FIN.out, ⟨M1.out.1, M2.out, M3.out.1, M3.out.2⟩, BE.out⟩
              simp [results, Tryz.results38, go_sem, y0, y1, y2, y3, y4, y5, y6]
            exact AllReadyH.nil
          exact AllReadyH.nil
        exact AllReadyH.nil
      exact AllReadyH.nil
    refine AllReadyH.cons rfl (fun K hK => ?_) ?_
    · go_simp
      refine hK.out _ _ trivial (fun hHeld => ?_)
      clear hK K
      try simp only [Act.put, List.getElem_toArray, List.getElem_cons_zero, List.getElem_cons_succ, List.setIfInBounds_toArray, List.set_cons_zero, List.set_cons_succ]
      refine wpAnyH_ready (rs := [2, 4]) (by kernel_rfl) (by simp) ?_
      refine AllReadyH.cons rfl (fun K hK => ?_) ?_
      · go_simp
        go_wp2_with (refine (C1.out _ B0.out).mono ?_; rintro e w1 ⟨o1, k1, rfl, s1, r1, m1, hb⟩; have S1 := hide s1; have R1 := hide r1; have M1 := hide m1; have D1 := hide hb; have B1 := hide (bthen B0.out hb); have N1 := hide ((hb.block p (heap_lt N0.out)).trans N0.out); clear s1 r1 m1 hb)
        refine hK.out _ _ trivial (fun hHeld => ?_)
        clear hK K
        try simp only [Act.put, List.getElem_toArray, List.getElem_cons_zero, List.getElem_cons_succ, List.setIfInBounds_toArray, List.set_cons_zero, List.set_cons_succ]
        clear c0 c1 c2 c3 c4 c5 c6
        obtain ⟨c0, c1, c2, c3, c4, c5, c6⟩ := seven_cells N1.out
        refine wpAnyH_ready (rs := [4]) (by kernel_rfl) (by simp) ?_
        refine AllReadyH.cons rfl (fun K hK => ?_) ?_
        · go_simp
          refine hK.out _ _ trivial (fun hHeld => ?_)
          clear hK K
          try simp only [Act.put, List.getElem_toArray, List.getElem_cons_zero, List.getElem_cons_succ, List.setIfInBounds_toArray, List.set_cons_zero, List.set_cons_succ]
          refine wpAnyH_take (i := 9) (v := .pointer (some ⟨p, 3, none⟩)) rfl (by kernel_rfl) (by kernel_rfl) (by kernel_rfl) (fun _ _ _ h => h) (Or.inl ⟨by rfl, fun w hSw => by dsimp only at hSw; go_simp⟩) hHeld ?_
          simp only [Act.put, List.getElem_toArray, List.getElem_cons_zero, List.getElem_cons_succ, List.setIfInBounds_toArray, List.set_cons_zero, List.set_cons_succ]
          refine wpAnyH_ready (rs := [5]) (by kernel_rfl) (by simp) ?_
          refine AllReadyH.cons rfl (fun K hK => ?_) ?_
          · go_simp
            go_wp2_with (refine (C2.out _ B1.out).mono ?_; rintro e w2 ⟨o2, k2, rfl, s2, r2, m2, hb⟩; have S2 := hide s2; have R2 := hide r2; have M2 := hide m2; have D2 := hide hb; have B2 := hide (bthen B1.out hb); have N2 := hide ((hb.block p (heap_lt N1.out)).trans N1.out); clear s2 r2 m2 hb)
            refine hK.out _ _ trivial (fun hHeld => ?_)
            clear hK K
            try simp only [Act.put, List.getElem_toArray, List.getElem_cons_zero, List.getElem_cons_succ, List.setIfInBounds_toArray, List.set_cons_zero, List.set_cons_succ]
            clear c0 c1 c2 c3 c4 c5 c6
            obtain ⟨c0, c1, c2, c3, c4, c5, c6⟩ := seven_cells N2.out
            refine wpAnyH_ready (rs := [8]) (by kernel_rfl) (by simp) ?_
            refine AllReadyH.cons rfl (fun K hK => ?_) ?_
            · go_simp
              go_wp2_with (refine (C3.out _ B2.out).mono ?_; rintro e w3 ⟨o3, k3, rfl, s3, r3, m3, hb⟩; have S3 := hide s3; have R3 := hide r3; have M3 := hide m3; have D3 := hide hb; have B3 := hide (bthen B2.out hb); have N3 := hide ((hb.block p (heap_lt N2.out)).trans N2.out); clear s3 r3 m3 hb)
              refine hK.out _ _ trivial (fun hHeld => ?_)
              clear hK K
              try simp only [Act.put, List.getElem_toArray, List.getElem_cons_zero, List.getElem_cons_succ, List.setIfInBounds_toArray, List.set_cons_zero, List.set_cons_succ]
              clear c0 c1 c2 c3 c4 c5 c6
              obtain ⟨c0, c1, c2, c3, c4, c5, c6⟩ := seven_cells N3.out
              have NW := N3
              clear c0 c1 c2 c3 c4 c5 c6
              have OW : Hid (∀ b, W0.heap.size ≤ b → w3.heap[b]? = w3.heap[b]?) := fun _ _ => rfl
              have BW := hide (bthen BB.out B3.out)
              obtain ⟨c0, c1, c2, c3, c4, c5, c6⟩ := seven_cells NW.out
              have fr := frozenG NW.out 3
              have NX := hide (put_at3 NW.out (.slice o1 pa.length k1))
              have OX : Hid (∀ b, W0.heap.size ≤ b → (w3.setCell ⟨p, 3, none⟩ (.slice o1 pa.length k1)).heap[b]? = w3.heap[b]?) := fun b hb => (heap_setCell_other _ ⟨p, 3, none⟩ b _ (Nat.ne_of_gt (Nat.lt_of_lt_of_le PL.out hb))).trans (OW.out b hb)
              have BXX := hide (bset BW.out (p := ⟨p, 3, none⟩) PG.out (.slice o1 pa.length k1))
              have QX := hide ((heap_setCell_other w3 ⟨p, 3, none⟩ q (.slice o1 pa.length k1) QP.out).trans (((B3.out.block q QL.out).trans NQ.out)))
              refine wpAnyH_ready (rs := [10]) (by kernel_rfl) (by simp) ?_
              refine AllReadyH.cons rfl (fun K hK => ?_) AllReadyH.nil
              go_simp
              refine hK.out _ _ trivial (fun hHeld => ?_)
              clear hK K
              try simp only [Act.put, List.getElem_toArray, List.getElem_cons_zero, List.getElem_cons_succ, List.setIfInBounds_toArray, List.set_cons_zero, List.set_cons_succ]
              clear c0 c1 c2 c3 c4 c5 c6 fr
              generalize w3.setCell ⟨p, 3, none⟩ (.slice o1 pa.length k1) = wa at *
              clear NW OW BW
              have NW := NX
              have OW := OX
              have BW := BXX
              have QW := QX
              clear NX OX BXX QX
              refine wpAnyH_take (i := 11) (v := .pointer (some ⟨p, 4, none⟩)) rfl (by kernel_rfl) (by kernel_rfl) (by kernel_rfl) (fun _ _ _ h => h) (Or.inl ⟨by rfl, fun w hSw => by dsimp only at hSw; go_simp⟩) hHeld ?_
              simp only [Act.put, List.getElem_toArray, List.getElem_cons_zero, List.getElem_cons_succ, List.setIfInBounds_toArray, List.set_cons_zero, List.set_cons_succ]
              obtain ⟨c0, c1, c2, c3, c4, c5, c6⟩ := seven_cells NW.out
              have fr := frozenG NW.out 4
              have NX := hide (put_at4 NW.out (.slice o2 cm.length k2))
              have OX : Hid (∀ b, W0.heap.size ≤ b → (wa.setCell ⟨p, 4, none⟩ (.slice o2 cm.length k2)).heap[b]? = w3.heap[b]?) := fun b hb => (heap_setCell_other _ ⟨p, 4, none⟩ b _ (Nat.ne_of_gt (Nat.lt_of_lt_of_le PL.out hb))).trans (OW.out b hb)
              have BXX := hide (bset BW.out (p := ⟨p, 4, none⟩) PG.out (.slice o2 cm.length k2))
              have QX := hide ((heap_setCell_other wa ⟨p, 4, none⟩ q (.slice o2 cm.length k2) QP.out).trans QW.out)
              refine wpAnyH_ready (rs := [12]) (by kernel_rfl) (by simp) ?_
              refine AllReadyH.cons rfl (fun K hK => ?_) AllReadyH.nil
              go_simp
              refine hK.out _ _ trivial (fun hHeld => ?_)
              clear hK K
              try simp only [Act.put, List.getElem_toArray, List.getElem_cons_zero, List.getElem_cons_succ, List.setIfInBounds_toArray, List.set_cons_zero, List.set_cons_succ]
              clear c0 c1 c2 c3 c4 c5 c6 fr
              generalize wa.setCell ⟨p, 4, none⟩ (.slice o2 cm.length k2) = wb at *
              clear NW OW BW QW
              have NW := NX
              have OW := OX
              have BW := BXX
              have QW := QX
              clear NX OX BXX QX
              refine wpAnyH_take (i := 13) (v := .pointer (some ⟨p, 6, none⟩)) rfl (by kernel_rfl) (by kernel_rfl) (by kernel_rfl) (fun _ _ _ h => h) (Or.inl ⟨by rfl, fun w hSw => by dsimp only at hSw; go_simp⟩) hHeld ?_
              simp only [Act.put, List.getElem_toArray, List.getElem_cons_zero, List.getElem_cons_succ, List.setIfInBounds_toArray, List.set_cons_zero, List.set_cons_succ]
              obtain ⟨c0, c1, c2, c3, c4, c5, c6⟩ := seven_cells NW.out
              have fr := frozenG NW.out 6
              have NX := hide (put_at6 NW.out (.slice o3 kl.length k3))
              have OX : Hid (∀ b, W0.heap.size ≤ b → (wb.setCell ⟨p, 6, none⟩ (.slice o3 kl.length k3)).heap[b]? = w3.heap[b]?) := fun b hb => (heap_setCell_other _ ⟨p, 6, none⟩ b _ (Nat.ne_of_gt (Nat.lt_of_lt_of_le PL.out hb))).trans (OW.out b hb)
              have BXX := hide (bset BW.out (p := ⟨p, 6, none⟩) PG.out (.slice o3 kl.length k3))
              have QX := hide ((heap_setCell_other wb ⟨p, 6, none⟩ q (.slice o3 kl.length k3) QP.out).trans QW.out)
              refine wpAnyH_ready (rs := [14]) (by kernel_rfl) (by simp) ?_
              refine AllReadyH.cons rfl (fun K hK => ?_) AllReadyH.nil
              go_simp
              refine hK.out _ _ trivial (fun hHeld => ?_)
              clear hK K
              try simp only [Act.put, List.getElem_toArray, List.getElem_cons_zero, List.getElem_cons_succ, List.setIfInBounds_toArray, List.set_cons_zero, List.set_cons_succ]
              clear c0 c1 c2 c3 c4 c5 c6 fr
              generalize wb.setCell ⟨p, 6, none⟩ (.slice o3 kl.length k3) = wc at *
              clear NW OW BW QW
              have NW := NX
              have OW := OX
              have BW := BXX
              have QW := QX
              clear NX OX BXX QX
              refine wpAnyH_done (by kernel_rfl) ?_ _
              obtain ⟨c0, c1, c2, c3, c4, c5, c6⟩ := seven_cells NW.out
              obtain ⟨z0, z1, z2, z3, z4, z5, z6⟩ := seven_cells QW.out
              have f0 := frozenG QW.out 0
              have f1 := frozenG QW.out 1
              have f2 := frozenG QW.out 2
              have f3 := frozenG QW.out 3
              have f4 := frozenG QW.out 4
              have f5 := frozenG QW.out 5
              have f6 := frozenG QW.out 6
              have NE := hide (put7_same QW.out (.int .i64 x0) (.int .i64 x1) (.int .i64 x2) (.slice o1 pa.length k1) (.slice o2 cm.length k2) (.int .i64 x5) (.slice o3 kl.length k3))
              have BE := hide (put7_below BW.out QG.out (.int .i64 x0) (.int .i64 x1) (.int .i64 x2) (.slice o1 pa.length k1) (.slice o2 cm.length k2) (.int .i64 x5) (.slice o3 kl.length k3))
              have OE : Hid (∀ b, W0.heap.size ≤ b → (put7 wc q (.int .i64 x0) (.int .i64 x1) (.int .i64 x2) (.slice o1 pa.length k1) (.slice o2 cm.length k2) (.int .i64 x5) (.slice o3 kl.length k3)).heap[b]? = w3.heap[b]?) := fun b hb => (put7_other _ _ _ _ _ _ _ _ _ b (Nat.ne_of_gt (Nat.lt_of_lt_of_le QL.out hb))).trans (OW.out b hb)
              have FIN := hide (copy_fin (a := ⟨x0, x1, x2, pa, cm, x5, kl⟩) BP.out B0.out D1.out D2.out D3.out S1.out R1.out S2.out R2.out S3.out R3.out OE.out)
              clear OE OW BW QL PL B0 B1 B2 B3 D1 D2 D3 S1 S2 S3 R1 R2 R3 N1 N2 N3
              go_wp2_with fail
              change bodyPost _ _ _ _ _ (put7 wc q (.int .i64 x0) (.int .i64 x1) (.int .i64 x2) (.slice o1 pa.length k1) (.slice o2 cm.length k2) (.int .i64 x5) (.slice o3 kl.length k3))
              generalize put7 wc q (.int .i64 x0) (.int .i64 x1) (.int .i64 x2) (.slice o1 pa.length k1) (.slice o2 cm.length k2) (.int .i64 x5) (.slice o3 kl.length k3) = w9 at *
              obtain ⟨y0, y1, y2, y3, y4, y5, y6⟩ := seven_cells NE.out
              refine bodyPost_ret (v := .agg #[.int .i64 x0, .int .i64 x1, .int .i64 x2, .slice o1 pa.length k1, .slice o2 cm.length k2, .int .i64 x5, .slice o3 kl.length k3]) ?_ rfl ⟨o1, o2, o3, k1, k2, k3, rfl, FIN.out, ⟨M1.out.1, M2.out, M3.out.1, M3.out.2⟩, BE.out⟩
              simp [results, Tryz.results38, go_sem, y0, y1, y2, y3, y4, y5, y6]
            exact AllReadyH.nil
          exact AllReadyH.nil
        exact AllReadyH.nil
      refine AllReadyH.cons rfl (fun K hK => ?_) ?_
      · go_simp
        refine hK.out _ _ trivial (fun hHeld => ?_)
        clear hK K
        try simp only [Act.put, List.getElem_toArray, List.getElem_cons_zero, List.getElem_cons_succ, List.setIfInBounds_toArray, List.set_cons_zero, List.set_cons_succ]
        refine wpAnyH_ready (rs := [2]) (by kernel_rfl) (by simp) ?_
        refine AllReadyH.cons rfl (fun K hK => ?_) ?_
        · go_simp
          go_wp2_with (refine (C1.out _ B0.out).mono ?_; rintro e w1 ⟨o1, k1, rfl, s1, r1, m1, hb⟩; have S1 := hide s1; have R1 := hide r1; have M1 := hide m1; have D1 := hide hb; have B1 := hide (bthen B0.out hb); have N1 := hide ((hb.block p (heap_lt N0.out)).trans N0.out); clear s1 r1 m1 hb)
          refine hK.out _ _ trivial (fun hHeld => ?_)
          clear hK K
          try simp only [Act.put, List.getElem_toArray, List.getElem_cons_zero, List.getElem_cons_succ, List.setIfInBounds_toArray, List.set_cons_zero, List.set_cons_succ]
          clear c0 c1 c2 c3 c4 c5 c6
          obtain ⟨c0, c1, c2, c3, c4, c5, c6⟩ := seven_cells N1.out
          refine wpAnyH_take (i := 9) (v := .pointer (some ⟨p, 3, none⟩)) rfl (by kernel_rfl) (by kernel_rfl) (by kernel_rfl) (fun _ _ _ h => h) (Or.inl ⟨by rfl, fun w hSw => by dsimp only at hSw; go_simp⟩) hHeld ?_
          simp only [Act.put, List.getElem_toArray, List.getElem_cons_zero, List.getElem_cons_succ, List.setIfInBounds_toArray, List.set_cons_zero, List.set_cons_succ]
          refine wpAnyH_ready (rs := [5]) (by kernel_rfl) (by simp) ?_
          refine AllReadyH.cons rfl (fun K hK => ?_) ?_
          · go_simp
            go_wp2_with (refine (C2.out _ B1.out).mono ?_; rintro e w2 ⟨o2, k2, rfl, s2, r2, m2, hb⟩; have S2 := hide s2; have R2 := hide r2; have M2 := hide m2; have D2 := hide hb; have B2 := hide (bthen B1.out hb); have N2 := hide ((hb.block p (heap_lt N1.out)).trans N1.out); clear s2 r2 m2 hb)
            refine hK.out _ _ trivial (fun hHeld => ?_)
            clear hK K
            try simp only [Act.put, List.getElem_toArray, List.getElem_cons_zero, List.getElem_cons_succ, List.setIfInBounds_toArray, List.set_cons_zero, List.set_cons_succ]
            clear c0 c1 c2 c3 c4 c5 c6
            obtain ⟨c0, c1, c2, c3, c4, c5, c6⟩ := seven_cells N2.out
            refine wpAnyH_ready (rs := [8]) (by kernel_rfl) (by simp) ?_
            refine AllReadyH.cons rfl (fun K hK => ?_) ?_
            · go_simp
              go_wp2_with (refine (C3.out _ B2.out).mono ?_; rintro e w3 ⟨o3, k3, rfl, s3, r3, m3, hb⟩; have S3 := hide s3; have R3 := hide r3; have M3 := hide m3; have D3 := hide hb; have B3 := hide (bthen B2.out hb); have N3 := hide ((hb.block p (heap_lt N2.out)).trans N2.out); clear s3 r3 m3 hb)
              refine hK.out _ _ trivial (fun hHeld => ?_)
              clear hK K
              try simp only [Act.put, List.getElem_toArray, List.getElem_cons_zero, List.getElem_cons_succ, List.setIfInBounds_toArray, List.set_cons_zero, List.set_cons_succ]
              clear c0 c1 c2 c3 c4 c5 c6
              obtain ⟨c0, c1, c2, c3, c4, c5, c6⟩ := seven_cells N3.out
              have NW := N3
              clear c0 c1 c2 c3 c4 c5 c6
              have OW : Hid (∀ b, W0.heap.size ≤ b → w3.heap[b]? = w3.heap[b]?) := fun _ _ => rfl
              have BW := hide (bthen BB.out B3.out)
              obtain ⟨c0, c1, c2, c3, c4, c5, c6⟩ := seven_cells NW.out
              have fr := frozenG NW.out 3
              have NX := hide (put_at3 NW.out (.slice o1 pa.length k1))
              have OX : Hid (∀ b, W0.heap.size ≤ b → (w3.setCell ⟨p, 3, none⟩ (.slice o1 pa.length k1)).heap[b]? = w3.heap[b]?) := fun b hb => (heap_setCell_other _ ⟨p, 3, none⟩ b _ (Nat.ne_of_gt (Nat.lt_of_lt_of_le PL.out hb))).trans (OW.out b hb)
              have BXX := hide (bset BW.out (p := ⟨p, 3, none⟩) PG.out (.slice o1 pa.length k1))
              have QX := hide ((heap_setCell_other w3 ⟨p, 3, none⟩ q (.slice o1 pa.length k1) QP.out).trans (((B3.out.block q QL.out).trans NQ.out)))
              refine wpAnyH_ready (rs := [10]) (by kernel_rfl) (by simp) ?_
              refine AllReadyH.cons rfl (fun K hK => ?_) AllReadyH.nil
              go_simp
              refine hK.out _ _ trivial (fun hHeld => ?_)
              clear hK K
              try simp only [Act.put, List.getElem_toArray, List.getElem_cons_zero, List.getElem_cons_succ, List.setIfInBounds_toArray, List.set_cons_zero, List.set_cons_succ]
              clear c0 c1 c2 c3 c4 c5 c6 fr
              generalize w3.setCell ⟨p, 3, none⟩ (.slice o1 pa.length k1) = wa at *
              clear NW OW BW
              have NW := NX
              have OW := OX
              have BW := BXX
              have QW := QX
              clear NX OX BXX QX
              refine wpAnyH_take (i := 11) (v := .pointer (some ⟨p, 4, none⟩)) rfl (by kernel_rfl) (by kernel_rfl) (by kernel_rfl) (fun _ _ _ h => h) (Or.inl ⟨by rfl, fun w hSw => by dsimp only at hSw; go_simp⟩) hHeld ?_
              simp only [Act.put, List.getElem_toArray, List.getElem_cons_zero, List.getElem_cons_succ, List.setIfInBounds_toArray, List.set_cons_zero, List.set_cons_succ]
              obtain ⟨c0, c1, c2, c3, c4, c5, c6⟩ := seven_cells NW.out
              have fr := frozenG NW.out 4
              have NX := hide (put_at4 NW.out (.slice o2 cm.length k2))
              have OX : Hid (∀ b, W0.heap.size ≤ b → (wa.setCell ⟨p, 4, none⟩ (.slice o2 cm.length k2)).heap[b]? = w3.heap[b]?) := fun b hb => (heap_setCell_other _ ⟨p, 4, none⟩ b _ (Nat.ne_of_gt (Nat.lt_of_lt_of_le PL.out hb))).trans (OW.out b hb)
              have BXX := hide (bset BW.out (p := ⟨p, 4, none⟩) PG.out (.slice o2 cm.length k2))
              have QX := hide ((heap_setCell_other wa ⟨p, 4, none⟩ q (.slice o2 cm.length k2) QP.out).trans QW.out)
              refine wpAnyH_ready (rs := [12]) (by kernel_rfl) (by simp) ?_
              refine AllReadyH.cons rfl (fun K hK => ?_) AllReadyH.nil
              go_simp
              refine hK.out _ _ trivial (fun hHeld => ?_)
              clear hK K
              try simp only [Act.put, List.getElem_toArray, List.getElem_cons_zero, List.getElem_cons_succ, List.setIfInBounds_toArray, List.set_cons_zero, List.set_cons_succ]
              clear c0 c1 c2 c3 c4 c5 c6 fr
              generalize wa.setCell ⟨p, 4, none⟩ (.slice o2 cm.length k2) = wb at *
              clear NW OW BW QW
              have NW := NX
              have OW := OX
              have BW := BXX
              have QW := QX
              clear NX OX BXX QX
              refine wpAnyH_take (i := 13) (v := .pointer (some ⟨p, 6, none⟩)) rfl (by kernel_rfl) (by kernel_rfl) (by kernel_rfl) (fun _ _ _ h => h) (Or.inl ⟨by rfl, fun w hSw => by dsimp only at hSw; go_simp⟩) hHeld ?_
              simp only [Act.put, List.getElem_toArray, List.getElem_cons_zero, List.getElem_cons_succ, List.setIfInBounds_toArray, List.set_cons_zero, List.set_cons_succ]
              obtain ⟨c0, c1, c2, c3, c4, c5, c6⟩ := seven_cells NW.out
              have fr := frozenG NW.out 6
              have NX := hide (put_at6 NW.out (.slice o3 kl.length k3))
              have OX : Hid (∀ b, W0.heap.size ≤ b → (wb.setCell ⟨p, 6, none⟩ (.slice o3 kl.length k3)).heap[b]? = w3.heap[b]?) := fun b hb => (heap_setCell_other _ ⟨p, 6, none⟩ b _ (Nat.ne_of_gt (Nat.lt_of_lt_of_le PL.out hb))).trans (OW.out b hb)
              have BXX := hide (bset BW.out (p := ⟨p, 6, none⟩) PG.out (.slice o3 kl.length k3))
              have QX := hide ((heap_setCell_other wb ⟨p, 6, none⟩ q (.slice o3 kl.length k3) QP.out).trans QW.out)
              refine wpAnyH_ready (rs := [14]) (by kernel_rfl) (by simp) ?_
              refine AllReadyH.cons rfl (fun K hK => ?_) AllReadyH.nil
              go_simp
              refine hK.out _ _ trivial (fun hHeld => ?_)
              clear hK K
              try simp only [Act.put, List.getElem_toArray, List.getElem_cons_zero, List.getElem_cons_succ, List.setIfInBounds_toArray, List.set_cons_zero, List.set_cons_succ]
              clear c0 c1 c2 c3 c4 c5 c6 fr
              generalize wb.setCell ⟨p, 6, none⟩ (.slice o3 kl.length k3) = wc at *
              clear NW OW BW QW
              have NW := NX
              have OW := OX
              have BW := BXX
              have QW := QX
              clear NX OX BXX QX
              refine wpAnyH_done (by kernel_rfl) ?_ _
              obtain ⟨c0, c1, c2, c3, c4, c5, c6⟩ := seven_cells NW.out
              obtain ⟨z0, z1, z2, z3, z4, z5, z6⟩ := seven_cells QW.out
              have f0 := frozenG QW.out 0
              have f1 := frozenG QW.out 1
              have f2 := frozenG QW.out 2
              have f3 := frozenG QW.out 3
              have f4 := frozenG QW.out 4
              have f5 := frozenG QW.out 5
              have f6 := frozenG QW.out 6
              have NE := hide (put7_same QW.out (.int .i64 x0) (.int .i64 x1) (.int .i64 x2) (.slice o1 pa.length k1) (.slice o2 cm.length k2) (.int .i64 x5) (.slice o3 kl.length k3))
              have BE := hide (put7_below BW.out QG.out (.int .i64 x0) (.int .i64 x1) (.int .i64 x2) (.slice o1 pa.length k1) (.slice o2 cm.length k2) (.int .i64 x5) (.slice o3 kl.length k3))
              have OE : Hid (∀ b, W0.heap.size ≤ b → (put7 wc q (.int .i64 x0) (.int .i64 x1) (.int .i64 x2) (.slice o1 pa.length k1) (.slice o2 cm.length k2) (.int .i64 x5) (.slice o3 kl.length k3)).heap[b]? = w3.heap[b]?) := fun b hb => (put7_other _ _ _ _ _ _ _ _ _ b (Nat.ne_of_gt (Nat.lt_of_lt_of_le QL.out hb))).trans (OW.out b hb)
              have FIN := hide (copy_fin (a := ⟨x0, x1, x2, pa, cm, x5, kl⟩) BP.out B0.out D1.out D2.out D3.out S1.out R1.out S2.out R2.out S3.out R3.out OE.out)
              clear OE OW BW QL PL B0 B1 B2 B3 D1 D2 D3 S1 S2 S3 R1 R2 R3 N1 N2 N3
              go_wp2_with fail
              change bodyPost _ _ _ _ _ (put7 wc q (.int .i64 x0) (.int .i64 x1) (.int .i64 x2) (.slice o1 pa.length k1) (.slice o2 cm.length k2) (.int .i64 x5) (.slice o3 kl.length k3))
              generalize put7 wc q (.int .i64 x0) (.int .i64 x1) (.int .i64 x2) (.slice o1 pa.length k1) (.slice o2 cm.length k2) (.int .i64 x5) (.slice o3 kl.length k3) = w9 at *
              obtain ⟨y0, y1, y2, y3, y4, y5, y6⟩ := seven_cells NE.out
              refine bodyPost_ret (v := .agg #[.int .i64 x0, .int .i64 x1, .int .i64 x2, .slice o1 pa.length k1, .slice o2 cm.length k2, .int .i64 x5, .slice o3 kl.length k3]) ?_ rfl ⟨o1, o2, o3, k1, k2, k3, rfl, FIN.out, ⟨M1.out.1, M2.out, M3.out.1, M3.out.2⟩, BE.out⟩
              simp [results, Tryz.results38, go_sem, y0, y1, y2, y3, y4, y5, y6]
            exact AllReadyH.nil
          exact AllReadyH.nil
        exact AllReadyH.nil
      exact AllReadyH.nil
    exact AllReadyH.nil
  refine AllReadyH.cons rfl (fun K hK => ?_) ?_
  · go_simp
    refine hK.out _ _ trivial (fun hHeld => ?_)
    clear hK K
    try simp only [Act.put, List.getElem_toArray, List.getElem_cons_zero, List.getElem_cons_succ, List.setIfInBounds_toArray, List.set_cons_zero, List.set_cons_succ]
    refine wpAnyH_ready (rs := [1, 7]) (by kernel_rfl) (by simp) ?_
    refine AllReadyH.cons rfl (fun K hK => ?_) ?_
    · go_simp
      refine hK.out _ _ trivial (fun hHeld => ?_)
      clear hK K
      try simp only [Act.put, List.getElem_toArray, List.getElem_cons_zero, List.getElem_cons_succ, List.setIfInBounds_toArray, List.set_cons_zero, List.set_cons_succ]
      refine wpAnyH_ready (rs := [2, 7]) (by kernel_rfl) (by simp) ?_
      refine AllReadyH.cons rfl (fun K hK => ?_) ?_
      · go_simp
        go_wp2_with (refine (C1.out _ B0.out).mono ?_; rintro e w1 ⟨o1, k1, rfl, s1, r1, m1, hb⟩; have S1 := hide s1; have R1 := hide r1; have M1 := hide m1; have D1 := hide hb; have B1 := hide (bthen B0.out hb); have N1 := hide ((hb.block p (heap_lt N0.out)).trans N0.out); clear s1 r1 m1 hb)
        refine hK.out _ _ trivial (fun hHeld => ?_)
        clear hK K
        try simp only [Act.put, List.getElem_toArray, List.getElem_cons_zero, List.getElem_cons_succ, List.setIfInBounds_toArray, List.set_cons_zero, List.set_cons_succ]
        clear c0 c1 c2 c3 c4 c5 c6
        obtain ⟨c0, c1, c2, c3, c4, c5, c6⟩ := seven_cells N1.out
        refine wpAnyH_ready (rs := [5, 7]) (by kernel_rfl) (by simp) ?_
        refine AllReadyH.cons rfl (fun K hK => ?_) ?_
        · go_simp
          go_wp2_with (refine (C2.out _ B1.out).mono ?_; rintro e w2 ⟨o2, k2, rfl, s2, r2, m2, hb⟩; have S2 := hide s2; have R2 := hide r2; have M2 := hide m2; have D2 := hide hb; have B2 := hide (bthen B1.out hb); have N2 := hide ((hb.block p (heap_lt N1.out)).trans N1.out); clear s2 r2 m2 hb)
          refine hK.out _ _ trivial (fun hHeld => ?_)
          clear hK K
          try simp only [Act.put, List.getElem_toArray, List.getElem_cons_zero, List.getElem_cons_succ, List.setIfInBounds_toArray, List.set_cons_zero, List.set_cons_succ]
          clear c0 c1 c2 c3 c4 c5 c6
          obtain ⟨c0, c1, c2, c3, c4, c5, c6⟩ := seven_cells N2.out
          refine wpAnyH_ready (rs := [7]) (by kernel_rfl) (by simp) ?_
          refine AllReadyH.cons rfl (fun K hK => ?_) ?_
          · go_simp
            refine hK.out _ _ trivial (fun hHeld => ?_)
            clear hK K
            try simp only [Act.put, List.getElem_toArray, List.getElem_cons_zero, List.getElem_cons_succ, List.setIfInBounds_toArray, List.set_cons_zero, List.set_cons_succ]
            refine wpAnyH_take (i := 9) (v := .pointer (some ⟨p, 3, none⟩)) rfl (by kernel_rfl) (by kernel_rfl) (by kernel_rfl) (fun _ _ _ h => h) (Or.inl ⟨by rfl, fun w hSw => by dsimp only at hSw; go_simp⟩) hHeld ?_
            simp only [Act.put, List.getElem_toArray, List.getElem_cons_zero, List.getElem_cons_succ, List.setIfInBounds_toArray, List.set_cons_zero, List.set_cons_succ]
            refine wpAnyH_ready (rs := [8]) (by kernel_rfl) (by simp) ?_
            refine AllReadyH.cons rfl (fun K hK => ?_) ?_
            · go_simp
              go_wp2_with (refine (C3.out _ B2.out).mono ?_; rintro e w3 ⟨o3, k3, rfl, s3, r3, m3, hb⟩; have S3 := hide s3; have R3 := hide r3; have M3 := hide m3; have D3 := hide hb; have B3 := hide (bthen B2.out hb); have N3 := hide ((hb.block p (heap_lt N2.out)).trans N2.out); clear s3 r3 m3 hb)
              refine hK.out _ _ trivial (fun hHeld => ?_)
              clear hK K
              try simp only [Act.put, List.getElem_toArray, List.getElem_cons_zero, List.getElem_cons_succ, List.setIfInBounds_toArray, List.set_cons_zero, List.set_cons_succ]
              clear c0 c1 c2 c3 c4 c5 c6
              obtain ⟨c0, c1, c2, c3, c4, c5, c6⟩ := seven_cells N3.out
              have NW := N3
              clear c0 c1 c2 c3 c4 c5 c6
              have OW : Hid (∀ b, W0.heap.size ≤ b → w3.heap[b]? = w3.heap[b]?) := fun _ _ => rfl
              have BW := hide (bthen BB.out B3.out)
              obtain ⟨c0, c1, c2, c3, c4, c5, c6⟩ := seven_cells NW.out
              have fr := frozenG NW.out 3
              have NX := hide (put_at3 NW.out (.slice o1 pa.length k1))
              have OX : Hid (∀ b, W0.heap.size ≤ b → (w3.setCell ⟨p, 3, none⟩ (.slice o1 pa.length k1)).heap[b]? = w3.heap[b]?) := fun b hb => (heap_setCell_other _ ⟨p, 3, none⟩ b _ (Nat.ne_of_gt (Nat.lt_of_lt_of_le PL.out hb))).trans (OW.out b hb)
              have BXX := hide (bset BW.out (p := ⟨p, 3, none⟩) PG.out (.slice o1 pa.length k1))
              have QX := hide ((heap_setCell_other w3 ⟨p, 3, none⟩ q (.slice o1 pa.length k1) QP.out).trans (((B3.out.block q QL.out).trans NQ.out)))
              refine wpAnyH_ready (rs := [10]) (by kernel_rfl) (by simp) ?_
              refine AllReadyH.cons rfl (fun K hK => ?_) AllReadyH.nil
              go_simp
              refine hK.out _ _ trivial (fun hHeld => ?_)
              clear hK K
              try simp only [Act.put, List.getElem_toArray, List.getElem_cons_zero, List.getElem_cons_succ, List.setIfInBounds_toArray, List.set_cons_zero, List.set_cons_succ]
              clear c0 c1 c2 c3 c4 c5 c6 fr
              generalize w3.setCell ⟨p, 3, none⟩ (.slice o1 pa.length k1) = wa at *
              clear NW OW BW
              have NW := NX
              have OW := OX
              have BW := BXX
              have QW := QX
              clear NX OX BXX QX
              refine wpAnyH_take (i := 11) (v := .pointer (some ⟨p, 4, none⟩)) rfl (by kernel_rfl) (by kernel_rfl) (by kernel_rfl) (fun _ _ _ h => h) (Or.inl ⟨by rfl, fun w hSw => by dsimp only at hSw; go_simp⟩) hHeld ?_
              simp only [Act.put, List.getElem_toArray, List.getElem_cons_zero, List.getElem_cons_succ, List.setIfInBounds_toArray, List.set_cons_zero, List.set_cons_succ]
              obtain ⟨c0, c1, c2, c3, c4, c5, c6⟩ := seven_cells NW.out
              have fr := frozenG NW.out 4
              have NX := hide (put_at4 NW.out (.slice o2 cm.length k2))
              have OX : Hid (∀ b, W0.heap.size ≤ b → (wa.setCell ⟨p, 4, none⟩ (.slice o2 cm.length k2)).heap[b]? = w3.heap[b]?) := fun b hb => (heap_setCell_other _ ⟨p, 4, none⟩ b _ (Nat.ne_of_gt (Nat.lt_of_lt_of_le PL.out hb))).trans (OW.out b hb)
              have BXX := hide (bset BW.out (p := ⟨p, 4, none⟩) PG.out (.slice o2 cm.length k2))
              have QX := hide ((heap_setCell_other wa ⟨p, 4, none⟩ q (.slice o2 cm.length k2) QP.out).trans QW.out)
              refine wpAnyH_ready (rs := [12]) (by kernel_rfl) (by simp) ?_
              refine AllReadyH.cons rfl (fun K hK => ?_) AllReadyH.nil
              go_simp
              refine hK.out _ _ trivial (fun hHeld => ?_)
              clear hK K
              try simp only [Act.put, List.getElem_toArray, List.getElem_cons_zero, List.getElem_cons_succ, List.setIfInBounds_toArray, List.set_cons_zero, List.set_cons_succ]
              clear c0 c1 c2 c3 c4 c5 c6 fr
              generalize wa.setCell ⟨p, 4, none⟩ (.slice o2 cm.length k2) = wb at *
              clear NW OW BW QW
              have NW := NX
              have OW := OX
              have BW := BXX
              have QW := QX
              clear NX OX BXX QX
              refine wpAnyH_take (i := 13) (v := .pointer (some ⟨p, 6, none⟩)) rfl (by kernel_rfl) (by kernel_rfl) (by kernel_rfl) (fun _ _ _ h => h) (Or.inl ⟨by rfl, fun w hSw => by dsimp only at hSw; go_simp⟩) hHeld ?_
              simp only [Act.put, List.getElem_toArray, List.getElem_cons_zero, List.getElem_cons_succ, List.setIfInBounds_toArray, List.set_cons_zero, List.set_cons_succ]
              obtain ⟨c0, c1, c2, c3, c4, c5, c6⟩ := seven_cells NW.out
              have fr := frozenG NW.out 6
              have NX := hide (put_at6 NW.out (.slice o3 kl.length k3))
              have OX : Hid (∀ b, W0.heap.size ≤ b → (wb.setCell ⟨p, 6, none⟩ (.slice o3 kl.length k3)).heap[b]? = w3.heap[b]?) := fun b hb => (heap_setCell_other _ ⟨p, 6, none⟩ b _ (Nat.ne_of_gt (Nat.lt_of_lt_of_le PL.out hb))).trans (OW.out b hb)
              have BXX := hide (bset BW.out (p := ⟨p, 6, none⟩) PG.out (.slice o3 kl.length k3))
              have QX := hide ((heap_setCell_other wb ⟨p, 6, none⟩ q (.slice o3 kl.length k3) QP.out).trans QW.out)
              refine wpAnyH_ready (rs := [14]) (by kernel_rfl) (by simp) ?_
              refine AllReadyH.cons rfl (fun K hK => ?_) AllReadyH.nil
              go_simp
              refine hK.out _ _ trivial (fun hHeld => ?_)
              clear hK K
              try simp only [Act.put, List.getElem_toArray, List.getElem_cons_zero, List.getElem_cons_succ, List.setIfInBounds_toArray, List.set_cons_zero, List.set_cons_succ]
              clear c0 c1 c2 c3 c4 c5 c6 fr
              generalize wb.setCell ⟨p, 6, none⟩ (.slice o3 kl.length k3) = wc at *
              clear NW OW BW QW
              have NW := NX
              have OW := OX
              have BW := BXX
              have QW := QX
              clear NX OX BXX QX
              refine wpAnyH_done (by kernel_rfl) ?_ _
              obtain ⟨c0, c1, c2, c3, c4, c5, c6⟩ := seven_cells NW.out
              obtain ⟨z0, z1, z2, z3, z4, z5, z6⟩ := seven_cells QW.out
              have f0 := frozenG QW.out 0
              have f1 := frozenG QW.out 1
              have f2 := frozenG QW.out 2
              have f3 := frozenG QW.out 3
              have f4 := frozenG QW.out 4
              have f5 := frozenG QW.out 5
              have f6 := frozenG QW.out 6
              have NE := hide (put7_same QW.out (.int .i64 x0) (.int .i64 x1) (.int .i64 x2) (.slice o1 pa.length k1) (.slice o2 cm.length k2) (.int .i64 x5) (.slice o3 kl.length k3))
              have BE := hide (put7_below BW.out QG.out (.int .i64 x0) (.int .i64 x1) (.int .i64 x2) (.slice o1 pa.length k1) (.slice o2 cm.length k2) (.int .i64 x5) (.slice o3 kl.length k3))
              have OE : Hid (∀ b, W0.heap.size ≤ b → (put7 wc q (.int .i64 x0) (.int .i64 x1) (.int .i64 x2) (.slice o1 pa.length k1) (.slice o2 cm.length k2) (.int .i64 x5) (.slice o3 kl.length k3)).heap[b]? = w3.heap[b]?) := fun b hb => (put7_other _ _ _ _ _ _ _ _ _ b (Nat.ne_of_gt (Nat.lt_of_lt_of_le QL.out hb))).trans (OW.out b hb)
              have FIN := hide (copy_fin (a := ⟨x0, x1, x2, pa, cm, x5, kl⟩) BP.out B0.out D1.out D2.out D3.out S1.out R1.out S2.out R2.out S3.out R3.out OE.out)
              clear OE OW BW QL PL B0 B1 B2 B3 D1 D2 D3 S1 S2 S3 R1 R2 R3 N1 N2 N3
              go_wp2_with fail
              change bodyPost _ _ _ _ _ (put7 wc q (.int .i64 x0) (.int .i64 x1) (.int .i64 x2) (.slice o1 pa.length k1) (.slice o2 cm.length k2) (.int .i64 x5) (.slice o3 kl.length k3))
              generalize put7 wc q (.int .i64 x0) (.int .i64 x1) (.int .i64 x2) (.slice o1 pa.length k1) (.slice o2 cm.length k2) (.int .i64 x5) (.slice o3 kl.length k3) = w9 at *
              obtain ⟨y0, y1, y2, y3, y4, y5, y6⟩ := seven_cells NE.out
              refine bodyPost_ret (v := .agg #[.int .i64 x0, .int .i64 x1, .int .i64 x2, .slice o1 pa.length k1, .slice o2 cm.length k2, .int .i64 x5, .slice o3 kl.length k3]) ?_ rfl ⟨o1, o2, o3, k1, k2, k3, rfl, FIN.out, ⟨M1.out.1, M2.out, M3.out.1, M3.out.2⟩, BE.out⟩
              simp [results, Tryz.results38, go_sem, y0, y1, y2, y3, y4, y5, y6]
            exact AllReadyH.nil
          exact AllReadyH.nil
        refine AllReadyH.cons rfl (fun K hK => ?_) ?_
        · go_simp
          refine hK.out _ _ trivial (fun hHeld => ?_)
          clear hK K
          try simp only [Act.put, List.getElem_toArray, List.getElem_cons_zero, List.getElem_cons_succ, List.setIfInBounds_toArray, List.set_cons_zero, List.set_cons_succ]
          refine wpAnyH_take (i := 9) (v := .pointer (some ⟨p, 3, none⟩)) rfl (by kernel_rfl) (by kernel_rfl) (by kernel_rfl) (fun _ _ _ h => h) (Or.inl ⟨by rfl, fun w hSw => by dsimp only at hSw; go_simp⟩) hHeld ?_
          simp only [Act.put, List.getElem_toArray, List.getElem_cons_zero, List.getElem_cons_succ, List.setIfInBounds_toArray, List.set_cons_zero, List.set_cons_succ]
          refine wpAnyH_ready (rs := [5]) (by kernel_rfl) (by simp) ?_
          refine AllReadyH.cons rfl (fun K hK => ?_) ?_
          · go_simp
            go_wp2_with (refine (C2.out _ B1.out).mono ?_; rintro e w2 ⟨o2, k2, rfl, s2, r2, m2, hb⟩; have S2 := hide s2; have R2 := hide r2; have M2 := hide m2; have D2 := hide hb; have B2 := hide (bthen B1.out hb); have N2 := hide ((hb.block p (heap_lt N1.out)).trans N1.out); clear s2 r2 m2 hb)
            refine hK.out _ _ trivial (fun hHeld => ?_)
            clear hK K
            try simp only [Act.put, List.getElem_toArray, List.getElem_cons_zero, List.getElem_cons_succ, List.setIfInBounds_toArray, List.set_cons_zero, List.set_cons_succ]
            clear c0 c1 c2 c3 c4 c5 c6
            obtain ⟨c0, c1, c2, c3, c4, c5, c6⟩ := seven_cells N2.out
            refine wpAnyH_ready (rs := [8]) (by kernel_rfl) (by simp) ?_
            refine AllReadyH.cons rfl (fun K hK => ?_) ?_
            · go_simp
              go_wp2_with (refine (C3.out _ B2.out).mono ?_; rintro e w3 ⟨o3, k3, rfl, s3, r3, m3, hb⟩; have S3 := hide s3; have R3 := hide r3; have M3 := hide m3; have D3 := hide hb; have B3 := hide (bthen B2.out hb); have N3 := hide ((hb.block p (heap_lt N2.out)).trans N2.out); clear s3 r3 m3 hb)
              refine hK.out _ _ trivial (fun hHeld => ?_)
              clear hK K
              try simp only [Act.put, List.getElem_toArray, List.getElem_cons_zero, List.getElem_cons_succ, List.setIfInBounds_toArray, List.set_cons_zero, List.set_cons_succ]
              clear c0 c1 c2 c3 c4 c5 c6
              obtain ⟨c0, c1, c2, c3, c4, c5, c6⟩ := seven_cells N3.out
              have NW := N3
              clear c0 c1 c2 c3 c4 c5 c6
              have OW : Hid (∀ b, W0.heap.size ≤ b → w3.heap[b]? = w3.heap[b]?) := fun _ _ => rfl
              have BW := hide (bthen BB.out B3.out)
              obtain ⟨c0, c1, c2, c3, c4, c5, c6⟩ := seven_cells NW.out
              have fr := frozenG NW.out 3
              have NX := hide (put_at3 NW.out (.slice o1 pa.length k1))
              have OX : Hid (∀ b, W0.heap.size ≤ b → (w3.setCell ⟨p, 3, none⟩ (.slice o1 pa.length k1)).heap[b]? = w3.heap[b]?) := fun b hb => (heap_setCell_other _ ⟨p, 3, none⟩ b _ (Nat.ne_of_gt (Nat.lt_of_lt_of_le PL.out hb))).trans (OW.out b hb)
              have BXX := hide (bset BW.out (p := ⟨p, 3, none⟩) PG.out (.slice o1 pa.length k1))
              have QX := hide ((heap_setCell_other w3 ⟨p, 3, none⟩ q (.slice o1 pa.length k1) QP.out).trans (((B3.out.block q QL.out).trans NQ.out)))
              refine wpAnyH_ready (rs := [10]) (by kernel_rfl) (by simp) ?_
              refine AllReadyH.cons rfl (fun K hK => ?_) AllReadyH.nil
              go_simp
              refine hK.out _ _ trivial (fun hHeld => ?_)
              clear hK K
              try simp only [Act.put, List.getElem_toArray, List.getElem_cons_zero, List.getElem_cons_succ, List.setIfInBounds_toArray, List.set_cons_zero, List.set_cons_succ]
              clear c0 c1 c2 c3 c4 c5 c6 fr
              generalize w3.setCell ⟨p, 3, none⟩ (.slice o1 pa.length k1) = wa at *
              clear NW OW BW
              have NW := NX
              have OW := OX
              have BW := BXX
              have QW := QX
              clear NX OX BXX QX
              refine wpAnyH_take (i := 11) (v := .pointer (some ⟨p, 4, none⟩)) rfl (by kernel_rfl) (by kernel_rfl) (by kernel_rfl) (fun _ _ _ h => h) (Or.inl ⟨by rfl, fun w hSw => by dsimp only at hSw; go_simp⟩) hHeld ?_
              simp only [Act.put, List.getElem_toArray, List.getElem_cons_zero, List.getElem_cons_succ, List.setIfInBounds_toArray, List.set_cons_zero, List.set_cons_succ]
              obtain ⟨c0, c1, c2, c3, c4, c5, c6⟩ := seven_cells NW.out
              have fr := frozenG NW.out 4
              have NX := hide (put_at4 NW.out (.slice o2 cm.length k2))
              have OX : Hid (∀ b, W0.heap.size ≤ b → (wa.setCell ⟨p, 4, none⟩ (.slice o2 cm.length k2)).heap[b]? = w3.heap[b]?) := fun b hb => (heap_setCell_other _ ⟨p, 4, none⟩ b _ (Nat.ne_of_gt (Nat.lt_of_lt_of_le PL.out hb))).trans (OW.out b hb)
              have BXX := hide (bset BW.out (p := ⟨p, 4, none⟩) PG.out (.slice o2 cm.length k2))
              have QX := hide ((heap_setCell_other wa ⟨p, 4, none⟩ q (.slice o2 cm.length k2) QP.out).trans QW.out)
              refine wpAnyH_ready (rs := [12]) (by kernel_rfl) (by simp) ?_
              refine AllReadyH.cons rfl (fun K hK => ?_) AllReadyH.nil
              go_simp
              refine hK.out _ _ trivial (fun hHeld => ?_)
              clear hK K
              try simp only [Act.put, List.getElem_toArray, List.getElem_cons_zero, List.getElem_cons_succ, List.setIfInBounds_toArray, List.set_cons_zero, List.set_cons_succ]
              clear c0 c1 c2 c3 c4 c5 c6 fr
              generalize wa.setCell ⟨p, 4, none⟩ (.slice o2 cm.length k2) = wb at *
              clear NW OW BW QW
              have NW := NX
              have OW := OX
              have BW := BXX
              have QW := QX
              clear NX OX BXX QX
              refine wpAnyH_take (i := 13) (v := .pointer (some ⟨p, 6, none⟩)) rfl (by kernel_rfl) (by kernel_rfl) (by kernel_rfl) (fun _ _ _ h => h) (Or.inl ⟨by rfl, fun w hSw => by dsimp only at hSw; go_simp⟩) hHeld ?_
              simp only [Act.put, List.getElem_toArray, List.getElem_cons_zero, List.getElem_cons_succ, List.setIfInBounds_toArray, List.set_cons_zero, List.set_cons_succ]
              obtain ⟨c0, c1, c2, c3, c4, c5, c6⟩ := seven_cells NW.out
              have fr := frozenG NW.out 6
              have NX := hide (put_at6 NW.out (.slice o3 kl.length k3))
              have OX : Hid (∀ b, W0.heap.size ≤ b → (wb.setCell ⟨p, 6, none⟩ (.slice o3 kl.length k3)).heap[b]? = w3.heap[b]?) := fun b hb => (heap_setCell_other _ ⟨p, 6, none⟩ b _ (Nat.ne_of_gt (Nat.lt_of_lt_of_le PL.out hb))).trans (OW.out b hb)
              have BXX := hide (bset BW.out (p := ⟨p, 6, none⟩) PG.out (.slice o3 kl.length k3))
              have QX := hide ((heap_setCell_other wb ⟨p, 6, none⟩ q (.slice o3 kl.length k3) QP.out).trans QW.out)
              refine wpAnyH_ready (rs := [14]) (by kernel_rfl) (by simp) ?_
              refine AllReadyH.cons rfl (fun K hK => ?_) AllReadyH.nil
              go_simp
              refine hK.out _ _ trivial (fun hHeld => ?_)
              clear hK K
              try simp only [Act.put, List.getElem_toArray, List.getElem_cons_zero, List.getElem_cons_succ, List.setIfInBounds_toArray, List.set_cons_zero, List.set_cons_succ]
              clear c0 c1 c2 c3 c4 c5 c6 fr
              generalize wb.setCell ⟨p, 6, none⟩ (.slice o3 kl.length k3) = wc at *
              clear NW OW BW QW
              have NW := NX
              have OW := OX
              have BW := BXX
              have QW := QX
              clear NX OX BXX QX
              refine wpAnyH_done (by kernel_rfl) ?_ _
              obtain ⟨c0, c1, c2, c3, c4, c5, c6⟩ := seven_cells NW.out
              obtain ⟨z0, z1, z2, z3, z4, z5, z6⟩ := seven_cells QW.out
              have f0 := frozenG QW.out 0
              have f1 := frozenG QW.out 1
              have f2 := frozenG QW.out 2
              have f3 := frozenG QW.out 3
              have f4 := frozenG QW.out 4
              have f5 := frozenG QW.out 5
              have f6 := frozenG QW.out 6
              have NE := hide (put7_same QW.out (.int .i64 x0) (.int .i64 x1) (.int .i64 x2) (.slice o1 pa.length k1) (.slice o2 cm.length k2) (.int .i64 x5) (.slice o3 kl.length k3))
              have BE := hide (put7_below BW.out QG.out (.int .i64 x0) (.int .i64 x1) (.int .i64 x2) (.slice o1 pa.length k1) (.slice o2 cm.length k2) (.int .i64 x5) (.slice o3 kl.length k3))
              have OE : Hid (∀ b, W0.heap.size ≤ b → (put7 wc q (.int .i64 x0) (.int .i64 x1) (.int .i64 x2) (.slice o1 pa.length k1) (.slice o2 cm.length k2) (.int .i64 x5) (.slice o3 kl.length k3)).heap[b]? = w3.heap[b]?) := fun b hb => (put7_other _ _ _ _ _ _ _ _ _ b (Nat.ne_of_gt (Nat.lt_of_lt_of_le QL.out hb))).trans (OW.out b hb)
              have FIN := hide (copy_fin (a := ⟨x0, x1, x2, pa, cm, x5, kl⟩) BP.out B0.out D1.out D2.out D3.out S1.out R1.out S2.out R2.out S3.out R3.out OE.out)
              clear OE OW BW QL PL B0 B1 B2 B3 D1 D2 D3 S1 S2 S3 R1 R2 R3 N1 N2 N3
              go_wp2_with fail
              change bodyPost _ _ _ _ _ (put7 wc q (.int .i64 x0) (.int .i64 x1) (.int .i64 x2) (.slice o1 pa.length k1) (.slice o2 cm.length k2) (.int .i64 x5) (.slice o3 kl.length k3))
              generalize put7 wc q (.int .i64 x0) (.int .i64 x1) (.int .i64 x2) (.slice o1 pa.length k1) (.slice o2 cm.length k2) (.int .i64 x5) (.slice o3 kl.length k3) = w9 at *
              obtain ⟨y0, y1, y2, y3, y4, y5, y6⟩ := seven_cells NE.out
              refine bodyPost_ret (v := .agg #[.int .i64 x0, .int .i64 x1, .int .i64 x2, .slice o1 pa.length k1, .slice o2 cm.length k2, .int .i64 x5, .slice o3 kl.length k3]) ?_ rfl ⟨o1, o2, o3, k1, k2, k3, rfl, FIN.out, ⟨M1.out.1, M2.out, M3.out.1, M3.out.2⟩, BE.out⟩
              simp [results, Tryz.results38, go_sem, y0, y1, y2, y3, y4, y5, y6]
            exact AllReadyH.nil
          exact AllReadyH.nil
        exact AllReadyH.nil
      refine AllReadyH.cons rfl (fun K hK => ?_) ?_
      · go_simp
        refine hK.out _ _ trivial (fun hHeld => ?_)
        clear hK K
        try simp only [Act.put, List.getElem_toArray, List.getElem_cons_zero, List.getElem_cons_succ, List.setIfInBounds_toArray, List.set_cons_zero, List.set_cons_succ]
        refine wpAnyH_ready (rs := [2]) (by kernel_rfl) (by simp) ?_
        refine AllReadyH.cons rfl (fun K hK => ?_) ?_
        · go_simp
          go_wp2_with (refine (C1.out _ B0.out).mono ?_; rintro e w1 ⟨o1, k1, rfl, s1, r1, m1, hb⟩; have S1 := hide s1; have R1 := hide r1; have M1 := hide m1; have D1 := hide hb; have B1 := hide (bthen B0.out hb); have N1 := hide ((hb.block p (heap_lt N0.out)).trans N0.out); clear s1 r1 m1 hb)
          refine hK.out _ _ trivial (fun hHeld => ?_)
          clear hK K
          try simp only [Act.put, List.getElem_toArray, List.getElem_cons_zero, List.getElem_cons_succ, List.setIfInBounds_toArray, List.set_cons_zero, List.set_cons_succ]
          clear c0 c1 c2 c3 c4 c5 c6
          obtain ⟨c0, c1, c2, c3, c4, c5, c6⟩ := seven_cells N1.out
          refine wpAnyH_take (i := 9) (v := .pointer (some ⟨p, 3, none⟩)) rfl (by kernel_rfl) (by kernel_rfl) (by kernel_rfl) (fun _ _ _ h => h) (Or.inl ⟨by rfl, fun w hSw => by dsimp only at hSw; go_simp⟩) hHeld ?_
          simp only [Act.put, List.getElem_toArray, List.getElem_cons_zero, List.getElem_cons_succ, List.setIfInBounds_toArray, List.set_cons_zero, List.set_cons_succ]
          refine wpAnyH_ready (rs := [5]) (by kernel_rfl) (by simp) ?_
          refine AllReadyH.cons rfl (fun K hK => ?_) ?_
          · go_simp
            go_wp2_with (refine (C2.out _ B1.out).mono ?_; rintro e w2 ⟨o2, k2, rfl, s2, r2, m2, hb⟩; have S2 := hide s2; have R2 := hide r2; have M2 := hide m2; have D2 := hide hb; have B2 := hide (bthen B1.out hb); have N2 := hide ((hb.block p (heap_lt N1.out)).trans N1.out); clear s2 r2 m2 hb)
            refine hK.out _ _ trivial (fun hHeld => ?_)
            clear hK K
            try simp only [Act.put, List.getElem_toArray, List.getElem_cons_zero, List.getElem_cons_succ, List.setIfInBounds_toArray, List.set_cons_zero, List.set_cons_succ]
            clear c0 c1 c2 c3 c4 c5 c6
            obtain ⟨c0, c1, c2, c3, c4, c5, c6⟩ := seven_cells N2.out
            refine wpAnyH_ready (rs := [8]) (by kernel_rfl) (by simp) ?_
            refine AllReadyH.cons rfl (fun K hK => ?_) ?_
            · go_simp
              go_wp2_with (refine (C3.out _ B2.out).mono ?_; rintro e w3 ⟨o3, k3, rfl, s3, r3, m3, hb⟩; have S3 := hide s3; have R3 := hide r3; have M3 := hide m3; have D3 := hide hb; have B3 := hide (bthen B2.out hb); have N3 := hide ((hb.block p (heap_lt N2.out)).trans N2.out); clear s3 r3 m3 hb)
              refine hK.out _ _ trivial (fun hHeld => ?_)
              clear hK K
              try simp only [Act.put, List.getElem_toArray, List.getElem_cons_zero, List.getElem_cons_succ, List.setIfInBounds_toArray, List.set_cons_zero, List.set_cons_succ]
              clear c0 c1 c2 c3 c4 c5 c6
              obtain ⟨c0, c1, c2, c3, c4, c5, c6⟩ := seven_cells N3.out
              have NW := N3
              clear c0 c1 c2 c3 c4 c5 c6
              have OW : Hid (∀ b, W0.heap.size ≤ b → w3.heap[b]? = w3.heap[b]?) := fun _ _ => rfl
              have BW := hide (bthen BB.out B3.out)
              obtain ⟨c0, c1, c2, c3, c4, c5, c6⟩ := seven_cells NW.out
              have fr := frozenG NW.out 3
              have NX := hide (put_at3 NW.out (.slice o1 pa.length k1))
              have OX : Hid (∀ b, W0.heap.size ≤ b → (w3.setCell ⟨p, 3, none⟩ (.slice o1 pa.length k1)).heap[b]? = w3.heap[b]?) := fun b hb => (heap_setCell_other _ ⟨p, 3, none⟩ b _ (Nat.ne_of_gt (Nat.lt_of_lt_of_le PL.out hb))).trans (OW.out b hb)
              have BXX := hide (bset BW.out (p := ⟨p, 3, none⟩) PG.out (.slice o1 pa.length k1))
              have QX := hide ((heap_setCell_other w3 ⟨p, 3, none⟩ q (.slice o1 pa.length k1) QP.out).trans (((B3.out.block q QL.out).trans NQ.out)))
              refine wpAnyH_ready (rs := [10]) (by kernel_rfl) (by simp) ?_
              refine AllReadyH.cons rfl (fun K hK => ?_) AllReadyH.nil
              go_simp
              refine hK.out _ _ trivial (fun hHeld => ?_)
              clear hK K
              try simp only [Act.put, List.getElem_toArray, List.getElem_cons_zero, List.getElem_cons_succ, List.setIfInBounds_toArray, List.set_cons_zero, List.set_cons_succ]
              clear c0 c1 c2 c3 c4 c5 c6 fr
              generalize w3.setCell ⟨p, 3, none⟩ (.slice o1 pa.length k1) = wa at *
              clear NW OW BW
              have NW := NX
              have OW := OX
              have BW := BXX
              have QW := QX
              clear NX OX BXX QX
              refine wpAnyH_take (i := 11) (v := .pointer (some ⟨p, 4, none⟩)) rfl (by kernel_rfl) (by kernel_rfl) (by kernel_rfl) (fun _ _ _ h => h) (Or.inl ⟨by rfl, fun w hSw => by dsimp only at hSw; go_simp⟩) hHeld ?_
              simp only [Act.put, List.getElem_toArray, List.getElem_cons_zero, List.getElem_cons_succ, List.setIfInBounds_toArray, List.set_cons_zero, List.set_cons_succ]
              obtain ⟨c0, c1, c2, c3, c4, c5, c6⟩ := seven_cells NW.out
              have fr := frozenG NW.out 4
              have NX := hide (put_at4 NW.out (.slice o2 cm.length k2))
              have OX : Hid (∀ b, W0.heap.size ≤ b → (wa.setCell ⟨p, 4, none⟩ (.slice o2 cm.length k2)).heap[b]? = w3.heap[b]?) := fun b hb => (heap_setCell_other _ ⟨p, 4, none⟩ b _ (Nat.ne_of_gt (Nat.lt_of_lt_of_le PL.out hb))).trans (OW.out b hb)
              have BXX := hide (bset BW.out (p := ⟨p, 4, none⟩) PG.out (.slice o2 cm.length k2))
              have QX := hide ((heap_setCell_other wa ⟨p, 4, none⟩ q (.slice o2 cm.length k2) QP.out).trans QW.out)
              refine wpAnyH_ready (rs := [12]) (by kernel_rfl) (by simp) ?_
              refine AllReadyH.cons rfl (fun K hK => ?_) AllReadyH.nil
              go_simp
              refine hK.out _ _ trivial (fun hHeld => ?_)
              clear hK K
              try simp only [Act.put, List.getElem_toArray, List.getElem_cons_zero, List.getElem_cons_succ, List.setIfInBounds_toArray, List.set_cons_zero, List.set_cons_succ]
              clear c0 c1 c2 c3 c4 c5 c6 fr
              generalize wa.setCell ⟨p, 4, none⟩ (.slice o2 cm.length k2) = wb at *
              clear NW OW BW QW
              have NW := NX
              have OW := OX
              have BW := BXX
              have QW := QX
              clear NX OX BXX QX
              refine wpAnyH_take (i := 13) (v := .pointer (some ⟨p, 6, none⟩)) rfl (by kernel_rfl) (by kernel_rfl) (by kernel_rfl) (fun _ _ _ h => h) (Or.inl ⟨by rfl, fun w hSw => by dsimp only at hSw; go_simp⟩) hHeld ?_
              simp only [Act.put, List.getElem_toArray, List.getElem_cons_zero, List.getElem_cons_succ, List.setIfInBounds_toArray, List.set_cons_zero, List.set_cons_succ]
              obtain ⟨c0, c1, c2, c3, c4, c5, c6⟩ := seven_cells NW.out
              have fr := frozenG NW.out 6
              have NX := hide (put_at6 NW.out (.slice o3 kl.length k3))
              have OX : Hid (∀ b, W0.heap.size ≤ b → (wb.setCell ⟨p, 6, none⟩ (.slice o3 kl.length k3)).heap[b]? = w3.heap[b]?) := fun b hb => (heap_setCell_other _ ⟨p, 6, none⟩ b _ (Nat.ne_of_gt (Nat.lt_of_lt_of_le PL.out hb))).trans (OW.out b hb)
              have BXX := hide (bset BW.out (p := ⟨p, 6, none⟩) PG.out (.slice o3 kl.length k3))
              have QX := hide ((heap_setCell_other wb ⟨p, 6, none⟩ q (.slice o3 kl.length k3) QP.out).trans QW.out)
              refine wpAnyH_ready (rs := [14]) (by kernel_rfl) (by simp) ?_
              refine AllReadyH.cons rfl (fun K hK => ?_) AllReadyH.nil
              go_simp
              refine hK.out _ _ trivial (fun hHeld => ?_)
              clear hK K
              try simp only [Act.put, List.getElem_toArray, List.getElem_cons_zero, List.getElem_cons_succ, List.setIfInBounds_toArray, List.set_cons_zero, List.set_cons_succ]
              clear c0 c1 c2 c3 c4 c5 c6 fr
              generalize wb.setCell ⟨p, 6, none⟩ (.slice o3 kl.length k3) = wc at *
              clear NW OW BW QW
              have NW := NX
              have OW := OX
              have BW := BXX
              have QW := QX
              clear NX OX BXX QX
              refine wpAnyH_done (by kernel_rfl) ?_ _
              obtain ⟨c0, c1, c2, c3, c4, c5, c6⟩ := seven_cells NW.out
              obtain ⟨z0, z1, z2, z3, z4, z5, z6⟩ := seven_cells QW.out
              have f0 := frozenG QW.out 0
              have f1 := frozenG QW.out 1
              have f2 := frozenG QW.out 2
              have f3 := frozenG QW.out 3
              have f4 := frozenG QW.out 4
              have f5 := frozenG QW.out 5
              have f6 := frozenG QW.out 6
              have NE := hide (put7_same QW.out (.int .i64 x0) (.int .i64 x1) (.int .i64 x2) (.slice o1 pa.length k1) (.slice o2 cm.length k2) (.int .i64 x5) (.slice o3 kl.length k3))
              have BE := hide (put7_below BW.out QG.out (.int .i64 x0) (.int .i64 x1) (.int .i64 x2) (.slice o1 pa.length k1) (.slice o2 cm.length k2) (.int .i64 x5) (.slice o3 kl.length k3))
              have OE : Hid (∀ b, W0.heap.size ≤ b → (put7 wc q (.int .i64 x0) (.int .i64 x1) (.int .i64 x2) (.slice o1 pa.length k1) (.slice o2 cm.length k2) (.int .i64 x5) (.slice o3 kl.length k3)).heap[b]? = w3.heap[b]?) := fun b hb => (put7_other _ _ _ _ _ _ _ _ _ b (Nat.ne_of_gt (Nat.lt_of_lt_of_le QL.out hb))).trans (OW.out b hb)
              have FIN := hide (copy_fin (a := ⟨x0, x1, x2, pa, cm, x5, kl⟩) BP.out B0.out D1.out D2.out D3.out S1.out R1.out S2.out R2.out S3.out R3.out OE.out)
              clear OE OW BW QL PL B0 B1 B2 B3 D1 D2 D3 S1 S2 S3 R1 R2 R3 N1 N2 N3
              go_wp2_with fail
              change bodyPost _ _ _ _ _ (put7 wc q (.int .i64 x0) (.int .i64 x1) (.int .i64 x2) (.slice o1 pa.length k1) (.slice o2 cm.length k2) (.int .i64 x5) (.slice o3 kl.length k3))
              generalize put7 wc q (.int .i64 x0) (.int .i64 x1) (.int .i64 x2) (.slice o1 pa.length k1) (.slice o2 cm.length k2) (.int .i64 x5) (.slice o3 kl.length k3) = w9 at *
              obtain ⟨y0, y1, y2, y3, y4, y5, y6⟩ := seven_cells NE.out
              refine bodyPost_ret (v := .agg #[.int .i64 x0, .int .i64 x1, .int .i64 x2, .slice o1 pa.length k1, .slice o2 cm.length k2, .int .i64 x5, .slice o3 kl.length k3]) ?_ rfl ⟨o1, o2, o3, k1, k2, k3, rfl, FIN.out, ⟨M1.out.1, M2.out, M3.out.1, M3.out.2⟩, BE.out⟩
              simp [results, Tryz.results38, go_sem, y0, y1, y2, y3, y4, y5, y6]
            exact AllReadyH.nil
          exact AllReadyH.nil
        exact AllReadyH.nil
      exact AllReadyH.nil
    refine AllReadyH.cons rfl (fun K hK => ?_) ?_
    · go_simp
      refine hK.out _ _ trivial (fun hHeld => ?_)
      clear hK K
      try simp only [Act.put, List.getElem_toArray, List.getElem_cons_zero, List.getElem_cons_succ, List.setIfInBounds_toArray, List.set_cons_zero, List.set_cons_succ]
      refine wpAnyH_ready (rs := [1]) (by kernel_rfl) (by simp) ?_
      refine AllReadyH.cons rfl (fun K hK => ?_) ?_
      · go_simp
        refine hK.out _ _ trivial (fun hHeld => ?_)
        clear hK K
        try simp only [Act.put, List.getElem_toArray, List.getElem_cons_zero, List.getElem_cons_succ, List.setIfInBounds_toArray, List.set_cons_zero, List.set_cons_succ]
        refine wpAnyH_ready (rs := [2]) (by kernel_rfl) (by simp) ?_
        refine AllReadyH.cons rfl (fun K hK => ?_) ?_
        · go_simp
          go_wp2_with (refine (C1.out _ B0.out).mono ?_; rintro e w1 ⟨o1, k1, rfl, s1, r1, m1, hb⟩; have S1 := hide s1; have R1 := hide r1; have M1 := hide m1; have D1 := hide hb; have B1 := hide (bthen B0.out hb); have N1 := hide ((hb.block p (heap_lt N0.out)).trans N0.out); clear s1 r1 m1 hb)
          refine hK.out _ _ trivial (fun hHeld => ?_)
          clear hK K
          try simp only [Act.put, List.getElem_toArray, List.getElem_cons_zero, List.getElem_cons_succ, List.setIfInBounds_toArray, List.set_cons_zero, List.set_cons_succ]
          clear c0 c1 c2 c3 c4 c5 c6
          obtain ⟨c0, c1, c2, c3, c4, c5, c6⟩ := seven_cells N1.out
          refine wpAnyH_take (i := 9) (v := .pointer (some ⟨p, 3, none⟩)) rfl (by kernel_rfl) (by kernel_rfl) (by kernel_rfl) (fun _ _ _ h => h) (Or.inl ⟨by rfl, fun w hSw => by dsimp only at hSw; go_simp⟩) hHeld ?_
          simp only [Act.put, List.getElem_toArray, List.getElem_cons_zero, List.getElem_cons_succ, List.setIfInBounds_toArray, List.set_cons_zero, List.set_cons_succ]
          refine wpAnyH_ready (rs := [5]) (by kernel_rfl) (by simp) ?_
          refine AllReadyH.cons rfl (fun K hK => ?_) ?_
          · go_simp
            go_wp2_with (refine (C2.out _ B1.out).mono ?_; rintro e w2 ⟨o2, k2, rfl, s2, r2, m2, hb⟩; have S2 := hide s2; have R2 := hide r2; have M2 := hide m2; have D2 := hide hb; have B2 := hide (bthen B1.out hb); have N2 := hide ((hb.block p (heap_lt N1.out)).trans N1.out); clear s2 r2 m2 hb)
            refine hK.out _ _ trivial (fun hHeld => ?_)
            clear hK K
            try simp only [Act.put, List.getElem_toArray, List.getElem_cons_zero, List.getElem_cons_succ, List.setIfInBounds_toArray, List.set_cons_zero, List.set_cons_succ]
            clear c0 c1 c2 c3 c4 c5 c6
            obtain ⟨c0, c1, c2, c3, c4, c5, c6⟩ := seven_cells N2.out
            refine wpAnyH_ready (rs := [8]) (by kernel_rfl) (by simp) ?_
            refine AllReadyH.cons rfl (fun K hK => ?_) ?_
            · go_simp
              go_wp2_with (refine (C3.out _ B2.out).mono ?_; rintro e w3 ⟨o3, k3, rfl, s3, r3, m3, hb⟩; have S3 := hide s3; have R3 := hide r3; have M3 := hide m3; have D3 := hide hb; have B3 := hide (bthen B2.out hb); have N3 := hide ((hb.block p (heap_lt N2.out)).trans N2.out); clear s3 r3 m3 hb)
              refine hK.out _ _ trivial (fun hHeld => ?_)
              clear hK K
              try simp only [Act.put, List.getElem_toArray, List.getElem_cons_zero, List.getElem_cons_succ, List.setIfInBounds_toArray, List.set_cons_zero, List.set_cons_succ]
              clear c0 c1 c2 c3 c4 c5 c6
              obtain ⟨c0, c1, c2, c3, c4, c5, c6⟩ := seven_cells N3.out
              have NW := N3
              clear c0 c1 c2 c3 c4 c5 c6
              have OW : Hid (∀ b, W0.heap.size ≤ b → w3.heap[b]? = w3.heap[b]?) := fun _ _ => rfl
              have BW := hide (bthen BB.out B3.out)
              obtain ⟨c0, c1, c2, c3, c4, c5, c6⟩ := seven_cells NW.out
              have fr := frozenG NW.out 3
              have NX := hide (put_at3 NW.out (.slice o1 pa.length k1))
              have OX : Hid (∀ b, W0.heap.size ≤ b → (w3.setCell ⟨p, 3, none⟩ (.slice o1 pa.length k1)).heap[b]? = w3.heap[b]?) := fun b hb => (heap_setCell_other _ ⟨p, 3, none⟩ b _ (Nat.ne_of_gt (Nat.lt_of_lt_of_le PL.out hb))).trans (OW.out b hb)
              have BXX := hide (bset BW.out (p := ⟨p, 3, none⟩) PG.out (.slice o1 pa.length k1))
              have QX := hide ((heap_setCell_other w3 ⟨p, 3, none⟩ q (.slice o1 pa.length k1) QP.out).trans (((B3.out.block q QL.out).trans NQ.out)))
              refine wpAnyH_ready (rs := [10]) (by kernel_rfl) (by simp) ?_
              refine AllReadyH.cons rfl (fun K hK => ?_) AllReadyH.nil
              go_simp
              refine hK.out _ _ trivial (fun hHeld => ?_)
              clear hK K
              try simp only [Act.put, List.getElem_toArray, List.getElem_cons_zero, List.getElem_cons_succ, List.setIfInBounds_toArray, List.set_cons_zero, List.set_cons_succ]
              clear c0 c1 c2 c3 c4 c5 c6 fr
              generalize w3.setCell ⟨p, 3, none⟩ (.slice o1 pa.length k1) = wa at *
              clear NW OW BW
              have NW := NX
              have OW := OX
              have BW := BXX
              have QW := QX
              clear NX OX BXX QX
              refine wpAnyH_take (i := 11) (v := .pointer (some ⟨p, 4, none⟩)) rfl (by kernel_rfl) (by kernel_rfl) (by kernel_rfl) (fun _ _ _ h => h) (Or.inl ⟨by rfl, fun w hSw => by dsimp only at hSw; go_simp⟩) hHeld ?_
              simp only [Act.put, List.getElem_toArray, List.getElem_cons_zero, List.getElem_cons_succ, List.setIfInBounds_toArray, List.set_cons_zero, List.set_cons_succ]
              obtain ⟨c0, c1, c2, c3, c4, c5, c6⟩ := seven_cells NW.out
              have fr := frozenG NW.out 4
              have NX := hide (put_at4 NW.out (.slice o2 cm.length k2))
              have OX : Hid (∀ b, W0.heap.size ≤ b → (wa.setCell ⟨p, 4, none⟩ (.slice o2 cm.length k2)).heap[b]? = w3.heap[b]?) := fun b hb => (heap_setCell_other _ ⟨p, 4, none⟩ b _ (Nat.ne_of_gt (Nat.lt_of_lt_of_le PL.out hb))).trans (OW.out b hb)
              have BXX := hide (bset BW.out (p := ⟨p, 4, none⟩) PG.out (.slice o2 cm.length k2))
              have QX := hide ((heap_setCell_other wa ⟨p, 4, none⟩ q (.slice o2 cm.length k2) QP.out).trans QW.out)
              refine wpAnyH_ready (rs := [12]) (by kernel_rfl) (by simp) ?_
              refine AllReadyH.cons rfl (fun K hK => ?_) AllReadyH.nil
              go_simp
              refine hK.out _ _ trivial (fun hHeld => ?_)
              clear hK K
              try simp only [Act.put, List.getElem_toArray, List.getElem_cons_zero, List.getElem_cons_succ, List.setIfInBounds_toArray, List.set_cons_zero, List.set_cons_succ]
              clear c0 c1 c2 c3 c4 c5 c6 fr
              generalize wa.setCell ⟨p, 4, none⟩ (.slice o2 cm.length k2) = wb at *
              clear NW OW BW QW
              have NW := NX
              have OW := OX
              have BW := BXX
              have QW := QX
              clear NX OX BXX QX
              refine wpAnyH_take (i := 13) (v := .pointer (some ⟨p, 6, none⟩)) rfl (by kernel_rfl) (by kernel_rfl) (by kernel_rfl) (fun _ _ _ h => h) (Or.inl ⟨by rfl, fun w hSw => by dsimp only at hSw; go_simp⟩) hHeld ?_
              simp only [Act.put, List.getElem_toArray, List.getElem_cons_zero, List.getElem_cons_succ, List.setIfInBounds_toArray, List.set_cons_zero, List.set_cons_succ]
              obtain ⟨c0, c1, c2, c3, c4, c5, c6⟩ := seven_cells NW.out
              have fr := frozenG NW.out 6
              have NX := hide (put_at6 NW.out (.slice o3 kl.length k3))
              have OX : Hid (∀ b, W0.heap.size ≤ b → (wb.setCell ⟨p, 6, none⟩ (.slice o3 kl.length k3)).heap[b]? = w3.heap[b]?) := fun b hb => (heap_setCell_other _ ⟨p, 6, none⟩ b _ (Nat.ne_of_gt (Nat.lt_of_lt_of_le PL.out hb))).trans (OW.out b hb)
              have BXX := hide (bset BW.out (p := ⟨p, 6, none⟩) PG.out (.slice o3 kl.length k3))
              have QX := hide ((heap_setCell_other wb ⟨p, 6, none⟩ q (.slice o3 kl.length k3) QP.out).trans QW.out)
              refine wpAnyH_ready (rs := [14]) (by kernel_rfl) (by simp) ?_
              refine AllReadyH.cons rfl (fun K hK => ?_) AllReadyH.nil
              go_simp
              refine hK.out _ _ trivial (fun hHeld => ?_)
              clear hK K
              try simp only [Act.put, List.getElem_toArray, List.getElem_cons_zero, List.getElem_cons_succ, List.setIfInBounds_toArray, List.set_cons_zero, List.set_cons_succ]
              clear c0 c1 c2 c3 c4 c5 c6 fr
              generalize wb.setCell ⟨p, 6, none⟩ (.slice o3 kl.length k3) = wc at *
              clear NW OW BW QW
              have NW := NX
              have OW := OX
              have BW := BXX
              have QW := QX
              clear NX OX BXX QX
              refine wpAnyH_done (by kernel_rfl) ?_ _
              obtain ⟨c0, c1, c2, c3, c4, c5, c6⟩ := seven_cells NW.out
              obtain ⟨z0, z1, z2, z3, z4, z5, z6⟩ := seven_cells QW.out
              have f0 := frozenG QW.out 0
              have f1 := frozenG QW.out 1
              have f2 := frozenG QW.out 2
              have f3 := frozenG QW.out 3
              have f4 := frozenG QW.out 4
              have f5 := frozenG QW.out 5
              have f6 := frozenG QW.out 6
              have NE := hide (put7_same QW.out (.int .i64 x0) (.int .i64 x1) (.int .i64 x2) (.slice o1 pa.length k1) (.slice o2 cm.length k2) (.int .i64 x5) (.slice o3 kl.length k3))
              have BE := hide (put7_below BW.out QG.out (.int .i64 x0) (.int .i64 x1) (.int .i64 x2) (.slice o1 pa.length k1) (.slice o2 cm.length k2) (.int .i64 x5) (.slice o3 kl.length k3))
              have OE : Hid (∀ b, W0.heap.size ≤ b → (put7 wc q (.int .i64 x0) (.int .i64 x1) (.int .i64 x2) (.slice o1 pa.length k1) (.slice o2 cm.length k2) (.int .i64 x5) (.slice o3 kl.length k3)).heap[b]? = w3.heap[b]?) := fun b hb => (put7_other _ _ _ _ _ _ _ _ _ b (Nat.ne_of_gt (Nat.lt_of_lt_of_le QL.out hb))).trans (OW.out b hb)
              have FIN := hide (copy_fin (a := ⟨x0, x1, x2, pa, cm, x5, kl⟩) BP.out B0.out D1.out D2.out D3.out S1.out R1.out S2.out R2.out S3.out R3.out OE.out)
              clear OE OW BW QL PL B0 B1 B2 B3 D1 D2 D3 S1 S2 S3 R1 R2 R3 N1 N2 N3
              go_wp2_with fail
              change bodyPost _ _ _ _ _ (put7 wc q (.int .i64 x0) (.int .i64 x1) (.int .i64 x2) (.slice o1 pa.length k1) (.slice o2 cm.length k2) (.int .i64 x5) (.slice o3 kl.length k3))
              generalize put7 wc q (.int .i64 x0) (.int .i64 x1) (.int .i64 x2) (.slice o1 pa.length k1) (.slice o2 cm.length k2) (.int .i64 x5) (.slice o3 kl.length k3) = w9 at *
              obtain ⟨y0, y1, y2, y3, y4, y5, y6⟩ := seven_cells NE.out
              refine bodyPost_ret (v := .agg #[.int .i64 x0, .int .i64 x1, .int .i64 x2, .slice o1 pa.length k1, .slice o2 cm.length k2, .int .i64 x5, .slice o3 kl.length k3]) ?_ rfl ⟨o1, o2, o3, k1, k2, k3, rfl, FIN.out, ⟨M1.out.1, M2.out, M3.out.1, M3.out.2⟩, BE.out⟩
              simp [results, Tryz.results38, go_sem, y0, y1, y2, y3, y4, y5, y6]
            exact AllReadyH.nil
          exact AllReadyH.nil
        exact AllReadyH.nil
      exact AllReadyH.nil
    exact AllReadyH.nil
  refine AllReadyH.cons rfl (fun K hK => ?_) ?_
  · go_simp
    refine hK.out _ _ trivial (fun hHeld => ?_)
    clear hK K
    try simp only [Act.put, List.getElem_toArray, List.getElem_cons_zero, List.getElem_cons_succ, List.setIfInBounds_toArray, List.set_cons_zero, List.set_cons_succ]
    refine wpAnyH_ready (rs := [1, 4]) (by kernel_rfl) (by simp) ?_
    refine AllReadyH.cons rfl (fun K hK => ?_) ?_
    · go_simp
      refine hK.out _ _ trivial (fun hHeld => ?_)
      clear hK K
      try simp only [Act.put, List.getElem_toArray, List.getElem_cons_zero, List.getElem_cons_succ, List.setIfInBounds_toArray, List.set_cons_zero, List.set_cons_succ]
      refine wpAnyH_ready (rs := [2, 4]) (by kernel_rfl) (by simp) ?_
      refine AllReadyH.cons rfl (fun K hK => ?_) ?_
      · go_simp
        go_wp2_with (refine (C1.out _ B0.out).mono ?_; rintro e w1 ⟨o1, k1, rfl, s1, r1, m1, hb⟩; have S1 := hide s1; have R1 := hide r1; have M1 := hide m1; have D1 := hide hb; have B1 := hide (bthen B0.out hb); have N1 := hide ((hb.block p (heap_lt N0.out)).trans N0.out); clear s1 r1 m1 hb)
        refine hK.out _ _ trivial (fun hHeld => ?_)
        clear hK K
        try simp only [Act.put, List.getElem_toArray, List.getElem_cons_zero, List.getElem_cons_succ, List.setIfInBounds_toArray, List.set_cons_zero, List.set_cons_succ]
        clear c0 c1 c2 c3 c4 c5 c6
        obtain ⟨c0, c1, c2, c3, c4, c5, c6⟩ := seven_cells N1.out
        refine wpAnyH_ready (rs := [4]) (by kernel_rfl) (by simp) ?_
        refine AllReadyH.cons rfl (fun K hK => ?_) ?_
        · go_simp
          refine hK.out _ _ trivial (fun hHeld => ?_)
          clear hK K
          try simp only [Act.put, List.getElem_toArray, List.getElem_cons_zero, List.getElem_cons_succ, List.setIfInBounds_toArray, List.set_cons_zero, List.set_cons_succ]
          refine wpAnyH_take (i := 9) (v := .pointer (some ⟨p, 3, none⟩)) rfl (by kernel_rfl) (by kernel_rfl) (by kernel_rfl) (fun _ _ _ h => h) (Or.inl ⟨by rfl, fun w hSw => by dsimp only at hSw; go_simp⟩) hHeld ?_
          simp only [Act.put, List.getElem_toArray, List.getElem_cons_zero, List.getElem_cons_succ, List.setIfInBounds_toArray, List.set_cons_zero, List.set_cons_succ]
          refine wpAnyH_ready (rs := [5]) (by kernel_rfl) (by simp) ?_
          refine AllReadyH.cons rfl (fun K hK => ?_) ?_
          · go_simp
            go_wp2_with (refine (C2.out _ B1.out).mono ?_; rintro e w2 ⟨o2, k2, rfl, s2, r2, m2, hb⟩; have S2 := hide s2; have R2 := hide r2; have M2 := hide m2; have D2 := hide hb; have B2 := hide (bthen B1.out hb); have N2 := hide ((hb.block p (heap_lt N1.out)).trans N1.out); clear s2 r2 m2 hb)
            refine hK.out _ _ trivial (fun hHeld => ?_)
            clear hK K
            try simp only [Act.put, List.getElem_toArray, List.getElem_cons_zero, List.getElem_cons_succ, List.setIfInBounds_toArray, List.set_cons_zero, List.set_cons_succ]
            clear c0 c1 c2 c3 c4 c5 c6
            obtain ⟨c0, c1, c2, c3, c4, c5, c6⟩ := seven_cells N2.out
            refine wpAnyH_ready (rs := [8]) (by kernel_rfl) (by simp) ?_
            refine AllReadyH.cons rfl (fun K hK => ?_) ?_
            · go_simp
              go_wp2_with (refine (C3.out _ B2.out).mono ?_; rintro e w3 ⟨o3, k3, rfl, s3, r3, m3, hb⟩; have S3 := hide s3; have R3 := hide r3; have M3 := hide m3; have D3 := hide hb; have B3 := hide (bthen B2.out hb); have N3 := hide ((hb.block p (heap_lt N2.out)).trans N2.out); clear s3 r3 m3 hb)
              refine hK.out _ _ trivial (fun hHeld => ?_)
              clear hK K
              try simp only [Act.put, List.getElem_toArray, List.getElem_cons_zero, List.getElem_cons_succ, List.setIfInBounds_toArray, List.set_cons_zero, List.set_cons_succ]
              clear c0 c1 c2 c3 c4 c5 c6
              obtain ⟨c0, c1, c2, c3, c4, c5, c6⟩ := seven_cells N3.out
              have NW := N3
              clear c0 c1 c2 c3 c4 c5 c6
              have OW : Hid (∀ b, W0.heap.size ≤ b → w3.heap[b]? = w3.heap[b]?) := fun _ _ => rfl
              have BW := hide (bthen BB.out B3.out)
              obtain ⟨c0, c1, c2, c3, c4, c5, c6⟩ := seven_cells NW.out
              have fr := frozenG NW.out 3
              have NX := hide (put_at3 NW.out (.slice o1 pa.length k1))
              have OX : Hid (∀ b, W0.heap.size ≤ b → (w3.setCell ⟨p, 3, none⟩ (.slice o1 pa.length k1)).heap[b]? = w3.heap[b]?) := fun b hb => (heap_setCell_other _ ⟨p, 3, none⟩ b _ (Nat.ne_of_gt (Nat.lt_of_lt_of_le PL.out hb))).trans (OW.out b hb)
              have BXX := hide (bset BW.out (p := ⟨p, 3, none⟩) PG.out (.slice o1 pa.length k1))
              have QX := hide ((heap_setCell_other w3 ⟨p, 3, none⟩ q (.slice o1 pa.length k1) QP.out).trans (((B3.out.block q QL.out).trans NQ.out)))
              refine wpAnyH_ready (rs := [10]) (by kernel_rfl) (by simp) ?_
              refine AllReadyH.cons rfl (fun K hK => ?_) AllReadyH.nil
              go_simp
              refine hK.out _ _ trivial (fun hHeld => ?_)
              clear hK K
              try simp only [Act.put, List.getElem_toArray, List.getElem_cons_zero, List.getElem_cons_succ, List.setIfInBounds_toArray, List.set_cons_zero, List.set_cons_succ]
              clear c0 c1 c2 c3 c4 c5 c6 fr
              generalize w3.setCell ⟨p, 3, none⟩ (.slice o1 pa.length k1) = wa at *
              clear NW OW BW
              have NW := NX
              have OW := OX
              have BW := BXX
              have QW := QX
              clear NX OX BXX QX
              refine wpAnyH_take (i := 11) (v := .pointer (some ⟨p, 4, none⟩)) rfl (by kernel_rfl) (by kernel_rfl) (by kernel_rfl) (fun _ _ _ h => h) (Or.inl ⟨by rfl, fun w hSw => by dsimp only at hSw; go_simp⟩) hHeld ?_
              simp only [Act.put, List.getElem_toArray, List.getElem_cons_zero, List.getElem_cons_succ, List.setIfInBounds_toArray, List.set_cons_zero, List.set_cons_succ]
              obtain ⟨c0, c1, c2, c3, c4, c5, c6⟩ := seven_cells NW.out
              have fr := frozenG NW.out 4
              have NX := hide (put_at4 NW.out (.slice o2 cm.length k2))
              have OX : Hid (∀ b, W0.heap.size ≤ b → (wa.setCell ⟨p, 4, none⟩ (.slice o2 cm.length k2)).heap[b]? = w3.heap[b]?) := fun b hb => (heap_setCell_other _ ⟨p, 4, none⟩ b _ (Nat.ne_of_gt (Nat.lt_of_lt_of_le PL.out hb))).trans (OW.out b hb)
              have BXX := hide (bset BW.out (p := ⟨p, 4, none⟩) PG.out (.slice o2 cm.length k2))
              have QX := hide ((heap_setCell_other wa ⟨p, 4, none⟩ q (.slice o2 cm.length k2) QP.out).trans QW.out)
              refine wpAnyH_ready (rs := [12]) (by kernel_rfl) (by simp) ?_
              refine AllReadyH.cons rfl (fun K hK => ?_) AllReadyH.nil
              go_simp
              refine hK.out _ _ trivial (fun hHeld => ?_)
              clear hK K
              try simp only [Act.put, List.getElem_toArray, List.getElem_cons_zero, List.getElem_cons_succ, List.setIfInBounds_toArray, List.set_cons_zero, List.set_cons_succ]
              clear c0 c1 c2 c3 c4 c5 c6 fr
              generalize wa.setCell ⟨p, 4, none⟩ (.slice o2 cm.length k2) = wb at *
              clear NW OW BW QW
              have NW := NX
              have OW := OX
              have BW := BXX
              have QW := QX
              clear NX OX BXX QX
              refine wpAnyH_take (i := 13) (v := .pointer (some ⟨p, 6, none⟩)) rfl (by kernel_rfl) (by kernel_rfl) (by kernel_rfl) (fun _ _ _ h => h) (Or.inl ⟨by rfl, fun w hSw => by dsimp only at hSw; go_simp⟩) hHeld ?_
              simp only [Act.put, List.getElem_toArray, List.getElem_cons_zero, List.getElem_cons_succ, List.setIfInBounds_toArray, List.set_cons_zero, List.set_cons_succ]
              obtain ⟨c0, c1, c2, c3, c4, c5, c6⟩ := seven_cells NW.out
              have fr := frozenG NW.out 6
              have NX := hide (put_at6 NW.out (.slice o3 kl.length k3))
              have OX : Hid (∀ b, W0.heap.size ≤ b → (wb.setCell ⟨p, 6, none⟩ (.slice o3 kl.length k3)).heap[b]? = w3.heap[b]?) := fun b hb => (heap_setCell_other _ ⟨p, 6, none⟩ b _ (Nat.ne_of_gt (Nat.lt_of_lt_of_le PL.out hb))).trans (OW.out b hb)
              have BXX := hide (bset BW.out (p := ⟨p, 6, none⟩) PG.out (.slice o3 kl.length k3))
              have QX := hide ((heap_setCell_other wb ⟨p, 6, none⟩ q (.slice o3 kl.length k3) QP.out).trans QW.out)
              refine wpAnyH_ready (rs := [14]) (by kernel_rfl) (by simp) ?_
              refine AllReadyH.cons rfl (fun K hK => ?_) AllReadyH.nil
              go_simp
              refine hK.out _ _ trivial (fun hHeld => ?_)
              clear hK K
              try simp only [Act.put, List.getElem_toArray, List.getElem_cons_zero, List.getElem_cons_succ, List.setIfInBounds_toArray, List.set_cons_zero, List.set_cons_succ]
              clear c0 c1 c2 c3 c4 c5 c6 fr
              generalize wb.setCell ⟨p, 6, none⟩ (.slice o3 kl.length k3) = wc at *
              clear NW OW BW QW
              have NW := NX
              have OW := OX
              have BW := BXX
              have QW := QX
              clear NX OX BXX QX
              refine wpAnyH_done (by kernel_rfl) ?_ _
              obtain ⟨c0, c1, c2, c3, c4, c5, c6⟩ := seven_cells NW.out
              obtain ⟨z0, z1, z2, z3, z4, z5, z6⟩ := seven_cells QW.out
              have f0 := frozenG QW.out 0
              have f1 := frozenG QW.out 1
              have f2 := frozenG QW.out 2
              have f3 := frozenG QW.out 3
              have f4 := frozenG QW.out 4
              have f5 := frozenG QW.out 5
              have f6 := frozenG QW.out 6
              have NE := hide (put7_same QW.out (.int .i64 x0) (.int .i64 x1) (.int .i64 x2) (.slice o1 pa.length k1) (.slice o2 cm.length k2) (.int .i64 x5) (.slice o3 kl.length k3))
              have BE := hide (put7_below BW.out QG.out (.int .i64 x0) (.int .i64 x1) (.int .i64 x2) (.slice o1 pa.length k1) (.slice o2 cm.length k2) (.int .i64 x5) (.slice o3 kl.length k3))
              have OE : Hid (∀ b, W0.heap.size ≤ b → (put7 wc q (.int .i64 x0) (.int .i64 x1) (.int .i64 x2) (.slice o1 pa.length k1) (.slice o2 cm.length k2) (.int .i64 x5) (.slice o3 kl.length k3)).heap[b]? = w3.heap[b]?) := fun b hb => (put7_other _ _ _ _ _ _ _ _ _ b (Nat.ne_of_gt (Nat.lt_of_lt_of_le QL.out hb))).trans (OW.out b hb)
              have FIN := hide (copy_fin (a := ⟨x0, x1, x2, pa, cm, x5, kl⟩) BP.out B0.out D1.out D2.out D3.out S1.out R1.out S2.out R2.out S3.out R3.out OE.out)
              clear OE OW BW QL PL B0 B1 B2 B3 D1 D2 D3 S1 S2 S3 R1 R2 R3 N1 N2 N3
              go_wp2_with fail
              change bodyPost _ _ _ _ _ (put7 wc q (.int .i64 x0) (.int .i64 x1) (.int .i64 x2) (.slice o1 pa.length k1) (.slice o2 cm.length k2) (.int .i64 x5) (.slice o3 kl.length k3))
              generalize put7 wc q (.int .i64 x0) (.int .i64 x1) (.int .i64 x2) (.slice o1 pa.length k1) (.slice o2 cm.length k2) (.int .i64 x5) (.slice o3 kl.length k3) = w9 at *
              obtain ⟨y0, y1, y2, y3, y4, y5, y6⟩ := seven_cells NE.out
              refine bodyPost_ret (v := .agg #[.int .i64 x0, .int .i64 x1, .int .i64 x2, .slice o1 pa.length k1, .slice o2 cm.length k2, .int .i64 x5, .slice o3 kl.length k3]) ?_ rfl ⟨o1, o2, o3, k1, k2, k3, rfl, FIN.out, ⟨M1.out.1, M2.out, M3.out.1, M3.out.2⟩, BE.out⟩
              simp [results, Tryz.results38, go_sem, y0, y1, y2, y3, y4, y5, y6]
            exact AllReadyH.nil
          exact AllReadyH.nil
        exact AllReadyH.nil
      refine AllReadyH.cons rfl (fun K hK => ?_) ?_
      · go_simp
        refine hK.out _ _ trivial (fun hHeld => ?_)
        clear hK K
        try simp only [Act.put, List.getElem_toArray, List.getElem_cons_zero, List.getElem_cons_succ, List.setIfInBounds_toArray, List.set_cons_zero, List.set_cons_succ]
        refine wpAnyH_ready (rs := [2]) (by kernel_rfl) (by simp) ?_
        refine AllReadyH.cons rfl (fun K hK => ?_) ?_
        · go_simp
          go_wp2_with (refine (C1.out _ B0.out).mono ?_; rintro e w1 ⟨o1, k1, rfl, s1, r1, m1, hb⟩; have S1 := hide s1; have R1 := hide r1; have M1 := hide m1; have D1 := hide hb; have B1 := hide (bthen B0.out hb); have N1 := hide ((hb.block p (heap_lt N0.out)).trans N0.out); clear s1 r1 m1 hb)
          refine hK.out _ _ trivial (fun hHeld => ?_)
          clear hK K
          try simp only [Act.put, List.getElem_toArray, List.getElem_cons_zero, List.getElem_cons_succ, List.setIfInBounds_toArray, List.set_cons_zero, List.set_cons_succ]
          clear c0 c1 c2 c3 c4 c5 c6
          obtain ⟨c0, c1, c2, c3, c4, c5, c6⟩ := seven_cells N1.out
          refine wpAnyH_take (i := 9) (v := .pointer (some ⟨p, 3, none⟩)) rfl (by kernel_rfl) (by kernel_rfl) (by kernel_rfl) (fun _ _ _ h => h) (Or.inl ⟨by rfl, fun w hSw => by dsimp only at hSw; go_simp⟩) hHeld ?_
          simp only [Act.put, List.getElem_toArray, List.getElem_cons_zero, List.getElem_cons_succ, List.setIfInBounds_toArray, List.set_cons_zero, List.set_cons_succ]
          refine wpAnyH_ready (rs := [5]) (by kernel_rfl) (by simp) ?_
          refine AllReadyH.cons rfl (fun K hK => ?_) ?_
          · go_simp
            go_wp2_with (refine (C2.out _ B1.out).mono ?_; rintro e w2 ⟨o2, k2, rfl, s2, r2, m2, hb⟩; have S2 := hide s2; have R2 := hide r2; have M2 := hide m2; have D2 := hide hb; have B2 := hide (bthen B1.out hb); have N2 := hide ((hb.block p (heap_lt N1.out)).trans N1.out); clear s2 r2 m2 hb)
            refine hK.out _ _ trivial (fun hHeld => ?_)
            clear hK K
            try simp only [Act.put, List.getElem_toArray, List.getElem_cons_zero, List.getElem_cons_succ, List.setIfInBounds_toArray, List.set_cons_zero, List.set_cons_succ]
            clear c0 c1 c2 c3 c4 c5 c6
            obtain ⟨c0, c1, c2, c3, c4, c5, c6⟩ := seven_cells N2.out
            refine wpAnyH_ready (rs := [8]) (by kernel_rfl) (by simp) ?_
            refine AllReadyH.cons rfl (fun K hK => ?_) ?_
            · go_simp
              go_wp2_with (refine (C3.out _ B2.out).mono ?_; rintro e w3 ⟨o3, k3, rfl, s3, r3, m3, hb⟩; have S3 := hide s3; have R3 := hide r3; have M3 := hide m3; have D3 := hide hb; have B3 := hide (bthen B2.out hb); have N3 := hide ((hb.block p (heap_lt N2.out)).trans N2.out); clear s3 r3 m3 hb)
              refine hK.out _ _ trivial (fun hHeld => ?_)
              clear hK K
              try simp only [Act.put, List.getElem_toArray, List.getElem_cons_zero, List.getElem_cons_succ, List.setIfInBounds_toArray, List.set_cons_zero, List.set_cons_succ]
              clear c0 c1 c2 c3 c4 c5 c6
              obtain ⟨c0, c1, c2, c3, c4, c5, c6⟩ := seven_cells N3.out
              have NW := N3
              clear c0 c1 c2 c3 c4 c5 c6
              have OW : Hid (∀ b, W0.heap.size ≤ b → w3.heap[b]? = w3.heap[b]?) := fun _ _ => rfl
              have BW := hide (bthen BB.out B3.out)
              obtain ⟨c0, c1, c2, c3, c4, c5, c6⟩ := seven_cells NW.out
              have fr := frozenG NW.out 3
              have NX := hide (put_at3 NW.out (.slice o1 pa.length k1))
              have OX : Hid (∀ b, W0.heap.size ≤ b → (w3.setCell ⟨p, 3, none⟩ (.slice o1 pa.length k1)).heap[b]? = w3.heap[b]?) := fun b hb => (heap_setCell_other _ ⟨p, 3, none⟩ b _ (Nat.ne_of_gt (Nat.lt_of_lt_of_le PL.out hb))).trans (OW.out b hb)
              have BXX := hide (bset BW.out (p := ⟨p, 3, none⟩) PG.out (.slice o1 pa.length k1))
              have QX := hide ((heap_setCell_other w3 ⟨p, 3, none⟩ q (.slice o1 pa.length k1) QP.out).trans (((B3.out.block q QL.out).trans NQ.out)))
              refine wpAnyH_ready (rs := [10]) (by kernel_rfl) (by simp) ?_
              refine AllReadyH.cons rfl (fun K hK => ?_) AllReadyH.nil
              go_simp
              refine hK.out _ _ trivial (fun hHeld => ?_)
              clear hK K
              try simp only [Act.put, List.getElem_toArray, List.getElem_cons_zero, List.getElem_cons_succ, List.setIfInBounds_toArray, List.set_cons_zero, List.set_cons_succ]
              clear c0 c1 c2 c3 c4 c5 c6 fr
              generalize w3.setCell ⟨p, 3, none⟩ (.slice o1 pa.length k1) = wa at *
              clear NW OW BW
              have NW := NX
              have OW := OX
              have BW := BXX
              have QW := QX
              clear NX OX BXX QX
              refine wpAnyH_take (i := 11) (v := .pointer (some ⟨p, 4, none⟩)) rfl (by kernel_rfl) (by kernel_rfl) (by kernel_rfl) (fun _ _ _ h => h) (Or.inl ⟨by rfl, fun w hSw => by dsimp only at hSw; go_simp⟩) hHeld ?_
              simp only [Act.put, List.getElem_toArray, List.getElem_cons_zero, List.getElem_cons_succ, List.setIfInBounds_toArray, List.set_cons_zero, List.set_cons_succ]
              obtain ⟨c0, c1, c2, c3, c4, c5, c6⟩ := seven_cells NW.out
              have fr := frozenG NW.out 4
              have NX := hide (put_at4 NW.out (.slice o2 cm.length k2))
              have OX : Hid (∀ b, W0.heap.size ≤ b → (wa.setCell ⟨p, 4, none⟩ (.slice o2 cm.length k2)).heap[b]? = w3.heap[b]?) := fun b hb => (heap_setCell_other _ ⟨p, 4, none⟩ b _ (Nat.ne_of_gt (Nat.lt_of_lt_of_le PL.out hb))).trans (OW.out b hb)
              have BXX := hide (bset BW.out (p := ⟨p, 4, none⟩) PG.out (.slice o2 cm.length k2))
              have QX := hide ((heap_setCell_other wa ⟨p, 4, none⟩ q (.slice o2 cm.length k2) QP.out).trans QW.out)
              refine wpAnyH_ready (rs := [12]) (by kernel_rfl) (by simp) ?_
              refine AllReadyH.cons rfl (fun K hK => ?_) AllReadyH.nil
              go_simp
              refine hK.out _ _ trivial (fun hHeld => ?_)
              clear hK K
              try simp only [Act.put, List.getElem_toArray, List.getElem_cons_zero, List.getElem_cons_succ, List.setIfInBounds_toArray, List.set_cons_zero, List.set_cons_succ]
              clear c0 c1 c2 c3 c4 c5 c6 fr
              generalize wa.setCell ⟨p, 4, none⟩ (.slice o2 cm.length k2) = wb at *
              clear NW OW BW QW
              have NW := NX
              have OW := OX
              have BW := BXX
              have QW := QX
              clear NX OX BXX QX
              refine wpAnyH_take (i := 13) (v := .pointer (some ⟨p, 6, none⟩)) rfl (by kernel_rfl) (by kernel_rfl) (by kernel_rfl) (fun _ _ _ h => h) (Or.inl ⟨by rfl, fun w hSw => by dsimp only at hSw; go_simp⟩) hHeld ?_
              simp only [Act.put, List.getElem_toArray, List.getElem_cons_zero, List.getElem_cons_succ, List.setIfInBounds_toArray, List.set_cons_zero, List.set_cons_succ]
              obtain ⟨c0, c1, c2, c3, c4, c5, c6⟩ := seven_cells NW.out
              have fr := frozenG NW.out 6
              have NX := hide (put_at6 NW.out (.slice o3 kl.length k3))
              have OX : Hid (∀ b, W0.heap.size ≤ b → (wb.setCell ⟨p, 6, none⟩ (.slice o3 kl.length k3)).heap[b]? = w3.heap[b]?) := fun b hb => (heap_setCell_other _ ⟨p, 6, none⟩ b _ (Nat.ne_of_gt (Nat.lt_of_lt_of_le PL.out hb))).trans (OW.out b hb)
              have BXX := hide (bset BW.out (p := ⟨p, 6, none⟩) PG.out (.slice o3 kl.length k3))
              have QX := hide ((heap_setCell_other wb ⟨p, 6, none⟩ q (.slice o3 kl.length k3) QP.out).trans QW.out)
              refine wpAnyH_ready (rs := [14]) (by kernel_rfl) (by simp) ?_
              refine AllReadyH.cons rfl (fun K hK => ?_) AllReadyH.nil
              go_simp
              refine hK.out _ _ trivial (fun hHeld => ?_)
              clear hK K
              try simp only [Act.put, List.getElem_toArray, List.getElem_cons_zero, List.getElem_cons_succ, List.setIfInBounds_toArray, List.set_cons_zero, List.set_cons_succ]
              clear c0 c1 c2 c3 c4 c5 c6 fr
              generalize wb.setCell ⟨p, 6, none⟩ (.slice o3 kl.length k3) = wc at *
              clear NW OW BW QW
              have NW := NX
              have OW := OX
              have BW := BXX
              have QW := QX
              clear NX OX BXX QX
              refine wpAnyH_done (by kernel_rfl) ?_ _
              obtain ⟨c0, c1, c2, c3, c4, c5, c6⟩ := seven_cells NW.out
              obtain ⟨z0, z1, z2, z3, z4, z5, z6⟩ := seven_cells QW.out
              have f0 := frozenG QW.out 0
              have f1 := frozenG QW.out 1
              have f2 := frozenG QW.out 2
              have f3 := frozenG QW.out 3
              have f4 := frozenG QW.out 4
              have f5 := frozenG QW.out 5
              have f6 := frozenG QW.out 6
              have NE := hide (put7_same QW.out (.int .i64 x0) (.int .i64 x1) (.int .i64 x2) (.slice o1 pa.length k1) (.slice o2 cm.length k2) (.int .i64 x5) (.slice o3 kl.length k3))
              have BE := hide (put7_below BW.out QG.out (.int .i64 x0) (.int .i64 x1) (.int .i64 x2) (.slice o1 pa.length k1) (.slice o2 cm.length k2) (.int .i64 x5) (.slice o3 kl.length k3))
              have OE : Hid (∀ b, W0.heap.size ≤ b → (put7 wc q (.int .i64 x0) (.int .i64 x1) (.int .i64 x2) (.slice o1 pa.length k1) (.slice o2 cm.length k2) (.int .i64 x5) (.slice o3 kl.length k3)).heap[b]? = w3.heap[b]?) := fun b hb => (put7_other _ _ _ _ _ _ _ _ _ b (Nat.ne_of_gt (Nat.lt_of_lt_of_le QL.out hb))).trans (OW.out b hb)
              have FIN := hide (copy_fin (a := ⟨x0, x1, x2, pa, cm, x5, kl⟩) BP.out B0.out D1.out D2.out D3.out S1.out R1.out S2.out R2.out S3.out R3.out OE.out)
              clear OE OW BW QL PL B0 B1 B2 B3 D1 D2 D3 S1 S2 S3 R1 R2 R3 N1 N2 N3
              go_wp2_with fail
              change bodyPost _ _ _ _ _ (put7 wc q (.int .i64 x0) (.int .i64 x1) (.int .i64 x2) (.slice o1 pa.length k1) (.slice o2 cm.length k2) (.int .i64 x5) (.slice o3 kl.length k3))
              generalize put7 wc q (.int .i64 x0) (.int .i64 x1) (.int .i64 x2) (.slice o1 pa.length k1) (.slice o2 cm.length k2) (.int .i64 x5) (.slice o3 kl.length k3) = w9 at *
              obtain ⟨y0, y1, y2, y3, y4, y5, y6⟩ := seven_cells NE.out
              refine bodyPost_ret (v := .agg #[.int .i64 x0, .int .i64 x1, .int .i64 x2, .slice o1 pa.length k1, .slice o2 cm.length k2, .int .i64 x5, .slice o3 kl.length k3]) ?_ rfl ⟨o1, o2, o3, k1, k2, k3, rfl, FIN.out, ⟨M1.out.1, M2.out, M3.out.1, M3.out.2⟩, BE.out⟩
              simp [results, Tryz.results38, go_sem, y0, y1, y2, y3, y4, y5, y6]
            exact AllReadyH.nil
          exact AllReadyH.nil
        exact AllReadyH.nil
      exact AllReadyH.nil
    refine AllReadyH.cons rfl (fun K hK => ?_) ?_
    · go_simp
      refine hK.out _ _ trivial (fun hHeld => ?_)
      clear hK K
      try simp only [Act.put, List.getElem_toArray, List.getElem_cons_zero, List.getElem_cons_succ, List.setIfInBounds_toArray, List.set_cons_zero, List.set_cons_succ]
      refine wpAnyH_ready (rs := [1]) (by kernel_rfl) (by simp) ?_
      refine AllReadyH.cons rfl (fun K hK => ?_) ?_
      · go_simp
        refine hK.out _ _ trivial (fun hHeld => ?_)
        clear hK K
        try simp only [Act.put, List.getElem_toArray, List.getElem_cons_zero, List.getElem_cons_succ, List.setIfInBounds_toArray, List.set_cons_zero, List.set_cons_succ]
        refine wpAnyH_ready (rs := [2]) (by kernel_rfl) (by simp) ?_
        refine AllReadyH.cons rfl (fun K hK => ?_) ?_
        · go_simp
          go_wp2_with (refine (C1.out _ B0.out).mono ?_; rintro e w1 ⟨o1, k1, rfl, s1, r1, m1, hb⟩; have S1 := hide s1; have R1 := hide r1; have M1 := hide m1; have D1 := hide hb; have B1 := hide (bthen B0.out hb); have N1 := hide ((hb.block p (heap_lt N0.out)).trans N0.out); clear s1 r1 m1 hb)
          refine hK.out _ _ trivial (fun hHeld => ?_)
          clear hK K
          try simp only [Act.put, List.getElem_toArray, List.getElem_cons_zero, List.getElem_cons_succ, List.setIfInBounds_toArray, List.set_cons_zero, List.set_cons_succ]
          clear c0 c1 c2 c3 c4 c5 c6
          obtain ⟨c0, c1, c2, c3, c4, c5, c6⟩ := seven_cells N1.out
          refine wpAnyH_take (i := 9) (v := .pointer (some ⟨p, 3, none⟩)) rfl (by kernel_rfl) (by kernel_rfl) (by kernel_rfl) (fun _ _ _ h => h) (Or.inl ⟨by rfl, fun w hSw => by dsimp only at hSw; go_simp⟩) hHeld ?_
          simp only [Act.put, List.getElem_toArray, List.getElem_cons_zero, List.getElem_cons_succ, List.setIfInBounds_toArray, List.set_cons_zero, List.set_cons_succ]
          refine wpAnyH_ready (rs := [5]) (by kernel_rfl) (by simp) ?_
          refine AllReadyH.cons rfl (fun K hK => ?_) ?_
          · go_simp
            go_wp2_with (refine (C2.out _ B1.out).mono ?_; rintro e w2 ⟨o2, k2, rfl, s2, r2, m2, hb⟩; have S2 := hide s2; have R2 := hide r2; have M2 := hide m2; have D2 := hide hb; have B2 := hide (bthen B1.out hb); have N2 := hide ((hb.block p (heap_lt N1.out)).trans N1.out); clear s2 r2 m2 hb)
            refine hK.out _ _ trivial (fun hHeld => ?_)
            clear hK K
            try simp only [Act.put, List.getElem_toArray, List.getElem_cons_zero, List.getElem_cons_succ, List.setIfInBounds_toArray, List.set_cons_zero, List.set_cons_succ]
            clear c0 c1 c2 c3 c4 c5 c6
            obtain ⟨c0, c1, c2, c3, c4, c5, c6⟩ := seven_cells N2.out
            refine wpAnyH_ready (rs := [8]) (by kernel_rfl) (by simp) ?_
            refine AllReadyH.cons rfl (fun K hK => ?_) ?_
            · go_simp
              go_wp2_with (refine (C3.out _ B2.out).mono ?_; rintro e w3 ⟨o3, k3, rfl, s3, r3, m3, hb⟩; have S3 := hide s3; have R3 := hide r3; have M3 := hide m3; have D3 := hide hb; have B3 := hide (bthen B2.out hb); have N3 := hide ((hb.block p (heap_lt N2.out)).trans N2.out); clear s3 r3 m3 hb)
              refine hK.out _ _ trivial (fun hHeld => ?_)
              clear hK K
              try simp only [Act.put, List.getElem_toArray, List.getElem_cons_zero, List.getElem_cons_succ, List.setIfInBounds_toArray, List.set_cons_zero, List.set_cons_succ]
              clear c0 c1 c2 c3 c4 c5 c6
              obtain ⟨c0, c1, c2, c3, c4, c5, c6⟩ := seven_cells N3.out
              have NW := N3
              clear c0 c1 c2 c3 c4 c5 c6
              have OW : Hid (∀ b, W0.heap.size ≤ b → w3.heap[b]? = w3.heap[b]?) := fun _ _ => rfl
              have BW := hide (bthen BB.out B3.out)
              obtain ⟨c0, c1, c2, c3, c4, c5, c6⟩ := seven_cells NW.out
              have fr := frozenG NW.out 3
              have NX := hide (put_at3 NW.out (.slice o1 pa.length k1))
              have OX : Hid (∀ b, W0.heap.size ≤ b → (w3.setCell ⟨p, 3, none⟩ (.slice o1 pa.length k1)).heap[b]? = w3.heap[b]?) := fun b hb => (heap_setCell_other _ ⟨p, 3, none⟩ b _ (Nat.ne_of_gt (Nat.lt_of_lt_of_le PL.out hb))).trans (OW.out b hb)
              have BXX := hide (bset BW.out (p := ⟨p, 3, none⟩) PG.out (.slice o1 pa.length k1))
              have QX := hide ((heap_setCell_other w3 ⟨p, 3, none⟩ q (.slice o1 pa.length k1) QP.out).trans (((B3.out.block q QL.out).trans NQ.out)))
              refine wpAnyH_ready (rs := [10]) (by kernel_rfl) (by simp) ?_
              refine AllReadyH.cons rfl (fun K hK => ?_) AllReadyH.nil
              go_simp
              refine hK.out _ _ trivial (fun hHeld => ?_)
              clear hK K
              try simp only [Act.put, List.getElem_toArray, List.getElem_cons_zero, List.getElem_cons_succ, List.setIfInBounds_toArray, List.set_cons_zero, List.set_cons_succ]
              clear c0 c1 c2 c3 c4 c5 c6 fr
              generalize w3.setCell ⟨p, 3, none⟩ (.slice o1 pa.length k1) = wa at *
              clear NW OW BW
              have NW := NX
              have OW := OX
              have BW := BXX
              have QW := QX
              clear NX OX BXX QX
              refine wpAnyH_take (i := 11) (v := .pointer (some ⟨p, 4, none⟩)) rfl (by kernel_rfl) (by kernel_rfl) (by kernel_rfl) (fun _ _ _ h => h) (Or.inl ⟨by rfl, fun w hSw => by dsimp only at hSw; go_simp⟩) hHeld ?_
              simp only [Act.put, List.getElem_toArray, List.getElem_cons_zero, List.getElem_cons_succ, List.setIfInBounds_toArray, List.set_cons_zero, List.set_cons_succ]
              obtain ⟨c0, c1, c2, c3, c4, c5, c6⟩ := seven_cells NW.out
              have fr := frozenG NW.out 4
              have NX := hide (put_at4 NW.out (.slice o2 cm.length k2))
              have OX : Hid (∀ b, W0.heap.size ≤ b → (wa.setCell ⟨p, 4, none⟩ (.slice o2 cm.length k2)).heap[b]? = w3.heap[b]?) := fun b hb => (heap_setCell_other _ ⟨p, 4, none⟩ b _ (Nat.ne_of_gt (Nat.lt_of_lt_of_le PL.out hb))).trans (OW.out b hb)
              have BXX := hide (bset BW.out (p := ⟨p, 4, none⟩) PG.out (.slice o2 cm.length k2))
              have QX := hide ((heap_setCell_other wa ⟨p, 4, none⟩ q (.slice o2 cm.length k2) QP.out).trans QW.out)
              refine wpAnyH_ready (rs := [12]) (by kernel_rfl) (by simp) ?_
              refine AllReadyH.cons rfl (fun K hK => ?_) AllReadyH.nil
              go_simp
              refine hK.out _ _ trivial (fun hHeld => ?_)
              clear hK K
              try simp only [Act.put, List.getElem_toArray, List.getElem_cons_zero, List.getElem_cons_succ, List.setIfInBounds_toArray, List.set_cons_zero, List.set_cons_succ]
              clear c0 c1 c2 c3 c4 c5 c6 fr
              generalize wa.setCell ⟨p, 4, none⟩ (.slice o2 cm.length k2) = wb at *
              clear NW OW BW QW
              have NW := NX
              have OW := OX
              have BW := BXX
              have QW := QX
              clear NX OX BXX QX
              refine wpAnyH_take (i := 13) (v := .pointer (some ⟨p, 6, none⟩)) rfl (by kernel_rfl) (by kernel_rfl) (by kernel_rfl) (fun _ _ _ h => h) (Or.inl ⟨by rfl, fun w hSw => by dsimp only at hSw; go_simp⟩) hHeld ?_
              simp only [Act.put, List.getElem_toArray, List.getElem_cons_zero, List.getElem_cons_succ, List.setIfInBounds_toArray, List.set_cons_zero, List.set_cons_succ]
              obtain ⟨c0, c1, c2, c3, c4, c5, c6⟩ := seven_cells NW.out
              have fr := frozenG NW.out 6
              have NX := hide (put_at6 NW.out (.slice o3 kl.length k3))
              have OX : Hid (∀ b, W0.heap.size ≤ b → (wb.setCell ⟨p, 6, none⟩ (.slice o3 kl.length k3)).heap[b]? = w3.heap[b]?) := fun b hb => (heap_setCell_other _ ⟨p, 6, none⟩ b _ (Nat.ne_of_gt (Nat.lt_of_lt_of_le PL.out hb))).trans (OW.out b hb)
              have BXX := hide (bset BW.out (p := ⟨p, 6, none⟩) PG.out (.slice o3 kl.length k3))
              have QX := hide ((heap_setCell_other wb ⟨p, 6, none⟩ q (.slice o3 kl.length k3) QP.out).trans QW.out)
              refine wpAnyH_ready (rs := [14]) (by kernel_rfl) (by simp) ?_
              refine AllReadyH.cons rfl (fun K hK => ?_) AllReadyH.nil
              go_simp
              refine hK.out _ _ trivial (fun hHeld => ?_)
              clear hK K
              try simp only [Act.put, List.getElem_toArray, List.getElem_cons_zero, List.getElem_cons_succ, List.setIfInBounds_toArray, List.set_cons_zero, List.set_cons_succ]
              clear c0 c1 c2 c3 c4 c5 c6 fr
              generalize wb.setCell ⟨p, 6, none⟩ (.slice o3 kl.length k3) = wc at *
              clear NW OW BW QW
              have NW := NX
              have OW := OX
              have BW := BXX
              have QW := QX
              clear NX OX BXX QX
              refine wpAnyH_done (by kernel_rfl) ?_ _
              obtain ⟨c0, c1, c2, c3, c4, c5, c6⟩ := seven_cells NW.out
              obtain ⟨z0, z1, z2, z3, z4, z5, z6⟩ := seven_cells QW.out
              have f0 := frozenG QW.out 0
              have f1 := frozenG QW.out 1
              have f2 := frozenG QW.out 2
              have f3 := frozenG QW.out 3
              have f4 := frozenG QW.out 4
              have f5 := frozenG QW.out 5
              have f6 := frozenG QW.out 6
              have NE := hide (put7_same QW.out (.int .i64 x0) (.int .i64 x1) (.int .i64 x2) (.slice o1 pa.length k1) (.slice o2 cm.length k2) (.int .i64 x5) (.slice o3 kl.length k3))
              have BE := hide (put7_below BW.out QG.out (.int .i64 x0) (.int .i64 x1) (.int .i64 x2) (.slice o1 pa.length k1) (.slice o2 cm.length k2) (.int .i64 x5) (.slice o3 kl.length k3))
              have OE : Hid (∀ b, W0.heap.size ≤ b → (put7 wc q (.int .i64 x0) (.int .i64 x1) (.int .i64 x2) (.slice o1 pa.length k1) (.slice o2 cm.length k2) (.int .i64 x5) (.slice o3 kl.length k3)).heap[b]? = w3.heap[b]?) := fun b hb => (put7_other _ _ _ _ _ _ _ _ _ b (Nat.ne_of_gt (Nat.lt_of_lt_of_le QL.out hb))).trans (OW.out b hb)
              have FIN := hide (copy_fin (a := ⟨x0, x1, x2, pa, cm, x5, kl⟩) BP.out B0.out D1.out D2.out D3.out S1.out R1.out S2.out R2.out S3.out R3.out OE.out)
              clear OE OW BW QL PL B0 B1 B2 B3 D1 D2 D3 S1 S2 S3 R1 R2 R3 N1 N2 N3
              go_wp2_with fail
              change bodyPost _ _ _ _ _ (put7 wc q (.int .i64 x0) (.int .i64 x1) (.int .i64 x2) (.slice o1 pa.length k1) (.slice o2 cm.length k2) (.int .i64 x5) (.slice o3 kl.length k3))
              generalize put7 wc q (.int .i64 x0) (.int .i64 x1) (.int .i64 x2) (.slice o1 pa.length k1) (.slice o2 cm.length k2) (.int .i64 x5) (.slice o3 kl.length k3) = w9 at *
              obtain ⟨y0, y1, y2, y3, y4, y5, y6⟩ := seven_cells NE.out
              refine bodyPost_ret (v := .agg #[.int .i64 x0, .int .i64 x1, .int .i64 x2, .slice o1 pa.length k1, .slice o2 cm.length k2, .int .i64 x5, .slice o3 kl.length k3]) ?_ rfl ⟨o1, o2, o3, k1, k2, k3, rfl, FIN.out, ⟨M1.out.1, M2.out, M3.out.1, M3.out.2⟩, BE.out⟩
              simp [results, Tryz.results38, go_sem, y0, y1, y2, y3, y4, y5, y6]
            exact AllReadyH.nil
          exact AllReadyH.nil
        exact AllReadyH.nil
      exact AllReadyH.nil
    exact AllReadyH.nil
  exact AllReadyH.nil
end Go.Proofs.YtngfoijmknclhaaGreatDoor
