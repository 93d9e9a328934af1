import Derived.Test.YtechocnednepiaaFf
/- The document's Fold, whole. -/
namespace Go.Proofs.Ytechocnednepiaa
open Go.RowKit

theorem two_set0 {w : World} {n : Nat} {p : Pf} (h : Two w n p) (x : Int) : Two (w.setCell ⟨n, 0, none⟩ (.int .u32 x)) n (x, p.2) := heap_setCell_same w n 0 _ 30 (.int .u32 x) h
theorem pre_step {k : Nat} (t : Nt) (s : Bool) (hk : k = if s then 1 else 0) : t.pre (k + 1) = t.pre k ++ brk (t.kid s) (t.kid s).txt := by
  subst hk
  cases s <;> simp [Nt.pre]
theorem pre_nil {k : Nat} (t : Nt) (s : Bool) (hk : k = if s then 1 else 0) (h : t.kid s = .nil) : t.pre (k + 1) = t.pre k := by
  rw [pre_step t s hk, h]
  simp [brk]
theorem pre_some {k : Nat} (t : Nt) (s : Bool) (hk : k = if s then 1 else 0) (h : t.kid s ≠ .nil) : t.pre (k + 1) = t.pre k ++ [40] ++ (t.kid s).txt ++ [41] := by
  rw [pre_step t s hk]
  cases e : t.kid s with
  | nil => exact absurd e h
  | nd b lo hi v is => simp [brk, bk]
set_option maxHeartbeats 8000000 in
set_option maxRecDepth 100000 in
theorem refFold_step {ao : Option Addr} {cap : Nat} {l : Prs} {t : Nt} {c : Pf} {w : World} (hn : l.length ≤ 1000) (hc : Gd c) (hR : Pr.rowAt w ao l) (hv : ∀ x ∈ l, 0 ≤ x.2 ∧ x.2 < 1000)
    (hpl : ∀ k, (t.pre k).length ≤ 300000) (htl : ∀ s, (t.kid s).txt.length ≤ 100000) (hlast : ¬ c.2 ≤ 31 → t.pre 2 = [])
    (hdn : ∀ s, c.2 ≤ 31 → ∀ W, Pr.rowAt W ao l → Calls Try.prog 45 #[.slice ao l.length cap, pv (half c s)] W fun e w' => ∃ (ar : Option Addr) (n cr : Nat), e = .returned (.slice ar n cr) ∧ (n = 0 ↔ t.kid s = .nil) ∧ Below W.heap.size W w')
    (hrec : ∀ s, c.2 ≤ 31 → ∀ W, Pr.rowAt W ao l → Calls Try.prog 18 #[.slice ao l.length cap, pv (half c s)] W fun e w' => e = .returned (tv (t.kid s).txt) ∧ Below W.heap.size W w') :
    Calls Try.prog 18 #[.slice ao l.length cap, pv c] w fun e w' => e = .returned (tv (t.pre 2 ++ ownT l c)) ∧ Below w.heap.size w w' := by
  have HR := hide hR
  have HV := hide hv
  have HPL := hide hpl
  have HTL := hide htl
  have HLA := hide hlast
  have TB0 := hide (two_new w c)
  have BB0 := hide (balloc (brefl w) (.cells #[.int .u32 c.1, .int .i64 c.2] 30))
  have CA : Hid (∀ W, Below w.heap.size w W → Calls Try.prog 42 #[.slice ao l.length cap, pv c] W fun e w' => e = .returned (.tuple #[.int .i64 ((place l c).1 : Nat), .bool (place l c).2]) ∧ Below W.heap.size W w') := fun W hW => refAt_is ao cap l c W (Pr.rowAt_below hR hW) (by omega)
  by_cases h31 : c.2 ≤ 31
  · have CD0 : Hid (∀ W, Below w.heap.size w W → _) := fun W hW => hdn false h31 W (Pr.rowAt_below hR hW)
    have CD1 : Hid (∀ W, Below w.heap.size w W → _) := fun W hW => hdn true h31 W (Pr.rowAt_below hR hW)
    have CR0 : Hid (∀ W, Below w.heap.size w W → _) := fun W hW => hrec false h31 W (Pr.rowAt_below hR hW)
    have CR1 : Hid (∀ W, Below w.heap.size w W → _) := fun W hW => hrec true h31 W (Pr.rowAt_below hR hW)
    clear hpl htl hlast hdn hrec hR hv
    obtain ⟨c0, c1⟩ := c
    have HE := hide (Ad.end_le c0 c1 hc.2.2.1 hc.2.1 hc.2.2.2.2)
    have hsz := Ad.sz_half c1 hc.2.2.1 h31
    have hszp := Ad.sz_pos (c1 + 1)
    have hend := HE.out
    unfold pv at *
    simp only [half, tv, if_true, Bool.false_eq_true, if_false] at CD0 CD1 CR0 CR1 h31 TB0 BB0 hend ⊢
    have hc0 := hc.1
    have hc1 := hc.2.1
    have hc2 := hc.2.2.1
    have hcU : c0 + Ad.sz (c1 + 1) ≤ 4294967295 := by omega
    have h32 : c1 < 32 := by omega
    clear hc HE hsz hend
    obtain ⟨U, hUn⟩ : ∃ U, Ad.sz (c1 + 1) = U := ⟨_, rfl⟩
    rw [hUn] at CD1 CR1 hszp hcU
    have HUn := hide hUn
    clear hUn
    go_enter Try.func18, Try.ntmps18
    go_wp2_with fail
    generalize w.alloc (.cells #[.int .u32 c0, .int .i64 c1] 30) = W0 at *
    obtain ⟨P, hP⟩ : ∃ P, w.heap.size = P := ⟨_, rfl⟩
    rw [hP] at TB0
    try rw [hP]
    go_loopw [5, 6] (fun v5 v6 wr => ∃ k : Nat, k ≤ 2 ∧ v6 = .int .u32 k ∧ v5 = .string (ba (t.pre k)) ∧ Hid (Below w.heap.size w wr) ∧ Hid (Two wr P (c0, c1))) (fun _ v6 _ => 2 - (intOf v6).toNat)
    case atStart => exact ⟨0, by omega, rfl, rfl, BB0, TB0⟩
    case round =>
      obtain ⟨k, hk, rfl, rfl, HB, TB⟩ := hrel
      clear BB0 TB0 hP
      obtain ⟨p0, p1, _, _⟩ := TB.out.cells
      simp only at p0 p1
      have hbl := TB.out.lt
      rcases k with _ | _ | _ | k
      · have hpre := HPL.out 0
        have htx := HTL.out false
        obtain ⟨S, hS⟩ : ∃ S, ba (t.pre 0) = S := ⟨_, rfl⟩
        rw [hS]
        have TQ0 := hide (two_new wr (c0, c1 + 1))
        have HB1 := hide (balloc HB.out (.cells #[.int .u32 c0, .int .i64 (c1 + 1)] 30))
        have TB1 := hide (TB.out.below (balloc (brefl wr) (.cells #[.int .u32 c0, .int .i64 (c1 + 1)] 30)))
        have hqn : wr.heap.size ≠ P := by omega
        have hqw : w.heap.size ≤ wr.heap.size := HB.out.size
        simp only at TQ0
        go_wp2_with fail
        generalize wr.alloc (.cells #[.int .u32 c0, .int .i64 (c1 + 1)] 30) = W1 at *
        generalize wr.heap.size = Q at *
        clear p0 p1 HB TB
        go_loopw [8, 9] (fun v8 v9 wl => ∃ (i u : Int), v9 = .int .i64 i ∧ v8 = .int .u32 u ∧ c1 + 1 ≤ i ∧ i ≤ 32 ∧ 0 < u ∧ u ≤ 2147483648 ∧ Hid (u * Ad.sz i = U) ∧ wl = W1) (fun _ v9 _ => 32 - (intOf v9).toNat)
        case atStart => exact ⟨c1 + 1, 1, rfl, rfl, by omega, by omega, by decide, by decide, by show _ = _; rw [HUn.out, Int.one_mul], rfl⟩
        case round =>
          obtain ⟨i, u, rfl, rfl, hi1, hi2, hu0, hu1, HU, rfl⟩ := hrel
          by_cases hlt : i < 32
          · have hst := unit_step (HU.out.trans HUn.out.symm) hu0 (by omega) (by omega) (by omega)
            have HU2 := hide (hst.1.trans HUn.out)
            have hu2 := hst.2
            clear hst HU
            go_wp2_with fail
            exact ⟨⟨i + 1, u * 2, rfl, rfl, by omega, by omega, by omega, by omega, HU2, by simp⟩, by simp [intOf]; omega⟩
          · have hU : u = U := by
              have e : i = 32 := by omega
              have := HU.out
              rw [e, Ad.sz_32] at this
              omega
            subst hU
            clear HU
            have hi3 : ¬ i < 32 := hlt
            obtain ⟨q0, q1, f0, f1⟩ := TQ0.out.cells
            simp only at q0 q1
        
            have HB2 := hide (bset HB1.out (p := ⟨Q, 0, none⟩) hqw (.int .u32 (c0)))
            have TQ2 := hide (two_set0 TQ0.out (c0))
            have TB2 := hide (TB1.out.other (a := ⟨Q, 0, none⟩) (Ne.symm hqn) (.int .u32 (c0)))
            simp only at TQ2
            go_wp2_with fail
            generalize wr.setCell ⟨Q, 0, none⟩ (.int .u32 (c0)) = W2 at *
            refine (CD0.out _ HB2.out).mono ?_
            rintro e w3 ⟨ar, n, cr, rfl, hnk, hb3⟩
            have HB3 := hide (bthen HB2.out hb3)
            have TQ3 := hide (TQ2.out.below hb3)
            have TB3 := hide (TB2.out.below hb3)
            clear hb3 HB2 TQ2 TB2 TQ0 HB1 TB1 q0 q1 f0 f1
            by_cases hz : n = 0
            · subst hz
              have HP := hide (pre_nil (k := 0) t false rfl (hnk.1 rfl))
              have HS := hide hS
              clear hnk hS
              go_wp2_with fail
              exact ⟨⟨0 + 1, by omega, rfl, by rw [HP.out, HS.out], HB3, TB3⟩, by simp [intOf]⟩
            · obtain ⟨r0, r1, _, _⟩ := TQ3.out.cells
              simp only at r0 r1
              have hpos : (0 : Int) < (n : Int) := by omega
              have HP := hide (pre_some (k := 0) t false rfl (fun e => hz (hnk.2 e)))
              have CRR := hide (CR0.out w3 HB3.out)
              clear hnk
              generalize t.pre 0 = s at *
              generalize (t.kid false).txt = x at *
              obtain ⟨A1, hA1, s1⟩ := str_sum s [40] (by simp; omega)
              have s2 : ∃ c, ba (s ++ [40] ++ x) = c ∧ ∀ w, (Op.stringOp .add A1 (ba x)).run Try.prog w = .ok (.string c) w := by
                rw [← hA1]
                exact str_sum _ _ (by simp; omega)
              obtain ⟨A2, hA2, s2⟩ := s2
              have s3 : ∃ c, ba (s ++ [40] ++ x ++ [41]) = c ∧ ∀ w, (Op.stringOp .add A2 (ba [41])).run Try.prog w = .ok (.string c) w := by
                rw [← hA2]
                exact str_sum _ _ (by simp; omega)
              obtain ⟨A3, hA3, s3⟩ := s3
              have H3 := hide hA3
              rw [hS] at s1
              change ∀ w, (Op.stringOp .add S ⟨#[40]⟩).run Try.prog w = _ at s1
              change ∀ w, (Op.stringOp .add A2 ⟨#[41]⟩).run Try.prog w = _ at s3
              clear hA1 hA2 hA3 hS hpre htx
              generalize ba x = X at *
              go_wp2_with fail
              refine CRR.out.mono ?_
              rintro e w4 ⟨rfl, hb4⟩
              have HB4 := hide (bthen HB3.out hb4)
              have TB4 := hide (TB3.out.below hb4)
              clear hb4 HB3 TB3 TQ3 r0 r1 CRR
              go_wp2_with fail
              exact ⟨⟨0 + 1, by omega, rfl, by rw [HP.out, H3.out], HB4, TB4⟩, by simp [intOf]⟩
      · have hpre := HPL.out 1
        have htx := HTL.out true
        obtain ⟨S, hS⟩ : ∃ S, ba (t.pre 1) = S := ⟨_, rfl⟩
        rw [hS]
        have hcast : ((0 + 1 : Nat) : Int) = 1 := rfl
        rw [hcast]
        have TQ0 := hide (two_new wr (c0, c1 + 1))
        have HB1 := hide (balloc HB.out (.cells #[.int .u32 c0, .int .i64 (c1 + 1)] 30))
        have TB1 := hide (TB.out.below (balloc (brefl wr) (.cells #[.int .u32 c0, .int .i64 (c1 + 1)] 30)))
        have hqn : wr.heap.size ≠ P := by omega
        have hqw : w.heap.size ≤ wr.heap.size := HB.out.size
        simp only at TQ0
        go_wp2_with fail
        generalize wr.alloc (.cells #[.int .u32 c0, .int .i64 (c1 + 1)] 30) = W1 at *
        generalize wr.heap.size = Q at *
        clear p0 p1 HB TB
        go_loopw [8, 9] (fun v8 v9 wl => ∃ (i u : Int), v9 = .int .i64 i ∧ v8 = .int .u32 u ∧ c1 + 1 ≤ i ∧ i ≤ 32 ∧ 0 < u ∧ u ≤ 2147483648 ∧ Hid (u * Ad.sz i = U) ∧ wl = W1) (fun _ v9 _ => 32 - (intOf v9).toNat)
        case atStart => exact ⟨c1 + 1, 1, rfl, rfl, by omega, by omega, by decide, by decide, by show _ = _; rw [HUn.out, Int.one_mul], rfl⟩
        case round =>
          obtain ⟨i, u, rfl, rfl, hi1, hi2, hu0, hu1, HU, rfl⟩ := hrel
          by_cases hlt : i < 32
          · have hst := unit_step (HU.out.trans HUn.out.symm) hu0 (by omega) (by omega) (by omega)
            have HU2 := hide (hst.1.trans HUn.out)
            have hu2 := hst.2
            clear hst HU
            go_wp2_with fail
            exact ⟨⟨i + 1, u * 2, rfl, rfl, by omega, by omega, by omega, by omega, HU2, by simp⟩, by simp [intOf]; omega⟩
          · have hU : u = U := by
              have e : i = 32 := by omega
              have := HU.out
              rw [e, Ad.sz_32] at this
              omega
            subst hU
            clear HU
            have hi3 : ¬ i < 32 := hlt
            obtain ⟨q0, q1, f0, f1⟩ := TQ0.out.cells
            simp only at q0 q1
            have hmod : (c0 + u) % 4294967296 = c0 + u := by omega
        
            have HB2 := hide (bset HB1.out (p := ⟨Q, 0, none⟩) hqw (.int .u32 (c0 + u)))
            have TQ2 := hide (two_set0 TQ0.out (c0 + u))
            have TB2 := hide (TB1.out.other (a := ⟨Q, 0, none⟩) (Ne.symm hqn) (.int .u32 (c0 + u)))
            simp only at TQ2
            go_wp2_with fail
            generalize wr.setCell ⟨Q, 0, none⟩ (.int .u32 (c0 + u)) = W2 at *
            refine (CD1.out _ HB2.out).mono ?_
            rintro e w3 ⟨ar, n, cr, rfl, hnk, hb3⟩
            have HB3 := hide (bthen HB2.out hb3)
            have TQ3 := hide (TQ2.out.below hb3)
            have TB3 := hide (TB2.out.below hb3)
            clear hb3 HB2 TQ2 TB2 TQ0 HB1 TB1 q0 q1 f0 f1
            by_cases hz : n = 0
            · subst hz
              have HP := hide (pre_nil (k := 1) t true rfl (hnk.1 rfl))
              have HS := hide hS
              clear hnk hS
              go_wp2_with fail
              exact ⟨⟨1 + 1, by omega, rfl, by rw [HP.out, HS.out], HB3, TB3⟩, by simp [intOf]⟩
            · obtain ⟨r0, r1, _, _⟩ := TQ3.out.cells
              simp only at r0 r1
              have hpos : (0 : Int) < (n : Int) := by omega
              have HP := hide (pre_some (k := 1) t true rfl (fun e => hz (hnk.2 e)))
              have CRR := hide (CR1.out w3 HB3.out)
              clear hnk
              generalize t.pre 1 = s at *
              generalize (t.kid true).txt = x at *
              obtain ⟨A1, hA1, s1⟩ := str_sum s [40] (by simp; omega)
              have s2 : ∃ c, ba (s ++ [40] ++ x) = c ∧ ∀ w, (Op.stringOp .add A1 (ba x)).run Try.prog w = .ok (.string c) w := by
                rw [← hA1]
                exact str_sum _ _ (by simp; omega)
              obtain ⟨A2, hA2, s2⟩ := s2
              have s3 : ∃ c, ba (s ++ [40] ++ x ++ [41]) = c ∧ ∀ w, (Op.stringOp .add A2 (ba [41])).run Try.prog w = .ok (.string c) w := by
                rw [← hA2]
                exact str_sum _ _ (by simp; omega)
              obtain ⟨A3, hA3, s3⟩ := s3
              have H3 := hide hA3
              rw [hS] at s1
              change ∀ w, (Op.stringOp .add S ⟨#[40]⟩).run Try.prog w = _ at s1
              change ∀ w, (Op.stringOp .add A2 ⟨#[41]⟩).run Try.prog w = _ at s3
              clear hA1 hA2 hA3 hS hpre htx
              generalize ba x = X at *
              go_wp2_with fail
              refine CRR.out.mono ?_
              rintro e w4 ⟨rfl, hb4⟩
              have HB4 := hide (bthen HB3.out hb4)
              have TB4 := hide (TB3.out.below hb4)
              clear hb4 HB3 TB3 TQ3 r0 r1 CRR
              go_wp2_with fail
              exact ⟨⟨1 + 1, by omega, rfl, by rw [HP.out, H3.out], HB4, TB4⟩, by simp [intOf]⟩
      · have hpre := HPL.out 2
        obtain ⟨S, hS⟩ : ∃ S, ba (t.pre 2) = S := ⟨_, rfl⟩
        rw [hS]
        have HS := hide hS
        have HBW := hide (HB.out)
        have HPW := hide (Pr.rowAt_below HR.out HBW.out)
        cases hp2 : (place l (c0, c1)).2
        · have HO : Hid (ownT l (c0, c1) = []) := by show _ = _; unfold ownT; rw [hp2]; rfl
          rw [hp2] at CA
          clear hp2 hpre hS
          go_wp2_with fail
          refine (CA.out _ HBW.out).mono ?_
          rintro e w3 ⟨rfl, hb3⟩
          have HB3 := hide (bthen HBW.out hb3)
          clear hb3
          go_wp2_with fail
          go_ret
          refine ⟨?_, HB3.out⟩
          rw [HO.out, List.append_nil, HS.out]
          rfl
        · have hlt := place_lt hp2
          have HO : Hid (ownT l (c0, c1) = Lib.itoa (l[(place l (c0, c1)).1]'hlt).2) := by
            show _ = _
            unfold ownT
            rw [hp2, if_pos rfl, List.getElem?_eq_getElem hlt]
          rw [hp2] at CA
          clear hp2
          obtain ⟨b, off, rfl, hr⟩ : ∃ b off, ao = some ⟨b, off, none⟩ ∧ Pr.reads w b off l := by
            rcases HR.out with h | h
            · rw [h] at hlt; simp at hlt
            · exact h
          have HX : Hid (∀ W, Below w.heap.size w W → W.cell? ⟨b, off + (place l (c0, c1)).1 * 3 + 2, none⟩ = some (.int .i64 (l[(place l (c0, c1)).1]'hlt).2)) := fun W hW => (Pr.reads_at (Pr.reads_below hr hW) _ hlt).2.2
          have hval := HV.out (l[(place l (c0, c1)).1]'hlt) (List.getElem_mem hlt)
          clear hr
          generalize (l[(place l (c0, c1)).1]'hlt).2 = x at *
          generalize (place l (c0, c1)).1 = m at *
          have hlt' : (m : Int) < (l.length : Int) := by omega
          have CN := hide (fun W => refNumber_any x (by omega) (by omega) W)
          have hil := Lib.itoa_length_le x (by omega) (by omega)
          obtain ⟨A1, hA1, s1⟩ := str_sum (t.pre 2) (Lib.itoa x) (by omega)
          rw [hS] at s1
          have H1 := hide hA1
          change Hid (∀ W, Calls Try.prog 17 #[.int .i64 x] W fun e w' => e = .returned (.string (ba (Lib.itoa x))) ∧ Below W.heap.size W w') at CN
          clear hil hA1 hS hval hpre
          generalize ba (Lib.itoa x) = X at CN s1
          go_wp2_with fail
          refine (CA.out _ HBW.out).mono ?_
          rintro e w3 ⟨rfl, hb3⟩
          have HB3 := hide (bthen HBW.out hb3)
          have e2 := HX.out w3 HB3.out
          clear hb3
          go_wp2_with fail
          refine (CN.out _).mono ?_
          rintro e w4 ⟨rfl, hb4⟩
          have HB4 := hide (bthen HB3.out hb4)
          clear hb4
          go_wp2_with fail
          go_ret
          refine ⟨?_, HB4.out⟩
          rw [HO.out, H1.out]
          rfl
      · omega
  · have h2 := hlast h31
    clear hpl htl hlast hdn hrec hR hv
    obtain ⟨c0, c1⟩ := c
    unfold pv at *
    simp only [tv] at h31 TB0 BB0 ⊢
    have h32 : ¬ c1 < 32 := by omega
    have hS0 : ba (t.pre 2) = ⟨#[]⟩ := by rw [h2]; rfl
    obtain ⟨p0, p1, _, _⟩ := TB0.out.cells
    simp only at p0 p1
    clear hc h31 HLA
    go_enter Try.func18, Try.ntmps18
    have hpre := HPL.out 2
    have hS := hS0
    have HS := hide hS
    have HBW := hide (BB0.out)
    have HPW := hide (Pr.rowAt_below HR.out HBW.out)
    cases hp2 : (place l (c0, c1)).2
    · have HO : Hid (ownT l (c0, c1) = []) := by show _ = _; unfold ownT; rw [hp2]; rfl
      rw [hp2] at CA
      clear hp2 hpre hS
      go_wp2_with fail
      refine (CA.out _ HBW.out).mono ?_
      rintro e w3 ⟨rfl, hb3⟩
      have HB3 := hide (bthen HBW.out hb3)
      clear hb3
      go_wp2_with fail
      go_ret
      refine ⟨?_, HB3.out⟩
      rw [HO.out, List.append_nil, HS.out]
      rfl
    · have hlt := place_lt hp2
      have HO : Hid (ownT l (c0, c1) = Lib.itoa (l[(place l (c0, c1)).1]'hlt).2) := by
        show _ = _
        unfold ownT
        rw [hp2, if_pos rfl, List.getElem?_eq_getElem hlt]
      rw [hp2] at CA
      clear hp2
      obtain ⟨b, off, rfl, hr⟩ : ∃ b off, ao = some ⟨b, off, none⟩ ∧ Pr.reads w b off l := by
        rcases HR.out with h | h
        · rw [h] at hlt; simp at hlt
        · exact h
      have HX : Hid (∀ W, Below w.heap.size w W → W.cell? ⟨b, off + (place l (c0, c1)).1 * 3 + 2, none⟩ = some (.int .i64 (l[(place l (c0, c1)).1]'hlt).2)) := fun W hW => (Pr.reads_at (Pr.reads_below hr hW) _ hlt).2.2
      have hval := HV.out (l[(place l (c0, c1)).1]'hlt) (List.getElem_mem hlt)
      clear hr
      generalize (l[(place l (c0, c1)).1]'hlt).2 = x at *
      generalize (place l (c0, c1)).1 = m at *
      have hlt' : (m : Int) < (l.length : Int) := by omega
      have CN := hide (fun W => refNumber_any x (by omega) (by omega) W)
      have hil := Lib.itoa_length_le x (by omega) (by omega)
      obtain ⟨A1, hA1, s1⟩ := str_sum (t.pre 2) (Lib.itoa x) (by omega)
      rw [hS] at s1
      have H1 := hide hA1
      change Hid (∀ W, Calls Try.prog 17 #[.int .i64 x] W fun e w' => e = .returned (.string (ba (Lib.itoa x))) ∧ Below W.heap.size W w') at CN
      clear hil hA1 hS hval hpre
      generalize ba (Lib.itoa x) = X at CN s1
      go_wp2_with fail
      refine (CA.out _ HBW.out).mono ?_
      rintro e w3 ⟨rfl, hb3⟩
      have HB3 := hide (bthen HBW.out hb3)
      have e2 := HX.out w3 HB3.out
      clear hb3
      go_wp2_with fail
      refine (CN.out _).mono ?_
      rintro e w4 ⟨rfl, hb4⟩
      have HB4 := hide (bthen HB3.out hb4)
      clear hb4
      go_wp2_with fail
      go_ret
      refine ⟨?_, HB4.out⟩
      rw [HO.out, H1.out]
      rfl
end Go.Proofs.Ytechocnednepiaa

/- The law TrieFolds. -/
namespace Go.Proofs.Ytechocnednepiaa
open Go.RowKit

theorem pre_len {t : Nt} (h : ∀ s, (t.kid s).txt.length ≤ 100000) (k : Nat) : (t.pre k).length ≤ 300000 := by
  have h0 := h false
  have h1 := h true
  have hb : ∀ (x : Nt) (s : Tx), (brk x s).length ≤ s.length + 2 := fun x s => by cases x <;> simp [brk, bk]
  have e0 := hb (t.kid false) (t.kid false).txt
  have e1 := hb (t.kid true) (t.kid true).txt
  unfold Nt.pre
  rw [List.length_append]
  split <;> split <;> (try simp only [List.length_nil]) <;> omega
theorem refFold_is {z : Value} {ao : Option Addr} {cap : Nat} {l : Prs} (hs : SortedP l) (hg : ∀ x ∈ l, Gd x.1) (hv : ∀ x ∈ l, 0 ≤ x.2 ∧ x.2 < 1000) (hn : l.length ≤ 1000) :
    ∀ (d : Nat) (t : Nt) (c : Pf) (w : World), left c = d → Gd c → t.wf z (left c) → t.small → t.list c = ((l.map em).filter fun x => decide (In c x.1)) → Pr.rowAt w ao l →
    Calls Try.prog 18 #[.slice ao l.length cap, pv c] w fun e w' => e = .returned (tv t.txt) ∧ Below w.heap.size w w' := by
  intro d
  induction d with
  | zero =>
    intro t c w hd hc hw hsm hl hR
    have h31 : ¬ c.2 ≤ 31 := by have := hc.2.2.2.1; unfold left at hd; omega
    rw [txt_pre hs hc hw hl]
    have hk : ∀ s, (t.kid s).txt.length ≤ 100000 := fun s => by
      have : t.kid s = .nil := by
        cases t with
        | nil => rfl
        | nd b lo hi v is =>
          obtain ⟨rfl, rfl⟩ := Nt.kids_nil hw h31
          cases s <;> rfl
      rw [this]
      simp [Nt.txt]
    exact refFold_step hn hc hR hv (pre_len hk) hk (pre_last hw) (fun _ h => absurd h h31) (fun _ h => absurd h h31)
  | succ d ih =>
    intro t c w hd hc hw hsm hl hR
    have h31 : c.2 ≤ 31 := by unfold left at hd; omega
    have hkl : ∀ s, ((t.kid s).list (half c s)).length ≤ 1000 := fun s => by
      rw [kid_list hc h31 hw hl s]
      have := List.length_filter_le (fun x => decide (In (half c s) x.1)) (l.map em)
      rw [List.length_map] at this
      omega
    have hk : ∀ s, (t.kid s).txt.length ≤ 100000 := fun s => txt_le (c := half c s) (kid_wf hw s) (kid_small hsm s) (by rw [left_half, hd]; have := hc.2.2.1; unfold left at hd; omega) (hkl s)
    rw [txt_pre hs hc hw hl]
    refine refFold_step hn hc hR hv (pre_len hk) hk (pre_last hw) (fun s _ W hW => ?_) (fun s _ W hW => ih _ _ W (by rw [left_half, hd]; rfl) (gd_half hc h31 s) (kid_wf hw s) (kid_small hsm s) (kid_list hc h31 hw hl s) hW)
    have hgh := gd_half hc h31 s
    refine (refDn_is ao cap l (half c s) W hW hn (fun x hx => ⟨(hg x hx).1, (hg x hx).2.1⟩) hgh.1 hgh.2.1).mono ?_
    rintro e w' ⟨ar, cr, rfl, _, hb, _⟩
    refine ⟨ar, _, cr, rfl, ?_, hb⟩
    rw [kid_dn hg hc h31 hw hl s, List.length_map, List.length_eq_zero_iff]
    exact ⟨fun h => nil_of _ _ _ (kid_wf hw s) h, fun h => by rw [h]; rfl⟩
set_option maxHeartbeats 8000000 in
set_option maxRecDepth 100000 in
theorem law_folds (ao : Option Addr) (cap : Nat) (os : List Opn) (w : World) (hR : Opn.rowAt w ao os) (hf : Opn.fits os) :
    Calls Try.prog 4 #[.slice ao os.length cap] w fun e w' => e = .returned (.bool true) ∧ Below w.heap.size w w' := by
  have CM := hide (made_is ao cap os w hR hf)
  have CV := hide (fun W => lives_is W)
  clear hR hf
  go_enter Try.func4, Try.ntmps4
  go_wp2_with fail
  refine CM.out.mono ?_
  rintro e w1 ⟨T, t, ao1, cap1, l, rfl, hst, hl⟩
  have hsm : t.small := small_of ⟨0, rfl⟩ t (0, 0) 32 hst.tri.wf fun x hx => by
    rw [hst.same, List.mem_map] at hx
    obtain ⟨y, hy, rfl⟩ := hx
    have := hst.vals y hy
    exact ⟨y.2, rfl, this.1, by omega⟩
  have CF := hide (foldXT_is hst.tri hsm (by rw [hst.len]; omega))
  have HB1 := hide hst.below
  have hroot : t.list (0, 0) = (l.map em).filter fun x => decide (In (0, 0) x.1) := by
    rw [hst.same]
    symm
    rw [List.filter_eq_self]
    intro x hx
    rw [List.mem_map] at hx
    obtain ⟨y, hy, rfl⟩ := hx
    exact decide_eq_true (in_root (hst.sorted.2 y hy))
  have CG := hide (fun W (hW : Below w1.heap.size w1 W) => refFold_is (z := .int .i64 0) (cap := cap1) hst.sorted.1 hst.sorted.2 hst.vals (by omega) 32 t (0, 0) W left_root gd_root hst.tri.wf hsm hroot (hst.next hW).good.row)
  unfold pv at CG
  simp only [tv] at CF CG
  clear hst CM hsm hroot
  generalize ba t.txt = R at *
  go_wp2_with fail
  refine CF.out.mono ?_
  rintro e w2 ⟨rfl, hb2⟩
  have B2 := hide hb2
  clear hb2 CF
  go_wp2_with fail
  refine (CG.out _ B2.out).mono ?_
  rintro e w3 ⟨rfl, hb3⟩
  have B3 := hide (bthen (bthen HB1.out B2.out) hb3)
  clear hb3
  go_wp2_with fail
  refine (CV.out _).mono ?_
  rintro e w7 ⟨rfl, hb7⟩
  have B7 := hide (bthen B3.out hb7)
  clear hb7
  go_wp2_with fail
  go_ret
  exact ⟨rfl, B7.out⟩
end Go.Proofs.Ytechocnednepiaa

