/- The document's set: its walk. -/
import Derived.Test.YtpmmhmgojjlniaaGreatDoorQ05
import Derived.Test.YtpmmhmgojjlniaaGreatDoorQ08
import Derived.Test.YtpmmhmgojjlniaaGreatDoorQ21
import Derived.Deep.RegionWith
import Derived.BigRegion
namespace Go.Proofs.YtpmmhmgojjlniaaGreatDoor.Ar
open Go.RowKit Go.Sort
theorem setInv_start (W : World) : SetInv W [] (.slice none 0 0) (.slice none 0 0) ((W.alloc (.cells #[.int .i64 0, .bool false, .bool false, .slice none 0 0, .slice none 0 0, .slice none 0 0] 200)).alloc (.cells #[.int .i64 0, .bool false, .bool true, .slice none 0 0, .slice none 0 0, .slice none 0 0] 200)) := by
  have hb := box_below (box_new W (.int .i64 0) (.bool false) (.bool false) (.slice none 0 0) (.slice none 0 0) (.slice none 0 0) 200) (balloc (brefl _) (.cells #[.int .i64 0, .bool false, .bool true, .slice none 0 0, .slice none 0 0, .slice none 0 0] 200))
  have hb2 := box_new (W.alloc (.cells #[.int .i64 0, .bool false, .bool false, .slice none 0 0, .slice none 0 0, .slice none 0 0] 200)) (.int .i64 0) (.bool false) (.bool true) (.slice none 0 0) (.slice none 0 0) (.slice none 0 0) 200
  rw [size_alloc] at hb2
  refine ⟨⟨by simp only [size_alloc]; omega, fun o => by simp [go_sem]⟩, hb, ⟨by simp only [size_alloc]; omega, fun o => by simp [go_sem]⟩, hb2, ⟨rfl, .inl ⟨rfl, rfl⟩⟩, ⟨rfl, .inl ⟨rfl, rfl⟩⟩, fun k hk => by simp [Value.ownBlock] at hk, balloc (balloc (brefl W) _) _, by simp⟩

set_option maxHeartbeats 16000000 in
set_option maxRecDepth 100000 in
theorem refSet_is (s : ByteArray) (hs : s.size ≤ 64) (n : Nat) (r0 : Bs) (hp : Pos s n r0) (f0 : Nat) (hf : r0.length < f0) (W : World) :
    Calls Tryz.prog 299 #[.string s, .int .i64 n] W (NodeGood s W (setR (Px.set f0 [] r0))) := by
  have HI := hide (setInv_start W)
  have HP := hide hp
  obtain ⟨R, hR⟩ : ∃ R, R = Px.set f0 [] r0 := ⟨_, rfl⟩
  have HR0 := hide hR
  have HF := hide hf
  rw [← hR]
  clear hp hR hf
  go_enter Tryz.func299, Tryz.ntmps299
  go_wp2_with fail
  generalize (W.alloc (.cells #[.int .i64 0, .bool false, .bool false, .slice none 0 0, .slice none 0 0, .slice none 0 0] 200)).alloc (.cells #[.int .i64 0, .bool false, .bool true, .slice none 0 0, .slice none 0 0, .slice none 0 0] 200) = W1 at *
  go_loopw [1, 8, 9, 10, 11] (fun v1 _ _ _ _ wr => ∃ (at_ f : Nat) (r : Bs) (acc : List Prt) (fo : Option Addr) (fc : Nat) (to : Option Addr) (tc : Nat), v1 = .int .i64 at_ ∧ Hid (Pos s at_ r) ∧ at_ ≤ s.size ∧ acc.length ≤ at_ ∧ Hid (R = Px.set f acc r) ∧ Hid (r.length < f) ∧ Hid (SetInv W acc (.slice fo acc.length fc) (.slice to acc.length tc) wr)) (fun v1 _ _ _ _ _ => s.size - (intOf v1).toNat)
  case atStart => exact ⟨n, f0, r0, [], none, 0, none, 0, rfl, HP, HP.out.2, Nat.zero_le _, HR0, HF, HI⟩
  case round =>
    obtain ⟨at_, f, r, acc, fo, fc, to, tc, rfl, HPr, hat, hac, HR, HFr, HI1⟩ := hrel
    obtain ⟨c0, c1, c2, c3, c4, c5⟩ := HI1.out.box1
    obtain ⟨d0, d1, d2, d3, d4, d5⟩ := HI1.out.box0
    have f3 := HI1.out.free1.2 3
    have f4 := HI1.out.free1.2 4
    have g0 := HI1.out.free0.2 0
    have g1 := HI1.out.free0.2 1
    have g2 := HI1.out.free0.2 2
    have g3 := HI1.out.free0.2 3
    have g4 := HI1.out.free0.2 4
    have g5 := HI1.out.free0.2 5
    match f, HFr, HR with
    | f + 1, HFr, HR =>
    have CN := hide (fun w => number_is s (by omega) at_ r HPr.out w)
    by_cases ha : acc = []
    · have HNY : Hid (¬ (acc ≠ [] ∧ Px.isAt r 93 = true)) := fun h => h.1 ha
      have hal : ((acc.length : Int) == 0) = true := by simp [ha]
      clear ha
      cases hN : Px.number r with
      | error q =>
        have HX : Hid (setR R = .error q) := by show _ = _; rw [HR.out, set_err1 HNY.out hN]; rfl
        have hq := number_err hN
        have hq' : (q == 0) = false := by simpa using hq
        rw [hN] at CN
        clear hN
        go_wp2_with fail
        refine (CN.out _).mono ?_
        rintro e w2 ⟨j, rfl, hw⟩
        have hw' := hw.symm
        clear hw
        subst hw'
        go_wp2_with fail
        refine bodyPost_ret (res_node Tryz.results299 _ _ W.heap.size rfl rfl rfl (put6_box HI1.out.box0 _ _ _ _ _ _)) rfl (nodeGood_err HX.out (put6_below HI1.out.below (Nat.le_refl _) _ _ _ _ _ _) ⟨rfl, rfl, rfl, rfl, rfl, rfl⟩)
      | ok z =>
        obtain ⟨va, k⟩ := z
        obtain ⟨hks, hkl⟩ := Px.number_suf hN
        rw [hN] at CN
        have HKL := hide hkl
        clear hks hkl
        cases h45 : Px.isAt k 45 with
        | false =>
          have HX : Hid (R = Px.set f (acc ++ [(va, va, false)]) k) := by show _ = _; rw [HR.out, set_one HNY.out hN h45]
          have CI := hide (fun (j : Nat) (hj : Pos s j k) w => is_is s (by omega) j k hj 45 45 rfl false h45 w)
          clear h45 hN
          go_wp2_with fail
          refine (CN.out _).mono ?_
          rintro e w2 ⟨j, hj, rfl, hw⟩
          have hw' := hw.symm
          clear hw
          subst hw'
          have HJ := hide hj
          have hlj : at_ < j := by
            have h1 := hj.len
            have h2 := HPr.out.len
            have h3 := HKL.out
            omega
          have hjs := hj.2
          clear hj
          go_wp2_with fail
          refine (CI.out _ HJ.out _).mono ?_
          rintro e w2 ⟨rfl, hw⟩
          have hw' := hw.symm
          clear hw
          subst hw'
          go_wp2_with (at_builtin; go_must (refine append_lies3 rfl _ _ rfl (W.heap.size + 2) (.slice fo acc.length fc) acc.length (Is.cells (acc.map Prod.fst)) rfl (HI1.out.rowF.alloc _) va _ _ rfl (cell_new _ _ _) (by omega) (by have := HI1.out.big; rw [size_alloc]; omega) (wr.heap.size + 1) (size_alloc _ _) ?_))
          intro gF cF w1 ho hg hloc
          have MI := hide (HI1.out.first ho hg hloc)
          clear ho hg hloc c0 c1 c2 c3 c4 c5 d0 d1 d2 d3 d4 d5 f3 f4 g0 g1 g2 g3 g4 g5
          obtain ⟨c0, c1, c2, c3, c4, c5⟩ := MI.out.box1
          have f3 := MI.out.free1.2 3
          have f4 := MI.out.free1.2 4
          go_wp2_with (at_builtin; go_must (refine append_lies3 rfl _ _ rfl (W.heap.size + 2) (.slice to acc.length tc) acc.length (Is.cells (acc.map fun p => p.2.1)) rfl ((ownsRow_setCell_below MI.out.rowT (a := ⟨W.heap.size + 1, 3, none⟩) (Nat.lt_succ_self _) _).alloc _) va _ _ rfl (by rw [← size_setCell w1 ⟨W.heap.size + 1, 3, none⟩ (.slice (some ⟨gF, 0, none⟩) (acc.length + 1) cF)]; exact cell_new _ _ _) (by omega) (by have := MI.out.big; rw [size_alloc, size_setCell]; omega) (w1.heap.size + 1) (by rw [size_alloc, size_setCell]) ?_))
          intro gT cT w3 ho hg hloc
          obtain ⟨fr3, bx3, hinv⟩ := MI.out.second false ho hg hloc
          have HI2 := hide hinv
          clear ho hg hloc c0 c1 c2 c3 c4 c5 f3 f4 hinv
          obtain ⟨c0, c1, c2, c3, c4, c5⟩ := bx3
          have f3 := fr3.2 3
          have f4 := fr3.2 4
          clear fr3
          go_wp2_with fail
          exact ⟨⟨j, f, _, acc ++ [(va, va, false)], _, cF, _, cT, rfl, HJ, HJ.out.2, by simp only [List.length_append, List.length_cons, List.length_nil]; omega, HX, hide (by have := HFr.out; have := HKL.out; omega), by simpa using HI2⟩, by simp [intOf] <;> omega⟩
        | true =>
          have CI := hide (fun (j : Nat) (hj : Pos s j k) w => is_is s (by omega) j k hj 45 45 rfl true h45 w)
          have CS := hide (fun (j : Nat) (hj : Pos s j k) w => skip_is s (by omega) j k hj _ hj.skip w)
          have hnl := Px.next_len h45
          have CN2 := hide (fun (j : Nat) (hj : Pos s j k) w => number_is s (by omega) _ (Px.next k) (hj.nextAt h45) w)
          have hsk : s.size - (Px.skip k).length ≤ 64 := by omega
          generalize s.size - (Px.skip k).length = m at CS CN2 hsk
          cases hN2 : Px.number (Px.next k) with
          | error q =>
            have HX : Hid (setR R = .error q) := by show _ = _; rw [HR.out, set_err2 HNY.out hN h45 hN2]; rfl
            have hq := number_err hN2
            have hq' : (q == 0) = false := by simpa using hq
            rw [hN2] at CN2
            clear hN hN2 h45 hnl
            go_wp2_with fail
            refine (CN.out _).mono ?_
            rintro e w2 ⟨j, hj, rfl, hw⟩
            have hw' := hw.symm
            clear hw
            subst hw'
            have HJ := hide hj
            have hjs := hj.2
            clear hj
            go_wp2_with fail
            refine (CI.out _ HJ.out _).mono ?_
            rintro e w2 ⟨rfl, hw⟩
            have hw' := hw.symm
            clear hw
            subst hw'
            go_wp2_with fail
            refine (CS.out _ HJ.out _).mono ?_
            rintro e w2 ⟨rfl, hw⟩
            have hw' := hw.symm
            clear hw
            subst hw'
            have CC := hide (CN2.out _ HJ.out wr)
            go_wp2_with fail
            refine CC.out.mono ?_
            rintro e w2 ⟨j2, rfl, hw⟩
            have hw' := hw.symm
            clear hw
            subst hw'
            go_wp2_with fail
            refine bodyPost_ret (res_node Tryz.results299 _ _ W.heap.size rfl rfl rfl (put6_box HI1.out.box0 _ _ _ _ _ _)) rfl (nodeGood_err HX.out (put6_below HI1.out.below (Nat.le_refl _) _ _ _ _ _ _) ⟨rfl, rfl, rfl, rfl, rfl, rfl⟩)
          | ok z =>
            obtain ⟨vb, k2⟩ := z
            obtain ⟨_, hkl2⟩ := Px.number_suf hN2
            rw [hN2] at CN2
            by_cases hlt : vb < va
            · have HX : Hid (setR R = .error 7) := by show _ = _; rw [HR.out, set_less HNY.out hN h45 hN2 hlt]; rfl
              clear hN hN2 h45 hnl hkl2
              go_wp2_with fail
              refine (CN.out _).mono ?_
              rintro e w2 ⟨j, hj, rfl, hw⟩
              have hw' := hw.symm
              clear hw
              subst hw'
              have HJ := hide hj
              have hjs := hj.2
              clear hj
              go_wp2_with fail
              refine (CI.out _ HJ.out _).mono ?_
              rintro e w2 ⟨rfl, hw⟩
              have hw' := hw.symm
              clear hw
              subst hw'
              go_wp2_with fail
              refine (CS.out _ HJ.out _).mono ?_
              rintro e w2 ⟨rfl, hw⟩
              have hw' := hw.symm
              clear hw
              subst hw'
              have CC := hide (CN2.out _ HJ.out wr)
              go_wp2_with fail
              refine CC.out.mono ?_
              rintro e w2 ⟨j2, hj2, rfl, hw⟩
              have hw' := hw.symm
              clear hw
              subst hw'
              clear hj2
              go_wp2_with fail
              refine bodyPost_ret (res_node Tryz.results299 _ _ W.heap.size rfl rfl rfl (put6_box HI1.out.box0 _ _ _ _ _ _)) rfl (nodeGood_err HX.out (put6_below HI1.out.below (Nat.le_refl _) _ _ _ _ _ _) ⟨rfl, rfl, rfl, rfl, rfl, rfl⟩)
            · have HX : Hid (R = Px.set f (acc ++ [(va, vb, true)]) k2) := by show _ = _; rw [HR.out, set_two HNY.out hN h45 hN2 hlt]
              have HL2 : Hid (k2.length < k.length) := by show _ < _; omega
              clear hN hN2 h45 hnl hkl2
              go_wp2_with fail
              refine (CN.out _).mono ?_
              rintro e w2 ⟨j, hj, rfl, hw⟩
              have hw' := hw.symm
              clear hw
              subst hw'
              have HJ1 := hide hj
              have hjs := hj.2
              clear hj
              go_wp2_with fail
              refine (CI.out _ HJ1.out _).mono ?_
              rintro e w2 ⟨rfl, hw⟩
              have hw' := hw.symm
              clear hw
              subst hw'
              go_wp2_with fail
              refine (CS.out _ HJ1.out _).mono ?_
              rintro e w2 ⟨rfl, hw⟩
              have hw' := hw.symm
              clear hw
              subst hw'
              have CC := hide (CN2.out _ HJ1.out wr)
              go_wp2_with fail
              refine CC.out.mono ?_
              rintro e w2 ⟨j2, hj2, rfl, hw⟩
              have hw' := hw.symm
              clear hw
              subst hw'
              have HJ := hide hj2
              have hlj : at_ < j2 := by
                have h1 := hj2.len
                have h2 := HPr.out.len
                have h3 := HKL.out
                have h4 := HL2.out
                omega
              have hjs2 := hj2.2
              have hFL : k2.length < f := by
                have h3 := HKL.out
                have h4 := HL2.out
                have h5 := HFr.out
                omega
              have HFL := hide hFL
              clear hj2 hFL
              go_wp2_with (at_builtin; go_must (refine append_lies3 rfl _ _ rfl (W.heap.size + 2) (.slice fo acc.length fc) acc.length (Is.cells (acc.map Prod.fst)) rfl (HI1.out.rowF.alloc _) va _ _ rfl (cell_new _ _ _) (by omega) (by have := HI1.out.big; rw [size_alloc]; omega) (wr.heap.size + 1) (size_alloc _ _) ?_))
              intro gF cF w1 ho hg hloc
              have MI := hide (HI1.out.first ho hg hloc)
              clear ho hg hloc c0 c1 c2 c3 c4 c5 d0 d1 d2 d3 d4 d5 f3 f4 g0 g1 g2 g3 g4 g5
              obtain ⟨c0, c1, c2, c3, c4, c5⟩ := MI.out.box1
              have f3 := MI.out.free1.2 3
              have f4 := MI.out.free1.2 4
              go_wp2_with (at_builtin; go_must (refine append_lies3 rfl _ _ rfl (W.heap.size + 2) (.slice to acc.length tc) acc.length (Is.cells (acc.map fun p => p.2.1)) rfl ((ownsRow_setCell_below MI.out.rowT (a := ⟨W.heap.size + 1, 3, none⟩) (Nat.lt_succ_self _) _).alloc _) vb _ _ rfl (by rw [← size_setCell w1 ⟨W.heap.size + 1, 3, none⟩ (.slice (some ⟨gF, 0, none⟩) (acc.length + 1) cF)]; exact cell_new _ _ _) (by omega) (by have := MI.out.big; rw [size_alloc, size_setCell]; omega) (w1.heap.size + 1) (by rw [size_alloc, size_setCell]) ?_))
              intro gT cT w3 ho hg hloc
              obtain ⟨fr3, bx3, hinv⟩ := MI.out.second true ho hg hloc
              have HI2 := hide hinv
              clear ho hg hloc c0 c1 c2 c3 c4 c5 f3 f4 hinv
              obtain ⟨c0, c1, c2, c3, c4, c5⟩ := bx3
              have f3 := fr3.2 3
              have f4 := fr3.2 4
              clear fr3
              go_wp2_with fail
              exact ⟨⟨j2, f, _, acc ++ [(va, vb, true)], _, cF, _, cT, rfl, HJ, HJ.out.2, by simp only [List.length_append, List.length_cons, List.length_nil]; omega, HX, HFL, by simpa using HI2⟩, by simp [intOf] <;> omega⟩
    · have hal : ((acc.length : Int) == 0) = false := by simpa using ha
      cases h93 : Px.isAt r 93 with
      | false =>
        have HNY : Hid (¬ (acc ≠ [] ∧ Px.isAt r 93 = true)) := fun h => by rw [h93] at h; exact absurd h.2 (by decide)
        have CB := hide (fun w => is_is s (by omega) at_ r HPr.out 93 93 rfl false h93 w)
        clear ha h93
        cases hN : Px.number r with
        | error q =>
          have HX : Hid (setR R = .error q) := by show _ = _; rw [HR.out, set_err1 HNY.out hN]; rfl
          have hq := number_err hN
          have hq' : (q == 0) = false := by simpa using hq
          rw [hN] at CN
          clear hN
          go_wp2_with fail
          refine (CB.out _).mono ?_
          rintro e w2 ⟨rfl, hw⟩
          have hw' := hw.symm
          clear hw
          subst hw'
          go_wp2_with fail
          refine (CN.out _).mono ?_
          rintro e w2 ⟨j, rfl, hw⟩
          have hw' := hw.symm
          clear hw
          subst hw'
          go_wp2_with fail
          refine bodyPost_ret (res_node Tryz.results299 _ _ W.heap.size rfl rfl rfl (put6_box HI1.out.box0 _ _ _ _ _ _)) rfl (nodeGood_err HX.out (put6_below HI1.out.below (Nat.le_refl _) _ _ _ _ _ _) ⟨rfl, rfl, rfl, rfl, rfl, rfl⟩)
        | ok z =>
          obtain ⟨va, k⟩ := z
          obtain ⟨hks, hkl⟩ := Px.number_suf hN
          rw [hN] at CN
          have HKL := hide hkl
          clear hks hkl
          cases h45 : Px.isAt k 45 with
          | false =>
            have HX : Hid (R = Px.set f (acc ++ [(va, va, false)]) k) := by show _ = _; rw [HR.out, set_one HNY.out hN h45]
            have CI := hide (fun (j : Nat) (hj : Pos s j k) w => is_is s (by omega) j k hj 45 45 rfl false h45 w)
            clear h45 hN
            go_wp2_with fail
            refine (CB.out _).mono ?_
            rintro e w2 ⟨rfl, hw⟩
            have hw' := hw.symm
            clear hw
            subst hw'
            go_wp2_with fail
            refine (CN.out _).mono ?_
            rintro e w2 ⟨j, hj, rfl, hw⟩
            have hw' := hw.symm
            clear hw
            subst hw'
            have HJ := hide hj
            have hlj : at_ < j := by
              have h1 := hj.len
              have h2 := HPr.out.len
              have h3 := HKL.out
              omega
            have hjs := hj.2
            clear hj
            go_wp2_with fail
            refine (CI.out _ HJ.out _).mono ?_
            rintro e w2 ⟨rfl, hw⟩
            have hw' := hw.symm
            clear hw
            subst hw'
            go_wp2_with (at_builtin; go_must (refine append_lies3 rfl _ _ rfl (W.heap.size + 2) (.slice fo acc.length fc) acc.length (Is.cells (acc.map Prod.fst)) rfl (HI1.out.rowF.alloc _) va _ _ rfl (cell_new _ _ _) (by omega) (by have := HI1.out.big; rw [size_alloc]; omega) (wr.heap.size + 1) (size_alloc _ _) ?_))
            intro gF cF w1 ho hg hloc
            have MI := hide (HI1.out.first ho hg hloc)
            clear ho hg hloc c0 c1 c2 c3 c4 c5 d0 d1 d2 d3 d4 d5 f3 f4 g0 g1 g2 g3 g4 g5
            obtain ⟨c0, c1, c2, c3, c4, c5⟩ := MI.out.box1
            have f3 := MI.out.free1.2 3
            have f4 := MI.out.free1.2 4
            go_wp2_with (at_builtin; go_must (refine append_lies3 rfl _ _ rfl (W.heap.size + 2) (.slice to acc.length tc) acc.length (Is.cells (acc.map fun p => p.2.1)) rfl ((ownsRow_setCell_below MI.out.rowT (a := ⟨W.heap.size + 1, 3, none⟩) (Nat.lt_succ_self _) _).alloc _) va _ _ rfl (by rw [← size_setCell w1 ⟨W.heap.size + 1, 3, none⟩ (.slice (some ⟨gF, 0, none⟩) (acc.length + 1) cF)]; exact cell_new _ _ _) (by omega) (by have := MI.out.big; rw [size_alloc, size_setCell]; omega) (w1.heap.size + 1) (by rw [size_alloc, size_setCell]) ?_))
            intro gT cT w3 ho hg hloc
            obtain ⟨fr3, bx3, hinv⟩ := MI.out.second false ho hg hloc
            have HI2 := hide hinv
            clear ho hg hloc c0 c1 c2 c3 c4 c5 f3 f4 hinv
            obtain ⟨c0, c1, c2, c3, c4, c5⟩ := bx3
            have f3 := fr3.2 3
            have f4 := fr3.2 4
            clear fr3
            go_wp2_with fail
            exact ⟨⟨j, f, _, acc ++ [(va, va, false)], _, cF, _, cT, rfl, HJ, HJ.out.2, by simp only [List.length_append, List.length_cons, List.length_nil]; omega, HX, hide (by have := HFr.out; have := HKL.out; omega), by simpa using HI2⟩, by simp [intOf] <;> omega⟩
          | true =>
            have CI := hide (fun (j : Nat) (hj : Pos s j k) w => is_is s (by omega) j k hj 45 45 rfl true h45 w)
            have CS := hide (fun (j : Nat) (hj : Pos s j k) w => skip_is s (by omega) j k hj _ hj.skip w)
            have hnl := Px.next_len h45
            have CN2 := hide (fun (j : Nat) (hj : Pos s j k) w => number_is s (by omega) _ (Px.next k) (hj.nextAt h45) w)
            have hsk : s.size - (Px.skip k).length ≤ 64 := by omega
            generalize s.size - (Px.skip k).length = m at CS CN2 hsk
            cases hN2 : Px.number (Px.next k) with
            | error q =>
              have HX : Hid (setR R = .error q) := by show _ = _; rw [HR.out, set_err2 HNY.out hN h45 hN2]; rfl
              have hq := number_err hN2
              have hq' : (q == 0) = false := by simpa using hq
              rw [hN2] at CN2
              clear hN hN2 h45 hnl
              go_wp2_with fail
              refine (CB.out _).mono ?_
              rintro e w2 ⟨rfl, hw⟩
              have hw' := hw.symm
              clear hw
              subst hw'
              go_wp2_with fail
              refine (CN.out _).mono ?_
              rintro e w2 ⟨j, hj, rfl, hw⟩
              have hw' := hw.symm
              clear hw
              subst hw'
              have HJ := hide hj
              have hjs := hj.2
              clear hj
              go_wp2_with fail
              refine (CI.out _ HJ.out _).mono ?_
              rintro e w2 ⟨rfl, hw⟩
              have hw' := hw.symm
              clear hw
              subst hw'
              go_wp2_with fail
              refine (CS.out _ HJ.out _).mono ?_
              rintro e w2 ⟨rfl, hw⟩
              have hw' := hw.symm
              clear hw
              subst hw'
              have CC := hide (CN2.out _ HJ.out wr)
              go_wp2_with fail
              refine CC.out.mono ?_
              rintro e w2 ⟨j2, rfl, hw⟩
              have hw' := hw.symm
              clear hw
              subst hw'
              go_wp2_with fail
              refine bodyPost_ret (res_node Tryz.results299 _ _ W.heap.size rfl rfl rfl (put6_box HI1.out.box0 _ _ _ _ _ _)) rfl (nodeGood_err HX.out (put6_below HI1.out.below (Nat.le_refl _) _ _ _ _ _ _) ⟨rfl, rfl, rfl, rfl, rfl, rfl⟩)
            | ok z =>
              obtain ⟨vb, k2⟩ := z
              obtain ⟨_, hkl2⟩ := Px.number_suf hN2
              rw [hN2] at CN2
              by_cases hlt : vb < va
              · have HX : Hid (setR R = .error 7) := by show _ = _; rw [HR.out, set_less HNY.out hN h45 hN2 hlt]; rfl
                clear hN hN2 h45 hnl hkl2
                go_wp2_with fail
                refine (CB.out _).mono ?_
                rintro e w2 ⟨rfl, hw⟩
                have hw' := hw.symm
                clear hw
                subst hw'
                go_wp2_with fail
                refine (CN.out _).mono ?_
                rintro e w2 ⟨j, hj, rfl, hw⟩
                have hw' := hw.symm
                clear hw
                subst hw'
                have HJ := hide hj
                have hjs := hj.2
                clear hj
                go_wp2_with fail
                refine (CI.out _ HJ.out _).mono ?_
                rintro e w2 ⟨rfl, hw⟩
                have hw' := hw.symm
                clear hw
                subst hw'
                go_wp2_with fail
                refine (CS.out _ HJ.out _).mono ?_
                rintro e w2 ⟨rfl, hw⟩
                have hw' := hw.symm
                clear hw
                subst hw'
                have CC := hide (CN2.out _ HJ.out wr)
                go_wp2_with fail
                refine CC.out.mono ?_
                rintro e w2 ⟨j2, hj2, rfl, hw⟩
                have hw' := hw.symm
                clear hw
                subst hw'
                clear hj2
                go_wp2_with fail
                refine bodyPost_ret (res_node Tryz.results299 _ _ W.heap.size rfl rfl rfl (put6_box HI1.out.box0 _ _ _ _ _ _)) rfl (nodeGood_err HX.out (put6_below HI1.out.below (Nat.le_refl _) _ _ _ _ _ _) ⟨rfl, rfl, rfl, rfl, rfl, rfl⟩)
              · have HX : Hid (R = Px.set f (acc ++ [(va, vb, true)]) k2) := by show _ = _; rw [HR.out, set_two HNY.out hN h45 hN2 hlt]
                have HL2 : Hid (k2.length < k.length) := by show _ < _; omega
                clear hN hN2 h45 hnl hkl2
                go_wp2_with fail
                refine (CB.out _).mono ?_
                rintro e w2 ⟨rfl, hw⟩
                have hw' := hw.symm
                clear hw
                subst hw'
                go_wp2_with fail
                refine (CN.out _).mono ?_
                rintro e w2 ⟨j, hj, rfl, hw⟩
                have hw' := hw.symm
                clear hw
                subst hw'
                have HJ1 := hide hj
                have hjs := hj.2
                clear hj
                go_wp2_with fail
                refine (CI.out _ HJ1.out _).mono ?_
                rintro e w2 ⟨rfl, hw⟩
                have hw' := hw.symm
                clear hw
                subst hw'
                go_wp2_with fail
                refine (CS.out _ HJ1.out _).mono ?_
                rintro e w2 ⟨rfl, hw⟩
                have hw' := hw.symm
                clear hw
                subst hw'
                have CC := hide (CN2.out _ HJ1.out wr)
                go_wp2_with fail
                refine CC.out.mono ?_
                rintro e w2 ⟨j2, hj2, rfl, hw⟩
                have hw' := hw.symm
                clear hw
                subst hw'
                have HJ := hide hj2
                have hlj : at_ < j2 := by
                  have h1 := hj2.len
                  have h2 := HPr.out.len
                  have h3 := HKL.out
                  have h4 := HL2.out
                  omega
                have hjs2 := hj2.2
                have hFL : k2.length < f := by
                  have h3 := HKL.out
                  have h4 := HL2.out
                  have h5 := HFr.out
                  omega
                have HFL := hide hFL
                clear hj2 hFL
                go_wp2_with (at_builtin; go_must (refine append_lies3 rfl _ _ rfl (W.heap.size + 2) (.slice fo acc.length fc) acc.length (Is.cells (acc.map Prod.fst)) rfl (HI1.out.rowF.alloc _) va _ _ rfl (cell_new _ _ _) (by omega) (by have := HI1.out.big; rw [size_alloc]; omega) (wr.heap.size + 1) (size_alloc _ _) ?_))
                intro gF cF w1 ho hg hloc
                have MI := hide (HI1.out.first ho hg hloc)
                clear ho hg hloc c0 c1 c2 c3 c4 c5 d0 d1 d2 d3 d4 d5 f3 f4 g0 g1 g2 g3 g4 g5
                obtain ⟨c0, c1, c2, c3, c4, c5⟩ := MI.out.box1
                have f3 := MI.out.free1.2 3
                have f4 := MI.out.free1.2 4
                go_wp2_with (at_builtin; go_must (refine append_lies3 rfl _ _ rfl (W.heap.size + 2) (.slice to acc.length tc) acc.length (Is.cells (acc.map fun p => p.2.1)) rfl ((ownsRow_setCell_below MI.out.rowT (a := ⟨W.heap.size + 1, 3, none⟩) (Nat.lt_succ_self _) _).alloc _) vb _ _ rfl (by rw [← size_setCell w1 ⟨W.heap.size + 1, 3, none⟩ (.slice (some ⟨gF, 0, none⟩) (acc.length + 1) cF)]; exact cell_new _ _ _) (by omega) (by have := MI.out.big; rw [size_alloc, size_setCell]; omega) (w1.heap.size + 1) (by rw [size_alloc, size_setCell]) ?_))
                intro gT cT w3 ho hg hloc
                obtain ⟨fr3, bx3, hinv⟩ := MI.out.second true ho hg hloc
                have HI2 := hide hinv
                clear ho hg hloc c0 c1 c2 c3 c4 c5 f3 f4 hinv
                obtain ⟨c0, c1, c2, c3, c4, c5⟩ := bx3
                have f3 := fr3.2 3
                have f4 := fr3.2 4
                clear fr3
                go_wp2_with fail
                exact ⟨⟨j2, f, _, acc ++ [(va, vb, true)], _, cF, _, cT, rfl, HJ, HJ.out.2, by simp only [List.length_append, List.length_cons, List.length_nil]; omega, HX, HFL, by simpa using HI2⟩, by simp [intOf] <;> omega⟩
      | true =>
        have HX : Hid (R = .ok (acc, Px.next r)) := by show _ = _; rw [HR.out, Px.set, if_pos ⟨ha, h93⟩]
        have HX2 : Hid (setR R = .ok (.num false true acc, Px.next r)) := by show _ = _; rw [HX.out]; rfl
        have CB := hide (fun w => is_is s (by omega) at_ r HPr.out 93 93 rfl true h93 w)
        have CS := hide (fun w => skip_is s (by omega) at_ r HPr.out _ HPr.out.skip w)
        have HJ := hide (HPr.out.nextAt h93)
        have hsk : s.size - (Px.skip r).length ≤ 64 := by omega
        generalize s.size - (Px.skip r).length = m at CS HJ hsk
        clear ha h93 CN
        go_wp2_with fail
        refine (CB.out _).mono ?_
        rintro e w2 ⟨rfl, hw⟩
        have hw' := hw.symm
        clear hw
        subst hw'
        go_wp2_with fail
        go_region_with (first | (go_at_call 207; refine (CS.out _).mono ?_; rintro e w' ⟨rfl, rfl⟩))
        all_goals
          go_wp2_with fail
          simp only [List.getElem_toArray, List.getElem_cons_zero, List.getElem_cons_succ, Act.put, List.setIfInBounds_toArray, List.set_cons_zero, List.set_cons_succ]
          have HB : Hid (Box (put6 wr W.heap.size (.int .i64 0) (.bool false) (.bool true) (.slice fo acc.length fc) (.slice to acc.length tc) (.slice none 0 0)).drew W.heap.size (.int .i64 0) (.bool false) (.bool true) (.slice fo acc.length fc) (.slice to acc.length tc) (.slice none 0 0)) := hide (box_drew (put6_box HI1.out.box0 _ _ _ _ _ _))
          have HA : Hid (Tr.Own W.heap.size (put6 wr W.heap.size (.int .i64 0) (.bool false) (.bool true) (.slice fo acc.length fc) (.slice to acc.length tc) (.slice none 0 0)).drew (Nd.tr (.num false true acc)) [.int .i64 0, .bool false, .bool true, .slice fo acc.length fc, .slice to acc.length tc, .slice none 0 0]) := fun w'' h => setInv_at (w' := w'') HI1.out (by omega) (fun k hk hk2 => (h k (by omega) (by rw [drew_heap, put6_size]; exact hk2)).trans (by rw [drew_heap]; exact put6_other _ _ _ _ _ _ _ _ k (by omega)))
          have HBL := hide (Below.drew (put6_below HI1.out.below (Nat.le_refl _) (.int .i64 0) (.bool false) (.bool true) (.slice fo acc.length fc) (.slice to acc.length tc) (.slice none 0 0)))
          have HW := wrap_succ m (by omega)
          rw [HW]
          change bodyPost Tryz.prog Tryz.f299 (NodeGood s W (setR R)) Exit.ret _ (put6 wr W.heap.size (.int .i64 0) (.bool false) (.bool true) (.slice fo acc.length fc) (.slice to acc.length tc) (.slice none 0 0)).drew
          refine bodyPost_ret (v := .tuple #[.agg #[.int .i64 0, .bool false, .bool true, .slice fo acc.length fc, .slice to acc.length tc, .slice none 0 0], .int .i64 ((m + 1 : Nat) : Int), .int .i64 0]) ?_ rfl (nodeGood_ok HX2.out HBL.out HJ.out HA.out rfl)
          exact res_node Tryz.results299 _ _ W.heap.size rfl rfl rfl HB.out
end Go.Proofs.YtpmmhmgojjlniaaGreatDoor.Ar
namespace Go.Proofs.YtpmmhmgojjlniaaGreatDoor.Ar
open Go.RowKit Go.Sort
/-- What the document's Parse hands back. -/
def ExprGood (W : World) (R : Except Int Xp) (e : Ending) (w' : World) : Prop :=
  Below W.heap.size W w' ∧
  match R with
  | .ok (f, l, rows) => ∃ x0 x1 x2 x3 x4 x5 : Value, Tr.At w' (.mk 2 false false [] [] (Nd.trRows rows)) [x0, x1, x2, x3, x4, x5] ∧ e = .returned (.tuple #[.agg #[.bool f, .bool l, x0, x1, x2, x3, x4, x5], .int .i64 0])
  | .error q => ∃ (f l : Bool) (x0 x1 x2 x3 x4 x5 : Value), One6 x0 x1 x2 x3 x4 x5 ∧ e = .returned (.tuple #[.agg #[.bool f, .bool l, x0, x1, x2, x3, x4, x5], .int .i64 q])
theorem Tr.one5 {w : World} {t : Tr} {x0 x1 x2 x3 x4 x5 : Value} (h : Tr.At w t [x0, x1, x2, x3, x4, x5]) : One6 x0 x1 x2 x3 x4 x5 := by
  obtain ⟨k, d, s, f, t, ks⟩ := t
  obtain ⟨fo, fc, to, tc, ko, kc, b, off, css, hc, _⟩ := Tr.inv h
  simp only [List.cons.injEq, and_true] at hc
  obtain ⟨rfl, rfl, rfl, rfl, rfl, rfl⟩ := hc
  exact ⟨rfl, rfl, rfl, rfl, rfl, rfl⟩
theorem box8 (W : World) (f l x0 x1 x2 x3 x4 x5 : Value) : (W.alloc (.cells #[f, l, x0, x1, x2, x3, x4, x5] 202)).rangeAt W.heap.size 0 [f, l, x0, x1, x2, x3, x4, x5] := by
  intro j v hj
  rw [Nat.zero_add]
  simpa using hj
end Go.Proofs.YtpmmhmgojjlniaaGreatDoor.Ar
namespace Go.Proofs.YtpmmhmgojjlniaaGreatDoor.Ar
open Go.RowKit Go.Sort
/-- What is asked of a choice that stands D deep, d more being allowed. -/
def ChoiceOk (s : ByteArray) (d D : Nat) : Prop := ∀ (n : Nat) (r : Bs), Pos s n r → ∀ W, Calls Tryz.prog 208 #[.string s, .int .i64 n, .int .i64 D] W (NodeGood s W (chR (Px.choice d r)))

abbrev zNode : Obj := .cells #[.int .i64 0, .bool false, .bool false, .slice none 0 0, .slice none 0 0, .slice none 0 0] 200
theorem zbox (W : World) : Box (W.alloc zNode) W.heap.size (.int .i64 0) (.bool false) (.bool false) (.slice none 0 0) (.slice none 0 0) (.slice none 0 0) := box_new W _ _ _ _ _ _ 200
theorem zfree (W : World) : Free (W.alloc zNode) W.heap.size := ⟨by simp, fun o => by simp [go_sem]⟩
end Go.Proofs.YtpmmhmgojjlniaaGreatDoor.Ar
