import Derived.Test.YtkhmhmopcofejaaRA
import Derived.Deep.CutBlock
/- The contract of the document's attributes, as bytes. -/
namespace Go.Proofs.Ytkhmhmopcofejaa
open Go.RowKit Go.Sort

theorem row_take {k i : Nat} {l : List Int} (h : i < l.length) : rowN k (l.take (i + 1)) = rowN k (l.take i) ++ num l[i].toNat k := by
  unfold rowN
  rw [List.take_succ_eq_append_getElem h, List.flatMap_append]
  simp only [List.flatMap_cons, List.flatMap_nil, List.append_nil]
theorem flat_app (l m : List Cm.Co.C) : flat (l ++ m) = flat l ++ flat m := by
  induction l with
  | nil => rfl
  | cons c l ih => simp [flat, ih]
theorem row_app (k : Nat) (l m : List Int) : rowN k (l ++ m) = rowN k l ++ rowN k m := by simp [rowN]
theorem flat_take {i : Nat} {l : List Cm.Co.C} (h : i < l.length) : rowN 2 (flat (l.take (i + 1))) = rowN 2 (flat (l.take i)) ++ num l[i].1.toNat 2 ++ num l[i].2.toNat 2 := by
  rw [List.take_succ_eq_append_getElem h, flat_app, row_app, List.append_assoc]
  congr 1
theorem flat_has {l : List Cm.Co.C} {c : Cm.Co.C} {x : Int} (h : c ∈ l) (hx : x = c.1 ∨ x = c.2) : x ∈ flat l := by
  induction l with
  | nil => cases h
  | cons d l ih =>
    simp only [flat, List.mem_cons] at *
    rcases h with rfl | h
    · rcases hx with h | h
      · exact .inl h
      · exact .inr (.inl h)
    · exact .inr (.inr (ih h))
def optB (c : Prop) [Decidable c] (x : Tl) : List UInt8 := if c then one x else []
theorem optB_no {c : Prop} [Decidable c] {x : Tl} (h : ¬ c) : optB c x = [] := if_neg h
theorem optB_yes {c : Prop} [Decidable c] {x : Tl} (h : c) : optB c x = one x := if_pos h
theorem tlvs_optB (c : Prop) [Decidable c] (x : Tl) : tlvs (if c then [x] else []) = optB c x := by
  unfold optB
  split
  · simp [tlvs]
  · rfl
theorem At.bytes_eq (a : At) : a.bytes = one (64, 1, num a.og.toNat 1) ++ one (64, 2, pathB a.path) ++ optB (a.md ≠ 0) (128, 4, num a.md.toNat 4) ++ one (64, 5, num a.pf.toNat 4) ++ optB (a.comms ≠ []) (192, 8, rowN 2 (flat a.comms)) ++ optB (a.fr ≠ 0) (128, 9, num a.fr.toNat 4) ++ optB (a.cl ≠ []) (128, 10, rowN 4 a.cl) := by
  unfold At.bytes At.tl
  simp only [tlvs_cons, tlvs_app, tlvs_optB, List.append_assoc, List.append_nil]
theorem opt_len (c : Prop) [Decidable c] (x : Tl) : (optB c x).length ≤ 3 + x.2.2.length := by
  unfold optB
  split
  · rw [one_length]; exact Nat.le_refl _
  · simp
theorem bytes_parts {a : At} (h : At.fits a) : (one (64, 1, num a.og.toNat 1)).length ≤ 300 ∧ (one (64, 2, pathB a.path)).length ≤ 300 ∧ (one (64, 1, num a.og.toNat 1) ++ one (64, 2, pathB a.path)).length ≤ 1000 ∧ (one (64, 1, num a.og.toNat 1) ++ one (64, 2, pathB a.path) ++ optB (a.md ≠ 0) (128, 4, num a.md.toNat 4)).length ≤ 1000 ∧ (one (64, 1, num a.og.toNat 1) ++ one (64, 2, pathB a.path) ++ optB (a.md ≠ 0) (128, 4, num a.md.toNat 4) ++ one (64, 5, num a.pf.toNat 4)).length ≤ 1000 ∧ (one (64, 1, num a.og.toNat 1) ++ one (64, 2, pathB a.path) ++ optB (a.md ≠ 0) (128, 4, num a.md.toNat 4) ++ one (64, 5, num a.pf.toNat 4) ++ optB (a.comms ≠ []) (192, 8, rowN 2 (flat a.comms))).length ≤ 1000 ∧ (one (64, 1, num a.og.toNat 1) ++ one (64, 2, pathB a.path) ++ optB (a.md ≠ 0) (128, 4, num a.md.toNat 4) ++ one (64, 5, num a.pf.toNat 4) ++ optB (a.comms ≠ []) (192, 8, rowN 2 (flat a.comms)) ++ optB (a.fr ≠ 0) (128, 9, num a.fr.toNat 4)).length ≤ 1000 := by
  have hp := pathB_length a.path
  have h1 := h.lp
  have h2 := h.lc
  have o1 := opt_len (a.md ≠ 0) (128, 4, num a.md.toNat 4)
  have o2 := opt_len (a.comms ≠ []) (192, 8, rowN 2 (flat a.comms))
  have o3 := opt_len (a.fr ≠ 0) (128, 9, num a.fr.toNat 4)
  simp only [num_length, rows_length, flat_length] at o1 o2 o3
  simp only [List.length_append, one_length, num_length]
  omega
set_option maxHeartbeats 8000000 in
set_option maxRecDepth 100000 in
theorem refAttrs_is (a : At) (po co ko : Option Addr) (cp cc ck : Nat) (t : ByteArray) (ht : t = ⟨a.bytes.toArray⟩) (hf : At.fits a) (w : World) (hA : At.lies w a po co ko) :
    Calls Try.prog 36 #[.agg #[.int .i64 a.pf, .int .i64 a.md, .int .i64 a.og, .slice po a.path.length cp, .slice co a.comms.length cc, .int .i64 a.fr, .slice ko a.cl.length ck]] w fun e w' => e = .returned (.string t) ∧ Below w.heap.size w w' := by
  have HB := hide (balloc (brefl w) (.cells #[.int .i64 a.pf, .int .i64 a.md, .int .i64 a.og, .slice po a.path.length cp, .slice co a.comms.length cc, .int .i64 a.fr, .slice ko a.cl.length ck] 26))
  have N0 := hide (heap_new w #[.int .i64 a.pf, .int .i64 a.md, .int .i64 a.og, .slice po a.path.length cp, .slice co a.comms.length cc, .int .i64 a.fr, .slice ko a.cl.length ck] 26)
  have HL := hide (At.lies_below hA HB.out)
  have HF := hide hf
  have HT := hide ht
  have hlp := hf.lp
  have hlc := hf.lc
  have hlk := hf.lk
  clear hA hf ht
  go_enter Try.func36, Try.ntmps36
  go_wp2_with fail
  generalize w.alloc (.cells #[.int .i64 a.pf, .int .i64 a.md, .int .i64 a.og, .slice po a.path.length cp, .slice co a.comms.length cc, .int .i64 a.fr, .slice ko a.cl.length ck] 26) = W at *
  obtain ⟨p, hp⟩ : ∃ p, w.heap.size = p := ⟨_, rfl⟩
  rw [hp] at N0
  rw [hp]
  clear hp
  have PL := hide (heap_lt N0.out)
  have BW := hide (brefl W)
  go_loopw [3, 6] (fun v3 v6 wr => ∃ (k : Nat) (s : ByteArray), k ≤ a.path.length ∧ v3 = .string s ∧ v6 = .int .i64 k ∧ Hid (s = ⟨(rowN 2 (a.path.take k)).toArray⟩) ∧ Below W.heap.size W wr) (fun _ v6 _ => a.path.length - (intOf v6).toNat)
  case atStart => exact ⟨0, _, Nat.zero_le _, rfl, rfl, (by show _ = _; rfl), BW.out⟩
  case round =>
    obtain ⟨k, s, hk, rfl, rfl, HS, hb⟩ := hrel
    have HBR := hide hb
    clear hb
    obtain ⟨c0, c1, c2, c3, c4, c5, c6⟩ := seven_cells ((HBR.out.block p PL.out).trans N0.out)
    by_cases hkl : k < a.path.length
    · have hkl' : (k : Int) < (a.path.length : Int) := by omega
      obtain ⟨b, off, rfl, hrd⟩ := Is.slot_at (Is.slot_below HL.out.1 HBR.out) hkl
      have e0 := hrd k hkl
      have hr := HF.out.path a.path[k] (List.getElem_mem hkl)
      obtain ⟨t1, ht1⟩ : ∃ t1 : ByteArray, t1 = ⟨(num a.path[k].toNat 2).toArray⟩ := ⟨_, rfl⟩
      obtain ⟨s1, hs1⟩ : ∃ s1 : ByteArray, s1 = ⟨(rowN 2 (a.path.take (k + 1))).toArray⟩ := ⟨_, rfl⟩
      have CP : Hid (∀ W : World, Calls Try.prog 38 #[.int .i64 a.path[k], .int .i64 2] W fun e w' => e = .returned (.string t1) ∧ Below W.heap.size W w') := fun W => refNum_is a.path[k] 2 t1 ht1 hr.1 (by have := hr.2; omega) (by decide) W
      have hA1 : Adds s t1 s1 := by
        rw [HS.out, ht1, hs1, row_take hkl]
        exact adds_list _ _ (by rw [rows_length, List.length_take]; omega) (by rw [num_length]; decide)
      have HS1 := hide hs1
      clear ht1 hs1 hrd hr
      generalize a.path[k] = y at *
      unfold Adds at hA1
      go_wp2_with fail
      refine (CP.out _).mono ?_
      rintro e w1 ⟨rfl, hb1⟩
      have B1 := hide (bthen HBR.out hb1)
      clear hb1 CP c0 c1 c2 c3 c4 c5 c6
      obtain ⟨c0, c1, c2, c3, c4, c5, c6⟩ := seven_cells ((B1.out.block p PL.out).trans N0.out)
      go_wp2_with fail
      exact ⟨⟨k + 1, s1, hkl, rfl, by go_num, HS1, B1.out⟩, by simp [intOf] <;> omega⟩
    · obtain rfl : k = a.path.length := by omega
      rw [List.take_length] at HS
      obtain ⟨P1, hP1⟩ : ∃ x : ByteArray, x = ⟨(pathB a.path).toArray⟩ := ⟨_, rfl⟩
      have HP1 := hide hP1
      clear hP1
      obtain ⟨P0, hP0⟩ : ∃ x, x = s := ⟨_, rfl⟩
      subst hP0
      go_upto_if 26 with fail
      go_cut [3] from 10 (fun v3 wx => v3 = .string P1 ∧ Hid (Below W.heap.size W wx))
      case first =>
        by_cases hpe : a.path = []
        · have hie : P0.toList.isEmpty = true := by rw [HS.out, hpe, ByteArray.toList_eq]; rfl
          have HE : Hid (P0 = P1) := by show _ = _; rw [HS.out, HP1.out, hpe]; rfl
          clear hpe
          rw [hie]
          clear hie
          go_wp2_with fail
          go_meet
          exact ⟨by rw [HE.out], HBR⟩
        · have hie : P0.toList.isEmpty = false := by
            rw [HS.out, ByteArray.toList_eq]
            cases hq : a.path with
            | nil => exact absurd hq hpe
            | cons y r => simp [rowN, num]
          have hone := one_byte wr (a.path.length : Int) (by omega) (by omega)
          have n1 : (a.path.length : Int) % 256 = (a.path.length : Int) := by omega
          have w1 : IntKind.u8.wrap (a.path.length : Int) = (a.path.length : Int) := by rw [IntKind.wrap_u8]; omega
          rw [Int.toNat_natCast] at hone
          obtain ⟨x1, hx1⟩ : ∃ x : ByteArray, x = ⟨[UInt8.ofNat a.path.length].toArray⟩ := ⟨_, rfl⟩
          obtain ⟨x2, hx2⟩ : ∃ x : ByteArray, x = ⟨[2, UInt8.ofNat a.path.length].toArray⟩ := ⟨_, rfl⟩
          have A1 : Adds ⟨#[2]⟩ x1 x2 := by rw [hx1, hx2]; exact adds_list [2] [UInt8.ofNat a.path.length] (by decide) (by simp)
          have A2 : Adds x2 P0 P1 := by
            rw [hx2, HS.out, HP1.out]
            have h := adds_list [2, UInt8.ofNat a.path.length] (rowN 2 a.path) (by simp) (by rw [rows_length]; omega)
            rw [pathB, if_neg hpe]
            exact h
          rw [← hx1] at hone
          have BB := hide (bthen HBR.out (balloc (brefl wr) (.cells #[.int .u8 (a.path.length : Int)] 5)))
          unfold Adds at A1 A2
          clear hx1 hx2 hpe
          rw [hie]
          clear hie
          go_wp2_with fail
          go_meet
          exact ⟨rfl, BB⟩
      case rest =>
      obtain ⟨rfl, BW'⟩ := hcut
      obtain ⟨w00, hw00⟩ : ∃ x, x = wc := ⟨_, rfl⟩
      subst hw00
      obtain ⟨c0, c1, c2, c3, c4, c5, c6⟩ := seven_cells ((BW'.out.block p PL.out).trans N0.out)
      clear HS HBR hkl BW hk
      have BW := BW'
      clear BW'
      clear c0 c1 c2 c3 c4 c5 c6
      go_wp2_with fail
      go_loopw [4, 7] (fun v3 v6 wr => ∃ (k : Nat) (s : ByteArray), k ≤ a.comms.length ∧ v3 = .string s ∧ v6 = .int .i64 k ∧ Hid (s = ⟨(rowN 2 (flat (a.comms.take k))).toArray⟩) ∧ Below W.heap.size W wr) (fun _ v6 _ => a.comms.length - (intOf v6).toNat)
      case atStart => exact ⟨0, _, Nat.zero_le _, rfl, rfl, (by show _ = _; rfl), BW.out⟩
      case round =>
        obtain ⟨k, s, hk, rfl, rfl, HS, hb⟩ := hrel
        have HBR := hide hb
        clear hb
        obtain ⟨c0, c1, c2, c3, c4, c5, c6⟩ := seven_cells ((HBR.out.block p PL.out).trans N0.out)
        by_cases hkl : k < a.comms.length
        · have hkl' : (k : Int) < (a.comms.length : Int) := by omega
          obtain ⟨b, off, rfl, hrd⟩ := Cm.Co.slot_at (Cm.Co.slot_below HL.out.2.1 HBR.out) hkl
          obtain ⟨e0, e1⟩ := Cm.Co.reads_at hrd k hkl
          have hm1 : a.comms[k].1 ∈ flat a.comms := flat_has (List.getElem_mem hkl) (.inl rfl)
          have hm2 : a.comms[k].2 ∈ flat a.comms := flat_has (List.getElem_mem hkl) (.inr rfl)
          have hr1 := HF.out.comms _ hm1
          have hr2 := HF.out.comms _ hm2
          have HFT := hide (flat_take hkl)
          generalize a.comms[k] = y at *
          obtain ⟨y1, y2⟩ := y
          simp only at *
          obtain ⟨t1, ht1⟩ : ∃ t1 : ByteArray, t1 = ⟨(num y1.toNat 2).toArray⟩ := ⟨_, rfl⟩
          obtain ⟨t2, ht2⟩ : ∃ t1 : ByteArray, t1 = ⟨(num y2.toNat 2).toArray⟩ := ⟨_, rfl⟩
          obtain ⟨s0, hs0⟩ : ∃ s1 : ByteArray, s1 = ⟨(rowN 2 (flat (a.comms.take k)) ++ num y1.toNat 2).toArray⟩ := ⟨_, rfl⟩
          obtain ⟨s1, hs1⟩ : ∃ s1 : ByteArray, s1 = ⟨(rowN 2 (flat (a.comms.take (k + 1)))).toArray⟩ := ⟨_, rfl⟩
          have C1 : Hid (∀ W : World, Calls Try.prog 38 #[.int .i64 y1, .int .i64 2] W fun e w' => e = .returned (.string t1) ∧ Below W.heap.size W w') := fun W => refNum_is y1 2 t1 ht1 hr1.1 (by have := hr1.2; omega) (by decide) W
          have C2 : Hid (∀ W : World, Calls Try.prog 38 #[.int .i64 y2, .int .i64 2] W fun e w' => e = .returned (.string t2) ∧ Below W.heap.size W w') := fun W => refNum_is y2 2 t2 ht2 hr2.1 (by have := hr2.2; omega) (by decide) W
          have hlt : (rowN 2 (flat (a.comms.take k))).length ≤ 1000 := by rw [rows_length, flat_length, List.length_take]; omega
          have hA1 : Adds s t1 s0 := by
            rw [HS.out, ht1, hs0]
            exact adds_list _ _ (by omega) (by rw [num_length]; decide)
          have hA2 : Adds s0 t2 s1 := by
            rw [hs0, ht2, hs1, HFT.out]
            exact adds_list _ _ (by rw [List.length_append, num_length]; omega) (by rw [num_length]; decide)
          have HS1 := hide hs1
          have r4 := fun dd os => cell_regrown c4 dd os
          have q0 := fun dd os => cell_regrown e0 dd os
          have q1 := fun dd os => cell_regrown e1 dd os
          clear ht1 ht2 hs0 hs1 hrd hr1 hr2 hm1 hm2 HFT hlt
          unfold Adds at hA1 hA2
          go_upto_region 11 with fail
          clear c0 c1 c2 c3 c4 c5 c6 e0 e1
          refine wp_region_quiet_below (by kernel_rfl) (by kernel_rfl) ?_
          iterate 8 (go_big_quiet_step ((go_at_call 38; exact Calls.regrown_of (C1.out _))))
          iterate 10 (go_big_quiet_step ((go_at_call 38; exact Calls.regrown_of (C2.out _))))
          refine wpQuiet_nil ?_
          rintro _ ⟨⟨dd, os⟩, rfl⟩
          have hb3 := below_regrown wr dd os
          generalize Sort.grow (redrawn wr dd) os = w3 at hb3
          have B1 := hide (bthen HBR.out hb3)
          clear hb3 r4 q0 q1 C1 C2
          go_wp2_with fail
          exact ⟨⟨k + 1, s1, hkl, rfl, by go_num, HS1, B1.out⟩, by simp [intOf] <;> omega⟩
        · obtain rfl : k = a.comms.length := by omega
          rw [List.take_length] at HS
          obtain ⟨C0, hC0⟩ : ∃ x, x = s := ⟨_, rfl⟩
          subst hC0
          have HC0 := HS
          obtain ⟨w01, hw01⟩ : ∃ x, x = wr := ⟨_, rfl⟩
          subst hw01
          clear HS BW
          have BW := HBR
          clear HBR hkl hk
          go_wp2_with fail
          clear c0 c1 c2 c3 c4 c5 c6
          go_loopw [5, 8] (fun v3 v6 wr => ∃ (k : Nat) (s : ByteArray), k ≤ a.cl.length ∧ v3 = .string s ∧ v6 = .int .i64 k ∧ Hid (s = ⟨(rowN 4 (a.cl.take k)).toArray⟩) ∧ Below W.heap.size W wr) (fun _ v6 _ => a.cl.length - (intOf v6).toNat)
          case atStart => exact ⟨0, _, Nat.zero_le _, rfl, rfl, (by show _ = _; rfl), BW.out⟩
          case round =>
            obtain ⟨k, s, hk, rfl, rfl, HS, hb⟩ := hrel
            have HBR := hide hb
            clear hb
            obtain ⟨c0, c1, c2, c3, c4, c5, c6⟩ := seven_cells ((HBR.out.block p PL.out).trans N0.out)
            by_cases hkl : k < a.cl.length
            · have hkl' : (k : Int) < (a.cl.length : Int) := by omega
              obtain ⟨b, off, rfl, hrd⟩ := Is.slot_at (Is.slot_below HL.out.2.2 HBR.out) hkl
              have e0 := hrd k hkl
              have hr := HF.out.cl a.cl[k] (List.getElem_mem hkl)
              obtain ⟨t1, ht1⟩ : ∃ t1 : ByteArray, t1 = ⟨(num a.cl[k].toNat 4).toArray⟩ := ⟨_, rfl⟩
              obtain ⟨s1, hs1⟩ : ∃ s1 : ByteArray, s1 = ⟨(rowN 4 (a.cl.take (k + 1))).toArray⟩ := ⟨_, rfl⟩
              have CP : Hid (∀ W : World, Calls Try.prog 38 #[.int .i64 a.cl[k], .int .i64 4] W fun e w' => e = .returned (.string t1) ∧ Below W.heap.size W w') := fun W => refNum_is a.cl[k] 4 t1 ht1 hr.1 (by have := hr.2; omega) (by decide) W
              have hA1 : Adds s t1 s1 := by
                rw [HS.out, ht1, hs1, row_take hkl]
                exact adds_list _ _ (by rw [rows_length, List.length_take]; omega) (by rw [num_length]; decide)
              have HS1 := hide hs1
              clear ht1 hs1 hrd hr
              generalize a.cl[k] = y at *
              unfold Adds at hA1
              go_wp2_with fail
              refine (CP.out _).mono ?_
              rintro e w1 ⟨rfl, hb1⟩
              have B1 := hide (bthen HBR.out hb1)
              clear hb1 CP c0 c1 c2 c3 c4 c5 c6
              obtain ⟨c0, c1, c2, c3, c4, c5, c6⟩ := seven_cells ((B1.out.block p PL.out).trans N0.out)
              go_wp2_with fail
              exact ⟨⟨k + 1, s1, hkl, rfl, by go_num, HS1, B1.out⟩, by simp [intOf] <;> omega⟩
            · obtain rfl : k = a.cl.length := by omega
              rw [List.take_length] at HS
              obtain ⟨L0, hL0⟩ : ∃ x, x = s := ⟨_, rfl⟩
              subst hL0
              have HL0 := HS
              obtain ⟨w02, hw02⟩ : ∃ x, x = wr := ⟨_, rfl⟩
              subst hw02
              clear HS BW
              have BW := HBR
              clear HBR hkl hk
              have HLEN := hide (bytes_parts HF.out)
              obtain ⟨Z0, hZ0⟩ : ∃ x : ByteArray, x = ⟨(one (64, 1, num a.og.toNat 1) ++ one (64, 2, pathB a.path)).toArray⟩ := ⟨_, rfl⟩
              have HZ0 := hide hZ0
              clear hZ0
              obtain ⟨Z1, hZ1⟩ : ∃ x : ByteArray, x = ⟨(one (64, 1, num a.og.toNat 1) ++ one (64, 2, pathB a.path) ++ optB (a.md ≠ 0) (128, 4, num a.md.toNat 4)).toArray⟩ := ⟨_, rfl⟩
              have HZ1 := hide hZ1
              clear hZ1
              obtain ⟨Z2, hZ2⟩ : ∃ x : ByteArray, x = ⟨(one (64, 1, num a.og.toNat 1) ++ one (64, 2, pathB a.path) ++ optB (a.md ≠ 0) (128, 4, num a.md.toNat 4) ++ one (64, 5, num a.pf.toNat 4)).toArray⟩ := ⟨_, rfl⟩
              have HZ2 := hide hZ2
              clear hZ2
              obtain ⟨Z3, hZ3⟩ : ∃ x : ByteArray, x = ⟨(one (64, 1, num a.og.toNat 1) ++ one (64, 2, pathB a.path) ++ optB (a.md ≠ 0) (128, 4, num a.md.toNat 4) ++ one (64, 5, num a.pf.toNat 4) ++ optB (a.comms ≠ []) (192, 8, rowN 2 (flat a.comms))).toArray⟩ := ⟨_, rfl⟩
              have HZ3 := hide hZ3
              clear hZ3
              obtain ⟨Z4, hZ4⟩ : ∃ x : ByteArray, x = ⟨(one (64, 1, num a.og.toNat 1) ++ one (64, 2, pathB a.path) ++ optB (a.md ≠ 0) (128, 4, num a.md.toNat 4) ++ one (64, 5, num a.pf.toNat 4) ++ optB (a.comms ≠ []) (192, 8, rowN 2 (flat a.comms)) ++ optB (a.fr ≠ 0) (128, 9, num a.fr.toNat 4)).toArray⟩ := ⟨_, rfl⟩
              have HZ4 := hide hZ4
              clear hZ4
              obtain ⟨Z5, hZ5⟩ : ∃ x : ByteArray, x = ⟨(one (64, 1, num a.og.toNat 1) ++ one (64, 2, pathB a.path) ++ optB (a.md ≠ 0) (128, 4, num a.md.toNat 4) ++ one (64, 5, num a.pf.toNat 4) ++ optB (a.comms ≠ []) (192, 8, rowN 2 (flat a.comms)) ++ optB (a.fr ≠ 0) (128, 9, num a.fr.toNat 4) ++ optB (a.cl ≠ []) (128, 10, rowN 4 a.cl)).toArray⟩ := ⟨_, rfl⟩
              have HZ5 := hide hZ5
              clear hZ5
              have HZT : Hid (t = Z5) := by show _ = _; rw [HT.out, HZ5.out, At.bytes_eq]
              obtain ⟨b1, hb1⟩ : ∃ x : ByteArray, x = ⟨(num a.og.toNat 1).toArray⟩ := ⟨_, rfl⟩
              have Cb1 : Hid (∀ W : World, Calls Try.prog 38 #[.int .i64 a.og, .int .i64 1] W fun e w' => e = .returned (.string b1) ∧ Below W.heap.size W w') := fun W => refNum_is a.og 1 b1 hb1 HF.out.og.1 (by have := HF.out.og.2; omega) (by decide) W
              obtain ⟨d1, hd1⟩ : ∃ x : ByteArray, x = ⟨(one (64, 1, num a.og.toNat 1)).toArray⟩ := ⟨_, rfl⟩
              have Cd1 : Hid (∀ W : World, Calls Try.prog 64 #[.int .i64 64, .int .i64 1, .string b1] W fun e w' => e = .returned (.string d1) ∧ Below W.heap.size W w') := fun W => refOne_is 64 1 (num a.og.toNat 1) b1 d1 hb1 hd1 (by decide) (by decide) (by rw [num_length]; decide) W
              obtain ⟨d2, hd2⟩ : ∃ x : ByteArray, x = ⟨(one (64, 2, pathB a.path)).toArray⟩ := ⟨_, rfl⟩
              have Cd2 : Hid (∀ W : World, Calls Try.prog 64 #[.int .i64 64, .int .i64 2, .string P1] W fun e w' => e = .returned (.string d2) ∧ Below W.heap.size W w') := fun W => refOne_is 64 2 (pathB a.path) P1 d2 HP1.out hd2 (by decide) (by decide) (by have := pathB_length a.path; omega) W
              have A0 : Adds d1 d2 Z0 := by
                rw [hd1, hd2, HZ0.out]
                exact adds_list _ _ (by have := HLEN.out.1; omega) (by have := HLEN.out.2.1; omega)
              unfold Adds at A0
              clear hb1 hd1 hd2
              obtain ⟨c0, c1, c2, c3, c4, c5, c6⟩ := seven_cells ((BW.out.block p PL.out).trans N0.out)
              go_wp2_with fail
              refine (Cb1.out _).mono ?_
              rintro e x1 ⟨rfl, hb⟩
              have BX1 := hide (bthen BW.out hb)
              clear hb Cb1 c0 c1 c2 c3 c4 c5 c6
              obtain ⟨c0, c1, c2, c3, c4, c5, c6⟩ := seven_cells ((BX1.out.block p PL.out).trans N0.out)
              go_wp2_with fail
              refine (Cd1.out _).mono ?_
              rintro e x2 ⟨rfl, hb⟩
              have BX2 := hide (bthen BX1.out hb)
              clear hb Cd1 c0 c1 c2 c3 c4 c5 c6
              obtain ⟨c0, c1, c2, c3, c4, c5, c6⟩ := seven_cells ((BX2.out.block p PL.out).trans N0.out)
              go_wp2_with fail
              refine (Cd2.out _).mono ?_
              rintro e x3 ⟨rfl, hb⟩
              have BX3 := hide (bthen BX2.out hb)
              clear hb Cd2 c0 c1 c2 c3 c4 c5 c6
              obtain ⟨c0, c1, c2, c3, c4, c5, c6⟩ := seven_cells ((BX3.out.block p PL.out).trans N0.out)
              clear BW BX1 BX2
              have BW := BX3
              clear BX3
              go_upto_if 84 with fail
              go_cut [9] from 10 (fun v9 wx => v9 = .string Z1 ∧ Hid (Below W.heap.size W wx))
              case first =>
                by_cases hc : a.md = 0
                · have hc' : (a.md != 0) = false := by simpa using hc
                  have HE : Hid (Z0 = Z1) := by show _ = _; rw [HZ0.out, HZ1.out, optB_no (c := a.md ≠ 0) (by simp [hc]), List.append_nil]
                  clear hc
                  go_wp2_with fail
                  go_meet
                  exact ⟨by rw [HE.out], BW⟩
                · have hc' : (a.md != 0) = true := by simpa using hc
                  obtain ⟨m1, hm1⟩ : ∃ x : ByteArray, x = ⟨(num a.md.toNat 4).toArray⟩ := ⟨_, rfl⟩
                  have Cm1 : Hid (∀ W : World, Calls Try.prog 38 #[.int .i64 a.md, .int .i64 4] W fun e w' => e = .returned (.string m1) ∧ Below W.heap.size W w') := fun W => refNum_is a.md 4 m1 hm1 HF.out.md.1 (by have := HF.out.md.2; omega) (by decide) W
                  obtain ⟨g1, hg1⟩ : ∃ x : ByteArray, x = ⟨(one (128, 4, num a.md.toNat 4)).toArray⟩ := ⟨_, rfl⟩
                  have Cg1 : Hid (∀ W : World, Calls Try.prog 64 #[.int .i64 128, .int .i64 4, .string m1] W fun e w' => e = .returned (.string g1) ∧ Below W.heap.size W w') := fun W => refOne_is 128 4 (num a.md.toNat 4) m1 g1 hm1 hg1 (by decide) (by decide) (by rw [num_length]; decide) W
                  clear hm1
                  have A0 : Adds Z0 g1 Z1 := by
                    rw [HZ0.out, hg1, HZ1.out, optB_yes (c := a.md ≠ 0) hc]
                    exact adds_list _ _ (by have := HLEN.out.2.2.1; omega) (by rw [one_length]; simp [num_length])
                  unfold Adds at A0
                  clear hg1 hc
                  go_wp2_with fail
                  refine (Cm1.out _).mono ?_
                  rintro e x1 ⟨rfl, hb⟩
                  have BX1 := hide (bthen BW.out hb)
                  clear hb Cm1 c0 c1 c2 c3 c4 c5 c6
                  obtain ⟨c0, c1, c2, c3, c4, c5, c6⟩ := seven_cells ((BX1.out.block p PL.out).trans N0.out)
                  go_wp2_with fail
                  refine (Cg1.out _).mono ?_
                  rintro e x2 ⟨rfl, hb⟩
                  have BX2 := hide (bthen BX1.out hb)
                  clear hb Cg1 c0 c1 c2 c3 c4 c5 c6
                  obtain ⟨c0, c1, c2, c3, c4, c5, c6⟩ := seven_cells ((BX2.out.block p PL.out).trans N0.out)
                  go_wp2_with fail
                  go_meet
                  exact ⟨rfl, BX2⟩
              case rest =>
              obtain ⟨rfl, BW'⟩ := hcut
              obtain ⟨w011, hw011⟩ : ∃ x, x = wc := ⟨_, rfl⟩
              subst hw011
              clear BW c0 c1 c2 c3 c4 c5 c6
              have BW := BW'
              clear BW'
              obtain ⟨c0, c1, c2, c3, c4, c5, c6⟩ := seven_cells ((BW.out.block p PL.out).trans N0.out)
              obtain ⟨b5, hb5⟩ : ∃ x : ByteArray, x = ⟨(num a.pf.toNat 4).toArray⟩ := ⟨_, rfl⟩
              have Cb5 : Hid (∀ W : World, Calls Try.prog 38 #[.int .i64 a.pf, .int .i64 4] W fun e w' => e = .returned (.string b5) ∧ Below W.heap.size W w') := fun W => refNum_is a.pf 4 b5 hb5 HF.out.pf.1 (by have := HF.out.pf.2; omega) (by decide) W
              obtain ⟨d5, hd5⟩ : ∃ x : ByteArray, x = ⟨(one (64, 5, num a.pf.toNat 4)).toArray⟩ := ⟨_, rfl⟩
              have Cd5 : Hid (∀ W : World, Calls Try.prog 64 #[.int .i64 64, .int .i64 5, .string b5] W fun e w' => e = .returned (.string d5) ∧ Below W.heap.size W w') := fun W => refOne_is 64 5 (num a.pf.toNat 4) b5 d5 hb5 hd5 (by decide) (by decide) (by rw [num_length]; decide) W
              have A5 : Adds Z1 d5 Z2 := by
                rw [hd5, HZ1.out, HZ2.out]
                exact adds_list _ _ (by have := HLEN.out.2.2.2.1; omega) (by rw [one_length]; simp [num_length])
              unfold Adds at A5
              clear hb5 hd5
              go_wp2_with fail
              refine (Cb5.out _).mono ?_
              rintro e x1 ⟨rfl, hb⟩
              have BX1 := hide (bthen BW.out hb)
              clear hb Cb5 c0 c1 c2 c3 c4 c5 c6
              obtain ⟨c0, c1, c2, c3, c4, c5, c6⟩ := seven_cells ((BX1.out.block p PL.out).trans N0.out)
              go_wp2_with fail
              refine (Cd5.out _).mono ?_
              rintro e x2 ⟨rfl, hb⟩
              have BX2 := hide (bthen BX1.out hb)
              clear hb Cd5 c0 c1 c2 c3 c4 c5 c6
              obtain ⟨c0, c1, c2, c3, c4, c5, c6⟩ := seven_cells ((BX2.out.block p PL.out).trans N0.out)
              clear BW BX1
              have BW := BX2
              clear BX2
              go_upto_if 98 with fail
              go_cut [9] from 10 (fun v9 wx => v9 = .string Z3 ∧ Hid (Below W.heap.size W wx))
              case first =>
                by_cases hc : a.comms = []
                · have hie : C0.toList.isEmpty = true := by rw [HC0.out, hc, ByteArray.toList_eq]; rfl
                  have HE : Hid (Z2 = Z3) := by show _ = _; rw [HZ2.out, HZ3.out, optB_no (c := a.comms ≠ []) (by simp [hc]), List.append_nil]
                  clear hc
                  rw [hie]
                  clear hie
                  go_wp2_with fail
                  go_meet
                  exact ⟨by rw [HE.out], BW⟩
                · have hie : C0.toList.isEmpty = false := by
                    rw [HC0.out, ByteArray.toList_eq]
                    cases hq : a.comms with
                    | nil => exact absurd hq hc
                    | cons y r => simp [flat, rowN, num]
                  obtain ⟨g1, hg1⟩ : ∃ x : ByteArray, x = ⟨(one (192, 8, rowN 2 (flat a.comms))).toArray⟩ := ⟨_, rfl⟩
                  have Cg1 : Hid (∀ W : World, Calls Try.prog 64 #[.int .i64 192, .int .i64 8, .string C0] W fun e w' => e = .returned (.string g1) ∧ Below W.heap.size W w') := fun W => refOne_is 192 8 (rowN 2 (flat a.comms)) C0 g1 HC0.out hg1 (by decide) (by decide) (by rw [rows_length, flat_length]; omega) W
                  have A0 : Adds Z2 g1 Z3 := by
                    rw [HZ2.out, hg1, HZ3.out, optB_yes (c := a.comms ≠ []) hc]
                    exact adds_list _ _ (by have := HLEN.out.2.2.2.2.1; omega) (by rw [one_length]; simp [rows_length, flat_length]; omega)
                  unfold Adds at A0
                  clear hg1 hc
                  rw [hie]
                  clear hie
                  go_wp2_with fail
                  refine (Cg1.out _).mono ?_
                  rintro e x1 ⟨rfl, hb⟩
                  have BX1 := hide (bthen BW.out hb)
                  clear hb Cg1 c0 c1 c2 c3 c4 c5 c6
                  obtain ⟨c0, c1, c2, c3, c4, c5, c6⟩ := seven_cells ((BX1.out.block p PL.out).trans N0.out)
                  go_wp2_with fail
                  go_meet
                  exact ⟨rfl, BX1⟩
              case rest =>
              obtain ⟨rfl, BW'⟩ := hcut
              obtain ⟨w012, hw012⟩ : ∃ x, x = wc := ⟨_, rfl⟩
              subst hw012
              clear BW c0 c1 c2 c3 c4 c5 c6
              have BW := BW'
              clear BW'
              obtain ⟨c0, c1, c2, c3, c4, c5, c6⟩ := seven_cells ((BW.out.block p PL.out).trans N0.out)
              go_upto_if 105 with fail
              go_cut [9] from 10 (fun v9 wx => v9 = .string Z4 ∧ Hid (Below W.heap.size W wx))
              case first =>
                by_cases hc : a.fr = 0
                · have hc' : (a.fr != 0) = false := by simpa using hc
                  have HE : Hid (Z3 = Z4) := by show _ = _; rw [HZ3.out, HZ4.out, optB_no (c := a.fr ≠ 0) (by simp [hc]), List.append_nil]
                  clear hc
                  go_wp2_with fail
                  go_meet
                  exact ⟨by rw [HE.out], BW⟩
                · have hc' : (a.fr != 0) = true := by simpa using hc
                  obtain ⟨m1, hm1⟩ : ∃ x : ByteArray, x = ⟨(num a.fr.toNat 4).toArray⟩ := ⟨_, rfl⟩
                  have Cm1 : Hid (∀ W : World, Calls Try.prog 38 #[.int .i64 a.fr, .int .i64 4] W fun e w' => e = .returned (.string m1) ∧ Below W.heap.size W w') := fun W => refNum_is a.fr 4 m1 hm1 HF.out.fr.1 (by have := HF.out.fr.2; omega) (by decide) W
                  obtain ⟨g1, hg1⟩ : ∃ x : ByteArray, x = ⟨(one (128, 9, num a.fr.toNat 4)).toArray⟩ := ⟨_, rfl⟩
                  have Cg1 : Hid (∀ W : World, Calls Try.prog 64 #[.int .i64 128, .int .i64 9, .string m1] W fun e w' => e = .returned (.string g1) ∧ Below W.heap.size W w') := fun W => refOne_is 128 9 (num a.fr.toNat 4) m1 g1 hm1 hg1 (by decide) (by decide) (by rw [num_length]; decide) W
                  clear hm1
                  have A0 : Adds Z3 g1 Z4 := by
                    rw [HZ3.out, hg1, HZ4.out, optB_yes (c := a.fr ≠ 0) hc]
                    exact adds_list _ _ (by have := HLEN.out.2.2.2.2.2.1; omega) (by rw [one_length]; simp [num_length])
                  unfold Adds at A0
                  clear hg1 hc
                  go_wp2_with fail
                  refine (Cm1.out _).mono ?_
                  rintro e x1 ⟨rfl, hb⟩
                  have BX1 := hide (bthen BW.out hb)
                  clear hb Cm1 c0 c1 c2 c3 c4 c5 c6
                  obtain ⟨c0, c1, c2, c3, c4, c5, c6⟩ := seven_cells ((BX1.out.block p PL.out).trans N0.out)
                  go_wp2_with fail
                  refine (Cg1.out _).mono ?_
                  rintro e x2 ⟨rfl, hb⟩
                  have BX2 := hide (bthen BX1.out hb)
                  clear hb Cg1 c0 c1 c2 c3 c4 c5 c6
                  obtain ⟨c0, c1, c2, c3, c4, c5, c6⟩ := seven_cells ((BX2.out.block p PL.out).trans N0.out)
                  go_wp2_with fail
                  go_meet
                  exact ⟨rfl, BX2⟩
              case rest =>
              obtain ⟨rfl, BW'⟩ := hcut
              obtain ⟨w013, hw013⟩ : ∃ x, x = wc := ⟨_, rfl⟩
              subst hw013
              clear BW c0 c1 c2 c3 c4 c5 c6
              have BW := BW'
              clear BW'
              obtain ⟨c0, c1, c2, c3, c4, c5, c6⟩ := seven_cells ((BW.out.block p PL.out).trans N0.out)
              go_upto_if 113 with fail
              go_cut [9] from 10 (fun v9 wx => v9 = .string Z5 ∧ Hid (Below W.heap.size W wx))
              case first =>
                by_cases hc : a.cl = []
                · have hie : L0.toList.isEmpty = true := by rw [HL0.out, hc, ByteArray.toList_eq]; rfl
                  have HE : Hid (Z4 = Z5) := by show _ = _; rw [HZ4.out, HZ5.out, optB_no (c := a.cl ≠ []) (by simp [hc]), List.append_nil]
                  clear hc
                  rw [hie]
                  clear hie
                  go_wp2_with fail
                  go_meet
                  exact ⟨by rw [HE.out], BW⟩
                · have hie : L0.toList.isEmpty = false := by
                    rw [HL0.out, ByteArray.toList_eq]
                    cases hq : a.cl with
                    | nil => exact absurd hq hc
                    | cons y r => simp [rowN, num]
                  obtain ⟨g1, hg1⟩ : ∃ x : ByteArray, x = ⟨(one (128, 10, rowN 4 a.cl)).toArray⟩ := ⟨_, rfl⟩
                  have Cg1 : Hid (∀ W : World, Calls Try.prog 64 #[.int .i64 128, .int .i64 10, .string L0] W fun e w' => e = .returned (.string g1) ∧ Below W.heap.size W w') := fun W => refOne_is 128 10 (rowN 4 a.cl) L0 g1 HL0.out hg1 (by decide) (by decide) (by rw [rows_length]; omega) W
                  have A0 : Adds Z4 g1 Z5 := by
                    rw [HZ4.out, hg1, HZ5.out, optB_yes (c := a.cl ≠ []) hc]
                    exact adds_list _ _ (by have := HLEN.out.2.2.2.2.2.2; omega) (by rw [one_length]; simp [rows_length]; omega)
                  unfold Adds at A0
                  clear hg1 hc
                  rw [hie]
                  clear hie
                  go_wp2_with fail
                  refine (Cg1.out _).mono ?_
                  rintro e x1 ⟨rfl, hb⟩
                  have BX1 := hide (bthen BW.out hb)
                  clear hb Cg1 c0 c1 c2 c3 c4 c5 c6
                  obtain ⟨c0, c1, c2, c3, c4, c5, c6⟩ := seven_cells ((BX1.out.block p PL.out).trans N0.out)
                  go_wp2_with fail
                  go_meet
                  exact ⟨rfl, BX1⟩
              case rest =>
              obtain ⟨rfl, BW'⟩ := hcut
              obtain ⟨w014, hw014⟩ : ∃ x, x = wc := ⟨_, rfl⟩
              subst hw014
              clear BW c0 c1 c2 c3 c4 c5 c6
              have BW := BW'
              clear BW'
              obtain ⟨c0, c1, c2, c3, c4, c5, c6⟩ := seven_cells ((BW.out.block p PL.out).trans N0.out)
              go_wp2_with fail
              go_ret
              exact ⟨by rw [HZT.out]; rfl, bthen HB.out BW.out⟩
end Go.Proofs.Ytkhmhmopcofejaa
