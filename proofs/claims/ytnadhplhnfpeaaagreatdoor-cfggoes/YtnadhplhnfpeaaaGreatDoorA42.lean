/- Part of the proof. -/
import Derived.Test.YtnadhplhnfpeaaaGreatDoorAZ
import Derived.Test.YtnadhplhnfpeaaaGreatDoorA41
import Derived.WalkMore
namespace Go.Proofs.YtnadhplhnfpeaaaGreatDoor.Lx
open Go.RowKit Go.Sort
set_option maxHeartbeats 4000000 in
set_option maxRecDepth 100000 in
theorem scan_is (s : ByteArray) (hs : s.size ≤ 100000) (w : World) : Calls Tryz.prog 19 #[.string s] w (ScanTo 95 s w) := by
 unfold ScanTo
 have B0 := hide (balloc (brefl w) (.cells #[.int .i64 0, .int .i64 0] 35))
 have P0 := hide (heap_new w #[.int .i64 0, .int .i64 0] 35)
 have HSZ : Hid ((w.alloc (.cells #[.int .i64 0, .int .i64 0] 35)).heap.size = w.heap.size + 1) := by show _ = _; simp
 go_enter Tryz.func19, Tryz.ntmps19
 obtain ⟨p, hp⟩ : ∃ p, w.heap.size = p := ⟨_, rfl⟩
 have HPE : Hid (w.heap.size = p) := hp
 have HPW : Hid (w.heap.size ≤ p) := Nat.le_of_eq hp
 rw [hp] at P0
 by_cases h8 : 8192 < s.size
 ·
  have h8' : (8192 : Int) < (s.size : Int) := by omega
  have HIS : Hid (Is s [] 1 1 2) := .inl ⟨h8, rfl, rfl, rfl, rfl⟩
  go_wp2_with fail
  go_step3
  generalize w.alloc (.cells #[.int .i64 0, .int .i64 0] 35) = W0 at *
  clear hp HSZ
  obtain ⟨z0, z1, y0, y1⟩ := two_cells P0.out
  go_wp2_with fail
  have P3 := hide (set1 (set0 P0.out (.int .i64 1)) (.int .i64 1))
  have B3 := hide (bset (bset B0.out (p := ⟨p, 0, none⟩) HPW.out (.int .i64 1)) (p := ⟨p, 1, none⟩) HPW.out (.int .i64 1))
  obtain ⟨t0, t1, _, _⟩ := two_cells P3.out
  try rw [Exit.noGoto_ret]
  refine bodyPost_ret (v := .tuple #[.slice none 0 0, .agg #[.int .i64 1, .int .i64 1], .int .i64 2]) ?_ rfl ?_
  ·
   simp [results, Tryz.results19, go_sem, t0, t1]
  exact ⟨_, [], _, _, _, rfl, World.ownsRow_nil _ _ _ _, HIS.out, B3.out⟩
 have h8' : ¬ (8192 : Int) < (s.size : Int) := by omega
 have H8 : Hid (s.size ≤ 8192) := by show _ ≤ _; omega
 clear h8
 go_wp2_with fail
 go_step3
 generalize w.alloc (.cells #[.int .i64 0, .int .i64 0] 35) = W0 at *
 clear hp
 have B1 := hide (balloc B0.out (.cells #[.int .i64 2, .string ⟨#[]⟩, .int .i64 0, .int .i64 0, .int .i64 0] 90))
 have Q1 := hide (heap_new W0 #[.int .i64 2, .string ⟨#[]⟩, .int .i64 0, .int .i64 0, .int .i64 0] 90)
 have P1 := hide (((balloc (brefl W0) (.cells #[.int .i64 2, .string ⟨#[]⟩, .int .i64 0, .int .i64 0, .int .i64 0] 90)).block p (heap_lt P0.out)).trans P0.out)
 obtain ⟨q, hq⟩ : ∃ q, W0.heap.size = q := ⟨_, rfl⟩
 have HPQ : Hid (p ≠ q ∧ q ≠ p ∧ w.heap.size ≤ q ∧ q < w.heap.size + 2 ∧ p < w.heap.size + 2) := by
  have h1 := HSZ.out
  have h2 := HPE.out
  exact ⟨by omega, by omega, by omega, by omega, by omega⟩
 rw [hq] at Q1
 go_wp2_with fail
 generalize W0.alloc (.cells #[.int .i64 2, .string ⟨#[]⟩, .int .i64 0, .int .i64 0, .int .i64 0] 90) = W1 at *
 clear hq HSZ B0 P0
 go_step3
 go_wp2_with fail
 go_loopw [5, 6, 7, 8] (fun v5 v6 v7 v8 wr => ∃ (k a line start : Nat) (acc : List Tok) (x1 x2 x3 : Value), v8 = .int .i64 (k : Int) ∧ v6 = .int .i64 (line : Int) ∧ v7 = .int .i64 (start : Int) ∧ k ≤ s.size ∧ a ≤ 2 ∧ acc.length ≤ k ∧ Hid (Inv (lst s) k a acc) ∧ Hid (Lin (lst s) k line start) ∧ Hid (wr.ownsRow (w.heap.size + 2) 95 4 v5 acc.length (Tok.cells (lst s) acc)) ∧ Hid (wr.heap[p]? = some (.cells #[.int .i64 0, .int .i64 0] 35 (0, 0))) ∧ Hid (wr.heap[q]? = some (.cells #[.int .i64 (a : Int), x1, x2, x3, .int .i64 0] 90 (0, 0))) ∧ Hid (Below w.heap.size w wr)) (fun _ _ _ v8 _ => s.size - (intOf v8).toNat)
 case atStart => exact ⟨0, 2, 1, 0, [], _, _, _, rfl, rfl, rfl, Nat.zero_le _, Nat.le_refl _, Nat.le_refl _, Inv.start _, Lin.zero _, World.ownsRow_nil _ _ _ _, P1, Q1, B1⟩
 case round =>
  clear B1 Q1 P1
  obtain ⟨k, a, line, start, acc, x1, x2, x3, rfl, rfl, rfl, hks, ha2, hak, HI, HL, HR, HP, HQ, HB⟩ := hrel
  rcases Nat.lt_or_ge k s.size with hk | hk
  ·
   have hk' : (k : Int) < (s.size : Int) := by omega
   have hkl : k < (lst s).length := by simpa using hk
   have hget : s[k] = (lst s)[k] := rfl
   have HX256 : Hid ((lst s)[k].toNat < 256) := (lst s)[k].toNat_lt
   have HLB : Hid (line ≤ k + 1 ∧ start ≤ k) := by
    have h1 := plc_bounds (lst s) k (by omega)
    have h2 := HL.out
    rw [h2.2] at h1
    exact ⟨h1.1, h2.1⟩
   have HP2 := hide (far5 HP.out HPQ.out.1 (.int .i64 2) (.string ⟨#[]⟩) (.int .i64 1) (.int .i64 0) (.int .i64 0))
   have HQ2 := hide (five_set HQ.out (.int .i64 2) (.string ⟨#[]⟩) (.int .i64 1) (.int .i64 0) (.int .i64 0))
   have HR2 := hide (row_set5 HR.out HPQ.out.2.2.2.1 (.int .i64 2) (.string ⟨#[]⟩) (.int .i64 1) (.int .i64 0) (.int .i64 0))
   have HB2 := hide (bset5 HB.out HPQ.out.2.2.1 (.int .i64 2) (.string ⟨#[]⟩) (.int .i64 1) (.int .i64 0) (.int .i64 0))
   obtain ⟨⟨z0, z1, z2, z3, z4⟩, y0, y1, y2, y3, y4⟩ := five_cells HQ.out
   go_upto_region 9 with fail
   clear z0 z1 z2 z3 z4 y0 y1 y2 y3 y4
   obtain ⟨W2, hW2⟩ : ∃ W2, ((((wr.setCell ⟨q, 0, none⟩ (.int .i64 2)).setCell ⟨q, 1, none⟩ (.string ⟨#[]⟩)).setCell ⟨q, 2, none⟩ (.int .i64 1)).setCell ⟨q, 3, none⟩ (.int .i64 0)).setCell ⟨q, 4, none⟩ (.int .i64 0) = W2 := ⟨_, rfl⟩
   unfold set5 at HP2 HQ2 HR2 HB2
   rw [hW2] at HP2 HQ2 HR2 HB2 ⊢
   clear hW2 HP HQ HR HB
   go_upto_region 13 with fail
   obtain ⟨x, hx⟩ : ∃ x : Int, (s.data[k].toNat : Int) = x := ⟨_, rfl⟩
   rw [hx]
   have HXX : Hid (((lst s)[k].toNat : Int) = x) := hx
   clear hx hget
   have hkb : (k : Int) ≤ 100000 := by omega
   have hlb : (line : Int) ≤ 100001 := by have := HLB.out; omega
   have hsb : (start : Int) ≤ (k : Int) := by have := HLB.out; omega
   have HSK : Hid (start ≤ k) := HLB.out.2
   by_cases h10 : (lst s)[k].toNat = 10
   ·
    have hbk : blk (lst s)[k] = true := (blk_iff _).2 (.inr (.inr (.inr h10)))
    have HI5 : Hid (Inv (lst s) (k + 1) 2 acc) := by have h := HI.out.go (f := a) hkl (stp_blk hkl hbk); rw [show tokOf k none = [] from rfl, List.append_nil] at h; exact h
    have HL5 := hide (HL.out.ten hkl h10)
    have e10 : x = 10 := by rw [← HXX.out, h10]; rfl
    clear h10 hbk
    go_upto_region 20 with fail
    obtain ⟨⟨_, _, z2, _, _⟩, _⟩ := five_cells HQ2.out
    go_wp2_with fail
    exact ⟨⟨k + 1, 2, line + 1, k + 1, acc, _, _, _, by go_num, by go_num, by go_num, by omega, by omega, by omega, HI5, HL5, HR2, HP2, HQ2, HB2⟩, by simp [intOf]; omega⟩
   by_cases hbk : blk (lst s)[k] = true
   ·
    have HI5 : Hid (Inv (lst s) (k + 1) 2 acc) := by have h := HI.out.go (f := a) hkl (stp_blk hkl hbk); rw [show tokOf k none = [] from rfl, List.append_nil] at h; exact h
    have HL5 := hide (HL.out.one hkl h10)
    have hb3 : x = 32 ∨ x = 9 ∨ x = 13 := by
     have h := (blk_iff _).1 hbk
     have hxx := HXX.out
     omega
    clear h10 hbk
    rcases hb3 with e1 | e1 | e1
    all_goals
     go_upto_region 20 with fail
     obtain ⟨⟨_, _, z2, _, _⟩, _⟩ := five_cells HQ2.out
     go_wp2_with fail
     exact ⟨⟨k + 1, 2, line, start, acc, _, _, _, by go_num, by go_num, by go_num, by omega, by omega, by omega, HI5, HL5, HR2, HP2, HQ2, HB2⟩, by simp [intOf]; omega⟩
   have hb' := bool_not hbk
   have n4 := mt (blk_iff _).2 hbk
   have e32 : ¬ x = 32 := by have hxx := HXX.out; omega
   have b32 : (x == 32) = false := by rw [beq_eq_false_iff_ne]; exact e32
   have e9 : ¬ x = 9 := by have hxx := HXX.out; omega
   have b9 : (x == 9) = false := by rw [beq_eq_false_iff_ne]; exact e9
   have e13 : ¬ x = 13 := by have hxx := HXX.out; omega
   have b13 : (x == 13) = false := by rw [beq_eq_false_iff_ne]; exact e13
   have e10 : ¬ x = 10 := by have hxx := HXX.out; omega
   have b10 : (x == 10) = false := by rw [beq_eq_false_iff_ne]; exact e10
   clear n4 hbk h10
   by_cases hc35 : (lst s)[k].toNat = 35
   ·
    have e35 : x = 35 := by rw [← HXX.out, hc35]; rfl
    have hlt : lst (s.extract k s.size) = (lst s).drop k := by rw [extract_txt, lst_txt, List.take_of_length_le (by rw [List.length_drop, lst_size]; omega)]
    have hstp := stp_rmk (f := a) hkl hb' hc35
    have hpos := stp_pos (drop_ne hkl) hstp
    have HI5 : Hid (Inv (lst s) (k + tw rmk (lst s) k) 2 acc) := by have h := HI.out.go hkl hstp; rw [show tokOf k none = [] from rfl, List.append_nil] at h; exact h
    have HL5 : Hid (Lin (lst s) (k + tw rmk (lst s) k) line start) := by
     refine HL.out.more _ (by rw [List.length_drop] at hpos; omega) ?_
     intro c hc
     unfold tw at hc
     rw [take_takeWhile] at hc
     exact (rmk_iff c).1 (mem_takeWhile c hc)
    have CR := hide (run_is inLine_is (s.extract k s.size) (by rw [ByteArray.size_extract]; omega))
    rw [hlt] at CR
    have hpos2 : 1 ≤ tw rmk (lst s) k ∧ k + tw rmk (lst s) k ≤ s.size := by rw [List.length_drop, lst_size] at hpos; omega
    have htw : ((lst s).drop k).takeWhile rmk = ((lst s).drop k).takeWhile rmk := rfl
    unfold tw at HI5 HL5 hpos2
    generalize (((lst s).drop k).takeWhile rmk).length = n at *
    clear hc35 hlt hstp hpos htw hb'
    have hn1 : (n : Int) ≤ 100000 := by omega
    go_upto_region 19 with fail
    clear b32 b9 b13 b10 e32 e9 e13 e10 e35
    go_wp2_with fail
    refine (CR.out _).mono ?_
    rintro e w1 ⟨rfl, rfl⟩
    clear CR
    obtain ⟨⟨z0, z1, z2, z3, z4⟩, y0, y1, y2, y3, y4⟩ := five_cells HQ2.out
    go_upto_region 20 with fail
    have HQ3 := hide (heap_setCell_same _ q 2 _ 90 (.int .i64 (n : Int)) HQ2.out)
    have HP3 := hide (set_far (o := 2) (v := .int .i64 (n : Int)) HP2.out HPQ.out.1)
    have HR3 := hide (row_set HR2.out (p := ⟨q, 2, none⟩) HPQ.out.2.2.2.1 (.int .i64 (n : Int)))
    have HB3 := hide (bset HB2.out (p := ⟨q, 2, none⟩) HPQ.out.2.2.1 (.int .i64 (n : Int)))
    clear z0 z1 z2 z3 z4 y0 y1 y2 y3 y4
    generalize w1.setCell ⟨q, 2, none⟩ (.int .i64 (n : Int)) = W3 at *
    clear HQ2 HP2 HR2 HB2
    obtain ⟨⟨_, _, z2, _, _⟩, _⟩ := five_cells HQ3.out
    go_wp2_with fail
    exact ⟨⟨k + n, 2, line, start, acc, _, _, _, by go_num, by go_num, by go_num, by omega, by omega, by omega, HI5, HL5, HR3, HP3, HQ3, HB3⟩, by simp [intOf]; omega⟩
   have e35 : ¬ x = 35 := by have hxx := HXX.out; omega
   have b35 : (x == 35) = false := by rw [beq_eq_false_iff_ne]; exact e35
   have hlt : lst (s.extract k s.size) = (lst s).drop k := by rw [extract_txt, lst_txt, List.take_of_length_le (by rw [List.length_drop, lst_size]; omega)]
   have hxz : (s.extract k s.size).size = s.size - k := by rw [ByteArray.size_extract]; omega
   have CB := hide (begin_is (s.extract k s.size) (by omega) (by omega) a)
   rw [hlt] at CB
   have hstp := stp_bgn (f := a) hkl hb' hc35
   clear hc35 hlt hxz hb'
   go_upto_region 10 with fail
   clear b32 b9 b13 b10 e32 e9 e13 e10 e35 b35
   cases hbg : bgn ((lst s).drop k) a with
   | fault n e =>
    have hbf := bgn_fault hbg
    have HF := hide (HI.out.fault hkl (hstp.trans hbg))
    rw [hbg, pc_fault] at CB
    rw [List.length_drop, lst_size] at hbf
    clear hstp hbg
    go_wp2_with fail
    refine (CB.out _).mono ?_
    rintro e' w1 ⟨rfl, b1⟩
    have HQ3 := hide ((b1.block q (heap_lt HQ2.out)).trans HQ2.out)
    have HP3 := hide ((b1.block p (heap_lt HP2.out)).trans HP2.out)
    have HB3 := hide (bthen HB2.out b1)
    clear CB b1 HQ2 HP2 HB2 HR2
    obtain ⟨⟨z0, z1, z2, z3, z4⟩, y0, y1, y2, y3, y4⟩ := five_cells HQ3.out
    go_upto_region 11 with fail
    have HQ4 := hide (five_set HQ3.out (.int .i64 0) (.string ⟨#[]⟩) (.int .i64 0) (.int .i64 (n : Int)) (.int .i64 e))
    have HP4 := hide (far5 HP3.out HPQ.out.1 (.int .i64 0) (.string ⟨#[]⟩) (.int .i64 0) (.int .i64 (n : Int)) (.int .i64 e))
    have HB4 := hide (bset5 HB3.out HPQ.out.2.2.1 (.int .i64 0) (.string ⟨#[]⟩) (.int .i64 0) (.int .i64 (n : Int)) (.int .i64 e))
    unfold set5 at HQ4 HP4 HB4
    clear z0 z1 z2 z3 z4 y0 y1 y2 y3 y4
    obtain ⟨W4, hW4⟩ : ∃ W4, ((((w1.setCell ⟨q, 0, none⟩ (.int .i64 0)).setCell ⟨q, 1, none⟩ (.string ⟨#[]⟩)).setCell ⟨q, 2, none⟩ (.int .i64 0)).setCell ⟨q, 3, none⟩ (.int .i64 (n : Int))).setCell ⟨q, 4, none⟩ (.int .i64 e) = W4 := ⟨_, rfl⟩
    rw [hW4] at HQ4 HP4 HB4 ⊢
    clear hW4 HQ3 HP3 HB3
    obtain ⟨⟨_, _, _, z3, z4⟩, _⟩ := five_cells HQ4.out
    have he0 : (e != 0) = true := by rw [bne_iff_ne]; exact hbf.1
    have HE0 := hide hbf
    have hn1 : (n : Int) ≤ 100000 := by omega
    clear hbf
    go_upto_region 22 with fail
    have BD := hide ((brefl W4).drew)
    have CP : Hid (∀ W, Calls Tryz.prog 36 #[.string s, .int .i64 ((k : Int) + (n : Int))] W fun e w' => e = .returned (.agg #[.int .i64 ((plc (lst s) (k + n)).1 : Nat), .int .i64 ((plc (lst s) (k + n)).2 : Nat)]) ∧ Below W.heap.size W w') := fun W => by have h := place_is s ((k : Int) + (n : Int)) hs W; rw [show ((k : Int) + (n : Int)).toNat = k + n by omega] at h; exact h
    have HIS : Hid (Is s [] ((plc (lst s) (k + n)).1 : Nat) ((plc (lst s) (k + n)).2 : Nat) e) := .inr ⟨H8.out, acc, _, HF.out, .inr ⟨_, _, rfl, rfl, rfl, rfl, rfl⟩⟩
    generalize plc (lst s) (k + n) = pq at *
    obtain ⟨pa, pb⟩ := pq
    simp only at CP HIS
    generalize (pa : Int) = pi at *
    generalize (pb : Int) = qi at *
    refine wp_region_held_drew (S := (fun w' => w'.cell? ⟨q, 3, none⟩ = some (.int .i64 (n : Int)) ∧ w'.cell? ⟨q, 4, none⟩ = some (.int .i64 e))) (by kernel_rfl) ⟨(BD.out.cell (p := ⟨q, 3, none⟩) (heap_lt HQ4.out)).trans z3, (BD.out.cell (p := ⟨q, 4, none⟩) (heap_lt HQ4.out)).trans z4⟩ (fun hHeld => ?_)
    have HQ5 := hide ((BD.out.block q (heap_lt HQ4.out)).trans HQ4.out)
    have HP5 := hide ((BD.out.block p (heap_lt HP4.out)).trans HP4.out)
    have HB5 := hide (bthen HB4.out BD.out)
    clear z3 z4 HQ4 HP4 HB4 BD
    generalize W4.drew = W5 at *
    refine tak 0 (.string s) rfl (Or.inl ⟨by rfl, fun w hSw => by dsimp only at hSw; go_simp⟩) hHeld ?_
    simp only [Act.put, List.getElem_toArray, List.getElem_cons_zero, List.setIfInBounds_toArray, List.set_cons_zero, List.set_cons_succ]
    refine tak 1 (.int .i64 (k : Int)) rfl (Or.inl ⟨by rfl, fun w hSw => by dsimp only at hSw; go_simp⟩) hHeld ?_
    simp only [Act.put, g1, g2, g3, g4, g5, g6]
    refine tak 2 (.pointer (some ⟨q, 3, none⟩)) rfl (Or.inl ⟨by rfl, fun w hSw => by dsimp only at hSw; go_simp⟩) hHeld ?_
    simp only [Act.put, g1, g2, g3, g4, g5, g6]
    refine tak 3 (.int .i64 (n : Int)) rfl (Or.inl ⟨by rfl, fun w hSw => by dsimp only at hSw; go_simp⟩) hHeld ?_
    simp only [Act.put, g1, g2, g3, g4, g5, g6]
    refine tak 4 (.int .i64 ((k : Int) + (n : Int))) rfl (Or.inl ⟨by rfl, fun w hSw => by dsimp only at hSw; (go_simp; try (rw [IntKind.wrap_i64]; omega))⟩) hHeld ?_
    simp only [Act.put, g1, g2, g3, g4, g5, g6]
    refine tak 6 (.pointer (some ⟨q, 4, none⟩)) rfl (Or.inl ⟨by rfl, fun w hSw => by dsimp only at hSw; go_simp⟩) hHeld ?_
    simp only [Act.put, g1, g2, g3, g4, g5, g6]
    refine tak 7 (.int .i64 e) rfl (Or.inl ⟨by rfl, fun w hSw => by dsimp only at hSw; go_simp⟩) hHeld ?_
    simp only [Act.put, g1, g2, g3, g4, g5, g6]
    refine rdy 5 (by kernel_rfl) rfl fun K hK => ?_
    go_simp
    go_wp2_with (refine (CP.out _).mono ?_; rintro e w6 ⟨rfl, b6⟩; have HQ6 := hide ((b6.block q (heap_lt HQ5.out)).trans HQ5.out); have HP6 := hide ((b6.block p (heap_lt HP5.out)).trans HP5.out); have HB6 := hide (bthen HB5.out b6); clear b6)
    refine hK.out _ _ ⟨(five_cells HQ6.out).1.2.2.2.1, (five_cells HQ6.out).1.2.2.2.2⟩ (fun hHeld => ?_)
    clear hK K
    try simp only [Act.put, g1, g2, g3, g4, g5, g6]
    refine tak 8 (.slice none 0 0) rfl (Or.inl ⟨by rfl, fun w hSw => by dsimp only at hSw; go_simp⟩) hHeld ?_
    simp only [Act.put, g1, g2, g3, g4, g5, g6]
    have HQ7 := hide (set_far (o := 1) (v := .int .i64 qi) (set_far (o := 0) (v := .int .i64 pi) HQ6.out HPQ.out.2.1) HPQ.out.2.1)
    have HP7 := hide (set1 (set0 HP6.out (.int .i64 pi)) (.int .i64 qi))
    have HB7 := hide (bset (bset HB6.out (p := ⟨p, 0, none⟩) HPW.out (.int .i64 pi)) (p := ⟨p, 1, none⟩) HPW.out (.int .i64 qi))
    obtain ⟨c0, c1, f0, f1⟩ := two_cells HP6.out
    refine rdy 9 (by kernel_rfl) rfl fun K hK => ?_
    go_simp
    refine hK.out _ _ ⟨(five_cells HQ7.out).1.2.2.2.1, (five_cells HQ7.out).1.2.2.2.2⟩ (fun hHeld => ?_)
    clear hK K
    try simp only [Act.put, g1, g2, g3, g4, g5, g6]
    refine tak 10 (.int .i64 e) rfl (Or.inl ⟨by rfl, fun w hSw => by dsimp only at hSw; go_simp⟩) hHeld ?_
    simp only [Act.put, g1, g2, g3, g4, g5, g6]
    refine wpAnyH_done (by kernel_rfl) ?_ _
    clear HQ5 HP5 HB5 HQ6 HP6 HB6 c0 c1 f0 f1 hHeld CP
    go_wp2_with fail
    obtain ⟨t0, t1, _, _⟩ := two_cells HP7.out
    try rw [Exit.noGoto_ret]
    refine bodyPost_ret (v := .tuple #[.slice none 0 0, .agg #[.int .i64 pi, .int .i64 qi], .int .i64 e]) ?_ rfl ?_
    ·
     simp [results, Tryz.results19, go_sem, t0, t1]
    exact ⟨_, [], _, _, _, rfl, World.ownsRow_nil _ _ _ _, HIS.out, HB7.out⟩
   | go n a2 t =>
    obtain ⟨ts, ht, hk2, hts⟩ := bgn_kind hbg hstp
    subst ht
    have hline := bgn_line hbg hstp
    have HI5 : Hid (Inv (lst s) (k + n) a2 (acc ++ [⟨a2, ts, k⟩])) := HI.out.go hkl (hstp.trans hbg)
    have HL5 : Hid (Lin (lst s) (k + n) line start) := HL.out.more n (by have := hline.2.1; rw [List.length_drop] at this; omega) hline.1
    have hnk : 1 ≤ n ∧ k + n ≤ s.size := by have := hline.2; rw [List.length_drop, lst_size] at this; omega
    rw [hbg, pc_go] at CB
    clear hstp hbg hline
    have HTZ : Hid ((txt ts).size ≤ 100000) := by show _ ≤ _; rw [txt_size]; omega
    clear hts
    have HPLC : Hid (((plc (lst s) k).1 : Int) = (line : Int) ∧ ((plc (lst s) k).2 : Int) = (k : Int) - (start : Int) + 1) := by have h := HL.out; rw [h.2]; exact ⟨rfl, by have := h.1; simp only; omega⟩
    obtain ⟨T, hT⟩ : ∃ T, txt ts = T := ⟨_, rfl⟩
    have HT := hide hT
    rw [hT] at CB HTZ
    clear hT
    go_wp2_with fail
    refine (CB.out _).mono ?_
    rintro e' w1 ⟨rfl, b1⟩
    have HQ3 := hide ((b1.block q (heap_lt HQ2.out)).trans HQ2.out)
    have HP3 := hide ((b1.block p (heap_lt HP2.out)).trans HP2.out)
    have HB3 := hide (bthen HB2.out b1)
    have HR3 := hide (row_below HR2.out b1)
    clear CB b1 HQ2 HP2 HB2 HR2
    obtain ⟨⟨z0, z1, z2, z3, z4⟩, y0, y1, y2, y3, y4⟩ := five_cells HQ3.out
    go_upto_region 11 with fail
    have HQ4 := hide (five_set HQ3.out (.int .i64 (a2 : Int)) (.string T) (.int .i64 (n : Int)) (.int .i64 0) (.int .i64 0))
    have HP4 := hide (far5 HP3.out HPQ.out.1 (.int .i64 (a2 : Int)) (.string T) (.int .i64 (n : Int)) (.int .i64 0) (.int .i64 0))
    have HB4 := hide (bset5 HB3.out HPQ.out.2.2.1 (.int .i64 (a2 : Int)) (.string T) (.int .i64 (n : Int)) (.int .i64 0) (.int .i64 0))
    have HR4 := hide (row_set5 HR3.out HPQ.out.2.2.2.1 (.int .i64 (a2 : Int)) (.string T) (.int .i64 (n : Int)) (.int .i64 0) (.int .i64 0))
    unfold set5 at HQ4 HP4 HB4 HR4
    clear z0 z1 z2 z3 z4 y0 y1 y2 y3 y4
    obtain ⟨W4, hW4⟩ : ∃ W4, ((((w1.setCell ⟨q, 0, none⟩ (.int .i64 (a2 : Int))).setCell ⟨q, 1, none⟩ (.string T)).setCell ⟨q, 2, none⟩ (.int .i64 (n : Int))).setCell ⟨q, 3, none⟩ (.int .i64 0)).setCell ⟨q, 4, none⟩ (.int .i64 0) = W4 := ⟨_, rfl⟩
    rw [hW4] at HQ4 HP4 HB4 HR4 ⊢
    clear hW4 HQ3 HP3 HB3 HR3
    obtain ⟨⟨z0, z1, z2, _, z4⟩, _⟩ := five_cells HQ4.out
    go_upto_region 12 with fail
    clear z2 z4
    have BD := hide ((brefl W4).drew)
    have CC := hide (clone_is T HTZ.out)
    refine wp_region_held_drew (S := (fun w' => w'.cell? ⟨q, 0, none⟩ = some (.int .i64 (a2 : Int)) ∧ w'.cell? ⟨q, 1, none⟩ = some (.string T))) (by kernel_rfl) ⟨(BD.out.cell (p := ⟨q, 0, none⟩) (heap_lt HQ4.out)).trans z0, (BD.out.cell (p := ⟨q, 1, none⟩) (heap_lt HQ4.out)).trans z1⟩ (fun hHeld => ?_)
    have HQ5 := hide ((BD.out.block q (heap_lt HQ4.out)).trans HQ4.out)
    have HP5 := hide ((BD.out.block p (heap_lt HP4.out)).trans HP4.out)
    have HB5 := hide (bthen HB4.out BD.out)
    have HR5 := hide (row_below HR4.out BD.out)
    clear z0 z1 HQ4 HP4 HB4 HR4 BD
    generalize W4.drew = W5 at *
    refine tak 0 (u5) rfl (Or.inl ⟨by rfl, fun w hSw => by dsimp only at hSw; go_simp⟩) hHeld ?_
    simp only [Act.put, List.getElem_toArray, List.getElem_cons_zero, List.setIfInBounds_toArray, List.set_cons_zero, List.set_cons_succ]
    refine tak 1 (.pointer (some ⟨q, 0, none⟩)) rfl (Or.inl ⟨by rfl, fun w hSw => by dsimp only at hSw; go_simp⟩) hHeld ?_
    simp only [Act.put, g1, g2, g3, g4, g5, g6]
    refine tak 2 (.int .i64 (a2 : Int)) rfl (Or.inl ⟨by rfl, fun w hSw => by dsimp only at hSw; go_simp⟩) hHeld ?_
    simp only [Act.put, g1, g2, g3, g4, g5, g6]
    refine tak 3 (.pointer (some ⟨q, 1, none⟩)) rfl (Or.inl ⟨by rfl, fun w hSw => by dsimp only at hSw; go_simp⟩) hHeld ?_
    simp only [Act.put, g1, g2, g3, g4, g5, g6]
    refine tak 4 (.string T) rfl (Or.inl ⟨by rfl, fun w hSw => by dsimp only at hSw; go_simp⟩) hHeld ?_
    simp only [Act.put, g1, g2, g3, g4, g5, g6]
    refine tak 6 (.int .i64 (line : Int)) rfl (Or.inl ⟨by rfl, fun w hSw => by dsimp only at hSw; go_simp⟩) hHeld ?_
    simp only [Act.put, g1, g2, g3, g4, g5, g6]
    refine tak 7 (.int .i64 (k : Int)) rfl (Or.inl ⟨by rfl, fun w hSw => by dsimp only at hSw; go_simp⟩) hHeld ?_
    simp only [Act.put, g1, g2, g3, g4, g5, g6]
    refine tak 8 (.int .i64 (start : Int)) rfl (Or.inl ⟨by rfl, fun w hSw => by dsimp only at hSw; go_simp⟩) hHeld ?_
    simp only [Act.put, g1, g2, g3, g4, g5, g6]
    refine tak 9 (.int .i64 ((k : Int) - (start : Int))) rfl (Or.inl ⟨by rfl, fun w hSw => by dsimp only at hSw; (go_simp; try (rw [IntKind.wrap_i64]; omega))⟩) hHeld ?_
    simp only [Act.put, g1, g2, g3, g4, g5, g6]
    refine tak 10 (.int .i64 ((k : Int) - (start : Int) + 1)) rfl (Or.inl ⟨by rfl, fun w hSw => by dsimp only at hSw; (go_simp; try (rw [IntKind.wrap_i64]; omega))⟩) hHeld ?_
    simp only [Act.put, g1, g2, g3, g4, g5, g6]
    refine tak 11 (.agg #[.int .i64 (line : Int), .int .i64 ((k : Int) - (start : Int) + 1)]) rfl (Or.inl ⟨by rfl, fun w hSw => by dsimp only at hSw; (go_simp; try (rw [IntKind.wrap_i64]; omega))⟩) hHeld ?_
    simp only [Act.put, g1, g2, g3, g4, g5, g6]
    refine rdy 5 (by kernel_rfl) rfl fun K hK => ?_
    go_simp
    go_wp2_with (refine (CC.out _).mono ?_; rintro e w6 ⟨rfl, b6⟩; have HQ6 := hide ((b6.block q (heap_lt HQ5.out)).trans HQ5.out); have HP6 := hide ((b6.block p (heap_lt HP5.out)).trans HP5.out); have HB6 := hide (bthen HB5.out b6); have HR6 := hide (row_below HR5.out b6); clear b6)
    refine hK.out _ _ ⟨(five_cells HQ6.out).1.1, (five_cells HQ6.out).1.2.1⟩ (fun hHeld => ?_)
    clear hK K
    try simp only [Act.put, g1, g2, g3, g4, g5, g6]
    clear HQ5 HP5 HB5 HR5 CC
    refine tak 12 (.agg #[.int .i64 (a2 : Int), .string T, .int .i64 (line : Int), .int .i64 ((k : Int) - (start : Int) + 1)]) rfl (Or.inl ⟨by rfl, fun w hSw => by dsimp only at hSw; (go_simp; try (rw [IntKind.wrap_i64]; omega))⟩) hHeld ?_
    simp only [Act.put, g1, g2, g3, g4, g5, g6]
    refine rdy 13 (by kernel_rfl) rfl fun K hK => ?_
    go_simp
    have A1 := hide (balloc (brefl w6) (.cells #[.int .i64 (a2 : Int), .string T, .int .i64 (line : Int), .int .i64 ((k : Int) - (start : Int) + 1)] 95))
    have N2 := hide (heap_new w6 #[.int .i64 (a2 : Int), .string T, .int .i64 (line : Int), .int .i64 ((k : Int) - (start : Int) + 1)] 95)
    have HQ7 := hide ((A1.out.block q (heap_lt HQ6.out)).trans HQ6.out)
    have HP7 := hide ((A1.out.block p (heap_lt HP6.out)).trans HP6.out)
    have HB7 := hide (bthen HB6.out A1.out)
    have HR7 := hide (row_below HR6.out A1.out)
    refine hK.out _ _ ⟨(five_cells HQ7.out).1.1, (five_cells HQ7.out).1.2.1⟩ (fun hHeld => ?_)
    clear hK K
    try simp only [Act.put, g1, g2, g3, g4, g5, g6]
    generalize w6.alloc (.cells #[.int .i64 (a2 : Int), .string T, .int .i64 (line : Int), .int .i64 ((k : Int) - (start : Int) + 1)] 95) = w7 at *
    generalize w6.heap.size = X at *
    clear HQ6 HP6 HB6 HR6 A1
    rw [← HPLC.out.1, ← HPLC.out.2, ← HT.out] at N2
    refine rdy 14 (by kernel_rfl) rfl fun K hK => ?_
    rw [if_pos (by rfl)]
    refine app_tokL _ _ rfl (w.heap.size + 2) u5 (lst s) acc rfl HR7.out ⟨a2, ts, k⟩ X 1 rfl N2.out (by omega) (by have h1 := heap_lt HQ7.out; have h2 := heap_lt HP7.out; have h3 := HPQ.out; have h4 := HPE.out; omega) ?_
    intro v8 w8 o8 g8
    have HB8 := hide (Below.grown HB7.out g8 HB7.out.size (fun j hj => Nat.le_trans (Nat.le_add_right _ _) (HR7.out.lt j hj).1))
    have HP8 := hide ((g8.block p (heap_lt HP7.out) (fun e => by have := (HR7.out.lt p e.symm).1; have := HPQ.out; omega)).trans HP7.out)
    have HQ8 := hide ((g8.block q (heap_lt HQ7.out) (fun e => by have := (HR7.out.lt q e.symm).1; have := HPQ.out; omega)).trans HQ7.out)
    have O8 := hide o8
    clear o8 g8 HQ7 HP7 HB7 HR7 N2
    refine hK.out _ _ ⟨(five_cells HQ8.out).1.1, (five_cells HQ8.out).1.2.1⟩ (fun hHeld => ?_)
    clear hK K
    try simp only [Act.put, g1, g2, g3, g4, g5, g6]
    refine tak 15 (v8) rfl (Or.inl ⟨by rfl, fun w hSw => by dsimp only at hSw; go_simp⟩) hHeld ?_
    simp only [Act.put, g1, g2, g3, g4, g5, g6]
    refine wpAnyH_done (by kernel_rfl) ?_ _
    clear hHeld HPLC HT HTZ
    obtain ⟨⟨_, _, z2, _, _⟩, _⟩ := five_cells HQ8.out
    have hn1 : (n : Int) ≤ 100000 := by omega
    go_wp2_with fail
    exact ⟨⟨k + n, a2, line, start, acc ++ [⟨a2, ts, k⟩], _, _, _, by go_num, by go_num, by go_num, by omega, by omega, by simp; omega, HI5, HL5, O8, HP8, HQ8, HB8⟩, by simp [intOf]; omega⟩
  have hk' : ¬ (k : Int) < (s.size : Int) := by omega
  have HIS : Hid (Is s acc 0 0 0) := Is.of H8.out (HI.out.stop (by rw [lst_size]; exact hk))
  have HROW := hide (row_base HR.out (Nat.le_add_right _ _))
  obtain ⟨⟨_, _, _, _, z4⟩, _⟩ := five_cells HQ.out
  obtain ⟨c0, c1, f0, f1⟩ := two_cells HP.out
  go_wp2_with fail
  have HQ3 := hide (set1 (set0 HP.out (.int .i64 0)) (.int .i64 0))
  have HB3 := hide (bset (bset HB.out (p := ⟨p, 0, none⟩) HPW.out (.int .i64 0)) (p := ⟨p, 1, none⟩) HPW.out (.int .i64 0))
  have HR3 := hide (row_set (row_set HR.out (p := ⟨p, 0, none⟩) HPQ.out.2.2.2.2 (.int .i64 0)) (p := ⟨p, 1, none⟩) HPQ.out.2.2.2.2 (.int .i64 0))
  obtain ⟨t0, t1, _, _⟩ := two_cells HQ3.out
  try rw [Exit.noGoto_ret]
  refine bodyPost_ret (v := .tuple #[u5, .agg #[.int .i64 0, .int .i64 0], .int .i64 0]) ?_ rfl ?_
  ·
   simp [results, Tryz.results19, go_sem, t0, t1]
  exact ⟨_, acc, _, _, _, rfl, row_base HR3.out (Nat.le_add_right _ _), HIS.out, HB3.out⟩
end Go.Proofs.YtnadhplhnfpeaaaGreatDoor.Lx
