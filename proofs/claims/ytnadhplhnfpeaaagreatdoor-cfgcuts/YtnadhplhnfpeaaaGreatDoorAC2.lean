/- Part of the proof. -/
import Derived.Test.YtnadhplhnfpeaaaGreatDoorAZ
import Derived.Test.YtnadhplhnfpeaaaGreatDoorAC1
namespace Go.Proofs.YtnadhplhnfpeaaaGreatDoor.Lx
open Go.RowKit Go.Sort
theorem mrk_iff (c : UInt8) : mrk c = true ↔ c.toNat = 123 ∨ c.toNat = 125 ∨ c.toNat = 59 := by
 unfold mrk
 simp only [Bool.or_eq_true, decide_eq_true_eq, or_assoc]
def RScanTo (s : ByteArray) (w : World) (e : Ending) (w' : World) : Prop :=
  ∃ v ts p q c, e = .returned (.tuple #[v, .agg #[.int .i64 p, .int .i64 q], .int .i64 c]) ∧ w'.ownsRow w.heap.size 84 4 v ts.length (Tok.cells (lst s) ts) ∧ RIs s ts ∧ Below w.heap.size w w'
theorem RScanTo.of {s : ByteArray} {w w' : World} {e : Ending} {v : Value} {ts : List Tok} {p q c : Int} (h1 : e = .returned (.tuple #[v, .agg #[.int .i64 p, .int .i64 q], .int .i64 c])) (h2 : w'.ownsRow w.heap.size 84 4 v ts.length (Tok.cells (lst s) ts)) (h3 : RIs s ts) (h4 : Below w.heap.size w w') : RScanTo s w e w' := ⟨v, ts, p, q, c, h1, h2, h3, h4⟩
set_option maxHeartbeats 4000000 in
set_option maxRecDepth 100000 in
theorem refScan_is (s : ByteArray) (hs : s.size ≤ 100000) (w : World) : Calls Tryz.prog 13 #[.string s] w (RScanTo s w) := by
 have B0 := hide (balloc (brefl w) (.cells #[.int .i64 0, .int .i64 0] 35))
 have P0 := hide (heap_new w #[.int .i64 0, .int .i64 0] 35)
 have HSZ : Hid (w.heap.size + 1 ≤ (w.alloc (.cells #[.int .i64 0, .int .i64 0] 35)).heap.size) := by show _ ≤ _; simp
 go_enter Tryz.func13, Tryz.ntmps13
 obtain ⟨p, hp⟩ : ∃ p, w.heap.size = p := ⟨_, rfl⟩
 have HPW : Hid (w.heap.size ≤ p) := Nat.le_of_eq hp
 have HPE : Hid (w.heap.size = p) := hp
 by_cases h8 : 8192 < s.size
 ·
  have h8' : (8192 : Int) < (s.size : Int) := by omega
  have HIS : Hid (RIs s []) := .inl rfl
  rw [hp] at P0
  go_upto_region 1 with fail
  generalize w.alloc (.cells #[.int .i64 0, .int .i64 0] 35) = W0 at *
  clear hp
  obtain ⟨z0, z1, y0, y1⟩ := two_cells P0.out
  have P3 := hide (set1 (set0 P0.out (.int .i64 1)) (.int .i64 1))
  have B3 := hide (bset (bset B0.out (p := ⟨p, 0, none⟩) HPW.out (.int .i64 1)) (p := ⟨p, 1, none⟩) HPW.out (.int .i64 1))
  obtain ⟨t0, t1, _, _⟩ := two_cells P3.out
  go_wp2_with fail
  exact bodyPost_ret (v := .tuple #[.slice none 0 0, .agg #[.int .i64 1, .int .i64 1], .int .i64 2]) (by simp [results, Tryz.results13, go_sem, t0, t1]) rfl (RScanTo.of rfl (ts := []) (World.ownsRow_nil _ _ _ _) HIS.out B3.out)
 have h8' : ¬ (8192 : Int) < (s.size : Int) := by omega
 have h8 : s.size ≤ 8192 := by omega
 rw [hp] at P0
 go_upto_region 1 with fail
 generalize w.alloc (.cells #[.int .i64 0, .int .i64 0] 35) = W0 at *
 clear hp
 go_wp2_with fail
 go_loopw [5, 6, 7] (fun v5 v6 v7 wr => ∃ (k : Nat) (f : Nat) (b : Bool) (acc : List Tok), v7 = .int .i64 (k : Int) ∧ v6 = .bool b ∧ (b = true → f = 2) ∧ k ≤ s.size ∧ acc.length ≤ k ∧ Hid (Inv (lst s) k f acc) ∧ Hid (wr.ownsRow (w.heap.size + 1) 84 4 v5 acc.length (Tok.cells (lst s) acc)) ∧ Hid (wr.heap[p]? = some (.cells #[.int .i64 0, .int .i64 0] 35 (0, 0))) ∧ Hid (Below w.heap.size w wr)) (fun _ _ v7 _ => s.size - (intOf v7).toNat)
 case atStart => exact ⟨0, 2, true, [], rfl, rfl, fun _ => rfl, Nat.zero_le _, Nat.le_refl _, Inv.start _, World.ownsRow_nil _ _ _ _, P0, B0⟩
 case round =>
  obtain ⟨k, f, b, acc, rfl, rfl, hf2, hks, hak, HI, HR, HP, HB⟩ := hrel
  rcases Nat.lt_or_ge k s.size with hk | hk
  ·
   have hk' : (k : Int) < (s.size : Int) := by omega
   have hkl : k < (lst s).length := by simpa using hk
   have hget : s[k] = (lst s)[k] := rfl
   have hx256 : (lst s)[k].toNat < 256 := (lst s)[k].toNat_lt
   by_cases hb : blk (lst s)[k] = true
   ·
    have HG := hide (HI.out.go (f := f) hkl (stp_blk hkl hb))
    have hb4 := (blk_iff _).1 hb
    rw [← hget] at hb4
    clear hget
    have e1 : (s[k].toNat : Int) = 32 ∨ (s[k].toNat : Int) = 9 ∨ (s[k].toNat : Int) = 13 ∨ (s[k].toNat : Int) = 10 := by omega
    clear hb4 hx256 hb
    rcases e1 with e1 | e1 | e1 | e1
    all_goals
     go_wp2_with fail
     refine ⟨⟨k + 1, 2, true, acc, by go_num, rfl, fun _ => rfl, by omega, by omega, ?_, HR, HP, HB⟩, by simp [intOf]; omega⟩
     have h := HG.out
     rw [show tokOf k none = [] from rfl, List.append_nil] at h
     exact h
   have hb' := bool_not hb
   have n4 := mt (blk_iff _).2 hb
   have e32 : ¬ (s[k].toNat : Int) = 32 := by rw [hget]; omega
   have b32 : ((s[k].toNat : Int) == 32) = false := by rw [beq_eq_false_iff_ne]; exact e32
   have e9 : ¬ (s[k].toNat : Int) = 9 := by rw [hget]; omega
   have b9 : ((s[k].toNat : Int) == 9) = false := by rw [beq_eq_false_iff_ne]; exact e9
   have e13 : ¬ (s[k].toNat : Int) = 13 := by rw [hget]; omega
   have b13 : ((s[k].toNat : Int) == 13) = false := by rw [beq_eq_false_iff_ne]; exact e13
   have e10 : ¬ (s[k].toNat : Int) = 10 := by rw [hget]; omega
   have b10 : ((s[k].toNat : Int) == 10) = false := by rw [beq_eq_false_iff_ne]; exact e10
   clear n4 hb
   by_cases hc35 : (lst s)[k].toNat = 35
   ·
    have HG := hide (HI.out.go (f := f) hkl (stp_rmk hkl hb' hc35))
    have e35 : (s[k].toNat : Int) = 35 := by rw [hget, hc35]; rfl
    have HT1 : Hid (1 ≤ tw rmk (lst s) k) := by
     show _ ≤ _
     rw [tw_step hkl ((rmk_iff _).2 (by rw [hc35]; decide))]
     omega
    clear hget hx256
    go_wp2_with fail
    go_loopw [7] (fun v7 wr' => ∃ j : Nat, v7 = .int .i64 (j : Int) ∧ k ≤ j ∧ j ≤ s.size ∧ j + tw rmk (lst s) j = k + tw rmk (lst s) k ∧ wr = wr') (fun v7 _ => s.size - (intOf v7).toNat)
    case atStart => exact ⟨k, rfl, Nat.le_refl _, by omega, rfl, rfl⟩
    case round =>
     obtain ⟨j, rfl, hkj, hjs, hjt, rfl⟩ := hrel
     by_cases hj : j < s.size
     ·
      have hjl : j < (lst s).length := by simpa using hj
      have hj' : (j : Int) < (s.size : Int) := by omega
      have hgetj : s[j] = (lst s)[j] := rfl
      by_cases hc10 : (lst s)[j].toNat = 10
      ·
       have hw := tw_stop (p := rmk) hjl (bool_not (mt (rmk_iff _).1 (fun h => h hc10)))
       have e10' : (s[j].toNat : Int) = 10 := by rw [hgetj, hc10]; rfl
       have HJ : Hid (j = k + tw rmk (lst s) k) := by show _ = _; omega
       clear hgetj hjt hw
       go_wp2_with fail
       refine ⟨⟨j, 2, true, acc, by go_num, rfl, fun _ => rfl, by omega, by omega, ?_, HR, HP, HB⟩, by simp [intOf]; have := HJ.out; have := HT1.out; omega⟩
       have h := HG.out
       rw [show tokOf k none = [] from rfl, List.append_nil, ← HJ.out] at h
       exact h
      have hw := tw_step (p := rmk) hjl ((rmk_iff _).2 hc10)
      have e10' : ¬ (s[j].toNat : Int) = 10 := by rw [hgetj]; omega
      clear hgetj
      go_wp2_with fail
      exact ⟨⟨j + 1, by go_num, by omega, by omega, by omega, trivial⟩, by simp [intOf]; omega⟩
     have hj' : ¬ (j : Int) < (s.size : Int) := by omega
     have hw := tw_end (p := rmk) (l := lst s) (i := j) (by rw [lst_size]; omega)
     have HJ : Hid (j = k + tw rmk (lst s) k) := by show _ = _; omega
     clear hjt hw
     go_wp2_with fail
     refine ⟨⟨j, 2, true, acc, by go_num, rfl, fun _ => rfl, by omega, by omega, ?_, HR, HP, HB⟩, by simp [intOf]; have := HJ.out; have := HT1.out; omega⟩
     have h := HG.out
     rw [show tokOf k none = [] from rfl, List.append_nil, ← HJ.out] at h
     exact h
   have e35 : ¬ (s[k].toNat : Int) = 35 := by rw [hget]; omega
   by_cases hm : mrk (lst s)[k] = true
   ·
    have HST := hide (stp_mrk (f := f) hkl hb' hc35 hm)
    have hm3 := (mrk_iff _).1 hm
    rw [← hget] at hm3
    have e3 : (s[k].toNat : Int) = 123 ∨ (s[k].toNat : Int) = 125 ∨ (s[k].toNat : Int) = 59 := by omega
    have HTX : Hid (s.extract k (k + 1) = txt [(lst s)[k]]) := by
     show _ = _
     rw [extract_txt, List.drop_eq_getElem_cons hkl, show k + 1 - k = 1 by omega]
     rfl
    clear hm3 hx256 hget hm hc35
    rcases e3 with e3 | e3 | e3
    all_goals
     go_wp2_with fail
     have BD := hide ((brefl wr).drew)
     refine wp_region_held_drew (S := fun _ => True) (by kernel_rfl) trivial (fun hHeld => ?_)
     refine tak 0 (u5) rfl (Or.inl ⟨by rfl, fun w hSw => by dsimp only at hSw; go_simp⟩) hHeld ?_
     simp only [Act.put, g1, g2, g4, g5, g6]
     refine tak 1 (.string s) rfl (Or.inl ⟨by rfl, fun w hSw => by dsimp only at hSw; go_simp⟩) hHeld ?_
     simp only [Act.put, g1, g2, g3, g4, g5, g6]
     refine tak 2 (.int .i64 (k : Int)) rfl (Or.inl ⟨by rfl, fun w hSw => by dsimp only at hSw; go_simp⟩) hHeld ?_
     simp only [Act.put, g1, g2, g3, g4, g5, g6]
     refine tak 3 (.int .i64 (k : Int)) rfl (Or.inl ⟨by rfl, fun w hSw => by dsimp only at hSw; go_simp⟩) hHeld ?_
     simp only [Act.put, g1, g2, g3, g4, g5, g6]
     refine tak 4 (.int .i64 ((k : Int) + 1)) rfl (Or.inl ⟨by rfl, fun w hSw => by dsimp only at hSw; go_simp; rw [IntKind.wrap_i64]; omega⟩) hHeld ?_
     simp only [Act.put, g1, g2, g3, g4, g5, g6]
     refine tak 5 (.string (s.extract k (k + 1))) rfl (Or.inl ⟨by rfl, fun w hSw => by dsimp only at hSw; go_simp; rw [if_pos ⟨by omega, by omega⟩, if_pos (by omega)]⟩) hHeld ?_
     simp only [Act.put, g1, g2, g3, g4, g5, g6]
     refine tak 6 (.string s) rfl (Or.inl ⟨by rfl, fun w hSw => by dsimp only at hSw; go_simp⟩) hHeld ?_
     simp only [Act.put, g1, g2, g3, g4, g5, g6]
     refine tak 7 (.int .i64 (k : Int)) rfl (Or.inl ⟨by rfl, fun w hSw => by dsimp only at hSw; go_simp⟩) hHeld ?_
     simp only [Act.put, g1, g2, g3, g4, g5, g6]
     have CP : Hid (∀ W, Calls Tryz.prog 15 #[.string s, .int .i64 (k : Int)] W fun e w' => e = .returned (.agg #[.int .i64 ((plc (lst s) (k)).1 : Nat), .int .i64 ((plc (lst s) (k)).2 : Nat)]) ∧ Below W.heap.size W w') := fun W => by have h := refPlace_is s (k : Int) hs W; rw [Int.toNat_natCast] at h; exact h
     refine rdy 8 (by kernel_rfl) rfl fun K hK => ?_
     go_simp
     go_wp2_with (refine (CP.out _).mono ?_; rintro e w1 ⟨rfl, b0⟩; have b1 := bthen BD.out b0; have B1 := hide (bthen HB.out b1); have P1 := hide ((b1.block p (heap_lt HP.out)).trans HP.out); have R1 := hide (row_below HR.out b1); clear b1 b0 BD)
     refine hK.out _ _ trivial (fun hHeld => ?_)
     clear hK K
     try simp only [Act.put, g1, g2, g3, g4, g5, g6]
     refine tak 9 (.agg #[.int .i64 2, .string (s.extract k (k + 1)), .int .i64 ((plc (lst s) k).1 : Nat), .int .i64 ((plc (lst s) k).2 : Nat)]) rfl (Or.inl ⟨by rfl, fun w hSw => by dsimp only at hSw; go_simp⟩) hHeld ?_
     simp only [Act.put, g1, g2, g3, g4, g5, g6]
     refine rdy 10 (by kernel_rfl) rfl fun K hK => ?_
     go_simp
     have A1 := hide (balloc (brefl w1) (.cells #[.int .i64 2, .string (s.extract k (k + 1)), .int .i64 ((plc (lst s) k).1 : Nat), .int .i64 ((plc (lst s) k).2 : Nat)] 84))
     have N2 := hide (heap_new w1 #[.int .i64 2, .string (s.extract k (k + 1)), .int .i64 ((plc (lst s) k).1 : Nat), .int .i64 ((plc (lst s) k).2 : Nat)] 84)
     have B2 := hide (bthen B1.out A1.out)
     have P2 := hide ((A1.out.block p (heap_lt P1.out)).trans P1.out)
     have R2 := hide (row_below R1.out A1.out)
     have hX : w1.heap.size = w1.heap.size := rfl
     refine hK.out _ _ trivial (fun hHeld => ?_)
     clear hK K
     try simp only [Act.put, g1, g2, g3, g4, g5, g6]
     generalize w1.alloc (.cells #[.int .i64 2, .string (s.extract k (k + 1)), .int .i64 ((plc (lst s) k).1 : Nat), .int .i64 ((plc (lst s) k).2 : Nat)] 84) = w2 at *
     generalize w1.heap.size = X at *
     clear B1 P1 R1 A1
     refine rdy 11 (by kernel_rfl) rfl fun K hK => ?_
     rw [if_pos (by rfl)]
     rw [HTX.out] at N2
     refine app_tokR _ _ rfl (w.heap.size + 1) u5 (lst s) acc rfl R2.out ⟨2, [(lst s)[k]], k⟩ X 1 rfl N2.out (by omega) (by have := heap_lt P2.out; have := HPE.out; omega) ?_
     intro v5 w5 o5 g5
     have B5 := hide (Below.grown B2.out g5 B2.out.size (fun j hj => Nat.le_of_succ_le (R2.out.lt j hj).1))
     have P5 := hide ((g5.block p (heap_lt P2.out) (fun e => by have := (R2.out.lt p e.symm).1; have := HPE.out; omega)).trans P2.out)
     have O5 := hide o5
     clear o5 g5
     refine hK.out _ _ trivial (fun hHeld => ?_)
     clear hK K
     try simp only [Act.put, g1, g2, g3, g4, g5, g6]
     refine tak 12 (v5) rfl (Or.inl ⟨by rfl, fun w hSw => by dsimp only at hSw; go_simp⟩) hHeld ?_
     simp only [Act.put, g1, g2, g3, g4, g5, g6]
     refine wpAnyH_done (by kernel_rfl) ?_ _
     have HI5 := hide (HI.out.go hkl HST.out)
     clear B2 P2 R2 N2 hHeld
     go_wp2_with fail
     exact ⟨⟨k + 1, 2, true, acc ++ [⟨2, [(lst s)[k]], k⟩], by go_num, rfl, by simp, by omega, by simp; omega, HI5, O5, P5, B5⟩, by simp [intOf]; omega⟩
   have hm' := bool_not hm
   have n3 := mt (mrk_iff _).2 hm
   have e123 : ¬ (s[k].toNat : Int) = 123 := by rw [hget]; omega
   have b123 : ((s[k].toNat : Int) == 123) = false := by rw [beq_eq_false_iff_ne]; exact e123
   have e125 : ¬ (s[k].toNat : Int) = 125 := by rw [hget]; omega
   have b125 : ((s[k].toNat : Int) == 125) = false := by rw [beq_eq_false_iff_ne]; exact e125
   have e59 : ¬ (s[k].toNat : Int) = 59 := by rw [hget]; omega
   have b59 : ((s[k].toNat : Int) == 59) = false := by rw [beq_eq_false_iff_ne]; exact e59
   clear n3 hm
   by_cases hff : b = false
   focus
    subst hff
    clear hget hx256
   rotate_left
   focus
    have hft : b = true := by cases b <;> simp_all
    subst hft
    obtain rfl : f = 2 := hf2 rfl
    clear hff hf2
    by_cases h34 : (lst s)[k].toNat = 34
    ·
     have HST := hide (stp_text hkl h34)
     have e34 : (s[k].toNat : Int) = 34 := by rw [hget, h34]; rfl
     have CT := hide (fun W => refText_is s k hs hk W)
     clear hget hx256
     generalize txo (lst s) k = o at *
     obtain ⟨en, ee⟩ := o
     simp only at CT HST
     have hst := HST.out
     clear HST
     go_wp2_with fail
     refine (CT.out _).mono ?_
     rintro e w1 ⟨rfl, rfl⟩
     clear CT
     by_cases hee : ee = 0
     ·
      subst hee
      obtain ⟨hst, hen3, hen4⟩ := hst rfl
      rw [lst_size] at hen4
      have HST := hide hst
      have HTX : Hid (s.extract (k + 1) en = txt (((lst s).drop (k + 1)).take (en - (k + 1)))) := extract_txt s (k + 1) en
      clear hst
      go_wp2_with fail
      have BD := hide ((brefl wr).drew)
      refine wp_region_held_drew (S := fun _ => True) (by kernel_rfl) trivial (fun hHeld => ?_)
      refine tak 0 (u5) rfl (Or.inl ⟨by rfl, fun w hSw => by dsimp only at hSw; go_simp⟩) hHeld ?_
      simp only [Act.put, g1, g2, g4, g5, g6]
      refine tak 1 (.string s) rfl (Or.inl ⟨by rfl, fun w hSw => by dsimp only at hSw; go_simp⟩) hHeld ?_
      simp only [Act.put, g1, g2, g3, g4, g5, g6]
      refine tak 2 (.int .i64 (k : Int)) rfl (Or.inl ⟨by rfl, fun w hSw => by dsimp only at hSw; go_simp⟩) hHeld ?_
      simp only [Act.put, g1, g2, g3, g4, g5, g6]
      refine tak 3 (.int .i64 ((k : Int) + 1)) rfl (Or.inl ⟨by rfl, fun w hSw => by dsimp only at hSw; go_simp; rw [IntKind.wrap_i64]; omega⟩) hHeld ?_
      simp only [Act.put, g1, g2, g3, g4, g5, g6]
      refine tak 4 (.int .i64 (en : Int)) rfl (Or.inl ⟨by rfl, fun w hSw => by dsimp only at hSw; go_simp⟩) hHeld ?_
      simp only [Act.put, g1, g2, g3, g4, g5, g6]
      refine tak 5 (.string (s.extract (k + 1) en)) rfl (Or.inl ⟨by rfl, fun w hSw => by dsimp only at hSw; go_simp; rw [if_pos (by omega), if_pos ⟨by omega, by omega⟩]⟩) hHeld ?_
      simp only [Act.put, g1, g2, g3, g4, g5, g6]
      refine tak 6 (.string s) rfl (Or.inl ⟨by rfl, fun w hSw => by dsimp only at hSw; go_simp⟩) hHeld ?_
      simp only [Act.put, g1, g2, g3, g4, g5, g6]
      refine tak 7 (.int .i64 (k : Int)) rfl (Or.inl ⟨by rfl, fun w hSw => by dsimp only at hSw; go_simp⟩) hHeld ?_
      simp only [Act.put, g1, g2, g3, g4, g5, g6]
      have CP : Hid (∀ W, Calls Tryz.prog 15 #[.string s, .int .i64 (k : Int)] W fun e w' => e = .returned (.agg #[.int .i64 ((plc (lst s) (k)).1 : Nat), .int .i64 ((plc (lst s) (k)).2 : Nat)]) ∧ Below W.heap.size W w') := fun W => by have h := refPlace_is s (k : Int) hs W; rw [Int.toNat_natCast] at h; exact h
      refine rdy 8 (by kernel_rfl) rfl fun K hK => ?_
      go_simp
      go_wp2_with (refine (CP.out _).mono ?_; rintro e w1 ⟨rfl, b0⟩; have b1 := bthen BD.out b0; have B1 := hide (bthen HB.out b1); have P1 := hide ((b1.block p (heap_lt HP.out)).trans HP.out); have R1 := hide (row_below HR.out b1); clear b1 b0 BD)
      refine hK.out _ _ trivial (fun hHeld => ?_)
      clear hK K
      try simp only [Act.put, g1, g2, g3, g4, g5, g6]
      refine tak 9 (.agg #[.int .i64 1, .string (s.extract (k + 1) en), .int .i64 ((plc (lst s) k).1 : Nat), .int .i64 ((plc (lst s) k).2 : Nat)]) rfl (Or.inl ⟨by rfl, fun w hSw => by dsimp only at hSw; go_simp⟩) hHeld ?_
      simp only [Act.put, g1, g2, g3, g4, g5, g6]
      refine rdy 10 (by kernel_rfl) rfl fun K hK => ?_
      go_simp
      have A1 := hide (balloc (brefl w1) (.cells #[.int .i64 1, .string (s.extract (k + 1) en), .int .i64 ((plc (lst s) k).1 : Nat), .int .i64 ((plc (lst s) k).2 : Nat)] 84))
      have N2 := hide (heap_new w1 #[.int .i64 1, .string (s.extract (k + 1) en), .int .i64 ((plc (lst s) k).1 : Nat), .int .i64 ((plc (lst s) k).2 : Nat)] 84)
      have B2 := hide (bthen B1.out A1.out)
      have P2 := hide ((A1.out.block p (heap_lt P1.out)).trans P1.out)
      have R2 := hide (row_below R1.out A1.out)
      have hX : w1.heap.size = w1.heap.size := rfl
      refine hK.out _ _ trivial (fun hHeld => ?_)
      clear hK K
      try simp only [Act.put, g1, g2, g3, g4, g5, g6]
      generalize w1.alloc (.cells #[.int .i64 1, .string (s.extract (k + 1) en), .int .i64 ((plc (lst s) k).1 : Nat), .int .i64 ((plc (lst s) k).2 : Nat)] 84) = w2 at *
      generalize w1.heap.size = X at *
      clear B1 P1 R1 A1
      refine rdy 11 (by kernel_rfl) rfl fun K hK => ?_
      rw [if_pos (by rfl)]
      rw [HTX.out] at N2
      refine app_tokR _ _ rfl (w.heap.size + 1) u5 (lst s) acc rfl R2.out ⟨1, (((lst s).drop (k + 1)).take (en - (k + 1))), k⟩ X 1 rfl N2.out (by omega) (by have := heap_lt P2.out; have := HPE.out; omega) ?_
      intro v5 w5 o5 g5
      have B5 := hide (Below.grown B2.out g5 B2.out.size (fun j hj => Nat.le_of_succ_le (R2.out.lt j hj).1))
      have P5 := hide ((g5.block p (heap_lt P2.out) (fun e => by have := (R2.out.lt p e.symm).1; have := HPE.out; omega)).trans P2.out)
      have O5 := hide o5
      clear o5 g5
      refine hK.out _ _ trivial (fun hHeld => ?_)
      clear hK K
      try simp only [Act.put, g1, g2, g3, g4, g5, g6]
      refine tak 12 (v5) rfl (Or.inl ⟨by rfl, fun w hSw => by dsimp only at hSw; go_simp⟩) hHeld ?_
      simp only [Act.put, g1, g2, g3, g4, g5, g6]
      refine wpAnyH_done (by kernel_rfl) ?_ _
      have HI5 := hide (HI.out.go hkl HST.out)
      clear B2 P2 R2 N2 hHeld
      go_wp2_with fail
      exact ⟨⟨en + 1, 1, false, acc ++ [⟨1, (((lst s).drop (k + 1)).take (en - (k + 1))), k⟩], by go_num, rfl, by simp, by omega, by simp; omega, (by have h := HI5.out; rw [show k + (en + 1 - k) = en + 1 by omega] at h; exact h), O5, P5, B5⟩, by simp [intOf]; omega⟩
     have hee' : (ee != 0) = true := by rw [bne_iff_ne]; exact hee
     clear hst hee
     have CP : Hid (∀ W, Calls Tryz.prog 15 #[.string s, .int .i64 (en : Int)] W fun e w' => e = .returned (.agg #[.int .i64 ((plc (lst s) (en)).1 : Nat), .int .i64 ((plc (lst s) (en)).2 : Nat)]) ∧ Below W.heap.size W w') := fun W => by have h := refPlace_is s (en : Int) hs W; rw [Int.toNat_natCast] at h; exact h
     go_wp2_with fail
     refine (CP.out _).mono ?_
     rintro e w1 ⟨rfl, b1⟩
     have B1 := hide (bthen HB.out b1)
     have P1 := hide ((b1.block p (heap_lt HP.out)).trans HP.out)
     clear b1 CP
     have HIS : Hid (RIs s []) := .inl rfl
     obtain ⟨z0, z1, y0, y1⟩ := two_cells P1.out
     have P3 := hide (set1 (set0 P1.out (.int .i64 ((plc (lst s) (en)).1 : Nat))) (.int .i64 ((plc (lst s) (en)).2 : Nat)))
     have B3 := hide (bset (bset B1.out (p := ⟨p, 0, none⟩) HPW.out (.int .i64 ((plc (lst s) (en)).1 : Nat))) (p := ⟨p, 1, none⟩) HPW.out (.int .i64 ((plc (lst s) (en)).2 : Nat)))
     obtain ⟨t0, t1, _, _⟩ := two_cells P3.out
     go_wp2_with fail
     exact bodyPost_ret (v := .tuple #[.slice none 0 0, .agg #[.int .i64 ((plc (lst s) (en)).1 : Nat), .int .i64 ((plc (lst s) (en)).2 : Nat)], .int .i64 ee]) (by simp [results, Tryz.results13, go_sem, t0, t1]) rfl (RScanTo.of rfl (ts := []) (World.ownsRow_nil _ _ _ _) HIS.out B3.out)
    have e34 : ¬ (s[k].toNat : Int) = 34 := by rw [hget]; omega
    have b34 : ((s[k].toNat : Int) == 34) = false := by rw [beq_eq_false_iff_ne]; exact e34
    have CL := hide (fun W => refLetter_is s[k] W)
    by_cases hl : ltr (lst s)[k] = true
    ·
     have HST := hide (stp_word hkl hb' hc35 hm' h34 hl)
     have hl' : ltr s[k] = true := hl
     clear hget hx256 hl
     go_wp2_with fail
     refine (CL.out _).mono ?_
     rintro e w1 ⟨rfl, rfl⟩
     go_wp2_with fail
     clear CL
     go_loopw [11] (fun v11 wr' => ∃ j : Nat, v11 = .int .i64 (j : Int) ∧ k ≤ j ∧ j ≤ s.size ∧ j + tw ltr (lst s) j = k + tw ltr (lst s) k ∧ wr = wr') (fun v11 _ => s.size - (intOf v11).toNat)
     case atStart => exact ⟨k, rfl, Nat.le_refl _, by omega, rfl, rfl⟩
     case round =>
      obtain ⟨j, rfl, hkj, hjs, hjt, rfl⟩ := hrel
      by_cases hj : j < s.size
      focus
       have hjl : j < (lst s).length := by simpa using hj
       have hj' : (j : Int) < (s.size : Int) := by omega
       have CL := hide (fun W => refLetter_is s[j] W)
       by_cases hlj : ltr (lst s)[j] = true
       ·
        have hw := tw_step (p := ltr) hjl hlj
        have hlj' : ltr s[j] = true := hlj
        clear hlj
        go_wp2_with fail
        refine (CL.out _).mono ?_
        rintro e w1 ⟨rfl, rfl⟩
        clear CL
        go_wp2_with fail
        first | exact ⟨⟨j + 1, by go_num, by omega, by omega, by omega, trivial⟩, by simp [intOf]; omega⟩ | exact ⟨⟨.int .i64 ((j : Int) + 1), _, _, _, _, _, _, _, _, _, _, _, _, ⟨j + 1, by go_num, by omega, by omega, by omega, trivial⟩, rfl⟩, by simp [intOf]; omega⟩
       have hw := tw_stop (p := ltr) hjl (bool_not hlj)
       have hlj' : ltr s[j] = false := bool_not hlj
       clear hlj
       go_wp2_with fail
       refine (CL.out _).mono ?_
       rintro e w1 ⟨rfl, rfl⟩
       clear CL
      rotate_left
      focus
       have hj' : ¬ (j : Int) < (s.size : Int) := by omega
       have hw := tw_end (p := ltr) (l := lst s) (i := j) (by rw [lst_size]; omega)
      all_goals
       have hjk : tw ltr (lst s) k = j - k := by omega
       have hst := HST.out
       rw [hjk] at hst
       have HT1 : Hid (1 ≤ tw ltr (lst s) k) := by show _ ≤ _; rw [tw_step hkl hl']; omega
       rw [hjk] at HT1
       clear HST hjt hw hjk
       by_cases h32 : 32 < j - k
       ·
        rw [if_pos h32] at hst
        have HST := hide hst
        have e32w : (32 : Int) < (j : Int) - (k : Int) := by omega
        clear hst
        have CP : Hid (∀ W, Calls Tryz.prog 15 #[.string s, .int .i64 (k : Int)] W fun e w' => e = .returned (.agg #[.int .i64 ((plc (lst s) (k)).1 : Nat), .int .i64 ((plc (lst s) (k)).2 : Nat)]) ∧ Below W.heap.size W w') := fun W => by have h := refPlace_is s (k : Int) hs W; rw [Int.toNat_natCast] at h; exact h
        go_wp2_with fail
        refine (CP.out _).mono ?_
        rintro e w1 ⟨rfl, b1⟩
        have B1 := hide (bthen HB.out b1)
        have P1 := hide ((b1.block p (heap_lt HP.out)).trans HP.out)
        clear b1 CP
        have HIS : Hid (RIs s []) := .inl rfl
        obtain ⟨z0, z1, y0, y1⟩ := two_cells P1.out
        have P3 := hide (set1 (set0 P1.out (.int .i64 ((plc (lst s) (k)).1 : Nat))) (.int .i64 ((plc (lst s) (k)).2 : Nat)))
        have B3 := hide (bset (bset B1.out (p := ⟨p, 0, none⟩) HPW.out (.int .i64 ((plc (lst s) (k)).1 : Nat))) (p := ⟨p, 1, none⟩) HPW.out (.int .i64 ((plc (lst s) (k)).2 : Nat)))
        obtain ⟨t0, t1, _, _⟩ := two_cells P3.out
        go_wp2_with fail
        exact bodyPost_ret (v := .tuple #[.slice none 0 0, .agg #[.int .i64 ((plc (lst s) (k)).1 : Nat), .int .i64 ((plc (lst s) (k)).2 : Nat)], .int .i64 2]) (by simp [results, Tryz.results13, go_sem, t0, t1]) rfl (RScanTo.of rfl (ts := []) (World.ownsRow_nil _ _ _ _) HIS.out B3.out)
       rw [if_neg h32] at hst
       have HST := hide hst
       have e32w : ¬ (32 : Int) < (j : Int) - (k : Int) := by omega
       have h1j := HT1.out
       have HTX : Hid (s.extract k j = txt (((lst s).drop k).take (j - k))) := extract_txt s k j
       clear hst
       go_wp2_with fail
       have BD := hide ((brefl wr).drew)
       refine wp_region_held_drew (S := fun _ => True) (by kernel_rfl) trivial (fun hHeld => ?_)
       refine tak 0 (u5) rfl (Or.inl ⟨by rfl, fun w hSw => by dsimp only at hSw; go_simp⟩) hHeld ?_
       simp only [Act.put, g1, g2, g4, g5, g6]
       refine tak 1 (.string s) rfl (Or.inl ⟨by rfl, fun w hSw => by dsimp only at hSw; go_simp⟩) hHeld ?_
       simp only [Act.put, g1, g2, g3, g4, g5, g6]
       refine tak 2 (.int .i64 (k : Int)) rfl (Or.inl ⟨by rfl, fun w hSw => by dsimp only at hSw; go_simp⟩) hHeld ?_
       simp only [Act.put, g1, g2, g3, g4, g5, g6]
       refine tak 3 (.int .i64 (j : Int)) rfl (Or.inl ⟨by rfl, fun w hSw => by dsimp only at hSw; go_simp⟩) hHeld ?_
       simp only [Act.put, g1, g2, g3, g4, g5, g6]
       refine tak 4 (.string (s.extract k j)) rfl (Or.inl ⟨by rfl, fun w hSw => by dsimp only at hSw; go_simp⟩) hHeld ?_
       simp only [Act.put, g1, g2, g3, g4, g5, g6]
       refine tak 5 (.string s) rfl (Or.inl ⟨by rfl, fun w hSw => by dsimp only at hSw; go_simp⟩) hHeld ?_
       simp only [Act.put, g1, g2, g3, g4, g5, g6]
       refine tak 6 (.int .i64 (k : Int)) rfl (Or.inl ⟨by rfl, fun w hSw => by dsimp only at hSw; go_simp⟩) hHeld ?_
       simp only [Act.put, g1, g2, g3, g4, g5, g6]
       have CP : Hid (∀ W, Calls Tryz.prog 15 #[.string s, .int .i64 (k : Int)] W fun e w' => e = .returned (.agg #[.int .i64 ((plc (lst s) (k)).1 : Nat), .int .i64 ((plc (lst s) (k)).2 : Nat)]) ∧ Below W.heap.size W w') := fun W => by have h := refPlace_is s (k : Int) hs W; rw [Int.toNat_natCast] at h; exact h
       refine rdy 7 (by kernel_rfl) rfl fun K hK => ?_
       go_simp
       go_wp2_with (refine (CP.out _).mono ?_; rintro e w1 ⟨rfl, b0⟩; have b1 := bthen BD.out b0; have B1 := hide (bthen HB.out b1); have P1 := hide ((b1.block p (heap_lt HP.out)).trans HP.out); have R1 := hide (row_below HR.out b1); clear b1 b0 BD)
       refine hK.out _ _ trivial (fun hHeld => ?_)
       clear hK K
       try simp only [Act.put, g1, g2, g3, g4, g5, g6]
       refine tak 8 (.agg #[.int .i64 0, .string (s.extract k j), .int .i64 ((plc (lst s) k).1 : Nat), .int .i64 ((plc (lst s) k).2 : Nat)]) rfl (Or.inl ⟨by rfl, fun w hSw => by dsimp only at hSw; go_simp⟩) hHeld ?_
       simp only [Act.put, g1, g2, g3, g4, g5, g6]
       refine rdy 9 (by kernel_rfl) rfl fun K hK => ?_
       go_simp
       have A1 := hide (balloc (brefl w1) (.cells #[.int .i64 0, .string (s.extract k j), .int .i64 ((plc (lst s) k).1 : Nat), .int .i64 ((plc (lst s) k).2 : Nat)] 84))
       have N2 := hide (heap_new w1 #[.int .i64 0, .string (s.extract k j), .int .i64 ((plc (lst s) k).1 : Nat), .int .i64 ((plc (lst s) k).2 : Nat)] 84)
       have B2 := hide (bthen B1.out A1.out)
       have P2 := hide ((A1.out.block p (heap_lt P1.out)).trans P1.out)
       have R2 := hide (row_below R1.out A1.out)
       have hX : w1.heap.size = w1.heap.size := rfl
       refine hK.out _ _ trivial (fun hHeld => ?_)
       clear hK K
       try simp only [Act.put, g1, g2, g3, g4, g5, g6]
       generalize w1.alloc (.cells #[.int .i64 0, .string (s.extract k j), .int .i64 ((plc (lst s) k).1 : Nat), .int .i64 ((plc (lst s) k).2 : Nat)] 84) = w2 at *
       generalize w1.heap.size = X at *
       clear B1 P1 R1 A1
       refine rdy 10 (by kernel_rfl) rfl fun K hK => ?_
       rw [if_pos (by rfl)]
       rw [HTX.out] at N2
       refine app_tokR _ _ rfl (w.heap.size + 1) u5 (lst s) acc rfl R2.out ⟨0, (((lst s).drop k).take (j - k)), k⟩ X 1 rfl N2.out (by omega) (by have := heap_lt P2.out; have := HPE.out; omega) ?_
       intro v5 w5 o5 g5
       have B5 := hide (Below.grown B2.out g5 B2.out.size (fun j hj => Nat.le_of_succ_le (R2.out.lt j hj).1))
       have P5 := hide ((g5.block p (heap_lt P2.out) (fun e => by have := (R2.out.lt p e.symm).1; have := HPE.out; omega)).trans P2.out)
       have O5 := hide o5
       clear o5 g5
       refine hK.out _ _ trivial (fun hHeld => ?_)
       clear hK K
       try simp only [Act.put, g1, g2, g3, g4, g5, g6]
       refine tak 11 (v5) rfl (Or.inl ⟨by rfl, fun w hSw => by dsimp only at hSw; go_simp⟩) hHeld ?_
       simp only [Act.put, g1, g2, g3, g4, g5, g6]
       refine wpAnyH_done (by kernel_rfl) ?_ _
       have HI5 := hide (HI.out.go hkl HST.out)
       clear B2 P2 R2 N2 hHeld
       go_wp2_with fail
       exact ⟨⟨j, 0, false, acc ++ [⟨0, (((lst s).drop k).take (j - k)), k⟩], by go_num, rfl, by simp, by omega, by simp; omega, (by have h := HI5.out; rw [show k + (j - k) = j by omega] at h; exact h), O5, P5, B5⟩, by simp [intOf]; omega⟩
    have hlf := bool_not hl
    have hl' : ltr s[k] = false := hlf
    clear hget hx256 hl hlf
    go_wp2_with fail
    refine (CL.out _).mono ?_
    rintro e w1 ⟨rfl, rfl⟩
   all_goals
    have CP : Hid (∀ W, Calls Tryz.prog 15 #[.string s, .int .i64 (k : Int)] W fun e w' => e = .returned (.agg #[.int .i64 ((plc (lst s) (k)).1 : Nat), .int .i64 ((plc (lst s) (k)).2 : Nat)]) ∧ Below W.heap.size W w') := fun W => by have h := refPlace_is s (k : Int) hs W; rw [Int.toNat_natCast] at h; exact h
    go_wp2_with fail
    refine (CP.out _).mono ?_
    rintro e w1 ⟨rfl, b1⟩
    have B1 := hide (bthen HB.out b1)
    have P1 := hide ((b1.block p (heap_lt HP.out)).trans HP.out)
    clear b1 CP
    have HIS : Hid (RIs s []) := .inl rfl
    obtain ⟨z0, z1, y0, y1⟩ := two_cells P1.out
    have P3 := hide (set1 (set0 P1.out (.int .i64 ((plc (lst s) (k)).1 : Nat))) (.int .i64 ((plc (lst s) (k)).2 : Nat)))
    have B3 := hide (bset (bset B1.out (p := ⟨p, 0, none⟩) HPW.out (.int .i64 ((plc (lst s) (k)).1 : Nat))) (p := ⟨p, 1, none⟩) HPW.out (.int .i64 ((plc (lst s) (k)).2 : Nat)))
    obtain ⟨t0, t1, _, _⟩ := two_cells P3.out
    go_wp2_with fail
    exact bodyPost_ret (v := .tuple #[.slice none 0 0, .agg #[.int .i64 ((plc (lst s) (k)).1 : Nat), .int .i64 ((plc (lst s) (k)).2 : Nat)], .int .i64 4]) (by simp [results, Tryz.results13, go_sem, t0, t1]) rfl (RScanTo.of rfl (ts := []) (World.ownsRow_nil _ _ _ _) HIS.out B3.out)
  obtain rfl : k = s.size := by omega
  have HSC := hide (HI.out.stop (by rw [lst_size]; exact Nat.le_refl _))
  have hk' : ¬ (s.size : Int) < (s.size : Int) := by omega
  have HIS : Hid (RIs s acc) := .inr ⟨HSC.out, h8⟩
  obtain ⟨z0, z1, y0, y1⟩ := two_cells HP.out
  have P3 := hide (set1 (set0 HP.out (.int .i64 0)) (.int .i64 0))
  have B3 := hide (bset (bset HB.out (p := ⟨p, 0, none⟩) HPW.out (.int .i64 0)) (p := ⟨p, 1, none⟩) HPW.out (.int .i64 0))
  have R3 := hide (row_set (row_set HR.out (p := ⟨p, 0, none⟩) (by have := HPE.out; show p < _; omega) (.int .i64 0)) (p := ⟨p, 1, none⟩) (by have := HPE.out; show p < _; omega) (.int .i64 0))
  obtain ⟨t0, t1, _, _⟩ := two_cells P3.out
  clear HSC HI
  go_wp2_with fail
  exact bodyPost_ret (v := .tuple #[u5, .agg #[.int .i64 0, .int .i64 0], .int .i64 0]) (by simp [results, Tryz.results13, go_sem, t0, t1]) rfl (RScanTo.of rfl (row_base R3.out (Nat.le_succ _)) HIS.out B3.out)
end Go.Proofs.YtnadhplhnfpeaaaGreatDoor.Lx
