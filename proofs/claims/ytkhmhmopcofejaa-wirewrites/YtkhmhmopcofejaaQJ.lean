import Derived.Test.YtkhmhmopcofejaaQI
import Derived.Test.YtkhmhmopcofejaaPJ
/- The contract of the reader's update. -/
namespace Go.Proofs.Ytkhmhmopcofejaa
open Go.RowKit Go.Sort

def Upd (w : World) (rb : Nat) (l : List UInt8) (e : Ending) (w' : World) : Prop :=
  (∃ (u : Up) (wo tq po co ko : Option Addr) (cw ct cp cc ck : Nat), e = .returned (.agg #[.slice wo u.wd.length cw, .slice tq u.td.length ct, .int .i64 u.at_.pf, .int .i64 u.at_.md, .int .i64 u.at_.og, .slice po u.at_.path.length cp, .slice co u.at_.comms.length cc, .int .i64 u.at_.fr, .slice ko u.at_.cl.length ck]) ∧ Up.lies w' u wo tq po co ko ∧ Up.came u wo tq po co ko cw ct cp cc ck ∧ u.fits ∧ u.Some ∧ (Far w' wo w.heap.size ∧ Far w' tq w.heap.size ∧ Far w' po w.heap.size ∧ Far w' co w.heap.size ∧ Far w' ko w.heap.size) ∧ (∀ v : Up, v.may → v.enc = l → u = v) ∧ w.grownBy w' (some rb)) ∨ (e = pan ∧ NoUp l ∧ w.grownBy w' (some rb))
theorem gp_fits {l : List (Int × Int)} (h : ∀ p ∈ l, Gp p) : Ax.Ad.fits l := fun p hp => ⟨(h p hp).1, (h p hp).2.1⟩
theorem some_ne {x N s g : Nat} (h1 : x < N) (h2 : N ≤ s) (h3 : s ≤ g) : some x ≠ some g := fun e => by
  have e' : x = g := by simpa using e
  omega
theorem setCells_grown (w : World) (p : Nat) : w.grownBy w (some p) := grown_refl w _
set_option maxHeartbeats 8000000 in
set_option maxRecDepth 100000 in
theorem update_is (rb b off c : Nat) (l : List UInt8) (w : World) (hR : Rdr w rb b off c l 0) (h19 : 19 ≤ l.length) (_h40 : hdN l ≤ 4096 → l.length = hdN l → l.length ≤ 4096) :
    Calls Try.prog 32 #[.pointer (some ⟨rb, 0, none⟩)] w (Upd w rb l) := by
  have HRB : Hid (rb < w.heap.size ∧ b < w.heap.size ∧ rb ≠ b) := ⟨heap_lt hR.cell, hR.lt, hR.ne⟩
  have hln := hR.len
  have CG := hide (fun W => giveUp_is W)
  obtain ⟨W, hW⟩ : ∃ W, w.alloc (.cells #[.slice none 0 0, .slice none 0 0, .int .i64 0, .int .i64 0, .int .i64 0, .slice none 0 0, .slice none 0 0, .int .i64 0, .slice none 0 0] 35) = W := ⟨_, rfl⟩
  have BW : Hid (Below w.heap.size w W) := by rw [← hW]; exact balloc (brefl w) _
  have NQ : Hid (W.heap[w.heap.size]? = some (.cells #[.slice none 0 0, .slice none 0 0, .int .i64 0, .int .i64 0, .int .i64 0, .slice none 0 0, .slice none 0 0, .int .i64 0, .slice none 0 0] 35 (0, 0))) := by rw [← hW]; exact heap_new w _ 35
  have HS : Hid (W.heap.size = w.heap.size + 1) := by show _ = _; rw [← hW]; simp
  have HR := hide (hR.below BW.out)
  have CH := hide (head_is b off c l h19 (by omega) HR.out.cap W HR.out.reads)
  obtain ⟨c0, c1, f0, f1⟩ := two_cells HR.out.cell
  clear hR
  by_cases hok : hdU l
  rotate_left
  · have HN := hide (no_head hok)
    by_cases ho : hdOk l
    · have hv : hdV l = .tuple #[.int .i64 (hdN l : Nat), .int .i64 (kd l : Nat), .bool true] := if_pos ho
      rw [hv] at CH
      by_cases hn : hdN l = l.length
      · have e1 : (((hdN l : Nat) : Int) != (l.length : Int)) = false := by rw [hn]; simp
        have e2 : (((kd l : Nat) : Int) != 2) = true := by
          have : kd l ≠ 2 := fun e => hok ⟨ho, hn, e⟩
          simp
          omega
        clear hok ho hn hv
        go_enter Try.func32, Try.ntmps32
        go_wp2_with (go_at_call 40; refine CH.out.mono ?_; rintro e w1 ⟨rfl, rfl⟩)
        refine (CG.out _).mono ?_
        rintro e w2 ⟨rfl, rfl⟩
        exact ⟨rfl, .inr ⟨rfl, HN.out, grown_of_below BW.out⟩⟩
      · have e1 : (((hdN l : Nat) : Int) != (l.length : Int)) = true := by simp; omega
        clear hok ho hn hv
        go_enter Try.func32, Try.ntmps32
        go_wp2_with (go_at_call 40; refine CH.out.mono ?_; rintro e w1 ⟨rfl, rfl⟩)
        refine (CG.out _).mono ?_
        rintro e w2 ⟨rfl, rfl⟩
        exact ⟨rfl, .inr ⟨rfl, HN.out, grown_of_below BW.out⟩⟩
    · have hv : hdV l = .tuple #[.int .i64 0, .int .i64 0, .bool false] := if_neg ho
      rw [hv] at CH
      clear hok ho hv
      go_enter Try.func32, Try.ntmps32
      go_wp2_with (go_at_call 40; refine CH.out.mono ?_; rintro e w1 ⟨rfl, rfl⟩)
      refine (CG.out _).mono ?_
      rintro e w2 ⟨rfl, rfl⟩
      exact ⟨rfl, .inr ⟨rfl, HN.out, grown_of_below BW.out⟩⟩
  have hv : hdV l = .tuple #[.int .i64 (hdN l : Nat), .int .i64 (kd l : Nat), .bool true] := if_pos hok.1
  rw [hv] at CH
  have e1 : (((hdN l : Nat) : Int) != (l.length : Int)) = false := by rw [hok.2.1]; simp
  have e2 : (((kd l : Nat) : Int) != 2) = false := by rw [hok.2.2]; rfl
  have hll : l.length ≤ 4096 := by have := hok.1.2.2.1; have := hok.2.1; omega
  -- the place is 19, and there is room for the update
  obtain ⟨W1, hW1⟩ : ∃ W1, W.setCell ⟨rb, 1, none⟩ (.int .i64 19) = W1 := ⟨_, rfl⟩
  have G1 : Hid (W.grownBy W1 (some rb)) := by rw [← hW1]; exact grown_set (grown_refl W _) 1 _
  have S1 : Hid (W1.heap.size = w.heap.size + 1) := by show _ = _; rw [← hW1, ← HS.out]; simp
  have R1 : Hid (Rdr W1 rb b off c l 19) := HR.out.moved G1.out (by rw [← hW1]; exact set_at HR.out.cell _) h19
  obtain ⟨W2, hW2⟩ : ∃ W2, W1.alloc (.cells #[.slice none 0 0, .slice none 0 0, .int .i64 0, .int .i64 0, .int .i64 0, .slice none 0 0, .slice none 0 0, .int .i64 0, .slice none 0 0] 35) = W2 := ⟨_, rfl⟩
  have B2 : Hid (Below W1.heap.size W1 W2) := by rw [← hW2]; exact balloc (brefl W1) _
  have NP : Hid (W2.heap[w.heap.size + 1]? = some (.cells #[.slice none 0 0, .slice none 0 0, .int .i64 0, .int .i64 0, .int .i64 0, .slice none 0 0, .slice none 0 0, .int .i64 0, .slice none 0 0] 35 (0, 0))) := by rw [← hW2, ← S1.out]; exact heap_new W1 _ 35
  have S2 : Hid (W2.heap.size = w.heap.size + 2) := by show _ = _; rw [← hW2, Nat.add_succ, ← S1.out]; simp
  have R2 := hide (R1.out.below B2.out)
  have G2 : Hid (w.grownBy W2 (some rb)) := grown_below (grown_trans (grown_of_below BW.out) (nx_refl _ _) G1.out) B2.out
  have hqr : some w.heap.size ≠ some rb := fun e => by
    have e' : w.heap.size = rb := by simpa using e
    have := HRB.out.1
    omega
  have NQ2 : Hid (W2.heap[w.heap.size]? = some (.cells #[.slice none 0 0, .slice none 0 0, .int .i64 0, .int .i64 0, .int .i64 0, .slice none 0 0, .slice none 0 0, .int .i64 0, .slice none 0 0] 35 (0, 0))) := ((B2.out.block w.heap.size (by rw [S1.out]; omega)).trans (G1.out.block w.heap.size (by rw [HS.out]; omega) hqr)).trans NQ.out
  have HW2 := hide hW2
  clear hv hok hW2
  go_enter Try.func32, Try.ntmps32
  go_wp2_with (go_at_call 40; refine CH.out.mono ?_; rintro e w1 ⟨rfl, rfl⟩)
  rw [HW2.out, S1.out]
  have SS : Hid (w.heap.size + 2 ≤ W2.heap.size) := Nat.le_of_eq S2.out.symm
  clear HW2 S1 S2 B2 G1 R1 HS NQ BW HR CH c0 c1 f0 f1 hW hW1 e1 e2
  obtain ⟨p, hp⟩ : ∃ p, w.heap.size + 1 = p := ⟨_, rfl⟩
  obtain ⟨q, hq⟩ : ∃ q, w.heap.size = q := ⟨_, rfl⟩
  obtain ⟨N, hN⟩ : ∃ N, w.heap.size + 2 = N := ⟨_, rfl⟩
  rw [hp] at NP
  rw [hq] at NQ2
  rw [hN] at SS
  rw [hp, hq]
  have HQ : Hid (w.heap.size = q ∧ q < N ∧ p < N ∧ rb < N ∧ p ≠ rb ∧ q ≠ rb ∧ p ≠ q ∧ w.heap.size ≤ N ∧ w.heap.size ≤ p) := by have := HRB.out; exact ⟨hq, by omega, by omega, by omega, by omega, by omega, by omega, by omega, by omega⟩
  have HBN : Hid (b < N) := by have := HRB.out.2.1; show _ < _; omega
  have HBP : Hid (b ≠ p) := by have := HRB.out.2.1; show _ ≠ _; omega
  clear hp hq hN HRB
  have KEEP : Hid (∀ (w5 w6 : World) (x : Array Value) (t j : Nat), w5.heap[j]? = some (.cells x t (0, 0)) → w5.grownBy w6 (some rb) → j ≠ rb → w6.heap[j]? = some (.cells x t (0, 0))) := fun w5 w6 x t j h hg hj => (hg.block j (heap_lt h) (fun e => hj (by simpa using e))).trans h
  by_cases h21 : 19 + 2 ≤ l.length
  rotate_left
  · have CX := hide (next_no rb b off c l 19 2 W2 R2.out (by decide) (by omega))
    have HN := hide (no_short (l := l) (by omega))
    refine CX.out.mono ?_
    rintro e w3 ⟨rfl, g3⟩
    exact ⟨rfl, .inr ⟨rfl, HN.out, grown_trans G2.out (nx_refl _ _) g3⟩⟩
  have CX := hide (next_ok rb b off c l 19 2 W2 R2.out (by decide) h21)
  refine CX.out.mono ?_
  rintro e w3 ⟨rfl, r3, g3⟩
  have HV : Hid (val ((l.drop 19).take 2) = n1 l) := rfl
  rw [HV.out]
  have R3 := hide r3
  have G3 := hide (grown_trans G2.out (nx_refl _ _) g3)
  have NP3 := hide (KEEP.out _ _ _ _ _ NP.out g3 HQ.out.2.2.2.2.1)
  have NQ3 := hide (KEEP.out _ _ _ _ _ NQ2.out g3 HQ.out.2.2.2.2.2.1)
  have SS3 := hide (Nat.le_trans SS.out g3.size)
  have hb1 : n1 l < 65536 := by have h1 := val_lt ((l.drop 19).take 2); have h2 : ((l.drop 19).take 2).length ≤ 2 := by rw [List.length_take]; omega
                                have h3 : 256 ^ ((l.drop 19).take 2).length ≤ 256 ^ 2 := Nat.pow_le_pow_right (by decide) h2
                                unfold n1; omega
  clear r3 g3 CX R2 G2 NP NQ2 SS HV
  by_cases hov1 : 19 + 2 + n1 l ≤ l.length
  rotate_left
  · have CX := hide (part_no rb b off c l (19 + 2) (n1 l) w3 R3.out (by omega) (by omega))
    have HN := hide (no_short (l := l) (by omega))
    go_wp2_with fail
    refine CX.out.mono ?_
    rintro e w4 ⟨rfl, g4⟩
    exact ⟨rfl, .inr ⟨rfl, HN.out, grown_trans G3.out (nx_refl _ _) g4⟩⟩
  have CX := hide (part_ok rb b off c l (19 + 2) (n1 l) w3 R3.out hov1)
  go_wp2_with fail
  refine CX.out.mono ?_
  rintro e w4 ⟨g, o', rfl, hg, rg, r4, g4⟩
  have CP := hide (prefixes_is g b o' (c - (19 + 2)) ((l.drop (19 + 2)).take (n1 l)) 0 w4 rg)
  have HPE : Hid (((l.drop (19 + 2)).take (n1 l)).drop 0 = p1 l) := by show _ = _; rw [List.drop_zero]; rfl
  have HPL : Hid (((l.drop (19 + 2)).take (n1 l)).length ≤ 4096) := by show _ ≤ _; rw [List.length_take]; omega
  have R4 := hide r4
  have HG := hide hg
  have G34 := hide g4
  have SS4 := hide (Nat.le_trans SS3.out g4.size)
  have RL := hide (heap_lt rg.cell)
  clear rg r4 g4 hg CX R3
  go_wp2_with fail
  refine CP.out.mono ?_
  intro e w5 h5
  unfold Prefs at h5
  rw [HPE.out] at h5
  rcases h5 with ⟨v5, a1, rfl, o5, _, gp1, he1, hle1, g5⟩ | ⟨rfl, hno, g5⟩
  rotate_left
  · have g35 := grown_trans G34.out (.inr fun j hj => by cases hj; exact HG.out) g5
    exact ⟨rfl, .inr ⟨rfl, no_p1 hno, grown_trans G3.out (nx_refl _ _) g35⟩⟩
  obtain ⟨wo, cw, rfl, PW0⟩ := pw_own o5 SS4.out
  have g35 := grown_trans G34.out (.inr fun j hj => by cases hj; exact HG.out) g5
  have R5 := hide (R4.out.kept g5 (some_ne HQ.out.2.2.2.1 SS3.out HG.out) (some_ne HBN.out SS3.out HG.out))
  have NP5 := hide (KEEP.out _ _ _ _ _ NP3.out g35 HQ.out.2.2.2.2.1)
  have NQ5 := hide (KEEP.out _ _ _ _ _ NQ3.out g35 HQ.out.2.2.2.2.2.1)
  have G5 := hide (grown_trans G3.out (nx_refl _ _) g35)
  have SS5 := hide (Nat.le_trans SS3.out g35.size)
  have GP1 := hide gp1
  have HE1 := hide he1
  have HL1 : Hid (a1.length ≤ 4096) := Nat.le_trans hle1 HPL.out
  clear o5 g5 g35 gp1 he1 hle1 CP HPE HPL R4 HG G34 RL NP3 NQ3 G3 SS3 SS4
  obtain ⟨W6, hW6⟩ : ∃ W6, w5.setCell ⟨p, 0, none⟩ (.slice wo a1.length cw) = W6 := ⟨_, rfl⟩
  have gp := grown_put w5 p 0 (.slice wo a1.length cw)
  rw [hW6] at gp
  have PW6 := hide (PW0.kept gp HQ.out.2.2.1)
  have NP6 : Hid (W6.heap[p]? = some (.cells #[.slice wo a1.length cw, .slice none 0 0, .int .i64 0, .int .i64 0, .int .i64 0, .slice none 0 0, .slice none 0 0, .int .i64 0, .slice none 0 0] 35 (0, 0))) := by rw [← hW6]; exact heap_setCell_same w5 p 0 _ 35 _ NP5.out
  have NQ6 : Hid (W6.heap[q]? = some (.cells #[.slice none 0 0, .slice none 0 0, .int .i64 0, .int .i64 0, .int .i64 0, .slice none 0 0, .slice none 0 0, .int .i64 0, .slice none 0 0] 35 (0, 0))) := (gp.block q (heap_lt NQ5.out) (fun e => HQ.out.2.2.2.2.2.2.1 (by simpa using e.symm))).trans NQ5.out
  have R6 := hide (R5.out.kept gp (fun e => HQ.out.2.2.2.2.1 (by simpa using e.symm)) (fun e => HBP.out (by simpa using e)))
  have G6 := hide (grown_own G5.out gp (fun j hj => by cases hj; exact HQ.out.2.2.2.2.2.2.2.2))
  have SS6 := hide (Nat.le_trans SS5.out gp.size)
  obtain ⟨d0, d1, d2, d3, d4, d5, d6, d7, d8⟩ := nine_cells NP5.out
  have y0 := frozen7 NP5.out 0
  clear PW0 gp NP5 NQ5 R5 G5 SS5
  by_cases h23 : 19 + 2 + n1 l + 2 ≤ l.length
  rotate_left
  · have CX := hide (next_no rb b off c l (19 + 2 + n1 l) 2 W6 R6.out (by decide) (by omega))
    have HN := hide (no_short (l := l) (by omega))
    go_wp2_with fail
    refine CX.out.mono ?_
    rintro e w7 ⟨rfl, g7⟩
    exact ⟨rfl, .inr ⟨rfl, HN.out, grown_trans G6.out (nx_refl _ _) g7⟩⟩
  have CX := hide (next_ok rb b off c l (19 + 2 + n1 l) 2 W6 R6.out (by decide) h23)
  go_wp2_with fail
  refine CX.out.mono ?_
  rintro e w7 ⟨rfl, r7, g7⟩
  have HV : Hid (val ((l.drop (19 + 2 + n1 l)).take 2) = n2 l) := rfl
  rw [HV.out]
  have R7 := hide r7
  have G7 := hide (grown_trans G6.out (nx_refl _ _) g7)
  have NP7 := hide (KEEP.out _ _ _ _ _ NP6.out g7 HQ.out.2.2.2.2.1)
  have NQ7 := hide (KEEP.out _ _ _ _ _ NQ6.out g7 HQ.out.2.2.2.2.2.1)
  have SS7 := hide (Nat.le_trans SS6.out g7.size)
  have PW7 := hide (PW6.out.kept g7 HQ.out.2.2.2.1)
  have hb2 : n2 l < 65536 := by have h1 := val_lt ((l.drop (21 + n1 l)).take 2); have h2 : ((l.drop (21 + n1 l)).take 2).length ≤ 2 := by rw [List.length_take]; omega
                                have h3 : 256 ^ ((l.drop (21 + n1 l)).take 2).length ≤ 256 ^ 2 := Nat.pow_le_pow_right (by decide) h2
                                unfold n2; omega
  clear r7 g7 CX R6 G6 NP6 NQ6 SS6 HV PW6 d0 d1 d2 d3 d4 d5 d6 d7 d8 y0 hW6
  by_cases hov2 : 19 + 2 + n1 l + 2 + n2 l ≤ l.length
  rotate_left
  · have CX := hide (part_no rb b off c l (19 + 2 + n1 l + 2) (n2 l) w7 R7.out (by omega) (by omega))
    have HN := hide (no_short (l := l) (by omega))
    go_wp2_with fail
    refine CX.out.mono ?_
    rintro e w8 ⟨rfl, g8⟩
    exact ⟨rfl, .inr ⟨rfl, HN.out, grown_trans G7.out (nx_refl _ _) g8⟩⟩
  have CX := hide (part_ok rb b off c l (19 + 2 + n1 l + 2) (n2 l) w7 R7.out hov2)
  go_wp2_with fail
  refine CX.out.mono ?_
  rintro e w8 ⟨g, o', rfl, hg, rg, r8, g8⟩
  have HPE : Hid ((l.drop (19 + 2 + n1 l + 2)).take (n2 l) = p2 l) := by show _ = _; unfold p2; rw [show 19 + 2 + n1 l + 2 = 23 + n1 l by omega]
  rw [HPE.out] at rg
  have CP := hide (attributes_is g b o' (c - (19 + 2 + n1 l + 2)) (p2 l) w8 rg)
  have R8 := hide r8
  have HG := hide hg
  have G78 := hide g8
  have SS8 := hide (Nat.le_trans SS7.out g8.size)
  clear rg r8 g8 hg CX R7 HPE
  go_wp2_with fail
  refine CP.out.mono ?_
  intro e w9 h9
  rcases h9 with ⟨a, po, co, ko, cp, cc, ck, rfl, am, his, g9⟩ | ⟨rfl, hno, g9⟩
  rotate_left
  · have g79 := grown_trans G78.out (.inr fun j hj => by cases hj; exact HG.out) g9
    exact ⟨rfl, .inr ⟨rfl, no_p2 hno, grown_trans G7.out (nx_refl _ _) g79⟩⟩
  have g79 := grown_trans G78.out (.inr fun j hj => by cases hj; exact HG.out) g9
  have AM0 := am.down SS8.out
  have IA := hide his
  have R9 := hide (R8.out.kept g9 (some_ne HQ.out.2.2.2.1 SS7.out HG.out) (some_ne HBN.out SS7.out HG.out))
  have NP9 := hide (KEEP.out _ _ _ _ _ NP7.out g79 HQ.out.2.2.2.2.1)
  have NQ9 := hide (KEEP.out _ _ _ _ _ NQ7.out g79 HQ.out.2.2.2.2.2.1)
  have G9 := hide (grown_trans G7.out (nx_refl _ _) g79)
  have SS9 := hide (Nat.le_trans SS7.out g79.size)
  have PW9 := hide (PW7.out.kept g79 HQ.out.2.2.2.1)
  clear g9 g79 am his CP R8 HG G78 NP7 NQ7 G7 SS7 SS8 PW7
  obtain ⟨W10, hW10⟩ : ∃ W10, ((((((w9.setCell ⟨p, 2, none⟩ (.int .i64 a.pf)).setCell ⟨p, 3, none⟩ (.int .i64 a.md)).setCell ⟨p, 4, none⟩ (.int .i64 a.og)).setCell ⟨p, 5, none⟩ (.slice po a.path.length cp)).setCell ⟨p, 6, none⟩ (.slice co a.comms.length cc)).setCell ⟨p, 7, none⟩ (.int .i64 a.fr)).setCell ⟨p, 8, none⟩ (.slice ko a.cl.length ck) = W10 := ⟨_, rfl⟩
  have gp : w9.grownBy W10 (some p) := by rw [← hW10]; exact grown_set (grown_set (grown_set (grown_set (grown_set (grown_set (grown_put w9 p 2 _) 3 _) 4 _) 5 _) 6 _) 7 _) 8 _
  have NP10 : Hid (W10.heap[p]? = some (.cells #[.slice wo a1.length cw, .slice none 0 0, .int .i64 a.pf, .int .i64 a.md, .int .i64 a.og, .slice po a.path.length cp, .slice co a.comms.length cc, .int .i64 a.fr, .slice ko a.cl.length ck] 35 (0, 0))) := by rw [← hW10]; exact heap_setCell_same _ p 8 _ 35 _ (heap_setCell_same _ p 7 _ 35 _ (heap_setCell_same _ p 6 _ 35 _ (heap_setCell_same _ p 5 _ 35 _ (heap_setCell_same _ p 4 _ 35 _ (heap_setCell_same _ p 3 _ 35 _ (heap_setCell_same w9 p 2 _ 35 _ NP9.out))))))
  have NQ10 : Hid (W10.heap[q]? = some (.cells #[.slice none 0 0, .slice none 0 0, .int .i64 0, .int .i64 0, .int .i64 0, .slice none 0 0, .slice none 0 0, .int .i64 0, .slice none 0 0] 35 (0, 0))) := (gp.block q (heap_lt NQ9.out) (fun e => HQ.out.2.2.2.2.2.2.1 (by simpa using e.symm))).trans NQ9.out
  have R10 := hide (R9.out.kept gp (fun e => HQ.out.2.2.2.2.1 (by simpa using e.symm)) (fun e => HBP.out (by simpa using e)))
  have G10 := hide (grown_own G9.out gp (fun j hj => by cases hj; exact HQ.out.2.2.2.2.2.2.2.2))
  have SS10 := hide (Nat.le_trans SS9.out gp.size)
  have PW10 := hide (PW9.out.kept gp HQ.out.2.2.1)
  have AM10 := hide (AM0.kept gp HQ.out.2.2.1)
  obtain ⟨d0, d1, d2, d3, d4, d5, d6, d7, d8⟩ := nine_cells NP9.out
  have y2 := frozen7 NP9.out 2
  have y3 := frozen7 NP9.out 3
  have y4 := frozen7 NP9.out 4
  have y5 := frozen7 NP9.out 5
  have y6 := frozen7 NP9.out 6
  have y7 := frozen7 NP9.out 7
  have y8 := frozen7 NP9.out 8
  have CP := hide (prefixes_is rb b off c l (19 + 2 + n1 l + 2 + n2 l) W10 R10.out)
  have HPE : Hid (l.drop (19 + 2 + n1 l + 2 + n2 l) = p3 l) := by show _ = _; unfold p3; rw [show 19 + 2 + n1 l + 2 + n2 l = 23 + n1 l + n2 l by omega]
  clear gp NP9 NQ9 R9 G9 SS9 PW9 AM0
  go_wp2_with fail
  refine CP.out.mono ?_
  intro e w11 h11
  unfold Prefs at h11
  rw [HPE.out] at h11
  rcases h11 with ⟨v11, a3, rfl, o11, _, gp3, he3, hle3, g11⟩ | ⟨rfl, hno, g11⟩
  rotate_left
  · exact ⟨rfl, .inr ⟨rfl, no_p3 hno, grown_trans G10.out (nx_refl _ _) g11⟩⟩
  obtain ⟨tq, ct, rfl, TW0⟩ := pw_own o11 SS10.out
  have NP11 := hide (KEEP.out _ _ _ _ _ NP10.out g11 HQ.out.2.2.2.2.1)
  have NQ11 := hide (KEEP.out _ _ _ _ _ NQ10.out g11 HQ.out.2.2.2.2.2.1)
  have G11 := hide (grown_trans G10.out (nx_refl _ _) g11)
  have PW11 := hide (PW10.out.kept g11 HQ.out.2.2.2.1)
  have AM11 := hide (AM10.out.kept g11 HQ.out.2.2.2.1)
  have GP3 := hide gp3
  have HE3 := hide he3
  have HL3 : Hid (a3.length ≤ 4096) := Nat.le_trans hle3 hll
  have TW := hide TW0
  clear d0 d1 d2 d3 d4 d5 d6 d7 d8 y2 y3 y4 y5 y6 y7 y8 hW10 o11 gp3 he3 hle3 g11 CP NP10 NQ10 R10 G10 SS10 PW10 AM10 TW0
  obtain ⟨d0, d1, d2, d3, d4, d5, d6, d7, d8⟩ := nine_cells NP11.out
  have y1 := frozen7 NP11.out 1
  obtain ⟨z0, z1, z2, z3, z4, z5, z6, z7, z8⟩ := nine_cells NQ11.out
  have x0 := frozen7 NQ11.out 0
  have x1 := frozen7 NQ11.out 1
  have x2 := frozen7 NQ11.out 2
  have x3 := frozen7 NQ11.out 3
  have x4 := frozen7 NQ11.out 4
  have x5 := frozen7 NQ11.out 5
  have x6 := frozen7 NQ11.out 6
  have x7 := frozen7 NQ11.out 7
  have x8 := frozen7 NQ11.out 8
  have hpq : p ≠ q := HQ.out.2.2.2.2.2.2.1
  have hqp : q ≠ p := fun e => hpq e.symm
  go_wp2_with fail
  have gp := grown_put w11 p 1 (.slice tq a3.length ct)
  have gq := grown_set (grown_set (grown_set (grown_set (grown_set (grown_set (grown_set (grown_set (grown_put (w11.setCell ⟨p, 1, none⟩ (.slice tq a3.length ct)) q 0 (.slice wo a1.length cw)) 1 (.slice tq a3.length ct)) 2 (.int .i64 a.pf)) 3 (.int .i64 a.md)) 4 (.int .i64 a.og)) 5 (.slice po a.path.length cp)) 6 (.slice co a.comms.length cc)) 7 (.int .i64 a.fr)) 8 (.slice ko a.cl.length ck)
  have PWF := (PW11.out.kept gp HQ.out.2.2.1).kept gq HQ.out.2.1
  have TWF := (TW.out.kept gp HQ.out.2.2.1).kept gq HQ.out.2.1
  have AMF := (AM11.out.kept gp HQ.out.2.2.1).kept gq HQ.out.2.1
  have GF := grown_own (grown_own G11.out gp (fun j hj => by cases hj; exact HQ.out.2.2.2.2.2.2.2.2)) gq (fun j hj => by cases hj; exact Nat.le_of_eq HQ.out.1)
  have hwN := HQ.out.2.2.2.2.2.2.2.1
  refine bodyPost_ret (v := .agg #[.slice wo a1.length cw, .slice tq a3.length ct, .int .i64 a.pf, .int .i64 a.md, .int .i64 a.og, .slice po a.path.length cp, .slice co a.comms.length cc, .int .i64 a.fr, .slice ko a.cl.length ck]) ?_ rfl (.inl ⟨⟨a1, a3, a⟩, wo, tq, po, co, ko, cw, ct, cp, cc, ck, rfl, ⟨PWF.row, TWF.row, AMF.lies⟩, ⟨PWF.cam.u, TWF.cam.u, AMF.c1.u, AMF.c2.u, AMF.c3.u⟩, ⟨gp_fits GP1.out, gp_fits GP3.out⟩, ⟨Nat.le_trans HL1.out (by decide), Nat.le_trans HL3.out (by decide), AMF.b1, AMF.b2, AMF.b3⟩, ⟨PWF.far.down hwN, TWF.far.down hwN, AMF.f1.down hwN, AMF.f2.down hwN, AMF.f3.down hwN⟩, is_up GP1.out HE1.out GP3.out HE3.out IA.out, GF⟩)
  simp [results, Try.results32, go_sem, z0, z1, z2, z3, z4, z5, z6, z7, z8]
end Go.Proofs.Ytkhmhmopcofejaa
