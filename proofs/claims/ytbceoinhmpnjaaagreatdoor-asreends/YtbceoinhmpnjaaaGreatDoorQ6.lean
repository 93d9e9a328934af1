import Derived.Test.YtbceoinhmpnjaaaGreatDoorQ4
/- The law AsreEnds, over the contracts of the program's functions: the loops. -/
namespace Go.Proofs.YtbceoinhmpnjaaaGreatDoor
open Go.RowKit Go.Sort

set_option maxRecDepth 100000 in
theorem run_cut (ao : Option Addr) (n ca i k : Nat) (hik : i ≤ k) (hk : k ≤ n) (hca : n ≤ ca) (W : World) : (Instr.slice 27 (.slice ao n ca) (some (.int .i64 i)) (some (.int .i64 k)) none).run Tryz.prog W = .ok (.slice (cutA ao ca i) (k - i) (ca - i)) W := by
  have hc : (k : Int) ≤ (ca : Int) := by omega
  have hi : (i : Int) ≤ (k : Int) := by omega
  rw [run_slice_lh W 27 ao n ca Tryz.underlying27 .i64 .i64 i k (by omega) hi hc]
  have e : Tryz.t3.size = 1 := by kernel_rfl
  simp [cutA, sliced, sizeOf, go_sem, e]
theorem round_less {k n : Nat} (h : k ≤ n) : n + 1 - (intOf (.int .i64 ((k : Int) + 1))).toNat < n + 1 - (intOf (.int .i64 (k : Int))).toNat := by
  simp only [intOf]
  omega
theorem whole_cut {T : World → Prop} {Rep : World → Value → Xp → Prop} (K : Kit5 T Rep) (v : Value) (x : Xp) (ao : Option Addr) (ca : Nat) (l : List Int) (b : Bool) (i k : Nat) (hik : i ≤ k) (hk : k ≤ l.length) (hca : l.length ≤ ca) (hm : Is.may l = true) (hl : l.length ≤ 16) (hb : b = true ↔ Nd.MetRows x.2.2 ((l.take k).drop i)) (W : World) (hT : T W) (hR : Rep W v x) (hA : Is.slot W ao l) :
    Calls Tryz.prog 18 #[v, .slice (cutA ao ca i) (k - i) (ca - i)] W fun e w' => e = .returned (.bool b) ∧ Below W.heap.size W w' := by
  have hlen : ((l.take k).drop i).length = k - i := by rw [List.length_drop, List.length_take]; omega
  have := K.whole v x (cutA ao ca i) (ca - i) ((l.take k).drop i) b (hb.trans ⟨fun h => ⟨may_cut hm i k, h⟩, fun h => h.2⟩) W hT hR (slot_cut hA hca i k hik hk) (by omega)
  rwa [hlen] at this

set_option maxHeartbeats 8000000 in
set_option maxRecDepth 100000 in
theorem ends_good {T : World → Prop} {Rep : World → Value → Xp → Prop} (K : Kit5 T Rep) (s : ByteArray) (ao : Option Addr) (ca : Nat) (l : List Int) (w : World) (hT : T w) (hA : Is.slot w ao l) (hca : l.length ≤ ca) (hs : s.size ≤ 50) (hl : l.length ≤ 16) (hm : Is.may l = true) (x : Xp) (hp : Px.parse s.data.toList = .ok x) (y : Xp) (hf : Px.parse (40 :: (s.data.toList ++ [41])) = .ok y) :
    Calls Tryz.prog 7 #[.string s, .slice ao l.length ca] w fun e w' => e = .returned (.bool true) ∧ Below w.heap.size w w' := by
  have h1 : ¬ (50 : Int) < (s.size : Int) := by omega
  have h2 : ¬ (16 : Int) < (l.length : Int) := by omega
  have CL := hide (fun W (hW : Below w.heap.size w W) => lives_is K W (K.on hT hW))
  have CM := hide (refMay_is ao ca l true hm w hA (by omega))
  have CP := hide (parse_ok K s x hp (by omega) w hT)
  obtain ⟨u1, A1, e1, z1⟩ := adds_any ⟨#[94, 40]⟩ s (by decide) (by omega)
  obtain ⟨u2, A2, e2, z2⟩ := adds_any ⟨#[40]⟩ s (by decide) (by omega)
  change u1.size = 2 + s.size at z1
  change u2.size = 1 + s.size at z2
  obtain ⟨t1, A3, e3, z3⟩ := adds_any u1 ⟨#[41, 36]⟩ (by omega) (by decide)
  obtain ⟨t2, A4, e4, z4⟩ := adds_any u1 ⟨#[41]⟩ (by omega) (by decide)
  obtain ⟨t3, A5, e5, z5⟩ := adds_any u2 ⟨#[41, 36]⟩ (by omega) (by decide)
  obtain ⟨t4, A6, e6, z6⟩ := adds_any u2 ⟨#[41]⟩ (by omega) (by decide)
  change t1.size = u1.size + 2 at z3
  change t2.size = u1.size + 1 at z4
  change t3.size = u2.size + 2 at z5
  change t4.size = u2.size + 1 at z6
  have e3' : t1.data.toList = 94 :: 40 :: (s.data.toList ++ [41, 36]) := by rw [e3, e1]; rfl
  have e4' : t2.data.toList = 94 :: 40 :: (s.data.toList ++ [41]) := by rw [e4, e1]; rfl
  have e5' : t3.data.toList = 40 :: (s.data.toList ++ [41, 36]) := by rw [e5, e2]; rfl
  have e6' : t4.data.toList = 40 :: (s.data.toList ++ [41]) := by rw [e6, e2]; rfl
  obtain ⟨xf, xl, c⟩ := x
  obtain ⟨rfl, rfl, hpar⟩ := par_of hp hf
  have hsl : s.data.toList.length = s.size := Array.length_toList
  have n1 : (94 :: 40 :: (s.data.toList ++ [41, 36])).length ≤ 64 := by simp only [List.length_cons, List.length_append, List.length_nil]; omega
  have n2 : (94 :: 40 :: (s.data.toList ++ [41])).length ≤ 64 := by simp only [List.length_cons, List.length_append, List.length_nil]; omega
  have n3 : (40 :: (s.data.toList ++ [41, 36])).length ≤ 64 := by simp only [List.length_cons, List.length_append, List.length_nil]; omega
  have n4 : (40 :: (s.data.toList ++ [41])).length ≤ 64 := by simp only [List.length_cons, List.length_append, List.length_nil]; omega
  have C1 := hide (fun W (hW : Below w.heap.size w W) => parse_ok K t1 _ (e3' ▸ parse_par_both hpar n1) (by omega) W (K.on hT hW))
  have C2 := hide (fun W (hW : Below w.heap.size w W) => parse_ok K t2 _ (e4' ▸ parse_par_first hpar n2) (by omega) W (K.on hT hW))
  have C3 := hide (fun W (hW : Below w.heap.size w W) => parse_ok K t3 _ (e5' ▸ parse_par_last hpar n3) (by omega) W (K.on hT hW))
  have C4 := hide (fun W (hW : Below w.heap.size w W) => parse_ok K t4 _ (e6' ▸ parse_par hpar n4) (by omega) W (K.on hT hW))
  generalize hd : [[Nd.ch c]] = d at *
  obtain ⟨f, hff⟩ := fun_of fun i k => Nd.MetRows d ((l.take k).drop i)
  have CF := hide (fun v W (hW : Below w.heap.size w W) (hR : Rep W v (false, false, d)) (i k : Nat) (hik : i ≤ k) (hk : k ≤ l.length) =>
    whole_cut K v (false, false, d) ao ca l (f i k) i k hik hk hca hm hl (hff i k) W (K.on hT hW) hR (Is.slot_below hA hW))
  have CW := hide (fun v W (hW : Below w.heap.size w W) (hR : Rep W v (false, false, d)) =>
    K.whole v _ ao ca l (f 0 l.length) ((hff 0 l.length).trans (by rw [List.take_length, List.drop_zero]; exact ⟨fun h => ⟨hm, h⟩, fun h => h.2⟩)) W (K.on hT hW) hR (Is.slot_below hA hW) (by omega))
  have M1 := hide (fun v W (hW : Below w.heap.size w W) (hR : Rep W v (true, true, d)) =>
    K.meets v _ ao ca l (f 0 l.length) ((hff 0 l.length).trans (by rw [List.take_length, List.drop_zero, meets_both]; exact ⟨fun h => ⟨hm, h⟩, fun h => h.2⟩)) W (K.on hT hW) hR (Is.slot_below hA hW) (by omega))
  have M2 := hide (fun (b : Bool) (hb : b = true ↔ ∃ i' k', i' ≤ k' ∧ k' ≤ l.length ∧ i' = 0 ∧ f i' k' = true) v W (hW : Below w.heap.size w W) (hR : Rep W v (true, false, d)) =>
    K.meets v _ ao ca l b (hb.trans (by
      rw [meets_first]
      constructor
      · rintro ⟨i', k', _, h2, rfl, h3⟩
        exact ⟨hm, k', h2, by have := (hff 0 k').1 h3; simpa using this⟩
      · rintro ⟨_, k, h2, h3⟩
        exact ⟨0, k, Nat.zero_le _, h2, rfl, (hff 0 k).2 (by simpa using h3)⟩)) W (K.on hT hW) hR (Is.slot_below hA hW) (by omega))
  have M3 := hide (fun (b : Bool) (hb : b = true ↔ ∃ i' k', i' ≤ k' ∧ k' ≤ l.length ∧ k' = l.length ∧ f i' k' = true) v W (hW : Below w.heap.size w W) (hR : Rep W v (false, true, d)) =>
    K.meets v _ ao ca l b (hb.trans (by
      rw [meets_last]
      constructor
      · rintro ⟨i', k', h1, _, rfl, h3⟩
        exact ⟨hm, i', h1, by have := (hff i' _).1 h3; rwa [List.take_length] at this⟩
      · rintro ⟨_, i, h2, h3⟩
        exact ⟨i, _, h2, Nat.le_refl _, rfl, (hff i _).2 (by rwa [List.take_length])⟩)) W (K.on hT hW) hR (Is.slot_below hA hW) (by omega))
  have M4 := hide (fun (b : Bool) (hb : b = true ↔ ∃ i' k', i' ≤ k' ∧ k' ≤ l.length ∧ True ∧ f i' k' = true) v W (hW : Below w.heap.size w W) (hR : Rep W v (false, false, d)) =>
    K.meets v _ ao ca l b (hb.trans (by
      rw [meets_free]
      constructor
      · rintro ⟨i', k', h1, h2, _, h3⟩
        exact ⟨hm, i', k', h1, h2, (hff i' k').1 h3⟩
      · rintro ⟨_, i, k, h1, h2, h3⟩
        exact ⟨i, k, h1, h2, trivial, (hff i k).2 h3⟩)) W (K.on hT hW) hR (Is.slot_below hA hW) (by omega))
  unfold Adds at A1 A2 A3 A4 A5 A6
  clear hT hA hm hp hf e1 e2 e3 e4 e5 e6 e3' e4' e5' e6' z1 z2 z3 z4 z5 z6 hpar hsl n1 n2 n3 n4 hd hff
  go_enter Tryz.func7, Tryz.ntmps7
  go_wp2_with fail
  refine CM.out.mono ?_
  rintro e w1 ⟨rfl, rfl⟩
  go_wp2_with fail
  refine CP.out.mono ?_
  rintro e w2 ⟨a, rfl, _, hb2⟩
  have B2 := hide hb2
  clear hb2
  go_wp2_with fail
  refine (C1.out _ B2.out).mono ?_
  rintro e w3 ⟨p1, rfl, hr, hb3⟩
  have B3 := hide (bthen B2.out hb3)
  have R1 := hide hr
  clear hb3 B2 hr
  go_wp2_with fail
  refine (C2.out _ B3.out).mono ?_
  rintro e w4 ⟨p2, rfl, hr, hb4⟩
  have B4 := hide (bthen B3.out hb4)
  have R1' := hide (K.rep R1.out hb4)
  have R2 := hide hr
  clear hb4 B3 R1 hr
  go_wp2_with fail
  refine (C3.out _ B4.out).mono ?_
  rintro e w5 ⟨p3, rfl, hr, hb5⟩
  have B5 := hide (bthen B4.out hb5)
  have R1 := hide (K.rep R1'.out hb5)
  have R2' := hide (K.rep R2.out hb5)
  have R3 := hide hr
  clear hb5 B4 R1' R2 hr
  go_wp2_with fail
  refine (C4.out _ B5.out).mono ?_
  rintro e w6 ⟨p4, rfl, hr, hb6⟩
  have B6 := hide (bthen B5.out hb6)
  have R1' := hide (K.rep R1.out hb6)
  have R2 := hide (K.rep R2'.out hb6)
  have R3' := hide (K.rep R3.out hb6)
  have R4 := hide hr
  clear hb6 B5 R1 R2' R3 hr C1 C2 C3 C4 CM CP
  go_wp2_with fail
  go_loopw [15, 16, 17, 18, 19, 20] (fun v15 v16 v17 v18 _ _ wr => ∃ (b1 b2 b3 : Bool) (i : Nat), v15 = .bool b1 ∧ v16 = .bool b2 ∧ v17 = .bool b3 ∧ v18 = .int .i64 i ∧ i ≤ l.length + 1 ∧ Hid (Seen f l.length (fun i' _ => i' = 0) i i b1) ∧ Hid (Seen f l.length (fun _ k' => k' = l.length) i i b2) ∧ Hid (Seen f l.length (fun _ _ => True) i i b3) ∧ Below w6.heap.size w6 wr) (fun _ _ _ v18 _ _ _ => l.length + 1 - (intOf v18).toNat)
  case atStart => exact ⟨false, false, false, 0, rfl, rfl, rfl, rfl, Nat.zero_le _, Seen.start _ _ _, Seen.start _ _ _, Seen.start _ _ _, brefl _⟩
  case round =>
    obtain ⟨b1, b2, b3, i, rfl, rfl, rfl, rfl, hi, HS1, HS2, HS3, hbr⟩ := hrel
    have BR := hide hbr
    clear hbr
    by_cases hil : i ≤ l.length
    · have hil' : (i : Int) ≤ (l.length : Int) := by omega
      go_wp2_with fail
      go_loopw [15, 16, 17, 19, 20] (fun v15 v16 v17 v19 _ wq => ∃ (b1 b2 b3 : Bool) (k : Nat), v15 = .bool b1 ∧ v16 = .bool b2 ∧ v17 = .bool b3 ∧ v19 = .int .i64 k ∧ i ≤ k ∧ k ≤ l.length + 1 ∧ Hid (Seen f l.length (fun i' _ => i' = 0) i k b1) ∧ Hid (Seen f l.length (fun _ k' => k' = l.length) i k b2) ∧ Hid (Seen f l.length (fun _ _ => True) i k b3) ∧ Below w6.heap.size w6 wq) (fun _ _ _ v19 _ _ => l.length + 1 - (intOf v19).toNat)
      case atStart => exact ⟨b1, b2, b3, i, rfl, rfl, rfl, rfl, Nat.le_refl _, hi, HS1, HS2, HS3, BR.out⟩
      case round =>
        obtain ⟨d1, d2, d3, k, rfl, rfl, rfl, rfl, hik, hk, HT1, HT2, HT3, hbq⟩ := hrel
        have BQ := hide hbq
        clear hbq
        by_cases hkl : k ≤ l.length
        · have hkl' : (k : Int) ≤ (l.length : Int) := by omega
          have hik' : (i : Int) ≤ (k : Int) := by omega
          have hkc : (k : Int) ≤ (ca : Int) := by omega
          have SL := run_cut ao l.length ca i k hik hkl hca
          have CC := hide (CF.out (.pointer (some p4)) wr (bthen B6.out BQ.out) (K.rep R4.out BQ.out) i k hik hkl)
          generalize hA : cutA ao ca i = A at SL CC
          clear hA
          go_wp2_with fail
          refine CC.out.mono ?_
          rintro e w8 ⟨rfl, hb8⟩
          have BN := hide (bthen BQ.out hb8)
          have N1 := hide (fun b' hb => HT1.out.step hik hkl b' hb)
          have N2 := hide (fun b' hb => HT2.out.step hik hkl b' hb)
          have N3 := hide (fun b' hb => HT3.out.step hik hkl b' hb)
          clear hb8 SL CC
          generalize f i k = fv at N1 N2 N3 ⊢
          have HIK := hide hik
          have HKL := hide hkl
          clear hik hkl hkc
          have L1 : Hid (d1 = true ∨ (d1 = false ∧ ((i : Int) == 0) = false ∧ i ≠ 0) ∨ (d1 = false ∧ ((i : Int) == 0) = true ∧ i = 0)) := by
            show _ ∨ _
            cases d1
            · by_cases h : i = 0
              · exact .inr (.inr ⟨rfl, by simp [h], h⟩)
              · exact .inr (.inl ⟨rfl, by simp [h], h⟩)
            · exact .inl rfl
          have L2 : Hid (d2 = true ∨ (d2 = false ∧ ((k : Int) == (l.length : Int)) = false ∧ k ≠ l.length) ∨ (d2 = false ∧ ((k : Int) == (l.length : Int)) = true ∧ k = l.length)) := by
            show _ ∨ _
            cases d2
            · by_cases h : k = l.length
              · exact .inr (.inr ⟨rfl, by simp [h], h⟩)
              · exact .inr (.inl ⟨rfl, by simpa using (fun e => h (by omega)), h⟩)
            · exact .inl rfl
          rcases L1.out with rfl | ⟨rfl, hi0, hin⟩ | ⟨rfl, hi0, hin⟩
          · have P1 := hide (N1.out true (by simp))
            rcases L2.out with rfl | ⟨rfl, hk0, hkn⟩ | ⟨rfl, hk0, hkn⟩
            · have P2 := hide (N2.out true (by simp))
              clear L1 L2
              cases d3
              · have P3 := hide (N3.out fv (by simp))
                clear N1 N2 N3
                go_wp2_with fail
                exact ⟨⟨true, true, fv, k + 1, rfl, rfl, rfl, by go_num, Nat.le_succ_of_le HIK.out, Nat.succ_le_succ HKL.out, P1.out, P2.out, P3.out, BN.out⟩, round_less HKL.out⟩
              · have P3 := hide (N3.out true (by simp))
                clear N1 N2 N3
                go_wp2_with fail
                exact ⟨⟨true, true, true, k + 1, rfl, rfl, rfl, by go_num, Nat.le_succ_of_le HIK.out, Nat.succ_le_succ HKL.out, P1.out, P2.out, P3.out, BN.out⟩, round_less HKL.out⟩
            · have P2 := hide (N2.out false (by simp [hkn]))
              clear hkn
              clear L1 L2
              cases d3
              · have P3 := hide (N3.out fv (by simp))
                clear N1 N2 N3
                go_wp2_with fail
                exact ⟨⟨true, false, fv, k + 1, rfl, rfl, rfl, by go_num, Nat.le_succ_of_le HIK.out, Nat.succ_le_succ HKL.out, P1.out, P2.out, P3.out, BN.out⟩, round_less HKL.out⟩
              · have P3 := hide (N3.out true (by simp))
                clear N1 N2 N3
                go_wp2_with fail
                exact ⟨⟨true, false, true, k + 1, rfl, rfl, rfl, by go_num, Nat.le_succ_of_le HIK.out, Nat.succ_le_succ HKL.out, P1.out, P2.out, P3.out, BN.out⟩, round_less HKL.out⟩
            · have P2 := hide (N2.out fv (by simp [hkn]))
              clear hkn
              clear L1 L2
              cases d3
              · have P3 := hide (N3.out fv (by simp))
                clear N1 N2 N3
                go_wp2_with fail
                exact ⟨⟨true, fv, fv, k + 1, rfl, rfl, rfl, by go_num, Nat.le_succ_of_le HIK.out, Nat.succ_le_succ HKL.out, P1.out, P2.out, P3.out, BN.out⟩, round_less HKL.out⟩
              · have P3 := hide (N3.out true (by simp))
                clear N1 N2 N3
                go_wp2_with fail
                exact ⟨⟨true, fv, true, k + 1, rfl, rfl, rfl, by go_num, Nat.le_succ_of_le HIK.out, Nat.succ_le_succ HKL.out, P1.out, P2.out, P3.out, BN.out⟩, round_less HKL.out⟩
          · have P1 := hide (N1.out false (by simp [hin]))
            clear hin
            rcases L2.out with rfl | ⟨rfl, hk0, hkn⟩ | ⟨rfl, hk0, hkn⟩
            · have P2 := hide (N2.out true (by simp))
              clear L1 L2
              cases d3
              · have P3 := hide (N3.out fv (by simp))
                clear N1 N2 N3
                go_wp2_with fail
                exact ⟨⟨false, true, fv, k + 1, rfl, rfl, rfl, by go_num, Nat.le_succ_of_le HIK.out, Nat.succ_le_succ HKL.out, P1.out, P2.out, P3.out, BN.out⟩, round_less HKL.out⟩
              · have P3 := hide (N3.out true (by simp))
                clear N1 N2 N3
                go_wp2_with fail
                exact ⟨⟨false, true, true, k + 1, rfl, rfl, rfl, by go_num, Nat.le_succ_of_le HIK.out, Nat.succ_le_succ HKL.out, P1.out, P2.out, P3.out, BN.out⟩, round_less HKL.out⟩
            · have P2 := hide (N2.out false (by simp [hkn]))
              clear hkn
              clear L1 L2
              cases d3
              · have P3 := hide (N3.out fv (by simp))
                clear N1 N2 N3
                go_wp2_with fail
                exact ⟨⟨false, false, fv, k + 1, rfl, rfl, rfl, by go_num, Nat.le_succ_of_le HIK.out, Nat.succ_le_succ HKL.out, P1.out, P2.out, P3.out, BN.out⟩, round_less HKL.out⟩
              · have P3 := hide (N3.out true (by simp))
                clear N1 N2 N3
                go_wp2_with fail
                exact ⟨⟨false, false, true, k + 1, rfl, rfl, rfl, by go_num, Nat.le_succ_of_le HIK.out, Nat.succ_le_succ HKL.out, P1.out, P2.out, P3.out, BN.out⟩, round_less HKL.out⟩
            · have P2 := hide (N2.out fv (by simp [hkn]))
              clear hkn
              clear L1 L2
              cases d3
              · have P3 := hide (N3.out fv (by simp))
                clear N1 N2 N3
                go_wp2_with fail
                exact ⟨⟨false, fv, fv, k + 1, rfl, rfl, rfl, by go_num, Nat.le_succ_of_le HIK.out, Nat.succ_le_succ HKL.out, P1.out, P2.out, P3.out, BN.out⟩, round_less HKL.out⟩
              · have P3 := hide (N3.out true (by simp))
                clear N1 N2 N3
                go_wp2_with fail
                exact ⟨⟨false, fv, true, k + 1, rfl, rfl, rfl, by go_num, Nat.le_succ_of_le HIK.out, Nat.succ_le_succ HKL.out, P1.out, P2.out, P3.out, BN.out⟩, round_less HKL.out⟩
          · have P1 := hide (N1.out fv (by simp [hin]))
            clear hin
            rcases L2.out with rfl | ⟨rfl, hk0, hkn⟩ | ⟨rfl, hk0, hkn⟩
            · have P2 := hide (N2.out true (by simp))
              clear L1 L2
              cases d3
              · have P3 := hide (N3.out fv (by simp))
                clear N1 N2 N3
                go_wp2_with fail
                exact ⟨⟨fv, true, fv, k + 1, rfl, rfl, rfl, by go_num, Nat.le_succ_of_le HIK.out, Nat.succ_le_succ HKL.out, P1.out, P2.out, P3.out, BN.out⟩, round_less HKL.out⟩
              · have P3 := hide (N3.out true (by simp))
                clear N1 N2 N3
                go_wp2_with fail
                exact ⟨⟨fv, true, true, k + 1, rfl, rfl, rfl, by go_num, Nat.le_succ_of_le HIK.out, Nat.succ_le_succ HKL.out, P1.out, P2.out, P3.out, BN.out⟩, round_less HKL.out⟩
            · have P2 := hide (N2.out false (by simp [hkn]))
              clear hkn
              clear L1 L2
              cases d3
              · have P3 := hide (N3.out fv (by simp))
                clear N1 N2 N3
                go_wp2_with fail
                exact ⟨⟨fv, false, fv, k + 1, rfl, rfl, rfl, by go_num, Nat.le_succ_of_le HIK.out, Nat.succ_le_succ HKL.out, P1.out, P2.out, P3.out, BN.out⟩, round_less HKL.out⟩
              · have P3 := hide (N3.out true (by simp))
                clear N1 N2 N3
                go_wp2_with fail
                exact ⟨⟨fv, false, true, k + 1, rfl, rfl, rfl, by go_num, Nat.le_succ_of_le HIK.out, Nat.succ_le_succ HKL.out, P1.out, P2.out, P3.out, BN.out⟩, round_less HKL.out⟩
            · have P2 := hide (N2.out fv (by simp [hkn]))
              clear hkn
              clear L1 L2
              cases d3
              · have P3 := hide (N3.out fv (by simp))
                clear N1 N2 N3
                go_wp2_with fail
                exact ⟨⟨fv, fv, fv, k + 1, rfl, rfl, rfl, by go_num, Nat.le_succ_of_le HIK.out, Nat.succ_le_succ HKL.out, P1.out, P2.out, P3.out, BN.out⟩, round_less HKL.out⟩
              · have P3 := hide (N3.out true (by simp))
                clear N1 N2 N3
                go_wp2_with fail
                exact ⟨⟨fv, fv, true, k + 1, rfl, rfl, rfl, by go_num, Nat.le_succ_of_le HIK.out, Nat.succ_le_succ HKL.out, P1.out, P2.out, P3.out, BN.out⟩, round_less HKL.out⟩
        · have hkl' : ¬ (k : Int) ≤ (l.length : Int) := by omega
          have N1 := hide (HT1.out.next (by omega))
          have N2 := hide (HT2.out.next (by omega))
          have N3 := hide (HT3.out.next (by omega))
          go_wp2_with fail
          exact ⟨⟨d1, d2, d3, i + 1, rfl, rfl, rfl, by go_num, by omega, N1.out, N2.out, N3.out, BQ.out⟩, round_less hil⟩
    · have hil' : ¬ (i : Int) ≤ (l.length : Int) := by omega
      have M2' := hide (M2.out b1 (HS1.out.done (by omega)))
      have M3' := hide (M3.out b2 (HS2.out.done (by omega)))
      have M4' := hide (M4.out b3 (HS3.out.done (by omega)))
      clear M2 M3 M4 HS1 HS2 HS3 CF
      generalize f 0 l.length = fv at *
      go_wp2_with fail
      refine (M1.out _ _ (bthen B6.out BR.out) (K.rep R1'.out BR.out)).mono ?_
      rintro e w8 ⟨rfl, hb8⟩
      have B8 := hide (bthen BR.out hb8)
      clear hb8
      go_wp2_with fail
      refine (CW.out _ _ (bthen B6.out B8.out) (K.rep R4.out B8.out)).mono ?_
      rintro e w9 ⟨rfl, hb9⟩
      have B9 := hide (bthen B8.out hb9)
      clear hb9
      go_wp2_with fail
      refine (M2'.out _ _ (bthen B6.out B9.out) (K.rep R2.out B9.out)).mono ?_
      rintro e w10 ⟨rfl, hb10⟩
      have B10 := hide (bthen B9.out hb10)
      clear hb10
      go_wp2_with fail
      refine (M3'.out _ _ (bthen B6.out B10.out) (K.rep R3'.out B10.out)).mono ?_
      rintro e w11 ⟨rfl, hb11⟩
      have B11 := hide (bthen B10.out hb11)
      clear hb11
      go_wp2_with fail
      refine (M4'.out _ _ (bthen B6.out B11.out) (K.rep R4.out B11.out)).mono ?_
      rintro e w12 ⟨rfl, hb12⟩
      have B12 := hide (bthen B11.out hb12)
      clear hb12
      go_wp2_with fail
      refine (CL.out _ (bthen B6.out B12.out)).mono ?_
      rintro e w13 ⟨rfl, hb13⟩
      go_wp2_with fail
      go_ret
      exact ⟨rfl, bthen (bthen B6.out B12.out) hb13⟩
theorem ends_law {T : World → Prop} {Rep : World → Value → Xp → Prop} (K : Kit5 T Rep) (s : ByteArray) (ao : Option Addr) (ca : Nat) (l : List Int) (w : World) (hT : T w) (hA : Is.slot w ao l) (hca : l.length ≤ ca) :
    Calls Tryz.prog 7 #[.string s, .slice ao l.length ca] w fun e w' => e = .returned (.bool true) ∧ Below w.heap.size w w' := by
  by_cases hs : s.size ≤ 50
  · by_cases hl : l.length ≤ 16
    · cases hm : Is.may l with
      | false => exact ends_out K s ao ca l w hT hA (.inr (.inr hm))
      | true =>
        cases hp : Px.parse s.data.toList with
        | error q => exact ends_none K s ao ca l w hT hA hs hl hm q hp
        | ok x =>
          cases hf : Px.parse (40 :: (s.data.toList ++ [41])) with
          | error q => exact ends_bad K s ao ca l w hT hA hs hl hm x hp q hf
          | ok y => exact ends_good K s ao ca l w hT hA hca hs hl hm x hp y hf
    · exact ends_out K s ao ca l w hT hA (.inr (.inl (by omega)))
  · exact ends_out K s ao ca l w hT hA (.inl (by omega))
end Go.Proofs.YtbceoinhmpnjaaaGreatDoor
