import Derived.Test.YtbceoinhmpnjaaaGreatDoorU14
/- The reader's brackets, by recursion on the depth. -/
namespace Go.Proofs.YtbceoinhmpnjaaaGreatDoor
open Go.RowKit Go.Sort

def ChOk (T : World → Prop) (b d D : Nat) : Prop := ∀ (W : World) (r : Bs), Rd W b r d 0 → Ty T b W → r.length ≤ 100 → Calls Tryz.prog 24 #[.pointer (some ⟨b, 0, none⟩)] W (PnPost b W d (chP (Px.choice D r)))
theorem wy_in {b d : Nat} {W w1 : World} (hb : b < W.heap.size) (hB : But b (inW W b d) w1) (y : Obj) (x0 v1 v2 : Value) : Wy b W (w1.heap.size + 1) x0 v1 v2 ((w1.alloc y).alloc (.cells #[x0, v1, v2] 59)) := wy_late hb ((inW_but W b d).trans hB) y x0 v1 v2
theorem choice_ok {T : World → Prop} (K : ReadKit T) {b d D : Nat} (hd : d < 8) (hI : InnerOk T b (d + 1) D) : ChOk T b d (D + 1) := by
  intro W r h hT hl
  have hbW := h.lt
  refine choice_walk K (A := True) (D := D) (Rr := rowR (Px.row (Px.choice D) (r.length + 1) [] r)) hd h hT (fun _ => hI) (row_ok K (inW_rd h) (hT.but (((But.refl b W).alloc zN).trans (inW_but W b d))) hl hI) ?_
  intro w1 y0 y1 y2 hp
  have hR0 : Px.choice (D + 1) r = _ := rows_step5 (ch := Px.choice D) (f := r.length) (acc := []) (r := r)
  cases hr : Px.row (Px.choice D) (r.length + 1) [] r with
  | error v =>
    rw [hr] at hp hR0
    obtain ⟨hB, x0, x1, x2, hR1, h1, he⟩ := hp
    exact .inr ⟨v, _, row_err (choice_err D) _ _ _ _ hr, rfl, hR0, (hR1.alloc _).alloc _, wy_in hbW hB _ _ _ _⟩
  | ok z =>
    obtain ⟨l, k⟩ := z
    rw [hr] at hp hR0
    obtain ⟨hB, k', x0, x1, x2, hk1, hk2, hR1, hT1, he⟩ := hp
    simp at he
    obtain ⟨rfl, rfl, rfl⟩ := he
    have hkl := (Px.row_suf (Px.choice_suf D) _ _ _ _ _ hr).length_le
    rw [inW_size] at hT1
    have hs := hB.size
    rw [inW_size] at hs
    refine .inl ⟨trivial, r.length, k', k, [l], _, hR0, hk1, hk2, hkl, by omega, by simp; omega, (hR1.alloc _).alloc _, wy_in hbW hB _ _ _ _, ?_⟩
    have := Kids.first (N := w1.heap.size + 1) hT1 rfl hs (.cells #[.int .i64 3, .slice none 0 0, .slice (some ⟨w1.heap.size, 0, none⟩) 1 1] 59)
    simpa [Nd.pnRows_map] using this

theorem innerR_err {R : Except Int (List (List Nd) × Bs)} {v : Int} (h : R = .error v) : innerR R = .error v := by rw [h]; rfl
theorem chP_err {R : Except Int (List (List Nd) × Bs)} {v : Int} (h : R = .error v) : chP R = .error v := by rw [h]; rfl

set_option maxHeartbeats 16000000 in
set_option maxRecDepth 100000 in
/-- A ninth choice in one another. -/
theorem choice_deep5 {T : World → Prop} (K : ReadKit T) {b d : Nat} (hd : 8 ≤ d) (hd2 : d ≤ 100) : ChOk T b d 0 := by
  intro W r h hT hl
  have hbW := h.lt
  have hne0 : W.heap.size ≠ b := by omega
  have hne1 : b ≠ W.heap.size := by omega
  have hd3 : (8 : Int) < (d : Int) + 1 := by omega
  have hd4 : (d : Int) ≤ 100 := by omega
  have CF := hide (rfail_is (inW_rd h) 2 2 rfl)
  have HT := hide hT
  obtain ⟨RR, hRR⟩ : ∃ RR, RR = chP (Px.choice 0 r) := ⟨_, rfl⟩
  have HX : Hid (RR = .error 2) := hRR
  rw [← hRR]
  obtain ⟨c0, c1, c2, fr⟩ := h
  have k1 := fr.2 1
  clear fr hT hl hRR
  go_enter Tryz.func24, Tryz.ntmps24
  go_wp2_with fail
  change Calls Tryz.prog 41 #[.pointer (some ⟨b, 0, none⟩), .int .i64 2] (inW W b d) _
  refine CF.out.mono ?_
  rintro e w0 ⟨rfl, hB, hR⟩
  have hB1 := (inW_but W b d).trans hB
  have HB1 := hide hB1
  have CR := hide (row_bad K (by decide) hR (HT.out.but (((But.refl b W).alloc zN).trans hB1)))
  clear hB hR hB1 CF c0 c1 c2 k1 hd3
  go_wp2_with fail
  refine CR.out.mono ?_
  rintro e w2 ⟨hB, y0, y1, y2, hR, ⟨o0, o1, o2⟩, rfl⟩
  have s0 := fun w a m => run_store Tryz.prog w a y0 m o0
  have s1 := fun w a m => run_store Tryz.prog w a y1 m o1
  have s2 := fun w a m => run_store Tryz.prog w a y2 m o2
  have HS : Hid (ChRel False b W (w2.heap.size + 1) (d + 1) 0 (.error 2) ((w2.alloc (.cells #[y0, y1, y2] 59)).alloc (.cells #[.int .i64 3, .slice none 0 0, .slice (some ⟨w2.heap.size, 0, none⟩) 1 1] 59))) :=
    .inr ⟨2, _, by decide, rfl, rfl, (hR.alloc _).alloc _, wy_late hbW (HB1.out.trans hB) _ _ _ _⟩
  clear hB hR CR HB1
  go_wp2_with fail
  clear s0 s1 s2 o0 o1 o2
  obtain ⟨N, hN⟩ : ∃ N, N = w2.heap.size + 1 := ⟨_, rfl⟩
  rw [← hN] at HS ⊢
  generalize (w2.alloc (.cells #[y0, y1, y2] 59)).alloc (.cells #[.int .i64 3, .slice none 0 0, .slice (some ⟨w2.heap.size, 0, none⟩) 1 1] 59) = W1 at *
  clear hN
  go_loopw [] (fun wr => Hid (ChRel False b W N (d + 1) 0 (.error 2) wr)) (fun wr => mes wr b)
  case atStart => exact HS
  case round =>
    rcases hrel.out with ⟨hA, _⟩ | ⟨v, vU, hv, hvU, hR, hrd, hw⟩
    · exact hA.elim
    · obtain rfl : v = 2 := by cases hR; rfl
      have HWY := hide hw
      have CT := hide (take_is K.trims hrd 124 124 rfl false rfl [] rfl)
      clear hR hw hrel hrd
      go_wp2_with fail
      refine CT.out.mono ?_
      rintro e w1 ⟨rfl, hB, hR1⟩
      have R2 := hide hR1
      have HW2 := hide (HWY.out.step hB)
      obtain ⟨d0, d1, d2⟩ := HW2.out.box1
      obtain ⟨e0, e1, e2⟩ := HW2.out.box0
      have fr := HW2.out.free0.2
      have f0 := fr 0
      have f1 := fr 1
      have f2 := fr 2
      have hne := HW2.out.ne0
      have hneN := HW2.out.ne1
      have s2 := fun w a m => run_store Tryz.prog w a vU m hvU
      obtain ⟨_, g1, _, fb⟩ := R2.out
      have k1 := fb.2 1
      have hdd : ((d + 1 : Nat) : Int) = (d : Int) + 1 := by omega
      rw [hdd] at g1
      clear hB hR1 CT fr fb hdd
      have HB3 := hide ((But.refl b w1).setCell (p := ⟨b, 1, none⟩) (.inl rfl) (.int .i64 (d : Int)))
      have HW2 := hide (HW2.out.step HB3.out)
      have R2 := hide (R2.out.deepI d (d : Int) rfl)
      go_wp2_with fail
      change bodyPost Tryz.prog Tryz.f24 (PnPost b W d RR) Exit.ret _ (put3 (w1.setCell ⟨b, 1, none⟩ (.int .i64 (d : Int))) W.heap.size (.int .i64 3) (.slice none 0 0) vU)
      refine bodyPost_ret (v := .agg #[.int .i64 3, .slice none 0 0, vU]) (res_n Tryz.results24 _ _ W.heap.size rfl (put3_box HW2.out.box0 _ _ _)) rfl ?_
      exact pnPost_err HX.out (put3_but HW2.out.but (.inr (Nat.le_refl _)) _ _ _) (put3_rd R2.out hne _ _ _) ⟨rfl, rfl, hvU⟩
set_option maxHeartbeats 16000000 in
set_option maxRecDepth 100000 in
theorem inner_ok {T : World → Prop} (K : ReadKit T) {b d D : Nat} (hC : ChOk T b d D) : InnerOk T b d D := by
  intro W r h hT hl
  have hbW := h.lt
  have hne : W.heap.size ≠ b := by omega
  have R0 := hide (h.alloc zN)
  have B0 := hide ((But.refl b W).alloc zN)
  have Z0 := hide (head_new W)
  have F0 := hide (free_new W #[.int .i64 0, .slice none 0 0, .slice none 0 0] 59)
  have HT := hide (hT.but B0.out)
  have hlt0 : W.heap.size < (W.alloc zN).heap.size := by rw [size_alloc]; omega
  have CC := hide (hC _ r R0.out HT.out hl)
  obtain ⟨RR, hRR⟩ : ∃ RR, RR = innerR (Px.choice D r) := ⟨_, rfl⟩
  rw [← hRR]
  clear h hT hl hC
  cases hch : Px.choice D r with
  | error v =>
    have hv := choice_err D _ _ hch
    have HX : Hid (RR = .error v) := by show _ = _; rw [hRR, hch]; rfl
    rw [hch] at CC
    clear hRR hch
    go_enter Tryz.func72, Tryz.ntmps72
    go_wp2_with fail
    generalize W.alloc zN = W1 at *
    refine CC.out.mono ?_
    rintro e w2 ⟨hB, x0, x1, x2, hR, ⟨o0, o1, o2⟩, rfl⟩
    have B2 := hide (B0.out.trans hB)
    have Z2 := hide (box3_but Z0.out hB hne)
    have F2 := hide (hB.free F0.out hne)
    have CT := hide (take_is K.trims (hR.alloc (.cells #[x0, x1, x2] 59)) 41 41 rfl false rfl [] rfl)
    clear hB hR CC
    have hltA : W.heap.size < w2.heap.size := box3_lt Z2.out
    have hnA : w2.heap.size ≠ b := by omega
    have hnB : w2.heap.size ≠ W.heap.size := by omega
    have hnC : W.heap.size ≠ w2.heap.size := by omega
    have BA := hide (B2.out.alloc (.cells #[x0, x1, x2] 59))
    have ZA := hide (box3_below Z2.out (balloc (brefl _) (.cells #[x0, x1, x2] 59)))
    have FA := hide (free_alloc F2.out (.cells #[x0, x1, x2] 59))
    have XA := hide (box3_new w2 x0 x1 x2 59)
    have s0 := fun w a m => run_store Tryz.prog w a x0 m o0
    have s1 := fun w a m => run_store Tryz.prog w a x1 m o1
    have s2 := fun w a m => run_store Tryz.prog w a x2 m o2
    go_wp2_with fail
    refine CT.out.mono ?_
    rintro e w3 ⟨rfl, hB, hR⟩
    have BA := hide (BA.out.trans hB)
    have ZA := hide (box3_but ZA.out hB hne)
    have FA := hide (hB.free FA.out hne)
    have XA := hide (box3_but XA.out hB hnA)
    have CF := hide (rfail_is hR 4 v (by rw [if_neg hv]))
    clear hB hR CT
    go_wp2_with fail
    refine CF.out.mono ?_
    rintro e w4 ⟨rfl, hB, hR⟩
    have BA := hide (BA.out.trans hB)
    have ZA := hide (box3_but ZA.out hB hne)
    have FA := hide (hB.free FA.out hne)
    have XA := hide (box3_but XA.out hB hnA)
    have R4 := hide hR
    clear hB hR CF
    obtain ⟨z0, z1, z2⟩ := ZA.out
    obtain ⟨y0, y1, y2⟩ := XA.out
    have f0 := FA.out.2 0
    have f1 := FA.out.2 1
    have f2 := FA.out.2 2
    go_wp2_with fail
    change bodyPost Tryz.prog Tryz.f72 (NodePost b W d RR) Exit.ret _ (put3 w4 W.heap.size x0 x1 x2)
    have BF := hide (put3_but BA.out (g := W.heap.size) (.inr (Nat.le_refl _)) x0 x1 x2)
    refine bodyPost_ret (v := .agg #[x0, x1, x2]) (res_n Tryz.results72 _ _ W.heap.size rfl (put3_box ZA.out _ _ _)) rfl ?_
    exact nodePost_err HX.out BF.out (put3_rd R4.out hne _ _ _) ⟨o0, o1, o2⟩
  | ok z =>
    obtain ⟨c, k⟩ := z
    have HX1 : Hid (RR = if Px.isAt k 41 = true then .ok (.ch c, Px.next k) else .error 4) := by show _ = _; rw [hRR, hch]; rfl
    rw [hch] at CC
    clear hRR hch
    go_enter Tryz.func72, Tryz.ntmps72
    go_wp2_with fail
    generalize W.alloc zN = W1 at *
    refine CC.out.mono ?_
    rintro e w2 ⟨hB, k', x0, x1, x2, hk1, hk2, hR, hT1, rfl⟩
    obtain ⟨o0, o1, o2⟩ := Pn.one hT1.at
    have B2 := hide (B0.out.trans hB)
    have Z2 := hide (box3_but Z0.out hB hne)
    have F2 := hide (hB.free F0.out hne)
    have HT1 := hide hT1
    have R2 := hide (hR.alloc (.cells #[x0, x1, x2] 59))
    have HK := hide hk1
    clear hB hR CC hT1 hk1 hk2
    have hltA : W.heap.size < w2.heap.size := box3_lt Z2.out
    have hnA : w2.heap.size ≠ b := by omega
    have hnB : w2.heap.size ≠ W.heap.size := by omega
    have hnC : W.heap.size ≠ w2.heap.size := by omega
    have BA := hide (B2.out.alloc (.cells #[x0, x1, x2] 59))
    have ZA := hide (box3_below Z2.out (balloc (brefl _) (.cells #[x0, x1, x2] 59)))
    have FA := hide (free_alloc F2.out (.cells #[x0, x1, x2] 59))
    have XA := hide (box3_new w2 x0 x1 x2 59)
    have s0 := fun w a m => run_store Tryz.prog w a x0 m o0
    have s1 := fun w a m => run_store Tryz.prog w a x1 m o1
    have s2 := fun w a m => run_store Tryz.prog w a x2 m o2
    go_wp2_with fail
    cases h41 : Px.isAt k' 41 with
    | false =>
      have HX : Hid (RR = .error 4) := by show _ = _; rw [HX1.out, ← isAt_cong HK.out, h41]; rfl
      have CT := hide (take_is K.trims R2.out 41 41 rfl false h41 (Px.skip k') (by simp))
      clear h41
      refine CT.out.mono ?_
      rintro e w3 ⟨rfl, hB, hR⟩
      have BA := hide (BA.out.trans hB)
      have ZA := hide (box3_but ZA.out hB hne)
      have FA := hide (hB.free FA.out hne)
      have XA := hide (box3_but XA.out hB hnA)
      have CF := hide (rfail_is hR 4 4 rfl)
      clear hB hR CT
      go_wp2_with fail
      refine CF.out.mono ?_
      rintro e w4 ⟨rfl, hB, hR⟩
      have BA := hide (BA.out.trans hB)
      have ZA := hide (box3_but ZA.out hB hne)
      have FA := hide (hB.free FA.out hne)
      have XA := hide (box3_but XA.out hB hnA)
      have R4 := hide hR
      clear hB hR CF
      obtain ⟨z0, z1, z2⟩ := ZA.out
      obtain ⟨y0, y1, y2⟩ := XA.out
      have f0 := FA.out.2 0
      have f1 := FA.out.2 1
      have f2 := FA.out.2 2
      go_wp2_with fail
      change bodyPost Tryz.prog Tryz.f72 (NodePost b W d RR) Exit.ret _ (put3 w4 W.heap.size x0 x1 x2)
      have BF := hide (put3_but BA.out (g := W.heap.size) (.inr (Nat.le_refl _)) x0 x1 x2)
      refine bodyPost_ret (v := .agg #[x0, x1, x2]) (res_n Tryz.results72 _ _ W.heap.size rfl (put3_box ZA.out _ _ _)) rfl ?_
      exact nodePost_err HX.out BF.out (put3_rd R4.out hne _ _ _) ⟨o0, o1, o2⟩
    | true =>
      have HX : Hid (RR = .ok (.ch c, Px.next k)) := by show _ = _; rw [HX1.out, ← isAt_cong HK.out, h41]; rfl
      have HNX := hide (next_cong HK.out)
      have CT := hide (take_is K.trims R2.out 41 41 rfl true h41 (Px.next k') (by simp))
      clear h41
      refine CT.out.mono ?_
      rintro e w3 ⟨rfl, hB, hR⟩
      have BA := hide (BA.out.trans hB)
      have ZA := hide (box3_but ZA.out hB hne)
      have FA := hide (hB.free FA.out hne)
      have XA := hide (box3_but XA.out hB hnA)
      have R3 := hide hR
      have HB3 := hide hB
      clear hB hR CT
      obtain ⟨z0, z1, z2⟩ := ZA.out
      obtain ⟨y0, y1, y2⟩ := XA.out
      have f0 := FA.out.2 0
      have f1 := FA.out.2 1
      have f2 := FA.out.2 2
      go_wp2_with fail
      change bodyPost Tryz.prog Tryz.f72 (NodePost b W d RR) Exit.ret _ (put3 w3 W.heap.size x0 x1 x2)
      have BF := hide (put3_but BA.out (g := W.heap.size) (.inr (Nat.le_refl _)) x0 x1 x2)
      refine bodyPost_ret (v := .agg #[x0, x1, x2]) (res_n Tryz.results72 _ _ W.heap.size rfl (put3_box ZA.out _ _ _)) rfl ?_
      refine nodePost_ok (n := .ch c) (k := Px.next k) (k' := Px.next k') HX.out BF.out (by rw [HNX.out]) (by rw [HNX.out]; exact Nat.le_refl _) (put3_rd R3.out hne _ _ _) ?_
      rw [Nd.pn]
      refine HT1.out.later (by omega) (by rw [put3_size]; have := HB3.out.size; rw [size_alloc] at this; omega) (fun j hj hl => ?_)
      rw [put3_other _ _ _ _ _ j (by omega), HB3.out.block j (by omega) (by rw [size_alloc]; omega), heap_alloc_lt _ _ j hl]

/-- At every depth. -/
theorem choice_any {T : World → Prop} (K : ReadKit T) (b : Nat) : ∀ (D d : Nat), d + D = 8 → ChOk T b d D
  | 0, d, h => choice_deep5 K (by omega) (by omega)
  | D + 1, d, h => choice_ok K (by omega) (inner_ok K (choice_any K b D (d + 1) (by omega)))
theorem choice_all {T : World → Prop} (K : ReadKit T) (b : Nat) : ChOk T b 0 8 := choice_any K b 8 0 rfl
end Go.Proofs.YtbceoinhmpnjaaaGreatDoor

/- The program's Parse. -/
namespace Go.Proofs.YtbceoinhmpnjaaaGreatDoor
open Go.RowKit Go.Sort

def Box5 (w : World) (b : Nat) (y0 y1 y2 y3 y4 : Value) : Prop := w.cell? ⟨b, 0, none⟩ = some y0 ∧ w.cell? ⟨b, 1, none⟩ = some y1 ∧ w.cell? ⟨b, 2, none⟩ = some y2 ∧ w.cell? ⟨b, 3, none⟩ = some y3 ∧ w.cell? ⟨b, 4, none⟩ = some y4
theorem box5_of {w w' : World} {b : Nat} {y0 y1 y2 y3 y4 : Value} (h : Box5 w b y0 y1 y2 y3 y4) (hb : w'.heap[b]? = w.heap[b]?) : Box5 w' b y0 y1 y2 y3 y4 := by
  have e : ∀ o, w'.cell? ⟨b, o, none⟩ = w.cell? ⟨b, o, none⟩ := fun o => World.cell?_of_block (a := ⟨b, o, none⟩) hb
  obtain ⟨h0, h1, h2, h3, h4⟩ := h
  exact ⟨(e 0).trans h0, (e 1).trans h1, (e 2).trans h2, (e 3).trans h3, (e 4).trans h4⟩
theorem box5_lt {w : World} {b : Nat} {y0 y1 y2 y3 y4 : Value} (h : Box5 w b y0 y1 y2 y3 y4) : b < w.heap.size := block_lt_of_cell h.1
theorem box5_but {w w' : World} {b c : Nat} {y0 y1 y2 y3 y4 : Value} (h : Box5 w c y0 y1 y2 y3 y4) (hb : But b w w') (hc : c ≠ b) : Box5 w' c y0 y1 y2 y3 y4 := box5_of h (hb.block c hc (box5_lt h))
theorem box5_below {w w' : World} {c : Nat} {y0 y1 y2 y3 y4 : Value} (h : Box5 w c y0 y1 y2 y3 y4) (hb : Below w.heap.size w w') : Box5 w' c y0 y1 y2 y3 y4 := box5_of h (hb.block c (box5_lt h))
theorem box5_new (W : World) (y0 y1 y2 y3 y4 : Value) (t : TypeId) : Box5 (W.alloc (.cells #[y0, y1, y2, y3, y4] t)) W.heap.size y0 y1 y2 y3 y4 := ⟨by simp, by simp, by simp, by simp, by simp⟩
theorem box5_set0 {w : World} {b : Nat} {y0 y1 y2 y3 y4 : Value} (h : Box5 w b y0 y1 y2 y3 y4) (v : Value) : Box5 (w.setCell ⟨b, 0, none⟩ v) b v y1 y2 y3 y4 := by
  obtain ⟨c0, c1, c2, c3, c4⟩ := h
  refine ⟨?_, ?_, ?_, ?_, ?_⟩ <;> simp [go_sem, c0, c1, c2, c3, c4]
theorem box5_set1 {w : World} {b : Nat} {y0 y1 y2 y3 y4 : Value} (h : Box5 w b y0 y1 y2 y3 y4) (v : Value) : Box5 (w.setCell ⟨b, 1, none⟩ v) b y0 v y2 y3 y4 := by
  obtain ⟨c0, c1, c2, c3, c4⟩ := h
  refine ⟨?_, ?_, ?_, ?_, ?_⟩ <;> simp [go_sem, c0, c1, c2, c3, c4]
/-- A node put into an expression. -/
def putX (w : World) (g : Nat) (y0 y1 y2 : Value) : World := ((w.setCell ⟨g, 2, none⟩ y0).setCell ⟨g, 3, none⟩ y1).setCell ⟨g, 4, none⟩ y2
theorem putX_size (w : World) (g : Nat) (y0 y1 y2 : Value) : (putX w g y0 y1 y2).heap.size = w.heap.size := by simp [putX]
theorem putX_other (w : World) (g : Nat) (y0 y1 y2 : Value) (k : Nat) (h : k ≠ g) : (putX w g y0 y1 y2).heap[k]? = w.heap[k]? := by
  unfold putX
  rw [heap_setCell_ne _ _ _ _ _ h, heap_setCell_ne _ _ _ _ _ h, heap_setCell_ne _ _ _ _ _ h]
theorem putX_box {w : World} {g : Nat} {z0 z1 x0 x1 x2 : Value} (h : Box5 w g z0 z1 x0 x1 x2) (y0 y1 y2 : Value) : Box5 (putX w g y0 y1 y2) g z0 z1 y0 y1 y2 := by
  obtain ⟨c0, c1, c2, c3, c4⟩ := h
  unfold putX
  refine ⟨?_, ?_, ?_, ?_, ?_⟩ <;> simp [go_sem, c0, c1, c2, c3, c4]
theorem putX_rd {w : World} {b g : Nat} {r : Bs} {d : Nat} {q : Int} (h : Rd w b r d q) (hg : g ≠ b) (y0 y1 y2 : Value) : Rd (putX w g y0 y1 y2) b r d q := h.of (by rw [putX_size]; omega) (putX_other _ _ _ _ _ _ (fun e => hg e.symm))
theorem putX_free {w : World} {g c : Nat} (h : Free w c) (y0 y1 y2 : Value) : Free (putX w g y0 y1 y2) c := free_set (free_set (free_set h _ _) _ _) _ _
/-- Where an expression lies: a pointer to its five cells; it was read of some text. -/
def Rep5 (w : World) (v : Value) (x : Xp) : Prop :=
  ∃ (a : Nat) (x0 x1 x2 : Value), v = .pointer (some ⟨a, 0, none⟩) ∧ Box5 w a (.bool x.1) (.bool x.2.1) x0 x1 x2 ∧ Pn.At w (.mk 3 [] (Nd.pnRows x.2.2)) [x0, x1, x2] ∧ ∃ s : Bs, Px.parse s = .ok x
theorem Rep5.on {w w' : World} {v : Value} {x : Xp} (h : Rep5 w v x) (hb : Below w.heap.size w w') : Rep5 w' v x := by
  obtain ⟨a, x0, x1, x2, h1, h2, h3, h4⟩ := h
  exact ⟨a, x0, x1, x2, h1, box5_below h2 hb, Pn.on h3 hb, h4⟩
def ParsePost (W : World) (R : Except Int Xp) (e : Ending) (w' : World) : Prop := Below W.heap.size W w' ∧ ((∃ q, R = .error q ∧ q ≠ 0 ∧ e = .returned (.tuple #[.pointer none, .int .i64 q])) ∨ (∃ x v, R = .ok x ∧ Rep5 w' v x ∧ e = .returned (.tuple #[v, .int .i64 0])))
abbrev zE : Obj := .cells #[.bool false, .bool false, .int .i64 0, .slice none 0 0, .slice none 0 0] 61

set_option maxHeartbeats 16000000 in
set_option maxRecDepth 100000 in
theorem parse_is5 {T : World → Prop} (K : ReadKit T) (r : Bs) (W : World) (hT : T W) : Calls Tryz.prog 10 #[.string (tx r)] W (ParsePost W (Px.parse r)) := by
  obtain ⟨RR, hRR⟩ : ∃ RR, RR = Px.parse r := ⟨_, rfl⟩
  by_cases hl : 64 < r.length
  · have hz : (64 : Int) < ((tx r).size : Int) := by rw [tx_size]; omega
    have HX : Hid (RR = .error 2) := by show _ = _; rw [hRR]; unfold Px.parse; rw [if_pos hl]
    rw [← hRR]
    clear hRR hT hl
    generalize tx r = s at *
    go_enter Tryz.func10, Tryz.ntmps10
    go_wp2_with fail
    exact bodyPost_ret (results_tmp2 Tryz.results10 _ _ _) rfl ⟨brefl _, .inl ⟨2, HX.out, by decide, rfl⟩⟩
  · have hz : ¬ (64 : Int) < ((tx r).size : Int) := by rw [tx_size]; omega
    have HX0 : Hid (RR = (match Px.choice 8 (if Px.isAt r 94 = true then Px.next r else r) with
      | .error e => .error e
      | .ok (c, k) => if Px.skip (if Px.isAt k 36 = true then Px.next k else k) = [] then .ok (Px.isAt r 94, Px.isAt k 36, c) else .error 4)) := by
      show _ = _
      rw [hRR]
      unfold Px.parse
      rw [if_neg hl]
      cases Px.choice 8 (if Px.isAt r 94 = true then Px.next r else r) <;> rfl
    have R0 : Hid (Rd ((W.alloc (.cells #[.string (tx r), .int .i64 0, .int .i64 0] 54)).alloc zE) W.heap.size r 0 0) := by
      refine Rd.alloc ⟨?_, ?_, ?_, free_new W _ 54⟩ zE <;> simp
    have B0 := hide (balloc (balloc (brefl W) (.cells #[.string (tx r), .int .i64 0, .int .i64 0] 54)) zE)
    have E0 := hide (box5_new (W.alloc (.cells #[.string (tx r), .int .i64 0, .int .i64 0] 54)) (.bool false) (.bool false) (.int .i64 0) (.slice none 0 0) (.slice none 0 0) 61)
    have F0 := hide (free_new (W.alloc (.cells #[.string (tx r), .int .i64 0, .int .i64 0] 54)) #[.bool false, .bool false, .int .i64 0, .slice none 0 0, .slice none 0 0] 61)
    rw [size_alloc] at E0 F0
    have T0 : Hid (Ty T W.heap.size ((W.alloc (.cells #[.string (tx r), .int .i64 0, .int .i64 0] 54)).alloc zE)) := ⟨W, hT, B0.out, Nat.le_refl _⟩
    have hne : W.heap.size + 1 ≠ W.heap.size := by omega
    obtain ⟨t1, ht1⟩ : ∃ t1, t1 = Px.isAt r 94 := ⟨_, rfl⟩
    obtain ⟨r1, hr1⟩ : ∃ r1, r1 = if t1 = true then Px.next r else Px.skip r := ⟨_, rfl⟩
    have hc1 : Px.choice 8 (if Px.isAt r 94 = true then Px.next r else r) = Px.choice 8 r1 := by
      rw [hr1, ← ht1]
      cases t1 with
      | true => rfl
      | false => exact (choice_cong (Px.skip_idem r) 8).symm
    have hrl : r1.length ≤ 100 := by
      have h1 := (Px.next_suf r).length_le
      have h2 := (Px.skip_suf r).length_le
      rw [hr1]
      split <;> omega
    rw [hc1, ← ht1] at HX0
    have C1 := hide (take_is K.trims R0.out 94 94 rfl t1 ht1.symm r1 hr1)
    have C2 := hide (fun w hR hT => choice_all K W.heap.size w r1 hR hT hrl)
    have HP := hide hRR.symm
    rw [← hRR]
    clear hRR hT hl hr1 hrl hc1 ht1
    generalize hs : tx r = s at *
    clear hs
    go_enter Tryz.func10, Tryz.ntmps10
    go_wp2_with fail
    generalize (W.alloc (.cells #[.string s, .int .i64 0, .int .i64 0] 54)).alloc zE = W1 at *
    refine C1.out.mono ?_
    rintro e w1 ⟨rfl, hB, hR⟩
    have E1 := hide (box5_set0 (box5_but E0.out hB hne) (.bool t1))
    have F1 := hide (free_set (hB.free F0.out hne) ⟨W.heap.size + 1, 0, none⟩ (.bool t1))
    have hlt1 := box5_lt (box5_but E0.out hB hne)
    have B1 := hide ((B0.out.trans (hB.below (Nat.le_refl _) (by have := box5_lt E0.out; omega))).setCell (p := ⟨W.heap.size + 1, 0, none⟩) (Nat.le_succ _) (.bool t1))
    have R1 := hide (hR.other (p := ⟨W.heap.size + 1, 0, none⟩) hne (.bool t1))
    have T1 : Hid (Ty T W.heap.size (w1.setCell ⟨W.heap.size + 1, 0, none⟩ (.bool t1))) := by
      obtain ⟨w0, a1, a2, a3⟩ := T0.out.but hB
      exact ⟨w0, a1, a2.setCell (by simp only; omega) _, a3⟩
    have D2 := hide (C2.out _ R1.out T1.out)
    obtain ⟨c0, c1, c2, c3, c4⟩ := box5_but E0.out hB hne
    have f0 := (hB.free F0.out hne).2 0
    clear hB hR C1 C2
    go_wp2_with fail
    generalize w1.setCell ⟨W.heap.size + 1, 0, none⟩ (.bool t1) = w2 at *
    cases hch : Px.choice 8 r1 with
    | error v =>
      have hv := choice_err 8 _ _ hch
      have hv1 : (v != 0) = true := by simpa using hv
      have HX : Hid (RR = .error v) := by show _ = _; rw [HX0.out, hch]
      rw [hch] at D2
      clear HX0 hch c0 c1 c2 c3 c4 f0
      refine D2.out.mono ?_
      rintro e w3 ⟨hB, x0, x1, x2, hR, ⟨o0, o1, o2⟩, rfl⟩
      have B3 := hide (B1.out.trans (hB.below (Nat.le_refl _) (by have := box5_lt E1.out; omega)))
      have E3 := hide (box5_but E1.out hB hne)
      have F3 := hide (hB.free F1.out hne)
      have s0 := fun w a m => run_store Tryz.prog w a x0 m o0
      have s1 := fun w a m => run_store Tryz.prog w a x1 m o1
      have s2 := fun w a m => run_store Tryz.prog w a x2 m o2
      obtain ⟨c0, c1, c2, c3, c4⟩ := E3.out
      have f2 := F3.out.2 2
      have f3 := F3.out.2 3
      have f4 := F3.out.2 4
      have R3 := hide (putX_rd hR (g := W.heap.size + 1) hne x0 x1 x2)
      have E3x := hide (putX_box E3.out x0 x1 x2)
      have F3x := hide (putX_free (g := W.heap.size + 1) F3.out x0 x1 x2)
      have B3x : Hid (Below W.heap.size W (putX w3 (W.heap.size + 1) x0 x1 x2)) := ((B3.out.setCell (p := ⟨W.heap.size + 1, 2, none⟩) (Nat.le_succ _) x0).setCell (p := ⟨W.heap.size + 1, 3, none⟩) (Nat.le_succ _) x1).setCell (p := ⟨W.heap.size + 1, 4, none⟩) (Nat.le_succ _) x2
      have CT := hide (take_is K.trims R3.out 36 36 rfl false rfl [] rfl)
      clear hB hR D2
      go_wp2_with fail
      change Calls Tryz.prog 23 _ (putX w3 (W.heap.size + 1) x0 x1 x2) _
      generalize putX w3 (W.heap.size + 1) x0 x1 x2 = w3x at *
      clear c0 c1 c2 c3 c4 f2 f3 f4
      refine CT.out.mono ?_
      rintro e w4 ⟨rfl, hB, hR⟩
      have B4 := hide (B3x.out.trans (hB.below (Nat.le_refl _) (by have := box5_lt E3x.out; omega)))
      have E4 := hide (box5_but E3x.out hB hne)
      have F4 := hide (hB.free F3x.out hne)
      have B4s := hide (B4.out.setCell (p := ⟨W.heap.size + 1, 1, none⟩) (Nat.le_succ _) (.bool false))
      have E4s := hide (box5_set1 E4.out (.bool false))
      have R4s := hide (hR.other (p := ⟨W.heap.size + 1, 1, none⟩) hne (.bool false))
      obtain ⟨c0, c1, c2, c3, c4⟩ := E4.out
      have f1 := F4.out.2 1
      have CE := hide (rend_is K.trims R4s.out v rfl)
      clear hB hR CT
      go_wp2_with fail
      generalize w4.setCell ⟨W.heap.size + 1, 1, none⟩ (.bool false) = w4s at *
      refine CE.out.mono ?_
      rintro e w5 ⟨rfl, hB, hR⟩
      have B5 := hide (B4s.out.trans (hB.below (Nat.le_refl _) (by have := box5_lt E4s.out; omega)))
      have E5 := hide (box5_but E4s.out hB hne)
      obtain ⟨d0, d1, d2, _⟩ := hR
      clear hB CE
      go_wp2_with fail
      go_region
      go_wp2_with fail
      exact bodyPost_ret (results_tmp2 Tryz.results10 _ _ _) rfl ⟨B5.out.drew, .inl ⟨v, HX.out, hv, rfl⟩⟩
    | ok z =>
      obtain ⟨c, k⟩ := z
      rw [hch] at D2 HX0
      simp only at HX0
      clear hch c0 c1 c2 c3 c4 f0
      refine D2.out.mono ?_
      rintro e w3 ⟨hB, k', x0, x1, x2, hk1, hk2, hR, hT1, rfl⟩
      obtain ⟨o0, o1, o2⟩ := Pn.one hT1.at
      have HT1 := hide hT1
      clear hT1
      have B3 := hide (B1.out.trans (hB.below (Nat.le_refl _) (by have := box5_lt E1.out; omega)))
      have E3 := hide (box5_but E1.out hB hne)
      have F3 := hide (hB.free F1.out hne)
      have s0 := fun w a m => run_store Tryz.prog w a x0 m o0
      have s1 := fun w a m => run_store Tryz.prog w a x1 m o1
      have s2 := fun w a m => run_store Tryz.prog w a x2 m o2
      obtain ⟨c0, c1, c2, c3, c4⟩ := E3.out
      have f2 := F3.out.2 2
      have f3 := F3.out.2 3
      have f4 := F3.out.2 4
      have R3 := hide (putX_rd hR (g := W.heap.size + 1) hne x0 x1 x2)
      have E3x := hide (putX_box E3.out x0 x1 x2)
      have F3x := hide (putX_free (g := W.heap.size + 1) F3.out x0 x1 x2)
      have B3x : Hid (Below W.heap.size W (putX w3 (W.heap.size + 1) x0 x1 x2)) := ((B3.out.setCell (p := ⟨W.heap.size + 1, 2, none⟩) (Nat.le_succ _) x0).setCell (p := ⟨W.heap.size + 1, 3, none⟩) (Nat.le_succ _) x1).setCell (p := ⟨W.heap.size + 1, 4, none⟩) (Nat.le_succ _) x2
      have HT3 : Hid (Own3 (From w2.heap.size w3) (putX w3 (W.heap.size + 1) x0 x1 x2) (.mk 3 [] (Nd.pnRows c)) [x0, x1, x2]) := HT1.out.keep (by rw [putX_size]; exact Nat.le_refl _) fun j hj => putX_other _ _ _ _ _ j (by have := box5_lt E1.out; have := hj.1; omega)
      have hw23 := hB.size
      have hw2 := box5_lt E1.out
      have hw3s : (putX w3 (W.heap.size + 1) x0 x1 x2).heap.size = w3.heap.size := putX_size _ _ _ _ _
      obtain ⟨t2, ht2⟩ : ∃ t2, t2 = Px.isAt k' 36 := ⟨_, rfl⟩
      obtain ⟨r2, hr2⟩ : ∃ r2, r2 = if t2 = true then Px.next k' else Px.skip k' := ⟨_, rfl⟩
      have hsk : Px.skip (if Px.isAt k 36 = true then Px.next k else k) = Px.skip r2 := by
        rw [hr2, ← isAt_cong hk1, ← ht2, ← next_cong hk1]
        cases t2 with
        | true => rfl
        | false => simp only [Bool.false_eq_true, if_false]; rw [Px.skip_idem, hk1]
      rw [hsk, ← isAt_cong hk1, ← ht2] at HX0
      have CT := hide (take_is K.trims R3.out 36 36 rfl t2 ht2.symm r2 hr2)
      clear hB hR D2 hsk ht2 hr2 hk1 hk2 HT1
      go_wp2_with fail
      change Calls Tryz.prog 23 _ (putX w3 (W.heap.size + 1) x0 x1 x2) _
      generalize putX w3 (W.heap.size + 1) x0 x1 x2 = w3x at *
      clear c0 c1 c2 c3 c4 f2 f3 f4
      refine CT.out.mono ?_
      rintro e w4 ⟨rfl, hB, hR⟩
      have B4 := hide (B3x.out.trans (hB.below (Nat.le_refl _) (by have := box5_lt E3x.out; omega)))
      have E4 := hide (box5_but E3x.out hB hne)
      have F4 := hide (hB.free F3x.out hne)
      have B4s := hide (B4.out.setCell (p := ⟨W.heap.size + 1, 1, none⟩) (Nat.le_succ _) (.bool t2))
      have E4s := hide (box5_set1 E4.out (.bool t2))
      have R4s := hide (hR.other (p := ⟨W.heap.size + 1, 1, none⟩) hne (.bool t2))
      obtain ⟨c0, c1, c2, c3, c4⟩ := E4.out
      have f1 := F4.out.2 1
      have HT4 : Hid (Own3 (From w2.heap.size w3) (w4.setCell ⟨W.heap.size + 1, 1, none⟩ (.bool t2)) (.mk 3 [] (Nd.pnRows c)) [x0, x1, x2]) := HT3.out.keep (by rw [size_setCell]; exact hB.size) fun j hj => (heap_setCell_ne _ _ _ _ _ (by have := hj.1; omega)).trans (hB.block j (by have := hj.1; omega) (by have := hj.2; omega))
      have hw4 := hB.size
      have hw4s : (w4.setCell ⟨W.heap.size + 1, 1, none⟩ (.bool t2)).heap.size = w4.heap.size := size_setCell _ _ _
      by_cases he : Px.skip r2 = []
      · have HX : Hid (RR = .ok (t1, t2, c)) := by show _ = _; rw [HX0.out, if_pos he]
        have CE := hide (rend_is K.trims R4s.out 0 (by rw [if_pos he]))
        clear hB hR CT HX0 he
        go_wp2_with fail
        generalize w4.setCell ⟨W.heap.size + 1, 1, none⟩ (.bool t2) = w4s at *
        refine CE.out.mono ?_
        rintro e w5 ⟨rfl, hB, hR⟩
        have B5 := hide (B4s.out.trans (hB.below (Nat.le_refl _) (by have := box5_lt E4s.out; omega)))
        have E5 := hide (box5_but E4s.out hB hne)
        obtain ⟨d0, d1, d2, _⟩ := hR
        have HT5 := hide (HT4.out.keep hB.size fun j hj => hB.block j (by have := hj.1; omega) (by have := hj.2; omega)).at
        clear hB CE
        go_wp2_with fail
        exact bodyPost_ret (results_tmp2 Tryz.results10 _ _ _) rfl ⟨B5.out, .inr ⟨(t1, t2, c), _, HX.out, ⟨W.heap.size + 1, x0, x1, x2, rfl, E5.out, HT5.out, r, HP.out.trans HX.out⟩, rfl⟩⟩
      · have HX : Hid (RR = .error 4) := by show _ = _; rw [HX0.out, if_neg he]
        have CE := hide (rend_is K.trims R4s.out 4 (by rw [if_neg he]; rfl))
        clear hB hR CT HX0 he
        go_wp2_with fail
        generalize w4.setCell ⟨W.heap.size + 1, 1, none⟩ (.bool t2) = w4s at *
        refine CE.out.mono ?_
        rintro e w5 ⟨rfl, hB, hR⟩
        have B5 := hide (B4s.out.trans (hB.below (Nat.le_refl _) (by have := box5_lt E4s.out; omega)))
        have E5 := hide (box5_but E4s.out hB hne)
        obtain ⟨d0, d1, d2, _⟩ := hR
        clear hB CE
        go_wp2_with fail
        go_region
        go_wp2_with fail
        exact bodyPost_ret (results_tmp2 Tryz.results10 _ _ _) rfl ⟨B5.out.drew, .inl ⟨4, HX.out, by decide, rfl⟩⟩
end Go.Proofs.YtbceoinhmpnjaaaGreatDoor

