/- show.named, over Neighbor. -/
import Derived.Test.YtpmmhmgojjlniaaGreatDoorQ01
import Derived.Test.YtpmmhmgojjlniaaGreatDoorQ17
namespace Go.Proofs.YtpmmhmgojjlniaaGreatDoor
open Go.RowKit Go.Sort
set_option maxHeartbeats 2000000 in
set_option maxRecDepth 100000 in
theorem bothNeighbor_is {fk fm : Nat} {ck cm : Array Value} {G : Nb → Prop} {key : Nb → ByteArray} {may : Nb → Bool} {W0 : World} {bn bm : Nat} (hk : FnKey W0 fk ck 4 NbR G key) (hm : FnIs W0 fm cm 4 NbR G may) (hs : ∀ a, G a → (key a).size ≤ 1000) (h1 : W0.cell? ⟨bn, 0, none⟩ = some (.func (.func fk) #[] ck)) (h2 : W0.cell? ⟨bm, 0, none⟩ = some (.func (.func fm) #[] cm)) :
    FnIs W0 161 #[.pointer (some ⟨bn, 0, none⟩), .pointer (some ⟨bm, 0, none⟩)] 4 NbR G (fun a => nmOk (key a) && may a) where
  enter := fun args w => by go_simp
  ok := fun W a y hW hy hga => by
    have hbn := World.block_lt_of_cell? W0 _ h1
    have hbm := World.block_lt_of_cell? W0 _ h2
    have hyw := hy
    obtain ⟨ys, k1, k2, rfl⟩ := hy
    obtain ⟨x0, x1, x2, x3, rfl⟩ := list4 k2
    have A1 := balloc (brefl W) (.cells #[x0, x1, x2, x3] 68)
    have hWA := bthen hW A1
    have c1 := (hWA.cell (p := ⟨bn, 0, none⟩) hbn).trans h1
    have HC2 := hide ((hWA.cell (p := ⟨bm, 0, none⟩) hbm).trans h2)
    have HLM : Hid (bm < (W.alloc (.cells #[x0, x1, x2, x3] 68)).heap.size) := Nat.lt_of_lt_of_le hbm hWA.size
    have HNW := hide (heap_new W #[x0, x1, x2, x3] 68)
    have HVA := hide (VR.mono NbR.mono hyw A1)
    have CK := hide (hk.ok (W.alloc (.cells #[x0, x1, x2, x3] 68)) a _ hWA HVA.out hga)
    have HM := hide (fun W2 x (hb : Below (W.alloc (.cells #[x0, x1, x2, x3] 68)).heap.size (W.alloc (.cells #[x0, x1, x2, x3] 68)) W2) (hv : VR 4 NbR W2 a x) => hm.ok W2 a x (bthen hWA hb) hv hga)
    have CN := hide (fun W2 => cfgName_is (key a) (hs a hga) W2)
    have hcf := hk.enter
    have hcg := hm.enter
    have B1 := hide A1
    clear hk hm hs h1 h2 hW hyw hga k1 k2 A1 hWA
    generalize nmOk (key a) = r1 at *
    generalize key a = ky at *
    generalize may a = r2 at *
    go_enter Tryz.func161, Tryz.ntmps161
    go_upto_region 1 with fail
    generalize hRW : W.heap.size = RW at *
    generalize W.alloc (.cells #[x0, x1, x2, x3] 68) = W1 at *
    have e0 := cell_of HNW.out 0 rfl
    have e1 := cell_of HNW.out 1 rfl
    have e2 := cell_of HNW.out 2 rfl
    have e3 := cell_of HNW.out 3 rfl
    go_wp2_with fail
    refine CK.out.mono ?_
    rintro e w2 ⟨rfl, hb2⟩
    clear CK
    go_wp2_with fail
    refine (CN.out w2).mono ?_
    rintro e w3 ⟨rfl, hb3⟩
    have hb13 := bthen hb2 hb3
    have B3 := hide (B1.out.trans ⟨hb13.os, hb13.tape, hb13.output, hb13.size, fun k hk => hb13.block k (Nat.lt_of_lt_of_le hk (hRW ▸ B1.out.size))⟩)
    have c2 := (hb13.cell (p := ⟨bm, 0, none⟩) HLM.out).trans HC2.out
    have g0 := (hb13.cell (p := ⟨RW, 0, none⟩) (World.block_lt_of_cell? _ _ e0)).trans e0
    have g1 := (hb13.cell (p := ⟨RW, 1, none⟩) (World.block_lt_of_cell? _ _ e1)).trans e1
    have g2 := (hb13.cell (p := ⟨RW, 2, none⟩) (World.block_lt_of_cell? _ _ e2)).trans e2
    have g3 := (hb13.cell (p := ⟨RW, 3, none⟩) (World.block_lt_of_cell? _ _ e3)).trans e3
    have CM := hide (HM.out w3 _ hb13 (VR.mono NbR.mono HVA.out hb13))
    clear CN HM HVA HC2 hb2 hb3 hb13 e0 e1 e2 e3 c1
    cases r1 with
    | false =>
      go_wp2_with fail
      go_ret
      exact ⟨rfl, by first | exact B3.out | (rw [← hRW]; exact B3.out) | (rw [hRW]; exact B3.out)⟩
    | true =>
      go_wp2_with fail
      refine CM.out.mono ?_
      rintro e w4 ⟨rfl, hb4⟩
      have B4 := hide (B3.out.trans ⟨hb4.os, hb4.tape, hb4.output, hb4.size, fun k hk => hb4.block k (Nat.lt_of_lt_of_le hk (hRW ▸ B3.out.size))⟩)
      clear hb4 CM
      go_wp2_with fail
      go_ret
      exact ⟨rfl, by first | exact B4.out | (rw [← hRW]; exact B4.out) | (rw [hRW]; exact B4.out)⟩
set_option maxHeartbeats 2000000 in
set_option maxRecDepth 100000 in
theorem namedNeighbor_is {fk fm : Nat} {ck cm : Array Value} {G : Nb → Prop} {key : Nb → ByteArray} {may : Nb → Bool} (v : Value) (l : List Nb) (most : Int) (w : World) (hk : FnKey w fk ck 4 NbR G key) (hm : FnIs w fm cm 4 NbR G may) (hs : ∀ a, G a → (key a).size ≤ 1000) (h : Rd w 4 NbR v l) (hg : ∀ a ∈ l, G a) (hz : l.length ≤ 100000) :
    Calls Tryz.prog 88 #[v, .int .i64 most, .func (.func fk) #[] ck, .func (.func fm) #[] cm] w fun e w' => e = .returned (.bool (decide ((l.length : Int) ≤ most) && l.all (fun a => nmOk (key a) && may a) && uniq key l)) ∧ Below w.heap.size w w' := by
  have A1 := balloc (balloc (brefl w) (.cells #[.func (.func fk) #[] ck] 144)) (.cells #[.func (.func fm) #[] cm] 145)
  have e1 := cell_of (((balloc (brefl (w.alloc (.cells #[.func (.func fk) #[] ck] 144))) (.cells #[.func (.func fm) #[] cm] 145)).block w.heap.size (by rw [size_alloc]; omega)).trans (heap_new w #[.func (.func fk) #[] ck] 144)) 0 rfl
  have e2 := cell_of (heap_new (w.alloc (.cells #[.func (.func fk) #[] ck] 144)) #[.func (.func fm) #[] cm] 145) 0 rfl
  rw [size_alloc] at e2
  have hv := h.below NbR.mono A1
  have CF := hide (fewNeighbor_is v l most _ (bothNeighbor_is (hk.from A1) (hm.from A1) hs e1 e2) hv hg hz)
  have CU := hide (fun W2 (hb : Below ((w.alloc (.cells #[.func (.func fk) #[] ck] 144)).alloc (.cells #[.func (.func fm) #[] cm] 145)).heap.size ((w.alloc (.cells #[.func (.func fk) #[] ck] 144)).alloc (.cells #[.func (.func fm) #[] cm] 145)) W2) => unlikeNeighbor_is v l W2 ((hk.from A1).from hb) (hv.below NbR.mono hb) hg hz)
  have HE1 := hide e1
  have HL1 : Hid (w.heap.size < ((w.alloc (.cells #[.func (.func fk) #[] ck] 144)).alloc (.cells #[.func (.func fm) #[] cm] 145)).heap.size) := by show _ < _; simp; omega
  have B1 := hide A1
  clear hk hm hs h hg hz A1 e1 e2 hv
  generalize uniq key l = r2 at *
  generalize (decide ((l.length : Int) ≤ most) && l.all (fun a => nmOk (key a) && may a)) = r1 at *
  go_enter Tryz.func88, Tryz.ntmps88
  go_upto_region 2 with fail
  obtain ⟨bk, hbk⟩ : ∃ x, w.heap.size = x := ⟨_, rfl⟩
  rw [hbk] at HE1 HL1
  generalize (w.alloc (.cells #[.func (.func fk) #[] ck] 144)).alloc (.cells #[.func (.func fm) #[] cm] 145) = W1 at *
  try rw [hbk]
  try rw [hbk] at CF
  go_wp2_with fail
  refine CF.out.mono ?_
  rintro e w2 ⟨rfl, hb2⟩
  have B2 := hide (bthen B1.out hb2)
  have a0 := (hb2.cell (p := ⟨bk, 0, none⟩) HL1.out).trans HE1.out
  have CU2 := hide (CU.out w2 hb2)
  clear CF CU hb2
  cases r1 with
  | false =>
    go_wp2_with fail
    go_ret
    exact ⟨rfl, by first | exact B2.out | (rw [← hbk]; exact B2.out) | (rw [hbk]; exact B2.out)⟩
  | true =>
    go_wp2_with fail
    refine CU2.out.mono ?_
    rintro e w3 ⟨rfl, hb3⟩
    have B3 := hide (bthen B2.out hb3)
    clear hb3 CU2
    go_wp2_with fail
    go_ret
    exact ⟨rfl, by first | exact B3.out | (rw [← hbk]; exact B3.out) | (rw [hbk]; exact B3.out)⟩
end Go.Proofs.YtpmmhmgojjlniaaGreatDoor
namespace Go.Proofs.YtpmmhmgojjlniaaGreatDoor
open Go.RowKit Go.Sort
set_option maxHeartbeats 2000000 in
set_option maxRecDepth 100000 in
theorem indexLink_is {f : Nat} {caps : Array Value} {G : Lk → Prop} {p : Lk → Bool} (v : Value) (l : List Lk) (w : World) (hf : FnIs w f caps 2 LkR G p) (h : Rd w 2 LkR v l) (hg : ∀ a ∈ l, G a) (hz : l.length ≤ 100000) :
    Calls Tryz.prog 268 #[v, .func (.func f) #[] caps] w fun e w' => ∃ i : Int, e = .returned (.int .i64 i) ∧ AnyIs i (l.any p) ∧ Below w.heap.size w w' := by
  obtain ⟨ao, ca, rfl⟩ := h.slice
  have H := hide h
  have hcf := hf.enter
  have HF := hide (fun W a x hW hx hg => hf.ok W a x hW hx hg)
  have HG := hide hg
  clear h hf hg
  go_enter Tryz.func268, Tryz.ntmps268
  go_wp2_with fail
  go_loopw [8] (fun v8 wr => ∃ k : Nat, v8 = .int .i64 k ∧ k ≤ l.length ∧ Hid ((l.take k).any p = false) ∧ Hid (Below w.heap.size w wr)) (fun v8 _ => l.length - (intOf v8).toNat)
  case atStart => exact ⟨0, rfl, Nat.zero_le _, hide rfl, brefl w⟩
  case round =>
    obtain ⟨k, rfl, hk, HA, HBR⟩ := hrel
    by_cases hkl : k < l.length
    · have hkl' : (k : Int) < (l.length : Int) := by omega
      obtain ⟨b, off, xs, rfl, hbw, hx, ha⟩ := (Rd.below LkR.mono H.out HBR.out).at_ hkl
      obtain ⟨x0, x1, rfl⟩ := list2 hx.len
      have c0 := ha 0 _ rfl
      have c1 := ha 1 _ rfl
      simp only [Nat.add_zero] at c0
      clear ha
      have CP := hide (HF.out wr l[k] (.agg #[x0, x1]) HBR.out ⟨_, hx, rfl, rfl⟩ (HG.out _ (List.getElem_mem hkl)))
      have HT := hide (any_take (p := p) hkl)
      have HAT := hide (any_of_at (p := p) hkl)
      clear hx
      generalize p l[k] = r at *
      cases r with
      | true =>
        have HY := hide (HAT.out rfl)
        clear HT HAT HA
        go_wp2_with (refine CP.out.mono ?_; rintro e w1 ⟨rfl, hb1⟩)
        have B1 := hide (bthen HBR.out hb1)
        clear hb1
        go_ret
        exact ⟨_, rfl, ⟨fun _ => HY.out, fun _ => Int.natCast_nonneg _⟩, B1.out⟩
      | false =>
        have HN : Hid ((l.take (k + 1)).any p = false) := by show _ = _; rw [HT.out, HA.out]; rfl
        clear HT HAT HA
        go_wp2_with (refine CP.out.mono ?_; rintro e w1 ⟨rfl, hb1⟩)
        have B1 := hide (bthen HBR.out hb1)
        clear hb1
        exact ⟨⟨k + 1, by go_num, by omega, HN, B1⟩, by simp [intOf] <;> omega⟩
    · have hkl' : ¬ (k : Int) < (l.length : Int) := by omega
      have HN : Hid (l.any p = false) := by
        have h := HA.out
        rw [List.take_of_length_le (by omega)] at h
        exact h
      clear HA
      go_wp2_with fail
      go_ret
      exact ⟨-1, rfl, ⟨fun h => absurd h (by decide), fun h => by rw [HN.out] at h; cases h⟩, HBR.out⟩
theorem containsLink_is {f : Nat} {caps : Array Value} {G : Lk → Prop} {p : Lk → Bool} (v : Value) (l : List Lk) (w : World) (hf : FnIs w f caps 2 LkR G p) (h : Rd w 2 LkR v l) (hg : ∀ a ∈ l, G a) (hz : l.length ≤ 100000) :
    Calls Tryz.prog 224 #[v, .func (.func f) #[] caps] w fun e w' => e = .returned (.bool (l.any p)) ∧ Below w.heap.size w w' := by
  have C := hide (indexLink_is v l w hf h hg hz)
  obtain ⟨ao, ca, rfl⟩ := h.slice
  clear hf h hg
  go_enter Tryz.func224, Tryz.ntmps224
  go_wp2_with fail
  refine C.out.mono ?_
  rintro e w1 ⟨i, rfl, hi, hb⟩
  go_wp2_with fail
  go_ret
  refine ⟨ret_bool ?_, hb⟩
  by_cases h0 : 0 ≤ i
  · rw [hi.1 h0]; simpa using h0
  · have : l.any p = false := by
      cases ha : l.any p with
      | false => rfl
      | true => exact absurd (hi.2 ha) h0
    rw [this]
    simpa using h0
set_option maxRecDepth 100000 in
theorem notMayLink_is {f : Nat} {caps : Array Value} {G : Lk → Prop} {p : Lk → Bool} {W0 : World} {bm : Nat} (hf : FnIs W0 f caps 2 LkR G p) (hm : W0.cell? ⟨bm, 0, none⟩ = some (.func (.func f) #[] caps)) :
    FnIs W0 223 #[.pointer (some ⟨bm, 0, none⟩)] 2 LkR G (fun x => !p x) where
  enter := fun args w => by go_simp
  ok := fun W a x hW hx hga => by
    have hbm := World.block_lt_of_cell? W0 _ hm
    have hxw := hx
    obtain ⟨xs, h1, h2, rfl⟩ := hx
    obtain ⟨x0, x1, rfl⟩ := list2 h2
    have A1 := balloc (brefl W) (.cells #[x0, x1] 70)
    have hm1 := (A1.cell (p := ⟨bm, 0, none⟩) (Nat.lt_of_lt_of_le hbm hW.size)).trans ((hW.cell (p := ⟨bm, 0, none⟩) hbm).trans hm)
    have C := hide (hf.ok (W.alloc (.cells #[x0, x1] 70)) a _ (bthen hW A1) (VR.mono LkR.mono hxw A1) hga)
    have hcf := hf.enter
    have B1 := hide A1
    clear hf hm hW hga hxw h1 h2 A1
    go_enter Tryz.func223, Tryz.ntmps223
    go_wp2_with (refine C.out.mono ?_; rintro e w1 ⟨rfl, hb1⟩)
    have B2 := hide (bthen B1.out hb1)
    clear hb1
    go_ret
    exact ⟨rfl, B2.out⟩
set_option maxRecDepth 100000 in
theorem fewLink_is {f : Nat} {caps : Array Value} {G : Lk → Prop} {p : Lk → Bool} (v : Value) (l : List Lk) (most : Int) (w : World) (hf : FnIs w f caps 2 LkR G p) (h : Rd w 2 LkR v l) (hg : ∀ a ∈ l, G a) (hz : l.length ≤ 100000) :
    Calls Tryz.prog 166 #[v, .int .i64 most, .func (.func f) #[] caps] w fun e w' => e = .returned (.bool (decide ((l.length : Int) ≤ most) && l.all p)) ∧ Below w.heap.size w w' := by
  have A1 := balloc (brefl w) (.cells #[.func (.func f) #[] caps] 148)
  have hm : (w.alloc (.cells #[.func (.func f) #[] caps] 148)).cell? ⟨w.heap.size, 0, none⟩ = some (.func (.func f) #[] caps) := cell_of (heap_new w _ _) 0 rfl
  have C := hide (containsLink_is v l (w.alloc (.cells #[.func (.func f) #[] caps] 148)) (notMayLink_is (hf.from A1) hm) (h.below LkR.mono A1) hg hz)
  have B1 := hide A1
  obtain ⟨ao, ca, rfl⟩ := h.slice
  clear hf h hg A1 hm
  have HQ : Hid (l.all p = !(l.any fun x => !p x)) := by show _ = _; rw [List.not_any_eq_all_not]; simp
  by_cases hl : (l.length : Int) ≤ most
  · go_enter Tryz.func166, Tryz.ntmps166
    go_wp2_with (refine C.out.mono ?_; rintro e w1 ⟨rfl, hb1⟩)
    have B2 := hide (bthen B1.out hb1)
    clear hb1
    go_ret
    refine ⟨ret_bool ?_, B2.out⟩
    rw [decide_eq_true hl, HQ.out]
    rfl
  · have HL := hide hl
    go_enter Tryz.func166, Tryz.ntmps166
    go_wp2_with fail
    go_ret
    refine ⟨ret_bool ?_, B1.out⟩
    rw [decide_eq_false (Int.not_le.2 HL.out)]
    rfl
end Go.Proofs.YtpmmhmgojjlniaaGreatDoor
namespace Go.Proofs.YtpmmhmgojjlniaaGreatDoor
open Go.RowKit Go.Sort
set_option maxHeartbeats 2000000 in
set_option maxRecDepth 100000 in
theorem likeLink_is {f : Nat} {caps : Array Value} {G : Lk → Prop} {key : Lk → ByteArray} {W0 : World} {bk bx : Nat} {x : Lk} {xs : List Value} (hf : FnKey W0 f caps 2 LkR G key) (hk : W0.cell? ⟨bk, 0, none⟩ = some (.func (.func f) #[] caps)) (hx : LkR W0 x xs) (hgx : G x) (hb : ∀ i u, xs[i]? = some u → W0.cell? ⟨bx, i, none⟩ = some u) :
    FnIs W0 225 #[.pointer (some ⟨bk, 0, none⟩), .pointer (some ⟨bx, 0, none⟩)] 2 LkR G (fun y => decide (key x = key y)) where
  enter := fun args w => by go_simp
  ok := fun W a y hW hy hga => by
    have hbm := World.block_lt_of_cell? W0 _ hk
    obtain ⟨x0, x1, rfl⟩ := list2 hx.len
    have hbx := World.block_lt_of_cell? W0 _ (hb 0 _ rfl)
    have hyw := hy
    obtain ⟨ys, h1, h2, rfl⟩ := hy
    obtain ⟨y0, y1, rfl⟩ := list2 h2
    have A1 := balloc (brefl W) (.cells #[y0, y1] 70)
    have hWA := bthen hW A1
    have hk1 := (hWA.cell (p := ⟨bk, 0, none⟩) hbm).trans hk
    have d0 := (hWA.cell (p := ⟨bx, 0, none⟩) hbx).trans (hb 0 _ rfl)
    have d1 := (hWA.cell (p := ⟨bx, 1, none⟩) hbx).trans (hb 1 _ rfl)
    have NW := heap_new W #[y0, y1] 70
    have e0 := cell_of NW 0 rfl
    have e1 := cell_of NW 1 rfl
    have hxv : ∀ d os, VR 2 LkR (Sort.grow (redrawn (W.alloc (.cells #[y0, y1] 70)) d) os) x (.agg #[x0, x1]) := fun d os => VR.mono LkR.mono ⟨_, hx, rfl, rfl⟩ (grown_below2 hWA hWA.size d os)
    have hyv : ∀ d os, VR 2 LkR (Sort.grow (redrawn (W.alloc (.cells #[y0, y1] 70)) d) os) a (.agg #[y0, y1]) := fun d os => VR.mono LkR.mono ⟨_, h1, rfl, rfl⟩ (grown_below2 A1 A1.size d os)
    have CX := hide (fun d os => hf.ok (Sort.grow (redrawn (W.alloc (.cells #[y0, y1] 70)) d) os) x (.agg #[x0, x1]) (grown_below2 hWA hWA.size d os) (hxv d os) hgx)
    have CY := hide (fun d os => hf.ok (Sort.grow (redrawn (W.alloc (.cells #[y0, y1] 70)) d) os) a (.agg #[y0, y1]) (grown_below2 hWA hWA.size d os) (hyv d os) hga)
    have hcf := hf.enter
    have B1 := hide A1
    clear hf hk hb hx hgx hga hW hyw h1 h2 A1 hWA hxv hyv NW
    generalize key x = kx at *
    generalize key a = ky at *
    go_enter Tryz.func225, Tryz.ntmps225
    go_upto_region 1 with fail
    generalize hRW : W.heap.size = RW at *
    generalize W.alloc (.cells #[y0, y1] 70) = W1 at *
    have rhk1 := fun dd os => cell_regrown hk1 dd os
    have rd0 := fun dd os => cell_regrown d0 dd os
    have rd1 := fun dd os => cell_regrown d1 dd os
    have re0 := fun dd os => cell_regrown e0 dd os
    have re1 := fun dd os => cell_regrown e1 dd os
    refine wp_region_quiet_below (by kernel_rfl) (by kernel_rfl) ?_
    repeat (go_big_quiet_step (first | exact Calls.regrown_of (CX.out _ _) | exact Calls.regrown_of (CY.out _ _)))
    refine wpQuiet_nil ?_
    rintro _ ⟨⟨dd, os⟩, rfl⟩
    have hb1 := below_regrown W1 dd os
    generalize Sort.grow (redrawn W1 dd) os = w2 at hb1
    have B2 := hide (B1.out.trans ⟨hb1.os, hb1.tape, hb1.output, hb1.size, fun k hk => hb1.block k (Nat.lt_of_lt_of_le hk (hRW ▸ B1.out.size))⟩)
    clear hb1 rhk1 rd0 rd1 re0 re1
    go_wp2_with fail
    go_ret
    refine ⟨ret_bool ?_, by first | exact B2.out | (rw [hRW]; exact B2.out)⟩
    exact beq_tl kx ky
set_option maxHeartbeats 2000000 in
set_option maxRecDepth 100000 in
theorem unlikeLink_is {f : Nat} {caps : Array Value} {G : Lk → Prop} {key : Lk → ByteArray} (v : Value) (l : List Lk) (w : World) (hf : FnKey w f caps 2 LkR G key) (h : Rd w 2 LkR v l) (hg : ∀ a ∈ l, G a) (hz : l.length ≤ 100000) :
    Calls Tryz.prog 167 #[v, .func (.func f) #[] caps] w fun e w' => e = .returned (.bool (uniq key l)) ∧ Below w.heap.size w w' := by
  have A1 := balloc (brefl w) (.cells #[.func (.func f) #[] caps] 147)
  have HM := hide (cell_of (heap_new w #[.func (.func f) #[] caps] 147) 0 rfl)
  have HLT : Hid (w.heap.size < (w.alloc (.cells #[.func (.func f) #[] caps] 147)).heap.size) := by show _ < _; simp
  have H := hide (h.below LkR.mono A1)
  have HF := hide (hf.from A1)
  have B1 := hide A1
  have HG := hide hg
  obtain ⟨ao, ca, rfl⟩ := h.slice
  have HCA := hide h.cap
  clear h hf hg A1
  go_enter Tryz.func167, Tryz.ntmps167
  go_upto_region 1 with fail
  obtain ⟨bk, hbk⟩ : ∃ x, w.heap.size = x := ⟨_, rfl⟩
  rw [hbk] at HM HLT ⊢
  generalize w.alloc (.cells #[.func (.func f) #[] caps] 147) = W1 at *
  go_wp2_with fail
  go_loopw [10] (fun v10 wr => ∃ k : Nat, v10 = .int .i64 k ∧ k ≤ l.length ∧ Hid (uniqTo key l k) ∧ Hid (Below W1.heap.size W1 wr)) (fun v10 _ => l.length - (intOf v10).toNat)
  case atStart => exact ⟨0, rfl, Nat.zero_le _, hide (fun _ _ h => absurd h (Nat.not_lt_zero _)), brefl W1⟩
  case round =>
    obtain ⟨k, rfl, hk, HU, HBR⟩ := hrel
    by_cases hkl : k < l.length
    · have hkl' : (k : Int) < (l.length : Int) := by omega
      obtain ⟨b, off, xs, rfl, hbw, hx, ha⟩ := (Rd.below LkR.mono H.out HBR.out).at_ hkl
      have hx0 := hx
      unfold LkR at hx
      subst hx
      have e0 := ha 0 _ rfl
      have e1 := ha 1 _ rfl
      simp only [Nat.add_zero] at e0
      clear ha
      have A2 := balloc (brefl wr) (.cells #[.string l[k].name, .int .i64 l[k].cost] 70)
      have N2 := heap_new wr #[.string l[k].name, .int .i64 l[k].cost] 70
      have B2 := hide (bthen HBR.out A2)
      have C := hide (containsLink_is (.slice (some ⟨b, off, none⟩) k ca) (l.take k) (wr.alloc (.cells #[.string l[k].name, .int .i64 l[k].cost] 70)) (likeLink_is (x := l[k]) (xs := [.string l[k].name, .int .i64 l[k].cost]) (bk := bk) (bx := wr.heap.size) (HF.out.from B2.out) ((B2.out.cell (p := ⟨bk, 0, none⟩) HLT.out).trans HM.out) (LkR.mono _ _ _ _ A2 hx0) (HG.out _ (List.getElem_mem hkl)) (fun i u hu => cell_of N2 i (by simpa using hu))) (Rd.take (H.out.below LkR.mono B2.out) k hk) (fun a ha => HG.out a (List.mem_of_mem_take ha)) (Nat.le_trans (List.length_take_le ..) (by omega)))
      have HN := hide (fun (h : (l.take k).any (fun y => decide (key l[k] = key y)) = true) => uniq_not key l k hkl h)
      have HS : Hid ((l.take k).any (fun y => decide (key l[k] = key y)) = false → uniqTo key l (k + 1)) := fun h i hi hik => by
        rcases Nat.lt_or_ge i k with h1 | h1
        · exact HU.out i hi h1
        · obtain rfl : i = k := by omega
          exact h
      generalize (l.take k).any (fun y => decide (key l[k] = key y)) = r at *
      have hca := HCA.out
      have hkc : k ≤ ca := by omega
      clear hx0 A2 N2 hca
      go_wp2_with fail
      refine C.out.mono ?_
      rintro e w3 ⟨rfl, hb3⟩
      have B3 := hide (bthen B2.out hb3)
      clear hb3 C
      cases r with
      | true =>
        have HN2 := hide (HN.out rfl)
        clear HN HS
        go_wp2_with fail
        go_ret
        refine ⟨ret_bool HN2.out.symm, ?_⟩
        have h1 := bthen B1.out B3.out
        first | exact h1 | (rw [← hbk]; exact h1)
      | false =>
        have HS2 := hide (HS.out rfl)
        clear HN HS
        go_wp2_with fail
        exact ⟨⟨k + 1, by go_num, by omega, HS2, B3⟩, by simp [intOf] <;> omega⟩
    · have hkl' : ¬ (k : Int) < (l.length : Int) := by omega
      have HY : Hid (uniq key l = true) := uniq_all key l (by rw [show l.length = k by omega]; exact HU.out)
      have hkk : k = l.length := by omega
      clear HU
      go_wp2_with fail
      go_ret
      refine ⟨ret_bool HY.out.symm, ?_⟩
      have h1 := bthen B1.out HBR.out
      first | exact h1 | (rw [← hbk]; exact h1)
end Go.Proofs.YtpmmhmgojjlniaaGreatDoor
namespace Go.Proofs.YtpmmhmgojjlniaaGreatDoor
open Go.RowKit Go.Sort
set_option maxHeartbeats 2000000 in
set_option maxRecDepth 100000 in
theorem bothLink_is {fk fm : Nat} {ck cm : Array Value} {G : Lk → Prop} {key : Lk → ByteArray} {may : Lk → Bool} {W0 : World} {bn bm : Nat} (hk : FnKey W0 fk ck 2 LkR G key) (hm : FnIs W0 fm cm 2 LkR G may) (hs : ∀ a, G a → (key a).size ≤ 1000) (h1 : W0.cell? ⟨bn, 0, none⟩ = some (.func (.func fk) #[] ck)) (h2 : W0.cell? ⟨bm, 0, none⟩ = some (.func (.func fm) #[] cm)) :
    FnIs W0 165 #[.pointer (some ⟨bn, 0, none⟩), .pointer (some ⟨bm, 0, none⟩)] 2 LkR G (fun a => nmOk (key a) && may a) where
  enter := fun args w => by go_simp
  ok := fun W a y hW hy hga => by
    have hbn := World.block_lt_of_cell? W0 _ h1
    have hbm := World.block_lt_of_cell? W0 _ h2
    have hyw := hy
    obtain ⟨ys, k1, k2, rfl⟩ := hy
    obtain ⟨x0, x1, rfl⟩ := list2 k2
    have A1 := balloc (brefl W) (.cells #[x0, x1] 70)
    have hWA := bthen hW A1
    have c1 := (hWA.cell (p := ⟨bn, 0, none⟩) hbn).trans h1
    have HC2 := hide ((hWA.cell (p := ⟨bm, 0, none⟩) hbm).trans h2)
    have HLM : Hid (bm < (W.alloc (.cells #[x0, x1] 70)).heap.size) := Nat.lt_of_lt_of_le hbm hWA.size
    have HNW := hide (heap_new W #[x0, x1] 70)
    have HVA := hide (VR.mono LkR.mono hyw A1)
    have CK := hide (hk.ok (W.alloc (.cells #[x0, x1] 70)) a _ hWA HVA.out hga)
    have HM := hide (fun W2 x (hb : Below (W.alloc (.cells #[x0, x1] 70)).heap.size (W.alloc (.cells #[x0, x1] 70)) W2) (hv : VR 2 LkR W2 a x) => hm.ok W2 a x (bthen hWA hb) hv hga)
    have CN := hide (fun W2 => cfgName_is (key a) (hs a hga) W2)
    have hcf := hk.enter
    have hcg := hm.enter
    have B1 := hide A1
    clear hk hm hs h1 h2 hW hyw hga k1 k2 A1 hWA
    generalize nmOk (key a) = r1 at *
    generalize key a = ky at *
    generalize may a = r2 at *
    go_enter Tryz.func165, Tryz.ntmps165
    go_upto_region 1 with fail
    generalize hRW : W.heap.size = RW at *
    generalize W.alloc (.cells #[x0, x1] 70) = W1 at *
    have e0 := cell_of HNW.out 0 rfl
    have e1 := cell_of HNW.out 1 rfl
    go_wp2_with fail
    refine CK.out.mono ?_
    rintro e w2 ⟨rfl, hb2⟩
    clear CK
    go_wp2_with fail
    refine (CN.out w2).mono ?_
    rintro e w3 ⟨rfl, hb3⟩
    have hb13 := bthen hb2 hb3
    have B3 := hide (B1.out.trans ⟨hb13.os, hb13.tape, hb13.output, hb13.size, fun k hk => hb13.block k (Nat.lt_of_lt_of_le hk (hRW ▸ B1.out.size))⟩)
    have c2 := (hb13.cell (p := ⟨bm, 0, none⟩) HLM.out).trans HC2.out
    have g0 := (hb13.cell (p := ⟨RW, 0, none⟩) (World.block_lt_of_cell? _ _ e0)).trans e0
    have g1 := (hb13.cell (p := ⟨RW, 1, none⟩) (World.block_lt_of_cell? _ _ e1)).trans e1
    have CM := hide (HM.out w3 _ hb13 (VR.mono LkR.mono HVA.out hb13))
    clear CN HM HVA HC2 hb2 hb3 hb13 e0 e1 c1
    cases r1 with
    | false =>
      go_wp2_with fail
      go_ret
      exact ⟨rfl, by first | exact B3.out | (rw [← hRW]; exact B3.out) | (rw [hRW]; exact B3.out)⟩
    | true =>
      go_wp2_with fail
      refine CM.out.mono ?_
      rintro e w4 ⟨rfl, hb4⟩
      have B4 := hide (B3.out.trans ⟨hb4.os, hb4.tape, hb4.output, hb4.size, fun k hk => hb4.block k (Nat.lt_of_lt_of_le hk (hRW ▸ B3.out.size))⟩)
      clear hb4 CM
      go_wp2_with fail
      go_ret
      exact ⟨rfl, by first | exact B4.out | (rw [← hRW]; exact B4.out) | (rw [hRW]; exact B4.out)⟩
set_option maxHeartbeats 2000000 in
set_option maxRecDepth 100000 in
theorem namedLink_is {fk fm : Nat} {ck cm : Array Value} {G : Lk → Prop} {key : Lk → ByteArray} {may : Lk → Bool} (v : Value) (l : List Lk) (most : Int) (w : World) (hk : FnKey w fk ck 2 LkR G key) (hm : FnIs w fm cm 2 LkR G may) (hs : ∀ a, G a → (key a).size ≤ 1000) (h : Rd w 2 LkR v l) (hg : ∀ a ∈ l, G a) (hz : l.length ≤ 100000) :
    Calls Tryz.prog 91 #[v, .int .i64 most, .func (.func fk) #[] ck, .func (.func fm) #[] cm] w fun e w' => e = .returned (.bool (decide ((l.length : Int) ≤ most) && l.all (fun a => nmOk (key a) && may a) && uniq key l)) ∧ Below w.heap.size w w' := by
  have A1 := balloc (balloc (brefl w) (.cells #[.func (.func fk) #[] ck] 147)) (.cells #[.func (.func fm) #[] cm] 148)
  have e1 := cell_of (((balloc (brefl (w.alloc (.cells #[.func (.func fk) #[] ck] 147))) (.cells #[.func (.func fm) #[] cm] 148)).block w.heap.size (by rw [size_alloc]; omega)).trans (heap_new w #[.func (.func fk) #[] ck] 147)) 0 rfl
  have e2 := cell_of (heap_new (w.alloc (.cells #[.func (.func fk) #[] ck] 147)) #[.func (.func fm) #[] cm] 148) 0 rfl
  rw [size_alloc] at e2
  have hv := h.below LkR.mono A1
  have CF := hide (fewLink_is v l most _ (bothLink_is (hk.from A1) (hm.from A1) hs e1 e2) hv hg hz)
  have CU := hide (fun W2 (hb : Below ((w.alloc (.cells #[.func (.func fk) #[] ck] 147)).alloc (.cells #[.func (.func fm) #[] cm] 148)).heap.size ((w.alloc (.cells #[.func (.func fk) #[] ck] 147)).alloc (.cells #[.func (.func fm) #[] cm] 148)) W2) => unlikeLink_is v l W2 ((hk.from A1).from hb) (hv.below LkR.mono hb) hg hz)
  have HE1 := hide e1
  have HL1 : Hid (w.heap.size < ((w.alloc (.cells #[.func (.func fk) #[] ck] 147)).alloc (.cells #[.func (.func fm) #[] cm] 148)).heap.size) := by show _ < _; simp; omega
  have B1 := hide A1
  clear hk hm hs h hg hz A1 e1 e2 hv
  generalize uniq key l = r2 at *
  generalize (decide ((l.length : Int) ≤ most) && l.all (fun a => nmOk (key a) && may a)) = r1 at *
  go_enter Tryz.func91, Tryz.ntmps91
  go_upto_region 2 with fail
  obtain ⟨bk, hbk⟩ : ∃ x, w.heap.size = x := ⟨_, rfl⟩
  rw [hbk] at HE1 HL1
  generalize (w.alloc (.cells #[.func (.func fk) #[] ck] 147)).alloc (.cells #[.func (.func fm) #[] cm] 148) = W1 at *
  try rw [hbk]
  try rw [hbk] at CF
  go_wp2_with fail
  refine CF.out.mono ?_
  rintro e w2 ⟨rfl, hb2⟩
  have B2 := hide (bthen B1.out hb2)
  have a0 := (hb2.cell (p := ⟨bk, 0, none⟩) HL1.out).trans HE1.out
  have CU2 := hide (CU.out w2 hb2)
  clear CF CU hb2
  cases r1 with
  | false =>
    go_wp2_with fail
    go_ret
    exact ⟨rfl, by first | exact B2.out | (rw [← hbk]; exact B2.out) | (rw [hbk]; exact B2.out)⟩
  | true =>
    go_wp2_with fail
    refine CU2.out.mono ?_
    rintro e w3 ⟨rfl, hb3⟩
    have B3 := hide (bthen B2.out hb3)
    clear hb3 CU2
    go_wp2_with fail
    go_ret
    exact ⟨rfl, by first | exact B3.out | (rw [← hbk]; exact B3.out) | (rw [hbk]; exact B3.out)⟩
end Go.Proofs.YtpmmhmgojjlniaaGreatDoor
