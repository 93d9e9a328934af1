/- show.unlike and show.named, over Router. -/
import Derived.Test.YtpmmhmgojjlniaaGreatDoorO04
import Derived.Test.YtpmmhmgojjlniaaGreatDoorO34
import Derived.Test.YtpmmhmgojjlniaaGreatDoorO37
import Derived.Test.YtpmmhmgojjlniaaGreatDoorO38
namespace Go.Proofs.YtpmmhmgojjlniaaGreatDoor
open Go.RowKit Go.Sort

set_option maxHeartbeats 2000000 in
set_option maxRecDepth 100000 in
theorem likeRouter_is {f : Nat} {caps : Array Value} {G : Rt → Prop} {key : Rt → ByteArray} {W0 : World} {bk bx : Nat} {x : Rt} {xs : List Value} (hf : FnKey W0 f caps 6 RtR G key) (hk : W0.cell? ⟨bk, 0, none⟩ = some (.func (.func f) #[] caps)) (hx : RtR W0 x xs) (hgx : G x) (hb : ∀ i u, xs[i]? = some u → W0.cell? ⟨bx, i, none⟩ = some u) :
    FnIs W0 156 #[.pointer (some ⟨bk, 0, none⟩), .pointer (some ⟨bx, 0, none⟩)] 6 RtR G (fun y => decide (key x = key y)) where
  enter := fun args w => by go_simp
  ok := fun W a y hW hy hga => by
    have hbm := World.block_lt_of_cell? W0 _ hk
    obtain ⟨x0, x1, x2, x3, x4, x5, rfl⟩ := list6 hx.len
    have hbx := World.block_lt_of_cell? W0 _ (hb 0 _ rfl)
    have hyw := hy
    obtain ⟨ys, h1, h2, rfl⟩ := hy
    obtain ⟨y0, y1, y2, y3, y4, y5, rfl⟩ := list6 h2
    have A1 := balloc (brefl W) (.cells #[y0, y1, y2, y3, y4, y5] 66)
    have hWA := bthen hW A1
    have hk1 := (hWA.cell (p := ⟨bk, 0, none⟩) hbm).trans hk
    have d0 := (hWA.cell (p := ⟨bx, 0, none⟩) hbx).trans (hb 0 _ rfl)
    have d1 := (hWA.cell (p := ⟨bx, 1, none⟩) hbx).trans (hb 1 _ rfl)
    have d2 := (hWA.cell (p := ⟨bx, 2, none⟩) hbx).trans (hb 2 _ rfl)
    have d3 := (hWA.cell (p := ⟨bx, 3, none⟩) hbx).trans (hb 3 _ rfl)
    have d4 := (hWA.cell (p := ⟨bx, 4, none⟩) hbx).trans (hb 4 _ rfl)
    have d5 := (hWA.cell (p := ⟨bx, 5, none⟩) hbx).trans (hb 5 _ rfl)
    have NW := heap_new W #[y0, y1, y2, y3, y4, y5] 66
    have e0 := cell_of NW 0 rfl
    have e1 := cell_of NW 1 rfl
    have e2 := cell_of NW 2 rfl
    have e3 := cell_of NW 3 rfl
    have e4 := cell_of NW 4 rfl
    have e5 := cell_of NW 5 rfl
    have hxv : ∀ d os, VR 6 RtR (Sort.grow (redrawn (W.alloc (.cells #[y0, y1, y2, y3, y4, y5] 66)) d) os) x (.agg #[x0, x1, x2, x3, x4, x5]) := fun d os => VR.mono RtR.mono ⟨_, hx, rfl, rfl⟩ (grown_below2 hWA hWA.size d os)
    have hyv : ∀ d os, VR 6 RtR (Sort.grow (redrawn (W.alloc (.cells #[y0, y1, y2, y3, y4, y5] 66)) d) os) a (.agg #[y0, y1, y2, y3, y4, y5]) := fun d os => VR.mono RtR.mono ⟨_, h1, rfl, rfl⟩ (grown_below2 A1 A1.size d os)
    have CX := hide (fun d os => hf.ok (Sort.grow (redrawn (W.alloc (.cells #[y0, y1, y2, y3, y4, y5] 66)) d) os) x (.agg #[x0, x1, x2, x3, x4, x5]) (grown_below2 hWA hWA.size d os) (hxv d os) hgx)
    have CY := hide (fun d os => hf.ok (Sort.grow (redrawn (W.alloc (.cells #[y0, y1, y2, y3, y4, y5] 66)) d) os) a (.agg #[y0, y1, y2, y3, y4, y5]) (grown_below2 hWA hWA.size d os) (hyv d os) hga)
    have hcf := hf.enter
    have B1 := hide A1
    clear hf hk hb hx hgx hga hW hyw h1 h2 A1 hWA hxv hyv NW
    generalize key x = kx at *
    generalize key a = ky at *
    go_enter Tryz.func156, Tryz.ntmps156
    go_upto_region 1 with fail
    generalize hRW : W.heap.size = RW at *
    generalize W.alloc (.cells #[y0, y1, y2, y3, y4, y5] 66) = W1 at *
    have rhk1 := fun dd os => cell_regrown hk1 dd os
    have rd0 := fun dd os => cell_regrown d0 dd os
    have rd1 := fun dd os => cell_regrown d1 dd os
    have rd2 := fun dd os => cell_regrown d2 dd os
    have rd3 := fun dd os => cell_regrown d3 dd os
    have rd4 := fun dd os => cell_regrown d4 dd os
    have rd5 := fun dd os => cell_regrown d5 dd os
    have re0 := fun dd os => cell_regrown e0 dd os
    have re1 := fun dd os => cell_regrown e1 dd os
    have re2 := fun dd os => cell_regrown e2 dd os
    have re3 := fun dd os => cell_regrown e3 dd os
    have re4 := fun dd os => cell_regrown e4 dd os
    have re5 := fun dd os => cell_regrown e5 dd os
    refine wp_region_quiet_below (by kernel_rfl) (by kernel_rfl) ?_
    repeat (go_big_quiet_step (first | exact Calls.regrown_of (CX.out _ _) | exact Calls.regrown_of (CY.out _ _)))
    refine wpQuiet_nil ?_
    rintro _ ⟨⟨dd, os⟩, rfl⟩
    have hb1 := below_regrown W1 dd os
    generalize Sort.grow (redrawn W1 dd) os = w2 at hb1
    have B2 := hide (B1.out.trans ⟨hb1.os, hb1.tape, hb1.output, hb1.size, fun k hk => hb1.block k (Nat.lt_of_lt_of_le hk (hRW ▸ B1.out.size))⟩)
    clear hb1 rhk1 rd0 rd1 rd2 rd3 rd4 rd5 re0 re1 re2 re3 re4 re5
    go_wp2_with fail
    go_ret
    refine ⟨ret_bool ?_, by first | exact B2.out | (rw [hRW]; exact B2.out)⟩
    exact beq_tl kx ky
set_option maxHeartbeats 2000000 in
set_option maxRecDepth 100000 in
theorem unlikeRouter_is {f : Nat} {caps : Array Value} {G : Rt → Prop} {key : Rt → ByteArray} (v : Value) (l : List Rt) (w : World) (hf : FnKey w f caps 6 RtR G key) (h : Rd w 6 RtR v l) (hg : ∀ a ∈ l, G a) (hz : l.length ≤ 100000) :
    Calls Tryz.prog 82 #[v, .func (.func f) #[] caps] w fun e w' => e = .returned (.bool (uniq key l)) ∧ Below w.heap.size w w' := by
  have A1 := balloc (brefl w) (.cells #[.func (.func f) #[] caps] 91)
  have HM := hide (cell_of (heap_new w #[.func (.func f) #[] caps] 91) 0 rfl)
  have HLT : Hid (w.heap.size < (w.alloc (.cells #[.func (.func f) #[] caps] 91)).heap.size) := by show _ < _; simp
  have H := hide (h.below RtR.mono A1)
  have HF := hide (hf.from A1)
  have B1 := hide A1
  have HG := hide hg
  obtain ⟨ao, ca, rfl⟩ := h.slice
  have HCA := hide h.cap
  clear h hf hg A1
  go_enter Tryz.func82, Tryz.ntmps82
  go_upto_region 1 with fail
  obtain ⟨bk, hbk⟩ : ∃ x, w.heap.size = x := ⟨_, rfl⟩
  rw [hbk] at HM HLT ⊢
  generalize w.alloc (.cells #[.func (.func f) #[] caps] 91) = W1 at *
  go_wp2_with fail
  go_loopw [10] (fun v10 wr => ∃ k : Nat, v10 = .int .i64 k ∧ k ≤ l.length ∧ Hid (uniqTo key l k) ∧ Hid (Below W1.heap.size W1 wr)) (fun v10 _ => l.length - (intOf v10).toNat)
  case atStart => exact ⟨0, rfl, Nat.zero_le _, hide (fun _ _ h => absurd h (Nat.not_lt_zero _)), brefl W1⟩
  case round =>
    obtain ⟨k, rfl, hk, HU, HBR⟩ := hrel
    by_cases hkl : k < l.length
    · have hkl' : (k : Int) < (l.length : Int) := by omega
      obtain ⟨b, off, xs, rfl, hbw, hx, ha⟩ := (Rd.below RtR.mono H.out HBR.out).at_ hkl
      have hx0 := hx
      obtain ⟨v1, v2, v3, rfl, hw1, hw2, hw3⟩ := hx
      obtain ⟨o1, c1, rfl⟩ := hw1.slice
      obtain ⟨o2, c2, rfl⟩ := hw2.slice
      obtain ⟨o3, c3, rfl⟩ := hw3.slice
      clear hw1 hw2 hw3
      have e0 := ha 0 _ rfl
      have e1 := ha 1 _ rfl
      have e2 := ha 2 _ rfl
      have e3 := ha 3 _ rfl
      have e4 := ha 4 _ rfl
      have e5 := ha 5 _ rfl
      simp only [Nat.add_zero] at e0
      clear ha
      have A2 := balloc (brefl wr) (.cells #[.string l[k].name, .int .i64 l[k].asn, .int .i64 l[k].id, .slice o1 l[k].nets.length c1, .slice o2 l[k].nbs.length c2, .slice o3 l[k].links.length c3] 66)
      have N2 := heap_new wr #[.string l[k].name, .int .i64 l[k].asn, .int .i64 l[k].id, .slice o1 l[k].nets.length c1, .slice o2 l[k].nbs.length c2, .slice o3 l[k].links.length c3] 66
      have B2 := hide (bthen HBR.out A2)
      have C := hide (containsRouter_is (.slice (some ⟨b, off, none⟩) k ca) (l.take k) (wr.alloc (.cells #[.string l[k].name, .int .i64 l[k].asn, .int .i64 l[k].id, .slice o1 l[k].nets.length c1, .slice o2 l[k].nbs.length c2, .slice o3 l[k].links.length c3] 66)) (likeRouter_is (x := l[k]) (xs := [.string l[k].name, .int .i64 l[k].asn, .int .i64 l[k].id, .slice o1 l[k].nets.length c1, .slice o2 l[k].nbs.length c2, .slice o3 l[k].links.length c3]) (bk := bk) (bx := wr.heap.size) (HF.out.from B2.out) ((B2.out.cell (p := ⟨bk, 0, none⟩) HLT.out).trans HM.out) (RtR.mono _ _ _ _ A2 hx0) (HG.out _ (List.getElem_mem hkl)) (fun i u hu => cell_of N2 i (by simpa using hu))) (Rd.take (H.out.below RtR.mono B2.out) k hk) (fun a ha => HG.out a (List.mem_of_mem_take ha)) (Nat.le_trans (List.length_take_le ..) (by omega)))
      have HN := hide (fun (h : (l.take k).any (fun y => decide (key l[k] = key y)) = true) => uniq_not key l k hkl h)
      have HS : Hid ((l.take k).any (fun y => decide (key l[k] = key y)) = false → uniqTo key l (k + 1)) := fun h i hi hik => by
        rcases Nat.lt_or_ge i k with h1 | h1
        · exact HU.out i hi h1
        · obtain rfl : i = k := by omega
          exact h
      generalize (l.take k).any (fun y => decide (key l[k] = key y)) = r at *
      have hca := HCA.out
      have hkc : k ≤ ca := by omega
      clear hx0 A2 N2 hca
      go_wp2_with fail
      refine C.out.mono ?_
      rintro e w3 ⟨rfl, hb3⟩
      have B3 := hide (bthen B2.out hb3)
      clear hb3 C
      cases r with
      | true =>
        have HN2 := hide (HN.out rfl)
        clear HN HS
        go_wp2_with fail
        go_ret
        refine ⟨ret_bool HN2.out.symm, ?_⟩
        have h1 := bthen B1.out B3.out
        first | exact h1 | (rw [← hbk]; exact h1)
      | false =>
        have HS2 := hide (HS.out rfl)
        clear HN HS
        go_wp2_with fail
        exact ⟨⟨k + 1, by go_num, by omega, HS2, B3⟩, by simp [intOf] <;> omega⟩
    · have hkl' : ¬ (k : Int) < (l.length : Int) := by omega
      have HY : Hid (uniq key l = true) := uniq_all key l (by rw [show l.length = k by omega]; exact HU.out)
      have hkk : k = l.length := by omega
      clear HU
      go_wp2_with fail
      go_ret
      refine ⟨ret_bool HY.out.symm, ?_⟩
      have h1 := bthen B1.out HBR.out
      first | exact h1 | (rw [← hbk]; exact h1)
end Go.Proofs.YtpmmhmgojjlniaaGreatDoor
namespace Go.Proofs.YtpmmhmgojjlniaaGreatDoor
open Go.RowKit Go.Sort

set_option maxHeartbeats 2000000 in
set_option maxRecDepth 100000 in
theorem bothRouter_is {fk fm : Nat} {ck cm : Array Value} {G : Rt → Prop} {key : Rt → ByteArray} {may : Rt → Bool} {W0 : World} {bn bm : Nat} (hk : FnKey W0 fk ck 6 RtR G key) (hm : FnIs W0 fm cm 6 RtR G may) (hs : ∀ a, G a → (key a).size ≤ 1000) (h1 : W0.cell? ⟨bn, 0, none⟩ = some (.func (.func fk) #[] ck)) (h2 : W0.cell? ⟨bm, 0, none⟩ = some (.func (.func fm) #[] cm)) :
    FnIs W0 80 #[.pointer (some ⟨bn, 0, none⟩), .pointer (some ⟨bm, 0, none⟩)] 6 RtR G (fun a => nmOk (key a) && may a) where
  enter := fun args w => by go_simp
  ok := fun W a y hW hy hga => by
    have hbn := World.block_lt_of_cell? W0 _ h1
    have hbm := World.block_lt_of_cell? W0 _ h2
    have hyw := hy
    obtain ⟨ys, k1, k2, rfl⟩ := hy
    obtain ⟨x0, x1, x2, x3, x4, x5, rfl⟩ := list6 k2
    have A1 := balloc (brefl W) (.cells #[x0, x1, x2, x3, x4, x5] 66)
    have hWA := bthen hW A1
    have c1 := (hWA.cell (p := ⟨bn, 0, none⟩) hbn).trans h1
    have HC2 := hide ((hWA.cell (p := ⟨bm, 0, none⟩) hbm).trans h2)
    have HLM : Hid (bm < (W.alloc (.cells #[x0, x1, x2, x3, x4, x5] 66)).heap.size) := Nat.lt_of_lt_of_le hbm hWA.size
    have HNW := hide (heap_new W #[x0, x1, x2, x3, x4, x5] 66)
    have HVA := hide (VR.mono RtR.mono hyw A1)
    have CK := hide (hk.ok (W.alloc (.cells #[x0, x1, x2, x3, x4, x5] 66)) a _ hWA HVA.out hga)
    have HM := hide (fun W2 x (hb : Below (W.alloc (.cells #[x0, x1, x2, x3, x4, x5] 66)).heap.size (W.alloc (.cells #[x0, x1, x2, x3, x4, x5] 66)) W2) (hv : VR 6 RtR W2 a x) => hm.ok W2 a x (bthen hWA hb) hv hga)
    have CN := hide (fun W2 => cfgName_is (key a) (hs a hga) W2)
    have hcf := hk.enter
    have hcg := hm.enter
    have B1 := hide A1
    clear hk hm hs h1 h2 hW hyw hga k1 k2 A1 hWA
    generalize nmOk (key a) = r1 at *
    generalize key a = ky at *
    generalize may a = r2 at *
    go_enter Tryz.func80, Tryz.ntmps80
    go_upto_region 1 with fail
    generalize hRW : W.heap.size = RW at *
    generalize W.alloc (.cells #[x0, x1, x2, x3, x4, x5] 66) = W1 at *
    have e0 := cell_of HNW.out 0 rfl
    have e1 := cell_of HNW.out 1 rfl
    have e2 := cell_of HNW.out 2 rfl
    have e3 := cell_of HNW.out 3 rfl
    have e4 := cell_of HNW.out 4 rfl
    have e5 := cell_of HNW.out 5 rfl
    go_wp2_with fail
    refine CK.out.mono ?_
    rintro e w2 ⟨rfl, hb2⟩
    clear CK
    go_wp2_with fail
    refine (CN.out w2).mono ?_
    rintro e w3 ⟨rfl, hb3⟩
    have hb13 := bthen hb2 hb3
    have B3 := hide (B1.out.trans ⟨hb13.os, hb13.tape, hb13.output, hb13.size, fun k hk => hb13.block k (Nat.lt_of_lt_of_le hk (hRW ▸ B1.out.size))⟩)
    have c2 := (hb13.cell (p := ⟨bm, 0, none⟩) HLM.out).trans HC2.out
    have g0 := (hb13.cell (p := ⟨RW, 0, none⟩) (World.block_lt_of_cell? _ _ e0)).trans e0
    have g1 := (hb13.cell (p := ⟨RW, 1, none⟩) (World.block_lt_of_cell? _ _ e1)).trans e1
    have g2 := (hb13.cell (p := ⟨RW, 2, none⟩) (World.block_lt_of_cell? _ _ e2)).trans e2
    have g3 := (hb13.cell (p := ⟨RW, 3, none⟩) (World.block_lt_of_cell? _ _ e3)).trans e3
    have g4 := (hb13.cell (p := ⟨RW, 4, none⟩) (World.block_lt_of_cell? _ _ e4)).trans e4
    have g5 := (hb13.cell (p := ⟨RW, 5, none⟩) (World.block_lt_of_cell? _ _ e5)).trans e5
    have CM := hide (HM.out w3 _ hb13 (VR.mono RtR.mono HVA.out hb13))
    clear CN HM HVA HC2 hb2 hb3 hb13 e0 e1 e2 e3 e4 e5 c1
    cases r1 with
    | false =>
      go_wp2_with fail
      go_ret
      exact ⟨rfl, by first | exact B3.out | (rw [← hRW]; exact B3.out) | (rw [hRW]; exact B3.out)⟩
    | true =>
      go_wp2_with fail
      refine CM.out.mono ?_
      rintro e w4 ⟨rfl, hb4⟩
      have B4 := hide (B3.out.trans ⟨hb4.os, hb4.tape, hb4.output, hb4.size, fun k hk => hb4.block k (Nat.lt_of_lt_of_le hk (hRW ▸ B3.out.size))⟩)
      clear hb4 CM
      go_wp2_with fail
      go_ret
      exact ⟨rfl, by first | exact B4.out | (rw [← hRW]; exact B4.out) | (rw [hRW]; exact B4.out)⟩
set_option maxHeartbeats 2000000 in
set_option maxRecDepth 100000 in
theorem namedRouter_is {fk fm : Nat} {ck cm : Array Value} {G : Rt → Prop} {key : Rt → ByteArray} {may : Rt → Bool} (v : Value) (l : List Rt) (most : Int) (w : World) (hk : FnKey w fk ck 6 RtR G key) (hm : FnIs w fm cm 6 RtR G may) (hs : ∀ a, G a → (key a).size ≤ 1000) (h : Rd w 6 RtR v l) (hg : ∀ a ∈ l, G a) (hz : l.length ≤ 100000) :
    Calls Tryz.prog 35 #[v, .int .i64 most, .func (.func fk) #[] ck, .func (.func fm) #[] cm] w fun e w' => e = .returned (.bool (decide ((l.length : Int) ≤ most) && l.all (fun a => nmOk (key a) && may a) && uniq key l)) ∧ Below w.heap.size w w' := by
  have A1 := balloc (balloc (brefl w) (.cells #[.func (.func fk) #[] ck] 91)) (.cells #[.func (.func fm) #[] cm] 83)
  have e1 := cell_of (((balloc (brefl (w.alloc (.cells #[.func (.func fk) #[] ck] 91))) (.cells #[.func (.func fm) #[] cm] 83)).block w.heap.size (by rw [size_alloc]; omega)).trans (heap_new w #[.func (.func fk) #[] ck] 91)) 0 rfl
  have e2 := cell_of (heap_new (w.alloc (.cells #[.func (.func fk) #[] ck] 91)) #[.func (.func fm) #[] cm] 83) 0 rfl
  rw [size_alloc] at e2
  have hv := h.below RtR.mono A1
  have CF := hide (fewRouter_is v l most _ (bothRouter_is (hk.from A1) (hm.from A1) hs e1 e2) hv hg hz)
  have CU := hide (fun W2 (hb : Below ((w.alloc (.cells #[.func (.func fk) #[] ck] 91)).alloc (.cells #[.func (.func fm) #[] cm] 83)).heap.size ((w.alloc (.cells #[.func (.func fk) #[] ck] 91)).alloc (.cells #[.func (.func fm) #[] cm] 83)) W2) => unlikeRouter_is v l W2 ((hk.from A1).from hb) (hv.below RtR.mono hb) hg hz)
  have HE1 := hide e1
  have HL1 : Hid (w.heap.size < ((w.alloc (.cells #[.func (.func fk) #[] ck] 91)).alloc (.cells #[.func (.func fm) #[] cm] 83)).heap.size) := by show _ < _; simp; omega
  have B1 := hide A1
  clear hk hm hs h hg hz A1 e1 e2 hv
  generalize uniq key l = r2 at *
  generalize (decide ((l.length : Int) ≤ most) && l.all (fun a => nmOk (key a) && may a)) = r1 at *
  go_enter Tryz.func35, Tryz.ntmps35
  go_upto_region 2 with fail
  obtain ⟨bk, hbk⟩ : ∃ x, w.heap.size = x := ⟨_, rfl⟩
  rw [hbk] at HE1 HL1
  generalize (w.alloc (.cells #[.func (.func fk) #[] ck] 91)).alloc (.cells #[.func (.func fm) #[] cm] 83) = W1 at *
  try rw [hbk]
  try rw [hbk] at CF
  go_wp2_with fail
  refine CF.out.mono ?_
  rintro e w2 ⟨rfl, hb2⟩
  have B2 := hide (bthen B1.out hb2)
  have a0 := (hb2.cell (p := ⟨bk, 0, none⟩) HL1.out).trans HE1.out
  have CU2 := hide (CU.out w2 hb2)
  clear CF CU hb2
  cases r1 with
  | false =>
    go_wp2_with fail
    go_ret
    exact ⟨rfl, by first | exact B2.out | (rw [← hbk]; exact B2.out) | (rw [hbk]; exact B2.out)⟩
  | true =>
    go_wp2_with fail
    refine CU2.out.mono ?_
    rintro e w3 ⟨rfl, hb3⟩
    have B3 := hide (bthen B2.out hb3)
    clear hb3 CU2
    go_wp2_with fail
    go_ret
    exact ⟨rfl, by first | exact B3.out | (rw [← hbk]; exact B3.out) | (rw [hbk]; exact B3.out)⟩
end Go.Proofs.YtpmmhmgojjlniaaGreatDoor
namespace Go.Proofs.YtpmmhmgojjlniaaGreatDoor
open Go.RowKit Go.Sort

def GLs (l : Ls) : Prop := l.name.size ≤ 1000
/-- No text or list of a configuration is too long to be asked. -/
def GCf (c : Cf) : Prop := c.lists.length ≤ 100000 ∧ (∀ a ∈ c.lists, GLs a) ∧ c.maps.length ≤ 100000 ∧ (∀ a ∈ c.maps, GMp a) ∧ c.routers.length ≤ 100000 ∧ (∀ a ∈ c.routers, GRt a)
/-- May a configuration be so? -/
def cfOk (c : Cf) : Bool := (decide ((c.lists.length : Int) ≤ 16) && c.lists.all (fun a => nmOk a.name && rulesOk a.rules) && uniq Ls.name c.lists) && (decide ((c.maps.length : Int) ≤ 16) && c.maps.all (fun a => nmOk a.name && clsOk a.cls) && uniq Mp.name c.maps) && (decide ((c.routers.length : Int) ≤ 8) && c.routers.all (fun a => nmOk a.name && rtOk a) && uniq Rt.name c.routers)
set_option maxHeartbeats 2000000 in
set_option maxRecDepth 100000 in
theorem may_is (c : Cf) (v1 v2 v3 : Value) (W : World) (hT : Ar.Y4.Pt W) (hc : CfR W c v1 v2 v3) (hg : GCf c) : Calls Tryz.prog 12 #[.agg #[v1, v2, v3]] W fun e w' => e = .returned (.bool (cfOk c)) ∧ Below W.heap.size W w' := by
  obtain ⟨h1, h2, h3⟩ := hc
  obtain ⟨o1, k1, rfl⟩ := h1.slice
  obtain ⟨o2, k2, rfl⟩ := h2.slice
  obtain ⟨o3, k3, rfl⟩ := h3.slice
  obtain ⟨lists, maps, routers⟩ := c
  simp only at h1 h2 h3 ⊢
  obtain ⟨z1, z2, z3, z4, z5, z6⟩ := hg
  simp only at z1 z2 z3 z4 z5 z6
  have A1 := balloc (brefl W) (.cells #[.slice o1 lists.length k1, .slice o2 maps.length k2, .slice o3 routers.length k3] 26)
  have N1 := hide (heap_new W #[.slice o1 lists.length k1, .slice o2 maps.length k2, .slice o3 routers.length k3] 26)
  have C1 := hide (fun W2 (h : Below W.heap.size W W2) => namedList_is (.slice o1 lists.length k1) lists 16 W2 (listName_key W2 GLs) (listMay_fn W2 GLs) (fun _ h => h) (h1.below LsR.mono h) z2 z1)
  have C2 := hide (fun W2 (h : Below W.heap.size W W2) => namedMap_is (.slice o2 maps.length k2) maps 16 W2 (mapName_key W2 GMp) (mapMay_fn W2 (hT.on h)) (fun _ h => h.2.2) (h2.below MpR.mono h) z4 z3)
  have C3 := hide (fun W2 (h : Below W.heap.size W W2) => namedRouter_is (.slice o3 routers.length k3) routers 8 W2 (routerName_key W2 GRt) (routerMay_fn W2) (fun _ h => h.2.2.2.2.2) (h3.below RtR.mono h) z6 z5)
  have HE : Hid (cfOk ⟨lists, maps, routers⟩ = ((decide ((lists.length : Int) ≤ 16) && lists.all (fun a => nmOk a.name && rulesOk a.rules) && uniq Ls.name lists) && (decide ((maps.length : Int) ≤ 16) && maps.all (fun a => nmOk a.name && clsOk a.cls) && uniq Mp.name maps) && (decide ((routers.length : Int) ≤ 8) && routers.all (fun a => nmOk a.name && rtOk a) && uniq Rt.name routers))) := rfl
  have B1 := hide A1
  clear A1 h1 h2 h3 hT z1 z2 z3 z4 z5 z6
  generalize cfOk ⟨lists, maps, routers⟩ = R at *
  generalize (decide ((lists.length : Int) ≤ 16) && lists.all (fun a => nmOk a.name && rulesOk a.rules) && uniq Ls.name lists) = r1 at *
  generalize (decide ((maps.length : Int) ≤ 16) && maps.all (fun a => nmOk a.name && clsOk a.cls) && uniq Mp.name maps) = r2 at *
  generalize (decide ((routers.length : Int) ≤ 8) && routers.all (fun a => nmOk a.name && rtOk a) && uniq Rt.name routers) = r3 at *
  generalize lists.length = m1 at *
  generalize maps.length = m2 at *
  generalize routers.length = m3 at *
  go_enter Tryz.func12, Tryz.ntmps12
  go_upto_region 1 with fail
  obtain ⟨bx, hbx⟩ : ∃ x, W.heap.size = x := ⟨_, rfl⟩
  rw [hbx] at N1 ⊢
  generalize W.alloc (.cells #[.slice o1 m1 k1, .slice o2 m2 k2, .slice o3 m3 k3] 26) = W1 at *
  have n0 := cell_of N1.out 0 rfl
  go_wp2_with fail
  refine (C1.out _ B1.out).mono ?_
  rintro e w2 ⟨rfl, hb⟩
  have N2 := hide ((hb.block bx (heap_lt N1.out)).trans N1.out)
  have B2 := hide (bthen B1.out hb)
  clear hb C1 n0
  cases r1 with
  | false =>
    go_wp2_with fail
    go_ret
    exact ⟨ret_bool HE.out.symm, by first | exact B2.out | (rw [← hbx]; exact B2.out) | (rw [hbx]; exact B2.out)⟩
  | true =>
    have n1 := cell_of N2.out 1 rfl
    go_wp2_with fail
    refine (C2.out _ B2.out).mono ?_
    rintro e w3 ⟨rfl, hb⟩
    have N3 := hide ((hb.block bx (heap_lt N2.out)).trans N2.out)
    have B3 := hide (bthen B2.out hb)
    clear hb C2 n1
    cases r2 with
    | false =>
      go_wp2_with fail
      go_ret
      exact ⟨ret_bool HE.out.symm, by first | exact B3.out | (rw [← hbx]; exact B3.out) | (rw [hbx]; exact B3.out)⟩
    | true =>
      have n2 := cell_of N3.out 2 rfl
      go_wp2_with fail
      refine (C3.out _ B3.out).mono ?_
      rintro e w4 ⟨rfl, hb⟩
      have N4 := hide ((hb.block bx (heap_lt N3.out)).trans N3.out)
      have B4 := hide (bthen B3.out hb)
      clear hb C3 n2
      have HR : Hid (R = r3) := by show _ = _; rw [HE.out]; cases r3 <;> rfl
      go_wp2_with fail
      go_ret
      exact ⟨ret_bool HR.out.symm, by first | exact B4.out | (rw [← hbx]; exact B4.out) | (rw [hbx]; exact B4.out)⟩
end Go.Proofs.YtpmmhmgojjlniaaGreatDoor
