/- slices.IndexFunc, ContainsFunc and few, over Prefix. -/
import Derived.Test.YtpmmhmgojjlniaaGreatDoorQ01
namespace Go.Proofs.YtpmmhmgojjlniaaGreatDoor
open Go.RowKit Go.Sort
set_option maxHeartbeats 2000000 in
set_option maxRecDepth 100000 in
theorem indexPrefix_is {f : Nat} {caps : Array Value} {G : (Int × Int) → Prop} {p : (Int × Int) → Bool} (v : Value) (l : List (Int × Int)) (w : World) (hf : FnIs w f caps 2 PxR G p) (h : Rd w 2 PxR v l) (hg : ∀ a ∈ l, G a) (hz : l.length ≤ 100000) :
    Calls Tryz.prog 219 #[v, .func (.func f) #[] caps] w fun e w' => ∃ i : Int, e = .returned (.int .i64 i) ∧ AnyIs i (l.any p) ∧ Below w.heap.size w w' := by
  obtain ⟨ao, ca, rfl⟩ := h.slice
  have H := hide h
  have hcf := hf.enter
  have HF := hide (fun W a x hW hx hg => hf.ok W a x hW hx hg)
  have HG := hide hg
  clear h hf hg
  go_enter Tryz.func219, Tryz.ntmps219
  go_wp2_with fail
  go_loopw [8] (fun v8 wr => ∃ k : Nat, v8 = .int .i64 k ∧ k ≤ l.length ∧ Hid ((l.take k).any p = false) ∧ Hid (Below w.heap.size w wr)) (fun v8 _ => l.length - (intOf v8).toNat)
  case atStart => exact ⟨0, rfl, Nat.zero_le _, hide rfl, brefl w⟩
  case round =>
    obtain ⟨k, rfl, hk, HA, HBR⟩ := hrel
    by_cases hkl : k < l.length
    · have hkl' : (k : Int) < (l.length : Int) := by omega
      obtain ⟨b, off, xs, rfl, hbw, hx, ha⟩ := (Rd.below PxR.mono H.out HBR.out).at_ hkl
      obtain ⟨x0, x1, rfl⟩ := list2 hx.len
      have c0 := ha 0 _ rfl
      have c1 := ha 1 _ rfl
      simp only [Nat.add_zero] at c0
      clear ha
      have CP := hide (HF.out wr l[k] (.agg #[x0, x1]) HBR.out ⟨_, hx, rfl, rfl⟩ (HG.out _ (List.getElem_mem hkl)))
      have HT := hide (any_take (p := p) hkl)
      have HAT := hide (any_of_at (p := p) hkl)
      clear hx
      generalize p l[k] = r at *
      cases r with
      | true =>
        have HY := hide (HAT.out rfl)
        clear HT HAT HA
        go_wp2_with (refine CP.out.mono ?_; rintro e w1 ⟨rfl, hb1⟩)
        have B1 := hide (bthen HBR.out hb1)
        clear hb1
        go_ret
        exact ⟨_, rfl, ⟨fun _ => HY.out, fun _ => Int.natCast_nonneg _⟩, B1.out⟩
      | false =>
        have HN : Hid ((l.take (k + 1)).any p = false) := by show _ = _; rw [HT.out, HA.out]; rfl
        clear HT HAT HA
        go_wp2_with (refine CP.out.mono ?_; rintro e w1 ⟨rfl, hb1⟩)
        have B1 := hide (bthen HBR.out hb1)
        clear hb1
        exact ⟨⟨k + 1, by go_num, by omega, HN, B1⟩, by simp [intOf] <;> omega⟩
    · have hkl' : ¬ (k : Int) < (l.length : Int) := by omega
      have HN : Hid (l.any p = false) := by
        have h := HA.out
        rw [List.take_of_length_le (by omega)] at h
        exact h
      clear HA
      go_wp2_with fail
      go_ret
      exact ⟨-1, rfl, ⟨fun h => absurd h (by decide), fun h => by rw [HN.out] at h; cases h⟩, HBR.out⟩
theorem containsPrefix_is {f : Nat} {caps : Array Value} {G : (Int × Int) → Prop} {p : (Int × Int) → Bool} (v : Value) (l : List (Int × Int)) (w : World) (hf : FnIs w f caps 2 PxR G p) (h : Rd w 2 PxR v l) (hg : ∀ a ∈ l, G a) (hz : l.length ≤ 100000) :
    Calls Tryz.prog 158 #[v, .func (.func f) #[] caps] w fun e w' => e = .returned (.bool (l.any p)) ∧ Below w.heap.size w w' := by
  have C := hide (indexPrefix_is v l w hf h hg hz)
  obtain ⟨ao, ca, rfl⟩ := h.slice
  clear hf h hg
  go_enter Tryz.func158, Tryz.ntmps158
  go_wp2_with fail
  refine C.out.mono ?_
  rintro e w1 ⟨i, rfl, hi, hb⟩
  go_wp2_with fail
  go_ret
  refine ⟨ret_bool ?_, hb⟩
  by_cases h0 : 0 ≤ i
  · rw [hi.1 h0]; simpa using h0
  · have : l.any p = false := by
      cases ha : l.any p with
      | false => rfl
      | true => exact absurd (hi.2 ha) h0
    rw [this]
    simpa using h0
set_option maxRecDepth 100000 in
theorem notMayPrefix_is {f : Nat} {caps : Array Value} {G : (Int × Int) → Prop} {p : (Int × Int) → Bool} {W0 : World} {bm : Nat} (hf : FnIs W0 f caps 2 PxR G p) (hm : W0.cell? ⟨bm, 0, none⟩ = some (.func (.func f) #[] caps)) :
    FnIs W0 157 #[.pointer (some ⟨bm, 0, none⟩)] 2 PxR G (fun x => !p x) where
  enter := fun args w => by go_simp
  ok := fun W a x hW hx hga => by
    have hbm := World.block_lt_of_cell? W0 _ hm
    have hxw := hx
    obtain ⟨xs, h1, h2, rfl⟩ := hx
    obtain ⟨x0, x1, rfl⟩ := list2 h2
    have A1 := balloc (brefl W) (.cells #[x0, x1] 95)
    have hm1 := (A1.cell (p := ⟨bm, 0, none⟩) (Nat.lt_of_lt_of_le hbm hW.size)).trans ((hW.cell (p := ⟨bm, 0, none⟩) hbm).trans hm)
    have C := hide (hf.ok (W.alloc (.cells #[x0, x1] 95)) a _ (bthen hW A1) (VR.mono PxR.mono hxw A1) hga)
    have hcf := hf.enter
    have B1 := hide A1
    clear hf hm hW hga hxw h1 h2 A1
    go_enter Tryz.func157, Tryz.ntmps157
    go_wp2_with (refine C.out.mono ?_; rintro e w1 ⟨rfl, hb1⟩)
    have B2 := hide (bthen B1.out hb1)
    clear hb1
    go_ret
    exact ⟨rfl, B2.out⟩
set_option maxRecDepth 100000 in
theorem fewPrefix_is {f : Nat} {caps : Array Value} {G : (Int × Int) → Prop} {p : (Int × Int) → Bool} (v : Value) (l : List (Int × Int)) (most : Int) (w : World) (hf : FnIs w f caps 2 PxR G p) (h : Rd w 2 PxR v l) (hg : ∀ a ∈ l, G a) (hz : l.length ≤ 100000) :
    Calls Tryz.prog 84 #[v, .int .i64 most, .func (.func f) #[] caps] w fun e w' => e = .returned (.bool (decide ((l.length : Int) ≤ most) && l.all p)) ∧ Below w.heap.size w w' := by
  have A1 := balloc (brefl w) (.cells #[.func (.func f) #[] caps] 130)
  have hm : (w.alloc (.cells #[.func (.func f) #[] caps] 130)).cell? ⟨w.heap.size, 0, none⟩ = some (.func (.func f) #[] caps) := cell_of (heap_new w _ _) 0 rfl
  have C := hide (containsPrefix_is v l (w.alloc (.cells #[.func (.func f) #[] caps] 130)) (notMayPrefix_is (hf.from A1) hm) (h.below PxR.mono A1) hg hz)
  have B1 := hide A1
  obtain ⟨ao, ca, rfl⟩ := h.slice
  clear hf h hg A1 hm
  have HQ : Hid (l.all p = !(l.any fun x => !p x)) := by show _ = _; rw [List.not_any_eq_all_not]; simp
  by_cases hl : (l.length : Int) ≤ most
  · go_enter Tryz.func84, Tryz.ntmps84
    go_wp2_with (refine C.out.mono ?_; rintro e w1 ⟨rfl, hb1⟩)
    have B2 := hide (bthen B1.out hb1)
    clear hb1
    go_ret
    refine ⟨ret_bool ?_, B2.out⟩
    rw [decide_eq_true hl, HQ.out]
    rfl
  · have HL := hide hl
    go_enter Tryz.func84, Tryz.ntmps84
    go_wp2_with fail
    go_ret
    refine ⟨ret_bool ?_, B1.out⟩
    rw [decide_eq_false (Int.not_le.2 HL.out)]
    rfl
end Go.Proofs.YtpmmhmgojjlniaaGreatDoor
namespace Go.Proofs.YtpmmhmgojjlniaaGreatDoor
open Go.RowKit Go.Sort
theorem guardPx : Tryz.prog.eqGuardType Tryz.prog.depth 95 = false := by kernel_rfl
theorem eqPx (a b c d : Int) (w : World) : (binOp .eql 95 (.agg #[.int .u32 a, .int .i64 b]) (.agg #[.int .u32 c, .int .i64 d])).run Tryz.prog w = .ok (.bool (a == c && b == d)) w := by
  have u3 := Tryz.underlying3
  have a3 := Tryz.isAgg3
  have z3 := Tryz.sizeOf3
  have u105 := Tryz.underlying93
  have a105 := Tryz.isAgg93
  have z105 := Tryz.sizeOf93
  have hS : Tryz.prog.underlying 95 = some (.struct (Tryz.prog.fieldsOf 95)) := by kernel_rfl
  have hp : Tryz.prog.stoodInHeld 95 = false := by kernel_rfl
  rw [run_eql_struct, show (10000 : Nat) = 9999 + 1 from rfl, run_equalIn_agg w 9999 95 _ _ hS hp]
  simp only [Program.fieldsOf, Tryz.underlying95]
  go_simp
  by_cases h1 : a = c <;> by_cases h2 : b = d <;> simp [h1, h2]
theorem pair_dec (a b c d : Int) : (a == c && b == d) = (decide (a = c) && decide (b = d)) := rfl
set_option maxHeartbeats 2000000 in
set_option maxRecDepth 100000 in
theorem likePrefix_is {f : Nat} {caps : Array Value} {G : (Int × Int) → Prop} {key : (Int × Int) → (Int × Int)} {W0 : World} {bk bx : Nat} {x : (Int × Int)} {xs : List Value} (hf : FnPfx W0 f caps 2 PxR G key) (hk : W0.cell? ⟨bk, 0, none⟩ = some (.func (.func f) #[] caps)) (hx : PxR W0 x xs) (hgx : G x) (hb : ∀ i u, xs[i]? = some u → W0.cell? ⟨bx, i, none⟩ = some u) :
    FnIs W0 160 #[.pointer (some ⟨bk, 0, none⟩), .pointer (some ⟨bx, 0, none⟩)] 2 PxR G (fun y => decide (key x = key y)) where
  enter := fun args w => by go_simp
  ok := fun W a y hW hy hga => by
    have hbm := World.block_lt_of_cell? W0 _ hk
    obtain ⟨x0, x1, rfl⟩ := list2 hx.len
    have hbx := World.block_lt_of_cell? W0 _ (hb 0 _ rfl)
    have hyw := hy
    obtain ⟨ys, h1, h2, rfl⟩ := hy
    obtain ⟨y0, y1, rfl⟩ := list2 h2
    have A1 := balloc (brefl W) (.cells #[y0, y1] 95)
    have hWA := bthen hW A1
    have hk1 := (hWA.cell (p := ⟨bk, 0, none⟩) hbm).trans hk
    have d0 := (hWA.cell (p := ⟨bx, 0, none⟩) hbx).trans (hb 0 _ rfl)
    have d1 := (hWA.cell (p := ⟨bx, 1, none⟩) hbx).trans (hb 1 _ rfl)
    have NW := heap_new W #[y0, y1] 95
    have e0 := cell_of NW 0 rfl
    have e1 := cell_of NW 1 rfl
    have hxv : ∀ d os, VR 2 PxR (Sort.grow (redrawn (W.alloc (.cells #[y0, y1] 95)) d) os) x (.agg #[x0, x1]) := fun d os => VR.mono PxR.mono ⟨_, hx, rfl, rfl⟩ (grown_below2 hWA hWA.size d os)
    have hyv : ∀ d os, VR 2 PxR (Sort.grow (redrawn (W.alloc (.cells #[y0, y1] 95)) d) os) a (.agg #[y0, y1]) := fun d os => VR.mono PxR.mono ⟨_, h1, rfl, rfl⟩ (grown_below2 A1 A1.size d os)
    have CX := hide (fun d os => hf.ok (Sort.grow (redrawn (W.alloc (.cells #[y0, y1] 95)) d) os) x (.agg #[x0, x1]) (grown_below2 hWA hWA.size d os) (hxv d os) hgx)
    have CY := hide (fun d os => hf.ok (Sort.grow (redrawn (W.alloc (.cells #[y0, y1] 95)) d) os) a (.agg #[y0, y1]) (grown_below2 hWA hWA.size d os) (hyv d os) hga)
    have hcf := hf.enter
    have B1 := hide A1
    clear hf hk hb hx hgx hga hW hyw h1 h2 A1 hWA hxv hyv NW
    generalize key x = kx at *
    generalize key a = ky at *
    obtain ⟨kx1, kx2⟩ := kx
    obtain ⟨ky1, ky2⟩ := ky
    have hq := eqPx
    have hgd := guardPx
    go_enter Tryz.func160, Tryz.ntmps160
    go_upto_region 1 with fail
    generalize hRW : W.heap.size = RW at *
    generalize W.alloc (.cells #[y0, y1] 95) = W1 at *
    have rhk1 := fun dd os => cell_regrown hk1 dd os
    have rd0 := fun dd os => cell_regrown d0 dd os
    have rd1 := fun dd os => cell_regrown d1 dd os
    have re0 := fun dd os => cell_regrown e0 dd os
    have re1 := fun dd os => cell_regrown e1 dd os
    refine wp_region_quiet_below (by kernel_rfl) (by kernel_rfl) ?_
    repeat (go_big_quiet_step (first | exact Calls.regrown_of (CX.out _ _) | exact Calls.regrown_of (CY.out _ _)))
    refine wpQuiet_nil ?_
    rintro _ ⟨⟨dd, os⟩, rfl⟩
    have hb1 := below_regrown W1 dd os
    generalize Sort.grow (redrawn W1 dd) os = w2 at hb1
    have B2 := hide (B1.out.trans ⟨hb1.os, hb1.tape, hb1.output, hb1.size, fun k hk => hb1.block k (Nat.lt_of_lt_of_le hk (hRW ▸ B1.out.size))⟩)
    clear hb1 rhk1 rd0 rd1 re0 re1
    go_wp2_with fail
    go_ret
    refine ⟨ret_bool ?_, by first | exact B2.out | (rw [hRW]; exact B2.out)⟩
    exact pair_dec _ _ _ _
set_option maxHeartbeats 2000000 in
set_option maxRecDepth 100000 in
theorem unlikePrefix_is {f : Nat} {caps : Array Value} {G : (Int × Int) → Prop} {key : (Int × Int) → (Int × Int)} (v : Value) (l : List (Int × Int)) (w : World) (hf : FnPfx w f caps 2 PxR G key) (h : Rd w 2 PxR v l) (hg : ∀ a ∈ l, G a) (hz : l.length ≤ 100000) :
    Calls Tryz.prog 86 #[v, .func (.func f) #[] caps] w fun e w' => e = .returned (.bool (uniq key l)) ∧ Below w.heap.size w w' := by
  have A1 := balloc (brefl w) (.cells #[.func (.func f) #[] caps] 142)
  have HM := hide (cell_of (heap_new w #[.func (.func f) #[] caps] 142) 0 rfl)
  have HLT : Hid (w.heap.size < (w.alloc (.cells #[.func (.func f) #[] caps] 142)).heap.size) := by show _ < _; simp
  have H := hide (h.below PxR.mono A1)
  have HF := hide (hf.from A1)
  have B1 := hide A1
  have HG := hide hg
  obtain ⟨ao, ca, rfl⟩ := h.slice
  have HCA := hide h.cap
  clear h hf hg A1
  go_enter Tryz.func86, Tryz.ntmps86
  go_upto_region 1 with fail
  obtain ⟨bk, hbk⟩ : ∃ x, w.heap.size = x := ⟨_, rfl⟩
  rw [hbk] at HM HLT ⊢
  generalize w.alloc (.cells #[.func (.func f) #[] caps] 142) = W1 at *
  go_wp2_with fail
  go_loopw [10] (fun v10 wr => ∃ k : Nat, v10 = .int .i64 k ∧ k ≤ l.length ∧ Hid (uniqTo key l k) ∧ Hid (Below W1.heap.size W1 wr)) (fun v10 _ => l.length - (intOf v10).toNat)
  case atStart => exact ⟨0, rfl, Nat.zero_le _, hide (fun _ _ h => absurd h (Nat.not_lt_zero _)), brefl W1⟩
  case round =>
    obtain ⟨k, rfl, hk, HU, HBR⟩ := hrel
    by_cases hkl : k < l.length
    · have hkl' : (k : Int) < (l.length : Int) := by omega
      obtain ⟨b, off, xs, rfl, hbw, hx, ha⟩ := (Rd.below PxR.mono H.out HBR.out).at_ hkl
      have hx0 := hx
      unfold PxR at hx
      subst hx
      have e0 := ha 0 _ rfl
      have e1 := ha 1 _ rfl
      simp only [Nat.add_zero] at e0
      clear ha
      have A2 := balloc (brefl wr) (.cells #[.int .u32 l[k].1, .int .i64 l[k].2] 95)
      have N2 := heap_new wr #[.int .u32 l[k].1, .int .i64 l[k].2] 95
      have B2 := hide (bthen HBR.out A2)
      have C := hide (containsPrefix_is (.slice (some ⟨b, off, none⟩) k ca) (l.take k) (wr.alloc (.cells #[.int .u32 l[k].1, .int .i64 l[k].2] 95)) (likePrefix_is (x := l[k]) (xs := [.int .u32 l[k].1, .int .i64 l[k].2]) (bk := bk) (bx := wr.heap.size) (HF.out.from B2.out) ((B2.out.cell (p := ⟨bk, 0, none⟩) HLT.out).trans HM.out) (PxR.mono _ _ _ _ A2 hx0) (HG.out _ (List.getElem_mem hkl)) (fun i u hu => cell_of N2 i (by simpa using hu))) (Rd.take (H.out.below PxR.mono B2.out) k hk) (fun a ha => HG.out a (List.mem_of_mem_take ha)) (Nat.le_trans (List.length_take_le ..) (by omega)))
      have HN := hide (fun (h : (l.take k).any (fun y => decide (key l[k] = key y)) = true) => uniq_not key l k hkl h)
      have HS : Hid ((l.take k).any (fun y => decide (key l[k] = key y)) = false → uniqTo key l (k + 1)) := fun h i hi hik => by
        rcases Nat.lt_or_ge i k with h1 | h1
        · exact HU.out i hi h1
        · obtain rfl : i = k := by omega
          exact h
      generalize (l.take k).any (fun y => decide (key l[k] = key y)) = r at *
      have hca := HCA.out
      have hkc : k ≤ ca := by omega
      clear hx0 A2 N2 hca
      go_wp2_with fail
      refine C.out.mono ?_
      rintro e w3 ⟨rfl, hb3⟩
      have B3 := hide (bthen B2.out hb3)
      clear hb3 C
      cases r with
      | true =>
        have HN2 := hide (HN.out rfl)
        clear HN HS
        go_wp2_with fail
        go_ret
        refine ⟨ret_bool HN2.out.symm, ?_⟩
        have h1 := bthen B1.out B3.out
        first | exact h1 | (rw [← hbk]; exact h1)
      | false =>
        have HS2 := hide (HS.out rfl)
        clear HN HS
        go_wp2_with fail
        exact ⟨⟨k + 1, by go_num, by omega, HS2, B3⟩, by simp [intOf] <;> omega⟩
    · have hkl' : ¬ (k : Int) < (l.length : Int) := by omega
      have HY : Hid (uniq key l = true) := uniq_all key l (by rw [show l.length = k by omega]; exact HU.out)
      have hkk : k = l.length := by omega
      clear HU
      go_wp2_with fail
      go_ret
      refine ⟨ret_bool HY.out.symm, ?_⟩
      have h1 := bthen B1.out HBR.out
      first | exact h1 | (rw [← hbk]; exact h1)
end Go.Proofs.YtpmmhmgojjlniaaGreatDoor
namespace Go.Proofs.YtpmmhmgojjlniaaGreatDoor
open Go.RowKit Go.Sort
set_option maxHeartbeats 2000000 in
set_option maxRecDepth 100000 in
theorem indexNeighbor_is {f : Nat} {caps : Array Value} {G : Nb → Prop} {p : Nb → Bool} (v : Value) (l : List Nb) (w : World) (hf : FnIs w f caps 4 NbR G p) (h : Rd w 4 NbR v l) (hg : ∀ a ∈ l, G a) (hz : l.length ≤ 100000) :
    Calls Tryz.prog 267 #[v, .func (.func f) #[] caps] w fun e w' => ∃ i : Int, e = .returned (.int .i64 i) ∧ AnyIs i (l.any p) ∧ Below w.heap.size w w' := by
  obtain ⟨ao, ca, rfl⟩ := h.slice
  have H := hide h
  have hcf := hf.enter
  have HF := hide (fun W a x hW hx hg => hf.ok W a x hW hx hg)
  have HG := hide hg
  clear h hf hg
  go_enter Tryz.func267, Tryz.ntmps267
  go_wp2_with fail
  go_loopw [8] (fun v8 wr => ∃ k : Nat, v8 = .int .i64 k ∧ k ≤ l.length ∧ Hid ((l.take k).any p = false) ∧ Hid (Below w.heap.size w wr)) (fun v8 _ => l.length - (intOf v8).toNat)
  case atStart => exact ⟨0, rfl, Nat.zero_le _, hide rfl, brefl w⟩
  case round =>
    obtain ⟨k, rfl, hk, HA, HBR⟩ := hrel
    by_cases hkl : k < l.length
    · have hkl' : (k : Int) < (l.length : Int) := by omega
      obtain ⟨b, off, xs, rfl, hbw, hx, ha⟩ := (Rd.below NbR.mono H.out HBR.out).at_ hkl
      obtain ⟨x0, x1, x2, x3, rfl⟩ := list4 hx.len
      have c0 := ha 0 _ rfl
      have c1 := ha 1 _ rfl
      have c2 := ha 2 _ rfl
      have c3 := ha 3 _ rfl
      simp only [Nat.add_zero] at c0
      clear ha
      have CP := hide (HF.out wr l[k] (.agg #[x0, x1, x2, x3]) HBR.out ⟨_, hx, rfl, rfl⟩ (HG.out _ (List.getElem_mem hkl)))
      have HT := hide (any_take (p := p) hkl)
      have HAT := hide (any_of_at (p := p) hkl)
      clear hx
      generalize p l[k] = r at *
      cases r with
      | true =>
        have HY := hide (HAT.out rfl)
        clear HT HAT HA
        go_wp2_with (refine CP.out.mono ?_; rintro e w1 ⟨rfl, hb1⟩)
        have B1 := hide (bthen HBR.out hb1)
        clear hb1
        go_ret
        exact ⟨_, rfl, ⟨fun _ => HY.out, fun _ => Int.natCast_nonneg _⟩, B1.out⟩
      | false =>
        have HN : Hid ((l.take (k + 1)).any p = false) := by show _ = _; rw [HT.out, HA.out]; rfl
        clear HT HAT HA
        go_wp2_with (refine CP.out.mono ?_; rintro e w1 ⟨rfl, hb1⟩)
        have B1 := hide (bthen HBR.out hb1)
        clear hb1
        exact ⟨⟨k + 1, by go_num, by omega, HN, B1⟩, by simp [intOf] <;> omega⟩
    · have hkl' : ¬ (k : Int) < (l.length : Int) := by omega
      have HN : Hid (l.any p = false) := by
        have h := HA.out
        rw [List.take_of_length_le (by omega)] at h
        exact h
      clear HA
      go_wp2_with fail
      go_ret
      exact ⟨-1, rfl, ⟨fun h => absurd h (by decide), fun h => by rw [HN.out] at h; cases h⟩, HBR.out⟩
theorem containsNeighbor_is {f : Nat} {caps : Array Value} {G : Nb → Prop} {p : Nb → Bool} (v : Value) (l : List Nb) (w : World) (hf : FnIs w f caps 4 NbR G p) (h : Rd w 4 NbR v l) (hg : ∀ a ∈ l, G a) (hz : l.length ≤ 100000) :
    Calls Tryz.prog 221 #[v, .func (.func f) #[] caps] w fun e w' => e = .returned (.bool (l.any p)) ∧ Below w.heap.size w w' := by
  have C := hide (indexNeighbor_is v l w hf h hg hz)
  obtain ⟨ao, ca, rfl⟩ := h.slice
  clear hf h hg
  go_enter Tryz.func221, Tryz.ntmps221
  go_wp2_with fail
  refine C.out.mono ?_
  rintro e w1 ⟨i, rfl, hi, hb⟩
  go_wp2_with fail
  go_ret
  refine ⟨ret_bool ?_, hb⟩
  by_cases h0 : 0 ≤ i
  · rw [hi.1 h0]; simpa using h0
  · have : l.any p = false := by
      cases ha : l.any p with
      | false => rfl
      | true => exact absurd (hi.2 ha) h0
    rw [this]
    simpa using h0
set_option maxRecDepth 100000 in
theorem notMayNeighbor_is {f : Nat} {caps : Array Value} {G : Nb → Prop} {p : Nb → Bool} {W0 : World} {bm : Nat} (hf : FnIs W0 f caps 4 NbR G p) (hm : W0.cell? ⟨bm, 0, none⟩ = some (.func (.func f) #[] caps)) :
    FnIs W0 220 #[.pointer (some ⟨bm, 0, none⟩)] 4 NbR G (fun x => !p x) where
  enter := fun args w => by go_simp
  ok := fun W a x hW hx hga => by
    have hbm := World.block_lt_of_cell? W0 _ hm
    have hxw := hx
    obtain ⟨xs, h1, h2, rfl⟩ := hx
    obtain ⟨x0, x1, x2, x3, rfl⟩ := list4 h2
    have A1 := balloc (brefl W) (.cells #[x0, x1, x2, x3] 68)
    have hm1 := (A1.cell (p := ⟨bm, 0, none⟩) (Nat.lt_of_lt_of_le hbm hW.size)).trans ((hW.cell (p := ⟨bm, 0, none⟩) hbm).trans hm)
    have C := hide (hf.ok (W.alloc (.cells #[x0, x1, x2, x3] 68)) a _ (bthen hW A1) (VR.mono NbR.mono hxw A1) hga)
    have hcf := hf.enter
    have B1 := hide A1
    clear hf hm hW hga hxw h1 h2 A1
    go_enter Tryz.func220, Tryz.ntmps220
    go_wp2_with (refine C.out.mono ?_; rintro e w1 ⟨rfl, hb1⟩)
    have B2 := hide (bthen B1.out hb1)
    clear hb1
    go_ret
    exact ⟨rfl, B2.out⟩
set_option maxRecDepth 100000 in
theorem fewNeighbor_is {f : Nat} {caps : Array Value} {G : Nb → Prop} {p : Nb → Bool} (v : Value) (l : List Nb) (most : Int) (w : World) (hf : FnIs w f caps 4 NbR G p) (h : Rd w 4 NbR v l) (hg : ∀ a ∈ l, G a) (hz : l.length ≤ 100000) :
    Calls Tryz.prog 162 #[v, .int .i64 most, .func (.func f) #[] caps] w fun e w' => e = .returned (.bool (decide ((l.length : Int) ≤ most) && l.all p)) ∧ Below w.heap.size w w' := by
  have A1 := balloc (brefl w) (.cells #[.func (.func f) #[] caps] 145)
  have hm : (w.alloc (.cells #[.func (.func f) #[] caps] 145)).cell? ⟨w.heap.size, 0, none⟩ = some (.func (.func f) #[] caps) := cell_of (heap_new w _ _) 0 rfl
  have C := hide (containsNeighbor_is v l (w.alloc (.cells #[.func (.func f) #[] caps] 145)) (notMayNeighbor_is (hf.from A1) hm) (h.below NbR.mono A1) hg hz)
  have B1 := hide A1
  obtain ⟨ao, ca, rfl⟩ := h.slice
  clear hf h hg A1 hm
  have HQ : Hid (l.all p = !(l.any fun x => !p x)) := by show _ = _; rw [List.not_any_eq_all_not]; simp
  by_cases hl : (l.length : Int) ≤ most
  · go_enter Tryz.func162, Tryz.ntmps162
    go_wp2_with (refine C.out.mono ?_; rintro e w1 ⟨rfl, hb1⟩)
    have B2 := hide (bthen B1.out hb1)
    clear hb1
    go_ret
    refine ⟨ret_bool ?_, B2.out⟩
    rw [decide_eq_true hl, HQ.out]
    rfl
  · have HL := hide hl
    go_enter Tryz.func162, Tryz.ntmps162
    go_wp2_with fail
    go_ret
    refine ⟨ret_bool ?_, B1.out⟩
    rw [decide_eq_false (Int.not_le.2 HL.out)]
    rfl
end Go.Proofs.YtpmmhmgojjlniaaGreatDoor
namespace Go.Proofs.YtpmmhmgojjlniaaGreatDoor
open Go.RowKit Go.Sort
set_option maxHeartbeats 2000000 in
set_option maxRecDepth 100000 in
theorem likeNeighbor_is {f : Nat} {caps : Array Value} {G : Nb → Prop} {key : Nb → ByteArray} {W0 : World} {bk bx : Nat} {x : Nb} {xs : List Value} (hf : FnKey W0 f caps 4 NbR G key) (hk : W0.cell? ⟨bk, 0, none⟩ = some (.func (.func f) #[] caps)) (hx : NbR W0 x xs) (hgx : G x) (hb : ∀ i u, xs[i]? = some u → W0.cell? ⟨bx, i, none⟩ = some u) :
    FnIs W0 222 #[.pointer (some ⟨bk, 0, none⟩), .pointer (some ⟨bx, 0, none⟩)] 4 NbR G (fun y => decide (key x = key y)) where
  enter := fun args w => by go_simp
  ok := fun W a y hW hy hga => by
    have hbm := World.block_lt_of_cell? W0 _ hk
    obtain ⟨x0, x1, x2, x3, rfl⟩ := list4 hx.len
    have hbx := World.block_lt_of_cell? W0 _ (hb 0 _ rfl)
    have hyw := hy
    obtain ⟨ys, h1, h2, rfl⟩ := hy
    obtain ⟨y0, y1, y2, y3, rfl⟩ := list4 h2
    have A1 := balloc (brefl W) (.cells #[y0, y1, y2, y3] 68)
    have hWA := bthen hW A1
    have hk1 := (hWA.cell (p := ⟨bk, 0, none⟩) hbm).trans hk
    have d0 := (hWA.cell (p := ⟨bx, 0, none⟩) hbx).trans (hb 0 _ rfl)
    have d1 := (hWA.cell (p := ⟨bx, 1, none⟩) hbx).trans (hb 1 _ rfl)
    have d2 := (hWA.cell (p := ⟨bx, 2, none⟩) hbx).trans (hb 2 _ rfl)
    have d3 := (hWA.cell (p := ⟨bx, 3, none⟩) hbx).trans (hb 3 _ rfl)
    have NW := heap_new W #[y0, y1, y2, y3] 68
    have e0 := cell_of NW 0 rfl
    have e1 := cell_of NW 1 rfl
    have e2 := cell_of NW 2 rfl
    have e3 := cell_of NW 3 rfl
    have hxv : ∀ d os, VR 4 NbR (Sort.grow (redrawn (W.alloc (.cells #[y0, y1, y2, y3] 68)) d) os) x (.agg #[x0, x1, x2, x3]) := fun d os => VR.mono NbR.mono ⟨_, hx, rfl, rfl⟩ (grown_below2 hWA hWA.size d os)
    have hyv : ∀ d os, VR 4 NbR (Sort.grow (redrawn (W.alloc (.cells #[y0, y1, y2, y3] 68)) d) os) a (.agg #[y0, y1, y2, y3]) := fun d os => VR.mono NbR.mono ⟨_, h1, rfl, rfl⟩ (grown_below2 A1 A1.size d os)
    have CX := hide (fun d os => hf.ok (Sort.grow (redrawn (W.alloc (.cells #[y0, y1, y2, y3] 68)) d) os) x (.agg #[x0, x1, x2, x3]) (grown_below2 hWA hWA.size d os) (hxv d os) hgx)
    have CY := hide (fun d os => hf.ok (Sort.grow (redrawn (W.alloc (.cells #[y0, y1, y2, y3] 68)) d) os) a (.agg #[y0, y1, y2, y3]) (grown_below2 hWA hWA.size d os) (hyv d os) hga)
    have hcf := hf.enter
    have B1 := hide A1
    clear hf hk hb hx hgx hga hW hyw h1 h2 A1 hWA hxv hyv NW
    generalize key x = kx at *
    generalize key a = ky at *
    go_enter Tryz.func222, Tryz.ntmps222
    go_upto_region 1 with fail
    generalize hRW : W.heap.size = RW at *
    generalize W.alloc (.cells #[y0, y1, y2, y3] 68) = W1 at *
    have rhk1 := fun dd os => cell_regrown hk1 dd os
    have rd0 := fun dd os => cell_regrown d0 dd os
    have rd1 := fun dd os => cell_regrown d1 dd os
    have rd2 := fun dd os => cell_regrown d2 dd os
    have rd3 := fun dd os => cell_regrown d3 dd os
    have re0 := fun dd os => cell_regrown e0 dd os
    have re1 := fun dd os => cell_regrown e1 dd os
    have re2 := fun dd os => cell_regrown e2 dd os
    have re3 := fun dd os => cell_regrown e3 dd os
    refine wp_region_quiet_below (by kernel_rfl) (by kernel_rfl) ?_
    repeat (go_big_quiet_step (first | exact Calls.regrown_of (CX.out _ _) | exact Calls.regrown_of (CY.out _ _)))
    refine wpQuiet_nil ?_
    rintro _ ⟨⟨dd, os⟩, rfl⟩
    have hb1 := below_regrown W1 dd os
    generalize Sort.grow (redrawn W1 dd) os = w2 at hb1
    have B2 := hide (B1.out.trans ⟨hb1.os, hb1.tape, hb1.output, hb1.size, fun k hk => hb1.block k (Nat.lt_of_lt_of_le hk (hRW ▸ B1.out.size))⟩)
    clear hb1 rhk1 rd0 rd1 rd2 rd3 re0 re1 re2 re3
    go_wp2_with fail
    go_ret
    refine ⟨ret_bool ?_, by first | exact B2.out | (rw [hRW]; exact B2.out)⟩
    exact beq_tl kx ky
set_option maxHeartbeats 2000000 in
set_option maxRecDepth 100000 in
theorem unlikeNeighbor_is {f : Nat} {caps : Array Value} {G : Nb → Prop} {key : Nb → ByteArray} (v : Value) (l : List Nb) (w : World) (hf : FnKey w f caps 4 NbR G key) (h : Rd w 4 NbR v l) (hg : ∀ a ∈ l, G a) (hz : l.length ≤ 100000) :
    Calls Tryz.prog 163 #[v, .func (.func f) #[] caps] w fun e w' => e = .returned (.bool (uniq key l)) ∧ Below w.heap.size w w' := by
  have A1 := balloc (brefl w) (.cells #[.func (.func f) #[] caps] 144)
  have HM := hide (cell_of (heap_new w #[.func (.func f) #[] caps] 144) 0 rfl)
  have HLT : Hid (w.heap.size < (w.alloc (.cells #[.func (.func f) #[] caps] 144)).heap.size) := by show _ < _; simp
  have H := hide (h.below NbR.mono A1)
  have HF := hide (hf.from A1)
  have B1 := hide A1
  have HG := hide hg
  obtain ⟨ao, ca, rfl⟩ := h.slice
  have HCA := hide h.cap
  clear h hf hg A1
  go_enter Tryz.func163, Tryz.ntmps163
  go_upto_region 1 with fail
  obtain ⟨bk, hbk⟩ : ∃ x, w.heap.size = x := ⟨_, rfl⟩
  rw [hbk] at HM HLT ⊢
  generalize w.alloc (.cells #[.func (.func f) #[] caps] 144) = W1 at *
  go_wp2_with fail
  go_loopw [10] (fun v10 wr => ∃ k : Nat, v10 = .int .i64 k ∧ k ≤ l.length ∧ Hid (uniqTo key l k) ∧ Hid (Below W1.heap.size W1 wr)) (fun v10 _ => l.length - (intOf v10).toNat)
  case atStart => exact ⟨0, rfl, Nat.zero_le _, hide (fun _ _ h => absurd h (Nat.not_lt_zero _)), brefl W1⟩
  case round =>
    obtain ⟨k, rfl, hk, HU, HBR⟩ := hrel
    by_cases hkl : k < l.length
    · have hkl' : (k : Int) < (l.length : Int) := by omega
      obtain ⟨b, off, xs, rfl, hbw, hx, ha⟩ := (Rd.below NbR.mono H.out HBR.out).at_ hkl
      have hx0 := hx
      unfold NbR at hx
      subst hx
      have e0 := ha 0 _ rfl
      have e1 := ha 1 _ rfl
      have e2 := ha 2 _ rfl
      have e3 := ha 3 _ rfl
      simp only [Nat.add_zero] at e0
      clear ha
      have A2 := balloc (brefl wr) (.cells #[.string l[k].name, .string l[k].imp, .string l[k].exp, .bool l[k].client] 68)
      have N2 := heap_new wr #[.string l[k].name, .string l[k].imp, .string l[k].exp, .bool l[k].client] 68
      have B2 := hide (bthen HBR.out A2)
      have C := hide (containsNeighbor_is (.slice (some ⟨b, off, none⟩) k ca) (l.take k) (wr.alloc (.cells #[.string l[k].name, .string l[k].imp, .string l[k].exp, .bool l[k].client] 68)) (likeNeighbor_is (x := l[k]) (xs := [.string l[k].name, .string l[k].imp, .string l[k].exp, .bool l[k].client]) (bk := bk) (bx := wr.heap.size) (HF.out.from B2.out) ((B2.out.cell (p := ⟨bk, 0, none⟩) HLT.out).trans HM.out) (NbR.mono _ _ _ _ A2 hx0) (HG.out _ (List.getElem_mem hkl)) (fun i u hu => cell_of N2 i (by simpa using hu))) (Rd.take (H.out.below NbR.mono B2.out) k hk) (fun a ha => HG.out a (List.mem_of_mem_take ha)) (Nat.le_trans (List.length_take_le ..) (by omega)))
      have HN := hide (fun (h : (l.take k).any (fun y => decide (key l[k] = key y)) = true) => uniq_not key l k hkl h)
      have HS : Hid ((l.take k).any (fun y => decide (key l[k] = key y)) = false → uniqTo key l (k + 1)) := fun h i hi hik => by
        rcases Nat.lt_or_ge i k with h1 | h1
        · exact HU.out i hi h1
        · obtain rfl : i = k := by omega
          exact h
      generalize (l.take k).any (fun y => decide (key l[k] = key y)) = r at *
      have hca := HCA.out
      have hkc : k ≤ ca := by omega
      clear hx0 A2 N2 hca
      go_wp2_with fail
      refine C.out.mono ?_
      rintro e w3 ⟨rfl, hb3⟩
      have B3 := hide (bthen B2.out hb3)
      clear hb3 C
      cases r with
      | true =>
        have HN2 := hide (HN.out rfl)
        clear HN HS
        go_wp2_with fail
        go_ret
        refine ⟨ret_bool HN2.out.symm, ?_⟩
        have h1 := bthen B1.out B3.out
        first | exact h1 | (rw [← hbk]; exact h1)
      | false =>
        have HS2 := hide (HS.out rfl)
        clear HN HS
        go_wp2_with fail
        exact ⟨⟨k + 1, by go_num, by omega, HS2, B3⟩, by simp [intOf] <;> omega⟩
    · have hkl' : ¬ (k : Int) < (l.length : Int) := by omega
      have HY : Hid (uniq key l = true) := uniq_all key l (by rw [show l.length = k by omega]; exact HU.out)
      have hkk : k = l.length := by omega
      clear HU
      go_wp2_with fail
      go_ret
      refine ⟨ret_bool HY.out.symm, ?_⟩
      have h1 := bthen B1.out HBR.out
      first | exact h1 | (rw [← hbk]; exact h1)
end Go.Proofs.YtpmmhmgojjlniaaGreatDoor
