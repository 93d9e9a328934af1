/- show.routerMay. -/
import Derived.Test.YtpmmhmgojjlniaaGreatDoorQ01
import Derived.Test.YtpmmhmgojjlniaaGreatDoorQ16
import Derived.Test.YtpmmhmgojjlniaaGreatDoorQ17
import Derived.Test.YtpmmhmgojjlniaaGreatDoorQ18
namespace Go.Proofs.YtpmmhmgojjlniaaGreatDoor
open Go.RowKit Go.Sort
/-- No text or list of a router is too long to be asked. -/
def GRt (r : Rt) : Prop := r.nets.length ≤ 100000 ∧ r.nbs.length ≤ 100000 ∧ (∀ n ∈ r.nbs, GNb n) ∧ r.links.length ≤ 100000 ∧ (∀ n ∈ r.links, GLk n) ∧ r.name.size ≤ 1000
def netsOk (l : List (Int × Int)) : Bool := decide ((l.length : Int) ≤ 16) && l.all fun c => Ax.Ad.mayX c.1 c.2
def nbsOk (l : List Nb) : Bool := decide ((l.length : Int) ≤ 16) && l.all (fun a => nmOk a.name && nbOk a) && uniq Nb.name l
def linksOk (l : List Lk) : Bool := decide ((l.length : Int) ≤ 16) && l.all (fun a => nmOk a.name && lkOk a) && uniq Lk.name l
/-- May a router be so? -/
def rtOk (r : Rt) : Bool := inR r.asn 1 65535 && inR r.id 1 65535 && netsOk r.nets && uniq (fun p => p) r.nets && nbsOk r.nbs && linksOk r.links
set_option maxHeartbeats 2000000 in
set_option maxRecDepth 100000 in
theorem routerMay_fn (W0 : World) : FnIs W0 37 #[] 6 RtR GRt rtOk where
  enter := fun args w => by go_simp
  ok := fun W a x hW hx hga => by
    obtain ⟨xs, h1, _, rfl⟩ := hx
    obtain ⟨va, vb, vl, rfl, hn, hb, hl⟩ := h1
    obtain ⟨on, kn, rfl⟩ := hn.slice
    obtain ⟨ob, kb, rfl⟩ := hb.slice
    obtain ⟨ol, kl, rfl⟩ := hl.slice
    obtain ⟨name, asn, id, nets, nbs, links⟩ := a
    simp only at hn hb hl hga ⊢
    obtain ⟨z0, z1, z2, z3, z4, _⟩ := hga
    simp only at z0 z1 z2 z3 z4
    show Calls Tryz.prog 37 #[.agg #[.string name, .int .i64 asn, .int .i64 id, .slice on nets.length kn, .slice ob nbs.length kb, .slice ol links.length kl]] W _
    have A1 := balloc (brefl W) (.cells #[.string name, .int .i64 asn, .int .i64 id, .slice on nets.length kn, .slice ob nbs.length kb, .slice ol links.length kl] 66)
    have N1 := hide (heap_new W #[.string name, .int .i64 asn, .int .i64 id, .slice on nets.length kn, .slice ob nbs.length kb, .slice ol links.length kl] 66)
    have C1 := hide (fun W => asMay_is asn W)
    have C2 := hide (fun W => asMay_is id W)
    have C3 := hide (fun W2 (h : Below W.heap.size W W2) => fewPrefix_is (.slice on nets.length kn) nets 16 W2 (addrMay_fn W2 (fun _ => True)) (hn.below PxR.mono h) (fun _ _ => trivial) z0)
    have C4 := hide (fun W2 (h : Below W.heap.size W W2) => unlikePrefix_is (.slice on nets.length kn) nets W2 (itself_key W2 (fun _ => True)) (hn.below PxR.mono h) (fun _ _ => trivial) z0)
    have C5 := hide (fun W2 (h : Below W.heap.size W W2) => namedNeighbor_is (.slice ob nbs.length kb) nbs 16 W2 (neighborName_key W2 GNb) (neighborMay_fn W2) (fun _ h => h.1) (hb.below NbR.mono h) z2 z1)
    have C6 := hide (fun W2 (h : Below W.heap.size W W2) => namedLink_is (.slice ol links.length kl) links 16 W2 (linkName_key W2 GLk) (linkMay_fn W2 GLk) (fun _ h => h) (hl.below LkR.mono h) z4 z3)
    have HE : Hid (rtOk ⟨name, asn, id, nets, nbs, links⟩ = (inR asn 1 65535 && inR id 1 65535 && (decide ((nets.length : Int) ≤ 16) && nets.all fun c => Ax.Ad.mayX c.1 c.2) && uniq (fun p => p) nets && (decide ((nbs.length : Int) ≤ 16) && nbs.all (fun a => nmOk a.name && nbOk a) && uniq Nb.name nbs) && (decide ((links.length : Int) ≤ 16) && links.all (fun a => nmOk a.name && lkOk a) && uniq Lk.name links))) := rfl
    have B1 := hide A1
    clear A1 hn hb hl hW z0 z1 z2 z3 z4
    generalize rtOk ⟨name, asn, id, nets, nbs, links⟩ = R at *
    generalize inR asn 1 65535 = r1 at *
    generalize inR id 1 65535 = r2 at *
    generalize (decide ((nets.length : Int) ≤ 16) && nets.all fun c => Ax.Ad.mayX c.1 c.2) = r3 at *
    generalize uniq (fun p => p) nets = r4 at *
    generalize (decide ((nbs.length : Int) ≤ 16) && nbs.all (fun a => nmOk a.name && nbOk a) && uniq Nb.name nbs) = r5 at *
    generalize (decide ((links.length : Int) ≤ 16) && links.all (fun a => nmOk a.name && lkOk a) && uniq Lk.name links) = r6 at *
    generalize nets.length = na at *
    generalize nbs.length = nb at *
    generalize links.length = nl at *
    go_enter Tryz.func37, Tryz.ntmps37
    go_upto_region 1 with fail
    obtain ⟨bx, hbx⟩ : ∃ x, W.heap.size = x := ⟨_, rfl⟩
    rw [hbx] at N1 ⊢
    generalize W.alloc (.cells #[.string name, .int .i64 asn, .int .i64 id, .slice on na kn, .slice ob nb kb, .slice ol nl kl] 66) = W1 at *
    have n1 := cell_of N1.out 1 rfl
    go_wp2_with fail
    refine (C1.out _).mono ?_
    rintro e w0 ⟨rfl, rfl⟩
    clear C1 n1
    cases r1 with
    | false =>
      go_wp2_with fail
      go_ret
      exact ⟨ret_bool HE.out.symm, by first | exact B1.out | (rw [← hbx]; exact B1.out) | (rw [hbx]; exact B1.out)⟩
    | true =>
      have n2 := cell_of N1.out 2 rfl
      go_wp2_with fail
      refine (C2.out _).mono ?_
      rintro e w0 ⟨rfl, rfl⟩
      clear C2 n2
      cases r2 with
      | false =>
        go_wp2_with fail
        go_ret
        exact ⟨ret_bool HE.out.symm, by first | exact B1.out | (rw [← hbx]; exact B1.out) | (rw [hbx]; exact B1.out)⟩
      | true =>
        have n3 := cell_of N1.out 3 rfl
        go_wp2_with fail
        refine (C3.out _ B1.out).mono ?_
        rintro e w2 ⟨rfl, hb⟩
        have N2 := hide ((hb.block bx (heap_lt N1.out)).trans N1.out)
        have B2 := hide (bthen B1.out hb)
        clear hb C3 n3
        cases r3 with
        | false =>
          go_wp2_with fail
          go_ret
          exact ⟨ret_bool HE.out.symm, by first | exact B2.out | (rw [← hbx]; exact B2.out) | (rw [hbx]; exact B2.out)⟩
        | true =>
          have n3 := cell_of N2.out 3 rfl
          go_wp2_with fail
          refine (C4.out _ B2.out).mono ?_
          rintro e w3 ⟨rfl, hb⟩
          have N3 := hide ((hb.block bx (heap_lt N2.out)).trans N2.out)
          have B3 := hide (bthen B2.out hb)
          clear hb C4 n3
          cases r4 with
          | false =>
            go_wp2_with fail
            go_ret
            exact ⟨ret_bool HE.out.symm, by first | exact B3.out | (rw [← hbx]; exact B3.out) | (rw [hbx]; exact B3.out)⟩
          | true =>
            have n4 := cell_of N3.out 4 rfl
            go_wp2_with fail
            refine (C5.out _ B3.out).mono ?_
            rintro e w4 ⟨rfl, hb⟩
            have N4 := hide ((hb.block bx (heap_lt N3.out)).trans N3.out)
            have B4 := hide (bthen B3.out hb)
            clear hb C5 n4
            cases r5 with
            | false =>
              go_wp2_with fail
              go_ret
              exact ⟨ret_bool HE.out.symm, by first | exact B4.out | (rw [← hbx]; exact B4.out) | (rw [hbx]; exact B4.out)⟩
            | true =>
              have n5 := cell_of N4.out 5 rfl
              go_wp2_with fail
              refine (C6.out _ B4.out).mono ?_
              rintro e w5 ⟨rfl, hb⟩
              have N5 := hide ((hb.block bx (heap_lt N4.out)).trans N4.out)
              have B5 := hide (bthen B4.out hb)
              clear hb C6 n5
              have HR : Hid (R = r6) := by show _ = _; rw [HE.out]; cases r6 <;> rfl
              go_wp2_with fail
              go_ret
              exact ⟨ret_bool HR.out.symm, by first | exact B5.out | (rw [← hbx]; exact B5.out) | (rw [hbx]; exact B5.out)⟩
end Go.Proofs.YtpmmhmgojjlniaaGreatDoor
namespace Go.Proofs.YtpmmhmgojjlniaaGreatDoor
open Go.RowKit Go.Sort
set_option maxHeartbeats 2000000 in
set_option maxRecDepth 100000 in
theorem indexList_is {f : Nat} {caps : Array Value} {G : Ls → Prop} {p : Ls → Bool} (v : Value) (l : List Ls) (w : World) (hf : FnIs w f caps 2 LsR G p) (h : Rd w 2 LsR v l) (hg : ∀ a ∈ l, G a) (hz : l.length ≤ 100000) :
    Calls Tryz.prog 211 #[v, .func (.func f) #[] caps] w fun e w' => ∃ i : Int, e = .returned (.int .i64 i) ∧ AnyIs i (l.any p) ∧ Below w.heap.size w w' := by
  obtain ⟨ao, ca, rfl⟩ := h.slice
  have H := hide h
  have hcf := hf.enter
  have HF := hide (fun W a x hW hx hg => hf.ok W a x hW hx hg)
  have HG := hide hg
  clear h hf hg
  go_enter Tryz.func211, Tryz.ntmps211
  go_wp2_with fail
  go_loopw [8] (fun v8 wr => ∃ k : Nat, v8 = .int .i64 k ∧ k ≤ l.length ∧ Hid ((l.take k).any p = false) ∧ Hid (Below w.heap.size w wr)) (fun v8 _ => l.length - (intOf v8).toNat)
  case atStart => exact ⟨0, rfl, Nat.zero_le _, hide rfl, brefl w⟩
  case round =>
    obtain ⟨k, rfl, hk, HA, HBR⟩ := hrel
    by_cases hkl : k < l.length
    · have hkl' : (k : Int) < (l.length : Int) := by omega
      obtain ⟨b, off, xs, rfl, hbw, hx, ha⟩ := (Rd.below LsR.mono H.out HBR.out).at_ hkl
      obtain ⟨x0, x1, rfl⟩ := list2 hx.len
      have c0 := ha 0 _ rfl
      have c1 := ha 1 _ rfl
      simp only [Nat.add_zero] at c0
      clear ha
      have CP := hide (HF.out wr l[k] (.agg #[x0, x1]) HBR.out ⟨_, hx, rfl, rfl⟩ (HG.out _ (List.getElem_mem hkl)))
      have HT := hide (any_take (p := p) hkl)
      have HAT := hide (any_of_at (p := p) hkl)
      clear hx
      generalize p l[k] = r at *
      cases r with
      | true =>
        have HY := hide (HAT.out rfl)
        clear HT HAT HA
        go_wp2_with (refine CP.out.mono ?_; rintro e w1 ⟨rfl, hb1⟩)
        have B1 := hide (bthen HBR.out hb1)
        clear hb1
        go_ret
        exact ⟨_, rfl, ⟨fun _ => HY.out, fun _ => Int.natCast_nonneg _⟩, B1.out⟩
      | false =>
        have HN : Hid ((l.take (k + 1)).any p = false) := by show _ = _; rw [HT.out, HA.out]; rfl
        clear HT HAT HA
        go_wp2_with (refine CP.out.mono ?_; rintro e w1 ⟨rfl, hb1⟩)
        have B1 := hide (bthen HBR.out hb1)
        clear hb1
        exact ⟨⟨k + 1, by go_num, by omega, HN, B1⟩, by simp [intOf] <;> omega⟩
    · have hkl' : ¬ (k : Int) < (l.length : Int) := by omega
      have HN : Hid (l.any p = false) := by
        have h := HA.out
        rw [List.take_of_length_le (by omega)] at h
        exact h
      clear HA
      go_wp2_with fail
      go_ret
      exact ⟨-1, rfl, ⟨fun h => absurd h (by decide), fun h => by rw [HN.out] at h; cases h⟩, HBR.out⟩
theorem containsList_is {f : Nat} {caps : Array Value} {G : Ls → Prop} {p : Ls → Bool} (v : Value) (l : List Ls) (w : World) (hf : FnIs w f caps 2 LsR G p) (h : Rd w 2 LsR v l) (hg : ∀ a ∈ l, G a) (hz : l.length ≤ 100000) :
    Calls Tryz.prog 143 #[v, .func (.func f) #[] caps] w fun e w' => e = .returned (.bool (l.any p)) ∧ Below w.heap.size w w' := by
  have C := hide (indexList_is v l w hf h hg hz)
  obtain ⟨ao, ca, rfl⟩ := h.slice
  clear hf h hg
  go_enter Tryz.func143, Tryz.ntmps143
  go_wp2_with fail
  refine C.out.mono ?_
  rintro e w1 ⟨i, rfl, hi, hb⟩
  go_wp2_with fail
  go_ret
  refine ⟨ret_bool ?_, hb⟩
  by_cases h0 : 0 ≤ i
  · rw [hi.1 h0]; simpa using h0
  · have : l.any p = false := by
      cases ha : l.any p with
      | false => rfl
      | true => exact absurd (hi.2 ha) h0
    rw [this]
    simpa using h0
set_option maxRecDepth 100000 in
theorem notMayList_is {f : Nat} {caps : Array Value} {G : Ls → Prop} {p : Ls → Bool} {W0 : World} {bm : Nat} (hf : FnIs W0 f caps 2 LsR G p) (hm : W0.cell? ⟨bm, 0, none⟩ = some (.func (.func f) #[] caps)) :
    FnIs W0 142 #[.pointer (some ⟨bm, 0, none⟩)] 2 LsR G (fun x => !p x) where
  enter := fun args w => by go_simp
  ok := fun W a x hW hx hga => by
    have hbm := World.block_lt_of_cell? W0 _ hm
    have hxw := hx
    obtain ⟨xs, h1, h2, rfl⟩ := hx
    obtain ⟨x0, x1, rfl⟩ := list2 h2
    have A1 := balloc (brefl W) (.cells #[x0, x1] 48)
    have hm1 := (A1.cell (p := ⟨bm, 0, none⟩) (Nat.lt_of_lt_of_le hbm hW.size)).trans ((hW.cell (p := ⟨bm, 0, none⟩) hbm).trans hm)
    have C := hide (hf.ok (W.alloc (.cells #[x0, x1] 48)) a _ (bthen hW A1) (VR.mono LsR.mono hxw A1) hga)
    have hcf := hf.enter
    have B1 := hide A1
    clear hf hm hW hga hxw h1 h2 A1
    go_enter Tryz.func142, Tryz.ntmps142
    go_wp2_with (refine C.out.mono ?_; rintro e w1 ⟨rfl, hb1⟩)
    have B2 := hide (bthen B1.out hb1)
    clear hb1
    go_ret
    exact ⟨rfl, B2.out⟩
set_option maxRecDepth 100000 in
theorem fewList_is {f : Nat} {caps : Array Value} {G : Ls → Prop} {p : Ls → Bool} (v : Value) (l : List Ls) (most : Int) (w : World) (hf : FnIs w f caps 2 LsR G p) (h : Rd w 2 LsR v l) (hg : ∀ a ∈ l, G a) (hz : l.length ≤ 100000) :
    Calls Tryz.prog 71 #[v, .int .i64 most, .func (.func f) #[] caps] w fun e w' => e = .returned (.bool (decide ((l.length : Int) ≤ most) && l.all p)) ∧ Below w.heap.size w w' := by
  have A1 := balloc (brefl w) (.cells #[.func (.func f) #[] caps] 86)
  have hm : (w.alloc (.cells #[.func (.func f) #[] caps] 86)).cell? ⟨w.heap.size, 0, none⟩ = some (.func (.func f) #[] caps) := cell_of (heap_new w _ _) 0 rfl
  have C := hide (containsList_is v l (w.alloc (.cells #[.func (.func f) #[] caps] 86)) (notMayList_is (hf.from A1) hm) (h.below LsR.mono A1) hg hz)
  have B1 := hide A1
  obtain ⟨ao, ca, rfl⟩ := h.slice
  clear hf h hg A1 hm
  have HQ : Hid (l.all p = !(l.any fun x => !p x)) := by show _ = _; rw [List.not_any_eq_all_not]; simp
  by_cases hl : (l.length : Int) ≤ most
  · go_enter Tryz.func71, Tryz.ntmps71
    go_wp2_with (refine C.out.mono ?_; rintro e w1 ⟨rfl, hb1⟩)
    have B2 := hide (bthen B1.out hb1)
    clear hb1
    go_ret
    refine ⟨ret_bool ?_, B2.out⟩
    rw [decide_eq_true hl, HQ.out]
    rfl
  · have HL := hide hl
    go_enter Tryz.func71, Tryz.ntmps71
    go_wp2_with fail
    go_ret
    refine ⟨ret_bool ?_, B1.out⟩
    rw [decide_eq_false (Int.not_le.2 HL.out)]
    rfl
end Go.Proofs.YtpmmhmgojjlniaaGreatDoor
namespace Go.Proofs.YtpmmhmgojjlniaaGreatDoor
open Go.RowKit Go.Sort
set_option maxHeartbeats 2000000 in
set_option maxRecDepth 100000 in
theorem likeList_is {f : Nat} {caps : Array Value} {G : Ls → Prop} {key : Ls → ByteArray} {W0 : World} {bk bx : Nat} {x : Ls} {xs : List Value} (hf : FnKey W0 f caps 2 LsR G key) (hk : W0.cell? ⟨bk, 0, none⟩ = some (.func (.func f) #[] caps)) (hx : LsR W0 x xs) (hgx : G x) (hb : ∀ i u, xs[i]? = some u → W0.cell? ⟨bx, i, none⟩ = some u) :
    FnIs W0 144 #[.pointer (some ⟨bk, 0, none⟩), .pointer (some ⟨bx, 0, none⟩)] 2 LsR G (fun y => decide (key x = key y)) where
  enter := fun args w => by go_simp
  ok := fun W a y hW hy hga => by
    have hbm := World.block_lt_of_cell? W0 _ hk
    obtain ⟨x0, x1, rfl⟩ := list2 hx.len
    have hbx := World.block_lt_of_cell? W0 _ (hb 0 _ rfl)
    have hyw := hy
    obtain ⟨ys, h1, h2, rfl⟩ := hy
    obtain ⟨y0, y1, rfl⟩ := list2 h2
    have A1 := balloc (brefl W) (.cells #[y0, y1] 48)
    have hWA := bthen hW A1
    have hk1 := (hWA.cell (p := ⟨bk, 0, none⟩) hbm).trans hk
    have d0 := (hWA.cell (p := ⟨bx, 0, none⟩) hbx).trans (hb 0 _ rfl)
    have d1 := (hWA.cell (p := ⟨bx, 1, none⟩) hbx).trans (hb 1 _ rfl)
    have NW := heap_new W #[y0, y1] 48
    have e0 := cell_of NW 0 rfl
    have e1 := cell_of NW 1 rfl
    have hxv : ∀ d os, VR 2 LsR (Sort.grow (redrawn (W.alloc (.cells #[y0, y1] 48)) d) os) x (.agg #[x0, x1]) := fun d os => VR.mono LsR.mono ⟨_, hx, rfl, rfl⟩ (grown_below2 hWA hWA.size d os)
    have hyv : ∀ d os, VR 2 LsR (Sort.grow (redrawn (W.alloc (.cells #[y0, y1] 48)) d) os) a (.agg #[y0, y1]) := fun d os => VR.mono LsR.mono ⟨_, h1, rfl, rfl⟩ (grown_below2 A1 A1.size d os)
    have CX := hide (fun d os => hf.ok (Sort.grow (redrawn (W.alloc (.cells #[y0, y1] 48)) d) os) x (.agg #[x0, x1]) (grown_below2 hWA hWA.size d os) (hxv d os) hgx)
    have CY := hide (fun d os => hf.ok (Sort.grow (redrawn (W.alloc (.cells #[y0, y1] 48)) d) os) a (.agg #[y0, y1]) (grown_below2 hWA hWA.size d os) (hyv d os) hga)
    have hcf := hf.enter
    have B1 := hide A1
    clear hf hk hb hx hgx hga hW hyw h1 h2 A1 hWA hxv hyv NW
    generalize key x = kx at *
    generalize key a = ky at *
    go_enter Tryz.func144, Tryz.ntmps144
    go_upto_region 1 with fail
    generalize hRW : W.heap.size = RW at *
    generalize W.alloc (.cells #[y0, y1] 48) = W1 at *
    have rhk1 := fun dd os => cell_regrown hk1 dd os
    have rd0 := fun dd os => cell_regrown d0 dd os
    have rd1 := fun dd os => cell_regrown d1 dd os
    have re0 := fun dd os => cell_regrown e0 dd os
    have re1 := fun dd os => cell_regrown e1 dd os
    refine wp_region_quiet_below (by kernel_rfl) (by kernel_rfl) ?_
    repeat (go_big_quiet_step (first | exact Calls.regrown_of (CX.out _ _) | exact Calls.regrown_of (CY.out _ _)))
    refine wpQuiet_nil ?_
    rintro _ ⟨⟨dd, os⟩, rfl⟩
    have hb1 := below_regrown W1 dd os
    generalize Sort.grow (redrawn W1 dd) os = w2 at hb1
    have B2 := hide (B1.out.trans ⟨hb1.os, hb1.tape, hb1.output, hb1.size, fun k hk => hb1.block k (Nat.lt_of_lt_of_le hk (hRW ▸ B1.out.size))⟩)
    clear hb1 rhk1 rd0 rd1 re0 re1
    go_wp2_with fail
    go_ret
    refine ⟨ret_bool ?_, by first | exact B2.out | (rw [hRW]; exact B2.out)⟩
    exact beq_tl kx ky
set_option maxHeartbeats 2000000 in
set_option maxRecDepth 100000 in
theorem unlikeList_is {f : Nat} {caps : Array Value} {G : Ls → Prop} {key : Ls → ByteArray} (v : Value) (l : List Ls) (w : World) (hf : FnKey w f caps 2 LsR G key) (h : Rd w 2 LsR v l) (hg : ∀ a ∈ l, G a) (hz : l.length ≤ 100000) :
    Calls Tryz.prog 72 #[v, .func (.func f) #[] caps] w fun e w' => e = .returned (.bool (uniq key l)) ∧ Below w.heap.size w w' := by
  have A1 := balloc (brefl w) (.cells #[.func (.func f) #[] caps] 85)
  have HM := hide (cell_of (heap_new w #[.func (.func f) #[] caps] 85) 0 rfl)
  have HLT : Hid (w.heap.size < (w.alloc (.cells #[.func (.func f) #[] caps] 85)).heap.size) := by show _ < _; simp
  have H := hide (h.below LsR.mono A1)
  have HF := hide (hf.from A1)
  have B1 := hide A1
  have HG := hide hg
  obtain ⟨ao, ca, rfl⟩ := h.slice
  have HCA := hide h.cap
  clear h hf hg A1
  go_enter Tryz.func72, Tryz.ntmps72
  go_upto_region 1 with fail
  obtain ⟨bk, hbk⟩ : ∃ x, w.heap.size = x := ⟨_, rfl⟩
  rw [hbk] at HM HLT ⊢
  generalize w.alloc (.cells #[.func (.func f) #[] caps] 85) = W1 at *
  go_wp2_with fail
  go_loopw [10] (fun v10 wr => ∃ k : Nat, v10 = .int .i64 k ∧ k ≤ l.length ∧ Hid (uniqTo key l k) ∧ Hid (Below W1.heap.size W1 wr)) (fun v10 _ => l.length - (intOf v10).toNat)
  case atStart => exact ⟨0, rfl, Nat.zero_le _, hide (fun _ _ h => absurd h (Nat.not_lt_zero _)), brefl W1⟩
  case round =>
    obtain ⟨k, rfl, hk, HU, HBR⟩ := hrel
    by_cases hkl : k < l.length
    · have hkl' : (k : Int) < (l.length : Int) := by omega
      obtain ⟨b, off, xs, rfl, hbw, hx, ha⟩ := (Rd.below LsR.mono H.out HBR.out).at_ hkl
      have hx0 := hx
      obtain ⟨v1, rfl, hw1⟩ := hx
      obtain ⟨o1, c1, rfl⟩ := hw1.slice
      clear hw1
      have e0 := ha 0 _ rfl
      have e1 := ha 1 _ rfl
      simp only [Nat.add_zero] at e0
      clear ha
      have A2 := balloc (brefl wr) (.cells #[.string l[k].name, .slice o1 l[k].rules.length c1] 48)
      have N2 := heap_new wr #[.string l[k].name, .slice o1 l[k].rules.length c1] 48
      have B2 := hide (bthen HBR.out A2)
      have C := hide (containsList_is (.slice (some ⟨b, off, none⟩) k ca) (l.take k) (wr.alloc (.cells #[.string l[k].name, .slice o1 l[k].rules.length c1] 48)) (likeList_is (x := l[k]) (xs := [.string l[k].name, .slice o1 l[k].rules.length c1]) (bk := bk) (bx := wr.heap.size) (HF.out.from B2.out) ((B2.out.cell (p := ⟨bk, 0, none⟩) HLT.out).trans HM.out) (LsR.mono _ _ _ _ A2 hx0) (HG.out _ (List.getElem_mem hkl)) (fun i u hu => cell_of N2 i (by simpa using hu))) (Rd.take (H.out.below LsR.mono B2.out) k hk) (fun a ha => HG.out a (List.mem_of_mem_take ha)) (Nat.le_trans (List.length_take_le ..) (by omega)))
      have HN := hide (fun (h : (l.take k).any (fun y => decide (key l[k] = key y)) = true) => uniq_not key l k hkl h)
      have HS : Hid ((l.take k).any (fun y => decide (key l[k] = key y)) = false → uniqTo key l (k + 1)) := fun h i hi hik => by
        rcases Nat.lt_or_ge i k with h1 | h1
        · exact HU.out i hi h1
        · obtain rfl : i = k := by omega
          exact h
      generalize (l.take k).any (fun y => decide (key l[k] = key y)) = r at *
      have hca := HCA.out
      have hkc : k ≤ ca := by omega
      clear hx0 A2 N2 hca
      go_wp2_with fail
      refine C.out.mono ?_
      rintro e w3 ⟨rfl, hb3⟩
      have B3 := hide (bthen B2.out hb3)
      clear hb3 C
      cases r with
      | true =>
        have HN2 := hide (HN.out rfl)
        clear HN HS
        go_wp2_with fail
        go_ret
        refine ⟨ret_bool HN2.out.symm, ?_⟩
        have h1 := bthen B1.out B3.out
        first | exact h1 | (rw [← hbk]; exact h1)
      | false =>
        have HS2 := hide (HS.out rfl)
        clear HN HS
        go_wp2_with fail
        exact ⟨⟨k + 1, by go_num, by omega, HS2, B3⟩, by simp [intOf] <;> omega⟩
    · have hkl' : ¬ (k : Int) < (l.length : Int) := by omega
      have HY : Hid (uniq key l = true) := uniq_all key l (by rw [show l.length = k by omega]; exact HU.out)
      have hkk : k = l.length := by omega
      clear HU
      go_wp2_with fail
      go_ret
      refine ⟨ret_bool HY.out.symm, ?_⟩
      have h1 := bthen B1.out HBR.out
      first | exact h1 | (rw [← hbk]; exact h1)
end Go.Proofs.YtpmmhmgojjlniaaGreatDoor
namespace Go.Proofs.YtpmmhmgojjlniaaGreatDoor
open Go.RowKit Go.Sort
set_option maxHeartbeats 2000000 in
set_option maxRecDepth 100000 in
theorem bothList_is {fk fm : Nat} {ck cm : Array Value} {G : Ls → Prop} {key : Ls → ByteArray} {may : Ls → Bool} {W0 : World} {bn bm : Nat} (hk : FnKey W0 fk ck 2 LsR G key) (hm : FnIs W0 fm cm 2 LsR G may) (hs : ∀ a, G a → (key a).size ≤ 1000) (h1 : W0.cell? ⟨bn, 0, none⟩ = some (.func (.func fk) #[] ck)) (h2 : W0.cell? ⟨bm, 0, none⟩ = some (.func (.func fm) #[] cm)) :
    FnIs W0 69 #[.pointer (some ⟨bn, 0, none⟩), .pointer (some ⟨bm, 0, none⟩)] 2 LsR G (fun a => nmOk (key a) && may a) where
  enter := fun args w => by go_simp
  ok := fun W a y hW hy hga => by
    have hbn := World.block_lt_of_cell? W0 _ h1
    have hbm := World.block_lt_of_cell? W0 _ h2
    have hyw := hy
    obtain ⟨ys, k1, k2, rfl⟩ := hy
    obtain ⟨x0, x1, rfl⟩ := list2 k2
    have A1 := balloc (brefl W) (.cells #[x0, x1] 48)
    have hWA := bthen hW A1
    have c1 := (hWA.cell (p := ⟨bn, 0, none⟩) hbn).trans h1
    have HC2 := hide ((hWA.cell (p := ⟨bm, 0, none⟩) hbm).trans h2)
    have HLM : Hid (bm < (W.alloc (.cells #[x0, x1] 48)).heap.size) := Nat.lt_of_lt_of_le hbm hWA.size
    have HNW := hide (heap_new W #[x0, x1] 48)
    have HVA := hide (VR.mono LsR.mono hyw A1)
    have CK := hide (hk.ok (W.alloc (.cells #[x0, x1] 48)) a _ hWA HVA.out hga)
    have HM := hide (fun W2 x (hb : Below (W.alloc (.cells #[x0, x1] 48)).heap.size (W.alloc (.cells #[x0, x1] 48)) W2) (hv : VR 2 LsR W2 a x) => hm.ok W2 a x (bthen hWA hb) hv hga)
    have CN := hide (fun W2 => cfgName_is (key a) (hs a hga) W2)
    have hcf := hk.enter
    have hcg := hm.enter
    have B1 := hide A1
    clear hk hm hs h1 h2 hW hyw hga k1 k2 A1 hWA
    generalize nmOk (key a) = r1 at *
    generalize key a = ky at *
    generalize may a = r2 at *
    go_enter Tryz.func69, Tryz.ntmps69
    go_upto_region 1 with fail
    generalize hRW : W.heap.size = RW at *
    generalize W.alloc (.cells #[x0, x1] 48) = W1 at *
    have e0 := cell_of HNW.out 0 rfl
    have e1 := cell_of HNW.out 1 rfl
    go_wp2_with fail
    refine CK.out.mono ?_
    rintro e w2 ⟨rfl, hb2⟩
    clear CK
    go_wp2_with fail
    refine (CN.out w2).mono ?_
    rintro e w3 ⟨rfl, hb3⟩
    have hb13 := bthen hb2 hb3
    have B3 := hide (B1.out.trans ⟨hb13.os, hb13.tape, hb13.output, hb13.size, fun k hk => hb13.block k (Nat.lt_of_lt_of_le hk (hRW ▸ B1.out.size))⟩)
    have c2 := (hb13.cell (p := ⟨bm, 0, none⟩) HLM.out).trans HC2.out
    have g0 := (hb13.cell (p := ⟨RW, 0, none⟩) (World.block_lt_of_cell? _ _ e0)).trans e0
    have g1 := (hb13.cell (p := ⟨RW, 1, none⟩) (World.block_lt_of_cell? _ _ e1)).trans e1
    have CM := hide (HM.out w3 _ hb13 (VR.mono LsR.mono HVA.out hb13))
    clear CN HM HVA HC2 hb2 hb3 hb13 e0 e1 c1
    cases r1 with
    | false =>
      go_wp2_with fail
      go_ret
      exact ⟨rfl, by first | exact B3.out | (rw [← hRW]; exact B3.out) | (rw [hRW]; exact B3.out)⟩
    | true =>
      go_wp2_with fail
      refine CM.out.mono ?_
      rintro e w4 ⟨rfl, hb4⟩
      have B4 := hide (B3.out.trans ⟨hb4.os, hb4.tape, hb4.output, hb4.size, fun k hk => hb4.block k (Nat.lt_of_lt_of_le hk (hRW ▸ B3.out.size))⟩)
      clear hb4 CM
      go_wp2_with fail
      go_ret
      exact ⟨rfl, by first | exact B4.out | (rw [← hRW]; exact B4.out) | (rw [hRW]; exact B4.out)⟩
set_option maxHeartbeats 2000000 in
set_option maxRecDepth 100000 in
theorem namedList_is {fk fm : Nat} {ck cm : Array Value} {G : Ls → Prop} {key : Ls → ByteArray} {may : Ls → Bool} (v : Value) (l : List Ls) (most : Int) (w : World) (hk : FnKey w fk ck 2 LsR G key) (hm : FnIs w fm cm 2 LsR G may) (hs : ∀ a, G a → (key a).size ≤ 1000) (h : Rd w 2 LsR v l) (hg : ∀ a ∈ l, G a) (hz : l.length ≤ 100000) :
    Calls Tryz.prog 29 #[v, .int .i64 most, .func (.func fk) #[] ck, .func (.func fm) #[] cm] w fun e w' => e = .returned (.bool (decide ((l.length : Int) ≤ most) && l.all (fun a => nmOk (key a) && may a) && uniq key l)) ∧ Below w.heap.size w w' := by
  have A1 := balloc (balloc (brefl w) (.cells #[.func (.func fk) #[] ck] 85)) (.cells #[.func (.func fm) #[] cm] 86)
  have e1 := cell_of (((balloc (brefl (w.alloc (.cells #[.func (.func fk) #[] ck] 85))) (.cells #[.func (.func fm) #[] cm] 86)).block w.heap.size (by rw [size_alloc]; omega)).trans (heap_new w #[.func (.func fk) #[] ck] 85)) 0 rfl
  have e2 := cell_of (heap_new (w.alloc (.cells #[.func (.func fk) #[] ck] 85)) #[.func (.func fm) #[] cm] 86) 0 rfl
  rw [size_alloc] at e2
  have hv := h.below LsR.mono A1
  have CF := hide (fewList_is v l most _ (bothList_is (hk.from A1) (hm.from A1) hs e1 e2) hv hg hz)
  have CU := hide (fun W2 (hb : Below ((w.alloc (.cells #[.func (.func fk) #[] ck] 85)).alloc (.cells #[.func (.func fm) #[] cm] 86)).heap.size ((w.alloc (.cells #[.func (.func fk) #[] ck] 85)).alloc (.cells #[.func (.func fm) #[] cm] 86)) W2) => unlikeList_is v l W2 ((hk.from A1).from hb) (hv.below LsR.mono hb) hg hz)
  have HE1 := hide e1
  have HL1 : Hid (w.heap.size < ((w.alloc (.cells #[.func (.func fk) #[] ck] 85)).alloc (.cells #[.func (.func fm) #[] cm] 86)).heap.size) := by show _ < _; simp; omega
  have B1 := hide A1
  clear hk hm hs h hg hz A1 e1 e2 hv
  generalize uniq key l = r2 at *
  generalize (decide ((l.length : Int) ≤ most) && l.all (fun a => nmOk (key a) && may a)) = r1 at *
  go_enter Tryz.func29, Tryz.ntmps29
  go_upto_region 2 with fail
  obtain ⟨bk, hbk⟩ : ∃ x, w.heap.size = x := ⟨_, rfl⟩
  rw [hbk] at HE1 HL1
  generalize (w.alloc (.cells #[.func (.func fk) #[] ck] 85)).alloc (.cells #[.func (.func fm) #[] cm] 86) = W1 at *
  try rw [hbk]
  try rw [hbk] at CF
  go_wp2_with fail
  refine CF.out.mono ?_
  rintro e w2 ⟨rfl, hb2⟩
  have B2 := hide (bthen B1.out hb2)
  have a0 := (hb2.cell (p := ⟨bk, 0, none⟩) HL1.out).trans HE1.out
  have CU2 := hide (CU.out w2 hb2)
  clear CF CU hb2
  cases r1 with
  | false =>
    go_wp2_with fail
    go_ret
    exact ⟨rfl, by first | exact B2.out | (rw [← hbk]; exact B2.out) | (rw [hbk]; exact B2.out)⟩
  | true =>
    go_wp2_with fail
    refine CU2.out.mono ?_
    rintro e w3 ⟨rfl, hb3⟩
    have B3 := hide (bthen B2.out hb3)
    clear hb3 CU2
    go_wp2_with fail
    go_ret
    exact ⟨rfl, by first | exact B3.out | (rw [← hbk]; exact B3.out) | (rw [hbk]; exact B3.out)⟩
end Go.Proofs.YtpmmhmgojjlniaaGreatDoor
namespace Go.Proofs.YtpmmhmgojjlniaaGreatDoor
open Go.RowKit Go.Sort
set_option maxHeartbeats 2000000 in
set_option maxRecDepth 100000 in
theorem indexMap_is {f : Nat} {caps : Array Value} {G : Mp → Prop} {p : Mp → Bool} (v : Value) (l : List Mp) (w : World) (hf : FnIs w f caps 2 MpR G p) (h : Rd w 2 MpR v l) (hg : ∀ a ∈ l, G a) (hz : l.length ≤ 100000) :
    Calls Tryz.prog 212 #[v, .func (.func f) #[] caps] w fun e w' => ∃ i : Int, e = .returned (.int .i64 i) ∧ AnyIs i (l.any p) ∧ Below w.heap.size w w' := by
  obtain ⟨ao, ca, rfl⟩ := h.slice
  have H := hide h
  have hcf := hf.enter
  have HF := hide (fun W a x hW hx hg => hf.ok W a x hW hx hg)
  have HG := hide hg
  clear h hf hg
  go_enter Tryz.func212, Tryz.ntmps212
  go_wp2_with fail
  go_loopw [8] (fun v8 wr => ∃ k : Nat, v8 = .int .i64 k ∧ k ≤ l.length ∧ Hid ((l.take k).any p = false) ∧ Hid (Below w.heap.size w wr)) (fun v8 _ => l.length - (intOf v8).toNat)
  case atStart => exact ⟨0, rfl, Nat.zero_le _, hide rfl, brefl w⟩
  case round =>
    obtain ⟨k, rfl, hk, HA, HBR⟩ := hrel
    by_cases hkl : k < l.length
    · have hkl' : (k : Int) < (l.length : Int) := by omega
      obtain ⟨b, off, xs, rfl, hbw, hx, ha⟩ := (Rd.below MpR.mono H.out HBR.out).at_ hkl
      obtain ⟨x0, x1, rfl⟩ := list2 hx.len
      have c0 := ha 0 _ rfl
      have c1 := ha 1 _ rfl
      simp only [Nat.add_zero] at c0
      clear ha
      have CP := hide (HF.out wr l[k] (.agg #[x0, x1]) HBR.out ⟨_, hx, rfl, rfl⟩ (HG.out _ (List.getElem_mem hkl)))
      have HT := hide (any_take (p := p) hkl)
      have HAT := hide (any_of_at (p := p) hkl)
      clear hx
      generalize p l[k] = r at *
      cases r with
      | true =>
        have HY := hide (HAT.out rfl)
        clear HT HAT HA
        go_wp2_with (refine CP.out.mono ?_; rintro e w1 ⟨rfl, hb1⟩)
        have B1 := hide (bthen HBR.out hb1)
        clear hb1
        go_ret
        exact ⟨_, rfl, ⟨fun _ => HY.out, fun _ => Int.natCast_nonneg _⟩, B1.out⟩
      | false =>
        have HN : Hid ((l.take (k + 1)).any p = false) := by show _ = _; rw [HT.out, HA.out]; rfl
        clear HT HAT HA
        go_wp2_with (refine CP.out.mono ?_; rintro e w1 ⟨rfl, hb1⟩)
        have B1 := hide (bthen HBR.out hb1)
        clear hb1
        exact ⟨⟨k + 1, by go_num, by omega, HN, B1⟩, by simp [intOf] <;> omega⟩
    · have hkl' : ¬ (k : Int) < (l.length : Int) := by omega
      have HN : Hid (l.any p = false) := by
        have h := HA.out
        rw [List.take_of_length_le (by omega)] at h
        exact h
      clear HA
      go_wp2_with fail
      go_ret
      exact ⟨-1, rfl, ⟨fun h => absurd h (by decide), fun h => by rw [HN.out] at h; cases h⟩, HBR.out⟩
theorem containsMap_is {f : Nat} {caps : Array Value} {G : Mp → Prop} {p : Mp → Bool} (v : Value) (l : List Mp) (w : World) (hf : FnIs w f caps 2 MpR G p) (h : Rd w 2 MpR v l) (hg : ∀ a ∈ l, G a) (hz : l.length ≤ 100000) :
    Calls Tryz.prog 147 #[v, .func (.func f) #[] caps] w fun e w' => e = .returned (.bool (l.any p)) ∧ Below w.heap.size w w' := by
  have C := hide (indexMap_is v l w hf h hg hz)
  obtain ⟨ao, ca, rfl⟩ := h.slice
  clear hf h hg
  go_enter Tryz.func147, Tryz.ntmps147
  go_wp2_with fail
  refine C.out.mono ?_
  rintro e w1 ⟨i, rfl, hi, hb⟩
  go_wp2_with fail
  go_ret
  refine ⟨ret_bool ?_, hb⟩
  by_cases h0 : 0 ≤ i
  · rw [hi.1 h0]; simpa using h0
  · have : l.any p = false := by
      cases ha : l.any p with
      | false => rfl
      | true => exact absurd (hi.2 ha) h0
    rw [this]
    simpa using h0
set_option maxRecDepth 100000 in
theorem notMayMap_is {f : Nat} {caps : Array Value} {G : Mp → Prop} {p : Mp → Bool} {W0 : World} {bm : Nat} (hf : FnIs W0 f caps 2 MpR G p) (hm : W0.cell? ⟨bm, 0, none⟩ = some (.func (.func f) #[] caps)) :
    FnIs W0 146 #[.pointer (some ⟨bm, 0, none⟩)] 2 MpR G (fun x => !p x) where
  enter := fun args w => by go_simp
  ok := fun W a x hW hx hga => by
    have hbm := World.block_lt_of_cell? W0 _ hm
    have hxw := hx
    obtain ⟨xs, h1, h2, rfl⟩ := hx
    obtain ⟨x0, x1, rfl⟩ := list2 h2
    have A1 := balloc (brefl W) (.cells #[x0, x1] 51)
    have hm1 := (A1.cell (p := ⟨bm, 0, none⟩) (Nat.lt_of_lt_of_le hbm hW.size)).trans ((hW.cell (p := ⟨bm, 0, none⟩) hbm).trans hm)
    have C := hide (hf.ok (W.alloc (.cells #[x0, x1] 51)) a _ (bthen hW A1) (VR.mono MpR.mono hxw A1) hga)
    have hcf := hf.enter
    have B1 := hide A1
    clear hf hm hW hga hxw h1 h2 A1
    go_enter Tryz.func146, Tryz.ntmps146
    go_wp2_with (refine C.out.mono ?_; rintro e w1 ⟨rfl, hb1⟩)
    have B2 := hide (bthen B1.out hb1)
    clear hb1
    go_ret
    exact ⟨rfl, B2.out⟩
set_option maxRecDepth 100000 in
theorem fewMap_is {f : Nat} {caps : Array Value} {G : Mp → Prop} {p : Mp → Bool} (v : Value) (l : List Mp) (most : Int) (w : World) (hf : FnIs w f caps 2 MpR G p) (h : Rd w 2 MpR v l) (hg : ∀ a ∈ l, G a) (hz : l.length ≤ 100000) :
    Calls Tryz.prog 75 #[v, .int .i64 most, .func (.func f) #[] caps] w fun e w' => e = .returned (.bool (decide ((l.length : Int) ≤ most) && l.all p)) ∧ Below w.heap.size w w' := by
  have A1 := balloc (brefl w) (.cells #[.func (.func f) #[] caps] 89)
  have hm : (w.alloc (.cells #[.func (.func f) #[] caps] 89)).cell? ⟨w.heap.size, 0, none⟩ = some (.func (.func f) #[] caps) := cell_of (heap_new w _ _) 0 rfl
  have C := hide (containsMap_is v l (w.alloc (.cells #[.func (.func f) #[] caps] 89)) (notMayMap_is (hf.from A1) hm) (h.below MpR.mono A1) hg hz)
  have B1 := hide A1
  obtain ⟨ao, ca, rfl⟩ := h.slice
  clear hf h hg A1 hm
  have HQ : Hid (l.all p = !(l.any fun x => !p x)) := by show _ = _; rw [List.not_any_eq_all_not]; simp
  by_cases hl : (l.length : Int) ≤ most
  · go_enter Tryz.func75, Tryz.ntmps75
    go_wp2_with (refine C.out.mono ?_; rintro e w1 ⟨rfl, hb1⟩)
    have B2 := hide (bthen B1.out hb1)
    clear hb1
    go_ret
    refine ⟨ret_bool ?_, B2.out⟩
    rw [decide_eq_true hl, HQ.out]
    rfl
  · have HL := hide hl
    go_enter Tryz.func75, Tryz.ntmps75
    go_wp2_with fail
    go_ret
    refine ⟨ret_bool ?_, B1.out⟩
    rw [decide_eq_false (Int.not_le.2 HL.out)]
    rfl
end Go.Proofs.YtpmmhmgojjlniaaGreatDoor
