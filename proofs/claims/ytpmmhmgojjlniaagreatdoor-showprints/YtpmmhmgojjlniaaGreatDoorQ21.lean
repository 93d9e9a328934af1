/- show.named, over Router. -/
import Derived.Test.YtpmmhmgojjlniaaGreatDoorQ01
import Derived.Test.YtpmmhmgojjlniaaGreatDoorQ03
import Derived.Test.YtpmmhmgojjlniaaGreatDoorQ04
import Derived.Test.YtpmmhmgojjlniaaGreatDoorQ05
import Derived.Test.YtpmmhmgojjlniaaGreatDoorQ16
import Derived.Test.YtpmmhmgojjlniaaGreatDoorQ19
import Derived.Test.YtpmmhmgojjlniaaGreatDoorQ20
import Derived.Test.YtpmmhmgojjlniaaGreatDoorProg
import Derived.WalkKit
import Derived.WalkSpells
import Derived.WalkLawsBesides
import Derived.Deep.QuietTactic
import Derived.BigQuiet
import Derived.Lib.QuietBelow
import Derived.Deep.Cut
import Derived.Lib.Builder
import Derived.RegionTactic
import Derived.Laws.StructEq
import Derived.Sort.Grow
import Derived.Lib.ItoaLen
import Derived.Lib.AppendIntMem
import Derived.Laws.IdiomStrings
import Derived.Laws.Concat
import Derived.Lib.Join
import Derived.Deep.AppendLies
import Derived.OneCell
import Derived.Deep.MidRow
namespace Go.Proofs.YtpmmhmgojjlniaaGreatDoor
open Go.RowKit Go.Sort
set_option maxHeartbeats 2000000 in
set_option maxRecDepth 100000 in
theorem bothRouter_is {fk fm : Nat} {ck cm : Array Value} {G : Rt → Prop} {key : Rt → ByteArray} {may : Rt → Bool} {W0 : World} {bn bm : Nat} (hk : FnKey W0 fk ck 6 RtR G key) (hm : FnIs W0 fm cm 6 RtR G may) (hs : ∀ a, G a → (key a).size ≤ 1000) (h1 : W0.cell? ⟨bn, 0, none⟩ = some (.func (.func fk) #[] ck)) (h2 : W0.cell? ⟨bm, 0, none⟩ = some (.func (.func fm) #[] cm)) :
    FnIs W0 80 #[.pointer (some ⟨bn, 0, none⟩), .pointer (some ⟨bm, 0, none⟩)] 6 RtR G (fun a => nmOk (key a) && may a) where
  enter := fun args w => by go_simp
  ok := fun W a y hW hy hga => by
    have hbn := World.block_lt_of_cell? W0 _ h1
    have hbm := World.block_lt_of_cell? W0 _ h2
    have hyw := hy
    obtain ⟨ys, k1, k2, rfl⟩ := hy
    obtain ⟨x0, x1, x2, x3, x4, x5, rfl⟩ := list6 k2
    have A1 := balloc (brefl W) (.cells #[x0, x1, x2, x3, x4, x5] 66)
    have hWA := bthen hW A1
    have c1 := (hWA.cell (p := ⟨bn, 0, none⟩) hbn).trans h1
    have HC2 := hide ((hWA.cell (p := ⟨bm, 0, none⟩) hbm).trans h2)
    have HLM : Hid (bm < (W.alloc (.cells #[x0, x1, x2, x3, x4, x5] 66)).heap.size) := Nat.lt_of_lt_of_le hbm hWA.size
    have HNW := hide (heap_new W #[x0, x1, x2, x3, x4, x5] 66)
    have HVA := hide (VR.mono RtR.mono hyw A1)
    have CK := hide (hk.ok (W.alloc (.cells #[x0, x1, x2, x3, x4, x5] 66)) a _ hWA HVA.out hga)
    have HM := hide (fun W2 x (hb : Below (W.alloc (.cells #[x0, x1, x2, x3, x4, x5] 66)).heap.size (W.alloc (.cells #[x0, x1, x2, x3, x4, x5] 66)) W2) (hv : VR 6 RtR W2 a x) => hm.ok W2 a x (bthen hWA hb) hv hga)
    have CN := hide (fun W2 => cfgName_is (key a) (hs a hga) W2)
    have hcf := hk.enter
    have hcg := hm.enter
    have B1 := hide A1
    clear hk hm hs h1 h2 hW hyw hga k1 k2 A1 hWA
    generalize nmOk (key a) = r1 at *
    generalize key a = ky at *
    generalize may a = r2 at *
    go_enter Tryz.func80, Tryz.ntmps80
    go_upto_region 1 with fail
    generalize hRW : W.heap.size = RW at *
    generalize W.alloc (.cells #[x0, x1, x2, x3, x4, x5] 66) = W1 at *
    have e0 := cell_of HNW.out 0 rfl
    have e1 := cell_of HNW.out 1 rfl
    have e2 := cell_of HNW.out 2 rfl
    have e3 := cell_of HNW.out 3 rfl
    have e4 := cell_of HNW.out 4 rfl
    have e5 := cell_of HNW.out 5 rfl
    go_wp2_with fail
    refine CK.out.mono ?_
    rintro e w2 ⟨rfl, hb2⟩
    clear CK
    go_wp2_with fail
    refine (CN.out w2).mono ?_
    rintro e w3 ⟨rfl, hb3⟩
    have hb13 := bthen hb2 hb3
    have B3 := hide (B1.out.trans ⟨hb13.os, hb13.tape, hb13.output, hb13.size, fun k hk => hb13.block k (Nat.lt_of_lt_of_le hk (hRW ▸ B1.out.size))⟩)
    have c2 := (hb13.cell (p := ⟨bm, 0, none⟩) HLM.out).trans HC2.out
    have g0 := (hb13.cell (p := ⟨RW, 0, none⟩) (World.block_lt_of_cell? _ _ e0)).trans e0
    have g1 := (hb13.cell (p := ⟨RW, 1, none⟩) (World.block_lt_of_cell? _ _ e1)).trans e1
    have g2 := (hb13.cell (p := ⟨RW, 2, none⟩) (World.block_lt_of_cell? _ _ e2)).trans e2
    have g3 := (hb13.cell (p := ⟨RW, 3, none⟩) (World.block_lt_of_cell? _ _ e3)).trans e3
    have g4 := (hb13.cell (p := ⟨RW, 4, none⟩) (World.block_lt_of_cell? _ _ e4)).trans e4
    have g5 := (hb13.cell (p := ⟨RW, 5, none⟩) (World.block_lt_of_cell? _ _ e5)).trans e5
    have CM := hide (HM.out w3 _ hb13 (VR.mono RtR.mono HVA.out hb13))
    clear CN HM HVA HC2 hb2 hb3 hb13 e0 e1 e2 e3 e4 e5 c1
    cases r1 with
    | false =>
      go_wp2_with fail
      go_ret
      exact ⟨rfl, by first | exact B3.out | (rw [← hRW]; exact B3.out) | (rw [hRW]; exact B3.out)⟩
    | true =>
      go_wp2_with fail
      refine CM.out.mono ?_
      rintro e w4 ⟨rfl, hb4⟩
      have B4 := hide (B3.out.trans ⟨hb4.os, hb4.tape, hb4.output, hb4.size, fun k hk => hb4.block k (Nat.lt_of_lt_of_le hk (hRW ▸ B3.out.size))⟩)
      clear hb4 CM
      go_wp2_with fail
      go_ret
      exact ⟨rfl, by first | exact B4.out | (rw [← hRW]; exact B4.out) | (rw [hRW]; exact B4.out)⟩
set_option maxHeartbeats 2000000 in
set_option maxRecDepth 100000 in
theorem namedRouter_is {fk fm : Nat} {ck cm : Array Value} {G : Rt → Prop} {key : Rt → ByteArray} {may : Rt → Bool} (v : Value) (l : List Rt) (most : Int) (w : World) (hk : FnKey w fk ck 6 RtR G key) (hm : FnIs w fm cm 6 RtR G may) (hs : ∀ a, G a → (key a).size ≤ 1000) (h : Rd w 6 RtR v l) (hg : ∀ a ∈ l, G a) (hz : l.length ≤ 100000) :
    Calls Tryz.prog 35 #[v, .int .i64 most, .func (.func fk) #[] ck, .func (.func fm) #[] cm] w fun e w' => e = .returned (.bool (decide ((l.length : Int) ≤ most) && l.all (fun a => nmOk (key a) && may a) && uniq key l)) ∧ Below w.heap.size w w' := by
  have A1 := balloc (balloc (brefl w) (.cells #[.func (.func fk) #[] ck] 91)) (.cells #[.func (.func fm) #[] cm] 83)
  have e1 := cell_of (((balloc (brefl (w.alloc (.cells #[.func (.func fk) #[] ck] 91))) (.cells #[.func (.func fm) #[] cm] 83)).block w.heap.size (by rw [size_alloc]; omega)).trans (heap_new w #[.func (.func fk) #[] ck] 91)) 0 rfl
  have e2 := cell_of (heap_new (w.alloc (.cells #[.func (.func fk) #[] ck] 91)) #[.func (.func fm) #[] cm] 83) 0 rfl
  rw [size_alloc] at e2
  have hv := h.below RtR.mono A1
  have CF := hide (fewRouter_is v l most _ (bothRouter_is (hk.from A1) (hm.from A1) hs e1 e2) hv hg hz)
  have CU := hide (fun W2 (hb : Below ((w.alloc (.cells #[.func (.func fk) #[] ck] 91)).alloc (.cells #[.func (.func fm) #[] cm] 83)).heap.size ((w.alloc (.cells #[.func (.func fk) #[] ck] 91)).alloc (.cells #[.func (.func fm) #[] cm] 83)) W2) => unlikeRouter_is v l W2 ((hk.from A1).from hb) (hv.below RtR.mono hb) hg hz)
  have HE1 := hide e1
  have HL1 : Hid (w.heap.size < ((w.alloc (.cells #[.func (.func fk) #[] ck] 91)).alloc (.cells #[.func (.func fm) #[] cm] 83)).heap.size) := by show _ < _; simp; omega
  have B1 := hide A1
  clear hk hm hs h hg hz A1 e1 e2 hv
  generalize uniq key l = r2 at *
  generalize (decide ((l.length : Int) ≤ most) && l.all (fun a => nmOk (key a) && may a)) = r1 at *
  go_enter Tryz.func35, Tryz.ntmps35
  go_upto_region 2 with fail
  obtain ⟨bk, hbk⟩ : ∃ x, w.heap.size = x := ⟨_, rfl⟩
  rw [hbk] at HE1 HL1
  generalize (w.alloc (.cells #[.func (.func fk) #[] ck] 91)).alloc (.cells #[.func (.func fm) #[] cm] 83) = W1 at *
  try rw [hbk]
  try rw [hbk] at CF
  go_wp2_with fail
  refine CF.out.mono ?_
  rintro e w2 ⟨rfl, hb2⟩
  have B2 := hide (bthen B1.out hb2)
  have a0 := (hb2.cell (p := ⟨bk, 0, none⟩) HL1.out).trans HE1.out
  have CU2 := hide (CU.out w2 hb2)
  clear CF CU hb2
  cases r1 with
  | false =>
    go_wp2_with fail
    go_ret
    exact ⟨rfl, by first | exact B2.out | (rw [← hbk]; exact B2.out) | (rw [hbk]; exact B2.out)⟩
  | true =>
    go_wp2_with fail
    refine CU2.out.mono ?_
    rintro e w3 ⟨rfl, hb3⟩
    have B3 := hide (bthen B2.out hb3)
    clear hb3 CU2
    go_wp2_with fail
    go_ret
    exact ⟨rfl, by first | exact B3.out | (rw [← hbk]; exact B3.out) | (rw [hbk]; exact B3.out)⟩
end Go.Proofs.YtpmmhmgojjlniaaGreatDoor
namespace Go.Proofs.YtpmmhmgojjlniaaGreatDoor
open Go.RowKit Go.Sort
def GLs (l : Ls) : Prop := l.name.size ≤ 1000
/-- No text or list of a configuration is too long to be asked. -/
def GCf (c : Cf) : Prop := c.lists.length ≤ 100000 ∧ (∀ a ∈ c.lists, GLs a) ∧ c.maps.length ≤ 100000 ∧ (∀ a ∈ c.maps, GMp a) ∧ c.routers.length ≤ 100000 ∧ (∀ a ∈ c.routers, GRt a)
/-- May a configuration be so? -/
def cfOk (c : Cf) : Bool := (decide ((c.lists.length : Int) ≤ 16) && c.lists.all (fun a => nmOk a.name && rulesOk a.rules) && uniq Ls.name c.lists) && (decide ((c.maps.length : Int) ≤ 16) && c.maps.all (fun a => nmOk a.name && clsOk a.cls) && uniq Mp.name c.maps) && (decide ((c.routers.length : Int) ≤ 8) && c.routers.all (fun a => nmOk a.name && rtOk a) && uniq Rt.name c.routers)
set_option maxHeartbeats 2000000 in
set_option maxRecDepth 100000 in
theorem may_is (c : Cf) (v1 v2 v3 : Value) (W : World) (hT : Ar.Y4.Pt W) (hc : CfR W c v1 v2 v3) (hg : GCf c) : Calls Tryz.prog 12 #[.agg #[v1, v2, v3]] W fun e w' => e = .returned (.bool (cfOk c)) ∧ Below W.heap.size W w' := by
  obtain ⟨h1, h2, h3⟩ := hc
  obtain ⟨o1, k1, rfl⟩ := h1.slice
  obtain ⟨o2, k2, rfl⟩ := h2.slice
  obtain ⟨o3, k3, rfl⟩ := h3.slice
  obtain ⟨lists, maps, routers⟩ := c
  simp only at h1 h2 h3 ⊢
  obtain ⟨z1, z2, z3, z4, z5, z6⟩ := hg
  simp only at z1 z2 z3 z4 z5 z6
  have A1 := balloc (brefl W) (.cells #[.slice o1 lists.length k1, .slice o2 maps.length k2, .slice o3 routers.length k3] 26)
  have N1 := hide (heap_new W #[.slice o1 lists.length k1, .slice o2 maps.length k2, .slice o3 routers.length k3] 26)
  have C1 := hide (fun W2 (h : Below W.heap.size W W2) => namedList_is (.slice o1 lists.length k1) lists 16 W2 (listName_key W2 GLs) (listMay_fn W2 GLs) (fun _ h => h) (h1.below LsR.mono h) z2 z1)
  have C2 := hide (fun W2 (h : Below W.heap.size W W2) => namedMap_is (.slice o2 maps.length k2) maps 16 W2 (mapName_key W2 GMp) (mapMay_fn W2 (hT.on h)) (fun _ h => h.2.2) (h2.below MpR.mono h) z4 z3)
  have C3 := hide (fun W2 (h : Below W.heap.size W W2) => namedRouter_is (.slice o3 routers.length k3) routers 8 W2 (routerName_key W2 GRt) (routerMay_fn W2) (fun _ h => h.2.2.2.2.2) (h3.below RtR.mono h) z6 z5)
  have HE : Hid (cfOk ⟨lists, maps, routers⟩ = ((decide ((lists.length : Int) ≤ 16) && lists.all (fun a => nmOk a.name && rulesOk a.rules) && uniq Ls.name lists) && (decide ((maps.length : Int) ≤ 16) && maps.all (fun a => nmOk a.name && clsOk a.cls) && uniq Mp.name maps) && (decide ((routers.length : Int) ≤ 8) && routers.all (fun a => nmOk a.name && rtOk a) && uniq Rt.name routers))) := rfl
  have B1 := hide A1
  clear A1 h1 h2 h3 hT z1 z2 z3 z4 z5 z6
  generalize cfOk ⟨lists, maps, routers⟩ = R at *
  generalize (decide ((lists.length : Int) ≤ 16) && lists.all (fun a => nmOk a.name && rulesOk a.rules) && uniq Ls.name lists) = r1 at *
  generalize (decide ((maps.length : Int) ≤ 16) && maps.all (fun a => nmOk a.name && clsOk a.cls) && uniq Mp.name maps) = r2 at *
  generalize (decide ((routers.length : Int) ≤ 8) && routers.all (fun a => nmOk a.name && rtOk a) && uniq Rt.name routers) = r3 at *
  generalize lists.length = m1 at *
  generalize maps.length = m2 at *
  generalize routers.length = m3 at *
  go_enter Tryz.func12, Tryz.ntmps12
  go_upto_region 1 with fail
  obtain ⟨bx, hbx⟩ : ∃ x, W.heap.size = x := ⟨_, rfl⟩
  rw [hbx] at N1 ⊢
  generalize W.alloc (.cells #[.slice o1 m1 k1, .slice o2 m2 k2, .slice o3 m3 k3] 26) = W1 at *
  have n0 := cell_of N1.out 0 rfl
  go_wp2_with fail
  refine (C1.out _ B1.out).mono ?_
  rintro e w2 ⟨rfl, hb⟩
  have N2 := hide ((hb.block bx (heap_lt N1.out)).trans N1.out)
  have B2 := hide (bthen B1.out hb)
  clear hb C1 n0
  cases r1 with
  | false =>
    go_wp2_with fail
    go_ret
    exact ⟨ret_bool HE.out.symm, by first | exact B2.out | (rw [← hbx]; exact B2.out) | (rw [hbx]; exact B2.out)⟩
  | true =>
    have n1 := cell_of N2.out 1 rfl
    go_wp2_with fail
    refine (C2.out _ B2.out).mono ?_
    rintro e w3 ⟨rfl, hb⟩
    have N3 := hide ((hb.block bx (heap_lt N2.out)).trans N2.out)
    have B3 := hide (bthen B2.out hb)
    clear hb C2 n1
    cases r2 with
    | false =>
      go_wp2_with fail
      go_ret
      exact ⟨ret_bool HE.out.symm, by first | exact B3.out | (rw [← hbx]; exact B3.out) | (rw [hbx]; exact B3.out)⟩
    | true =>
      have n2 := cell_of N3.out 2 rfl
      go_wp2_with fail
      refine (C3.out _ B3.out).mono ?_
      rintro e w4 ⟨rfl, hb⟩
      have N4 := hide ((hb.block bx (heap_lt N3.out)).trans N3.out)
      have B4 := hide (bthen B3.out hb)
      clear hb C3 n2
      have HR : Hid (R = r3) := by show _ = _; rw [HE.out]; cases r3 <;> rfl
      go_wp2_with fail
      go_ret
      exact ⟨ret_bool HR.out.symm, by first | exact B4.out | (rw [← hbx]; exact B4.out) | (rw [hbx]; exact B4.out)⟩
end Go.Proofs.YtpmmhmgojjlniaaGreatDoor
namespace Go.Proofs.YtpmmhmgojjlniaaGreatDoor.Ar
open Go.RowKit Go.Sort
theorem refAS_is (n : Int) (r : Bool) (h : Is.as n = r) (w : World) : Calls Tryz.prog 67 #[.int .i64 n] w fun e w' => e = .returned (.bool r) ∧ w' = w := by
  cases r
  · rcases (Is.as_not n).1 h with h | h
    · have h0 : ¬ 0 < n := by omega
      clear h
      go_enter Tryz.func67, Tryz.ntmps67
      go_wp2_with fail
      go_ret
      exact ⟨rfl, rfl⟩
    · have h0 : 0 < n := by omega
      have h1 : ¬ n < 65536 := by omega
      clear h
      go_enter Tryz.func67, Tryz.ntmps67
      go_wp2_with fail
      go_ret
      exact ⟨rfl, rfl⟩
  · obtain ⟨h0, h1⟩ := (Is.as_iff n).1 h
    clear h
    go_enter Tryz.func67, Tryz.ntmps67
    go_wp2_with fail
    go_ret
    exact ⟨rfl, rfl⟩

set_option maxHeartbeats 2000000 in
theorem refMay_is (ao : Option Addr) (ca : Nat) (l : List Int) (r : Bool) (hr : Is.may l = r) (w : World) (hA : Is.slot w ao l) (h300 : l.length ≤ 300) :
    Calls Tryz.prog 66 #[.slice ao l.length ca] w fun e w' => e = .returned (.bool r) ∧ w' = w := by
  have HA := hide hA
  have HR := hide hr
  clear hA hr
  go_enter Tryz.func66, Tryz.ntmps66
  go_wp2_with fail
  go_loop [3] (fun t => ∃ k : Nat, k ≤ l.length ∧ k ≤ 16 ∧ t = .int .i64 k ∧ Hid (∀ j (h : j < l.length), j < k → Is.as l[j] = true)) (fun t => l.length - (intOf t).toNat)
  case atStart => exact ⟨0, Nat.zero_le _, by decide, rfl, hide fun j _ h => absurd h (Nat.not_lt_zero _)⟩
  case round =>
    obtain ⟨k, hk, hk16, rfl, HALL⟩ := hrel
    by_cases hlt : k < l.length
    · have hlt' : (k : Int) < (l.length : Int) := by omega
      by_cases h16 : k = 16
      · subst h16
        go_wp2_with fail
        go_ret
        refine ⟨ret_bool ?_, rfl⟩
        rw [← HR.out, Is.may, decide_eq_false (by omega)]
        rfl
      · have h16' : ¬ (16 : Int) ≤ (k : Int) := by omega
        obtain ⟨b, off, rfl, hrd⟩ := Is.slot_at HA.out hlt
        have e0 := hrd k hlt
        clear hrd
        cases has : Is.as l[k]
        · have CA := hide (fun W => refAS_is l[k] false has W)
          have HN : Hid (r = false) := by
            show _ = _
            rw [← HR.out]
            cases hm : Is.may l
            · rfl
            · have := ((Is.may_iff l).1 hm).2 k hlt
              rw [has] at this
              cases this
          clear has
          generalize l[k] = y at *
          go_wp2_with fail
          refine (CA.out _).mono ?_
          rintro e w2 ⟨rfl, rfl⟩
          go_wp2_with fail
          go_ret
          exact ⟨ret_bool HN.out.symm, rfl⟩
        · have CA := hide (fun W => refAS_is l[k] true has W)
          have HK : Hid (Is.as l[k] = true) := has
          clear has
          generalize hy : l[k] = y at CA e0
          clear hy
          go_wp2_with fail
          refine (CA.out _).mono ?_
          rintro e w2 ⟨rfl, rfl⟩
          go_wp2_with fail
          refine ⟨⟨k + 1, hlt, by omega, by simp, hide fun j hj hjk => ?_⟩, by simp [intOf]; omega⟩
          rcases Nat.lt_or_ge j k with h | h
          · exact HALL.out j hj h
          · obtain rfl : j = k := by omega
            exact HK.out
    · obtain rfl : k = l.length := by omega
      go_wp2_with fail
      go_ret
      refine ⟨ret_bool ?_, rfl⟩
      rw [← HR.out]
      exact ((Is.may_iff l).2 ⟨hk16, fun j hj => HALL.out j hj hj⟩).symm

end Go.Proofs.YtpmmhmgojjlniaaGreatDoor.Ar
namespace Go.Proofs.YtpmmhmgojjlniaaGreatDoor.Ar
open Go.RowKit Go.Sort
set_option maxHeartbeats 1000000 in
set_option maxRecDepth 100000 in
theorem refNumber_any (n : Int) (h0 : 0 ≤ n) (h1 : n ≤ 4294967295) (w : World) :
    Calls Tryz.prog 95 #[.int .i64 n] w fun e w' => e = .returned (.string ⟨(Lib.itoa n).toArray⟩) ∧ Below w.heap.size w w' := by
  go_enter Tryz.func95, Tryz.ntmps95
  go_wp2_with fail
  go_loopw [0, 3] (fun i s wr => ∃ (m : Int) (ds : List UInt8), 0 ≤ m ∧ m ≤ 4294967295 ∧ i = .int .i64 m ∧ s = .string ⟨ds.toArray⟩ ∧ Hid (Lib.decDigits m.toNat ++ ds = Lib.itoa n) ∧ Below w.heap.size w wr) (fun i _ _ => (intOf i).toNat)
  case atStart =>
    refine ⟨n, [], h0, h1, rfl, rfl, ?_, brefl w⟩
    show _ = _
    rw [List.append_nil]
    unfold Lib.itoa
    rw [if_neg (by omega)]
  case round =>
    obtain ⟨m, ds, hm0, hm1, rfl, rfl, HD, hb⟩ := hrel
    have hl : ds.length ≤ 21 := by
      have h1 := Lib.itoa_length_le n (by omega) (by omega)
      have h2 := congrArg List.length HD.out
      rw [List.length_append] at h2
      omega
    have hl' : 1 + ds.length ≤ 9223372036854775807 := by omega
    by_cases hlt : m < 10
    · have hone := one_byte wr (48 + m) (by omega) (by omega)
      have HE : Hid ([UInt8.ofNat (48 + m).toNat] ++ ds = Lib.itoa n) := by
        show _ = _
        rw [← HD.out, Lib.decDigits_one (by omega)]
        have e : (48 + m).toNat = 48 + m.toNat := by omega
        rw [e]
      go_wp2_with fail
      refine bodyPost_ret (v := .string ⟨(Lib.itoa n).toArray⟩) ?_ rfl ⟨rfl, balloc hb _⟩
      rw [← HE.out, ← ba_app]
      simp [results, Tryz.results95, go_sem]
    · have hone := one_byte wr (48 + m % 10) (by omega) (by omega)
      have HE : Hid (Lib.decDigits (m / 10).toNat ++ ([UInt8.ofNat (48 + m % 10).toNat] ++ ds) = Lib.itoa n) := by
        show _ = _
        rw [← HD.out]
        have e : m.toNat = 10 * (m / 10).toNat + (m % 10).toNat := by omega
        have e2 : (48 + m % 10).toNat = 48 + (m % 10).toNat := by omega
        rw [e, e2, dec_step _ _ (by omega) (by omega), List.append_assoc]
      go_wp2_with fail
      refine ⟨⟨m / 10, [UInt8.ofNat (48 + m % 10).toNat] ++ ds, by omega, by omega, rfl, ?_, HE, balloc hb _⟩, by simp [intOf]; omega⟩
      rw [← ba_app]
theorem refNumber_is (n : Int) (t : ByteArray) (h0 : 0 ≤ n) (h1 : n ≤ 65535) (ht : t = ⟨(Lib.itoa n).toArray⟩) (w : World) :
    Calls Tryz.prog 95 #[.int .i64 n] w fun e w' => e = .returned (.string t) ∧ Below w.heap.size w w' := by
  subst ht
  exact refNumber_any n h0 (by omega) w

end Go.Proofs.YtpmmhmgojjlniaaGreatDoor.Ar
namespace Go.Proofs.YtpmmhmgojjlniaaGreatDoor.Ar
open Go.RowKit Go.Sort
theorem skip_is (s : ByteArray) (hs : s.size ≤ 2000) (n : Nat) (r : Bs) (hp : Pos s n r) (m : Nat) (hm : Pos s m (Px.skip r)) (w : World) :
    Calls Tryz.prog 207 #[.string s, .int .i64 n] w fun e w' => e = .returned (.int .i64 m) ∧ w' = w := by
  have HP := hide hp
  have HM := hide hm
  clear hp hm
  go_enter Tryz.func207, Tryz.ntmps207
  go_wp2_with fail
  go_loop [1] (fun t => ∃ (k : Nat) (q : Bs), t = .int .i64 k ∧ k ≤ s.size ∧ Hid (Pos s k q) ∧ Hid (Px.skip q = Px.skip r)) (fun t => s.size - (intOf t).toNat)
  case atStart => exact ⟨n, r, rfl, HP.out.2, HP, hide rfl⟩
  case round =>
    obtain ⟨k, q, rfl, hk, HQ, HE⟩ := hrel
    cases q with
    | nil =>
      obtain rfl : k = s.size := HQ.out.nil
      obtain rfl : m = s.size := by
        have h := HM.out
        rw [← HE.out] at h
        exact h.nil
      have hn : ¬ (s.size : Int) < (s.size : Int) := by omega
      go_wp2_with fail
      go_ret
      exact ⟨rfl, rfl⟩
    | cons c t =>
      obtain ⟨hlt, hc, hnx⟩ := HQ.out.cons
      have hlt' : (k : Int) < (s.size : Int) := by omega
      by_cases h32 : c = 32
      · have hb : ((s[k].toNat : Int) == 32) = true := by rw [hc, h32]; rfl
        have HN := hide hnx
        have HE2 : Hid (Px.skip t = Px.skip r) := by
          show _ = _
          rw [← HE.out, h32]
          rfl
        clear hnx hc h32 HQ HE
        go_wp2_with fail
        exact ⟨⟨k + 1, t, by go_num, by omega, HN, HE2⟩, by simp [intOf] <;> omega⟩
      · have hb : ((s[k].toNat : Int) == 32) = false := by
          rw [hc]
          simp
          intro e
          exact h32 (UInt8.toNat_inj.1 (by show c.toNat = 32; omega))
        obtain rfl : m = k := by
          have h := HM.out
          rw [← HE.out] at h
          have e : Px.skip (c :: t) = c :: t := by
            unfold Px.skip
            rw [List.dropWhile_cons, if_neg (by simpa using h32)]
          rw [e] at h
          exact h.uniq HQ.out
        clear hnx hc h32 HQ HE HM
        go_wp2_with fail
        go_ret
        exact ⟨rfl, rfl⟩
theorem is_is (s : ByteArray) (hs : s.size ≤ 2000) (n : Nat) (r : Bs) (hp : Pos s n r) (c : UInt8) (d : Int) (hd : d = (c.toNat : Int)) (b : Bool) (hb : Px.isAt r c = b) (w : World) :
    Calls Tryz.prog 206 #[.string s, .int .i64 n, .int .u8 d] w fun e w' => e = .returned (.bool b) ∧ w' = w := by
  obtain ⟨m, hm⟩ : ∃ m, Pos s m (Px.skip r) := ⟨_, hp.skip⟩
  have CS := hide (skip_is s hs n r hp m hm w)
  subst hd
  cases hq : Px.skip r with
  | nil =>
    rw [hq] at hm
    obtain rfl : m = s.size := hm.nil
    obtain rfl : false = b := by rw [← hb]; unfold Px.isAt; rw [hq]; rfl
    have hn : ¬ (s.size : Int) < (s.size : Int) := by omega
    clear hp hm hb hq
    go_enter Tryz.func206, Tryz.ntmps206
    go_wp2_with fail
    refine CS.out.mono ?_
    rintro e w1 ⟨rfl, rfl⟩
    go_wp2_with fail
    go_ret
    exact ⟨rfl, rfl⟩
  | cons x t =>
    rw [hq] at hm
    obtain ⟨hlt, hx, _⟩ := hm.cons
    have hlt' : (m : Int) < (s.size : Int) := by omega
    have hbb : (x == c) = b := by rw [← hb]; unfold Px.isAt; rw [hq]; rfl
    have hbe : ((s[m].toNat : Int) == (c.toNat : Int)) = b := by
      rw [← hbb, hx, Bool.eq_iff_iff]
      simp only [beq_iff_eq]
      constructor
      · intro e
        exact UInt8.toNat_inj.1 (by omega)
      · intro e
        rw [e]
    clear hp hm hb hq hx hbb
    go_enter Tryz.func206, Tryz.ntmps206
    go_wp2_with fail
    refine CS.out.mono ?_
    rintro e w1 ⟨rfl, rfl⟩
    go_wp2_with fail
    go_ret
    exact ⟨rfl, rfl⟩
end Go.Proofs.YtpmmhmgojjlniaaGreatDoor.Ar
namespace Go.Proofs.YtpmmhmgojjlniaaGreatDoor.Ar
open Go.RowKit Go.Sort
set_option maxHeartbeats 8000000 in
theorem number_is (s : ByteArray) (hs : s.size ≤ 2000) (n : Nat) (r : Bs) (hp : Pos s n r) (w : World) : Calls Tryz.prog 300 #[.string s, .int .i64 n] w (NumGood s w (Px.number r)) := by
  obtain ⟨m, hm⟩ : ∃ m, Pos s m (Px.skip r) := ⟨_, hp.skip⟩
  have CS := hide (skip_is s hs n r hp m hm w)
  obtain ⟨ds, hds⟩ : ∃ ds, Px.digits r = ds := ⟨_, rfl⟩
  obtain ⟨q, hq⟩ : ∃ q, Px.skip r = q := ⟨_, rfl⟩
  have hdq : ds = q.takeWhile Ad.dig := by rw [← hds, ← hq]; rfl
  have hdl : ds.length ≤ q.length := by rw [hdq]; exact (List.takeWhile_prefix _).length_le
  have HR : Hid (Px.number r = if Ad.isNum ds = true then (if Is.as (Ad.num ds) = true then .ok (Ad.num ds, q.drop ds.length) else .error 7) else .error 4) := by
    show _ = _
    rw [← hds, ← hq]
    rfl
  rw [hq] at hm
  have hml := hm.len
  have HM := hide hm
  have HDIG := hide (show Ad.digs ds = true by rw [hdq]; exact digs_takeWhile q)
  have HDQ := hide hdq
  generalize Px.number r = R at *
  clear hp hds hq hm hdq
  go_enter Tryz.func300, Tryz.ntmps300
  go_wp2_with fail
  refine CS.out.mono ?_
  rintro e w1 ⟨rfl, rfl⟩
  go_wp2_with fail
  go_loop [7, 8] (fun t7 t8 => ∃ (k : Nat) (v : Int), t7 = .int .i64 k ∧ t8 = .int .i64 v ∧ k ≤ ds.length ∧ 0 ≤ v ∧ v ≤ 1000000 ∧ Hid (v = Ad.clampM (Ad.num (ds.take k)))) (fun t7 _ => ds.length - (intOf t7).toNat)
  case atStart => exact ⟨0, 0, rfl, rfl, Nat.zero_le _, by decide, by decide, hide rfl⟩
  case round =>
    obtain ⟨k, v, rfl, rfl, hk, hv0, hv1, HV⟩ := hrel
    by_cases hkl : k < ds.length
    · obtain ⟨hlt, hc, hdg⟩ : ∃ hlt : m + k < s.size, s[m + k] = ds[k] ∧ Ad.dig ds[k] = true := by
        have hk2 : k < (q.takeWhile Ad.dig).length := by rw [← HDQ.out]; exact hkl
        obtain ⟨t, h1, h2⟩ := take_dig_at q k hk2
        have h3 := HM.out.drop k (by omega)
        rw [h1] at h3
        obtain ⟨hlt, h4, _⟩ := h3.cons
        have he : (q.takeWhile Ad.dig)[k] = ds[k] := by simp only [HDQ.out]
        rw [he] at h2 h4
        exact ⟨hlt, h4, h2⟩
      have hlt' : (m : Int) + (k : Int) < (s.size : Int) := by omega
      obtain ⟨g0, g1⟩ := Ad.dig_bd _ hdg
      have hg0 : (48 : Int) ≤ (s[m + k].toNat : Int) := by rw [hc]; exact g0
      have hg1 : (s[m + k].toNat : Int) ≤ 57 := by rw [hc]; exact g1
      have HV2 : Hid (Ad.clampM (10 * v + ((s[m + k].toNat : Int) - 48)) = Ad.clampM (Ad.num (ds.take (k + 1)))) := by
        show _ = _
        rw [num_take_succ ds k hkl, HV.out, hc, ← clamp_step _ _ (Ad.num_bd _ (digs_take ds k HDIG.out)).1 (by omega)]
      clear hc hdg g0 g1 HV
      have hcb : 0 ≤ Ad.clampM (10 * v + ((s[m + k].toNat : Int) - 48)) ∧ Ad.clampM (10 * v + ((s[m + k].toNat : Int) - 48)) ≤ 1000000 := ⟨clamp_ge _ (by omega), clamp_le _⟩
      generalize hd : (s[m + k].toNat : Int) = d at *
      by_cases hbig : 1000000 < 10 * v + d - 48
      · have hce : Ad.clampM (10 * v + (d - 48)) = 1000000 := by unfold Ad.clampM; rw [if_pos (by omega)]
        rw [hce] at HV2
        clear hcb hce
        go_wp2_with fail
        exact ⟨⟨k + 1, 1000000, by go_num, rfl, by omega, by decide, by decide, HV2⟩, by simp [intOf] <;> omega⟩
      · have hce : Ad.clampM (10 * v + (d - 48)) = 10 * v + d - 48 := by unfold Ad.clampM; rw [if_neg (by omega)]; omega
        rw [hce] at HV2 hcb
        obtain ⟨hc0, hc1⟩ := hcb
        clear hce
        go_wp2_with fail
        exact ⟨⟨k + 1, 10 * v + d - 48, by go_num, rfl, by omega, hc0, hc1, HV2⟩, by simp [intOf] <;> omega⟩
    · obtain rfl : k = ds.length := by omega
      rw [List.take_length] at HV
      have hend : ¬ ((m : Int) + (ds.length : Int) < (s.size : Int)) ∨ (∃ hlt : m + ds.length < s.size, (m : Int) + (ds.length : Int) < (s.size : Int) ∧ ¬ (48 : Int) ≤ (s[m + ds.length].toNat : Int)) ∨ (∃ hlt : m + ds.length < s.size, (m : Int) + (ds.length : Int) < (s.size : Int) ∧ (48 : Int) ≤ (s[m + ds.length].toNat : Int) ∧ ¬ (s[m + ds.length].toNat : Int) ≤ 57) := by
        have h3 := HM.out.drop ds.length hdl
        rcases take_dig_end q with h | ⟨c, t, h, hd⟩
        · rw [← HDQ.out] at h
          rw [h] at h3
          have := h3.nil
          exact .inl (by omega)
        · rw [← HDQ.out] at h
          rw [h] at h3
          obtain ⟨hlt, hc, _⟩ := h3.cons
          right
          have hd' : ¬ (48 ≤ c.toNat ∧ c.toNat ≤ 57) := by
            intro hh
            have : Ad.dig c = true := by unfold Ad.dig; simp [hh]
            rw [this] at hd
            cases hd
          by_cases h48 : (48 : Int) ≤ (s[m + ds.length].toNat : Int)
          · exact .inr ⟨hlt, by omega, h48, by rw [hc] at h48 ⊢; omega⟩
          · exact .inl ⟨hlt, by omega, h48⟩
      have HPE := hide (HM.out.drop ds.length hdl)
      have HZ : Hid (0 < ds.length → ∃ hm0 : m < s.size, s[m] = (ds.head?).getD 0) := by
        intro hpos
        have hk2 : 0 < (q.takeWhile Ad.dig).length := by rw [← HDQ.out]; exact hpos
        obtain ⟨t, h1, _⟩ := take_dig_at q 0 hk2
        have h3 := HM.out
        rw [List.drop_zero] at h1
        rw [h1] at h3
        obtain ⟨hlt, h4, _⟩ := h3.cons
        refine ⟨hlt, ?_⟩
        rw [h4]
        simp only [← HDQ.out]
        cases ds with
        | nil => simp at hpos
        | cons c t => rfl
      have HN : Hid (Ad.isNum ds = (!ds.isEmpty && !Ad.zeroAhead ds)) := by
        show _ = _
        unfold Ad.isNum
        rw [HDIG.out, Bool.and_true]
      have HVD := hide (Is.as_clamp (Ad.num ds))
      rw [← HV.out] at HVD
      obtain ⟨L, hL⟩ : ∃ L, ds.length = L := ⟨_, rfl⟩
      rw [hL] at hend HPE hdl ⊢
      have HL := hide hL
      clear HM HDQ HDIG hkl hk hL
      by_cases hk0 : L = 0
      · have hkb : ((L : Int) == 0) = true := by simp [hk0]
        obtain rfl : R = .error 4 := by
          have h := HR.out
          rw [HN.out] at h
          have : ds = [] := List.length_eq_zero_iff.1 (HL.out.trans hk0)
          rw [this] at h
          exact h
        clear HR HPE HV HZ HN HL hk0 HVD
        rcases hend with h | ⟨_, h1, h2⟩ | ⟨_, h1, h2, h3⟩
        all_goals
          go_wp2_with fail
          exact bodyPost_ret (v := .tuple #[.int .i64 0, .int .i64 m, .int .i64 4]) (by simp [results, Tryz.results300, go_sem]) rfl (num_bad _ _ _ _)
      · have hkb : ((L : Int) == 0) = false := by simp; omega
        obtain ⟨hm0, hc0⟩ := HZ.out (by rw [HL.out]; omega)
        have hm0' : (m : Int) < (s.size : Int) := by omega
        have hne : ds.isEmpty = false := by
          cases hd : ds with
          | nil => rw [hd] at HL; exact absurd HL.out.symm hk0
          | cons c t => rfl
        by_cases hz : (s[m].toNat : Int) = 48 ∧ 1 < L
        · have hz1 : ((s[m].toNat : Int) == 48) = true := by simp [hz.1]
          have hz2 : (1 : Int) < (L : Int) := by omega
          obtain rfl : R = .error 4 := by
            have h := HR.out
            have h48 : (ds.head?).getD 0 = 48 := by rw [← hc0]; exact UInt8.toNat_inj.1 (by show s[m].toNat = 48; omega)
            have hza : Ad.zeroAhead ds = true := by
              unfold Ad.zeroAhead
              rw [HL.out, decide_eq_true hz.2]
              cases hd : ds with
              | nil => rw [hd] at hne; cases hne
              | cons c t => rw [hd] at h48; simp at h48; simp [h48]
            rw [HN.out, hza, hne] at h
            exact h
          clear HR HPE HV HZ HN HL HVD hc0 hz hne hk0
          rcases hend with h | ⟨_, h1, h2⟩ | ⟨_, h1, h2, h3⟩
          all_goals
            go_wp2_with fail
            exact bodyPost_ret (v := .tuple #[.int .i64 0, .int .i64 m, .int .i64 4]) (by simp [results, Tryz.results300, go_sem]) rfl (num_bad _ _ _ _)
        · have hza : Ad.zeroAhead ds = false := by
            unfold Ad.zeroAhead
            rw [HL.out]
            by_cases h1 : 1 < L
            · have h48 : ¬ (ds.head?).getD 0 = 48 := by
                intro e
                rw [← hc0] at e
                exact hz ⟨by rw [e]; rfl, h1⟩
              rw [decide_eq_true h1]
              cases hd : ds with
              | nil => rfl
              | cons c t => rw [hd] at h48; simp at h48; simp [h48]
            · rw [decide_eq_false h1]; rfl
          have HR2 : Hid (R = if Is.as (Ad.num ds) = true then .ok (Ad.num ds, q.drop ds.length) else .error 7) := by
            have h := HR.out
            rw [HN.out, hza, hne] at h
            exact h
          have hzz : (((s[m].toNat : Int) == 48) = false ∧ (1 : Int) < (L : Int)) ∨ ¬ (1 : Int) < (L : Int) := by
            by_cases h1 : (1 : Int) < (L : Int)
            · refine .inl ⟨?_, h1⟩
              have : ¬ (s[m].toNat : Int) = 48 := fun h => hz ⟨h, by omega⟩
              simpa using this
            · exact .inr h1
          rw [HL.out] at HR2
          clear HR HV HZ HN HL hc0 hz hne hk0 hza
          cases has : Is.as v
          · have CA := hide (fun W => refAS_is v false has W)
            obtain rfl : R = .error 7 := by
              have h := HR2.out
              rw [← HVD.out.1, has] at h
              exact h
            clear HR2 HVD has HPE
            rcases hzz with ⟨hzz, hz1⟩ | hzz
            all_goals
              rcases hend with h | ⟨_, h1, h2⟩ | ⟨_, h1, h2, h3⟩
              all_goals
                go_wp2_with fail
                refine (CA.out _).mono ?_
                rintro e w2 ⟨rfl, rfl⟩
                go_wp2_with fail
                exact bodyPost_ret (v := .tuple #[.int .i64 0, .int .i64 m, .int .i64 7]) (by simp [results, Tryz.results300, go_sem]) rfl (num_bad _ _ _ _)
          · have CA := hide (fun W => refAS_is v true has W)
            have hvn : v = Ad.num ds := HVD.out.2 (by rw [← HVD.out.1]; exact has)
            obtain rfl : R = .ok (v, q.drop L) := by
              have h := HR2.out
              rw [← HVD.out.1, has, ← hvn] at h
              exact h
            clear HR2 HVD has hvn
            rcases hzz with ⟨hzz, hz1⟩ | hzz
            all_goals
              rcases hend with h | ⟨_, h1, h2⟩ | ⟨_, h1, h2, h3⟩
              all_goals
                go_wp2_with fail
                refine (CA.out _).mono ?_
                rintro e w2 ⟨rfl, rfl⟩
                go_wp2_with fail
                exact bodyPost_ret (v := .tuple #[.int .i64 v, .int .i64 ((m : Int) + (L : Int)), .int .i64 0]) (by simp [results, Tryz.results300, go_sem]) rfl (num_ok s _ v m L _ HPE.out)
end Go.Proofs.YtpmmhmgojjlniaaGreatDoor.Ar
namespace Go.Proofs.YtpmmhmgojjlniaaGreatDoor.Ar
open Go.RowKit Go.Sort
theorem info30 : (Tryz.prog.info? 200).map (·.size) = some 6 := by kernel_rfl
theorem res_node {fn : Func} {p a b : Tmp} (h : fn.results = #[.cell p 200, .tmp a, .tmp b]) (tmps : Array Value) (w : World) (g : Nat) {y0 y1 y2 y3 y4 y5 va vb : Value}
    (hp : tmps.getD p undef = .pointer (some ⟨g, 0, none⟩)) (ha : tmps.getD a undef = va) (hb : tmps.getD b undef = vb) (hg : Box w g y0 y1 y2 y3 y4 y5) :
    (results fn tmps).run Tryz.prog w = .ok (.tuple #[.agg #[y0, y1, y2, y3, y4, y5], va, vb]) w := by
  have hp' : tmps[p]?.getD undef = .pointer (some ⟨g, 0, none⟩) := by simpa using hp
  have ha' : tmps[a]?.getD undef = va := by simpa using ha
  have hb' : tmps[b]?.getD undef = vb := by simpa using hb
  have hl := run_loadVar_mid (P := Tryz.prog) w g 0 200 _ _ (box_range hg) Tryz.underlying200 rfl (by rw [info30]; rfl)
  simp [results, h, hp', ha', hb', asAddr, hl]
end Go.Proofs.YtpmmhmgojjlniaaGreatDoor.Ar
