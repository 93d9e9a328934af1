/- Two texts that are parsed, one behind the other, are parsed as the lists, maps and routers of both, or one is there twice, or there are too many. Conditions: the row's own, with the package variables that the row lays. -/
import Derived.Test.YtnadhplhnfpeaaaGreatDoorAZ
import Derived.Test.YtnadhplhnfpeaaaGreatDoorAG1
import Derived.Test.YtnadhplhnfpeaaaGreatDoorRows
import Derived.Test.YtnadhplhnfpeaaaGreatDoorCards
import Derived.Test.YtnadhplhnfpeaaaGreatDoorTie
import Derived.ProofKit
import Derived.LaidMore
import Derived.Lay
import Derived.MakeChecks
import Derived.OpenShut
import Derived.Carry
import Derived.Stop.Joined
import Derived.SevenTiedAt
namespace Go.Proofs.YtnadhplhnfpeaaaGreatDoor
open Go.RowKit Go.Sort
theorem row_nil {α : Type} {w : World} {B ty z : Nat} {R : World → α → List Value → Prop} {ao : Option Addr} {n c : Nat} {l : List α} (h : RowOf w B ty z R (.slice ao n c) l) : ao = none → c = 0 := by
 obtain ⟨xs, _, h⟩ := h
 intro h0
 rcases h.2 with ⟨hv, _⟩ | ⟨g, cap, cur, hv, _⟩
 ·
  cases hv; rfl
 cases hv; cases h0
def ParseTn (s : ByteArray) (w : World) (e : Ending) (w' : World) : Prop := ∃ c a1 n1 k1 a2 n2 k2 a3 n3 k3 p q x, e = .returned (.tuple #[.agg #[.slice a1 n1 k1, .slice a2 n2 k2, .slice a3 n3 k3], .agg #[.int .i64 p, .int .i64 q], .int .i64 x]) ∧ CfR w' c (.slice a1 n1 k1) (.slice a2 n2 k2) (.slice a3 n3 k3) ∧ PRes s c p q x ∧ Below w.heap.size w w' ∧ (a1 = none → k1 = 0) ∧ (a2 = none → k2 = 0) ∧ (a3 = none → k3 = 0)
theorem parse_tn (s : ByteArray) (hs : s.size ≤ 100000) (w : World) (hT : Ar.Y4.Pt w) : Calls Tryz.prog 11 #[.string s] w (ParseTn s w) := by
 refine (cfgParse_is FU (by decide) s hs w hT).mono ?_
 rintro e w' ⟨c, v1, v2, v3, p, q, x, rfl, h1, h2, h3⟩
 have h4 := cf_rd h1
 obtain ⟨a1, k1, rfl⟩ := h4.1.slice
 obtain ⟨a2, k2, rfl⟩ := h4.2.1.slice
 obtain ⟨a3, k3, rfl⟩ := h4.2.2.slice
 exact ⟨c, a1, _, k1, a2, _, k2, a3, _, k3, p, q, x, rfl, h4, h2, h3, row_nil h1.1, row_nil h1.2.1, row_nil h1.2.2⟩
theorem OwnR.box {α : Type} {W0 w : World} {ty z : Nat} {R : World → α → List Value → Prop} {v : Value} {l : List α} (h : OwnR W0 w ty z R v l) {r : Nat} {cs : Array Value} (hr : w.heap[r]? = some (.cells cs 33 (0, 0))) (hne : ty ≠ 33) (i : Nat) (u : Value) : OwnR W0 (w.setCell ⟨r, i, none⟩ u) ty z R v l := by
 have ht := h.typed
 obtain ⟨xs, ha, ho⟩ := h
 refine ⟨xs, ha, row_of ho (fun g hgg => Below.heap_setCell w ⟨r, i, none⟩ u g (fun e => ?_))⟩
 obtain ⟨_, _, cs', h2⟩ := ht g hgg
 simp only at e
 subst e
 rw [hr] at h2
 cases h2
 exact hne rfl
theorem OwnR.ne {α : Type} {W0 w : World} {ty z : Nat} {R : World → α → List Value → Prop} {v : Value} {l : List α} (h : OwnR W0 w ty z R v l) {r : Nat} {cs : Array Value} (hr : w.heap[r]? = some (.cells cs 33 (0, 0))) (hne : ty ≠ 33) : ¬ some r = v.ownBlock := by
 intro e
 obtain ⟨_, _, cs', h2⟩ := h.typed r e.symm
 rw [hr] at h2
 cases h2
 exact hne rfl
theorem own_none (o : Option Nat) : o = none ∨ o ≠ none := by cases o <;> simp
theorem cat_lst (a b : ByteArray) : Lx.lst (a ++ (⟨#[10]⟩ : ByteArray) ++ b) = Lx.lst a ++ 10 :: Lx.lst b := by simp [Lx.lst]
theorem cat_size (a b : ByteArray) : (a ++ (⟨#[10]⟩ : ByteArray) ++ b).size = a.size + 1 + b.size := by
 have h := congrArg List.length (cat_lst a b)
 rw [Lx.lst_size, List.length_append, List.length_cons, Lx.lst_size, Lx.lst_size] at h
 omega
set_option maxHeartbeats 8000000 in
set_option maxRecDepth 100000 in
theorem law_goes (a b : ByteArray) (hab : a.size + b.size ≤ 9223372036854775807) (w : World) (hT : Ar.Y4.Pt w) : Calls Tryz.prog 4 #[.string a, .string b] w fun e w' => e = .returned (.bool true) ∧ Below w.heap.size w w' := by
 have CL := hide (fun W (hW : Below w.heap.size w W) => lives_is W (hT.on hW))
 by_cases h2 : 3000 < a.size + b.size
 ·
  have h2' : (3000 : Int) < (a.size : Int) + (b.size : Int) := by omega
  clear h2 hT
  go_enter Tryz.func4, Tryz.ntmps4
  go_wp2_with fail
  refine (CL.out _ (brefl w)).mono ?_
  rintro e w1 ⟨rfl, hb⟩
  go_wp2_with fail
  go_ret
  exact ⟨rfl, hb⟩
 have h2' : ¬ (3000 : Int) < (a.size : Int) + (b.size : Int) := by omega
 have CQ := hide (fun (t : ByteArray) (ht : t.size ≤ 100000) W (hW : Below w.heap.size w W) => parse_tn t ht W (hT.on hW))
 have HS : Hid (a.size + b.size ≤ 3000) := by show _ ≤ _; omega
 clear hT
 go_enter Tryz.func4, Tryz.ntmps4
 go_wp2_with fail
 refine (CQ.out a (by omega) w (brefl w)).mono ?_
 rintro e w1 ⟨x, x1, nx1, kx1, x2, nx2, kx2, x3, nx3, kx3, p1, q1, ex, rfl, hcx, hrx, hbx, hnx⟩
 obtain ⟨A2, hM2, hN2⟩ := boxes2 w1 #[.slice x1 nx1 kx1, .slice x2 nx2 kx2, .slice x3 nx3 kx3] #[.int .i64 p1, .int .i64 q1] 33 35
 have M2 := hide hM2
 have CX2 := hide (hcx.below A2)
 have B2 := hide (bthen hbx A2)
 have HRX := hide hrx
 have NX := hide hnx
 clear A2 hM2 hN2 hcx hbx hrx hnx
 go_upto_region 4 with fail
 obtain ⟨px, hpx⟩ : ∃ t, w1.heap.size = t := ⟨_, rfl⟩
 rw [hpx] at M2 ⊢
 generalize (w1.alloc (.cells #[.slice x1 nx1 kx1, .slice x2 nx2 kx2, .slice x3 nx3 kx3] 33)).alloc (.cells #[.int .i64 p1, .int .i64 q1] 35) = W2 at *
 clear hpx
 go_wp2_with fail
 refine (CQ.out b (by omega) W2 B2.out).mono ?_
 rintro e w3 ⟨y, y1, ny1, ky1, y2, ny2, ky2, y3, ny3, ky3, p2, q2, ey, rfl, hcy, hry, hby, hny⟩
 obtain ⟨A4, hM4, hN4⟩ := boxes2 w3 #[.slice y1 ny1 ky1, .slice y2 ny2 ky2, .slice y3 ny3 ky3] #[.int .i64 p2, .int .i64 q2] 33 35
 have M4 := hide hM4
 have CX4 := hide ((CX2.out.below hby).below A4)
 have X4 := hide ((A4.block px (Nat.lt_of_lt_of_le (heap_lt M2.out) hby.size)).trans ((hby.block px (heap_lt M2.out)).trans M2.out))
 have CY4 := hide (hcy.below A4)
 have B4 := hide (bthen (bthen B2.out hby) A4)
 have HRY := hide hry
 have NY := hide hny
 clear A4 hM4 hN4 hcy hby hry hny CX2 M2 B2
 go_upto_region 5 with fail
 obtain ⟨py, hpy⟩ : ∃ t, w3.heap.size = t := ⟨_, rfl⟩
 rw [hpy] at M4 ⊢
 generalize (w3.alloc (.cells #[.slice y1 ny1 ky1, .slice y2 ny2 ky2, .slice y3 ny3 ky3] 33)).alloc (.cells #[.int .i64 p2, .int .i64 q2] 35) = W4 at *
 clear hpy
 by_cases hex : ex = 0
 ·
  subst hex
  by_cases hey : ey = 0
  ·
   subst hey
   have hov0 : ¬ 9223372036854775807 < a.size + 1 := by have := HS.out; omega
   have hov1 : ¬ 9223372036854775807 < a.size + 1 + b.size := by have := HS.out; omega
   have hov2 : ¬ 9223372036854775807 < a.size + b.size + 1 := by have := HS.out; omega
   go_upto_region 7 with fail
   go_wp2_with fail
   obtain ⟨J, hJ⟩ : ∃ J : ByteArray, a ++ (⟨#[10]⟩ : ByteArray) ++ b = J := ⟨_, rfl⟩
   have HJ : Hid (J.size ≤ 8192 ∧ Lx.lst J = Lx.lst a ++ 10 :: Lx.lst b) := by
    rw [← hJ]
    refine ⟨?_, cat_lst a b⟩
    rw [cat_size]
    have := HS.out
    omega
   rw [hJ]
   clear hJ
   refine (CQ.out J (by have := HJ.out.1; omega) W4 B4.out).mono ?_
   rintro e w5 ⟨zc, z1, nz1, kz1, z2, nz2, kz2, z3, nz3, kz3, p3, q3, ez, rfl, hcz, hrz, hbz, _⟩
   have HGO := hide (goes_res HRX.out HRY.out HJ.out.2 HJ.out.1 hrz)
   have FX := hide (res_few HRX.out)
   have FY := hide (res_few HRY.out)
   obtain ⟨A6, hM6, hN6⟩ := boxes2 w5 #[.slice z1 nz1 kz1, .slice z2 nz2 kz2, .slice z3 nz3 kz3] #[.int .i64 p3, .int .i64 q3] 33 35
   have M6 := hide hM6
   have CX6 := hide ((CX4.out.below hbz).below A6)
   have CY6 := hide ((CY4.out.below hbz).below A6)
   have CZ6 := hide (hcz.below A6)
   have hb46 := bthen hbz A6
   have MX := hide ((hb46.block px (heap_lt X4.out)).trans X4.out)
   have MY := hide ((hb46.block py (heap_lt M4.out)).trans M4.out)
   have B6 := hide (bthen B4.out hb46)
   clear A6 hM6 hN6 hcz hrz hbz hb46 CX4 CY4 X4 M4 B4 CQ HRX HRY hov0 hov1 hov2
   go_upto_region 8 with fail
   obtain ⟨pz, hpz⟩ : ∃ t, w5.heap.size = t := ⟨_, rfl⟩
   rw [hpz] at M6 ⊢
   generalize (w5.alloc (.cells #[.slice z1 nz1 kz1, .slice z2 nz2 kz2, .slice z3 nz3 kz3] 33)).alloc (.cells #[.int .i64 p3, .int .i64 q3] 35) = W6 at *
   clear hpz
   rcases HGO.out with ⟨rfl, rfl⟩ | ⟨hez | hez, _⟩
   ·
    clear HGO
    have PX : Hid (px < W6.heap.size) := heap_lt MX.out
    have PY : Hid (py < W6.heap.size) := heap_lt MY.out
    have HX1 := hide CX6.out.1
    have HX2 := hide CX6.out.2.1
    have HX3 := hide CX6.out.2.2
    have HY1 := hide CY6.out.1
    have HY2 := hide CY6.out.2.1
    have HY3 := hide CY6.out.2.2
    obtain ⟨i1, hi1⟩ := info_partsLs
    obtain ⟨i2, hi2⟩ := info_partsMp
    obtain ⟨i3, hi3⟩ := info_partsRt
    have BW0 := hide (balloc (brefl W6) (.cells #[.slice none 0 0, .slice none 0 0, .slice none 0 0] 33))
    have NB0 := hide (heap_new W6 #[.slice none 0 0, .slice none 0 0, .slice none 0 0] 33)
    clear CX6 CY6
    go_upto_region 11 with fail
    obtain ⟨r, hr⟩ : ∃ t, W6.heap.size = t := ⟨_, rfl⟩
    have HR : Hid (W6.heap.size ≤ r) := Nat.le_of_eq hr
    rw [hr] at NB0 ⊢
    generalize W6.alloc (.cells #[.slice none 0 0, .slice none 0 0, .slice none 0 0] 33) = V0 at *
    clear hr
    have hx0 := BW0.out.cell (p := ⟨px, 0, none⟩) PX.out |>.trans (cell_of MX.out 0 rfl)
    have hy0 := BW0.out.cell (p := ⟨py, 0, none⟩) PY.out |>.trans (cell_of MY.out 0 rfl)
    refine wp_region_held_drew (S := fun w => w.cell? ⟨px, 0, none⟩ = some (.slice x1 nx1 kx1) ∧ w.cell? ⟨py, 0, none⟩ = some (.slice y1 ny1 ky1)) (by kernel_rfl) ⟨hx0, hy0⟩ (fun hHeld => ?_)
    clear hx0 hy0
    have BD := hide (bthen BW0.out (brefl _).drew)
    have ND : Hid ((World.drew V0).heap[r]? = some (.cells #[.slice none 0 0, .slice none 0 0, .slice none 0 0] 33 (0, 0))) := NB0.out
    generalize World.drew V0 = Vd at *
    clear BW0 NB0
    refine tak 0 (.pointer (some ⟨r, 0, none⟩)) rfl (Or.inl ⟨by rfl, fun w hSw => by dsimp only at hSw; obtain ⟨hS1, hS2⟩ := hSw; go_simp⟩) hHeld ?_
    simp only [Act.put, g1, g2, g4, g5, g6]
    refine tak 2 (.pointer (some ⟨px, 0, none⟩)) rfl (Or.inl ⟨by rfl, fun w hSw => by dsimp only at hSw; obtain ⟨hS1, hS2⟩ := hSw; go_simp⟩) hHeld ?_
    simp only [Act.put, g1, g2, g3, g4, g5, g6]
    refine tak 3 (.slice x1 nx1 kx1) rfl (Or.inl ⟨by rfl, fun w hSw => by dsimp only at hSw; obtain ⟨hS1, hS2⟩ := hSw; go_simp⟩) hHeld ?_
    simp only [Act.put, g1, g2, g3, g4, g5, g6]
    refine tak 5 (.pointer (some ⟨py, 0, none⟩)) rfl (Or.inl ⟨by rfl, fun w hSw => by dsimp only at hSw; obtain ⟨hS1, hS2⟩ := hSw; go_simp⟩) hHeld ?_
    simp only [Act.put, g1, g2, g3, g4, g5, g6]
    refine tak 6 (.slice y1 ny1 ky1) rfl (Or.inl ⟨by rfl, fun w hSw => by dsimp only at hSw; obtain ⟨hS1, hS2⟩ := hSw; go_simp⟩) hHeld ?_
    simp only [Act.put, g1, g2, g3, g4, g5, g6]
    refine rdy 1 (by kernel_rfl) rfl fun K hK => ?_
    have m0 := cell_of ND.out 0 rfl
    go_simp
    refine hK.out _ _ ⟨BD.out.cell (p := ⟨px, 0, none⟩) PX.out |>.trans (cell_of MX.out 0 rfl), BD.out.cell (p := ⟨py, 0, none⟩) PY.out |>.trans (cell_of MY.out 0 rfl)⟩ (fun hHeld => ?_)
    clear hK K m0
    try simp only [Act.put, g1, g2, g3, g4, g5, g6]
    refine rdy 4 (by kernel_rfl) rfl fun K hK => ?_
    try rw [if_pos (by rfl)]
    refine wp_append_rd LsR.mono (by decide) (fun _ _ _ h => h.len) (fun _ _ _ h => h.one) W6 Vd _ _ 29 rfl 66 i1 _ 40 Tryz.underlying29 hi1.1 hi1.2.1 hi1.2.2.1 hi1.2.2.2 rfl (by decide) (l := []) (m := x.lists) (.slice none 0 0) rfl rfl (ownR_nil W6 Vd 66 2 LsR) HX1.out NX.out.1 BD.out ?_ ?_
    ·
     have h1 := FX.out.lists; simp only [List.length_nil]; omega
    intro va wa oa ga ba
    rw [List.nil_append] at oa
    have NA := hide ((ga.block r (heap_lt ND.out) (fun e => by cases e)).trans ND.out)
    have OA := hide oa
    have BA := hide ba
    clear oa ga ba ND BD
    refine hK.out _ _ ⟨BA.out.cell (p := ⟨px, 0, none⟩) PX.out |>.trans (cell_of MX.out 0 rfl), BA.out.cell (p := ⟨py, 0, none⟩) PY.out |>.trans (cell_of MY.out 0 rfl)⟩ (fun hHeld => ?_)
    clear hK K
    try simp only [Act.put, g1, g2, g3, g4, g5, g6]
    refine rdy 7 (by kernel_rfl) rfl fun K hK => ?_
    try rw [if_pos (by rfl)]
    refine wp_append_rd LsR.mono (by decide) (fun _ _ _ h => h.len) (fun _ _ _ h => h.one) W6 wa _ _ 29 rfl 66 i1 _ 40 Tryz.underlying29 hi1.1 hi1.2.1 hi1.2.2.1 hi1.2.2.2 rfl (by decide) (l := x.lists) (m := y.lists) va rfl rfl OA.out HY1.out NY.out.1 BA.out ?_ ?_
    ·
     have h1 := FX.out.lists; have h2 := FY.out.lists; omega
    intro vb wb ob gb bb
    have NB := hide ((gb.block r (heap_lt NA.out) (OA.out.ne NA.out (by decide))).trans NA.out)
    have BB := hide bb
    have OB := hide ob
    obtain ⟨q1, c1, hvb⟩ := (OwnR.rd (by decide) (fun _ _ _ h => h.len) LsR.mono OB.out BB.out).slice
    have HM1 : Hid (∃ m1 : Nat, (x.lists ++ y.lists).length = m1) := ⟨_, rfl⟩
    obtain ⟨m1, hm1⟩ := HM1.out
    rw [hm1] at hvb
    subst hvb
    clear hm1 HM1
    clear ob gb bb NA OA BA
    refine hK.out _ _ ⟨BB.out.cell (p := ⟨px, 0, none⟩) PX.out |>.trans (cell_of MX.out 0 rfl), BB.out.cell (p := ⟨py, 0, none⟩) PY.out |>.trans (cell_of MY.out 0 rfl)⟩ (fun hHeld => ?_)
    clear hK K
    try simp only [Act.put, g1, g2, g3, g4, g5, g6]
    refine tak 8 (.pointer (some ⟨r, 0, none⟩)) rfl (Or.inl ⟨by rfl, fun w hSw => by dsimp only at hSw; obtain ⟨hS1, hS2⟩ := hSw; go_simp⟩) hHeld ?_
    simp only [Act.put, g1, g2, g3, g4, g5, g6]
    refine rdy 9 (by kernel_rfl) rfl fun K hK => ?_
    have m0 := cell_of NB.out 0 rfl
    have ff := unfrozen NB.out 0
    go_simp
    have NB1 : Hid ((wb.setCell ⟨r, 0, none⟩ (.slice q1 m1 c1)).heap[r]? = some (.cells #[.slice q1 m1 c1, .slice none 0 0, .slice none 0 0] 33 (0, 0))) := heap_setCell_same wb r 0 _ 33 (.slice q1 m1 c1) NB.out
    have BW1 := hide (Lx.bset BB.out (p := ⟨r, 0, none⟩) HR.out (.slice q1 m1 c1))
    have O0 := hide (OB.out.box NB.out (by decide) 0 (.slice q1 m1 c1))
    clear m0 ff NB OB BB
    refine hK.out _ _ ⟨BW1.out.cell (p := ⟨px, 0, none⟩) PX.out |>.trans (cell_of MX.out 0 rfl), BW1.out.cell (p := ⟨py, 0, none⟩) PY.out |>.trans (cell_of MY.out 0 rfl)⟩ (fun hHeld => ?_)
    clear hK K
    try simp only [Act.put, g1, g2, g3, g4, g5, g6]
    refine wpAnyH_done (by kernel_rfl) ?_ _
    clear hHeld
    generalize wb.setCell ⟨r, 0, none⟩ (.slice q1 m1 c1) = V1 at *
    go_wp2_with fail
    have hx0 := BW1.out.cell (p := ⟨px, 1, none⟩) PX.out |>.trans (cell_of MX.out 1 rfl)
    have hy0 := BW1.out.cell (p := ⟨py, 1, none⟩) PY.out |>.trans (cell_of MY.out 1 rfl)
    refine wp_region_held_drew (S := fun w => w.cell? ⟨px, 1, none⟩ = some (.slice x2 nx2 kx2) ∧ w.cell? ⟨py, 1, none⟩ = some (.slice y2 ny2 ky2)) (by kernel_rfl) ⟨hx0, hy0⟩ (fun hHeld => ?_)
    clear hx0 hy0
    have BD := hide (bthen BW1.out (brefl _).drew)
    have ND : Hid ((World.drew V1).heap[r]? = some (.cells #[.slice q1 m1 c1, .slice none 0 0, .slice none 0 0] 33 (0, 0))) := NB1.out
    have OD0 := hide (O0.out.keptBelow (brefl _).drew)
    generalize World.drew V1 = Vd at *
    clear BW1 NB1 O0
    refine tak 0 (.pointer (some ⟨r, 1, none⟩)) rfl (Or.inl ⟨by rfl, fun w hSw => by dsimp only at hSw; obtain ⟨hS1, hS2⟩ := hSw; go_simp⟩) hHeld ?_
    simp only [Act.put, g1, g2, g4, g5, g6]
    refine tak 2 (.pointer (some ⟨px, 1, none⟩)) rfl (Or.inl ⟨by rfl, fun w hSw => by dsimp only at hSw; obtain ⟨hS1, hS2⟩ := hSw; go_simp⟩) hHeld ?_
    simp only [Act.put, g1, g2, g3, g4, g5, g6]
    refine tak 3 (.slice x2 nx2 kx2) rfl (Or.inl ⟨by rfl, fun w hSw => by dsimp only at hSw; obtain ⟨hS1, hS2⟩ := hSw; go_simp⟩) hHeld ?_
    simp only [Act.put, g1, g2, g3, g4, g5, g6]
    refine tak 5 (.pointer (some ⟨py, 1, none⟩)) rfl (Or.inl ⟨by rfl, fun w hSw => by dsimp only at hSw; obtain ⟨hS1, hS2⟩ := hSw; go_simp⟩) hHeld ?_
    simp only [Act.put, g1, g2, g3, g4, g5, g6]
    refine tak 6 (.slice y2 ny2 ky2) rfl (Or.inl ⟨by rfl, fun w hSw => by dsimp only at hSw; obtain ⟨hS1, hS2⟩ := hSw; go_simp⟩) hHeld ?_
    simp only [Act.put, g1, g2, g3, g4, g5, g6]
    refine rdy 1 (by kernel_rfl) rfl fun K hK => ?_
    have m0 := cell_of ND.out 1 rfl
    go_simp
    refine hK.out _ _ ⟨BD.out.cell (p := ⟨px, 1, none⟩) PX.out |>.trans (cell_of MX.out 1 rfl), BD.out.cell (p := ⟨py, 1, none⟩) PY.out |>.trans (cell_of MY.out 1 rfl)⟩ (fun hHeld => ?_)
    clear hK K m0
    try simp only [Act.put, g1, g2, g3, g4, g5, g6]
    refine rdy 4 (by kernel_rfl) rfl fun K hK => ?_
    try rw [if_pos (by rfl)]
    refine wp_append_rd MpR.mono (by decide) (fun _ _ _ h => h.len) (fun _ _ _ h => h.one) W6 Vd _ _ 30 rfl 70 i2 _ 40 Tryz.underlying30 hi2.1 hi2.2.1 hi2.2.2.1 hi2.2.2.2 rfl (by decide) (l := []) (m := x.maps) (.slice none 0 0) rfl rfl (ownR_nil W6 Vd 70 2 MpR) HX2.out NX.out.2.1 BD.out ?_ ?_
    ·
     have h1 := FX.out.maps; simp only [List.length_nil]; omega
    intro va wa oa ga ba
    rw [List.nil_append] at oa
    have NA := hide ((ga.block r (heap_lt ND.out) (fun e => by cases e)).trans ND.out)
    have OA := hide oa
    have BA := hide ba
    have OA0 := hide (OD0.out.kept ga (own_none _))
    clear oa ga ba ND BD OD0
    refine hK.out _ _ ⟨BA.out.cell (p := ⟨px, 1, none⟩) PX.out |>.trans (cell_of MX.out 1 rfl), BA.out.cell (p := ⟨py, 1, none⟩) PY.out |>.trans (cell_of MY.out 1 rfl)⟩ (fun hHeld => ?_)
    clear hK K
    try simp only [Act.put, g1, g2, g3, g4, g5, g6]
    refine rdy 7 (by kernel_rfl) rfl fun K hK => ?_
    try rw [if_pos (by rfl)]
    refine wp_append_rd MpR.mono (by decide) (fun _ _ _ h => h.len) (fun _ _ _ h => h.one) W6 wa _ _ 30 rfl 70 i2 _ 40 Tryz.underlying30 hi2.1 hi2.2.1 hi2.2.2.1 hi2.2.2.2 rfl (by decide) (l := x.maps) (m := y.maps) va rfl rfl OA.out HY2.out NY.out.2.1 BA.out ?_ ?_
    ·
     have h1 := FX.out.maps; have h2 := FY.out.maps; omega
    intro vb wb ob gb bb
    have NB := hide ((gb.block r (heap_lt NA.out) (OA.out.ne NA.out (by decide))).trans NA.out)
    have BB := hide bb
    have OB := hide ob
    have OB0 := hide (OA0.out.kept gb (OA0.out.apart OA.out (by decide)))
    obtain ⟨q2, c2, hvb⟩ := (OwnR.rd (by decide) (fun _ _ _ h => h.len) MpR.mono OB.out BB.out).slice
    have HM2 : Hid (∃ m2 : Nat, (x.maps ++ y.maps).length = m2) := ⟨_, rfl⟩
    obtain ⟨m2, hm2⟩ := HM2.out
    rw [hm2] at hvb
    subst hvb
    clear hm2 HM2
    clear ob gb bb NA OA BA OA0
    refine hK.out _ _ ⟨BB.out.cell (p := ⟨px, 1, none⟩) PX.out |>.trans (cell_of MX.out 1 rfl), BB.out.cell (p := ⟨py, 1, none⟩) PY.out |>.trans (cell_of MY.out 1 rfl)⟩ (fun hHeld => ?_)
    clear hK K
    try simp only [Act.put, g1, g2, g3, g4, g5, g6]
    refine tak 8 (.pointer (some ⟨r, 1, none⟩)) rfl (Or.inl ⟨by rfl, fun w hSw => by dsimp only at hSw; obtain ⟨hS1, hS2⟩ := hSw; go_simp⟩) hHeld ?_
    simp only [Act.put, g1, g2, g3, g4, g5, g6]
    refine rdy 9 (by kernel_rfl) rfl fun K hK => ?_
    have m0 := cell_of NB.out 1 rfl
    have ff := unfrozen NB.out 1
    go_simp
    have NB2 : Hid ((wb.setCell ⟨r, 1, none⟩ (.slice q2 m2 c2)).heap[r]? = some (.cells #[.slice q1 m1 c1, .slice q2 m2 c2, .slice none 0 0] 33 (0, 0))) := heap_setCell_same wb r 1 _ 33 (.slice q2 m2 c2) NB.out
    have BW2 := hide (Lx.bset BB.out (p := ⟨r, 1, none⟩) HR.out (.slice q2 m2 c2))
    have O1 := hide (OB.out.box NB.out (by decide) 1 (.slice q2 m2 c2))
    have O0 := hide (OB0.out.box NB.out (by decide) 1 (.slice q2 m2 c2))
    clear m0 ff NB OB BB OB0
    refine hK.out _ _ ⟨BW2.out.cell (p := ⟨px, 1, none⟩) PX.out |>.trans (cell_of MX.out 1 rfl), BW2.out.cell (p := ⟨py, 1, none⟩) PY.out |>.trans (cell_of MY.out 1 rfl)⟩ (fun hHeld => ?_)
    clear hK K
    try simp only [Act.put, g1, g2, g3, g4, g5, g6]
    refine wpAnyH_done (by kernel_rfl) ?_ _
    clear hHeld
    generalize wb.setCell ⟨r, 1, none⟩ (.slice q2 m2 c2) = V2 at *
    go_wp2_with fail
    have hx0 := BW2.out.cell (p := ⟨px, 2, none⟩) PX.out |>.trans (cell_of MX.out 2 rfl)
    have hy0 := BW2.out.cell (p := ⟨py, 2, none⟩) PY.out |>.trans (cell_of MY.out 2 rfl)
    refine wp_region_held_drew (S := fun w => w.cell? ⟨px, 2, none⟩ = some (.slice x3 nx3 kx3) ∧ w.cell? ⟨py, 2, none⟩ = some (.slice y3 ny3 ky3)) (by kernel_rfl) ⟨hx0, hy0⟩ (fun hHeld => ?_)
    clear hx0 hy0
    have BD := hide (bthen BW2.out (brefl _).drew)
    have ND : Hid ((World.drew V2).heap[r]? = some (.cells #[.slice q1 m1 c1, .slice q2 m2 c2, .slice none 0 0] 33 (0, 0))) := NB2.out
    have OD0 := hide (O0.out.keptBelow (brefl _).drew)
    have OD1 := hide (O1.out.keptBelow (brefl _).drew)
    generalize World.drew V2 = Vd at *
    clear BW2 NB2 O0 O1
    refine tak 0 (.pointer (some ⟨r, 2, none⟩)) rfl (Or.inl ⟨by rfl, fun w hSw => by dsimp only at hSw; obtain ⟨hS1, hS2⟩ := hSw; go_simp⟩) hHeld ?_
    simp only [Act.put, g1, g2, g4, g5, g6]
    refine tak 2 (.pointer (some ⟨px, 2, none⟩)) rfl (Or.inl ⟨by rfl, fun w hSw => by dsimp only at hSw; obtain ⟨hS1, hS2⟩ := hSw; go_simp⟩) hHeld ?_
    simp only [Act.put, g1, g2, g3, g4, g5, g6]
    refine tak 3 (.slice x3 nx3 kx3) rfl (Or.inl ⟨by rfl, fun w hSw => by dsimp only at hSw; obtain ⟨hS1, hS2⟩ := hSw; go_simp⟩) hHeld ?_
    simp only [Act.put, g1, g2, g3, g4, g5, g6]
    refine tak 5 (.pointer (some ⟨py, 2, none⟩)) rfl (Or.inl ⟨by rfl, fun w hSw => by dsimp only at hSw; obtain ⟨hS1, hS2⟩ := hSw; go_simp⟩) hHeld ?_
    simp only [Act.put, g1, g2, g3, g4, g5, g6]
    refine tak 6 (.slice y3 ny3 ky3) rfl (Or.inl ⟨by rfl, fun w hSw => by dsimp only at hSw; obtain ⟨hS1, hS2⟩ := hSw; go_simp⟩) hHeld ?_
    simp only [Act.put, g1, g2, g3, g4, g5, g6]
    refine rdy 1 (by kernel_rfl) rfl fun K hK => ?_
    have m0 := cell_of ND.out 2 rfl
    go_simp
    refine hK.out _ _ ⟨BD.out.cell (p := ⟨px, 2, none⟩) PX.out |>.trans (cell_of MX.out 2 rfl), BD.out.cell (p := ⟨py, 2, none⟩) PY.out |>.trans (cell_of MY.out 2 rfl)⟩ (fun hHeld => ?_)
    clear hK K m0
    try simp only [Act.put, g1, g2, g3, g4, g5, g6]
    refine rdy 4 (by kernel_rfl) rfl fun K hK => ?_
    try rw [if_pos (by rfl)]
    refine wp_append_rd RtR.mono (by decide) (fun _ _ _ h => h.len) (fun _ _ _ h => h.one) W6 Vd _ _ 31 rfl 50 i3 _ 104 Tryz.underlying31 hi3.1 hi3.2.1 hi3.2.2.1 hi3.2.2.2 rfl (by decide) (l := []) (m := x.routers) (.slice none 0 0) rfl rfl (ownR_nil W6 Vd 50 6 RtR) HX3.out NX.out.2.2 BD.out ?_ ?_
    ·
     have h1 := FX.out.routers; simp only [List.length_nil]; omega
    intro va wa oa ga ba
    rw [List.nil_append] at oa
    have NA := hide ((ga.block r (heap_lt ND.out) (fun e => by cases e)).trans ND.out)
    have OA := hide oa
    have BA := hide ba
    have OA0 := hide (OD0.out.kept ga (own_none _))
    have OA1 := hide (OD1.out.kept ga (own_none _))
    clear oa ga ba ND BD OD0 OD1
    refine hK.out _ _ ⟨BA.out.cell (p := ⟨px, 2, none⟩) PX.out |>.trans (cell_of MX.out 2 rfl), BA.out.cell (p := ⟨py, 2, none⟩) PY.out |>.trans (cell_of MY.out 2 rfl)⟩ (fun hHeld => ?_)
    clear hK K
    try simp only [Act.put, g1, g2, g3, g4, g5, g6]
    refine rdy 7 (by kernel_rfl) rfl fun K hK => ?_
    try rw [if_pos (by rfl)]
    refine wp_append_rd RtR.mono (by decide) (fun _ _ _ h => h.len) (fun _ _ _ h => h.one) W6 wa _ _ 31 rfl 50 i3 _ 104 Tryz.underlying31 hi3.1 hi3.2.1 hi3.2.2.1 hi3.2.2.2 rfl (by decide) (l := x.routers) (m := y.routers) va rfl rfl OA.out HY3.out NY.out.2.2 BA.out ?_ ?_
    ·
     have h1 := FX.out.routers; have h2 := FY.out.routers; omega
    intro vb wb ob gb bb
    have NB := hide ((gb.block r (heap_lt NA.out) (OA.out.ne NA.out (by decide))).trans NA.out)
    have BB := hide bb
    have OB := hide ob
    have OB0 := hide (OA0.out.kept gb (OA0.out.apart OA.out (by decide)))
    have OB1 := hide (OA1.out.kept gb (OA1.out.apart OA.out (by decide)))
    obtain ⟨q3, c3, hvb⟩ := (OwnR.rd (by decide) (fun _ _ _ h => h.len) RtR.mono OB.out BB.out).slice
    have HM3 : Hid (∃ m3 : Nat, (x.routers ++ y.routers).length = m3) := ⟨_, rfl⟩
    obtain ⟨m3, hm3⟩ := HM3.out
    rw [hm3] at hvb
    subst hvb
    clear hm3 HM3
    clear ob gb bb NA OA BA OA0 OA1
    refine hK.out _ _ ⟨BB.out.cell (p := ⟨px, 2, none⟩) PX.out |>.trans (cell_of MX.out 2 rfl), BB.out.cell (p := ⟨py, 2, none⟩) PY.out |>.trans (cell_of MY.out 2 rfl)⟩ (fun hHeld => ?_)
    clear hK K
    try simp only [Act.put, g1, g2, g3, g4, g5, g6]
    refine tak 8 (.pointer (some ⟨r, 2, none⟩)) rfl (Or.inl ⟨by rfl, fun w hSw => by dsimp only at hSw; obtain ⟨hS1, hS2⟩ := hSw; go_simp⟩) hHeld ?_
    simp only [Act.put, g1, g2, g3, g4, g5, g6]
    refine rdy 9 (by kernel_rfl) rfl fun K hK => ?_
    have m0 := cell_of NB.out 2 rfl
    have ff := unfrozen NB.out 2
    go_simp
    have NB3 : Hid ((wb.setCell ⟨r, 2, none⟩ (.slice q3 m3 c3)).heap[r]? = some (.cells #[.slice q1 m1 c1, .slice q2 m2 c2, .slice q3 m3 c3] 33 (0, 0))) := heap_setCell_same wb r 2 _ 33 (.slice q3 m3 c3) NB.out
    have BW3 := hide (Lx.bset BB.out (p := ⟨r, 2, none⟩) HR.out (.slice q3 m3 c3))
    have O2 := hide (OB.out.box NB.out (by decide) 2 (.slice q3 m3 c3))
    have O0 := hide (OB0.out.box NB.out (by decide) 2 (.slice q3 m3 c3))
    have O1 := hide (OB1.out.box NB.out (by decide) 2 (.slice q3 m3 c3))
    clear m0 ff NB OB BB OB0 OB1
    refine hK.out _ _ ⟨BW3.out.cell (p := ⟨px, 2, none⟩) PX.out |>.trans (cell_of MX.out 2 rfl), BW3.out.cell (p := ⟨py, 2, none⟩) PY.out |>.trans (cell_of MY.out 2 rfl)⟩ (fun hHeld => ?_)
    clear hK K
    try simp only [Act.put, g1, g2, g3, g4, g5, g6]
    refine wpAnyH_done (by kernel_rfl) ?_ _
    clear hHeld
    generalize wb.setCell ⟨r, 2, none⟩ (.slice q3 m3 c3) = V3 at *
    have CZ := hide (CZ6.out.below BW3.out)
    have CB : Hid (CfR V3 (x.app y) (.slice q1 m1 c1) (.slice q2 m2 c2) (.slice q3 m3 c3)) := ⟨OwnR.rd (by decide) (fun _ _ _ h => h.len) LsR.mono O0.out BW3.out, OwnR.rd (by decide) (fun _ _ _ h => h.len) MpR.mono O1.out BW3.out, OwnR.rd (by decide) (fun _ _ _ h => h.len) RtR.mono O2.out BW3.out⟩
    have MZ := hide ((BW3.out.block pz (heap_lt M6.out)).trans M6.out)
    have BV := hide (bthen B6.out BW3.out)
    have CS := hide (same_is V3 CZ.out CB.out ((FX.out.app FY.out).few (by decide)))
    have a0 := cell_of MZ.out 0 rfl
    have a1 := cell_of MZ.out 1 rfl
    have a2 := cell_of MZ.out 2 rfl
    have b0 := cell_of NB3.out 0 rfl
    have b1 := cell_of NB3.out 1 rfl
    have b2 := cell_of NB3.out 2 rfl
    clear CZ CB MZ O0 O1 O2 NB3 BW3 HX1 HX2 HX3 HY1 HY2 HY3 CZ6 M6
    go_wp2_with fail
    refine CS.out.mono ?_
    rintro e w8 ⟨rfl, hb8⟩
    have B8 := hide (bthen BV.out hb8)
    clear hb8 a0 a1 a2 b0 b1 b2 CS
    go_wp2_with fail
    refine (CL.out _ B8.out).mono ?_
    rintro e w1 ⟨rfl, hb⟩
    have BZ := hide (bthen B8.out hb)
    clear hb
    go_wp2_with fail
    go_ret
    exact ⟨rfl, BZ.out⟩
   ·
    subst hez
    clear HGO MX MY M6 CX6 CY6 CZ6
    go_wp2_with fail
    refine (CL.out _ B6.out).mono ?_
    rintro e w1 ⟨rfl, hb⟩
    have BZ := hide (bthen B6.out hb)
    clear hb
    go_wp2_with fail
    go_ret
    exact ⟨rfl, BZ.out⟩
   subst hez
   clear HGO MX MY M6 CX6 CY6 CZ6
   go_wp2_with fail
   refine (CL.out _ B6.out).mono ?_
   rintro e w1 ⟨rfl, hb⟩
   have BZ := hide (bthen B6.out hb)
   clear hb
   go_wp2_with fail
   go_ret
   exact ⟨rfl, BZ.out⟩
  have hey' : (ey != 0) = true := by rw [bne_iff_ne]; exact hey
  clear CQ M4 X4 CX4 CY4
  go_wp2_with fail
  refine (CL.out _ B4.out).mono ?_
  rintro e w1 ⟨rfl, hb⟩
  have BZ := hide (bthen B4.out hb)
  clear hb
  go_wp2_with fail
  go_ret
  exact ⟨rfl, BZ.out⟩
 have hex' : (ex != 0) = true := by rw [bne_iff_ne]; exact hex
 clear CQ M4 X4 CX4 CY4
 go_wp2_with fail
 refine (CL.out _ B4.out).mono ?_
 rintro e w1 ⟨rfl, hb⟩
 have BZ := hide (bthen B4.out hb)
 clear hb
 go_wp2_with fail
 go_ret
 exact ⟨rfl, BZ.out⟩
end Go.Proofs.YtnadhplhnfpeaaaGreatDoor
namespace Go.Proofs.YtnadhplhnfpeaaaGreatDoor
open Go.ChangeShapes Go.WideShapes Go.ChangeAt Go.RowKit Go.Joins
open Go.ChangeMaps (open_string shut_string)
theorem cfgGoes_door (os : Os) (args : Array Value) : laidMetH Tryz.prog Rows.cfgGoesRow.laid ((World.laidAll Tryz.prog os Rows.cfgGoesRow.laid).forCall (fun _ _ => 0) ⟨#[], args, []⟩).memory := by
 rw [MakeChecks.laidMetH_plain _ _ _ (by kernel_rfl)]
 exact laidMet_laidAll _ (by kernel_rfl) (by kernel_rfl)
set_option maxRecDepth 100000 in
theorem cfgGoes_lifted (os : Os) (started : os.Started) (H : Type) (enc : TypeId × Value → H) :
    ReturnsInHanded {} Tryz.checked os 4 .any (fun w args => (Rows.cfgGoesSpec.pre enc Tryz.prog Tryz.f4 [] false w args ∧ laidMetH Tryz.prog Rows.cfgGoesRow.laid w) ∧ sizedMet enc Tryz.prog Tryz.f4 (OpenSpec.ofChange Rows.cfgGoesSpec) false w args)
      (Rows.cfgGoesSpec.post enc Tryz.prog Tryz.f4 false true false false) := by
  refine returns_both (C := Tryz.checked) (X := fun w _ => laidMetH Tryz.prog Rows.cfgGoesRow.laid w) (fun _ _ _ hh h => h.of_heap hh) own started (by kernel_rfl) Tryz.func4
    (ChangeSpec.witness_shaped (enc := enc) (C := Tryz.checked) (os := os) (X := fun w _ => laidMetH Tryz.prog Rows.cfgGoesRow.laid w) false (World.laidAll Tryz.prog os Rows.cfgGoesRow.laid) #[.string ⟨#[]⟩, .string ⟨#[]⟩] 8 (World.laidAll_os _ _ _) (World.shaped_of_ZipB (by kernel_rfl) (by kernel_rfl)) (by kernel_rfl) (by kernel_rfl) (by kernel_rfl) (cfgGoes_door os _)) ?_
  intro W base args ds gs before hval0 hW hX hsh hsz
  have hval : ∀ (j : Nat) t v, Tryz.f4.params[j]? = some t → args[j]? = some v → Value.okWide Tryz.prog W .any base t v := hval0
  have hW' := hW
  obtain ⟨p, q, hA0, hV, rfl, hfz, hnd⟩ := hW
  have hA : DataW.TrodAll enc Tryz.prog W 0 (fun _ => true) true Tryz.f4.params.toList args.toList ds p := hA0
  rw [Tryz.params4] at hA hval
  obtain ⟨v0, v1, d0, d1, p0, p1, rfl, rfl, rfl, h0, h1⟩ := trodAll_two hA
  obtain ⟨rfl, rfl⟩ := trodVars_none hV
  obtain ⟨s0, rfl, rfl, rfl, hs0⟩ := open_string Tryz.underlying9 (hval 0 9 v0 rfl rfl) h0
  obtain ⟨s1, rfl, rfl, rfl, hs1⟩ := open_string Tryz.underlying9 (hval 1 9 v1 rfl rfl) h1
  clear hA0 hval0
  simp only [List.append_nil] at hW'
  have hT : Ar.Y4.Pt W := ⟨maxLen_of hsh, range_of Rows.laid_strconv_ErrRange (by kernel_rfl) ⟨_, _, rfl⟩ (fun h => by rw [MakeChecks.laidMetH_plain _ _ _ (by kernel_rfl)] at h; exact h) hX⟩
  have z0 := sized_string hsz (j := 0) (t := 9) (bytes := s0.data.toList) (by rw [Tryz.params4]; rfl) rfl
  have z1 := sized_string hsz (j := 1) (t := 9) (bytes := s1.data.toList) (by rw [Tryz.params4]; rfl) rfl
  have hr := reachBytes_lt
  have hz : s0.size + s1.size ≤ 9223372036854775807 := by
    have e0 : s0.data.toList.length = s0.size := Lx.lst_size s0
    have e1 : s1.data.toList.length = s1.size := Lx.lst_size s1
    omega
  refine (law_goes s0 s1 hz W hT).mono fun e W' ⟨he, bel⟩ => ?_
  subst he
  exact ⟨_, rfl, _, _, _, [], _, [], hW', trodAll_mk1 (shut_bool Tryz.underlying4 _), trodAll_mk2 (shut_string Tryz.underlying9 hs0) (shut_string Tryz.underlying9 hs1), rfl, bel.frame _, fun h => by cases h⟩
theorem cfgGoes_holds : Rows.CfgGoesSaid :=
  OpenClaim.holds_of_wide 4 Tryz.f4 rfl rfl rfl rfl rfl rfl rfl ⟨rfl, rfl, rfl, rfl, rfl⟩ rfl rfl rfl rfl rfl (by kernel_rfl) Tryz.func4 (by kernel_rfl)
    (of_decide_eq_true (by kernel_rfl)) (by unfold Func.isWrapper; first | (rw [if_pos (by decide +kernel)]; kernel_rfl) | (rw [if_neg (by decide +kernel)]; exact ⟨rfl, rfl⟩))
    (fun os started H enc _ => cfgGoes_lifted os started H enc)
theorem cfgGoes_card : Rows.CfgGoesCardSaid :=
  Claim7.holds_tied_plain_at .later [] [.data, .data, .data, .data, .sentinel, .sentinel, .pinned] true Rows.cfgGoesCard.stood.harness true
    cfgGoes_holds (fun _ h => by cases h) (by kernel_rfl) (fun _ h => by cases h) cfgGoes_row_tie rfl ⟨rfl, rfl⟩ (by kernel_rfl) rfl
    (fun f fn hf hfn => by
      obtain rfl : f = 4 := Option.some.inj ((show Tryz.prog.funcNamed Rows.cfgGoesRow.func = some 4 by kernel_rfl).symm.trans hf) |>.symm
      obtain rfl : fn = Tryz.f4 := (Option.some.inj (Tryz.func4.symm.trans hfn)).symm
      exact ⟨by kernel_rfl, fun j t ht => by
        rw [Tryz.params4] at ht
        have hm : t ∈ [9, 9] := by simpa using Array.mem_of_getElem? ht
        have hall : ([9, 9].all fun u => !Tryz.prog.wantsStandIn u) = true := by kernel_rfl
        exact (show Tryz.prog.wantsStandIn t = false by simpa using List.all_eq_true.1 hall t hm)⟩)
    (by kernel_rfl)
#print axioms cfgGoes_card
end Go.Proofs.YtnadhplhnfpeaaaGreatDoor
