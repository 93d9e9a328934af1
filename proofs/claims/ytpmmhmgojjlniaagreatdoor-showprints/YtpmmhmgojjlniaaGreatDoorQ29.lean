/- The document's Small. -/
import Derived.Test.YtpmmhmgojjlniaaGreatDoorQ28
namespace Go.Proofs.YtpmmhmgojjlniaaGreatDoor
open Go.RowKit Go.Sort
def lsSm (a : Ls) : Bool := !(decide (100 < a.name.size) || decide (20 < a.rules.length))
def clSm (x : Cl) : Bool := !(decide (100 < x.m.list.size) || decide (100 < x.m.path.size) || decide (20 < x.s.add.length) || decide (20 < x.s.del.length) || decide (30 < x.s.prep.length))
def mpSm (a : Mp) : Bool := !(decide (100 < a.name.size) || decide (20 < a.cls.length)) && a.cls.all clSm
def nbSm (n : Nb) : Bool := !decide (200 < n.name.size + n.imp.size + n.exp.size)
def lkSm (k : Lk) : Bool := !decide (100 < k.name.size)
def rtSm (r : Rt) : Bool := !(decide (100 < r.name.size) || decide (20 < r.nets.length) || decide (20 < r.nbs.length) || decide (20 < r.links.length)) && r.nbs.all nbSm && r.links.all lkSm
/-- Are there so few parts, with so short texts? -/
def small (c : Cf) : Bool := !(decide (20 < c.lists.length) || decide (20 < c.maps.length) || decide (12 < c.routers.length)) && c.lists.all lsSm && c.maps.all mpSm && c.routers.all rtSm
theorem all_take {α : Type} {p : α → Bool} {l : List α} {k : Nat} (h : k < l.length) (h1 : (l.take k).all p = true) (h2 : p l[k] = true) : (l.take (k + 1)).all p = true := by
  rw [List.take_succ_eq_append_getElem h, List.all_append, h1]
  simp [h2]
theorem all_bad {α : Type} {p : α → Bool} {l : List α} {k : Nat} (h : k < l.length) (h2 : p l[k] = false) : l.all p = false := by
  rw [List.all_eq_false]
  exact ⟨l[k], List.getElem_mem h, by rw [h2]; decide⟩
theorem small_f1 {c : Cf} (h : 20 < c.lists.length) : small c = false := by simp [small, h]
theorem small_f2 {c : Cf} (h : 20 < c.maps.length) : small c = false := by simp [small, h]
theorem small_f3 {c : Cf} (h : 12 < c.routers.length) : small c = false := by simp [small, h]
theorem small_f4 {c : Cf} (h : c.lists.all lsSm = false) : small c = false := by
  cases hs : small c with
  | false => rfl
  | true => simp only [small, Bool.and_eq_true] at hs; rw [h] at hs; exact absurd hs.1.1.2 (by decide)
theorem small_f5 {c : Cf} (h : c.maps.all mpSm = false) : small c = false := by
  cases hs : small c with
  | false => rfl
  | true => simp only [small, Bool.and_eq_true] at hs; rw [h] at hs; exact absurd hs.1.2 (by decide)
theorem small_f6 {c : Cf} (h : c.routers.all rtSm = false) : small c = false := by
  cases hs : small c with
  | false => rfl
  | true => simp only [small, Bool.and_eq_true] at hs; rw [h] at hs; exact absurd hs.2 (by decide)
theorem small_t {c : Cf} (h1 : ¬ 20 < c.lists.length) (h2 : ¬ 20 < c.maps.length) (h3 : ¬ 12 < c.routers.length) (h4 : c.lists.all lsSm = true) (h5 : c.maps.all mpSm = true) (h6 : c.routers.all rtSm = true) : small c = true := by
  simp only [small, h4, h5, h6, h1, h2, h3, decide_false, Bool.or_false, Bool.not_false, Bool.and_true]
theorem mp_f {a : Mp} (h : a.cls.all clSm = false) : mpSm a = false := by simp only [mpSm, h, Bool.and_false]
theorem mp_t {a : Mp} (h1 : ¬ 100 < a.name.size) (h2 : ¬ 20 < a.cls.length) (h : a.cls.all clSm = true) : mpSm a = true := by simp only [mpSm, h, h1, h2, decide_false, Bool.or_false, Bool.not_false, Bool.and_true]
theorem rt_f1 {r : Rt} (h : r.nbs.all nbSm = false) : rtSm r = false := by simp only [rtSm, h, Bool.and_false, Bool.false_and]
theorem rt_f2 {r : Rt} (h : r.links.all lkSm = false) : rtSm r = false := by simp only [rtSm, h, Bool.and_false]
theorem rt_t {r : Rt} (h1 : ¬ 100 < r.name.size) (h2 : ¬ 20 < r.nets.length) (h3 : ¬ 20 < r.nbs.length) (h4 : ¬ 20 < r.links.length) (h5 : r.nbs.all nbSm = true) (h6 : r.links.all lkSm = true) : rtSm r = true := by simp only [rtSm, h1, h2, h3, h4, h5, h6, decide_false, Bool.or_false, Bool.not_false, Bool.and_true]
theorem reach_lt : reachBytes < 140737488355329 := by decide
theorem wrap3 (a b c : Nat) (f0 : a ≤ reachBytes) (f1 : b ≤ reachBytes) (f2 : c ≤ reachBytes) : wrap64 (wrap64 ((a : Int) + (b : Int)) + (c : Int)) = (a : Int) + (b : Int) + (c : Int) := by
  have hre := reach_lt
  have e0 : wrap64 ((a : Int) + (b : Int)) = (a : Int) + (b : Int) := by unfold wrap64; omega
  rw [e0]
  unfold wrap64
  omega
theorem nb_bad {x : Nb} (h : NbFit x) (ht : (200 : Int) < wrap64 (wrap64 ((x.name.size : Int) + (x.imp.size : Int)) + (x.exp.size : Int))) : nbSm x = false := by
  rw [wrap3 _ _ _ h.1 h.2.1 h.2.2] at ht
  have : 200 < x.name.size + x.imp.size + x.exp.size := by omega
  simp [nbSm, this]
theorem nb_well {x : Nb} (h : NbFit x) (ht : ¬ (200 : Int) < wrap64 (wrap64 ((x.name.size : Int) + (x.imp.size : Int)) + (x.exp.size : Int))) : nbSm x = true := by
  rw [wrap3 _ _ _ h.1 h.2.1 h.2.2] at ht
  have : ¬ 200 < x.name.size + x.imp.size + x.exp.size := by omega
  simp only [nbSm, this, decide_false, Bool.not_false]
theorem bless {B n : Nat} {w w' : World} (h : Below n w w') (hB : B ≤ n) : Below B w w' := ⟨h.os, h.tape, h.output, h.size, fun k hk => h.block k (Nat.lt_of_lt_of_le hk hB)⟩
/-- What is known of a row, of its element k, in any later world. -/
theorem Rd.later {α : Type} {w w' : World} {z : Nat} {R : World → α → List Value → Prop} {ao : Option Addr} {n c : Nat} {l : List α} (h : Rd w z R (.slice ao n c) l) (hb : Below w.heap.size w w') {j : Nat} (hj : j < l.length) : ∃ b off xs, ao = some ⟨b, off, none⟩ ∧ b < w'.heap.size ∧ R w l[j] xs ∧ ∀ i u, xs[i]? = some u → w'.cell? ⟨b, off + j * z + i, none⟩ = some u := by
  obtain ⟨b, off, xs, h1, h2, h3, h4⟩ := h.at_ hj
  exact ⟨b, off, xs, h1, Nat.lt_of_lt_of_le h2 hb.size, h3, fun i u hu => (hb.cell (p := ⟨b, off + j * z + i, none⟩) h2).trans (h4 i u hu)⟩
set_option maxHeartbeats 16000000 in
set_option maxRecDepth 100000 in
theorem small_is (c : Cf) (v1 v2 v3 : Value) (w : World) (hc : CfR w c v1 v2 v3) (hw : Wide c) :
    Calls Tryz.prog 8 #[.agg #[v1, v2, v3]] w fun e w' => e = .returned (.bool (small c)) ∧ Below w.heap.size w w' := by
  obtain ⟨h1, h2, h3⟩ := hc
  have HWD := hide hw.2
  obtain ⟨o1, k1, rfl⟩ := h1.slice
  obtain ⟨o2, k2, rfl⟩ := h2.slice
  obtain ⟨o3, k3, rfl⟩ := h3.slice
  have R1 := hide h1
  have R2 := hide h2
  have R3 := hide h3
  have F1 := hide (small_f1 (c := c))
  have F2 := hide (small_f2 (c := c))
  have F3 := hide (small_f3 (c := c))
  have F4 := hide (fun k (hk : k < c.lists.length) (h : lsSm c.lists[k] = false) => small_f4 (c := c) (all_bad hk h))
  have F5 := hide (fun k (hk : k < c.maps.length) (h : mpSm c.maps[k] = false) => small_f5 (c := c) (all_bad hk h))
  have F6 := hide (fun k (hk : k < c.routers.length) (h : rtSm c.routers[k] = false) => small_f6 (c := c) (all_bad hk h))
  have FT := hide (small_t (c := c))
  generalize small c = R at *
  have A := balloc (brefl w) (.cells #[.slice o1 c.lists.length k1, .slice o2 c.maps.length k2, .slice o3 c.routers.length k3] 26)
  have N := hide (heap_new w #[.slice o1 c.lists.length k1, .slice o2 c.maps.length k2, .slice o3 c.routers.length k3] 26)
  have HA := hide A
  have hwl : w.heap.size < (w.alloc (.cells #[.slice o1 c.lists.length k1, .slice o2 c.maps.length k2, .slice o3 c.routers.length k3] 26)).heap.size := by rw [size_alloc]; omega
  clear h1 h2 h3 A hw
  go_enter Tryz.func8, Tryz.ntmps8
  go_upto_region 1 with fail
  obtain ⟨bc, hbc⟩ : ∃ q, w.heap.size = q := ⟨_, rfl⟩
  rw [hbc] at N hwl ⊢
  obtain ⟨w0, hw0⟩ : ∃ q, w.alloc (.cells #[.slice o1 c.lists.length k1, .slice o2 c.maps.length k2, .slice o3 c.routers.length k3] 26) = q := ⟨_, rfl⟩
  rw [hw0] at N HA hwl ⊢
  clear hw0
  have n0 := cell_of N.out 0 rfl
  have n1 := cell_of N.out 1 rfl
  have n2 := cell_of N.out 2 rfl
  have HBC := hide hbc
  by_cases g1 : 20 < c.lists.length
  · have g1' : (20 : Int) < (c.lists.length : Int) := by omega
    have HR : Hid (R = false) := F1.out g1
    go_wp2_with fail
    go_ret
    exact ⟨ret_bool HR.out.symm, by first | exact HA.out | (rw [← HBC.out]; exact HA.out)⟩
  have g1' : ¬ (20 : Int) < (c.lists.length : Int) := by omega
  by_cases g2 : 20 < c.maps.length
  · have g2' : (20 : Int) < (c.maps.length : Int) := by omega
    have HR : Hid (R = false) := F2.out g2
    go_wp2_with fail
    go_ret
    exact ⟨ret_bool HR.out.symm, by first | exact HA.out | (rw [← HBC.out]; exact HA.out)⟩
  have g2' : ¬ (20 : Int) < (c.maps.length : Int) := by omega
  by_cases g3 : 12 < c.routers.length
  · have g3' : (12 : Int) < (c.routers.length : Int) := by omega
    have HR : Hid (R = false) := F3.out g3
    go_wp2_with fail
    go_ret
    exact ⟨ret_bool HR.out.symm, by first | exact HA.out | (rw [← HBC.out]; exact HA.out)⟩
  have g3' : ¬ (12 : Int) < (c.routers.length : Int) := by omega
  have G1 := hide g1
  have G2 := hide g2
  have G3 := hide g3
  clear F1 F2 F3 g1 g2 g3
  go_wp2_with fail
  clear g1' g2' g3' n0 n1 n2
  go_loopw [3] (fun v wr => ∃ k : Nat, v = .int .i64 k ∧ k ≤ c.lists.length ∧ Hid ((c.lists.take k).all lsSm = true) ∧ Hid (Below w0.heap.size w0 wr)) (fun v _ => c.lists.length - (intOf v).toNat)
  case atStart => exact ⟨0, rfl, Nat.zero_le _, rfl, Below.refl _ w0⟩
  case round =>
    obtain ⟨k, rfl, hk, HG, HBR⟩ := hrel
    have HBZ := hide (bthen HA.out HBR.out)
    have HN := hide ((HBR.out.block bc hwl).trans N.out)
    have hBC := HBC.out
    by_cases hkl : k < c.lists.length
    · have hkl' : (k : Int) < (c.lists.length : Int) := by omega
      obtain ⟨b2, off, xs, rfl, hb2, hx, ha⟩ := R1.out.later HBZ.out hkl
      have HF := hide (F4.out k hkl)
      have HS1 : Hid (lsSm c.lists[k] = true → (c.lists.take (k + 1)).all lsSm = true) := fun h => all_take hkl HG.out h
      generalize c.lists[k] = q at *
      obtain ⟨v, rfl, hr⟩ := hx
      obtain ⟨o5, k5, rfl⟩ := hr.slice
      have e0 := ha 0 _ rfl
      have e1 := ha 1 _ rfl
      simp only [Nat.add_zero] at e0
      clear ha hr
      have n0 := cell_of HN.out 0 rfl
      have HBW := HBZ
      by_cases g1 : 100 < q.name.size
      · have g1' : (100 : Int) < (q.name.size : Int) := by omega
        have HR : Hid (R = false) := HF.out (by simp [lsSm, g1])
        clear HF HS1
        go_wp2_with fail
        go_ret
        exact ⟨ret_bool HR.out.symm, by first | exact HBW.out | (rw [← HBC.out]; exact HBW.out)⟩
      have g1' : ¬ (100 : Int) < (q.name.size : Int) := by omega
      by_cases g2 : 20 < q.rules.length
      · have g2' : (20 : Int) < (q.rules.length : Int) := by omega
        have HR : Hid (R = false) := HF.out (by simp [lsSm, g2])
        clear HF HS1
        go_wp2_with fail
        go_ret
        exact ⟨ret_bool HR.out.symm, by first | exact HBW.out | (rw [← HBC.out]; exact HBW.out)⟩
      have g2' : ¬ (20 : Int) < (q.rules.length : Int) := by omega
      have HS := hide (HS1.out (by simp [lsSm, g1, g2]))
      clear HF HS1 g1 g2
      have hG := G1.out
      go_wp2_with fail
      exact ⟨⟨k + 1, by go_num, by omega, HS, HBR⟩, by simp [intOf] <;> omega⟩
    · have hkl' : ¬ (k : Int) < (c.lists.length : Int) := by omega
      obtain rfl : k = c.lists.length := by omega
      rw [List.take_length] at HG
      have HG4 := hide HG.out
      have n0 := cell_of HN.out 0 rfl
      clear HG F4 R1
      go_wp2_with fail
      clear n0
      obtain ⟨wA, hwA⟩ : ∃ q, q = wr := ⟨_, rfl⟩
      subst hwA
      have HBA := hide HBR.out
      clear HBR HN HBZ hBC hkl hkl' hk
      go_loopw [4] (fun v wr => ∃ k : Nat, v = .int .i64 k ∧ k ≤ c.maps.length ∧ Hid ((c.maps.take k).all mpSm = true) ∧ Hid (Below w0.heap.size w0 wr)) (fun v _ => c.maps.length - (intOf v).toNat)
      case atStart => exact ⟨0, rfl, Nat.zero_le _, rfl, HBA⟩
      case round =>
        clear HBA
        obtain ⟨k, rfl, hk, HG, HBR⟩ := hrel
        have HBZ := hide (bthen HA.out HBR.out)
        have HN := hide ((HBR.out.block bc hwl).trans N.out)
        have HBW := HBZ
        by_cases hkl : k < c.maps.length
        · have hkl' : (k : Int) < (c.maps.length : Int) := by omega
          obtain ⟨b2, off, xs, rfl, hb2, hx, ha⟩ := R2.out.later HBZ.out hkl
          have HF := hide (F5.out k hkl)
          have HS1 : Hid (mpSm c.maps[k] = true → (c.maps.take (k + 1)).all mpSm = true) := fun h => all_take hkl HG.out h
          generalize c.maps[k] = q at *
          obtain ⟨v, rfl, hr⟩ := hx
          obtain ⟨o5, k5, rfl⟩ := hr.slice
          have RC := hide hr
          have HE := hide ha
          have e0 := ha 0 _ rfl
          have e1 := ha 1 _ rfl
          simp only [Nat.add_zero] at e0
          clear ha hr
          have n1 := cell_of HN.out 1 rfl
          by_cases g1 : 100 < q.name.size
          · have g1' : (100 : Int) < (q.name.size : Int) := by omega
            have HR : Hid (R = false) := HF.out (by simp [mpSm, g1])
            clear HF HS1
            go_wp2_with fail
            go_ret
            exact ⟨ret_bool HR.out.symm, by first | exact HBW.out | (rw [← HBC.out]; exact HBW.out)⟩
          have g1' : ¬ (100 : Int) < (q.name.size : Int) := by omega
          by_cases g2 : 20 < q.cls.length
          · have g2' : (20 : Int) < (q.cls.length : Int) := by omega
            have HR : Hid (R = false) := HF.out (by simp [mpSm, g2])
            clear HF HS1
            go_wp2_with fail
            go_ret
            exact ⟨ret_bool HR.out.symm, by first | exact HBW.out | (rw [← HBC.out]; exact HBW.out)⟩
          have g2' : ¬ (20 : Int) < (q.cls.length : Int) := by omega
          have FC := hide (fun j (hj : j < q.cls.length) (h : clSm q.cls[j] = false) => HF.out (mp_f (all_bad hj h)))
          have HS := hide (fun h => HS1.out (mp_t g1 g2 h))
          have GC := hide g2
          clear HF HS1 g1 g2
          go_wp2_with fail
          clear e0 e1 n1 g1' g2'
          obtain ⟨wB, hwB⟩ : ∃ q, q = wr := ⟨_, rfl⟩
          subst hwB
          have HBB := hide HBR.out
          clear HN HBZ HBW
          go_loopw [5] (fun v wr => ∃ j : Nat, v = .int .i64 j ∧ j ≤ q.cls.length ∧ Hid ((q.cls.take j).all clSm = true) ∧ Hid (Below wB.heap.size wB wr)) (fun v _ => q.cls.length - (intOf v).toNat)
          case atStart => exact ⟨0, rfl, Nat.zero_le _, rfl, Below.refl _ wB⟩
          case round =>
            obtain ⟨j, rfl, hj, HJ, HBJ⟩ := hrel
            have HBX := hide (HBB.out.trans (bless HBJ.out HBB.out.size))
            have HBZ := hide (bthen HA.out HBX.out)
            have HN := hide ((HBX.out.block bc hwl).trans N.out)
            have HBW := HBZ
            have e1 : wr.cell? ⟨b2, off + k * 2 + 1, none⟩ = some (.slice o5 q.cls.length k5) := (HBJ.out.cell (p := ⟨b2, off + k * 2 + 1, none⟩) hb2).trans (HE.out 1 _ rfl)
            have n1 := cell_of HN.out 1 rfl
            have hb2w : b2 < wr.heap.size := Nat.lt_of_lt_of_le hb2 HBJ.out.size
            by_cases hjl : j < q.cls.length
            · have hjl' : (j : Int) < (q.cls.length : Int) := by omega
              obtain ⟨b3, off3, ys, rfl, hb3, hy, hc⟩ := RC.out.later HBZ.out hjl
              have HF := hide (FC.out j hjl)
              have HS1 : Hid (clSm q.cls[j] = true → (q.cls.take (j + 1)).all clSm = true) := fun h => all_take hjl HJ.out h
              obtain ⟨nn, hnn⟩ : ∃ n, q.cls.length = n := ⟨_, rfl⟩
              generalize q.cls[j] = x at *
              obtain ⟨va, vd, vp, rfl, r1, r2, r3⟩ := hy
              obtain ⟨oa, ka, rfl⟩ := r1.slice
              obtain ⟨od, kd, rfl⟩ := r2.slice
              obtain ⟨op, kp, rfl⟩ := r3.slice
              have d0 := hc 0 _ rfl
              have d1 := hc 1 _ rfl
              have d2 := hc 2 _ rfl
              have d3 := hc 3 _ rfl
              have d4 := hc 4 _ rfl
              have d5 := hc 5 _ rfl
              have d6 := hc 6 _ rfl
              have d7 := hc 7 _ rfl
              have d8 := hc 8 _ rfl
              have d9 := hc 9 _ rfl
              have d10 := hc 10 _ rfl
              have d11 := hc 11 _ rfl
              have d12 := hc 12 _ rfl
              simp only [Nat.add_zero] at d0
              clear hc r1 r2 r3 hnn nn
              have A2 := balloc (brefl wr) (.cells #[.int .i64 x.n, .bool x.ok, .string x.m.list, .string x.m.path, .int .i64 x.m.ca, .int .i64 x.m.cn, .int .i64 x.s.pref, .int .i64 x.s.med, .int .i64 x.s.org, .slice oa x.s.add.length ka, .slice od x.s.del.length kd, .bool x.s.clr, .slice op x.s.prep.length kp] 61)
              have M2 := hide (heap_new wr #[.int .i64 x.n, .bool x.ok, .string x.m.list, .string x.m.path, .int .i64 x.m.ca, .int .i64 x.m.cn, .int .i64 x.s.pref, .int .i64 x.s.med, .int .i64 x.s.org, .slice oa x.s.add.length ka, .slice od x.s.del.length kd, .bool x.s.clr, .slice op x.s.prep.length kp] 61)
              have HBN := hide (bthen HBJ.out (bless A2 (Nat.le_refl _)))
              have HBV := hide (HBW.out.trans (bless A2 HBW.out.size))
              clear A2
              go_upto_region 17 with fail
              clear d0 d1 d2 d3 d4 d5 d6 d7 d8 d9 d10 d11 d12 e1 n1
              obtain ⟨bx, hbx⟩ : ∃ y, wr.heap.size = y := ⟨_, rfl⟩
              rw [hbx] at M2 ⊢
              clear hbx
              obtain ⟨w3, hw3⟩ : ∃ y, wr.alloc (.cells #[.int .i64 x.n, .bool x.ok, .string x.m.list, .string x.m.path, .int .i64 x.m.ca, .int .i64 x.m.cn, .int .i64 x.s.pref, .int .i64 x.s.med, .int .i64 x.s.org, .slice oa x.s.add.length ka, .slice od x.s.del.length kd, .bool x.s.clr, .slice op x.s.prep.length kp] 61) = y := ⟨_, rfl⟩
              rw [hw3] at M2 HBN HBV ⊢
              clear hw3
              have m2 := cell_of M2.out 2 rfl
              have m3 := cell_of M2.out 3 rfl
              have m9 := cell_of M2.out 9 rfl
              have m10 := cell_of M2.out 10 rfl
              have m12 := cell_of M2.out 12 rfl
              by_cases g1 : 100 < x.m.list.size
              · have g1' : (100 : Int) < (x.m.list.size : Int) := by omega
                have HR : Hid (R = false) := HF.out (by simp [clSm, g1])
                clear HF HS1
                go_wp2_with fail
                go_ret
                exact ⟨ret_bool HR.out.symm, by first | exact HBV.out | (rw [← HBC.out]; exact HBV.out)⟩
              have g1' : ¬ (100 : Int) < (x.m.list.size : Int) := by omega
              by_cases g2 : 100 < x.m.path.size
              · have g2' : (100 : Int) < (x.m.path.size : Int) := by omega
                have HR : Hid (R = false) := HF.out (by simp [clSm, g2])
                clear HF HS1
                go_wp2_with fail
                go_ret
                exact ⟨ret_bool HR.out.symm, by first | exact HBV.out | (rw [← HBC.out]; exact HBV.out)⟩
              have g2' : ¬ (100 : Int) < (x.m.path.size : Int) := by omega
              by_cases g3 : 20 < x.s.add.length
              · have g3' : (20 : Int) < (x.s.add.length : Int) := by omega
                have HR : Hid (R = false) := HF.out (by simp [clSm, g3])
                clear HF HS1
                go_wp2_with fail
                go_ret
                exact ⟨ret_bool HR.out.symm, by first | exact HBV.out | (rw [← HBC.out]; exact HBV.out)⟩
              have g3' : ¬ (20 : Int) < (x.s.add.length : Int) := by omega
              by_cases g4 : 20 < x.s.del.length
              · have g4' : (20 : Int) < (x.s.del.length : Int) := by omega
                have HR : Hid (R = false) := HF.out (by simp [clSm, g4])
                clear HF HS1
                go_wp2_with fail
                go_ret
                exact ⟨ret_bool HR.out.symm, by first | exact HBV.out | (rw [← HBC.out]; exact HBV.out)⟩
              have g4' : ¬ (20 : Int) < (x.s.del.length : Int) := by omega
              by_cases g5 : 30 < x.s.prep.length
              · have g5' : (30 : Int) < (x.s.prep.length : Int) := by omega
                have HR : Hid (R = false) := HF.out (by simp [clSm, g5])
                clear HF HS1
                go_wp2_with fail
                go_ret
                exact ⟨ret_bool HR.out.symm, by first | exact HBV.out | (rw [← HBC.out]; exact HBV.out)⟩
              have g5' : ¬ (30 : Int) < (x.s.prep.length : Int) := by omega
              have HSN := hide (HS1.out (by simp [clSm, g1, g2, g3, g4, g5]))
              clear HF HS1 g1 g2 g3 g4 g5
              have hG := GC.out
              go_wp2_with fail
              exact ⟨⟨j + 1, by go_num, by omega, HSN, HBN⟩, by simp [intOf] <;> omega⟩
            · have hjl' : ¬ (j : Int) < (q.cls.length : Int) := by omega
              obtain rfl : j = q.cls.length := by omega
              rw [List.take_length] at HJ
              have HSN := hide (HS.out HJ.out)
              have HBN := hide HBX.out
              have hG := G2.out
              go_wp2_with fail
              exact ⟨⟨k + 1, by go_num, by omega, HSN, HBN⟩, by simp [intOf] <;> omega⟩
        · have hkl' : ¬ (k : Int) < (c.maps.length : Int) := by omega
          obtain rfl : k = c.maps.length := by omega
          rw [List.take_length] at HG
          have HG5 := hide HG.out
          have n1 := cell_of HN.out 1 rfl
          clear HG F5 R2
          go_wp2_with fail
          clear n1
          obtain ⟨wC, hwC⟩ : ∃ q, q = wr := ⟨_, rfl⟩
          subst hwC
          have HBA := hide HBR.out
          clear HBR HN HBZ HBW hkl hkl' hk
          go_loopw [7] (fun v wr => ∃ k : Nat, v = .int .i64 k ∧ k ≤ c.routers.length ∧ Hid ((c.routers.take k).all rtSm = true) ∧ Hid (Below w0.heap.size w0 wr)) (fun v _ => c.routers.length - (intOf v).toNat)
          case atStart => exact ⟨0, rfl, Nat.zero_le _, rfl, HBA⟩
          case round =>
            clear HBA
            obtain ⟨k, rfl, hk, HG, HBR⟩ := hrel
            have HBZ := hide (bthen HA.out HBR.out)
            have HN := hide ((HBR.out.block bc hwl).trans N.out)
            have HBW := HBZ
            by_cases hkl : k < c.routers.length
            · have hkl' : (k : Int) < (c.routers.length : Int) := by omega
              obtain ⟨b2, off, xs, rfl, hb2, hx, ha⟩ := R3.out.later HBZ.out hkl
              have HF := hide (F6.out k hkl)
              have HS1 : Hid (rtSm c.routers[k] = true → (c.routers.take (k + 1)).all rtSm = true) := fun h => all_take hkl HG.out h
              have HWN := hide (HWD.out c.routers[k] (List.getElem_mem hkl)).2
              generalize c.routers[k] = q at *
              obtain ⟨vn, vb, vl, rfl, r1, r2, r3⟩ := hx
              obtain ⟨on, kn, rfl⟩ := r1.slice
              obtain ⟨ob, kb, rfl⟩ := r2.slice
              obtain ⟨ol, kl, rfl⟩ := r3.slice
              have RB := hide r2
              have RL := hide r3
              have e0 := ha 0 _ rfl
              have e1 := ha 1 _ rfl
              have e2 := ha 2 _ rfl
              have e3 := ha 3 _ rfl
              have e4 := ha 4 _ rfl
              have e5 := ha 5 _ rfl
              simp only [Nat.add_zero] at e0
              clear ha r1 r2 r3
              have n2 := cell_of HN.out 2 rfl
              have A2 := balloc (brefl wr) (.cells #[.string q.name, .int .i64 q.asn, .int .i64 q.id, .slice on q.nets.length kn, .slice ob q.nbs.length kb, .slice ol q.links.length kl] 66)
              have M2 := hide (heap_new wr #[.string q.name, .int .i64 q.asn, .int .i64 q.id, .slice on q.nets.length kn, .slice ob q.nbs.length kb, .slice ol q.links.length kl] 66)
              have HBN := hide (HBR.out.trans (bless A2 HBR.out.size))
              have hbxl : wr.heap.size < (wr.alloc (.cells #[.string q.name, .int .i64 q.asn, .int .i64 q.id, .slice on q.nets.length kn, .slice ob q.nbs.length kb, .slice ol q.links.length kl] 66)).heap.size := by rw [size_alloc]; omega
              clear A2 HBZ HBW HN
              go_upto_region 23 with fail
              clear e0 e1 e2 e3 e4 e5 n2
              obtain ⟨bx, hbx⟩ : ∃ y, wr.heap.size = y := ⟨_, rfl⟩
              rw [hbx] at M2 hbxl ⊢
              clear hbx
              obtain ⟨w3, hw3⟩ : ∃ y, wr.alloc (.cells #[.string q.name, .int .i64 q.asn, .int .i64 q.id, .slice on q.nets.length kn, .slice ob q.nbs.length kb, .slice ol q.links.length kl] 66) = y := ⟨_, rfl⟩
              rw [hw3] at M2 HBN hbxl ⊢
              clear hw3
              have HBV := hide (bthen HA.out HBN.out)
              have m0 := cell_of M2.out 0 rfl
              have m3 := cell_of M2.out 3 rfl
              have m4 := cell_of M2.out 4 rfl
              have m5 := cell_of M2.out 5 rfl
              by_cases g1 : 100 < q.name.size
              · have g1' : (100 : Int) < (q.name.size : Int) := by omega
                have HR : Hid (R = false) := HF.out (by simp [rtSm, g1])
                clear HF HS1
                go_wp2_with fail
                go_ret
                exact ⟨ret_bool HR.out.symm, by first | exact HBV.out | (rw [← HBC.out]; exact HBV.out)⟩
              have g1' : ¬ (100 : Int) < (q.name.size : Int) := by omega
              by_cases g2 : 20 < q.nets.length
              · have g2' : (20 : Int) < (q.nets.length : Int) := by omega
                have HR : Hid (R = false) := HF.out (by simp [rtSm, g2])
                clear HF HS1
                go_wp2_with fail
                go_ret
                exact ⟨ret_bool HR.out.symm, by first | exact HBV.out | (rw [← HBC.out]; exact HBV.out)⟩
              have g2' : ¬ (20 : Int) < (q.nets.length : Int) := by omega
              by_cases g3 : 20 < q.nbs.length
              · have g3' : (20 : Int) < (q.nbs.length : Int) := by omega
                have HR : Hid (R = false) := HF.out (by simp [rtSm, g3])
                clear HF HS1
                go_wp2_with fail
                go_ret
                exact ⟨ret_bool HR.out.symm, by first | exact HBV.out | (rw [← HBC.out]; exact HBV.out)⟩
              have g3' : ¬ (20 : Int) < (q.nbs.length : Int) := by omega
              by_cases g4 : 20 < q.links.length
              · have g4' : (20 : Int) < (q.links.length : Int) := by omega
                have HR : Hid (R = false) := HF.out (by simp [rtSm, g4])
                clear HF HS1
                go_wp2_with fail
                go_ret
                exact ⟨ret_bool HR.out.symm, by first | exact HBV.out | (rw [← HBC.out]; exact HBV.out)⟩
              have g4' : ¬ (20 : Int) < (q.links.length : Int) := by omega
              have FB := hide (fun j (hj : j < q.nbs.length) (h : nbSm q.nbs[j] = false) => HF.out (rt_f1 (all_bad hj h)))
              have FL := hide (fun j (hj : j < q.links.length) (h : lkSm q.links[j] = false) => HF.out (rt_f2 (all_bad hj h)))
              have HS := hide (fun h5 h6 => HS1.out (rt_t g1 g2 g3 g4 h5 h6))
              have GB := hide g3
              have GL := hide g4
              clear HF HS1 g1 g2 g3 g4
              go_wp2_with fail
              clear m0 m3 m4 m5 g1' g2' g3' g4'
              clear hb2 HBR
              obtain ⟨wE, hwE⟩ : ∃ q, q = wr := ⟨_, rfl⟩
              subst hwE
              go_loopw [9] (fun v wr => ∃ j : Nat, v = .int .i64 j ∧ j ≤ q.nbs.length ∧ Hid ((q.nbs.take j).all nbSm = true) ∧ Hid (Below w3.heap.size w3 wr)) (fun v _ => q.nbs.length - (intOf v).toNat)
              case atStart => exact ⟨0, rfl, Nat.zero_le _, rfl, Below.refl _ w3⟩
              case round =>
                obtain ⟨j, rfl, hj, HJ, HBJ⟩ := hrel
                have HBX := hide (HBN.out.trans (bless HBJ.out HBN.out.size))
                have HBZ := hide (bthen HA.out HBX.out)
                have HBW := HBZ
                have HM := hide ((HBJ.out.block bx hbxl).trans M2.out)
                have m4 := cell_of HM.out 4 rfl
                by_cases hjl : j < q.nbs.length
                · have hjl' : (j : Int) < (q.nbs.length : Int) := by omega
                  obtain ⟨b3, off3, ys, rfl, hb3, hy, hc⟩ := RB.out.later HBZ.out hjl
                  have HF := hide (FB.out j hjl)
                  have HS1 : Hid (nbSm q.nbs[j] = true → (q.nbs.take (j + 1)).all nbSm = true) := fun h => all_take hjl HJ.out h
                  have hft := HWN.out q.nbs[j] (List.getElem_mem hjl)
                  generalize q.nbs[j] = x at *
                  unfold NbR at hy
                  subst hy
                  have d0 := hc 0 _ rfl
                  have d1 := hc 1 _ rfl
                  have d2 := hc 2 _ rfl
                  simp only [Nat.add_zero] at d0
                  clear hc
                  have HTB := hide (nb_bad hft)
                  have HTG := hide (nb_well hft)
                  clear hft
                  obtain ⟨zn, zi, ze, zc⟩ := x
                  simp only at d0 d1 d2
                  have rm4 := fun dd os => cell_regrown m4 dd os
                  have rd0 := fun dd os => cell_regrown d0 dd os
                  have rd1 := fun dd os => cell_regrown d1 dd os
                  have rd2 := fun dd os => cell_regrown d2 dd os
                  go_wp2_with fail
                  refine wp_region_quiet_below (by kernel_rfl) (by kernel_rfl) ?_
                  iterate 24 (go_big_quiet_step (fail))
                  refine wpQuiet_nil ?_
                  rintro _ ⟨⟨dd, os⟩, rfl⟩
                  have hb1 := below_regrown wr dd os
                  generalize Sort.grow (redrawn wr dd) os = w5 at hb1
                  have HBN2 := hide (bthen HBJ.out hb1)
                  have HBV2 := hide (HBW.out.trans (bless hb1 HBW.out.size))
                  clear hb1 rm4 rd0 rd1 rd2 m4 d0 d1 d2
                  try simp only at HTB HTG
                  generalize wrap64 (wrap64 ((zn.size : Int) + (zi.size : Int)) + (ze.size : Int)) = zz at *
                  by_cases ht : (200 : Int) < zz
                  · have HR : Hid (R = false) := HF.out (HTB.out ht)
                    clear HF HS1 HTB HTG
                    go_wp2_with fail
                    go_ret
                    exact ⟨ret_bool HR.out.symm, by first | exact HBV2.out | (rw [← HBC.out]; exact HBV2.out)⟩
                  · have HSN := hide (HS1.out (HTG.out (by omega)))
                    clear HF HS1 HTB HTG
                    have hG := GB.out
                    go_wp2_with fail
                    exact ⟨⟨j + 1, by go_num, by omega, HSN, HBN2⟩, by simp [intOf] <;> omega⟩
                · have hjl' : ¬ (j : Int) < (q.nbs.length : Int) := by omega
                  obtain rfl : j = q.nbs.length := by omega
                  rw [List.take_length] at HJ
                  have HJ5 := hide HJ.out
                  clear HJ FB RB
                  go_wp2_with fail
                  clear m4 HM HBW HBZ hjl hjl' hj
                  obtain ⟨wD, hwD⟩ : ∃ q, q = wr := ⟨_, rfl⟩
                  subst hwD
                  have HBD := hide HBJ.out
                  clear HBJ HBX
                  go_loopw [10] (fun v wr => ∃ j : Nat, v = .int .i64 j ∧ j ≤ q.links.length ∧ Hid ((q.links.take j).all lkSm = true) ∧ Hid (Below w3.heap.size w3 wr)) (fun v _ => q.links.length - (intOf v).toNat)
                  case atStart => exact ⟨0, rfl, Nat.zero_le _, rfl, HBD⟩
                  case round =>
                    clear HBD
                    obtain ⟨j, rfl, hj, HJ, HBJ⟩ := hrel
                    have HBX := hide (HBN.out.trans (bless HBJ.out HBN.out.size))
                    have HBZ := hide (bthen HA.out HBX.out)
                    have HBW := HBZ
                    have HM := hide ((HBJ.out.block bx hbxl).trans M2.out)
                    have m5 := cell_of HM.out 5 rfl
                    by_cases hjl : j < q.links.length
                    · have hjl' : (j : Int) < (q.links.length : Int) := by omega
                      obtain ⟨b3, off3, ys, rfl, hb3, hy, hc⟩ := RL.out.later HBZ.out hjl
                      have HF := hide (FL.out j hjl)
                      have HS1 : Hid (lkSm q.links[j] = true → (q.links.take (j + 1)).all lkSm = true) := fun h => all_take hjl HJ.out h
                      generalize q.links[j] = x at *
                      unfold LkR at hy
                      subst hy
                      have d0 := hc 0 _ rfl
                      simp only [Nat.add_zero] at d0
                      clear hc
                      by_cases g1 : 100 < x.name.size
                      · have g1' : (100 : Int) < (x.name.size : Int) := by omega
                        have HR : Hid (R = false) := HF.out (by simp [lkSm, g1])
                        clear HF HS1
                        go_wp2_with fail
                        go_ret
                        exact ⟨ret_bool HR.out.symm, by first | exact HBW.out | (rw [← HBC.out]; exact HBW.out)⟩
                      have g1' : ¬ (100 : Int) < (x.name.size : Int) := by omega
                      have HSN := hide (HS1.out (by simp [lkSm, g1]))
                      clear HF HS1 g1
                      have hG := GL.out
                      go_wp2_with fail
                      exact ⟨⟨j + 1, by go_num, by omega, HSN, HBJ⟩, by simp [intOf] <;> omega⟩
                    · have hjl' : ¬ (j : Int) < (q.links.length : Int) := by omega
                      obtain rfl : j = q.links.length := by omega
                      rw [List.take_length] at HJ
                      have HSN := hide (HS.out HJ5.out HJ.out)
                      have HBK := hide HBX.out
                      clear FL RL
                      have hG := G3.out
                      go_wp2_with fail
                      exact ⟨⟨k + 1, by go_num, by omega, HSN, HBK⟩, by simp [intOf] <;> omega⟩
            · have hkl' : ¬ (k : Int) < (c.routers.length : Int) := by omega
              obtain rfl : k = c.routers.length := by omega
              rw [List.take_length] at HG
              have HR : Hid (R = true) := FT.out G1.out G2.out G3.out HG4.out HG5.out HG.out
              have n2 := cell_of HN.out 2 rfl
              clear F6 FT
              go_wp2_with fail
              go_ret
              exact ⟨ret_bool HR.out.symm, by first | exact HBW.out | (rw [← HBC.out]; exact HBW.out)⟩
end Go.Proofs.YtpmmhmgojjlniaaGreatDoor
