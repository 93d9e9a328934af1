/- The law's names. -/
import Derived.Test.YtpmmhmgojjlniaaGreatDoorO24
import Derived.Test.YtpmmhmgojjlniaaGreatDoorO34
import Derived.Test.YtpmmhmgojjlniaaGreatDoorO41
namespace Go.Proofs.YtpmmhmgojjlniaaGreatDoor
open Go.RowKit Go.Sort

/-- The names of the lists, the maps, or the routers. -/
def nmsOf (c : Cf) : Nat → List ByteArray
  | 0 => c.lists.map Ls.name
  | 1 => c.maps.map Mp.name
  | _ => c.routers.map Rt.name
theorem nms_snoc {α : Type} (f : α → ByteArray) (l : List α) (k : Nat) (h : k < l.length) : ((l.take (k + 1)).map f).map Value.string = ((l.take k).map f).map Value.string ++ [.string (f l[k])] := by
  rw [List.take_succ_eq_append_getElem h]
  simp only [List.map_append, List.map_cons, List.map_nil]
/-- A row of texts that is told. -/
def TextsAre (w : World) (e : Ending) (w' : World) (l : List ByteArray) : Prop := ∃ v B, e = .returned v ∧ w.heap.size ≤ B ∧ w'.ownsRow B 9 1 v l.length (l.map Value.string) ∧ Below w.heap.size w w'
set_option maxHeartbeats 8000000 in
set_option maxRecDepth 100000 in
theorem names0_is (c : Cf) (v1 v2 v3 : Value) (w : World) (hc : CfR w c v1 v2 v3) (hn : c.lists.length ≤ 900 ∧ c.maps.length ≤ 900 ∧ c.routers.length ≤ 900) :
    Calls Tryz.prog 18 #[.agg #[v1, v2, v3], .int .i64 0] w fun e w' => TextsAre w e w' (nmsOf c 0) := by
  obtain ⟨h1, h2, h3⟩ := hc
  obtain ⟨o1, k1, rfl⟩ := h1.slice
  obtain ⟨o2, k2, rfl⟩ := h2.slice
  obtain ⟨o3, k3, rfl⟩ := h3.slice
  have HRD := hide h1
  obtain ⟨hn1, hn2, hn3⟩ := hn
  have A := balloc (brefl w) (.cells #[.slice o1 c.lists.length k1, .slice o2 c.maps.length k2, .slice o3 c.routers.length k3] 26)
  have N := hide (heap_new w #[.slice o1 c.lists.length k1, .slice o2 c.maps.length k2, .slice o3 c.routers.length k3] 26)
  have HA := hide A
  have hwl : w.heap.size < (w.alloc (.cells #[.slice o1 c.lists.length k1, .slice o2 c.maps.length k2, .slice o3 c.routers.length k3] 26)).heap.size := by rw [size_alloc]; omega
  have HW0 : w.heap.size ≤ (w.alloc (.cells #[.slice o1 c.lists.length k1, .slice o2 c.maps.length k2, .slice o3 c.routers.length k3] 26)).heap.size := by omega
  clear h1 h2 h3 A
  go_enter Tryz.func18, Tryz.ntmps18
  go_upto_region 1 with fail
  obtain ⟨bc, hbc⟩ : ∃ q, w.heap.size = q := ⟨_, rfl⟩
  rw [hbc] at N hwl ⊢
  clear hbc
  obtain ⟨w0, hw0⟩ : ∃ q, w.alloc (.cells #[.slice o1 c.lists.length k1, .slice o2 c.maps.length k2, .slice o3 c.routers.length k3] 26) = q := ⟨_, rfl⟩
  rw [hw0] at N HA hwl HW0 ⊢
  clear hw0
  go_wp2_with fail
  go_loopw [5, 6] (fun v5 v6 wr => ∃ (k : Nat) (o : Option Addr) (cp : Nat), v6 = .int .i64 k ∧ v5 = .slice o k cp ∧ k ≤ c.lists.length ∧ Hid (wr.ownsRow w0.heap.size 9 1 (.slice o k cp) k (((c.lists.take k).map Ls.name).map Value.string)) ∧ Hid (Below w0.heap.size w0 wr)) (fun _ v6 _ => c.lists.length - (intOf v6).toNat)
  case atStart => exact ⟨0, none, 0, rfl, rfl, Nat.zero_le _, ⟨by simp, .inl ⟨rfl, rfl⟩⟩, Below.refl _ w0⟩
  case round =>
    obtain ⟨k, o, cp, rfl, rfl, hk, HO, HBR⟩ := hrel
    have HN := hide ((HBR.out.block bc hwl).trans N.out)
    have nK := cell_of HN.out 0 rfl
    by_cases hkl : k < c.lists.length
    · have hkl' : (k : Int) < (c.lists.length : Int) := by omega
      have HNS := hide (nms_snoc Ls.name c.lists k hkl)
      obtain ⟨b2, off2, xs, rfl, hbw, hx, ha⟩ := HRD.out.later (bthen HA.out HBR.out) hkl
      obtain ⟨XS, hXS⟩ : ∃ x, ((c.lists.take k).map Ls.name).map Value.string = x := ⟨_, rfl⟩
      obtain ⟨XN, hXN⟩ : ∃ x, ((c.lists.take (k + 1)).map Ls.name).map Value.string = x := ⟨_, rfl⟩
      have HXN := hide hXN
      rw [hXS] at HO HNS
      rw [hXN] at HNS
      clear hXS hXN
      generalize c.lists[k] = q at *
      obtain ⟨v, hxe, _⟩ := hx
      subst hxe
      have e0 := ha 0 _ rfl
      simp only [Nat.add_zero] at e0
      clear ha
      generalize q.name = t at *
      have B3 := hide HBR.out
      have HO3 := hide HO.out
      clear HO HBR
      go_wp2_with (at_builtin; go_must (refine append_str1 (w0 := w0) rfl _ _ rfl _ k _ rfl (HO3.out.alloc _) wr.heap.size 1 t rfl ?c1 (by omega) (balloc B3.out _) ?_))
      case c1 => simp
      intro v' w4 hnew hb4
      obtain ⟨no, nc, rfl⟩ := Ar.row_slice hnew
      rw [← HNS.out] at hnew
      have HNW := hide hnew
      have B4 := hide hb4
      clear hnew hb4
      go_wp2_with fail
      exact ⟨⟨k + 1, no, nc, by go_num, rfl, by omega, (by rw [HXN.out]; exact HNW), B4⟩, by simp [intOf] <;> omega⟩
    · have hkl' : ¬ (k : Int) < (c.lists.length : Int) := by omega
      obtain rfl : k = c.lists.length := by omega
      rw [List.take_length] at HO
      go_wp2_with fail
      clear nK
      obtain ⟨wE1, hwE⟩ : ∃ q, q = wr := ⟨_, rfl⟩
      subst hwE
      go_loopw [5, 7] (fun v5 v wr => v5 = .slice o c.lists.length cp ∧ v = .int .i64 0 ∧ wr = wE1) (fun _ _ _ => 0)
      case atStart => exact ⟨rfl, rfl, rfl⟩
      case round =>
        obtain ⟨rfl, rfl, hw⟩ := hrel
        subst hw
        have nJ := cell_of HN.out 1 rfl
        by_cases hz1 : (0 : Int) < (c.maps.length : Int)
        all_goals (
          go_wp2_with fail
          clear nJ
          obtain ⟨wE2, hwE⟩ : ∃ q, q = wr := ⟨_, rfl⟩
          subst hwE
          go_loopw [5, 8] (fun v5 v wr => v5 = .slice o c.lists.length cp ∧ v = .int .i64 0 ∧ wr = wE2) (fun _ _ _ => 0)
          case atStart => exact ⟨rfl, rfl, rfl⟩
          case round =>
            obtain ⟨rfl, rfl, hw⟩ := hrel
            subst hw
            have nJ := cell_of HN.out 2 rfl
            by_cases hz2 : (0 : Int) < (c.routers.length : Int)
            all_goals (
              go_wp2_with fail
              clear nJ
              go_ret
              exact ⟨.slice o c.lists.length cp, w0.heap.size, rfl, HW0, by rw [show nmsOf c 0 = c.lists.map Ls.name from rfl, List.length_map]; exact HO.out, HA.out.trans (below_less HBR.out HW0)⟩))
set_option maxHeartbeats 8000000 in
set_option maxRecDepth 100000 in
theorem names1_is (c : Cf) (v1 v2 v3 : Value) (w : World) (hc : CfR w c v1 v2 v3) (hn : c.lists.length ≤ 900 ∧ c.maps.length ≤ 900 ∧ c.routers.length ≤ 900) :
    Calls Tryz.prog 18 #[.agg #[v1, v2, v3], .int .i64 1] w fun e w' => TextsAre w e w' (nmsOf c 1) := by
  obtain ⟨h1, h2, h3⟩ := hc
  obtain ⟨o1, k1, rfl⟩ := h1.slice
  obtain ⟨o2, k2, rfl⟩ := h2.slice
  obtain ⟨o3, k3, rfl⟩ := h3.slice
  have HRD := hide h2
  obtain ⟨hn1, hn2, hn3⟩ := hn
  have A := balloc (brefl w) (.cells #[.slice o1 c.lists.length k1, .slice o2 c.maps.length k2, .slice o3 c.routers.length k3] 26)
  have N := hide (heap_new w #[.slice o1 c.lists.length k1, .slice o2 c.maps.length k2, .slice o3 c.routers.length k3] 26)
  have HA := hide A
  have hwl : w.heap.size < (w.alloc (.cells #[.slice o1 c.lists.length k1, .slice o2 c.maps.length k2, .slice o3 c.routers.length k3] 26)).heap.size := by rw [size_alloc]; omega
  have HW0 : w.heap.size ≤ (w.alloc (.cells #[.slice o1 c.lists.length k1, .slice o2 c.maps.length k2, .slice o3 c.routers.length k3] 26)).heap.size := by omega
  clear h1 h2 h3 A
  go_enter Tryz.func18, Tryz.ntmps18
  go_upto_region 1 with fail
  obtain ⟨bc, hbc⟩ : ∃ q, w.heap.size = q := ⟨_, rfl⟩
  rw [hbc] at N hwl ⊢
  clear hbc
  obtain ⟨w0, hw0⟩ : ∃ q, w.alloc (.cells #[.slice o1 c.lists.length k1, .slice o2 c.maps.length k2, .slice o3 c.routers.length k3] 26) = q := ⟨_, rfl⟩
  rw [hw0] at N HA hwl HW0 ⊢
  clear hw0
  go_wp2_with fail
  go_loopw [5, 6] (fun v5 v wr => v5 = .slice none 0 0 ∧ v = .int .i64 0 ∧ wr = w0) (fun _ _ _ => 0)
  case atStart => exact ⟨rfl, rfl, rfl⟩
  case round =>
    obtain ⟨rfl, rfl, hw⟩ := hrel
    rw [hw]
    clear hw
    have n0 := cell_of N.out 0 rfl
    by_cases hz0 : (0 : Int) < (c.lists.length : Int)
    all_goals (
      go_wp2_with fail
      clear n0
      go_loopw [5, 7] (fun v5 v6 wr => ∃ (k : Nat) (o : Option Addr) (cp : Nat), v6 = .int .i64 k ∧ v5 = .slice o k cp ∧ k ≤ c.maps.length ∧ Hid (wr.ownsRow w0.heap.size 9 1 (.slice o k cp) k (((c.maps.take k).map Mp.name).map Value.string)) ∧ Hid (Below w0.heap.size w0 wr)) (fun _ v6 _ => c.maps.length - (intOf v6).toNat)
      case atStart => exact ⟨0, none, 0, rfl, rfl, Nat.zero_le _, ⟨by simp, .inl ⟨rfl, rfl⟩⟩, Below.refl _ w0⟩
      case round =>
        obtain ⟨k, o, cp, rfl, rfl, hk, HO, HBR⟩ := hrel
        have HN := hide ((HBR.out.block bc hwl).trans N.out)
        have nK := cell_of HN.out 1 rfl
        by_cases hkl : k < c.maps.length
        · have hkl' : (k : Int) < (c.maps.length : Int) := by omega
          have HNS := hide (nms_snoc Mp.name c.maps k hkl)
          obtain ⟨b2, off2, xs, rfl, hbw, hx, ha⟩ := HRD.out.later (bthen HA.out HBR.out) hkl
          obtain ⟨XS, hXS⟩ : ∃ x, ((c.maps.take k).map Mp.name).map Value.string = x := ⟨_, rfl⟩
          obtain ⟨XN, hXN⟩ : ∃ x, ((c.maps.take (k + 1)).map Mp.name).map Value.string = x := ⟨_, rfl⟩
          have HXN := hide hXN
          rw [hXS] at HO HNS
          rw [hXN] at HNS
          clear hXS hXN
          generalize c.maps[k] = q at *
          obtain ⟨v, hxe, _⟩ := hx
          subst hxe
          have e0 := ha 0 _ rfl
          simp only [Nat.add_zero] at e0
          clear ha
          generalize q.name = t at *
          have B3 := hide HBR.out
          have HO3 := hide HO.out
          clear HO HBR
          go_wp2_with (at_builtin; go_must (refine append_str1 (w0 := w0) rfl _ _ rfl _ k _ rfl (HO3.out.alloc _) wr.heap.size 1 t rfl ?c1 (by omega) (balloc B3.out _) ?_))
          case c1 => simp
          intro v' w4 hnew hb4
          obtain ⟨no, nc, rfl⟩ := Ar.row_slice hnew
          rw [← HNS.out] at hnew
          have HNW := hide hnew
          have B4 := hide hb4
          clear hnew hb4
          go_wp2_with fail
          exact ⟨⟨k + 1, no, nc, by go_num, rfl, by omega, (by rw [HXN.out]; exact HNW), B4⟩, by simp [intOf] <;> omega⟩
        · have hkl' : ¬ (k : Int) < (c.maps.length : Int) := by omega
          obtain rfl : k = c.maps.length := by omega
          rw [List.take_length] at HO
          go_wp2_with fail
          clear nK
          obtain ⟨wE2, hwE⟩ : ∃ q, q = wr := ⟨_, rfl⟩
          subst hwE
          go_loopw [5, 8] (fun v5 v wr => v5 = .slice o c.maps.length cp ∧ v = .int .i64 0 ∧ wr = wE2) (fun _ _ _ => 0)
          case atStart => exact ⟨rfl, rfl, rfl⟩
          case round =>
            obtain ⟨rfl, rfl, hw⟩ := hrel
            subst hw
            have nJ := cell_of HN.out 2 rfl
            by_cases hz2 : (0 : Int) < (c.routers.length : Int)
            all_goals (
              go_wp2_with fail
              clear nJ
              go_ret
              exact ⟨.slice o c.maps.length cp, w0.heap.size, rfl, HW0, by rw [show nmsOf c 1 = c.maps.map Mp.name from rfl, List.length_map]; exact HO.out, HA.out.trans (below_less HBR.out HW0)⟩))
set_option maxHeartbeats 8000000 in
set_option maxRecDepth 100000 in
theorem names2_is (c : Cf) (v1 v2 v3 : Value) (w : World) (hc : CfR w c v1 v2 v3) (hn : c.lists.length ≤ 900 ∧ c.maps.length ≤ 900 ∧ c.routers.length ≤ 900) :
    Calls Tryz.prog 18 #[.agg #[v1, v2, v3], .int .i64 2] w fun e w' => TextsAre w e w' (nmsOf c 2) := by
  obtain ⟨h1, h2, h3⟩ := hc
  obtain ⟨o1, k1, rfl⟩ := h1.slice
  obtain ⟨o2, k2, rfl⟩ := h2.slice
  obtain ⟨o3, k3, rfl⟩ := h3.slice
  have HRD := hide h3
  obtain ⟨hn1, hn2, hn3⟩ := hn
  have A := balloc (brefl w) (.cells #[.slice o1 c.lists.length k1, .slice o2 c.maps.length k2, .slice o3 c.routers.length k3] 26)
  have N := hide (heap_new w #[.slice o1 c.lists.length k1, .slice o2 c.maps.length k2, .slice o3 c.routers.length k3] 26)
  have HA := hide A
  have hwl : w.heap.size < (w.alloc (.cells #[.slice o1 c.lists.length k1, .slice o2 c.maps.length k2, .slice o3 c.routers.length k3] 26)).heap.size := by rw [size_alloc]; omega
  have HW0 : w.heap.size ≤ (w.alloc (.cells #[.slice o1 c.lists.length k1, .slice o2 c.maps.length k2, .slice o3 c.routers.length k3] 26)).heap.size := by omega
  clear h1 h2 h3 A
  go_enter Tryz.func18, Tryz.ntmps18
  go_upto_region 1 with fail
  obtain ⟨bc, hbc⟩ : ∃ q, w.heap.size = q := ⟨_, rfl⟩
  rw [hbc] at N hwl ⊢
  clear hbc
  obtain ⟨w0, hw0⟩ : ∃ q, w.alloc (.cells #[.slice o1 c.lists.length k1, .slice o2 c.maps.length k2, .slice o3 c.routers.length k3] 26) = q := ⟨_, rfl⟩
  rw [hw0] at N HA hwl HW0 ⊢
  clear hw0
  go_wp2_with fail
  go_loopw [5, 6] (fun v5 v wr => v5 = .slice none 0 0 ∧ v = .int .i64 0 ∧ wr = w0) (fun _ _ _ => 0)
  case atStart => exact ⟨rfl, rfl, rfl⟩
  case round =>
    obtain ⟨rfl, rfl, hw⟩ := hrel
    rw [hw]
    clear hw
    have n0 := cell_of N.out 0 rfl
    by_cases hz0 : (0 : Int) < (c.lists.length : Int)
    all_goals (
      go_wp2_with fail
      clear n0
      go_loopw [5, 7] (fun v5 v wr => v5 = .slice none 0 0 ∧ v = .int .i64 0 ∧ wr = w0) (fun _ _ _ => 0)
      case atStart => exact ⟨rfl, rfl, rfl⟩
      case round =>
        obtain ⟨rfl, rfl, hw⟩ := hrel
        rw [hw]
        clear hw
        have n1 := cell_of N.out 1 rfl
        by_cases hz1 : (0 : Int) < (c.maps.length : Int)
        all_goals (
          go_wp2_with fail
          clear n1
          go_loopw [5, 8] (fun v5 v6 wr => ∃ (k : Nat) (o : Option Addr) (cp : Nat), v6 = .int .i64 k ∧ v5 = .slice o k cp ∧ k ≤ c.routers.length ∧ Hid (wr.ownsRow w0.heap.size 9 1 (.slice o k cp) k (((c.routers.take k).map Rt.name).map Value.string)) ∧ Hid (Below w0.heap.size w0 wr)) (fun _ v6 _ => c.routers.length - (intOf v6).toNat)
          case atStart => exact ⟨0, none, 0, rfl, rfl, Nat.zero_le _, ⟨by simp, .inl ⟨rfl, rfl⟩⟩, Below.refl _ w0⟩
          case round =>
            obtain ⟨k, o, cp, rfl, rfl, hk, HO, HBR⟩ := hrel
            have HN := hide ((HBR.out.block bc hwl).trans N.out)
            have nK := cell_of HN.out 2 rfl
            by_cases hkl : k < c.routers.length
            · have hkl' : (k : Int) < (c.routers.length : Int) := by omega
              have HNS := hide (nms_snoc Rt.name c.routers k hkl)
              obtain ⟨b2, off2, xs, rfl, hbw, hx, ha⟩ := HRD.out.later (bthen HA.out HBR.out) hkl
              obtain ⟨XS, hXS⟩ : ∃ x, ((c.routers.take k).map Rt.name).map Value.string = x := ⟨_, rfl⟩
              obtain ⟨XN, hXN⟩ : ∃ x, ((c.routers.take (k + 1)).map Rt.name).map Value.string = x := ⟨_, rfl⟩
              have HXN := hide hXN
              rw [hXS] at HO HNS
              rw [hXN] at HNS
              clear hXS hXN
              generalize c.routers[k] = q at *
              obtain ⟨vn, vb, vl, hxe, _⟩ := hx
              subst hxe
              have e0 := ha 0 _ rfl
              simp only [Nat.add_zero] at e0
              clear ha
              generalize q.name = t at *
              have B3 := hide HBR.out
              have HO3 := hide HO.out
              clear HO HBR
              go_wp2_with (at_builtin; go_must (refine append_str1 (w0 := w0) rfl _ _ rfl _ k _ rfl (HO3.out.alloc _) wr.heap.size 1 t rfl ?c1 (by omega) (balloc B3.out _) ?_))
              case c1 => simp
              intro v' w4 hnew hb4
              obtain ⟨no, nc, rfl⟩ := Ar.row_slice hnew
              rw [← HNS.out] at hnew
              have HNW := hide hnew
              have B4 := hide hb4
              clear hnew hb4
              go_wp2_with fail
              exact ⟨⟨k + 1, no, nc, by go_num, rfl, by omega, (by rw [HXN.out]; exact HNW), B4⟩, by simp [intOf] <;> omega⟩
            · have hkl' : ¬ (k : Int) < (c.routers.length : Int) := by omega
              obtain rfl : k = c.routers.length := by omega
              rw [List.take_length] at HO
              go_wp2_with fail
              clear nK
              go_ret
              exact ⟨.slice o c.routers.length cp, w0.heap.size, rfl, HW0, by rw [show nmsOf c 2 = c.routers.map Rt.name from rfl, List.length_map]; exact HO.out, HA.out.trans (below_less HBR.out HW0)⟩))
end Go.Proofs.YtpmmhmgojjlniaaGreatDoor
namespace Go.Proofs.YtpmmhmgojjlniaaGreatDoor
open Go.RowKit Go.Sort

/-- A part alone. -/
def oneOf (c : Cf) (kind i : Nat) : Cf := match kind with
  | 0 => ⟨(c.lists.drop i).take 1, [], []⟩
  | 1 => ⟨[], (c.maps.drop i).take 1, []⟩
  | _ => ⟨[], [], (c.routers.drop i).take 1⟩
theorem drop_one {α : Type} (l : List α) (i : Nat) (h : i < l.length) : (l.drop i).take 1 = [l[i]] := by
  rw [List.drop_eq_getElem_cons h]
  rfl
theorem rd_one {α : Type} {w : World} {z : Nat} {R : World → α → List Value → Prop} {b off n ca : Nat} {l : List α} (h : Rd w z R (.slice (some ⟨b, off, none⟩) n ca) l) (i : Nat) (hi : i < l.length) : Rd w z R (.slice (some ⟨b, off + i * z, none⟩) 1 (ca - i)) ((l.drop i).take 1) := by
  obtain ⟨ao', c', hv, hc, hh⟩ := h
  cases hv
  rcases hh with hh | ⟨b2, off2, e, hr⟩
  · rw [hh] at hi; simp at hi
  · cases e
    obtain ⟨xs, h1, h2, h3⟩ := hr i hi
    rw [drop_one l i hi]
    refine ⟨_, _, rfl, (by show 1 ≤ ca - i; omega), .inr ⟨b, off + i * z, rfl, fun j hj => ?_⟩⟩
    obtain rfl : j = 0 := by simpa using hj
    exact ⟨xs, h1, h2, fun k u hu => by rw [Nat.zero_mul, Nat.add_zero]; exact h3 k u hu⟩
theorem rd_nil {α : Type} (w : World) (z : Nat) (R : World → α → List Value → Prop) : Rd w z R (.slice none 0 0) ([] : List α) := ⟨none, 0, rfl, Nat.le_refl _, .inl rfl⟩
set_option maxRecDepth 100000 in
theorem run_one22 (b off n ca i : Nat) (hi : i < n) (hca : n ≤ ca) (W : World) : (Instr.slice 22 (.slice (some ⟨b, off, none⟩) n ca) (some (.int .i64 i)) (some (.int .i64 ((i : Int) + 1))) none).run Tryz.prog W = .ok (.slice (some ⟨b, off + i * 2, none⟩) 1 (ca - i)) W := by
  have hc : (i : Int) + 1 ≤ (ca : Int) := by omega
  have hii : (i : Int) ≤ (i : Int) + 1 := by omega
  rw [run_slice_lh W 22 (some ⟨b, off, none⟩) n ca Tryz.underlying22 .i64 .i64 i ((i : Int) + 1) (by omega) hii hc]
  have e : Tryz.t48.size = 2 := by kernel_rfl
  have hne : ca ≠ i := by omega
  have h1 : ((i : Int) + 1 - i).toNat = 1 := by omega
  simp [sliced, sizeOf, go_sem, e, hne]
set_option maxRecDepth 100000 in
theorem run_one23 (b off n ca i : Nat) (hi : i < n) (hca : n ≤ ca) (W : World) : (Instr.slice 23 (.slice (some ⟨b, off, none⟩) n ca) (some (.int .i64 i)) (some (.int .i64 ((i : Int) + 1))) none).run Tryz.prog W = .ok (.slice (some ⟨b, off + i * 2, none⟩) 1 (ca - i)) W := by
  have hc : (i : Int) + 1 ≤ (ca : Int) := by omega
  have hii : (i : Int) ≤ (i : Int) + 1 := by omega
  rw [run_slice_lh W 23 (some ⟨b, off, none⟩) n ca Tryz.underlying23 .i64 .i64 i ((i : Int) + 1) (by omega) hii hc]
  have e : Tryz.t51.size = 2 := by kernel_rfl
  have hne : ca ≠ i := by omega
  have h1 : ((i : Int) + 1 - i).toNat = 1 := by omega
  simp [sliced, sizeOf, go_sem, e, hne]
set_option maxRecDepth 100000 in
theorem run_one24 (b off n ca i : Nat) (hi : i < n) (hca : n ≤ ca) (W : World) : (Instr.slice 24 (.slice (some ⟨b, off, none⟩) n ca) (some (.int .i64 i)) (some (.int .i64 ((i : Int) + 1))) none).run Tryz.prog W = .ok (.slice (some ⟨b, off + i * 6, none⟩) 1 (ca - i)) W := by
  have hc : (i : Int) + 1 ≤ (ca : Int) := by omega
  have hii : (i : Int) ≤ (i : Int) + 1 := by omega
  rw [run_slice_lh W 24 (some ⟨b, off, none⟩) n ca Tryz.underlying24 .i64 .i64 i ((i : Int) + 1) (by omega) hii hc]
  have e : Tryz.t66.size = 6 := by kernel_rfl
  have hne : ca ≠ i := by omega
  have h1 : ((i : Int) + 1 - i).toNat = 1 := by omega
  simp [sliced, sizeOf, go_sem, e, hne]
set_option maxHeartbeats 4000000 in
set_option maxRecDepth 100000 in
theorem one0_is (c : Cf) (v1 v2 v3 : Value) (w : World) (hc : CfR w c v1 v2 v3) (i : Nat) (hi : i < c.lists.length) (hn : c.lists.length ≤ 900) :
    Calls Tryz.prog 20 #[.agg #[v1, v2, v3], .int .i64 0, .int .i64 i] w fun e w' => ∃ x1 x2 x3, e = .returned (.agg #[x1, x2, x3]) ∧ CfR w (oneOf c 0 i) x1 x2 x3 ∧ Below w.heap.size w w' := by
  obtain ⟨h1, h2, h3⟩ := hc
  obtain ⟨o1, k1, rfl⟩ := h1.slice
  obtain ⟨o2, k2, rfl⟩ := h2.slice
  obtain ⟨o3, k3, rfl⟩ := h3.slice
  have hcap := h1.cap
  obtain ⟨bb, off, xs, rfl, _, _, _⟩ := h1.at_ hi
  have HR := hide h1
  have A1 := balloc (brefl w) (.cells #[.slice (some ⟨bb, off, none⟩) c.lists.length k1, .slice o2 c.maps.length k2, .slice o3 c.routers.length k3] 26)
  have N1 := heap_new w #[.slice (some ⟨bb, off, none⟩) c.lists.length k1, .slice o2 c.maps.length k2, .slice o3 c.routers.length k3] 26
  have A2 := balloc (brefl (w.alloc (.cells #[.slice (some ⟨bb, off, none⟩) c.lists.length k1, .slice o2 c.maps.length k2, .slice o3 c.routers.length k3] 26))) (.cells #[.slice none 0 0, .slice none 0 0, .slice none 0 0] 26)
  have N2 := heap_new (w.alloc (.cells #[.slice (some ⟨bb, off, none⟩) c.lists.length k1, .slice o2 c.maps.length k2, .slice o3 c.routers.length k3] 26)) #[.slice none 0 0, .slice none 0 0, .slice none 0 0] 26
  rw [size_alloc] at N2
  have N1b := hide ((A2.block w.heap.size (by rw [size_alloc]; omega)).trans N1)
  have HN2 := hide N2
  have HA := hide (bthen A1 A2)
  have SL := run_one22 bb off c.lists.length k1 i hi hcap
  have hw1 : wrap64 ((i : Int) + 1) = (i : Int) + 1 := by unfold wrap64; omega
  clear h1 h2 h3 A1 A2 N1 N2
  go_enter Tryz.func20, Tryz.ntmps20
  go_upto_region 1 with fail
  obtain ⟨bc, hbc⟩ : ∃ q, w.heap.size = q := ⟨_, rfl⟩
  obtain ⟨br, hbr⟩ : ∃ q, bc + 1 = q := ⟨_, rfl⟩
  have hne : bc ≠ br := by omega
  have hbrB : w.heap.size ≤ br := by omega
  have HBRB := hide hbrB
  clear hbrB
  rw [hbc] at N1b HN2 ⊢
  rw [hbr] at HN2 ⊢
  obtain ⟨w0, hw0⟩ : ∃ q, (w.alloc (.cells #[.slice (some ⟨bb, off, none⟩) c.lists.length k1, .slice o2 c.maps.length k2, .slice o3 c.routers.length k3] 26)).alloc (.cells #[.slice none 0 0, .slice none 0 0, .slice none 0 0] 26) = q := ⟨_, rfl⟩
  rw [hw0] at N1b HN2 HA ⊢
  have hbrl : br < w0.heap.size := heap_lt HN2.out
  clear hw0
  have n0 := cell_of N1b.out 0 rfl
  have r0 := cell_of HN2.out 0 rfl
  have r1 := cell_of HN2.out 1 rfl
  have r2 := cell_of HN2.out 2 rfl
  have f0 := Lib.frozen_of_heap HN2.out 0
  have f1 := Lib.frozen_of_heap HN2.out 1
  have f2 := Lib.frozen_of_heap HN2.out 2
  go_wp2_with fail
  exact bodyPost_ret (v := .agg #[.slice (some ⟨bb, off + i * 2, none⟩) 1 (k1 - i), .slice none 0 0, .slice none 0 0]) (results_cell_row Tryz.results20 _ _ _ 26 #[.slice (some ⟨bb, off + i * 2, none⟩) 1 (k1 - i), .slice none 0 0, .slice none 0 0] (0, 0) _ rfl (by simp [World.setCell, Array.getElem?_modify, HN2.out]) Tryz.underlying26 rfl (by kernel_rfl)) rfl ⟨_, _, _, rfl, ⟨rd_one (HR.out) i hi, rd_nil _ _ _, rd_nil _ _ _⟩, (((HA.out.setCell (p := ⟨br, 0, none⟩) HBRB.out _).setCell (p := ⟨br, 1, none⟩) HBRB.out _).setCell (p := ⟨br, 2, none⟩) HBRB.out _)⟩
set_option maxHeartbeats 4000000 in
set_option maxRecDepth 100000 in
theorem one1_is (c : Cf) (v1 v2 v3 : Value) (w : World) (hc : CfR w c v1 v2 v3) (i : Nat) (hi : i < c.maps.length) (hn : c.maps.length ≤ 900) :
    Calls Tryz.prog 20 #[.agg #[v1, v2, v3], .int .i64 1, .int .i64 i] w fun e w' => ∃ x1 x2 x3, e = .returned (.agg #[x1, x2, x3]) ∧ CfR w (oneOf c 1 i) x1 x2 x3 ∧ Below w.heap.size w w' := by
  obtain ⟨h1, h2, h3⟩ := hc
  obtain ⟨o1, k1, rfl⟩ := h1.slice
  obtain ⟨o2, k2, rfl⟩ := h2.slice
  obtain ⟨o3, k3, rfl⟩ := h3.slice
  have hcap := h2.cap
  obtain ⟨bb, off, xs, rfl, _, _, _⟩ := h2.at_ hi
  have HR := hide h2
  have A1 := balloc (brefl w) (.cells #[.slice o1 c.lists.length k1, .slice (some ⟨bb, off, none⟩) c.maps.length k2, .slice o3 c.routers.length k3] 26)
  have N1 := heap_new w #[.slice o1 c.lists.length k1, .slice (some ⟨bb, off, none⟩) c.maps.length k2, .slice o3 c.routers.length k3] 26
  have A2 := balloc (brefl (w.alloc (.cells #[.slice o1 c.lists.length k1, .slice (some ⟨bb, off, none⟩) c.maps.length k2, .slice o3 c.routers.length k3] 26))) (.cells #[.slice none 0 0, .slice none 0 0, .slice none 0 0] 26)
  have N2 := heap_new (w.alloc (.cells #[.slice o1 c.lists.length k1, .slice (some ⟨bb, off, none⟩) c.maps.length k2, .slice o3 c.routers.length k3] 26)) #[.slice none 0 0, .slice none 0 0, .slice none 0 0] 26
  rw [size_alloc] at N2
  have N1b := hide ((A2.block w.heap.size (by rw [size_alloc]; omega)).trans N1)
  have HN2 := hide N2
  have HA := hide (bthen A1 A2)
  have SL := run_one23 bb off c.maps.length k2 i hi hcap
  have hw1 : wrap64 ((i : Int) + 1) = (i : Int) + 1 := by unfold wrap64; omega
  clear h1 h2 h3 A1 A2 N1 N2
  go_enter Tryz.func20, Tryz.ntmps20
  go_upto_region 1 with fail
  obtain ⟨bc, hbc⟩ : ∃ q, w.heap.size = q := ⟨_, rfl⟩
  obtain ⟨br, hbr⟩ : ∃ q, bc + 1 = q := ⟨_, rfl⟩
  have hne : bc ≠ br := by omega
  have hbrB : w.heap.size ≤ br := by omega
  have HBRB := hide hbrB
  clear hbrB
  rw [hbc] at N1b HN2 ⊢
  rw [hbr] at HN2 ⊢
  obtain ⟨w0, hw0⟩ : ∃ q, (w.alloc (.cells #[.slice o1 c.lists.length k1, .slice (some ⟨bb, off, none⟩) c.maps.length k2, .slice o3 c.routers.length k3] 26)).alloc (.cells #[.slice none 0 0, .slice none 0 0, .slice none 0 0] 26) = q := ⟨_, rfl⟩
  rw [hw0] at N1b HN2 HA ⊢
  have hbrl : br < w0.heap.size := heap_lt HN2.out
  clear hw0
  have n1 := cell_of N1b.out 1 rfl
  have r0 := cell_of HN2.out 0 rfl
  have r1 := cell_of HN2.out 1 rfl
  have r2 := cell_of HN2.out 2 rfl
  have f0 := Lib.frozen_of_heap HN2.out 0
  have f1 := Lib.frozen_of_heap HN2.out 1
  have f2 := Lib.frozen_of_heap HN2.out 2
  go_wp2_with fail
  exact bodyPost_ret (v := .agg #[.slice none 0 0, .slice (some ⟨bb, off + i * 2, none⟩) 1 (k2 - i), .slice none 0 0]) (results_cell_row Tryz.results20 _ _ _ 26 #[.slice none 0 0, .slice (some ⟨bb, off + i * 2, none⟩) 1 (k2 - i), .slice none 0 0] (0, 0) _ rfl (by simp [World.setCell, Array.getElem?_modify, HN2.out]) Tryz.underlying26 rfl (by kernel_rfl)) rfl ⟨_, _, _, rfl, ⟨rd_nil _ _ _, rd_one (HR.out) i hi, rd_nil _ _ _⟩, (((HA.out.setCell (p := ⟨br, 0, none⟩) HBRB.out _).setCell (p := ⟨br, 1, none⟩) HBRB.out _).setCell (p := ⟨br, 2, none⟩) HBRB.out _)⟩
set_option maxHeartbeats 4000000 in
set_option maxRecDepth 100000 in
theorem one2_is (c : Cf) (v1 v2 v3 : Value) (w : World) (hc : CfR w c v1 v2 v3) (i : Nat) (hi : i < c.routers.length) (hn : c.routers.length ≤ 900) :
    Calls Tryz.prog 20 #[.agg #[v1, v2, v3], .int .i64 2, .int .i64 i] w fun e w' => ∃ x1 x2 x3, e = .returned (.agg #[x1, x2, x3]) ∧ CfR w (oneOf c 2 i) x1 x2 x3 ∧ Below w.heap.size w w' := by
  obtain ⟨h1, h2, h3⟩ := hc
  obtain ⟨o1, k1, rfl⟩ := h1.slice
  obtain ⟨o2, k2, rfl⟩ := h2.slice
  obtain ⟨o3, k3, rfl⟩ := h3.slice
  have hcap := h3.cap
  obtain ⟨bb, off, xs, rfl, _, _, _⟩ := h3.at_ hi
  have HR := hide h3
  have A1 := balloc (brefl w) (.cells #[.slice o1 c.lists.length k1, .slice o2 c.maps.length k2, .slice (some ⟨bb, off, none⟩) c.routers.length k3] 26)
  have N1 := heap_new w #[.slice o1 c.lists.length k1, .slice o2 c.maps.length k2, .slice (some ⟨bb, off, none⟩) c.routers.length k3] 26
  have A2 := balloc (brefl (w.alloc (.cells #[.slice o1 c.lists.length k1, .slice o2 c.maps.length k2, .slice (some ⟨bb, off, none⟩) c.routers.length k3] 26))) (.cells #[.slice none 0 0, .slice none 0 0, .slice none 0 0] 26)
  have N2 := heap_new (w.alloc (.cells #[.slice o1 c.lists.length k1, .slice o2 c.maps.length k2, .slice (some ⟨bb, off, none⟩) c.routers.length k3] 26)) #[.slice none 0 0, .slice none 0 0, .slice none 0 0] 26
  rw [size_alloc] at N2
  have N1b := hide ((A2.block w.heap.size (by rw [size_alloc]; omega)).trans N1)
  have HN2 := hide N2
  have HA := hide (bthen A1 A2)
  have SL := run_one24 bb off c.routers.length k3 i hi hcap
  have hw1 : wrap64 ((i : Int) + 1) = (i : Int) + 1 := by unfold wrap64; omega
  clear h1 h2 h3 A1 A2 N1 N2
  go_enter Tryz.func20, Tryz.ntmps20
  go_upto_region 1 with fail
  obtain ⟨bc, hbc⟩ : ∃ q, w.heap.size = q := ⟨_, rfl⟩
  obtain ⟨br, hbr⟩ : ∃ q, bc + 1 = q := ⟨_, rfl⟩
  have hne : bc ≠ br := by omega
  have hbrB : w.heap.size ≤ br := by omega
  have HBRB := hide hbrB
  clear hbrB
  rw [hbc] at N1b HN2 ⊢
  rw [hbr] at HN2 ⊢
  obtain ⟨w0, hw0⟩ : ∃ q, (w.alloc (.cells #[.slice o1 c.lists.length k1, .slice o2 c.maps.length k2, .slice (some ⟨bb, off, none⟩) c.routers.length k3] 26)).alloc (.cells #[.slice none 0 0, .slice none 0 0, .slice none 0 0] 26) = q := ⟨_, rfl⟩
  rw [hw0] at N1b HN2 HA ⊢
  have hbrl : br < w0.heap.size := heap_lt HN2.out
  clear hw0
  have n2 := cell_of N1b.out 2 rfl
  have r0 := cell_of HN2.out 0 rfl
  have r1 := cell_of HN2.out 1 rfl
  have r2 := cell_of HN2.out 2 rfl
  have f0 := Lib.frozen_of_heap HN2.out 0
  have f1 := Lib.frozen_of_heap HN2.out 1
  have f2 := Lib.frozen_of_heap HN2.out 2
  go_wp2_with fail
  exact bodyPost_ret (v := .agg #[.slice none 0 0, .slice none 0 0, .slice (some ⟨bb, off + i * 6, none⟩) 1 (k3 - i)]) (results_cell_row Tryz.results20 _ _ _ 26 #[.slice none 0 0, .slice none 0 0, .slice (some ⟨bb, off + i * 6, none⟩) 1 (k3 - i)] (0, 0) _ rfl (by simp [World.setCell, Array.getElem?_modify, HN2.out]) Tryz.underlying26 rfl (by kernel_rfl)) rfl ⟨_, _, _, rfl, ⟨rd_nil _ _ _, rd_nil _ _ _, rd_one (HR.out) i hi⟩, (((HA.out.setCell (p := ⟨br, 0, none⟩) HBRB.out _).setCell (p := ⟨br, 1, none⟩) HBRB.out _).setCell (p := ⟨br, 2, none⟩) HBRB.out _)⟩
end Go.Proofs.YtpmmhmgojjlniaaGreatDoor
