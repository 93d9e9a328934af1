/- show's writer: router. -/
import Derived.Test.YtpmmhmgojjlniaaGreatDoorQ32
import Derived.Test.YtpmmhmgojjlniaaGreatDoorQ38
import Derived.Test.YtpmmhmgojjlniaaGreatDoorQ39
import Derived.Test.YtpmmhmgojjlniaaGreatDoorQ40
namespace Go.Proofs.YtpmmhmgojjlniaaGreatDoor
open Go.RowKit Go.Sort
def rouT (name : ByteArray) : ByteArray := ⟨#[114, 111, 117, 116, 101, 114, 32]⟩ ++ name
/-- A router as it is written. -/
def routerB (d : Nat) (r : Rt) : List UInt8 := blockB d (rouT r.name) (rtIn (d + 1) r)
set_option maxHeartbeats 4000000 in
set_option maxRecDepth 100000 in
theorem router_is (WB w : World) (b d : Nat) (x : List UInt8) (r : Rt) (vn vb vl : Value) (hW : Below WB.heap.size WB w) (h1 : Rd WB 2 PxR vn r.nets) (h2 : Rd WB 4 NbR vb r.nbs) (h3 : Rd WB 2 LkR vl r.links) (ht : Tab WB) (hu : ∀ p ∈ r.nets, 0 ≤ p.1 ∧ p.1 ≤ 4294967295) (hc : ∀ k ∈ r.links, -1 ≤ k.cost ∧ k.cost ≤ 1048576) (ha : -1 ≤ r.asn ∧ r.asn ≤ 1048576) (hi : -1 ≤ r.id ∧ r.id ≤ 1048576) (hn : r.nets.length ≤ 1000 ∧ r.nbs.length ≤ 1000 ∧ r.links.length ≤ 1000) (hd : d + 1 ≤ 10) (hnm : r.name.size ≤ 400)
    (h : IsWr WB.heap.size b (Lib.byteCells x) d w) (hz : x.length + (rtIn (d + 1) r).length + 2000 ≤ 100000000) :
    Calls Tryz.prog 59 #[.pointer (some ⟨b, 0, none⟩), .agg #[.string r.name, .int .i64 r.asn, .int .i64 r.id, vn, vb, vl]] w fun e w' => e = .returned (.tuple #[]) ∧ IsWr WB.heap.size b (Lib.byteCells (x ++ routerB d r)) d w' ∧ Below WB.heap.size w w' ∧ KeptB b w w' := by
  obtain ⟨on, kn, rfl⟩ := h1.slice
  obtain ⟨ob, kb, rfl⟩ := h2.slice
  obtain ⟨ol, kl, rfl⟩ := h3.slice
  have hlt := h.depth.2.2.1
  have A1 := balloc (brefl w) (.cells #[.pointer (some ⟨b, 0, none⟩)] 119)
  have A2 := balloc (brefl (w.alloc (.cells #[.pointer (some ⟨b, 0, none⟩)] 119))) (.cells #[.string r.name, .int .i64 r.asn, .int .i64 r.id, .slice on r.nets.length kn, .slice ob r.nbs.length kb, .slice ol r.links.length kl] 66)
  have A := bthen A1 A2
  have N1 := (A2.block w.heap.size (by rw [size_alloc]; omega)).trans (heap_new w #[.pointer (some ⟨b, 0, none⟩)] 119)
  have N2 := heap_new (w.alloc (.cells #[.pointer (some ⟨b, 0, none⟩)] 119)) #[.string r.name, .int .i64 r.asn, .int .i64 r.id, .slice on r.nets.length kn, .slice ob r.nbs.length kb, .slice ol r.links.length kl] 66
  rw [size_alloc] at N2
  have HF := routerIn_is WB ((w.alloc (.cells #[.pointer (some ⟨b, 0, none⟩)] 119)).alloc (.cells #[.string r.name, .int .i64 r.asn, .int .i64 r.id, .slice on r.nets.length kn, .slice ob r.nbs.length kb, .slice ol r.links.length kl] 66)) b (d + 1) (w.heap.size + 1) w.heap.size r _ _ _ (hW.trans (below_less A hW.size)) h1 h2 h3 ht hu hc ha hi hn N2 N1 (by omega) (by omega)
  have hpn : (rouT r.name).size = 7 + r.name.size := by unfold rouT; rw [ByteArray.size_append]; rfl
  have CB := hide (block_is WB.heap.size b x d (rouT r.name) (rtIn (d + 1) r) _ HF (h.below A) (by omega) (by omega) (by omega) (Nat.le_trans hW.size A.size))
  have HA := hide (below_less A hW.size)
  have HK := hide ((KeptB.refl b w).below A)
  have HE : Hid (routerB d r = blockB d (rouT r.name) (rtIn (d + 1) r)) := rfl
  have HP : Hid (rouT r.name = ⟨#[114, 111, 117, 116, 101, 114, 32]⟩ ++ r.name) := rfl
  have m0 := cell_of N1 0 rfl
  have n0 := cell_of N2 0 rfl
  have hov : ¬ 9223372036854775807 < 7 + r.name.size := by omega
  rw [← HE.out] at CB
  rw [HP.out] at CB
  generalize routerB d r = LB at *
  clear HF h hW h1 h2 h3 ht hu hc hn A1 A2 A N1 N2 HE HP
  go_enter Tryz.func59, Tryz.ntmps59
  go_wp2_with fail
  refine CB.out.mono ?_
  rintro e w2 ⟨rfl, h2, hb2, hk2⟩
  have B2 := hide (HA.out.trans hb2)
  have K2 := hide (HK.out.trans hk2)
  have W2 := hide h2
  clear h2 hb2 hk2 CB
  go_wp2_with fail
  go_end0
  exact ⟨rfl, W2.out, B2.out, K2.out⟩
end Go.Proofs.YtpmmhmgojjlniaaGreatDoor
namespace Go.Proofs.YtpmmhmgojjlniaaGreatDoor
open Go.RowKit Go.Sort
def preT (name : ByteArray) : ByteArray := ⟨#[112, 114, 101, 102, 105, 120, 45, 108, 105, 115, 116, 32]⟩ ++ name
/-- A prefix list as it is written. -/
def listB (d : Nat) (x : Ls) : List UInt8 := blockB d (preT x.name) (rulesB (d + 1) x.rules)
set_option maxHeartbeats 4000000 in
set_option maxRecDepth 100000 in
theorem list_is (WB w : World) (b d : Nat) (x : List UInt8) (a : Ls) (v : Value) (hW : Below WB.heap.size WB w) (hl : Rd WB 5 RgR v a.rules) (ht : Tab WB) (hu : ∀ r ∈ a.rules, 0 ≤ r.ad ∧ r.ad ≤ 4294967295) (hn : a.rules.length ≤ 1000) (hd : d + 1 ≤ 10) (hs : ∀ r ∈ a.rules, (ruleT r).size ≤ 400) (hnm : a.name.size ≤ 400)
    (h : IsWr WB.heap.size b (Lib.byteCells x) d w) (hz : x.length + (rulesB (d + 1) a.rules).length + 2000 ≤ 100000000) :
    Calls Tryz.prog 57 #[.pointer (some ⟨b, 0, none⟩), .agg #[.string a.name, v]] w fun e w' => e = .returned (.tuple #[]) ∧ IsWr WB.heap.size b (Lib.byteCells (x ++ listB d a)) d w' ∧ Below WB.heap.size w w' ∧ KeptB b w w' := by
  obtain ⟨o, c, rfl⟩ := hl.slice
  have hlt := h.depth.2.2.1
  have A1 := balloc (brefl w) (.cells #[.pointer (some ⟨b, 0, none⟩)] 119)
  have A2 := balloc (brefl (w.alloc (.cells #[.pointer (some ⟨b, 0, none⟩)] 119))) (.cells #[.string a.name, .slice o a.rules.length c] 48)
  have A := bthen A1 A2
  have N1 := (A2.block w.heap.size (by rw [size_alloc]; omega)).trans (heap_new w #[.pointer (some ⟨b, 0, none⟩)] 119)
  have N2 := heap_new (w.alloc (.cells #[.pointer (some ⟨b, 0, none⟩)] 119)) #[.string a.name, .slice o a.rules.length c] 48
  rw [size_alloc] at N2
  have HF := listIn_is WB ((w.alloc (.cells #[.pointer (some ⟨b, 0, none⟩)] 119)).alloc (.cells #[.string a.name, .slice o a.rules.length c] 48)) b (d + 1) (w.heap.size + 1) w.heap.size a.name _ a.rules (hW.trans (below_less A hW.size)) hl ht hu hn hd hs N2 N1 (by omega) (by omega)
  have hpn : (preT a.name).size = 12 + a.name.size := by unfold preT; rw [ByteArray.size_append]; rfl
  have CB := hide (block_is WB.heap.size b x d (preT a.name) (rulesB (d + 1) a.rules) _ HF (h.below A) (by omega) (by omega) (by omega) (Nat.le_trans hW.size A.size))
  have HA := hide (below_less A hW.size)
  have HK := hide ((KeptB.refl b w).below A)
  have HE : Hid (listB d a = blockB d (preT a.name) (rulesB (d + 1) a.rules)) := rfl
  have HP : Hid (preT a.name = ⟨#[112, 114, 101, 102, 105, 120, 45, 108, 105, 115, 116, 32]⟩ ++ a.name) := rfl
  have m0 := cell_of N1 0 rfl
  have n0 := cell_of N2 0 rfl
  have hov : ¬ 9223372036854775807 < 12 + a.name.size := by omega
  rw [← HE.out] at CB
  rw [HP.out] at CB
  generalize listB d a = LB at *
  clear HF h hW hl ht hu hs A1 A2 A N1 N2 HE HP
  generalize a.rules.length = n at *
  generalize a.name = nm at *
  go_enter Tryz.func57, Tryz.ntmps57
  go_wp2_with fail
  refine CB.out.mono ?_
  rintro e w2 ⟨rfl, h2, hb2, hk2⟩
  have B2 := hide (HA.out.trans hb2)
  have K2 := hide (HK.out.trans hk2)
  have W2 := hide h2
  clear h2 hb2 hk2 CB
  go_wp2_with fail
  go_end0
  exact ⟨rfl, W2.out, B2.out, K2.out⟩
end Go.Proofs.YtpmmhmgojjlniaaGreatDoor
namespace Go.Proofs.YtpmmhmgojjlniaaGreatDoor
open Go.RowKit Go.Sort
/-- A configuration as it is written. -/
def cfgB (c : Cf) : List UInt8 := c.lists.flatMap (listB 0) ++ c.maps.flatMap (mapB 0) ++ c.routers.flatMap (routerB 0)
/-- What the writer asks of a configuration's parts. -/
def LsW (a : Ls) : Prop := (∀ r ∈ a.rules, 0 ≤ r.ad ∧ r.ad ≤ 4294967295) ∧ a.rules.length ≤ 1000 ∧ (∀ r ∈ a.rules, (ruleT r).size ≤ 400) ∧ a.name.size ≤ 400
def MpW (a : Mp) : Prop := (∀ x ∈ a.cls, ClW x) ∧ a.cls.length ≤ 1000 ∧ a.name.size ≤ 400
def RtW (r : Rt) : Prop := (∀ p ∈ r.nets, 0 ≤ p.1 ∧ p.1 ≤ 4294967295) ∧ (∀ k ∈ r.links, -1 ≤ k.cost ∧ k.cost ≤ 1048576) ∧ (-1 ≤ r.asn ∧ r.asn ≤ 1048576) ∧ (-1 ≤ r.id ∧ r.id ≤ 1048576) ∧ (r.nets.length ≤ 1000 ∧ r.nbs.length ≤ 1000 ∧ r.links.length ≤ 1000) ∧ r.name.size ≤ 400
structure CfW (c : Cf) : Prop where
  lists : ∀ a ∈ c.lists, LsW a
  maps : ∀ a ∈ c.maps, MpW a
  routers : ∀ a ∈ c.routers, RtW a
  size : (cfgB c).length ≤ 50000000
  lens : c.lists.length ≤ 1000 ∧ c.maps.length ≤ 1000 ∧ c.routers.length ≤ 1000
set_option maxHeartbeats 8000000 in
set_option maxRecDepth 100000 in
theorem config_is (WB w : World) (b : Nat) (c : Cf) (v1 v2 v3 : Value) (hW : Below WB.heap.size WB w) (hc : CfR WB c v1 v2 v3) (ht : Tab WB) (hcw : CfW c) (h : IsWr WB.heap.size b (Lib.byteCells []) ((0 : Nat) : Int) w) :
    Calls Tryz.prog 22 #[.pointer (some ⟨b, 0, none⟩), .agg #[v1, v2, v3]] w fun e w' => e = .returned (.tuple #[]) ∧ IsWr WB.heap.size b (Lib.byteCells (cfgB c)) ((0 : Nat) : Int) w' ∧ Below WB.heap.size w w' ∧ KeptB b w w' := by
  obtain ⟨h1, h2, h3⟩ := hc
  obtain ⟨g1, g2, g3, hz, hn1, hn2, hn3⟩ := hcw
  obtain ⟨o1, k1, rfl⟩ := h1.slice
  obtain ⟨o2, k2, rfl⟩ := h2.slice
  obtain ⟨o3, k3, rfl⟩ := h3.slice
  have hlt := h.depth.2.2.1
  have hlen : (cfgB c).length = (c.lists.flatMap (listB 0)).length + (c.maps.flatMap (mapB 0)).length + (c.routers.flatMap (routerB 0)).length := by unfold cfgB; rw [List.length_append, List.length_append]
  have HL1 : (c.lists.flatMap (listB 0)).length ≤ 50000000 := by omega
  have HL2 : (c.lists.flatMap (listB 0)).length + (c.maps.flatMap (mapB 0)).length ≤ 50000000 := by omega
  have HL3 : (c.lists.flatMap (listB 0)).length + (c.maps.flatMap (mapB 0)).length + (c.routers.flatMap (routerB 0)).length ≤ 50000000 := by omega
  have HE : Hid (cfgB c = [] ++ c.lists.flatMap (listB 0) ++ c.maps.flatMap (mapB 0) ++ c.routers.flatMap (routerB 0)) := rfl
  have A := balloc (brefl w) (.cells #[.slice o1 c.lists.length k1, .slice o2 c.maps.length k2, .slice o3 c.routers.length k3] 26)
  have N := hide (heap_new w #[.slice o1 c.lists.length k1, .slice o2 c.maps.length k2, .slice o3 c.routers.length k3] 26)
  have HX := hide (h.below A)
  have HAW := hide (below_less A hW.size)
  have HKW := hide ((KeptB.refl b w).below A)
  have HB00 := hide (hW.trans HAW.out)
  have R1 := hide h1
  have R2 := hide h2
  have R3 := hide h3
  have G1 := hide g1
  have G2 := hide g2
  have G3 := hide g3
  have HT := hide ht
  have hBW0 : WB.heap.size ≤ w.heap.size := hW.size
  have hbcb : w.heap.size ≠ b := by omega
  clear h1 h2 h3 g1 g2 g3 ht h hlt hz hlen
  generalize cfgB c = CB at *
  go_enter Tryz.func22, Tryz.ntmps22
  go_upto_region 1 with fail
  obtain ⟨bc0, hbc0⟩ : ∃ q, w.heap.size = q := ⟨_, rfl⟩
  have hBWc : WB.heap.size ≤ bc0 := by omega
  rw [hbc0] at N hbcb ⊢
  clear A
  obtain ⟨w0, hw0⟩ : ∃ q, w.alloc (.cells #[.slice o1 c.lists.length k1, .slice o2 c.maps.length k2, .slice o3 c.routers.length k3] 26) = q := ⟨_, rfl⟩
  rw [hw0] at N HX HAW HKW HB00 ⊢
  have hBW : WB.heap.size ≤ w0.heap.size := HB00.out.size
  clear hw0 hbc0 hBW0 hW
  have HBIG := hide HAW.out
  have HKIG := hide HKW.out
  clear HAW HKW
  have n0 := cell_of N.out 0 rfl
  go_wp2_with fail
  clear n0

  go_loopw [13] (fun v wr => ∃ k : Nat, v = .int .i64 k ∧ k ≤ c.lists.length ∧ Hid (IsWr WB.heap.size b (Lib.byteCells ([] ++ (c.lists.take k).flatMap (listB 0))) ((0 : Nat) : Int) wr) ∧ Hid (Below WB.heap.size w0 wr) ∧ Hid (KeptB b w0 wr)) (fun v _ => c.lists.length - (intOf v).toNat)
  case atStart => exact ⟨0, rfl, Nat.zero_le _, by show IsWr _ _ _ _ _; rw [show (c.lists.take 0).flatMap (listB 0) = [] from rfl, List.append_nil]; exact HX.out, Below.refl _ w0, KeptB.refl b w0⟩
  case round =>
    clear HX
    obtain ⟨k, rfl, hk, HIS, HBR, HK⟩ := hrel
    have hBk := HB00.out.trans HBR.out
    have HCr := hide (HK.out _ _ _ _ N.out (by decide) hbcb)
    by_cases hkl : k < c.lists.length
    · have hkl' : (k : Int) < (c.lists.length : Int) := by omega
      obtain ⟨b2, off, xs, rfl, hbx, hx, ha0⟩ := R1.out.at_ hkl
      have hbx2 : b2 < wr.heap.size := Nat.lt_of_lt_of_le hbx hBk.size
      have ha : ∀ i u, xs[i]? = some u → wr.cell? ⟨b2, off + k * 2 + i, none⟩ = some u := fun i u hu => (hBk.cell (p := ⟨b2, off + k * 2 + i, none⟩) hbx).trans (ha0 i u hu)
      have hcw := G1.out c.lists[k] (List.getElem_mem hkl)
      have HN := hide (show (c.lists.take (k + 1)).flatMap (listB 0) = (c.lists.take k).flatMap (listB 0) ++ listB 0 c.lists[k] from flat_snoc _ _ _ hkl)
      have hle : ((c.lists.take k).flatMap (listB 0)).length + (listB 0 c.lists[k]).length ≤ (c.lists.flatMap (listB 0)).length := by rw [← List.length_append, ← HN.out]; exact flat_take _ _ _
      have hbl : (rulesB (0 + 1) c.lists[k].rules).length ≤ (listB 0 c.lists[k]).length := by unfold listB; rw [blockB_len]; omega
      obtain ⟨v, hxe, hr⟩ := hx
      have HCL : Hid (∀ W2, Below wr.heap.size wr W2 → IsWr WB.heap.size b (Lib.byteCells ([] ++ (c.lists.take k).flatMap (listB 0))) ((0 : Nat) : Int) W2 → Calls Tryz.prog 57 #[.pointer (some ⟨b, 0, none⟩), .agg #[.string c.lists[k].name, v]] W2 fun e w' => e = .returned (.tuple #[]) ∧ IsWr WB.heap.size b (Lib.byteCells ([] ++ (c.lists.take k).flatMap (listB 0) ++ listB 0 c.lists[k])) ((0 : Nat) : Int) w' ∧ Below WB.heap.size W2 w' ∧ KeptB b W2 w') := fun W2 h2 hI => list_is WB W2 b 0 _ c.lists[k] v (hBk.trans (below_less h2 hBk.size)) hr HT.out hcw.1 hcw.2.1 (by decide) hcw.2.2.1 hcw.2.2.2 hI (by rw [List.length_append]; simp only [List.length_nil]; omega)
      generalize listB 0 c.lists[k] = RB at *
      generalize c.lists[k] = q at *
      subst hxe
      obtain ⟨o5, k5, rfl⟩ := hr.slice
      have e0 := ha 0 _ rfl
      have e1 := ha 1 _ rfl
      simp only [Nat.add_zero] at e0
      clear ha ha0 hcw hbx hBk hle hbl hr
      have A2 := balloc (brefl wr) (.cells #[.string q.name, .slice o5 q.rules.length k5] 48)
      have N2 := hide (heap_new wr #[.string q.name, .slice o5 q.rules.length k5] 48)
      have HIS2 := hide (HIS.out.below A2)
      have HA2 := hide A2
      have CS := hide (HCL.out _ A2 HIS2.out)
      clear A2 HCL
      go_upto_region 4 with fail
      clear e0 e1
      obtain ⟨bx, hbx3⟩ : ∃ y, wr.heap.size = y := ⟨_, rfl⟩
      rw [hbx3] at N2 ⊢
      generalize wr.alloc (.cells #[.string q.name, .slice o5 q.rules.length k5] 48) = w3 at *
      have n0 := cell_of N2.out 0 rfl
      have n1 := cell_of N2.out 1 rfl
      go_wp2_with fail
      refine CS.out.mono ?_
      rintro e w6 ⟨rfl, h6, hb6, hk6⟩
      have W6 : Hid (IsWr WB.heap.size b (Lib.byteCells ([] ++ (c.lists.take (k + 1)).flatMap (listB 0))) ((0 : Nat) : Int) w6) := by
        show IsWr _ _ _ _ _
        rw [HN.out, ← List.append_assoc]
        exact h6
      have B6 := hide ((HBR.out.trans (below_less HA2.out (Nat.le_trans hBW HBR.out.size))).trans hb6)
      have K6 := hide ((HK.out.below HA2.out).trans hk6)
      clear h6 hb6 hk6 CS n0 n1
      go_wp2_with fail
      exact ⟨⟨k + 1, by go_num, by omega, W6, B6, K6⟩, by simp [intOf] <;> omega⟩
    · have hkl' : ¬ (k : Int) < (c.lists.length : Int) := by omega
      obtain rfl : k = c.lists.length := by omega
      rw [List.take_length] at HIS
      clear hBk
      obtain ⟨y1, hy1⟩ : ∃ q, [] ++ c.lists.flatMap (listB 0) = q := ⟨_, rfl⟩
      have hyl1 : y1.length = (c.lists.flatMap (listB 0)).length := by rw [← hy1]; rfl
      rw [hy1] at HIS HE
      clear hy1
      have n1 := cell_of HCr.out 1 rfl
      go_wp2_with fail
      clear n1
      go_loopw [24] (fun v wr => ∃ k : Nat, v = .int .i64 k ∧ k ≤ c.maps.length ∧ Hid (IsWr WB.heap.size b (Lib.byteCells (y1 ++ (c.maps.take k).flatMap (mapB 0))) ((0 : Nat) : Int) wr) ∧ Hid (Below WB.heap.size w0 wr) ∧ Hid (KeptB b w0 wr)) (fun v _ => c.maps.length - (intOf v).toNat)
      case atStart => exact ⟨0, rfl, Nat.zero_le _, by show IsWr _ _ _ _ _; rw [show (c.maps.take 0).flatMap (mapB 0) = [] from rfl, List.append_nil]; exact HIS.out, HBR.out, HK.out⟩
      case round =>
        clear HIS HBR HK HCr
        obtain ⟨k, rfl, hk, HIS, HBR, HK⟩ := hrel
        have hBk := HB00.out.trans HBR.out
        have HCr := hide (HK.out _ _ _ _ N.out (by decide) hbcb)
        by_cases hkl : k < c.maps.length
        · have hkl' : (k : Int) < (c.maps.length : Int) := by omega
          obtain ⟨b2, off, xs, rfl, hbx, hx, ha0⟩ := R2.out.at_ hkl
          have hbx2 : b2 < wr.heap.size := Nat.lt_of_lt_of_le hbx hBk.size
          have ha : ∀ i u, xs[i]? = some u → wr.cell? ⟨b2, off + k * 2 + i, none⟩ = some u := fun i u hu => (hBk.cell (p := ⟨b2, off + k * 2 + i, none⟩) hbx).trans (ha0 i u hu)
          have hcw := G2.out c.maps[k] (List.getElem_mem hkl)
          have HN := hide (show (c.maps.take (k + 1)).flatMap (mapB 0) = (c.maps.take k).flatMap (mapB 0) ++ mapB 0 c.maps[k] from flat_snoc _ _ _ hkl)
          have hle : ((c.maps.take k).flatMap (mapB 0)).length + (mapB 0 c.maps[k]).length ≤ (c.maps.flatMap (mapB 0)).length := by rw [← List.length_append, ← HN.out]; exact flat_take _ _ _
          have hbl : (clausesB (0 + 1) c.maps[k].cls).length ≤ (mapB 0 c.maps[k]).length := by unfold mapB; rw [blockB_len]; omega
          obtain ⟨v, hxe, hr⟩ := hx
          have HCL : Hid (∀ W2, Below wr.heap.size wr W2 → IsWr WB.heap.size b (Lib.byteCells (y1 ++ (c.maps.take k).flatMap (mapB 0))) ((0 : Nat) : Int) W2 → Calls Tryz.prog 58 #[.pointer (some ⟨b, 0, none⟩), .agg #[.string c.maps[k].name, v]] W2 fun e w' => e = .returned (.tuple #[]) ∧ IsWr WB.heap.size b (Lib.byteCells (y1 ++ (c.maps.take k).flatMap (mapB 0) ++ mapB 0 c.maps[k])) ((0 : Nat) : Int) w' ∧ Below WB.heap.size W2 w' ∧ KeptB b W2 w') := fun W2 h2 hI => routeMap_is WB W2 b 0 _ c.maps[k] v (hBk.trans (below_less h2 hBk.size)) hr HT.out hcw.1 hcw.2.1 (by decide) hcw.2.2 hI (by rw [List.length_append]; omega)
          generalize mapB 0 c.maps[k] = RB at *
          generalize c.maps[k] = q at *
          subst hxe
          obtain ⟨o5, k5, rfl⟩ := hr.slice
          have e0 := ha 0 _ rfl
          have e1 := ha 1 _ rfl
          simp only [Nat.add_zero] at e0
          clear ha ha0 hcw hbx hBk hle hbl hr
          have A2 := balloc (brefl wr) (.cells #[.string q.name, .slice o5 q.cls.length k5] 51)
          have N2 := hide (heap_new wr #[.string q.name, .slice o5 q.cls.length k5] 51)
          have HIS2 := hide (HIS.out.below A2)
          have HA2 := hide A2
          have CS := hide (HCL.out _ A2 HIS2.out)
          clear A2 HCL
          go_upto_region 9 with fail
          clear e0 e1
          obtain ⟨bx, hbx3⟩ : ∃ y, wr.heap.size = y := ⟨_, rfl⟩
          rw [hbx3] at N2 ⊢
          generalize wr.alloc (.cells #[.string q.name, .slice o5 q.cls.length k5] 51) = w3 at *
          have n0 := cell_of N2.out 0 rfl
          have n1 := cell_of N2.out 1 rfl
          go_wp2_with fail
          refine CS.out.mono ?_
          rintro e w6 ⟨rfl, h6, hb6, hk6⟩
          have W6 : Hid (IsWr WB.heap.size b (Lib.byteCells (y1 ++ (c.maps.take (k + 1)).flatMap (mapB 0))) ((0 : Nat) : Int) w6) := by
            show IsWr _ _ _ _ _
            rw [HN.out, ← List.append_assoc]
            exact h6
          have B6 := hide ((HBR.out.trans (below_less HA2.out (Nat.le_trans hBW HBR.out.size))).trans hb6)
          have K6 := hide ((HK.out.below HA2.out).trans hk6)
          clear h6 hb6 hk6 CS n0 n1
          go_wp2_with fail
          exact ⟨⟨k + 1, by go_num, by omega, W6, B6, K6⟩, by simp [intOf] <;> omega⟩
        · have hkl' : ¬ (k : Int) < (c.maps.length : Int) := by omega
          obtain rfl : k = c.maps.length := by omega
          rw [List.take_length] at HIS
          clear hBk
          obtain ⟨y2, hy2⟩ : ∃ q, y1 ++ c.maps.flatMap (mapB 0) = q := ⟨_, rfl⟩
          have hyl2 : y2.length = y1.length + (c.maps.flatMap (mapB 0)).length := by rw [← hy2, List.length_append]
          rw [hy2] at HIS HE
          clear hy2
          have n2 := cell_of HCr.out 2 rfl
          go_wp2_with fail
          clear n2
          go_loopw [35] (fun v wr => ∃ k : Nat, v = .int .i64 k ∧ k ≤ c.routers.length ∧ Hid (IsWr WB.heap.size b (Lib.byteCells (y2 ++ (c.routers.take k).flatMap (routerB 0))) ((0 : Nat) : Int) wr) ∧ Hid (Below WB.heap.size w0 wr) ∧ Hid (KeptB b w0 wr)) (fun v _ => c.routers.length - (intOf v).toNat)
          case atStart => exact ⟨0, rfl, Nat.zero_le _, by show IsWr _ _ _ _ _; rw [show (c.routers.take 0).flatMap (routerB 0) = [] from rfl, List.append_nil]; exact HIS.out, HBR.out, HK.out⟩
          case round =>
            clear HIS HBR HK HCr
            obtain ⟨k, rfl, hk, HIS, HBR, HK⟩ := hrel
            have hBk := HB00.out.trans HBR.out
            have HCr := hide (HK.out _ _ _ _ N.out (by decide) hbcb)
            by_cases hkl : k < c.routers.length
            · have hkl' : (k : Int) < (c.routers.length : Int) := by omega
              obtain ⟨b2, off, xs, rfl, hbx, hx, ha0⟩ := R3.out.at_ hkl
              have hbx2 : b2 < wr.heap.size := Nat.lt_of_lt_of_le hbx hBk.size
              have ha : ∀ i u, xs[i]? = some u → wr.cell? ⟨b2, off + k * 6 + i, none⟩ = some u := fun i u hu => (hBk.cell (p := ⟨b2, off + k * 6 + i, none⟩) hbx).trans (ha0 i u hu)
              have hcw := G3.out c.routers[k] (List.getElem_mem hkl)
              have HN := hide (show (c.routers.take (k + 1)).flatMap (routerB 0) = (c.routers.take k).flatMap (routerB 0) ++ routerB 0 c.routers[k] from flat_snoc _ _ _ hkl)
              have hle : ((c.routers.take k).flatMap (routerB 0)).length + (routerB 0 c.routers[k]).length ≤ (c.routers.flatMap (routerB 0)).length := by rw [← List.length_append, ← HN.out]; exact flat_take _ _ _
              have hbl : (rtIn (0 + 1) c.routers[k]).length ≤ (routerB 0 c.routers[k]).length := by unfold routerB; rw [blockB_len]; omega
              obtain ⟨vn, vb, vl, hxe, s1, s2, s3⟩ := hx
              have HCL : Hid (∀ W2, Below wr.heap.size wr W2 → IsWr WB.heap.size b (Lib.byteCells (y2 ++ (c.routers.take k).flatMap (routerB 0))) ((0 : Nat) : Int) W2 → Calls Tryz.prog 59 #[.pointer (some ⟨b, 0, none⟩), .agg #[.string c.routers[k].name, .int .i64 c.routers[k].asn, .int .i64 c.routers[k].id, vn, vb, vl]] W2 fun e w' => e = .returned (.tuple #[]) ∧ IsWr WB.heap.size b (Lib.byteCells (y2 ++ (c.routers.take k).flatMap (routerB 0) ++ routerB 0 c.routers[k])) ((0 : Nat) : Int) w' ∧ Below WB.heap.size W2 w' ∧ KeptB b W2 w') := fun W2 h2 hI => router_is WB W2 b 0 _ c.routers[k] vn vb vl (hBk.trans (below_less h2 hBk.size)) s1 s2 s3 HT.out hcw.1 hcw.2.1 hcw.2.2.1 hcw.2.2.2.1 hcw.2.2.2.2.1 (by decide) hcw.2.2.2.2.2 hI (by rw [List.length_append]; omega)
              generalize routerB 0 c.routers[k] = RB at *
              generalize c.routers[k] = q at *
              subst hxe
              obtain ⟨o5, k5, rfl⟩ := s1.slice
              obtain ⟨o6, k6, rfl⟩ := s2.slice
              obtain ⟨o7, k7, rfl⟩ := s3.slice
              have e0 := ha 0 _ rfl
              have e1 := ha 1 _ rfl
              have e2 := ha 2 _ rfl
              have e3 := ha 3 _ rfl
              have e4 := ha 4 _ rfl
              have e5 := ha 5 _ rfl
              simp only [Nat.add_zero] at e0
              clear ha ha0 hcw hbx hBk hle hbl s1 s2 s3
              have A2 := balloc (brefl wr) (.cells #[.string q.name, .int .i64 q.asn, .int .i64 q.id, .slice o5 q.nets.length k5, .slice o6 q.nbs.length k6, .slice o7 q.links.length k7] 66)
              have N2 := hide (heap_new wr #[.string q.name, .int .i64 q.asn, .int .i64 q.id, .slice o5 q.nets.length k5, .slice o6 q.nbs.length k6, .slice o7 q.links.length k7] 66)
              have HIS2 := hide (HIS.out.below A2)
              have HA2 := hide A2
              have CS := hide (HCL.out _ A2 HIS2.out)
              clear A2 HCL
              go_upto_region 14 with fail
              clear e0 e1 e2 e3 e4 e5
              obtain ⟨bx, hbx3⟩ : ∃ y, wr.heap.size = y := ⟨_, rfl⟩
              rw [hbx3] at N2 ⊢
              generalize wr.alloc (.cells #[.string q.name, .int .i64 q.asn, .int .i64 q.id, .slice o5 q.nets.length k5, .slice o6 q.nbs.length k6, .slice o7 q.links.length k7] 66) = w3 at *
              have n0 := cell_of N2.out 0 rfl
              have n1 := cell_of N2.out 1 rfl
              have n2 := cell_of N2.out 2 rfl
              have n3 := cell_of N2.out 3 rfl
              have n4 := cell_of N2.out 4 rfl
              have n5 := cell_of N2.out 5 rfl
              go_wp2_with fail
              refine CS.out.mono ?_
              rintro e w6 ⟨rfl, h6, hb6, hk6⟩
              have W6 : Hid (IsWr WB.heap.size b (Lib.byteCells (y2 ++ (c.routers.take (k + 1)).flatMap (routerB 0))) ((0 : Nat) : Int) w6) := by
                show IsWr _ _ _ _ _
                rw [HN.out, ← List.append_assoc]
                exact h6
              have B6 := hide ((HBR.out.trans (below_less HA2.out (Nat.le_trans hBW HBR.out.size))).trans hb6)
              have K6 := hide ((HK.out.below HA2.out).trans hk6)
              clear h6 hb6 hk6 CS n0 n1 n2 n3 n4 n5
              go_wp2_with fail
              exact ⟨⟨k + 1, by go_num, by omega, W6, B6, K6⟩, by simp [intOf] <;> omega⟩
            · have hkl' : ¬ (k : Int) < (c.routers.length : Int) := by omega
              obtain rfl : k = c.routers.length := by omega
              rw [List.take_length] at HIS
              clear hBk
              rw [← HE.out] at HIS
              go_wp2_with fail
              go_end0
              exact ⟨rfl, HIS.out, HBIG.out.trans HBR.out, HKIG.out.trans HK.out⟩
end Go.Proofs.YtpmmhmgojjlniaaGreatDoor
namespace Go.Proofs.YtpmmhmgojjlniaaGreatDoor
open Go.RowKit Go.Sort
theorem cellsByte : Tryz.prog.cellsOf 5 = 1 := by kernel_rfl
set_option maxHeartbeats 1000000 in
set_option maxRecDepth 100000 in
theorem string_is (B b : Nat) (l : List UInt8) (d : Int) (w : World) (h : IsWr B b (Lib.byteCells l) d w) (h0 : l ≠ []) :
    Calls Tryz.prog 24 #[.pointer (some ⟨b, 0, none⟩)] w fun e w' => e = .returned (.string ⟨l.toArray⟩) ∧ Below B w w' := by
  obtain ⟨p, hB, v, hbk, hown, hne⟩ : ∃ p, WrAt B b p (Lib.byteCells l) d w := by
    rcases h with h | h
    · exact ⟨_, h⟩
    · exact ⟨_, h⟩
  have hl0 : l.length ≠ 0 := by simpa using h0
  rw [Lib.byteCells_length] at hown
  obtain ⟨g, cap, cur, rfl, hbg, hg, hnc, hcm, hcs, htake⟩ : ∃ g cap cur, v = .slice (some ⟨g, 0, none⟩) l.length cap ∧ B ≤ g ∧ w.heap[g]? = some (.cells cur 5 (0, 0)) ∧ l.length ≤ cap ∧ cap ≤ maxLen ∧ cur.size = cap * 1 ∧ cur.toList.take (l.length * 1) = Lib.byteCells l := by
    rcases hown.2 with ⟨_, hz⟩ | ⟨g, cap, cur, hv, r⟩
    · exact absurd hz hl0
    · exact ⟨g, cap, cur, hv, r⟩
  have c1 : w.drew.cell? ⟨b, 1, none⟩ = some (.slice (some ⟨g, 0, none⟩) l.length cap) := by
    have : w.drew.heap[b]? = some (.cells #[p, .slice (some ⟨g, 0, none⟩) l.length cap, .int .i64 d] 76 (0, 0)) := hbk
    rw [Lib.cell_of_heap this]; rfl
  have hSD : (Builtin.unsafeSliceData_ #[72] 123 #[.slice (some ⟨g, 0, none⟩) l.length cap]).run Tryz.prog w.drew = .ok (.pointer (some ⟨g, 0, none⟩)) w.drew :=
    Lib.run_unsafeSliceData_row _ _ _ _ _ _ (by omega)
  have hUS : (Builtin.unsafeString_ #[123, 3] 9 #[.pointer (some ⟨g, 0, none⟩), .int .i64 l.length]).run Tryz.prog w.drew = .ok (.string ⟨l.toArray⟩) (w.drew.freeze ⟨g, 0, none⟩ l.length) := by
    refine Lib.run_unsafeString_row w.drew 123 3 9 5 Tryz.underlying123 cellsByte g cur.size (by have hg' : w.drew.heap[g]? = some (.cells cur 5 (0, 0)) := hg; simp [World.shape?, hg']) l h0 (by omega) (by unfold maxLen at hcm; omega) ?_
    intro j x hx
    have := hown.cells (g := g) rfl j (.int .u8 x.toNat) (by simp [Lib.byteCells, hx])
    exact this
  have mixed : Tryz.prog.follows Departure.mixedOrders = true := by kernel_rfl
  go_enter Tryz.func24, Tryz.ntmps24
  go_wp2
  go_region_o
  all_goals (go_wp2; go_ret; exact ⟨rfl, Lib.below_freeze (Below.drew (Below.refl B w)) (p := ⟨g, 0, none⟩) hbg _⟩)
theorem usNone (W : World) (q : Option Addr) : (Builtin.unsafeString_ #[123, 3] 9 #[.pointer q, .int .i64 0]).run Tryz.prog W = .ok (.string .empty) W := Lib.run_unsafeString_none W _ _ _ q
set_option maxHeartbeats 2000000 in
set_option maxRecDepth 100000 in
/-- A writer that has written nothing. -/
theorem string_none (B b : Nat) (p : Value) (d : Int) (w : World) (hbk : w.heap[b]? = some (.cells #[p, .slice none 0 0, .int .i64 d] 76 (0, 0))) :
    Calls Tryz.prog 24 #[.pointer (some ⟨b, 0, none⟩)] w fun e w' => e = .returned (.string ⟨#[]⟩) ∧ Below B w w' := by
  have hUS := usNone
  have c1 : w.drew.cell? ⟨b, 1, none⟩ = some (.slice none 0 0) := by
    have : w.drew.heap[b]? = some (.cells #[p, .slice none 0 0, .int .i64 d] 76 (0, 0)) := hbk
    rw [Lib.cell_of_heap this]; rfl
  have hSD : (Builtin.unsafeSliceData_ #[72] 123 #[.slice none 0 0]).run Tryz.prog w.drew = .ok (.pointer none) w.drew := rfl
  have mixed : Tryz.prog.follows Departure.mixedOrders = true := by kernel_rfl
  go_enter Tryz.func24, Tryz.ntmps24
  go_wp2
  go_region_o
  all_goals (go_wp2; go_ret; exact ⟨rfl, Below.drew (Below.refl B w)⟩)
end Go.Proofs.YtpmmhmgojjlniaaGreatDoor
