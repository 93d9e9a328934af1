/- show's writer: router's inner function, its first two lines. -/
import Derived.Test.YtpmmhmgojjlniaaGreatDoorQ35
import Derived.Test.YtpmmhmgojjlniaaGreatDoorQ38
namespace Go.Proofs.YtpmmhmgojjlniaaGreatDoor
open Go.RowKit Go.Sort
def asB (d : Nat) (n : Int) : List UInt8 := lineB d (sayT [⟨#[97, 115]⟩, numT n])
def idB (d : Nat) (n : Int) : List UInt8 := lineB d (sayT [⟨#[105, 100]⟩, numT n])
def addrT (p : Int × Int) : ByteArray := ⟨(Ax.Ad.textA p.1 p.2).toArray⟩
def netB (d : Nat) (p : Int × Int) : List UInt8 := lineB d (sayT [⟨#[110, 101, 116, 119, 111, 114, 107]⟩, addrT p])
def lnkB (d : Nat) (k : Lk) : List UInt8 := lineB d (sayT [⟨#[108, 105, 110, 107]⟩, k.name, ⟨#[99, 111, 115, 116]⟩, numT k.cost])
/-- What stands in a router. -/
def rtIn (d : Nat) (r : Rt) : List UInt8 := asB d r.asn ++ idB d r.id ++ r.nets.flatMap (netB d) ++ r.nbs.flatMap (nbB d) ++ r.links.flatMap (lnkB d)
theorem sayLine (xs : List ByteArray) (B b d n : Nat) (l : List UInt8) (W2 : World) (h2 : IsWr B b (Lib.byteCells l) d W2) (hB : B ≤ W2.heap.size) (hn : xs.length ≤ 1000) (hz : l.length + n + 1000 ≤ 100000000) (hs : (lineB d (sayT xs)).length ≤ n) :
    Calls Tryz.prog 131 #[.pointer (some ⟨b, 0, none⟩), .slice (some ⟨W2.heap.size, 0, none⟩) xs.length xs.length] (W2.alloc (.cells (xs.map Value.string).toArray 9)) fun e w' => e = .returned (.tuple #[]) ∧ IsWr B b (Lib.byteCells (l ++ lineB d (sayT xs))) d w' ∧ Below B W2 w' ∧ KeptB b W2 w' :=
  sayRow xs B b l d W2 h2 hn (by rw [lineB_len] at hs; omega) hB
set_option maxHeartbeats 8000000 in
set_option maxRecDepth 100000 in
theorem routerIn_is (WB W0 : World) (b d br bw : Nat) (r : Rt) (vn vb vl : Value) (hW0 : Below WB.heap.size WB W0) (h1 : Rd WB 2 PxR vn r.nets) (h2 : Rd WB 4 NbR vb r.nbs) (h3 : Rd WB 2 LkR vl r.links) (ht : Tab WB) (hu : ∀ p ∈ r.nets, 0 ≤ p.1 ∧ p.1 ≤ 4294967295) (hc : ∀ k ∈ r.links, -1 ≤ k.cost ∧ k.cost ≤ 1048576) (ha : -1 ≤ r.asn ∧ r.asn ≤ 1048576) (hi : -1 ≤ r.id ∧ r.id ≤ 1048576) (hn : r.nets.length ≤ 1000 ∧ r.nbs.length ≤ 1000 ∧ r.links.length ≤ 1000)
    (hbr : W0.heap[br]? = some (.cells #[.string r.name, .int .i64 r.asn, .int .i64 r.id, vn, vb, vl] 66 (0, 0))) (hbw : W0.heap[bw]? = some (.cells #[.pointer (some ⟨b, 0, none⟩)] 119 (0, 0))) (hnr : br ≠ b) (hnw : bw ≠ b) :
    FnDoes W0 135 #[.pointer (some ⟨bw, 0, none⟩), .pointer (some ⟨br, 0, none⟩)] WB.heap.size b d (rtIn d r) 1000 where
  enter := fun args w => by go_simp
  ok := fun W x hW hK hwr hz => by
    obtain ⟨on, kn, rfl⟩ := h1.slice
    obtain ⟨ob, kb, rfl⟩ := h2.slice
    obtain ⟨ol, kl, rfl⟩ := h3.slice
    have hB0 := hide (hW0.trans hW)
    have HR := hide (hK _ _ _ _ hbr (by decide) hnr)
    have HW := hide (hK _ _ _ _ hbw (by decide) hnw)
    have R1 := hide h1
    have R2 := hide h2
    have R3 := hide h3
    have HT := hide ht
    have HU := hide hu
    have HC := hide hc
    have HX := hide hwr
    have HB0 : Hid (Below WB.heap.size W W) := Below.refl _ W
    have HK0 : Hid (KeptB b W W) := KeptB.refl b W
    have hBW : WB.heap.size ≤ W.heap.size := Nat.le_trans hW0.size hW.size
    have hlen : (rtIn d r).length = (asB d r.asn).length + (idB d r.id).length + (r.nets.flatMap (netB d)).length + (r.nbs.flatMap (nbB d)).length + (r.links.flatMap (lnkB d)).length := by unfold rtIn; rw [List.length_append, List.length_append, List.length_append, List.length_append]
    have hz2 : x.length + (rtIn d r).length + 1000 ≤ 100000000 := hz
    have CI1 := hide (fun W2 (h : Below W.heap.size W W2) => itoa_is r.asn ha.1 ha.2 W2 (Tab.on HT.out (below_less (hB0.out.trans (below_less h hBW)) (Nat.le_refl _))))
    have CI2 := hide (fun W2 (h : Below WB.heap.size W W2) => itoa_is r.id hi.1 hi.2 W2 (Tab.on HT.out (hB0.out.trans h)))
    have HSAYA : Hid (∀ W2, IsWr WB.heap.size b (Lib.byteCells x) d W2 → WB.heap.size ≤ W2.heap.size → Calls Tryz.prog 131 #[.pointer (some ⟨b, 0, none⟩), .slice (some ⟨W2.heap.size, 0, none⟩) 2 2] (W2.alloc (.cells #[.string ⟨#[97, 115]⟩, .string (numT r.asn)] 9)) fun e w' => e = .returned (.tuple #[]) ∧ IsWr WB.heap.size b (Lib.byteCells (x ++ asB d r.asn)) d w' ∧ Below WB.heap.size W2 w' ∧ KeptB b W2 w') := fun W2 h hB => sayLine [⟨#[97, 115]⟩, numT r.asn] WB.heap.size b d _ x W2 h hB (by simp) hz2 (by show (asB d r.asn).length ≤ _; omega)
    have HSAYB : Hid (∀ W2, IsWr WB.heap.size b (Lib.byteCells (x ++ asB d r.asn)) d W2 → WB.heap.size ≤ W2.heap.size → Calls Tryz.prog 131 #[.pointer (some ⟨b, 0, none⟩), .slice (some ⟨W2.heap.size, 0, none⟩) 2 2] (W2.alloc (.cells #[.string ⟨#[105, 100]⟩, .string (numT r.id)] 9)) fun e w' => e = .returned (.tuple #[]) ∧ IsWr WB.heap.size b (Lib.byteCells (x ++ asB d r.asn ++ idB d r.id)) d w' ∧ Below WB.heap.size W2 w' ∧ KeptB b W2 w') := fun W2 h hB => sayLine [⟨#[105, 100]⟩, numT r.id] WB.heap.size b d ((rtIn d r).length - (asB d r.asn).length) _ W2 h hB (by simp) (by rw [List.length_append]; omega) (by show (idB d r.id).length ≤ _; omega)
    clear h1 h2 h3 hbr hbw hK hW hW0 ht hu hc hwr hz
    go_enter Tryz.func135, Tryz.ntmps135
    go_upto_region 0 with fail
    have D := Below.drew (brefl W)
    have HWa := hide ((D.block bw (heap_lt HW.out)).trans HW.out)
    have HRa := hide ((D.block br (heap_lt HR.out)).trans HR.out)
    have ISa := hide (HX.out.below D)
    have HAa := hide D
    refine wp_region_held_drew (S := (fun w' => w'.cell? ⟨bw, 0, none⟩ = some (.pointer (some ⟨b, 0, none⟩)) ∧ w'.cell? ⟨br, 1, none⟩ = some (.int .i64 r.asn))) (by kernel_rfl) (⟨cell_of HWa.out 0 rfl, cell_of HRa.out 1 rfl⟩) (fun hHeld => ?_)
    clear D
    generalize W.drew = waA at *
    refine wpAnyH_take (i := 0) (v := .pointer (some ⟨b, 0, none⟩)) rfl (by kernel_rfl) (by kernel_rfl) (by kernel_rfl) (fun _ _ _ h => h) (Or.inl ⟨by rfl, fun w hSw => by dsimp only at hSw; obtain ⟨s0, s1⟩ := hSw; go_simp⟩) hHeld ?_
    simp only [Act.put, List.getElem_toArray, List.getElem_cons_zero, List.setIfInBounds_toArray, List.set_cons_zero, List.set_cons_succ]
    refine wpAnyH_take (i := 1) (v := .pointer (some ⟨br, 1, none⟩)) rfl (by kernel_rfl) (by kernel_rfl) (by kernel_rfl) (fun _ _ _ h => h) (Or.inl ⟨by rfl, fun w hSw => by dsimp only at hSw; obtain ⟨s0, s1⟩ := hSw; go_simp⟩) hHeld ?_
    simp only [Act.put, List.getElem_toArray, List.getElem_cons_zero, List.getElem_cons_succ, List.setIfInBounds_toArray, List.set_cons_zero, List.set_cons_succ]
    refine wpAnyH_take (i := 2) (v := .int .i64 r.asn) rfl (by kernel_rfl) (by kernel_rfl) (by kernel_rfl) (fun _ _ _ h => h) (Or.inl ⟨by rfl, fun w hSw => by dsimp only at hSw; obtain ⟨s0, s1⟩ := hSw; go_simp⟩) hHeld ?_
    simp only [Act.put, List.getElem_toArray, List.getElem_cons_zero, List.getElem_cons_succ, List.setIfInBounds_toArray, List.set_cons_zero, List.set_cons_succ]
    refine wpAnyH_ready (rs := [3]) (by kernel_rfl) (by simp) ?_
    refine AllReadyH.cons rfl (fun K hK => ?_) AllReadyH.nil
    go_simp
    go_wp2_with (refine (CI1.out waA HAa.out).mono ?_; rintro e wbA ⟨rfl, hb4⟩)
    have HWb := hide ((hb4.block bw (heap_lt HWa.out)).trans HWa.out)
    have HRb := hide ((hb4.block br (heap_lt HRa.out)).trans HRa.out)
    have ISb := hide (ISa.out.below hb4)
    have HAb := hide (bthen HAa.out hb4)
    clear hb4
    refine hK.out _ _ (⟨cell_of HWb.out 0 rfl, cell_of HRb.out 1 rfl⟩) (fun hHeld => ?_)
    clear hK K
    try simp only [Act.put, List.getElem_toArray, List.getElem_cons_zero, List.getElem_cons_succ, List.setIfInBounds_toArray, List.set_cons_zero, List.set_cons_succ]
    have Bb := hide (HB0.out.trans (below_less HAb.out (Nat.le_trans hBW HB0.out.size)))
    have Kb := hide (HK0.out.below HAb.out)
    have CS := hide (HSAYA.out wbA ISb.out (Nat.le_trans hBW Bb.out.size))
    have Ac := hide (balloc (brefl wbA) (.cells #[.string ⟨#[97, 115]⟩, .string (numT r.asn)] 9))
    have HWc := hide ((Ac.out.block bw (heap_lt HWb.out)).trans HWb.out)
    have HRc := hide ((Ac.out.block br (heap_lt HRb.out)).trans HRb.out)
    refine wpAnyH_ready (rs := [4]) (by kernel_rfl) (by simp) ?_
    refine AllReadyH.cons rfl (fun K hK => ?_) AllReadyH.nil
    go_simp
    refine hK.out _ _ (⟨cell_of HWc.out 0 rfl, cell_of HRc.out 1 rfl⟩) (fun hHeld => ?_)
    clear hK K
    try simp only [Act.put, List.getElem_toArray, List.getElem_cons_zero, List.getElem_cons_succ, List.setIfInBounds_toArray, List.set_cons_zero, List.set_cons_succ]
    refine wpAnyH_ready (rs := [5]) (by kernel_rfl) (by simp) ?_
    refine AllReadyH.cons rfl (fun K hK => ?_) AllReadyH.nil
    go_simp
    go_wp2_with (refine CS.out.mono ?_; rintro e wdA ⟨rfl, h6, hb6, hk6⟩)
    have HWd := hide (hk6 _ _ _ _ HWb.out (by decide) hnw)
    have HRd := hide (hk6 _ _ _ _ HRb.out (by decide) hnr)
    have ISA := hide h6
    have BA := hide (Bb.out.trans hb6)
    have KA := hide (Kb.out.trans hk6)
    clear h6 hb6 hk6 CS ISa ISb HAa HAb Bb Kb Ac
    refine hK.out _ _ (⟨cell_of HWd.out 0 rfl, cell_of HRd.out 1 rfl⟩) (fun hHeld => ?_)
    clear hK K
    try simp only [Act.put, List.getElem_toArray, List.getElem_cons_zero, List.getElem_cons_succ, List.setIfInBounds_toArray, List.set_cons_zero, List.set_cons_succ]
    refine wpAnyH_done (by kernel_rfl) ?_ _
    clear hHeld
    have CI2b := hide (fun W2 (h : Below wdA.heap.size wdA W2) => CI2.out W2 (BA.out.trans (below_less h (Nat.le_trans hBW BA.out.size))))
    clear HSAYA CI1 HX HB0 HK0
    go_upto_region 1 with fail
    have D := Below.drew (brefl wdA)
    have HWda := hide ((D.block bw (heap_lt HWd.out)).trans HWd.out)
    have HRda := hide ((D.block br (heap_lt HRd.out)).trans HRd.out)
    have ISa := hide (ISA.out.below D)
    have HAa := hide D
    refine wp_region_held_drew (S := (fun w' => w'.cell? ⟨bw, 0, none⟩ = some (.pointer (some ⟨b, 0, none⟩)) ∧ w'.cell? ⟨br, 2, none⟩ = some (.int .i64 r.id))) (by kernel_rfl) (⟨cell_of HWda.out 0 rfl, cell_of HRda.out 2 rfl⟩) (fun hHeld => ?_)
    clear D
    generalize wdA.drew = waB at *
    refine wpAnyH_take (i := 0) (v := .pointer (some ⟨b, 0, none⟩)) rfl (by kernel_rfl) (by kernel_rfl) (by kernel_rfl) (fun _ _ _ h => h) (Or.inl ⟨by rfl, fun w hSw => by dsimp only at hSw; obtain ⟨s0, s1⟩ := hSw; go_simp⟩) hHeld ?_
    simp only [Act.put, List.getElem_toArray, List.getElem_cons_zero, List.setIfInBounds_toArray, List.set_cons_zero, List.set_cons_succ]
    refine wpAnyH_take (i := 1) (v := .pointer (some ⟨br, 2, none⟩)) rfl (by kernel_rfl) (by kernel_rfl) (by kernel_rfl) (fun _ _ _ h => h) (Or.inl ⟨by rfl, fun w hSw => by dsimp only at hSw; obtain ⟨s0, s1⟩ := hSw; go_simp⟩) hHeld ?_
    simp only [Act.put, List.getElem_toArray, List.getElem_cons_zero, List.getElem_cons_succ, List.setIfInBounds_toArray, List.set_cons_zero, List.set_cons_succ]
    refine wpAnyH_take (i := 2) (v := .int .i64 r.id) rfl (by kernel_rfl) (by kernel_rfl) (by kernel_rfl) (fun _ _ _ h => h) (Or.inl ⟨by rfl, fun w hSw => by dsimp only at hSw; obtain ⟨s0, s1⟩ := hSw; go_simp⟩) hHeld ?_
    simp only [Act.put, List.getElem_toArray, List.getElem_cons_zero, List.getElem_cons_succ, List.setIfInBounds_toArray, List.set_cons_zero, List.set_cons_succ]
    refine wpAnyH_ready (rs := [3]) (by kernel_rfl) (by simp) ?_
    refine AllReadyH.cons rfl (fun K hK => ?_) AllReadyH.nil
    go_simp
    go_wp2_with (refine (CI2b.out waB HAa.out).mono ?_; rintro e wbB ⟨rfl, hb4⟩)
    have HWdb := hide ((hb4.block bw (heap_lt HWda.out)).trans HWda.out)
    have HRdb := hide ((hb4.block br (heap_lt HRda.out)).trans HRda.out)
    have ISb := hide (ISa.out.below hb4)
    have HAb := hide (bthen HAa.out hb4)
    clear hb4
    refine hK.out _ _ (⟨cell_of HWdb.out 0 rfl, cell_of HRdb.out 2 rfl⟩) (fun hHeld => ?_)
    clear hK K
    try simp only [Act.put, List.getElem_toArray, List.getElem_cons_zero, List.getElem_cons_succ, List.setIfInBounds_toArray, List.set_cons_zero, List.set_cons_succ]
    have Bb := hide (BA.out.trans (below_less HAb.out (Nat.le_trans hBW BA.out.size)))
    have Kb := hide (KA.out.below HAb.out)
    have CS := hide (HSAYB.out wbB ISb.out (Nat.le_trans hBW Bb.out.size))
    have Ac := hide (balloc (brefl wbB) (.cells #[.string ⟨#[105, 100]⟩, .string (numT r.id)] 9))
    have HWdc := hide ((Ac.out.block bw (heap_lt HWdb.out)).trans HWdb.out)
    have HRdc := hide ((Ac.out.block br (heap_lt HRdb.out)).trans HRdb.out)
    refine wpAnyH_ready (rs := [4]) (by kernel_rfl) (by simp) ?_
    refine AllReadyH.cons rfl (fun K hK => ?_) AllReadyH.nil
    go_simp
    refine hK.out _ _ (⟨cell_of HWdc.out 0 rfl, cell_of HRdc.out 2 rfl⟩) (fun hHeld => ?_)
    clear hK K
    try simp only [Act.put, List.getElem_toArray, List.getElem_cons_zero, List.getElem_cons_succ, List.setIfInBounds_toArray, List.set_cons_zero, List.set_cons_succ]
    refine wpAnyH_ready (rs := [5]) (by kernel_rfl) (by simp) ?_
    refine AllReadyH.cons rfl (fun K hK => ?_) AllReadyH.nil
    go_simp
    go_wp2_with (refine CS.out.mono ?_; rintro e wdB ⟨rfl, h6, hb6, hk6⟩)
    have HWdd := hide (hk6 _ _ _ _ HWdb.out (by decide) hnw)
    have HRdd := hide (hk6 _ _ _ _ HRdb.out (by decide) hnr)
    have ISB := hide h6
    have BB := hide (Bb.out.trans hb6)
    have KB := hide (Kb.out.trans hk6)
    clear h6 hb6 hk6 CS ISa ISb HAa HAb Bb Kb Ac
    refine hK.out _ _ (⟨cell_of HWdd.out 0 rfl, cell_of HRdd.out 2 rfl⟩) (fun hHeld => ?_)
    clear hK K
    try simp only [Act.put, List.getElem_toArray, List.getElem_cons_zero, List.getElem_cons_succ, List.setIfInBounds_toArray, List.set_cons_zero, List.set_cons_succ]
    refine wpAnyH_done (by kernel_rfl) ?_ _
    clear hHeld
    clear HSAYB CI2b CI2
    have n3 := cell_of HRdd.out 3 rfl
    have n4 := cell_of HRdd.out 4 rfl
    have n5 := cell_of HRdd.out 5 rfl
    have hal : (asB d r.asn).length + (idB d r.id).length + (r.nets.flatMap (netB d)).length + (r.nbs.flatMap (nbB d)).length + (r.links.flatMap (lnkB d)).length ≤ (rtIn d r).length := by omega
    obtain ⟨y, hy⟩ : ∃ y, x ++ asB d r.asn ++ idB d r.id = y := ⟨_, rfl⟩
    have hyl : y.length = x.length + (asB d r.asn).length + (idB d r.id).length := by rw [← hy, List.length_append, List.length_append]
    have HY : Hid (x ++ rtIn d r = y ++ r.nets.flatMap (netB d) ++ r.nbs.flatMap (nbB d) ++ r.links.flatMap (lnkB d)) := by show _ = _; rw [← hy]; unfold rtIn; simp only [List.append_assoc]
    rw [hy] at ISB
    clear hy n4 n5 HRd HWd ISA BA KA
    go_wp2_with fail
    clear n3
    go_loopw [23] (fun v wr => ∃ k : Nat, v = .int .i64 k ∧ k ≤ r.nets.length ∧ Hid (IsWr WB.heap.size b (Lib.byteCells (y ++ (r.nets.take k).flatMap (netB d))) d wr) ∧ Hid (Below WB.heap.size W wr) ∧ Hid (KeptB b W wr)) (fun v _ => r.nets.length - (intOf v).toNat)
    case atStart => exact ⟨0, rfl, Nat.zero_le _, by show IsWr _ _ _ _ _; rw [show (r.nets.take 0).flatMap (netB d) = [] from rfl, List.append_nil]; exact ISB.out, BB, KB⟩
    case round =>
      clear ISB BB KB
      obtain ⟨k, rfl, hk, HIS, HBR, HK⟩ := hrel
      have HWr := hide (HK.out _ _ _ _ HW.out (by decide) hnw)
      have HRr := hide (HK.out _ _ _ _ HR.out (by decide) hnr)
      by_cases hkl : k < r.nets.length
      · have hkl' : (k : Int) < (r.nets.length : Int) := by omega
        obtain ⟨b2, off, xs, rfl, hbw, hx, ha⟩ := (Rd.below PxR.mono R1.out (hB0.out.trans HBR.out)).at_ hkl
        have hr := HU.out r.nets[k] (List.getElem_mem hkl)
        have HN := hide (show (r.nets.take (k + 1)).flatMap (netB d) = (r.nets.take k).flatMap (netB d) ++ netB d r.nets[k] from flat_snoc _ _ _ hkl)
        have hle : ((r.nets.take k).flatMap (netB d)).length + (netB d r.nets[k]).length ≤ (r.nets.flatMap (netB d)).length := by rw [← List.length_append, ← HN.out]; exact flat_take _ _ _
        have HPT : Hid (∀ W2, Below wr.heap.size wr W2 → Calls Tryz.prog 137 #[.agg #[.int .u32 r.nets[k].1, .int .i64 r.nets[k].2]] W2 fun e w' => e = .returned (.string (addrT r.nets[k])) ∧ Below W2.heap.size W2 w') := fun W2 h2 => Ax.text_any _ _ W2 hr.1 hr.2 (Tab.on HT.out (below_less ((hB0.out.trans HBR.out).trans (below_less h2 (Nat.le_trans hBW HBR.out.size))) (Nat.le_refl _)))
        have HSAYN : Hid (∀ W2, IsWr WB.heap.size b (Lib.byteCells (y ++ (r.nets.take k).flatMap (netB d))) d W2 → WB.heap.size ≤ W2.heap.size → Calls Tryz.prog 131 #[.pointer (some ⟨b, 0, none⟩), .slice (some ⟨W2.heap.size, 0, none⟩) 2 2] (W2.alloc (.cells #[.string ⟨#[110, 101, 116, 119, 111, 114, 107]⟩, .string (addrT r.nets[k])] 9)) fun e w' => e = .returned (.tuple #[]) ∧ IsWr WB.heap.size b (Lib.byteCells (y ++ (r.nets.take k).flatMap (netB d) ++ netB d r.nets[k])) d w' ∧ Below WB.heap.size W2 w' ∧ KeptB b W2 w') := fun W2 h hB => sayLine [⟨#[110, 101, 116, 119, 111, 114, 107]⟩, addrT r.nets[k]] WB.heap.size b d (netB d r.nets[k]).length _ W2 h hB (by simp) (by rw [List.length_append]; omega) (Nat.le_refl _)
        generalize netB d r.nets[k] = RB at *
        generalize addrT r.nets[k] = at1 at *
        generalize r.nets[k] = p at *
        unfold PxR at hx
        subst hx
        have e0 := ha 0 _ rfl
        have e1 := ha 1 _ rfl
        simp only [Nat.add_zero] at e0
        clear ha
        have A2 := balloc (brefl wr) (.cells #[.int .u32 p.1, .int .i64 p.2] 95)
        have N2 := hide (heap_new wr #[.int .u32 p.1, .int .i64 p.2] 95)
        have HWs := hide ((A2.block bw (heap_lt HWr.out)).trans HWr.out)
        have HIS2 := hide (HIS.out.below A2)
        have HB2 := hide (HBR.out.trans (below_less A2 (Nat.le_trans hBW HBR.out.size)))
        have HK2 := hide (HK.out.below A2)
        have CT := hide (fun W2 (h : Below (wr.alloc (.cells #[.int .u32 p.1, .int .i64 p.2] 95)).heap.size (wr.alloc (.cells #[.int .u32 p.1, .int .i64 p.2] 95)) W2) => HPT.out W2 (bthen A2 h))
        have hnx : wr.heap.size ≠ b := by have := HIS.out.depth.2.2.1; omega
        clear A2 HPT
        go_upto_region 5 with fail
        clear e0 e1
        obtain ⟨bx, hbx⟩ : ∃ q, wr.heap.size = q := ⟨_, rfl⟩
        rw [hbx] at N2 hnx ⊢
        have D := Below.drew (brefl (wr.alloc (.cells #[.int .u32 p.1, .int .i64 p.2] 95)))
        have HWsa := hide ((D.block bw (heap_lt HWs.out)).trans HWs.out)
        have N2a := hide ((D.block bx (heap_lt N2.out)).trans N2.out)
        have ISa := hide (HIS2.out.below D)
        have HAa := hide D
        refine wp_region_held_drew (S := (fun w' => w'.cell? ⟨bw, 0, none⟩ = some (.pointer (some ⟨b, 0, none⟩)))) (by kernel_rfl) (cell_of HWsa.out 0 rfl) (fun hHeld => ?_)
        clear D
        generalize (wr.alloc (.cells #[.int .u32 p.1, .int .i64 p.2] 95)).drew = waN at *
        refine wpAnyH_take (i := 0) (v := .pointer (some ⟨b, 0, none⟩)) rfl (by kernel_rfl) (by kernel_rfl) (by kernel_rfl) (fun _ _ _ h => h) (Or.inl ⟨by rfl, fun w hSw => by dsimp only at hSw; go_simp⟩) hHeld ?_
        simp only [Act.put, List.getElem_toArray, List.getElem_cons_zero, List.setIfInBounds_toArray, List.set_cons_zero, List.set_cons_succ]
        refine wpAnyH_ready (rs := [1]) (by kernel_rfl) (by simp) ?_
        refine AllReadyH.cons rfl (fun K hK => ?_) AllReadyH.nil
        have q0 := cell_of N2a.out 0 rfl
        have q1 := cell_of N2a.out 1 rfl
        go_simp
        refine hK.out _ _ (cell_of HWsa.out 0 rfl) (fun hHeld => ?_)
        clear hK K q0 q1
        try simp only [Act.put, List.getElem_toArray, List.getElem_cons_zero, List.getElem_cons_succ, List.setIfInBounds_toArray, List.set_cons_zero, List.set_cons_succ]
        refine wpAnyH_ready (rs := [2]) (by kernel_rfl) (by simp) ?_
        refine AllReadyH.cons rfl (fun K hK => ?_) AllReadyH.nil
        go_simp
        go_wp2_with (refine (CT.out waN HAa.out).mono ?_; rintro e wbN ⟨rfl, hb4⟩)
        have HWsb := hide ((hb4.block bw (heap_lt HWsa.out)).trans HWsa.out)
        have N2b := hide ((hb4.block bx (heap_lt N2a.out)).trans N2a.out)
        have ISb := hide (ISa.out.below hb4)
        have HAb := hide (bthen HAa.out hb4)
        clear hb4
        refine hK.out _ _ (cell_of HWsb.out 0 rfl) (fun hHeld => ?_)
        clear hK K
        try simp only [Act.put, List.getElem_toArray, List.getElem_cons_zero, List.getElem_cons_succ, List.setIfInBounds_toArray, List.set_cons_zero, List.set_cons_succ]
        have Bb := hide (HB2.out.trans (below_less HAb.out (Nat.le_trans hBW HB2.out.size)))
        have Kb := hide (HK2.out.below HAb.out)
        have CS := hide (HSAYN.out wbN ISb.out (Nat.le_trans hBW Bb.out.size))
        have Ac := hide (balloc (brefl wbN) (.cells #[.string ⟨#[110, 101, 116, 119, 111, 114, 107]⟩, .string at1] 9))
        have HWsc := hide ((Ac.out.block bw (heap_lt HWsb.out)).trans HWsb.out)
        have N2c := hide ((Ac.out.block bx (heap_lt N2b.out)).trans N2b.out)
        refine wpAnyH_ready (rs := [3]) (by kernel_rfl) (by simp) ?_
        refine AllReadyH.cons rfl (fun K hK => ?_) AllReadyH.nil
        go_simp
        refine hK.out _ _ (cell_of HWsc.out 0 rfl) (fun hHeld => ?_)
        clear hK K
        try simp only [Act.put, List.getElem_toArray, List.getElem_cons_zero, List.getElem_cons_succ, List.setIfInBounds_toArray, List.set_cons_zero, List.set_cons_succ]
        refine wpAnyH_ready (rs := [4]) (by kernel_rfl) (by simp) ?_
        refine AllReadyH.cons rfl (fun K hK => ?_) AllReadyH.nil
        go_simp
        go_wp2_with (refine CS.out.mono ?_; rintro e wdN ⟨rfl, h6, hb6, hk6⟩)
        have HWsd := hide (hk6 _ _ _ _ HWsb.out (by decide) hnw)
        have N2d := hide (hk6 _ _ _ _ N2b.out (by decide) hnx)
        have ISN := hide h6
        have BN := hide (Bb.out.trans hb6)
        have KN := hide (Kb.out.trans hk6)
        clear h6 hb6 hk6 CS ISa ISb HAa HAb Bb Kb Ac
        refine hK.out _ _ (cell_of HWsd.out 0 rfl) (fun hHeld => ?_)
        clear hK K
        try simp only [Act.put, List.getElem_toArray, List.getElem_cons_zero, List.getElem_cons_succ, List.setIfInBounds_toArray, List.set_cons_zero, List.set_cons_succ]
        refine wpAnyH_done (by kernel_rfl) ?_ _
        clear hHeld
        have W6 : Hid (IsWr WB.heap.size b (Lib.byteCells (y ++ (r.nets.take (k + 1)).flatMap (netB d))) d wdN) := by
          show IsWr _ _ _ _ _
          rw [HN.out, ← List.append_assoc]
          exact ISN.out
        go_wp2_with fail
        exact ⟨⟨k + 1, by go_num, by omega, W6, BN, KN⟩, by simp [intOf] <;> omega⟩
      · have hkl' : ¬ (k : Int) < (r.nets.length : Int) := by omega
        obtain rfl : k = r.nets.length := by omega
        rw [List.take_length] at HIS
        have n4 := cell_of HRr.out 4 rfl
        obtain ⟨y2, hy2⟩ : ∃ z, y ++ r.nets.flatMap (netB d) = z := ⟨_, rfl⟩
        have hyl2 : y2.length = y.length + (r.nets.flatMap (netB d)).length := by rw [← hy2, List.length_append]
        have HY2 := hide hy2
        rw [hy2] at HIS
        clear hy2
        go_wp2_with fail
        clear n4
        go_loopw [36] (fun v wr => ∃ k : Nat, v = .int .i64 k ∧ k ≤ r.nbs.length ∧ Hid (IsWr WB.heap.size b (Lib.byteCells (y2 ++ (r.nbs.take k).flatMap (nbB d))) d wr) ∧ Hid (Below WB.heap.size W wr) ∧ Hid (KeptB b W wr)) (fun v _ => r.nbs.length - (intOf v).toNat)
        case atStart => exact ⟨0, rfl, Nat.zero_le _, by show IsWr _ _ _ _ _; rw [show (r.nbs.take 0).flatMap (nbB d) = [] from rfl, List.append_nil]; exact HIS.out, HBR, HK⟩
        case round =>
          clear HIS HBR HK
          obtain ⟨k, rfl, hk, HIS, HBR, HK⟩ := hrel
          have HWr := hide (HK.out _ _ _ _ HW.out (by decide) hnw)
          have HRr := hide (HK.out _ _ _ _ HR.out (by decide) hnr)
          by_cases hkl : k < r.nbs.length
          · have hkl' : (k : Int) < (r.nbs.length : Int) := by omega
            obtain ⟨b2, off, xs, rfl, hbw, hx, ha⟩ := (Rd.below NbR.mono R2.out (hB0.out.trans HBR.out)).at_ hkl
            have HN := hide (show (r.nbs.take (k + 1)).flatMap (nbB d) = (r.nbs.take k).flatMap (nbB d) ++ nbB d r.nbs[k] from flat_snoc _ _ _ hkl)
            have hle : ((r.nbs.take k).flatMap (nbB d)).length + (nbB d r.nbs[k]).length ≤ (r.nbs.flatMap (nbB d)).length := by rw [← List.length_append, ← HN.out]; exact flat_take _ _ _
            have hll : (nbB d r.nbs[k]).length = d + (sayT (nbT r.nbs[k])).size + 1 := lineB_len _ _
            have HCALL : Hid (∀ W2, IsWr WB.heap.size b (Lib.byteCells (y2 ++ (r.nbs.take k).flatMap (nbB d))) d W2 → WB.heap.size ≤ W2.heap.size → Calls Tryz.prog 138 #[.pointer (some ⟨b, 0, none⟩), .agg #[.string r.nbs[k].name, .string r.nbs[k].imp, .string r.nbs[k].exp, .bool r.nbs[k].client]] W2 fun e w' => e = .returned (.tuple #[]) ∧ IsWr WB.heap.size b (Lib.byteCells (y2 ++ (r.nbs.take k).flatMap (nbB d) ++ nbB d r.nbs[k])) d w' ∧ Below WB.heap.size W2 w' ∧ KeptB b W2 w') := fun W2 h hB => neighbor_is WB.heap.size b _ d r.nbs[k] W2 h (by rw [List.length_append]; omega) hB
            generalize nbB d r.nbs[k] = RB at *
            generalize r.nbs[k] = p at *
            unfold NbR at hx
            subst hx
            obtain ⟨pn, pi_, pe, pc⟩ := p
            have e0 := ha 0 _ rfl
            have e1 := ha 1 _ rfl
            have e2 := ha 2 _ rfl
            have e3 := ha 3 _ rfl
            simp only [Nat.add_zero] at e0 e1 e2 e3
            simp only at HCALL
            clear ha hll
            have A2 := balloc (brefl wr) (.cells #[.string pn, .string pi_, .string pe, .bool pc] 68)
            have N2 := hide (heap_new wr #[.string pn, .string pi_, .string pe, .bool pc] 68)
            have HWs := hide ((A2.block bw (heap_lt HWr.out)).trans HWr.out)
            have HIS2 := hide (HIS.out.below A2)
            have HB2 := hide (HBR.out.trans (below_less A2 (Nat.le_trans hBW HBR.out.size)))
            have HK2 := hide (HK.out.below A2)
            clear A2
            have m0 := cell_of N2.out 0 rfl
            have m1 := cell_of N2.out 1 rfl
            have m2 := cell_of N2.out 2 rfl
            have m3 := cell_of N2.out 3 rfl
            have n0 := cell_of HWs.out 0 rfl
            have CALL := hide (HCALL.out _ HIS2.out (Nat.le_trans hBW HB2.out.size))
            go_wp2_with fail
            refine CALL.out.mono ?_
            rintro e w6 ⟨rfl, h6, hb6, hk6⟩
            have W6 : Hid (IsWr WB.heap.size b (Lib.byteCells (y2 ++ (r.nbs.take (k + 1)).flatMap (nbB d))) d w6) := by
              show IsWr _ _ _ _ _
              rw [HN.out, ← List.append_assoc]
              exact h6
            have B6 := hide (HB2.out.trans hb6)
            have K6 := hide (HK2.out.trans hk6)
            clear h6 hb6 hk6 CALL HCALL m0 m1 m2 m3 n0 e0 e1 e2 e3
            go_wp2_with fail
            exact ⟨⟨k + 1, by go_num, by omega, W6, B6, K6⟩, by simp [intOf] <;> omega⟩
          · have hkl' : ¬ (k : Int) < (r.nbs.length : Int) := by omega
            obtain rfl : k = r.nbs.length := by omega
            rw [List.take_length] at HIS
            have n5 := cell_of HRr.out 5 rfl
            obtain ⟨y3, hy3⟩ : ∃ z, y2 ++ r.nbs.flatMap (nbB d) = z := ⟨_, rfl⟩
            have hyl3 : y3.length = y2.length + (r.nbs.flatMap (nbB d)).length := by rw [← hy3, List.length_append]
            have HY3 := hide hy3
            rw [hy3] at HIS
            clear hy3
            go_wp2_with fail
            clear n5
            go_loopw [47] (fun v wr => ∃ k : Nat, v = .int .i64 k ∧ k ≤ r.links.length ∧ Hid (IsWr WB.heap.size b (Lib.byteCells (y3 ++ (r.links.take k).flatMap (lnkB d))) d wr) ∧ Hid (Below WB.heap.size W wr) ∧ Hid (KeptB b W wr)) (fun v _ => r.links.length - (intOf v).toNat)
            case atStart => exact ⟨0, rfl, Nat.zero_le _, by show IsWr _ _ _ _ _; rw [show (r.links.take 0).flatMap (lnkB d) = [] from rfl, List.append_nil]; exact HIS.out, HBR, HK⟩
            case round =>
              clear HIS HBR HK
              obtain ⟨k, rfl, hk, HIS, HBR, HK⟩ := hrel
              have HWr := hide (HK.out _ _ _ _ HW.out (by decide) hnw)
              have HRr := hide (HK.out _ _ _ _ HR.out (by decide) hnr)
              by_cases hkl : k < r.links.length
              · have hkl' : (k : Int) < (r.links.length : Int) := by omega
                obtain ⟨b2, off, xs, rfl, hbw, hx, ha⟩ := (Rd.below LkR.mono R3.out (hB0.out.trans HBR.out)).at_ hkl
                have hr := HC.out r.links[k] (List.getElem_mem hkl)
                have HN := hide (show (r.links.take (k + 1)).flatMap (lnkB d) = (r.links.take k).flatMap (lnkB d) ++ lnkB d r.links[k] from flat_snoc _ _ _ hkl)
                have hle : ((r.links.take k).flatMap (lnkB d)).length + (lnkB d r.links[k]).length ≤ (r.links.flatMap (lnkB d)).length := by rw [← List.length_append, ← HN.out]; exact flat_take _ _ _
                have HPT : Hid (∀ W2, Below wr.heap.size wr W2 → Calls Tryz.prog 136 #[.int .i64 r.links[k].cost] W2 fun e w' => e = .returned (.string (numT r.links[k].cost)) ∧ Below W2.heap.size W2 w') := fun W2 h2 => itoa_is _ hr.1 hr.2 W2 (Tab.on HT.out (below_less ((hB0.out.trans HBR.out).trans (below_less h2 (Nat.le_trans hBW HBR.out.size))) (Nat.le_refl _)))
                have HSAYL : Hid (∀ W2, IsWr WB.heap.size b (Lib.byteCells (y3 ++ (r.links.take k).flatMap (lnkB d))) d W2 → WB.heap.size ≤ W2.heap.size → Calls Tryz.prog 131 #[.pointer (some ⟨b, 0, none⟩), .slice (some ⟨W2.heap.size, 0, none⟩) 4 4] (W2.alloc (.cells #[.string ⟨#[108, 105, 110, 107]⟩, .string r.links[k].name, .string ⟨#[99, 111, 115, 116]⟩, .string (numT r.links[k].cost)] 9)) fun e w' => e = .returned (.tuple #[]) ∧ IsWr WB.heap.size b (Lib.byteCells (y3 ++ (r.links.take k).flatMap (lnkB d) ++ lnkB d r.links[k])) d w' ∧ Below WB.heap.size W2 w' ∧ KeptB b W2 w') := fun W2 h hB => sayLine [⟨#[108, 105, 110, 107]⟩, r.links[k].name, ⟨#[99, 111, 115, 116]⟩, numT r.links[k].cost] WB.heap.size b d (lnkB d r.links[k]).length _ W2 h hB (by simp) (by rw [List.length_append]; omega) (Nat.le_refl _)
                generalize lnkB d r.links[k] = RB at *
                generalize numT r.links[k].cost = at1 at *
                generalize r.links[k] = p at *
                unfold LkR at hx
                subst hx
                obtain ⟨pn, pc⟩ := p
                have e0 := ha 0 _ rfl
                have e1 := ha 1 _ rfl
                simp only [Nat.add_zero] at e0 e1
                simp only at HSAYL HPT
                clear ha
                have A2 := balloc (brefl wr) (.cells #[.string pn, .int .i64 pc] 70)
                have N2 := hide (heap_new wr #[.string pn, .int .i64 pc] 70)
                have HWs := hide ((A2.block bw (heap_lt HWr.out)).trans HWr.out)
                have HIS2 := hide (HIS.out.below A2)
                have HB2 := hide (HBR.out.trans (below_less A2 (Nat.le_trans hBW HBR.out.size)))
                have HK2 := hide (HK.out.below A2)
                have CT := hide (fun W2 (h : Below (wr.alloc (.cells #[.string pn, .int .i64 pc] 70)).heap.size (wr.alloc (.cells #[.string pn, .int .i64 pc] 70)) W2) => HPT.out W2 (bthen A2 h))
                have hnx : wr.heap.size ≠ b := by have := HIS.out.depth.2.2.1; omega
                clear A2 HPT
                go_upto_region 15 with fail
                clear e0 e1
                obtain ⟨bx, hbx⟩ : ∃ q, wr.heap.size = q := ⟨_, rfl⟩
                rw [hbx] at N2 hnx ⊢
                have D := Below.drew (brefl (wr.alloc (.cells #[.string pn, .int .i64 pc] 70)))
                have HWsa := hide ((D.block bw (heap_lt HWs.out)).trans HWs.out)
                have N2a := hide ((D.block bx (heap_lt N2.out)).trans N2.out)
                have ISa := hide (HIS2.out.below D)
                have HAa := hide D
                refine wp_region_held_drew (S := (fun w' => w'.cell? ⟨bw, 0, none⟩ = some (.pointer (some ⟨b, 0, none⟩)) ∧ w'.cell? ⟨bx, 0, none⟩ = some (.string pn) ∧ w'.cell? ⟨bx, 1, none⟩ = some (.int .i64 pc))) (by kernel_rfl) (⟨cell_of HWsa.out 0 rfl, cell_of N2a.out 0 rfl, cell_of N2a.out 1 rfl⟩) (fun hHeld => ?_)
                clear D
                generalize (wr.alloc (.cells #[.string pn, .int .i64 pc] 70)).drew = waL at *
                refine wpAnyH_take (i := 0) (v := .pointer (some ⟨b, 0, none⟩)) rfl (by kernel_rfl) (by kernel_rfl) (by kernel_rfl) (fun _ _ _ h => h) (Or.inl ⟨by rfl, fun w hSw => by dsimp only at hSw; obtain ⟨s0, s1, s2⟩ := hSw; go_simp⟩) hHeld ?_
                simp only [Act.put, List.getElem_toArray, List.getElem_cons_zero, List.setIfInBounds_toArray, List.set_cons_zero, List.set_cons_succ]
                refine wpAnyH_take (i := 1) (v := .pointer (some ⟨bx, 0, none⟩)) rfl (by kernel_rfl) (by kernel_rfl) (by kernel_rfl) (fun _ _ _ h => h) (Or.inl ⟨by rfl, fun w hSw => by dsimp only at hSw; obtain ⟨s0, s1, s2⟩ := hSw; go_simp⟩) hHeld ?_
                simp only [Act.put, List.getElem_toArray, List.getElem_cons_zero, List.getElem_cons_succ, List.setIfInBounds_toArray, List.set_cons_zero, List.set_cons_succ]
                refine wpAnyH_take (i := 2) (v := .string pn) rfl (by kernel_rfl) (by kernel_rfl) (by kernel_rfl) (fun _ _ _ h => h) (Or.inl ⟨by rfl, fun w hSw => by dsimp only at hSw; obtain ⟨s0, s1, s2⟩ := hSw; go_simp⟩) hHeld ?_
                simp only [Act.put, List.getElem_toArray, List.getElem_cons_zero, List.getElem_cons_succ, List.setIfInBounds_toArray, List.set_cons_zero, List.set_cons_succ]
                refine wpAnyH_take (i := 3) (v := .pointer (some ⟨bx, 1, none⟩)) rfl (by kernel_rfl) (by kernel_rfl) (by kernel_rfl) (fun _ _ _ h => h) (Or.inl ⟨by rfl, fun w hSw => by dsimp only at hSw; obtain ⟨s0, s1, s2⟩ := hSw; go_simp⟩) hHeld ?_
                simp only [Act.put, List.getElem_toArray, List.getElem_cons_zero, List.getElem_cons_succ, List.setIfInBounds_toArray, List.set_cons_zero, List.set_cons_succ]
                refine wpAnyH_take (i := 4) (v := .int .i64 pc) rfl (by kernel_rfl) (by kernel_rfl) (by kernel_rfl) (fun _ _ _ h => h) (Or.inl ⟨by rfl, fun w hSw => by dsimp only at hSw; obtain ⟨s0, s1, s2⟩ := hSw; go_simp⟩) hHeld ?_
                simp only [Act.put, List.getElem_toArray, List.getElem_cons_zero, List.getElem_cons_succ, List.setIfInBounds_toArray, List.set_cons_zero, List.set_cons_succ]
                refine wpAnyH_ready (rs := [5]) (by kernel_rfl) (by simp) ?_
                refine AllReadyH.cons rfl (fun K hK => ?_) AllReadyH.nil
                go_simp
                go_wp2_with (refine (CT.out waL HAa.out).mono ?_; rintro e wbL ⟨rfl, hb4⟩)
                have HWsb := hide ((hb4.block bw (heap_lt HWsa.out)).trans HWsa.out)
                have N2b := hide ((hb4.block bx (heap_lt N2a.out)).trans N2a.out)
                have ISb := hide (ISa.out.below hb4)
                have HAb := hide (bthen HAa.out hb4)
                clear hb4
                refine hK.out _ _ (⟨cell_of HWsb.out 0 rfl, cell_of N2b.out 0 rfl, cell_of N2b.out 1 rfl⟩) (fun hHeld => ?_)
                clear hK K
                try simp only [Act.put, List.getElem_toArray, List.getElem_cons_zero, List.getElem_cons_succ, List.setIfInBounds_toArray, List.set_cons_zero, List.set_cons_succ]
                have Bb := hide (HB2.out.trans (below_less HAb.out (Nat.le_trans hBW HB2.out.size)))
                have Kb := hide (HK2.out.below HAb.out)
                have CS := hide (HSAYL.out wbL ISb.out (Nat.le_trans hBW Bb.out.size))
                have Ac := hide (balloc (brefl wbL) (.cells #[.string ⟨#[108, 105, 110, 107]⟩, .string pn, .string ⟨#[99, 111, 115, 116]⟩, .string at1] 9))
                have HWsc := hide ((Ac.out.block bw (heap_lt HWsb.out)).trans HWsb.out)
                have N2c := hide ((Ac.out.block bx (heap_lt N2b.out)).trans N2b.out)
                refine wpAnyH_ready (rs := [6]) (by kernel_rfl) (by simp) ?_
                refine AllReadyH.cons rfl (fun K hK => ?_) AllReadyH.nil
                go_simp
                refine hK.out _ _ (⟨cell_of HWsc.out 0 rfl, cell_of N2c.out 0 rfl, cell_of N2c.out 1 rfl⟩) (fun hHeld => ?_)
                clear hK K
                try simp only [Act.put, List.getElem_toArray, List.getElem_cons_zero, List.getElem_cons_succ, List.setIfInBounds_toArray, List.set_cons_zero, List.set_cons_succ]
                refine wpAnyH_ready (rs := [7]) (by kernel_rfl) (by simp) ?_
                refine AllReadyH.cons rfl (fun K hK => ?_) AllReadyH.nil
                go_simp
                go_wp2_with (refine CS.out.mono ?_; rintro e wdL ⟨rfl, h6, hb6, hk6⟩)
                have HWsd := hide (hk6 _ _ _ _ HWsb.out (by decide) hnw)
                have N2d := hide (hk6 _ _ _ _ N2b.out (by decide) hnx)
                have ISL := hide h6
                have BL := hide (Bb.out.trans hb6)
                have KL := hide (Kb.out.trans hk6)
                clear h6 hb6 hk6 CS ISa ISb HAa HAb Bb Kb Ac
                refine hK.out _ _ (⟨cell_of HWsd.out 0 rfl, cell_of N2d.out 0 rfl, cell_of N2d.out 1 rfl⟩) (fun hHeld => ?_)
                clear hK K
                try simp only [Act.put, List.getElem_toArray, List.getElem_cons_zero, List.getElem_cons_succ, List.setIfInBounds_toArray, List.set_cons_zero, List.set_cons_succ]
                refine wpAnyH_done (by kernel_rfl) ?_ _
                clear hHeld
                have W6 : Hid (IsWr WB.heap.size b (Lib.byteCells (y3 ++ (r.links.take (k + 1)).flatMap (lnkB d))) d wdL) := by
                  show IsWr _ _ _ _ _
                  rw [HN.out, ← List.append_assoc]
                  exact ISL.out
                go_wp2_with fail
                exact ⟨⟨k + 1, by go_num, by omega, W6, BL, KL⟩, by simp [intOf] <;> omega⟩
              · have hkl' : ¬ (k : Int) < (r.links.length : Int) := by omega
                obtain rfl : k = r.links.length := by omega
                rw [List.take_length] at HIS
                rw [← HY3.out, ← HY2.out, ← HY.out] at HIS
                go_wp2_with fail
                go_end0
                exact ⟨rfl, HIS.out, HBR.out, HK.out⟩
end Go.Proofs.YtpmmhmgojjlniaaGreatDoor
