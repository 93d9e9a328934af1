/- show's writer: clause. -/
import Derived.Test.YtpmmhmgojjlniaaGreatDoorQ01
import Derived.Test.YtpmmhmgojjlniaaGreatDoorQ02
import Derived.Test.YtpmmhmgojjlniaaGreatDoorQ03
import Derived.Test.YtpmmhmgojjlniaaGreatDoorQ36
import Derived.Lib.IndexLaws
import Derived.Lib.IndexBytes
import Derived.Lib.ItoaLen
import Derived.Laws.Externs
namespace Go.Proofs.YtpmmhmgojjlniaaGreatDoor
open Go.RowKit Go.Sort
def preC (ok : Bool) : ByteArray := if ok = true then ⟨#[112, 101, 114, 109, 105, 116, 32]⟩ else ⟨#[100, 101, 110, 121, 32]⟩
def clHead (c : Cl) : ByteArray := preC c.ok ++ numT c.n
/-- A clause as it is written. -/
def clauseB (d : Nat) (c : Cl) : List UInt8 := blockB d (clHead c) (clIn (d + 1) c)
theorem blockB_len (d : Nat) (head : ByteArray) (out : List UInt8) : (blockB d head out).length = 2 * d + head.size + out.length + 5 := by
  unfold blockB
  rw [List.length_append, List.length_append, lineB_len, lineB_len, ByteArray.size_append]
  show d + (_ + 2) + 1 + _ + (d + 1 + 1) = _
  omega
set_option maxHeartbeats 8000000 in
set_option maxRecDepth 100000 in
theorem clause_is (WB w : World) (b d : Nat) (x : List UInt8) (c : Cl) (va vd vp : Value) (hW : Below WB.heap.size WB w) (h1 : Rd WB 2 PrR va c.s.add) (h2 : Rd WB 2 PrR vd c.s.del) (h3 : Rd WB 1 InR vp c.s.prep) (ht : Tab WB) (hN : -1 ≤ c.n ∧ c.n ≤ 1048576) (hp : -1 ≤ c.s.pref ∧ c.s.pref ≤ 1048576) (hm : -1 ≤ c.s.med ∧ c.s.med ≤ 1048576) (hq : ∀ n ∈ c.s.prep, -1 ≤ n ∧ n ≤ 1048576) (hn : c.s.add.length ≤ 900 ∧ c.s.del.length ≤ 900 ∧ c.s.prep.length ≤ 900) (hs : SetSz c.s) (hsm : MatchSz c.m) (hnz : (numT c.n).size ≤ 100) (hd : d + 1 ≤ 10)
    (h : IsWr WB.heap.size b (Lib.byteCells x) d w) (hz : x.length + (clIn (d + 1) c).length + 2000 ≤ 100000000) :
    Calls Tryz.prog 134 #[.pointer (some ⟨b, 0, none⟩), clV c va vd vp] w fun e w' => e = .returned (.tuple #[]) ∧ IsWr WB.heap.size b (Lib.byteCells (x ++ clauseB d c)) d w' ∧ Below WB.heap.size w w' ∧ KeptB b w w' := by
  obtain ⟨oa, ka, rfl⟩ := h1.slice
  obtain ⟨od, kd, rfl⟩ := h2.slice
  obtain ⟨op, kp, rfl⟩ := h3.slice
  have hlt := h.depth.2.2.1
  have A1 := balloc (brefl w) (.cells #[.pointer (some ⟨b, 0, none⟩)] 119)
  have A2 := balloc (brefl (w.alloc (.cells #[.pointer (some ⟨b, 0, none⟩)] 119))) (.cells #[.int .i64 c.n, .bool c.ok, .string c.m.list, .string c.m.path, .int .i64 c.m.ca, .int .i64 c.m.cn, .int .i64 c.s.pref, .int .i64 c.s.med, .int .i64 c.s.org, .slice oa c.s.add.length ka, .slice od c.s.del.length kd, .bool c.s.clr, .slice op c.s.prep.length kp] 61)
  have A := bthen A1 A2
  have N1 := (A2.block w.heap.size (by rw [size_alloc]; omega)).trans (heap_new w #[.pointer (some ⟨b, 0, none⟩)] 119)
  have N2 := heap_new (w.alloc (.cells #[.pointer (some ⟨b, 0, none⟩)] 119)) #[.int .i64 c.n, .bool c.ok, .string c.m.list, .string c.m.path, .int .i64 c.m.ca, .int .i64 c.m.cn, .int .i64 c.s.pref, .int .i64 c.s.med, .int .i64 c.s.org, .slice oa c.s.add.length ka, .slice od c.s.del.length kd, .bool c.s.clr, .slice op c.s.prep.length kp] 61
  rw [size_alloc] at N2
  have AW := below_less A hW.size
  have hnw : w.heap.size ≠ b := by omega
  have hnc : w.heap.size + 1 ≠ b := by omega
  have HIS := hide (h.below A)
  have HA := hide A
  have HAW := hide AW
  have HK := hide ((KeptB.refl b w).below A)
  have HN1 := hide N1
  have HN2 := hide N2
  have hBW : WB.heap.size ≤ w.heap.size := hW.size
  unfold clV
  clear A1 A2
  go_enter Tryz.func134, Tryz.ntmps134
  go_upto_region 1 with fail
  obtain ⟨bw, hbw⟩ : ∃ q, w.heap.size = q := ⟨_, rfl⟩
  rw [hbw] at HN1 HN2 N1 N2 hnw hnc ⊢
  obtain ⟨bc, hbc⟩ : ∃ q, bw + 1 = q := ⟨_, rfl⟩
  rw [hbc] at HN2 N2 hnc ⊢
  clear hbc
  generalize (w.alloc (.cells #[.pointer (some ⟨b, 0, none⟩)] 119)).alloc (.cells #[.int .i64 c.n, .bool c.ok, .string c.m.list, .string c.m.path, .int .i64 c.m.ca, .int .i64 c.m.cn, .int .i64 c.s.pref, .int .i64 c.s.med, .int .i64 c.s.org, .slice oa c.s.add.length ka, .slice od c.s.del.length kd, .bool c.s.clr, .slice op c.s.prep.length kp] 61) = w0 at *
  have CI := hide (fun W2 (hb : Below w0.heap.size w0 W2) => itoa_is c.n hN.1 hN.2 W2 (Tab.on ht ((hW.trans AW).trans (below_less hb (Nat.le_trans hBW (by have := HA.out.size; omega))))))
  have HP : Hid (clHead c = preC c.ok ++ numT c.n) := rfl
  have HE : Hid (clauseB d c = blockB d (clHead c) (clIn (d + 1) c)) := rfl
  have hps : (clHead c).size ≤ 200 := by
    rw [HP.out, ByteArray.size_append]
    have : (preC c.ok).size ≤ 7 := by unfold preC; split <;> decide
    omega
  have CB := hide (fun W2 (hb : Below w0.heap.size w0 W2) => block_is WB.heap.size b x d (clHead c) (clIn (d + 1) c) W2 (clauseIn_is WB W2 b (d + 1) bc bw c _ _ _ ((hW.trans AW).trans (below_less hb (Nat.le_trans hBW (by have := HA.out.size; omega)))) h1 h2 h3 ht hp hm hq hn hs hsm hd ((hb.block bc (heap_lt HN2.out)).trans HN2.out) ((hb.block bw (heap_lt HN1.out)).trans HN1.out) hnc hnw) (HIS.out.below hb) (by omega) (by omega) (by omega) (Nat.le_trans hBW (Nat.le_trans (by have := HA.out.size; omega) hb.size)))
  have n1 := cell_of N2 1 rfl
  rw [← HE.out] at CB
  rw [HP.out] at CB
  have hBW0 : WB.heap.size ≤ w0.heap.size := Nat.le_trans hBW (by have := HA.out.size; omega)
  obtain ⟨LB, hLB⟩ : ∃ q, clauseB d c = q := ⟨_, rfl⟩
  rw [hLB] at CB
  have HLB := hide hLB
  clear hLB
  clear hW h1 h2 h3 ht hN hp hm hq hn hs hsm h hz HE hps HP A AW N1 N2 hlt
  generalize numT c.n = nt at *
  generalize c.n = cn at *
  generalize c.ok = ok at *
  cases ok
  · have HP : Hid (preC false = ⟨#[100, 101, 110, 121, 32]⟩) := rfl
    rw [HP.out] at CB
    clear HP
    have hov : ¬ 9223372036854775807 < 5 + nt.size := by omega
    go_upto_region 4 with fail
    clear n1
    have D := Below.drew (brefl w0)
    have HN1a := hide ((D.block bw (heap_lt HN1.out)).trans HN1.out)
    have HN2a := hide ((D.block bc (heap_lt HN2.out)).trans HN2.out)
    have HAa := hide D
    refine wp_region_held_drew (S := (fun w' => w'.cell? ⟨bw, 0, none⟩ = some (.pointer (some ⟨b, 0, none⟩)) ∧ w'.cell? ⟨bc, 0, none⟩ = some (.int .i64 cn))) (by kernel_rfl) (⟨cell_of HN1a.out 0 rfl, cell_of HN2a.out 0 rfl⟩) (fun hHeld => ?_)
    clear D
    obtain ⟨wa, hwa⟩ : ∃ wa, w0.drew = wa := ⟨_, rfl⟩
    rw [hwa] at HN1a HN2a HAa hHeld ⊢
    clear hwa
    refine wpAnyH_take (i := 0) (v := .pointer (some ⟨b, 0, none⟩)) rfl (by kernel_rfl) (by kernel_rfl) (by kernel_rfl) (fun _ _ _ h => h) (Or.inl ⟨by rfl, fun w hSw => by dsimp only at hSw; obtain ⟨s0, s1⟩ := hSw; go_simp⟩) hHeld ?_
    try simp only [Act.put, List.getElem_toArray, List.getElem_cons_zero, List.setIfInBounds_toArray, List.set_cons_zero, List.set_cons_succ]
    refine wpAnyH_take (i := 1) (v := .string ⟨#[100, 101, 110, 121, 32]⟩) rfl (by kernel_rfl) (by kernel_rfl) (by kernel_rfl) (fun _ _ _ h => h) (Or.inl ⟨by rfl, fun w hSw => by dsimp only at hSw; obtain ⟨s0, s1⟩ := hSw; go_simp⟩) hHeld ?_
    try simp only [Act.put, List.getElem_toArray, List.getElem_cons_zero, List.getElem_cons_succ, List.setIfInBounds_toArray, List.set_cons_zero, List.set_cons_succ]
    refine wpAnyH_take (i := 2) (v := .pointer (some ⟨bc, 0, none⟩)) rfl (by kernel_rfl) (by kernel_rfl) (by kernel_rfl) (fun _ _ _ h => h) (Or.inl ⟨by rfl, fun w hSw => by dsimp only at hSw; obtain ⟨s0, s1⟩ := hSw; go_simp⟩) hHeld ?_
    try simp only [Act.put, List.getElem_toArray, List.getElem_cons_zero, List.getElem_cons_succ, List.setIfInBounds_toArray, List.set_cons_zero, List.set_cons_succ]
    refine wpAnyH_take (i := 6) (v := .func (.func 200) #[] #[.pointer (some ⟨bw, 0, none⟩), .pointer (some ⟨bc, 0, none⟩)]) rfl (by kernel_rfl) (by kernel_rfl) (by kernel_rfl) (fun _ _ _ h => h) (Or.inl ⟨by rfl, fun w hSw => by dsimp only at hSw; obtain ⟨s0, s1⟩ := hSw; go_simp⟩) hHeld ?_
    try simp only [Act.put, List.getElem_toArray, List.getElem_cons_zero, List.getElem_cons_succ, List.setIfInBounds_toArray, List.set_cons_zero, List.set_cons_succ]
    refine wpAnyH_take (i := 3) (v := .int .i64 cn) rfl (by kernel_rfl) (by kernel_rfl) (by kernel_rfl) (fun _ _ _ h => h) (Or.inl ⟨by rfl, fun w hSw => by dsimp only at hSw; obtain ⟨s0, s1⟩ := hSw; go_simp⟩) hHeld ?_
    try simp only [Act.put, List.getElem_toArray, List.getElem_cons_zero, List.getElem_cons_succ, List.setIfInBounds_toArray, List.set_cons_zero, List.set_cons_succ]
    refine wpAnyH_ready (rs := [4]) (by kernel_rfl) (by simp) ?_
    refine AllReadyH.cons rfl (fun K hK => ?_) AllReadyH.nil
    go_simp
    go_wp2_with (refine (CI.out wa HAa.out).mono ?_; rintro e wb ⟨rfl, hb4⟩)
    have HN1b := hide ((hb4.block bw (heap_lt HN1a.out)).trans HN1a.out)
    have HN2b := hide ((hb4.block bc (heap_lt HN2a.out)).trans HN2a.out)
    have HAb := hide (bthen HAa.out hb4)
    clear hb4
    refine hK.out _ _ (⟨cell_of HN1b.out 0 rfl, cell_of HN2b.out 0 rfl⟩) (fun hHeld => ?_)
    clear hK K
    try simp only [Act.put, List.getElem_toArray, List.getElem_cons_zero, List.getElem_cons_succ, List.setIfInBounds_toArray, List.set_cons_zero, List.set_cons_succ]
    refine wpAnyH_ready (rs := [5]) (by kernel_rfl) (by simp) ?_
    refine AllReadyH.cons rfl (fun K hK => ?_) AllReadyH.nil
    go_simp
    refine hK.out _ _ (⟨cell_of HN1b.out 0 rfl, cell_of HN2b.out 0 rfl⟩) (fun hHeld => ?_)
    clear hK K
    try simp only [Act.put, List.getElem_toArray, List.getElem_cons_zero, List.getElem_cons_succ, List.setIfInBounds_toArray, List.set_cons_zero, List.set_cons_succ]
    have CS := hide (CB.out wb HAb.out)
    refine wpAnyH_ready (rs := [7]) (by kernel_rfl) (by simp) ?_
    refine AllReadyH.cons rfl (fun K hK => ?_) AllReadyH.nil
    go_simp
    go_wp2_with (refine CS.out.mono ?_; rintro e wd ⟨rfl, h6, hb6, hk6⟩)
    have HN1d := hide (hk6 _ _ _ _ HN1b.out (by decide) hnw)
    have HN2d := hide (hk6 _ _ _ _ HN2b.out (by decide) hnc)
    have ISd := hide h6
    have Bd := hide ((HAW.out.trans (below_less HAb.out hBW0)).trans hb6)
    have Kd := hide ((HK.out.below HAb.out).trans hk6)
    clear h6 hb6 hk6 CS
    refine hK.out _ _ (⟨cell_of HN1d.out 0 rfl, cell_of HN2d.out 0 rfl⟩) (fun hHeld => ?_)
    clear hK K
    try simp only [Act.put, List.getElem_toArray, List.getElem_cons_zero, List.getElem_cons_succ, List.setIfInBounds_toArray, List.set_cons_zero, List.set_cons_succ]
    refine wpAnyH_done (by kernel_rfl) ?_ _
    clear hHeld
    go_wp2_with fail
    go_end0
    exact ⟨rfl, by rw [HLB.out]; exact ISd.out, Bd.out, Kd.out⟩
  · have HP : Hid (preC true = ⟨#[112, 101, 114, 109, 105, 116, 32]⟩) := rfl
    rw [HP.out] at CB
    clear HP
    have hov : ¬ 9223372036854775807 < 7 + nt.size := by omega
    go_upto_region 4 with fail
    clear n1
    have D := Below.drew (brefl w0)
    have HN1a := hide ((D.block bw (heap_lt HN1.out)).trans HN1.out)
    have HN2a := hide ((D.block bc (heap_lt HN2.out)).trans HN2.out)
    have HAa := hide D
    refine wp_region_held_drew (S := (fun w' => w'.cell? ⟨bw, 0, none⟩ = some (.pointer (some ⟨b, 0, none⟩)) ∧ w'.cell? ⟨bc, 0, none⟩ = some (.int .i64 cn))) (by kernel_rfl) (⟨cell_of HN1a.out 0 rfl, cell_of HN2a.out 0 rfl⟩) (fun hHeld => ?_)
    clear D
    obtain ⟨wa, hwa⟩ : ∃ wa, w0.drew = wa := ⟨_, rfl⟩
    rw [hwa] at HN1a HN2a HAa hHeld ⊢
    clear hwa
    refine wpAnyH_take (i := 0) (v := .pointer (some ⟨b, 0, none⟩)) rfl (by kernel_rfl) (by kernel_rfl) (by kernel_rfl) (fun _ _ _ h => h) (Or.inl ⟨by rfl, fun w hSw => by dsimp only at hSw; obtain ⟨s0, s1⟩ := hSw; go_simp⟩) hHeld ?_
    try simp only [Act.put, List.getElem_toArray, List.getElem_cons_zero, List.setIfInBounds_toArray, List.set_cons_zero, List.set_cons_succ]
    refine wpAnyH_take (i := 1) (v := .string ⟨#[112, 101, 114, 109, 105, 116, 32]⟩) rfl (by kernel_rfl) (by kernel_rfl) (by kernel_rfl) (fun _ _ _ h => h) (Or.inl ⟨by rfl, fun w hSw => by dsimp only at hSw; obtain ⟨s0, s1⟩ := hSw; go_simp⟩) hHeld ?_
    try simp only [Act.put, List.getElem_toArray, List.getElem_cons_zero, List.getElem_cons_succ, List.setIfInBounds_toArray, List.set_cons_zero, List.set_cons_succ]
    refine wpAnyH_take (i := 2) (v := .pointer (some ⟨bc, 0, none⟩)) rfl (by kernel_rfl) (by kernel_rfl) (by kernel_rfl) (fun _ _ _ h => h) (Or.inl ⟨by rfl, fun w hSw => by dsimp only at hSw; obtain ⟨s0, s1⟩ := hSw; go_simp⟩) hHeld ?_
    try simp only [Act.put, List.getElem_toArray, List.getElem_cons_zero, List.getElem_cons_succ, List.setIfInBounds_toArray, List.set_cons_zero, List.set_cons_succ]
    refine wpAnyH_take (i := 6) (v := .func (.func 200) #[] #[.pointer (some ⟨bw, 0, none⟩), .pointer (some ⟨bc, 0, none⟩)]) rfl (by kernel_rfl) (by kernel_rfl) (by kernel_rfl) (fun _ _ _ h => h) (Or.inl ⟨by rfl, fun w hSw => by dsimp only at hSw; obtain ⟨s0, s1⟩ := hSw; go_simp⟩) hHeld ?_
    try simp only [Act.put, List.getElem_toArray, List.getElem_cons_zero, List.getElem_cons_succ, List.setIfInBounds_toArray, List.set_cons_zero, List.set_cons_succ]
    refine wpAnyH_take (i := 3) (v := .int .i64 cn) rfl (by kernel_rfl) (by kernel_rfl) (by kernel_rfl) (fun _ _ _ h => h) (Or.inl ⟨by rfl, fun w hSw => by dsimp only at hSw; obtain ⟨s0, s1⟩ := hSw; go_simp⟩) hHeld ?_
    try simp only [Act.put, List.getElem_toArray, List.getElem_cons_zero, List.getElem_cons_succ, List.setIfInBounds_toArray, List.set_cons_zero, List.set_cons_succ]
    refine wpAnyH_ready (rs := [4]) (by kernel_rfl) (by simp) ?_
    refine AllReadyH.cons rfl (fun K hK => ?_) AllReadyH.nil
    go_simp
    go_wp2_with (refine (CI.out wa HAa.out).mono ?_; rintro e wb ⟨rfl, hb4⟩)
    have HN1b := hide ((hb4.block bw (heap_lt HN1a.out)).trans HN1a.out)
    have HN2b := hide ((hb4.block bc (heap_lt HN2a.out)).trans HN2a.out)
    have HAb := hide (bthen HAa.out hb4)
    clear hb4
    refine hK.out _ _ (⟨cell_of HN1b.out 0 rfl, cell_of HN2b.out 0 rfl⟩) (fun hHeld => ?_)
    clear hK K
    try simp only [Act.put, List.getElem_toArray, List.getElem_cons_zero, List.getElem_cons_succ, List.setIfInBounds_toArray, List.set_cons_zero, List.set_cons_succ]
    refine wpAnyH_ready (rs := [5]) (by kernel_rfl) (by simp) ?_
    refine AllReadyH.cons rfl (fun K hK => ?_) AllReadyH.nil
    go_simp
    refine hK.out _ _ (⟨cell_of HN1b.out 0 rfl, cell_of HN2b.out 0 rfl⟩) (fun hHeld => ?_)
    clear hK K
    try simp only [Act.put, List.getElem_toArray, List.getElem_cons_zero, List.getElem_cons_succ, List.setIfInBounds_toArray, List.set_cons_zero, List.set_cons_succ]
    have CS := hide (CB.out wb HAb.out)
    refine wpAnyH_ready (rs := [7]) (by kernel_rfl) (by simp) ?_
    refine AllReadyH.cons rfl (fun K hK => ?_) AllReadyH.nil
    go_simp
    go_wp2_with (refine CS.out.mono ?_; rintro e wd ⟨rfl, h6, hb6, hk6⟩)
    have HN1d := hide (hk6 _ _ _ _ HN1b.out (by decide) hnw)
    have HN2d := hide (hk6 _ _ _ _ HN2b.out (by decide) hnc)
    have ISd := hide h6
    have Bd := hide ((HAW.out.trans (below_less HAb.out hBW0)).trans hb6)
    have Kd := hide ((HK.out.below HAb.out).trans hk6)
    clear h6 hb6 hk6 CS
    refine hK.out _ _ (⟨cell_of HN1d.out 0 rfl, cell_of HN2d.out 0 rfl⟩) (fun hHeld => ?_)
    clear hK K
    try simp only [Act.put, List.getElem_toArray, List.getElem_cons_zero, List.getElem_cons_succ, List.setIfInBounds_toArray, List.set_cons_zero, List.set_cons_succ]
    refine wpAnyH_done (by kernel_rfl) ?_ _
    clear hHeld
    go_wp2_with fail
    go_end0
    exact ⟨rfl, by rw [HLB.out]; exact ISd.out, Bd.out, Kd.out⟩
end Go.Proofs.YtpmmhmgojjlniaaGreatDoor
namespace Go.Proofs.YtpmmhmgojjlniaaGreatDoor.Ax
open Go
theorem Ad.dec_step (m d : Nat) (hm : 1 ≤ m) (hd : d < 10) : Lib.decDigits (10 * m + d) = Lib.decDigits m ++ [UInt8.ofNat (48 + d)] := by
  rw [Lib.decDigits, dif_neg (by omega)]
  have e1 : (10 * m + d) / 10 = m := by omega
  have e2 : (10 * m + d) % 10 = d := by omega
  rw [e1, e2]

theorem Ad.ofNat_dig (d : Nat) (h : d < 10) : (UInt8.ofNat (48 + d)).toNat = 48 + d := by
  rw [UInt8.toNat_ofNat']
  omega

theorem Ad.dig_ofNat (d : Nat) (h : d < 10) : Ad.dig (UInt8.ofNat (48 + d)) = true := by
  unfold Ad.dig
  rw [Ad.ofNat_dig d h]
  simp
  omega

theorem Ad.dec_all (u : Nat) : Ad.digs (Lib.decDigits u) = true ∧ Ad.num (Lib.decDigits u) = u ∧ Lib.decDigits u ≠ [] ∧ (10 ≤ u → (Lib.decDigits u).head? ≠ some 48) ∧ (1 ≤ u → (Lib.decDigits u).head? ≠ some 48) := by
  induction u using Nat.strongRecOn with
  | _ u ih =>
    by_cases h : u < 10
    · rw [Lib.decDigits_one h]
      refine ⟨?_, ?_, by simp, fun h' => by omega, ?_⟩
      · have := Ad.dig_ofNat u h
        simpa [Ad.digs, Ad.dig] using this
      · have := Ad.ofNat_dig u h
        simp only [Ad.num, List.foldl_cons, List.foldl_nil]
        rw [this]
        omega
      · intro h1 e
        have h2 : UInt8.ofNat (48 + u) = 48 := Option.some.inj e
        have h3 := Ad.ofNat_dig u h
        rw [h2] at h3
        have : (48 : UInt8).toNat = 48 := rfl
        omega
    · obtain ⟨i1, i2, i3, _, i5⟩ := ih (u / 10) (by omega)
      have e : u = 10 * (u / 10) + u % 10 := by omega
      have hs := Ad.dec_step (u / 10) (u % 10) (by omega) (by omega)
      rw [← e] at hs
      rw [hs]
      have hh : (Lib.decDigits (u / 10) ++ [UInt8.ofNat (48 + u % 10)]).head? ≠ some 48 := by
        have := i5 (by omega)
        cases hc : Lib.decDigits (u / 10) with
        | nil => exact absurd hc i3
        | cons x xs => rw [hc] at this; simpa using this
      refine ⟨?_, ?_, by simp, fun _ => hh, fun _ => hh⟩
      · rw [Ad.digs_snoc, i1, Ad.dig_ofNat _ (by omega)]
        rfl
      · rw [Ad.num_snoc, i2, Ad.ofNat_dig _ (by omega)]
        omega

theorem Ad.itoa_len3 (n : Int) (h : 0 ≤ n) (h1 : n < 1000) : (Lib.itoa n).length ≤ 3 := by
  obtain ⟨u, rfl⟩ := Int.eq_ofNat_of_zero_le h
  rw [Lib.itoa_nonneg]
  by_cases a : u < 10
  · rw [Lib.decDigits_one a]; simp
  · by_cases b : u < 100
    · rw [Lib.decDigits_two a b]; simp
    · have e : u = 10 * (u / 10) + u % 10 := by omega
      rw [e, Ad.dec_step _ _ (by omega) (by omega), Lib.decDigits_two (by omega) (by omega)]
      simp

/-- A prefix's text, by Itoa's digits. -/
def Ad.textI (a b : Int) : List UInt8 := Ad.text Lib.itoa a b

theorem Ad.textI_eq (a b : Int) : Ad.textI a b = Lib.itoa (Ad.oct a 0) ++ 46 :: (Lib.itoa (Ad.oct a 1) ++ 46 :: (Lib.itoa (Ad.oct a 2) ++ 46 :: (Lib.itoa (Ad.oct a 3) ++ 47 :: Lib.itoa b))) := by
  simp [Ad.textI, Ad.text, Ad.textTo, Ad.mark]

theorem Ad.oct_bd (a : Int) (j : Nat) : 0 ≤ Ad.oct a j ∧ Ad.oct a j ≤ 255 := by unfold Ad.oct; omega

end Go.Proofs.YtpmmhmgojjlniaaGreatDoor.Ax
namespace Go.Proofs.YtpmmhmgojjlniaaGreatDoor.Ax
open Go.RowKit
theorem infoBuilder : (Tryz.prog.info? 74).map (·.size) = some 2 := by kernel_rfl
theorem liesBuilder : liesAt Tryz.prog Tryz.prog.depth 74 (2 / Tryz.prog.cellsOf 74) 0 74 1 = true := by kernel_rfl

set_option maxHeartbeats 1000000 in
set_option maxRecDepth 100000 in
theorem copyCheck_used (b : Nat) (w : World) (h0 : w.cell? ⟨b, 0, none⟩ = some (.pointer (some ⟨b, 0, none⟩))) :
    Calls Tryz.prog 257 #[.pointer (some ⟨b, 0, none⟩)] w fun e w' => e = .returned (.tuple #[]) ∧ w' = w := by
  obtain ⟨j, hj, _⟩ := Option.map_eq_some_iff.1 infoBuilder
  go_enter Tryz.func257, Tryz.ntmps257
  go_wp2
  rw [Lib.run_neq_ptr_same w _ Tryz.underlying71 hj]
  go_wp2
  go_end0
  exact ⟨rfl, rfl⟩

set_option maxHeartbeats 1000000 in
set_option maxRecDepth 100000 in
theorem copyCheck_fresh (b : Nat) (w : World) (h0 : w.cell? ⟨b, 0, none⟩ = some (.pointer none)) (hsh : w.shape? b = some (74, 2)) (hfz : w.frozen? ⟨b, 0, none⟩ = false) :
    Calls Tryz.prog 257 #[.pointer (some ⟨b, 0, none⟩)] w fun e w' => e = .returned (.tuple #[]) ∧ w' = w.setCell ⟨b, 0, none⟩ (.pointer (some ⟨b, 0, none⟩)) := by
  obtain ⟨j, hj, hjs⟩ := Option.map_eq_some_iff.1 infoBuilder
  go_enter Tryz.func257, Tryz.ntmps257
  go_wp2
  rw [Lib.run_to_unsafe w ⟨b, 0, none⟩ Tryz.underlying71 Tryz.underlying325 hj (by rw [hjs]; decide) hsh (Nat.zero_lt_succ 1)]
  simp only [Result.andThen]
  rw [Oper.upon_value]
  go_wp2
  rw [run_callFunc_extern Tryz.func298 (by kernel_rfl) (by kernel_rfl) (by kernel_rfl) (e := Extern.AbiNoEscape.same) (by kernel_rfl)]
  rw [Lib.run_noEscape]
  simp only [Result.andThen]
  rw [Oper.upon_value]
  go_wp2
  rw [Lib.run_from_unsafe w ⟨b, 0, none⟩ Tryz.underlying325 Tryz.underlying71 hj hsh liesBuilder]
  simp only [Result.andThen]
  rw [Oper.upon_value]
  go_wp2
  go_end0
  exact ⟨rfl, rfl⟩

theorem copyCheck_any (B b : Nat) (bs : List Value) (w : World) (h : Lib.IsBuilder 74 5 B b bs w) :
    Calls Tryz.prog 257 #[.pointer (some ⟨b, 0, none⟩)] w fun e w' => e = .returned (.tuple #[]) ∧ Lib.BuilderAt 74 5 B b (.pointer (some ⟨b, 0, none⟩)) bs w' ∧ Below B w w' := by
  rcases h with h | h
  · refine (copyCheck_fresh b w h.cell0 h.shape h.frozen0).mono ?_
    rintro e w' ⟨rfl, rfl⟩
    exact ⟨rfl, h.used _, (Below.refl B w).setCell (p := ⟨b, 0, none⟩) h.1 _⟩
  · refine (copyCheck_used b w h.cell0).mono ?_
    rintro e w' ⟨rfl, rfl⟩
    exact ⟨rfl, h, Below.refl B _⟩
set_option maxHeartbeats 2000000 in
set_option maxRecDepth 100000 in
theorem writeByte_any (B b : Nat) (bs : List Value) (c : Int) (w : World) (h : Lib.IsBuilder 74 5 B b bs w) (hlen : bs.length + 1 ≤ 140737488355328) (hBw : B ≤ w.heap.size) :
    Calls Tryz.prog 205 #[.pointer (some ⟨b, 0, none⟩), .int .u8 c] w fun e w' => e = .returned .nilIface ∧ Lib.IsBuilder 74 5 B b (bs ++ [.int .u8 c]) w' ∧ Below B w w' := by
  obtain ⟨i0, hi, hz0, hz1, hz2⟩ := info_parts infoByte
  go_enter Tryz.func205, Tryz.ntmps205
  go_wp2_with (go_at_call 257; refine (copyCheck_any B b bs _ h).mono ?_)
  rintro e w1 ⟨rfl, h1, hb1⟩
  obtain ⟨hB, v, hbk, hown, hne⟩ := h1
  have c0 : w1.cell? ⟨b, 0, none⟩ = some (.pointer (some ⟨b, 0, none⟩)) := by rw [Lib.cell_of_heap hbk]; rfl
  have c1 : w1.cell? ⟨b, 1, none⟩ = some v := by rw [Lib.cell_of_heap hbk]; rfl
  have hlt := block_lt hbk
  have hBs : B ≤ w1.heap.size := Nat.le_trans hBw hb1.size
  go_wp2_with (at_builtin; refine wpList_append_own _ rfl _ _ 72 rfl B 5 i0 (.int .u8 0) 1 1 Tryz.underlying72 hi hz0 hz1 hz2 rfl (by decide) _ _ _ rfl (hown.alloc _) ⟨w1.heap.size, 0, none⟩ 1 1 [.int .u8 c] rfl rfl ?c1 ?c2 ?c3 ?c4 ?c5 ?_)
  case c1 =>
    intro j u hj
    match j, hj with
    | 0, hj => simp at hj; subst hj; simp [Addr.add]
  case c2 => intro u hu; simp at hu; subst hu; rfl
  case c3 => unfold maxLen; omega
  case c4 => omega
  case c5 => simp; omega
  intro v' w2 hown' hgrow _
  have hb2 : w2.heap[b]? = some (.cells #[.pointer (some ⟨b, 0, none⟩), v] 74 (0, 0)) := by
    rw [hgrow.block b (by simp; omega) (fun e => hne e.symm), Lib.alloc_old w1 _ b hlt]
    exact hbk
  have d0 : w2.cell? ⟨b, 0, none⟩ = some (.pointer (some ⟨b, 0, none⟩)) := by rw [Lib.cell_of_heap hb2]; rfl
  have d1 : w2.cell? ⟨b, 1, none⟩ = some v := by rw [Lib.cell_of_heap hb2]; rfl
  have f1 : w2.frozen? ⟨b, 1, none⟩ = false := Lib.frozen_of_heap hb2 1
  obtain ⟨g, cap, rfl⟩ : ∃ g cap, v' = .slice (some ⟨g, 0, none⟩) (bs.length + 1) cap := by
    rcases hown'.2 with ⟨_, h0⟩ | ⟨g, cap, cur, hv, _⟩
    · omega
    · exact ⟨g, cap, hv⟩
  go_wp2
  go_ret
  refine ⟨rfl, .inr ?_, ?_⟩
  · exact Lib.BuilderAt.put (T := 74) (e := 5) hB hb2 (bs' := bs ++ [.int .u8 c]) (by simpa using hown') (by decide)
  · exact ((hb1.alloc hBs _).grown hgrow (by simp; omega) (fun k hk => (hown.lt k hk).1)).setCell (p := ⟨b, 1, none⟩) hB _

set_option maxHeartbeats 2000000 in
set_option maxRecDepth 100000 in
theorem writeString_any (B b : Nat) (bs : List Value) (s : ByteArray) (w : World) (h : Lib.IsBuilder 74 5 B b bs w) (hlen : bs.length + s.size ≤ 140737488355328) (hBw : B ≤ w.heap.size) :
    Calls Tryz.prog 204 #[.pointer (some ⟨b, 0, none⟩), .string s] w fun e w' => e = .returned (.tuple #[.int .i64 s.size, .nilIface]) ∧ Lib.IsBuilder 74 5 B b (bs ++ Lib.strCells s) w' ∧ Below B w w' := by
  obtain ⟨i0, hi, hz0, hz1, hz2⟩ := info_parts infoByte
  go_enter Tryz.func204, Tryz.ntmps204
  go_wp2_with (go_at_call 257; refine (copyCheck_any B b bs _ h).mono ?_)
  rintro e w1 ⟨rfl, h1, hb1⟩
  obtain ⟨hB, v, hbk, hown, hne⟩ := h1
  have c0 : w1.cell? ⟨b, 0, none⟩ = some (.pointer (some ⟨b, 0, none⟩)) := by rw [Lib.cell_of_heap hbk]; rfl
  have c1 : w1.cell? ⟨b, 1, none⟩ = some v := by rw [Lib.cell_of_heap hbk]; rfl
  have hlt := block_lt hbk
  have hBs : B ≤ w1.heap.size := Nat.le_trans hBw hb1.size
  go_wp2_with (at_builtin; refine Lib.wpList_append_own_string _ rfl _ _ 72 9 rfl B 5 i0 Tryz.underlying72 Tryz.underlying9 hi hz0 hz1 hz2 _ _ _ rfl hown s rfl ?c3 ?c4 ?c5 ?_)
  case c3 => unfold maxLen; omega
  case c4 => omega
  case c5 => omega
  intro v' w2 hown' hgrow _
  have hb2 : w2.heap[b]? = some (.cells #[.pointer (some ⟨b, 0, none⟩), v] 74 (0, 0)) := by
    rw [hgrow.block b hlt (fun e => hne e.symm)]
    exact hbk
  have d0 : w2.cell? ⟨b, 0, none⟩ = some (.pointer (some ⟨b, 0, none⟩)) := by rw [Lib.cell_of_heap hb2]; rfl
  have d1 : w2.cell? ⟨b, 1, none⟩ = some v := by rw [Lib.cell_of_heap hb2]; rfl
  have f1 : w2.frozen? ⟨b, 1, none⟩ = false := Lib.frozen_of_heap hb2 1
  obtain ⟨ao, n', cap, rfl⟩ : ∃ ao n' cap, v' = .slice ao n' cap := by
    rcases hown'.2 with ⟨hv, _⟩ | ⟨g, cap, cur, hv, _⟩
    · exact ⟨_, _, _, hv⟩
    · exact ⟨_, _, _, hv⟩
  go_wp2
  go_ret2
  refine ⟨rfl, .inr ?_, ?_⟩
  · exact Lib.BuilderAt.put (T := 74) (e := 5) hB hb2 (bs' := bs ++ Lib.strCells s) (by simpa [Lib.strCells_length] using hown') (by decide)
  · exact (hb1.grown hgrow hBs (fun k hk => (hown.lt k hk).1)).setCell (p := ⟨b, 1, none⟩) hB _
end Go.Proofs.YtpmmhmgojjlniaaGreatDoor.Ax
namespace Go.Proofs.YtpmmhmgojjlniaaGreatDoor.Ax
open Go.RowKit
set_option maxHeartbeats 1000000 in
theorem text_yes (dg : Int → List UInt8) (a b : Int) (w : World) (ha : 0 ≤ a) (ha2 : a ≤ 4294967295) (hm : Ad.may a b = true)
    (hdg : ∀ n, (dg n).length ≤ 100)
    (hI : ∀ (n : Int) (W : World), (n = b ∨ ∃ j, j < 4 ∧ n = Ad.oct a j) → Below w.heap.size w W → Calls Tryz.prog 136 #[.int .i64 n] W fun e w' => e = .returned (.string ⟨(dg n).toArray⟩) ∧ Below W.heap.size W w') :
    Calls Tryz.prog 137 #[.agg #[.int .u32 a, .int .i64 b]] w fun e w' => e = .returned (.string ⟨(Ad.text dg a b).toArray⟩) ∧ Below w.heap.size w w' := by
  have HI := hide hI
  have HD := hide hdg
  have HL := hide (Ad.textTo_len dg hdg a)
  have M0 := hide (Ad.mask (a / 16777216) (by omega) (by omega))
  have M1 := hide (Ad.mask (a / 65536) (by omega) (by omega))
  have M2 := hide (Ad.mask (a / 256) (by omega) (by omega))
  have M3 := hide (Ad.mask a ha ha2)
  clear hI hdg
  go_enter Tryz.func137, Tryz.ntmps137
  go_wp2_with fail
  refine (may_is _ _ _ hm _ ha ha2).mono ?_
  rintro e w1 ⟨rfl, hb1⟩
  obtain ⟨hc1, hf1⟩ := bcell hb1
  have hz0 : w.heap.size < w1.heap.size := by have := hb1.size; simp at this; omega
  have p0 : w1.cell? ⟨w.heap.size, 0, none⟩ = some (.int .u32 a) := by simp [hc1, go_sem]
  have p1 : w1.cell? ⟨w.heap.size, 1, none⟩ = some (.int .i64 b) := by simp [hc1, go_sem]
  have B1 : Hid (Below w.heap.size w w1) := bthen (balloc (brefl w) _) hb1
  clear hc1 hf1 hb1
  go_wp2_with fail
  go_loopw [9] (fun i wr => ∃ k : Nat, k ≤ 4 ∧ i = .int .i64 k ∧ Below w1.heap.size w1 wr ∧ Lib.IsBuilder 74 5 w1.heap.size w1.heap.size (Lib.byteCells (Ad.textTo dg a k)) wr) (fun i _ => 4 - (intOf i).toNat)
  case atStart =>
    exact ⟨0, by omega, rfl, (Below.refl _ _).alloc (Nat.le_refl _) _, Lib.fresh_isBuilder 74 5 w1⟩
  case round =>
    obtain ⟨k, hk, rfl, hbr, hbu⟩ := hrel
    have p0' := (hbr.cell (p := ⟨w.heap.size, 0, none⟩) hz0).trans p0
    have p1' := (hbr.cell (p := ⟨w.heap.size, 1, none⟩) hz0).trans p1
    have BU := hide hbu
    clear hbu
    by_cases hlt : k < 4
    · have hk' : k = 0 ∨ k = 1 ∨ k = 2 ∨ k = 3 := by omega
      rcases hk' with rfl | rfl | rfl | rfl
      all_goals
        go_wp2_with fail
        first | rw [M0.out, show a / 16777216 % 256 = Ad.oct a 0 from rfl] | rw [M1.out, show a / 65536 % 256 = Ad.oct a 1 from rfl] | rw [M2.out, show a / 256 % 256 = Ad.oct a 2 from rfl] | rw [M3.out, show a % 256 = Ad.oct a 3 from by simp [Ad.oct]]
        refine (HI.out _ _ (.inr ⟨_, ?_, rfl⟩) (bthen B1.out hbr)).mono ?_
        · decide
        rintro e w2 ⟨rfl, hb2⟩
        have BU2 := hide (builder_below BU.out hb2)
        have hb12 := hide (hbr.trans (hb2.mono hbr.size))
        clear hb2
        go_wp2_with fail
        refine (writeString_any _ _ _ _ _ BU2.out ?_ hb12.out.size).mono ?_
        · rw [Lib.byteCells_length]
          have := HL.out 0
          have := HL.out 1
          have := HL.out 2
          have := HL.out 3
          have := HD.out (Ad.oct a 0)
          have := HD.out (Ad.oct a 1)
          have := HD.out (Ad.oct a 2)
          have := HD.out (Ad.oct a 3)
          simp only [ByteArray.size, List.size_toArray]
          omega
        rintro e w3 ⟨rfl, BU3, hb3⟩
        have hb13 := hide (hb12.out.trans (hb3.mono (Nat.le_refl _)))
        have BU3' := hide BU3
        clear hb3 BU3
        go_wp2_with fail
        refine (writeByte_any _ _ _ _ _ BU3'.out ?_ hb13.out.size).mono ?_
        · rw [List.length_append, Lib.byteCells_length, Lib.strCells_length]
          have := HL.out 0
          have := HL.out 1
          have := HL.out 2
          have := HL.out 3
          have := HD.out (Ad.oct a 0)
          have := HD.out (Ad.oct a 1)
          have := HD.out (Ad.oct a 2)
          have := HD.out (Ad.oct a 3)
          simp only [ByteArray.size, List.size_toArray]
          omega
        rintro e w4 ⟨rfl, BU4, hb4⟩
        have hb14 := hide (hb13.out.trans (hb4.mono (Nat.le_refl _)))
        have BU4' := hide BU4
        clear hb4 BU4
        go_wp2_with fail
        refine ⟨⟨_, ?_, by go_num, hb14.out, ?_⟩, by simp [intOf]⟩
        · decide
        · have := BU4'.out
          simpa [Ad.textTo, Lib.byteCells, Lib.strCells, Ad.mark, Ad.at0, Ad.at1, Ad.at2, Ad.at3] using this
    · have hk4 : k = 4 := by omega
      subst hk4
      go_wp2_with fail
      refine (HI.out _ _ (.inl rfl) (bthen B1.out hbr)).mono ?_
      rintro e w2 ⟨rfl, hb2⟩
      have BU2 := hide (builder_below BU.out hb2)
      have hb12 := hide (hbr.trans (hb2.mono hbr.size))
      clear hb2
      go_wp2_with fail
      refine (writeString_any _ _ _ _ _ BU2.out ?_ hb12.out.size).mono ?_
      · rw [Lib.byteCells_length]
        have := HL.out 4
        have := HD.out b
        simp only [ByteArray.size, List.size_toArray]
        omega
      rintro e w3 ⟨rfl, BU3, hb3⟩
      have hb13 := hide (hb12.out.trans (hb3.mono (Nat.le_refl _)))
      have BU3' : Hid (Lib.IsBuilder 74 5 w1.heap.size w1.heap.size (Lib.byteCells (Ad.text dg a b)) w3) := by
        simpa [Ad.text, Lib.byteCells, Lib.strCells, Hid] using BU3
      clear hb3 BU3
      go_wp2_with fail
      refine (Tryz.Builder_String_any _ _ _ _ BU3'.out hb13.out.size).mono ?_
      rintro e w4 ⟨rfl, hb4⟩
      have hb14 := hide (hb13.out.trans (hb4.mono (Nat.le_refl _)))
      clear hb4
      go_wp2_with fail
      go_ret
      exact ⟨rfl, bthen B1.out hb14.out⟩
end Go.Proofs.YtpmmhmgojjlniaaGreatDoor.Ax
