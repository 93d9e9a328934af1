/- Texts. -/
import Derived.Test.YtpmmhmgojjlniaaGreatDoorQ38
import Derived.Test.YtpmmhmgojjlniaaGreatDoorQ49
namespace Go.Proofs.YtpmmhmgojjlniaaGreatDoor.Ax
open Go.RowKit
theorem refText_may (a b : Int) (W : World) (ha : 0 ≤ a) (ha2 : a ≤ 4294967295) (hm : Ad.may a b = true) :
 Calls Tryz.prog 94 #[.agg #[.int .u32 a, .int .i64 b]] W fun e w' => e = .returned (.string ⟨(Ad.textI a b).toArray⟩) ∧ Below W.heap.size W w' := by
 have := refText_any a b W ha ha2
 unfold Ad.textA at this
 rw [if_pos hm] at this
 exact this

theorem refRText_any (a b g l : Int) (p : Bool) (w : World) (ha : 0 ≤ a) (ha2 : a ≤ 4294967295) :
 Calls Tryz.prog 38 #[.agg #[.int .u32 a, .int .i64 b, .int .i64 g, .int .i64 l, .bool p]] w fun e w' => e = .returned (.string ⟨(Ad.rtext (a, b, g, l, p)).toArray⟩) ∧ Below w.heap.size w w' := by
 cases hm : Ad.rmay (a, b, g, l, p)
 · have e : Ad.rtext (a, b, g, l, p) = [] := by unfold Ad.rtext; rw [if_neg (by rw [hm]; decide)]
   rw [e]
   exact refRText_not a b g l p w ha ha2 hm
 · have e : Ad.rtext (a, b, g, l, p) = Ad.tword0 p ++ [32] ++ Ad.textI a b ++ Ad.tge b g ++ Ad.tle g l := by unfold Ad.rtext; rw [if_pos hm, Ad.tword_eq]
   rw [e]
   obtain ⟨r1, r2, r3, r4⟩ := (Ad.rmay_iff _).1 hm
   simp only at r1 r2 r3 r4
   obtain ⟨b0, b1, _⟩ := (Ad.may_iff _ _).1 r1
   have L1 := Ad.textI_len a b b0 b1
   have L0 := Ad.tword0_len p
   have Lg := Ad.itoa_len3 g (by omega) (by omega)
   have Ll := Ad.itoa_len3 l (by omega) (by omega)
   have CT : Hid (∀ W, Below w.heap.size w W → Calls Tryz.prog 94 #[.agg #[.int .u32 a, .int .i64 b]] W fun e w' => e = .returned (.string ⟨(Ad.textI a b).toArray⟩) ∧ Below W.heap.size W w') := hide fun W _ => refText_may a b W ha ha2 r1
   have CG : Hid (∀ W, Below w.heap.size w W → Calls Tryz.prog 95 #[.int .i64 g] W fun e w' => e = .returned (.string ⟨(Lib.itoa g).toArray⟩) ∧ Below W.heap.size W w') := hide fun W _ => refNumber_any g (by omega) (by omega) W
   have CL : Hid (∀ W, Below w.heap.size w W → Calls Tryz.prog 95 #[.int .i64 l] W fun e w' => e = .returned (.string ⟨(Lib.itoa l).toArray⟩) ∧ Below W.heap.size W w') := hide fun W _ => refNumber_any l (by omega) (by omega) W
   have Kb := adds_list (Ad.tword0 p) [32] (by omega) (by decide)
   have K0 := adds_list (Ad.tword0 p ++ [32]) (Ad.textI a b) (by simp; omega) (by omega)
   unfold Ad.tge Ad.tle
   by_cases hg : g = b
   · rw [if_pos hg, List.append_nil]
     by_cases hl : l = g
     · rw [if_pos hl, List.append_nil]
       exact refRText_00 a b g l p _ _ _ _ w ha ha2 hm (Ad.word0_is p) Kb K0 CT (by omega) (by omega)
     · rw [if_neg hl, ← List.append_assoc _ _ (Lib.itoa l)]
       exact refRText_01 a b g l p _ _ _ _ _ _ _ w ha ha2 hm (Ad.word0_is p) Kb K0 (adds_list _ [32, 108, 101, 32] (by simp; omega) (by simp)) (adds_list _ _ (by simp; omega) (by omega)) CT CL (by omega) (by omega)
   · rw [if_neg hg, ← List.append_assoc _ _ (Lib.itoa g)]
     have KG := adds_list (Ad.tword0 p ++ [32] ++ Ad.textI a b) [32, 103, 101, 32] (by simp; omega) (by simp)
     have K1 := adds_list (Ad.tword0 p ++ [32] ++ Ad.textI a b ++ [32, 103, 101, 32]) (Lib.itoa g) (by simp; omega) (by omega)
     by_cases hl : l = g
     · rw [if_pos hl, List.append_nil]
       exact refRText_10 a b g l p _ _ _ _ _ _ _ w ha ha2 hm (Ad.word0_is p) Kb K0 KG K1 CT CG (by omega) (by omega)
     · rw [if_neg hl, ← List.append_assoc _ _ (Lib.itoa l)]
       exact refRText_11 a b g l p _ _ _ _ _ _ _ _ _ _ w ha ha2 hm (Ad.word0_is p) Kb K0 KG K1 (adds_list _ [32, 108, 101, 32] (by simp; omega) (by simp)) (adds_list _ _ (by simp; omega) (by omega)) CT CG CL (by omega) (by omega)
end Go.Proofs.YtpmmhmgojjlniaaGreatDoor.Ax
namespace Go.Proofs.YtpmmhmgojjlniaaGreatDoor.Ax
open Go.RowKit
end Go.Proofs.YtpmmhmgojjlniaaGreatDoor.Ax
namespace Go.Proofs.YtpmmhmgojjlniaaGreatDoor
open Go.RowKit Go.Sort
def ruD (r : Rg) : List UInt8 := [32] ++ Ax.Ad.rtext (rgT r) ++ [59, 10]
def lsD (a : Ls) : List UInt8 := [112, 114, 101, 102, 105, 120, 45, 108, 105, 115, 116, 32] ++ lst a.name ++ [32, 123, 10] ++ a.rules.flatMap ruD ++ [125, 10]
def mpD (m : Mp) : List UInt8 := [114, 111, 117, 116, 101, 45, 109, 97, 112, 32] ++ lst m.name ++ [32, 123, 10] ++ m.cls.flatMap clD ++ [125, 10]
/-- The document's text. -/
def cfD (c : Cf) : List UInt8 := c.lists.flatMap lsD ++ c.maps.flatMap mpD ++ c.routers.flatMap rtD
theorem rtext_len (r : Rg) : (Ax.Ad.rtext (rgT r)).length ≤ 200 := by
 have := ruleT_size r
 have e : (ruleT r).size = (Ax.Ad.rtext (rgT r)).length := by show (Ax.Ad.rtext (r.ad, r.bits, r.ge, r.le, r.ok)).toArray.size = _; simp [rgT]
 omega
theorem ruD_len (r : Rg) : (ruD r).length ≤ 210 := by
 unfold ruD
 have := rtext_len r
 simp only [List.length_append, List.length_cons, List.length_nil]
 omega
theorem lsD_len (a : Ls) (h : a.name.size ≤ 12 ∧ a.rules.length ≤ 16) : (lsD a).length ≤ 3400 := by
 unfold lsD
 have e1 := lstz a.name
 have e2 := flatLen ruD 210 a.rules fun r _ => ruD_len r
 have e3 : 210 * a.rules.length ≤ 210 * 16 := Nat.mul_le_mul_left _ h.2
 simp only [List.length_append, List.length_cons, List.length_nil]
 omega
theorem clHd_len (c : Cl) (hF : ClF c) : (clHd c).length ≤ 40 := by
 unfold clHd
 have := Lib.itoa_length_le c.n (by have := hF.n; omega) (by have := hF.n; omega)
 rw [List.length_append, List.length_append]
 split <;> simp <;> omega
theorem clD_len (c : Cl) (hF : ClF c) (hp : c.m.path.size ≤ 100) : (clD c).length ≤ 2000 := by
 have lh := clHd_len c hF
 have o0 := opt_le (!c.m.list.toList.isEmpty) ([32, 32, 109, 97, 116, 99, 104, 32, 112, 114, 101, 102, 105, 120, 32] ++ lst c.m.list ++ [59, 10])
 have m0 : (lst c.m.list).length ≤ 12 := by have := hF.list; rw [lstz]; omega
 have o1 := opt_le (!c.m.path.toList.isEmpty) ([32, 32, 109, 97, 116, 99, 104, 32, 112, 97, 116, 104, 32, 34] ++ lst c.m.path ++ [34, 59, 10])
 have m1 : (lst c.m.path).length ≤ 100 := by have := hp; rw [lstz]; omega
 have o2 := opt_le (c.m.ca != 0) ([32, 32, 109, 97, 116, 99, 104, 32, 99, 111, 109, 109, 117, 110, 105, 116, 121] ++ comsL [(c.m.ca, c.m.cn)] ++ [59, 10])
 have m2 : (comsL [(c.m.ca, c.m.cn)]).length ≤ 61 := by have := comsL_len [(c.m.ca, c.m.cn)]; simp only [List.length_cons, List.length_nil] at this; omega
 have o3 := opt_le (decide (0 ≤ c.s.pref)) ([32, 32, 115, 101, 116, 32, 112, 114, 101, 102, 32] ++ Lib.itoa c.s.pref ++ [59, 10])
 have m3 : (Lib.itoa c.s.pref).length ≤ 21 := by have := Lib.itoa_length_le c.s.pref (by have := hF.pref; omega) (by have := hF.pref; omega); omega
 have o4 := opt_le (decide (0 ≤ c.s.med)) ([32, 32, 115, 101, 116, 32, 109, 101, 100, 32] ++ Lib.itoa c.s.med ++ [59, 10])
 have m4 : (Lib.itoa c.s.med).length ≤ 21 := by have := Lib.itoa_length_le c.s.med (by have := hF.med; omega) (by have := hF.med; omega); omega
 have o5 := opt_le (decide (0 ≤ c.s.org)) ([32, 32, 115, 101, 116, 32, 111, 114, 105, 103, 105, 110, 32] ++ lst (orgT c.s.org) ++ [59, 10])
 have m5 : (lst (orgT c.s.org)).length ≤ 4 := by exact orgT_len _
 have o6 := opt_le c.s.clr [32, 32, 115, 101, 116, 32, 99, 111, 109, 109, 117, 110, 105, 116, 121, 32, 99, 108, 101, 97, 114, 59, 10]
 have o7 := opt_le (decide (0 < c.s.del.length)) ([32, 32, 115, 101, 116, 32, 99, 111, 109, 109, 117, 110, 105, 116, 121, 32, 100, 101, 108] ++ comsL c.s.del ++ [59, 10])
 have m7 : (comsL c.s.del).length ≤ 488 := by have := comsL_len c.s.del; have := hF.del; omega
 have o8 := opt_le (decide (0 < c.s.add.length)) ([32, 32, 115, 101, 116, 32, 99, 111, 109, 109, 117, 110, 105, 116, 121, 32, 97, 100, 100] ++ comsL c.s.add ++ [59, 10])
 have m8 : (comsL c.s.add).length ≤ 488 := by have := comsL_len c.s.add; have := hF.add; omega
 have o9 := opt_le (decide (0 < c.s.prep.length)) ([32, 32, 115, 101, 116, 32, 112, 114, 101, 112, 101, 110, 100, 32] ++ Ar.Is.text c.s.prep ++ [59, 10])
 have m9 : (Ar.Is.text c.s.prep).length ≤ 400 := by exact istext_len _
 unfold clD
 simp only [List.length_append, List.length_cons, List.length_nil] at o0 o1 o2 o3 o4 o5 o6 o7 o8 o9 ⊢
 omega
theorem mpD_len (m : Mp) (h : m.name.size ≤ 12 ∧ m.cls.length ≤ 16 ∧ ∀ x ∈ m.cls, ClF x) (hp : ∀ x ∈ m.cls, x.m.path.size ≤ 100) : (mpD m).length ≤ 32100 := by
 unfold mpD
 have e1 := lstz m.name
 have e2 := flatLen clD 2000 m.cls fun r hr => clD_len r (h.2.2 r hr) (hp r hr)
 have e3 : 2000 * m.cls.length ≤ 2000 * 16 := Nat.mul_le_mul_left _ h.2.1
 simp only [List.length_append, List.length_cons, List.length_nil]
 omega
theorem rtD_len (r : Rt) (hF : RtF r) (hn : r.name.size ≤ 12) : (rtD r).length ≤ 6200 := by
 have e0 := lstz r.name
 have e2 := Lib.itoa_length_le r.asn (by have := hF.asn; omega) (by have := hF.asn; omega)
 have e3 := Lib.itoa_length_le r.id (by have := hF.id; omega) (by have := hF.id; omega)
 have f1 := flatLen neD 120 r.nets fun p _ => neD_len p
 have f2 := flatLen nbD 120 r.nbs fun p h => nbD_len p (hF.nbs.2 p h)
 have f3 := flatLen lkD 120 r.links fun p h => lkD_len p (hF.links.2 p h)
 have g1 : 120 * r.nets.length ≤ 120 * 16 := Nat.mul_le_mul_left _ hF.nets
 have g2 : 120 * r.nbs.length ≤ 120 * 16 := Nat.mul_le_mul_left _ hF.nbs.1
 have g3 : 120 * r.links.length ≤ 120 * 16 := Nat.mul_le_mul_left _ hF.links.1
 unfold rtD rtHd
 simp only [List.length_append, List.length_cons, List.length_nil]
 omega
set_option maxHeartbeats 16000000 in
set_option maxRecDepth 100000 in
theorem text_is (c : Cf) (v1 v2 v3 : Value) (w : World) (hc : CfR w c v1 v2 v3) (hw : Wide c) (hF : CfF c) (hp : ∀ m ∈ c.maps, ∀ x ∈ m.cls, x.m.path.size ≤ 100) :
 Calls Tryz.prog 13 #[.agg #[v1, v2, v3]] w fun e w' => e = .returned (.string ⟨(cfD c).toArray⟩) ∧ Below w.heap.size w w' := by
 obtain ⟨h1, h2, h3⟩ := hc
 obtain ⟨o1, k1, rfl⟩ := h1.slice
 obtain ⟨o2, k2, rfl⟩ := h2.slice
 obtain ⟨o3, k3, rfl⟩ := h3.slice
 have R1 := hide h1
 have R2 := hide h2
 have R3 := hide h3
 have HU := hide hw
 have HF := hide hF
 have HP := hide hp
 obtain ⟨X0, hX0⟩ : ∃ X : List UInt8, [] = X := ⟨_, rfl⟩
 obtain ⟨X1, hX1⟩ : ∃ X, X0 ++ c.lists.flatMap lsD = X := ⟨_, rfl⟩
 obtain ⟨X2, hX2⟩ : ∃ X, X1 ++ c.maps.flatMap mpD = X := ⟨_, rfl⟩
 obtain ⟨X3, hX3⟩ : ∃ X, X2 ++ c.routers.flatMap rtD = X := ⟨_, rfl⟩
 have L1 := hide (fun k => flatTakeLen lsD 3400 16 c.lists (fun p h => lsD_len p (hF.lists.2 p h)) hF.lists.1 k)
 have L2 := hide (fun k => flatTakeLen mpD 32100 16 c.maps (fun p h => mpD_len p (hF.maps.2 p h) (hp p h)) hF.maps.1 k)
 have L3 := hide (fun k => flatTakeLen rtD 6200 8 c.routers (fun p h => rtD_len p (hF.routers.2 p h).2 (hF.routers.2 p h).1) hF.routers.1 k)
 have hl0 : X0.length ≤ 0 := by rw [← hX0]; exact Nat.le_refl _
 have hl1 : X1.length ≤ 54400 := by have := L1.out c.lists.length; rw [List.take_length] at this; rw [← hX1, List.length_append]; omega
 have hl2 : X2.length ≤ 568000 := by have := L2.out c.maps.length; rw [List.take_length] at this; rw [← hX2, List.length_append]; omega
 have HC : Hid (cfD c = X3) := by show _ = _; unfold cfD; rw [← hX3, ← hX2, ← hX1, ← hX0]; rfl
 rw [HC.out]
 have HS : Hid ((⟨#[]⟩ : ByteArray) = ⟨X0.toArray⟩) := by show _ = _; rw [← hX0]
 have HX1 := hide hX1
 have HX2 := hide hX2
 have HX3 := hide hX3
 have HL0 := hide hl0
 have HL1 := hide hl1
 have HL2 := hide hl2
 have A0 := balloc (brefl w) (.cells #[.slice o1 c.lists.length k1, .slice o2 c.maps.length k2, .slice o3 c.routers.length k3] 26)
 have N := hide (heap_new w #[.slice o1 c.lists.length k1, .slice o2 c.maps.length k2, .slice o3 c.routers.length k3] 26)
 have HA := hide A0
 have hwl : w.heap.size < (w.alloc (.cells #[.slice o1 c.lists.length k1, .slice o2 c.maps.length k2, .slice o3 c.routers.length k3] 26)).heap.size := by rw [size_alloc]; omega
 clear h1 h2 h3 A0 hw hF hp hX0 hX1 hX2 hX3 hl0 hl1 hl2 HC
 go_enter Tryz.func13, Tryz.ntmps13
 go_upto_region 1 with fail
 obtain ⟨bc, hbc⟩ : ∃ q, w.heap.size = q := ⟨_, rfl⟩
 have HBC := hide hbc
 rw [hbc] at N hwl ⊢
 obtain ⟨w0, hw0⟩ : ∃ q, w.alloc (.cells #[.slice o1 c.lists.length k1, .slice o2 c.maps.length k2, .slice o3 c.routers.length k3] 26) = q := ⟨_, rfl⟩
 rw [hw0] at N HA hwl ⊢
 have hw0l : w.heap.size ≤ w0.heap.size := by omega
 have HB0 : Hid (Below w0.heap.size w0 w0) := Below.refl _ w0
 clear hw0 hbc
 go_wp2_with fail
 go_loopw [3, 4] (fun v3 v4 wr => ∃ (k : Nat) (s : ByteArray), v4 = .int .i64 k ∧ v3 = .string s ∧ k ≤ c.lists.length ∧ Hid (s = ⟨(X0 ++ (c.lists.take k).flatMap lsD).toArray⟩) ∧ Hid (Below w0.heap.size w0 wr)) (fun _ v4 _ => c.lists.length - (intOf v4).toNat)
 case atStart => exact ⟨0, _, rfl, rfl, Nat.zero_le _, by rw [List.take_zero, List.flatMap_nil, List.append_nil]; exact HS, HB0⟩
 case round =>
 as_aux_lemma =>
 clear HS HB0
 obtain ⟨k, s, rfl, rfl, hk, HS, HB⟩ := hrel
 have n0 := cell_of ((HB.out.block bc hwl).trans N.out) 0 rfl
 by_cases hkl : k < c.lists.length
 · have hkl' : (k : Int) < (c.lists.length : Int) := by omega
   have hk16 : (k : Int) < 16 := by have := HF.out.lists.1; omega
   obtain ⟨b2, off, xs, rfl, hb2, hx, hxc⟩ := R1.out.at_ hkl
   obtain ⟨v, hxe, hrd⟩ := hx
   obtain rfl : xs = [.string c.lists[k].name, v] := hxe
   obtain ⟨ao, ca, rfl⟩ := hrd.slice
   have HRD := hide hrd
   clear hrd
   have BZ := hide (bthen HA.out HB.out)
   have Y0 := hide (hxc 0 _ rfl)
   have Y1 := hide (hxc 1 _ rfl)
   simp only [Nat.add_zero] at Y0
   have a0 := (BZ.out.cell (p := ⟨b2, off + k * 2, none⟩) hb2).trans Y0.out
   have a1 := (BZ.out.cell (p := ⟨b2, off + k * 2 + 1, none⟩) hb2).trans Y1.out
   clear hxc
   have HN : Hid (X0 ++ (c.lists.take (k + 1)).flatMap lsD = X0 ++ (c.lists.take k).flatMap lsD ++ lsD c.lists[k]) := by show _ = _; rw [flat_succ lsD c.lists k hkl, List.append_assoc]
   have hxl : (X0 ++ (c.lists.take k).flatMap lsD).length ≤ 54400 := by have := L1.out k; have := HL0.out; rw [List.length_append]; omega
   have HQ := hide (show _ ∧ _ ∧ True from ⟨(HF.out.lists.2 _ (List.getElem_mem hkl)).1, (HF.out.lists.2 _ (List.getElem_mem hkl)).2, trivial⟩)
   have HUk := hide (HU.out.1 _ (List.getElem_mem hkl))
   generalize c.lists[k] = q at *
   obtain ⟨z1, K1, e1, g1⟩ := add1 (M := [112, 114, 101, 102, 105, 120, 45, 108, 105, 115, 116, 32]) (b := 12) HS.out rfl hxl (by decide) (by decide)
   obtain ⟨z2, K2, e2, g2⟩ := add1 (b := 12) e1 (ba_lst q.name) g1 (by rw [lstz]; exact HQ.out.1) (by decide)
   obtain ⟨z3, K3, e3, g3⟩ := add1 (M := [32, 123, 10]) (b := 3) e2 rfl g2 (by decide) (by decide)
   obtain ⟨Y, hY⟩ : ∃ Y, X0 ++ (c.lists.take k).flatMap lsD ++ [112, 114, 101, 102, 105, 120, 45, 108, 105, 115, 116, 32] ++ lst q.name ++ [32, 123, 10] = Y := ⟨_, rfl⟩
   have HSY : Hid (z3 = ⟨Y.toArray⟩) := by show _ = _; rw [e3, hY]
   have hyl : Hid (Y.length ≤ 54427) := by show _ ≤ _; rw [← hY]; exact Nat.le_trans g3 (by decide)
   have HNE : Hid (X0 ++ (c.lists.take (k + 1)).flatMap lsD = Y ++ q.rules.flatMap ruD ++ [125, 10]) := by show _ = _; rw [HN.out, ← hY]; unfold lsD; simp only [List.append_assoc]
   have hq16 := HQ.out.2.1
   clear e1 e2 e3 g1 g2 g3 hY HN HS hxl
   unfold AddsTo at K1 K2 K3
   go_wp2_with fail
   clear K1 K2 K3 n0 a0 a1
   go_loopw [3, 5] (fun v3 v5 wr => ∃ (j : Nat) (s : ByteArray), v5 = .int .i64 j ∧ v3 = .string s ∧ j ≤ q.rules.length ∧ Hid (s = ⟨(Y ++ (q.rules.take j).flatMap ruD).toArray⟩) ∧ Hid (Below w0.heap.size w0 wr)) (fun _ v5 _ => q.rules.length - (intOf v5).toNat)
   case atStart => exact ⟨0, _, rfl, rfl, Nat.zero_le _, by rw [List.take_zero, List.flatMap_nil, List.append_nil]; exact HSY, HB⟩
   case round =>
    as_aux_lemma =>
    clear HSY HB BZ
    obtain ⟨j, s, rfl, rfl, hj, HS, HB⟩ := hrel
    have BZ := hide (bthen HA.out HB.out)
    have n0 := cell_of ((HB.out.block bc hwl).trans N.out) 0 rfl
    have a1 := (BZ.out.cell (p := ⟨b2, off + k * 2 + 1, none⟩) hb2).trans Y1.out
    have hxl : (Y ++ (q.rules.take j).flatMap ruD).length ≤ 54427 + 210 * 16 := by
     have h1 := flatTakeLen ruD 210 16 q.rules (fun r _ => ruD_len r) hq16 j
     have h2 := hyl.out
     rw [List.length_append]
     omega
    by_cases hjl : j < q.rules.length
    · have hjl' : (j : Int) < (q.rules.length : Int) := by omega
      have hj16 : (j : Int) < 16 := by omega
      obtain ⟨b3, off3, ys, rfl, hb3, hy, hyc⟩ := HRD.out.at_ hjl
      obtain rfl : ys = [.int .u32 q.rules[j].ad, .int .i64 q.rules[j].bits, .int .i64 q.rules[j].ge, .int .i64 q.rules[j].le, .bool q.rules[j].ok] := hy
      have HUj := hide (HUk.out _ (List.getElem_mem hjl))
      have f0 := (BZ.out.cell (p := ⟨b3, off3 + j * 5, none⟩) hb3).trans (hyc 0 _ rfl)
      have f1 := (BZ.out.cell (p := ⟨b3, off3 + j * 5 + 1, none⟩) hb3).trans (hyc 1 _ rfl)
      have f2 := (BZ.out.cell (p := ⟨b3, off3 + j * 5 + 2, none⟩) hb3).trans (hyc 2 _ rfl)
      have f3 := (BZ.out.cell (p := ⟨b3, off3 + j * 5 + 3, none⟩) hb3).trans (hyc 3 _ rfl)
      have f4 := (BZ.out.cell (p := ⟨b3, off3 + j * 5 + 4, none⟩) hb3).trans (hyc 4 _ rfl)
      clear hyc
      have HNJ : Hid (Y ++ (q.rules.take (j + 1)).flatMap ruD = Y ++ (q.rules.take j).flatMap ruD ++ ruD q.rules[j]) := by show _ = _; rw [flat_succ ruD q.rules j hjl, List.append_assoc]
      generalize q.rules[j] = x at *
      obtain ⟨u, hu⟩ : ∃ u : ByteArray, u = ⟨(Ax.Ad.rtext (rgT x)).toArray⟩ := ⟨_, rfl⟩
      obtain ⟨z1, K1, e1, g1⟩ := add1 (M := [32]) (b := 1) HS.out rfl hxl (by decide) (by decide)
      obtain ⟨z2, K2, e2, g2⟩ := add1 (b := 200) e1 hu g1 (rtext_len x) (by decide)
      obtain ⟨z3, K3, e3, g3⟩ := add1 (M := [59, 10]) (b := 2) e2 rfl g2 (by decide) (by decide)
      have HS2 : Hid (z3 = ⟨(Y ++ (q.rules.take (j + 1)).flatMap ruD).toArray⟩) := by show _ = _; rw [HNJ.out, e3]; unfold ruD; simp only [List.append_assoc]
      have CN := hide (fun W => Ax.refRText_any x.ad x.bits x.ge x.le x.ok W HUj.out.1 HUj.out.2)
      have hu2 : (⟨(Ax.Ad.rtext (x.ad, x.bits, x.ge, x.le, x.ok)).toArray⟩ : ByteArray) = u := by rw [hu]; rfl
      rw [hu2] at CN
      clear e1 e2 e3 g1 g2 g3 hu hu2 hxl HNJ HS
      unfold AddsTo at K1 K2 K3
      go_wp2_with fail
      refine (CN.out _).mono ?_
      rintro e w3 ⟨rfl, hb3⟩
      have HB3 := hide (HB.out.trans (bless hb3 HB.out.size))
      clear hb3 CN
      go_wp2_with fail
      exact ⟨⟨j + 1, z3, by go_num, rfl, by omega, HS2, HB3⟩, by simp [intOf] <;> omega⟩
    · have hjl' : ¬ (j : Int) < (q.rules.length : Int) := by omega
      obtain rfl : j = q.rules.length := by omega
      obtain ⟨z4, K4, e4, g4⟩ := add1 (M := [125, 10]) (b := 2) HS.out rfl hxl (by decide) (by decide)
      have HS2 : Hid (z4 = ⟨(X0 ++ (c.lists.take (k + 1)).flatMap lsD).toArray⟩) := by show _ = _; rw [e4, HNE.out, List.take_length]
      clear e4 g4 hxl HS HNE
      unfold AddsTo at K4
      go_wp2_with fail
      exact ⟨⟨k + 1, z4, by go_num, rfl, by omega, HS2, HB⟩, by simp [intOf] <;> omega⟩
 · have hkl' : ¬ (k : Int) < (c.lists.length : Int) := by omega
   obtain rfl : k = c.lists.length := by omega
   have HS2 : Hid (s = ⟨X1.toArray⟩) := by show _ = _; rw [HS.out, List.take_length, HX1.out]
   clear HS
   go_wp2_with fail
   clear n0 hkl hkl' hk
   have HS := HS2
   clear HS2
   obtain ⟨wC, hwC⟩ : ∃ q, q = wr := ⟨_, rfl⟩
   subst hwC
   have HB0 := HB
   clear HB
   go_loopw [3, 6] (fun v3 v4 wr => ∃ (k : Nat) (s : ByteArray), v4 = .int .i64 k ∧ v3 = .string s ∧ k ≤ c.maps.length ∧ Hid (s = ⟨(X1 ++ (c.maps.take k).flatMap mpD).toArray⟩) ∧ Hid (Below w0.heap.size w0 wr)) (fun _ v4 _ => c.maps.length - (intOf v4).toNat)
   case atStart => exact ⟨0, _, rfl, rfl, Nat.zero_le _, by rw [List.take_zero, List.flatMap_nil, List.append_nil]; exact HS, HB0⟩
   case round =>
   as_aux_lemma =>
   clear HS HB0
   obtain ⟨k, s, rfl, rfl, hk, HS, HB⟩ := hrel
   have n1 := cell_of ((HB.out.block bc hwl).trans N.out) 1 rfl
   by_cases hkl : k < c.maps.length
   · have hkl' : (k : Int) < (c.maps.length : Int) := by omega
     have hk16 : (k : Int) < 16 := by have := HF.out.maps.1; omega
     obtain ⟨b2, off, xs, rfl, hb2, hx, hxc⟩ := R2.out.at_ hkl
     obtain ⟨v, hxe, hrd⟩ := hx
     obtain rfl : xs = [.string c.maps[k].name, v] := hxe
     obtain ⟨ao, ca, rfl⟩ := hrd.slice
     have HRD := hide hrd
     clear hrd
     have BZ := hide (bthen HA.out HB.out)
     have Y0 := hide (hxc 0 _ rfl)
     have Y1 := hide (hxc 1 _ rfl)
     simp only [Nat.add_zero] at Y0
     have a0 := (BZ.out.cell (p := ⟨b2, off + k * 2, none⟩) hb2).trans Y0.out
     have a1 := (BZ.out.cell (p := ⟨b2, off + k * 2 + 1, none⟩) hb2).trans Y1.out
     clear hxc
     have HN : Hid (X1 ++ (c.maps.take (k + 1)).flatMap mpD = X1 ++ (c.maps.take k).flatMap mpD ++ mpD c.maps[k]) := by show _ = _; rw [flat_succ mpD c.maps k hkl, List.append_assoc]
     have hxl : (X1 ++ (c.maps.take k).flatMap mpD).length ≤ 568000 := by have := L2.out k; have := HL1.out; rw [List.length_append]; omega
     have HQ := hide (show _ ∧ _ ∧ _ ∧ _ from ⟨(HF.out.maps.2 _ (List.getElem_mem hkl)).1, (HF.out.maps.2 _ (List.getElem_mem hkl)).2.1, (HF.out.maps.2 _ (List.getElem_mem hkl)).2.2, HP.out _ (List.getElem_mem hkl)⟩)
     generalize c.maps[k] = q at *
     obtain ⟨z1, K1, e1, g1⟩ := add1 (M := [114, 111, 117, 116, 101, 45, 109, 97, 112, 32]) (b := 10) HS.out rfl hxl (by decide) (by decide)
     obtain ⟨z2, K2, e2, g2⟩ := add1 (b := 12) e1 (ba_lst q.name) g1 (by rw [lstz]; exact HQ.out.1) (by decide)
     obtain ⟨z3, K3, e3, g3⟩ := add1 (M := [32, 123, 10]) (b := 3) e2 rfl g2 (by decide) (by decide)
     obtain ⟨Y, hY⟩ : ∃ Y, X1 ++ (c.maps.take k).flatMap mpD ++ [114, 111, 117, 116, 101, 45, 109, 97, 112, 32] ++ lst q.name ++ [32, 123, 10] = Y := ⟨_, rfl⟩
     have HSY : Hid (z3 = ⟨Y.toArray⟩) := by show _ = _; rw [e3, hY]
     have hyl : Hid (Y.length ≤ 568025) := by show _ ≤ _; rw [← hY]; exact Nat.le_trans g3 (by decide)
     have HNE : Hid (X1 ++ (c.maps.take (k + 1)).flatMap mpD = Y ++ q.cls.flatMap clD ++ [125, 10]) := by show _ = _; rw [HN.out, ← hY]; unfold mpD; simp only [List.append_assoc]
     have hq16 := HQ.out.2.1
     clear e1 e2 e3 g1 g2 g3 hY HN HS hxl
     unfold AddsTo at K1 K2 K3
     go_wp2_with fail
     clear K1 K2 K3 n1 a0 a1
     go_loopw [3, 7] (fun v3 v5 wr => ∃ (j : Nat) (s : ByteArray), v5 = .int .i64 j ∧ v3 = .string s ∧ j ≤ q.cls.length ∧ Hid (s = ⟨(Y ++ (q.cls.take j).flatMap clD).toArray⟩) ∧ Hid (Below w0.heap.size w0 wr)) (fun _ v5 _ => q.cls.length - (intOf v5).toNat)
     case atStart => exact ⟨0, _, rfl, rfl, Nat.zero_le _, by rw [List.take_zero, List.flatMap_nil, List.append_nil]; exact HSY, HB⟩
     case round =>
      as_aux_lemma =>
      clear HSY HB BZ
      obtain ⟨j, s, rfl, rfl, hj, HS, HB⟩ := hrel
      have BZ := hide (bthen HA.out HB.out)
      have n1 := cell_of ((HB.out.block bc hwl).trans N.out) 1 rfl
      have a1 := (BZ.out.cell (p := ⟨b2, off + k * 2 + 1, none⟩) hb2).trans Y1.out
      have hxl : (Y ++ (q.cls.take j).flatMap clD).length ≤ 568025 + 2000 * 16 := by
       have h1 := flatTakeLen clD 2000 16 q.cls (fun r hr => clD_len r (HQ.out.2.2.1 r hr) (HQ.out.2.2.2 r hr)) hq16 j
       have h2 := hyl.out
       rw [List.length_append]
       omega
      by_cases hjl : j < q.cls.length
      · have hjl' : (j : Int) < (q.cls.length : Int) := by omega
        have hj16 : (j : Int) < 16 := by omega
        obtain ⟨b3, off3, ys, rfl, hb3, hy, hyc⟩ := HRD.out.at_ hjl
        obtain ⟨va, vd, vp, hye, i1, i2, i3⟩ := hy
        obtain rfl : ys = [.int .i64 q.cls[j].n, .bool q.cls[j].ok, .string q.cls[j].m.list, .string q.cls[j].m.path, .int .i64 q.cls[j].m.ca, .int .i64 q.cls[j].m.cn, .int .i64 q.cls[j].s.pref, .int .i64 q.cls[j].s.med, .int .i64 q.cls[j].s.org, va, vd, .bool q.cls[j].s.clr, vp] := hye
        obtain ⟨oa, ka, rfl⟩ := i1.slice
        obtain ⟨od, kd, rfl⟩ := i2.slice
        obtain ⟨op, kp, rfl⟩ := i3.slice
        have HJ := hide (show _ ∧ _ from ⟨HQ.out.2.2.1 _ (List.getElem_mem hjl), HQ.out.2.2.2 _ (List.getElem_mem hjl)⟩)
        have f0 := (BZ.out.cell (p := ⟨b3, off3 + j * 13, none⟩) hb3).trans (hyc 0 _ rfl)
        have f1 := (BZ.out.cell (p := ⟨b3, off3 + j * 13 + 1, none⟩) hb3).trans (hyc 1 _ rfl)
        have f2 := (BZ.out.cell (p := ⟨b3, off3 + j * 13 + 2, none⟩) hb3).trans (hyc 2 _ rfl)
        have f3 := (BZ.out.cell (p := ⟨b3, off3 + j * 13 + 3, none⟩) hb3).trans (hyc 3 _ rfl)
        have f4 := (BZ.out.cell (p := ⟨b3, off3 + j * 13 + 4, none⟩) hb3).trans (hyc 4 _ rfl)
        have f5 := (BZ.out.cell (p := ⟨b3, off3 + j * 13 + 5, none⟩) hb3).trans (hyc 5 _ rfl)
        have f6 := (BZ.out.cell (p := ⟨b3, off3 + j * 13 + 6, none⟩) hb3).trans (hyc 6 _ rfl)
        have f7 := (BZ.out.cell (p := ⟨b3, off3 + j * 13 + 7, none⟩) hb3).trans (hyc 7 _ rfl)
        have f8 := (BZ.out.cell (p := ⟨b3, off3 + j * 13 + 8, none⟩) hb3).trans (hyc 8 _ rfl)
        have f9 := (BZ.out.cell (p := ⟨b3, off3 + j * 13 + 9, none⟩) hb3).trans (hyc 9 _ rfl)
        have f10 := (BZ.out.cell (p := ⟨b3, off3 + j * 13 + 10, none⟩) hb3).trans (hyc 10 _ rfl)
        have f11 := (BZ.out.cell (p := ⟨b3, off3 + j * 13 + 11, none⟩) hb3).trans (hyc 11 _ rfl)
        have f12 := (BZ.out.cell (p := ⟨b3, off3 + j * 13 + 12, none⟩) hb3).trans (hyc 12 _ rfl)
        clear hyc
        have HNJ : Hid (Y ++ (q.cls.take (j + 1)).flatMap clD = Y ++ (q.cls.take j).flatMap clD ++ clD q.cls[j]) := by show _ = _; rw [flat_succ clD q.cls j hjl, List.append_assoc]
        generalize q.cls[j] = x at *
        obtain ⟨u, hu⟩ : ∃ u : ByteArray, u = ⟨(clD x).toArray⟩ := ⟨_, rfl⟩
        obtain ⟨z1, K1, e1, g1⟩ := add1 (b := 2000) HS.out hu hxl (clD_len x HJ.out.1 HJ.out.2) (by decide)
        have HS2 : Hid (z1 = ⟨(Y ++ (q.cls.take (j + 1)).flatMap clD).toArray⟩) := by show _ = _; rw [HNJ.out, e1]
        have CN := hide (clauseText_is x _ _ _ wr (i1.below PrR.mono BZ.out) (i2.below PrR.mono BZ.out) (i3.below InR.mono BZ.out) HJ.out.1 (Nat.le_trans HJ.out.2 (by decide)))
        rw [← hu] at CN
        unfold clV at CN
        clear e1 g1 hu hxl HNJ HS i1 i2 i3
        unfold AddsTo at K1
        go_wp2_with fail
        refine CN.out.mono ?_
        rintro e w3 ⟨rfl, hb3⟩
        have HB3 := hide (HB.out.trans (bless hb3 HB.out.size))
        clear hb3 CN
        go_wp2_with fail
        exact ⟨⟨j + 1, z1, by go_num, rfl, by omega, HS2, HB3⟩, by simp [intOf] <;> omega⟩
      · have hjl' : ¬ (j : Int) < (q.cls.length : Int) := by omega
        obtain rfl : j = q.cls.length := by omega
        obtain ⟨z4, K4, e4, g4⟩ := add1 (M := [125, 10]) (b := 2) HS.out rfl hxl (by decide) (by decide)
        have HS2 : Hid (z4 = ⟨(X1 ++ (c.maps.take (k + 1)).flatMap mpD).toArray⟩) := by show _ = _; rw [e4, HNE.out, List.take_length]
        clear e4 g4 hxl HS HNE
        unfold AddsTo at K4
        go_wp2_with fail
        exact ⟨⟨k + 1, z4, by go_num, rfl, by omega, HS2, HB⟩, by simp [intOf] <;> omega⟩
   · have hkl' : ¬ (k : Int) < (c.maps.length : Int) := by omega
     obtain rfl : k = c.maps.length := by omega
     have HS2 : Hid (s = ⟨X2.toArray⟩) := by show _ = _; rw [HS.out, List.take_length, HX2.out]
     clear HS
     go_wp2_with fail
     clear n1 hkl hkl' hk
     have HS := HS2
     clear HS2
     obtain ⟨wC, hwC⟩ : ∃ q, q = wr := ⟨_, rfl⟩
     subst hwC
     have HB0 := HB
     clear HB
     go_loopw [3, 8] (fun v3 v4 wr => ∃ (k : Nat) (s : ByteArray), v4 = .int .i64 k ∧ v3 = .string s ∧ k ≤ c.routers.length ∧ Hid (s = ⟨(X2 ++ (c.routers.take k).flatMap rtD).toArray⟩) ∧ Hid (Below w0.heap.size w0 wr)) (fun _ v4 _ => c.routers.length - (intOf v4).toNat)
     case atStart => exact ⟨0, _, rfl, rfl, Nat.zero_le _, by rw [List.take_zero, List.flatMap_nil, List.append_nil]; exact HS, HB0⟩
     case round =>
     as_aux_lemma =>
     clear HS HB0
     obtain ⟨k, s, rfl, rfl, hk, HS, HB⟩ := hrel
     have n2 := cell_of ((HB.out.block bc hwl).trans N.out) 2 rfl
     by_cases hkl : k < c.routers.length
     · have hkl' : (k : Int) < (c.routers.length : Int) := by omega
       have hk16 : (k : Int) < 16 := by have := HF.out.routers.1; omega
       obtain ⟨b2, off, xs, rfl, hb2, hx, hxc⟩ := R3.out.at_ hkl
       obtain ⟨vn, vb, vl, hxe, i1, i2, i3⟩ := hx
       obtain rfl : xs = [.string c.routers[k].name, .int .i64 c.routers[k].asn, .int .i64 c.routers[k].id, vn, vb, vl] := hxe
       obtain ⟨on, kn, rfl⟩ := i1.slice
       obtain ⟨ob, kb, rfl⟩ := i2.slice
       obtain ⟨ol, kl, rfl⟩ := i3.slice
       have BZ := hide (bthen HA.out HB.out)
       have Y0 := hide (hxc 0 _ rfl)
       have Y1 := hide (hxc 1 _ rfl)
       have Y2 := hide (hxc 2 _ rfl)
       have Y3 := hide (hxc 3 _ rfl)
       have Y4 := hide (hxc 4 _ rfl)
       have Y5 := hide (hxc 5 _ rfl)
       simp only [Nat.add_zero] at Y0
       have a0 := (BZ.out.cell (p := ⟨b2, off + k * 6, none⟩) hb2).trans Y0.out
       have a1 := (BZ.out.cell (p := ⟨b2, off + k * 6 + 1, none⟩) hb2).trans Y1.out
       have a2 := (BZ.out.cell (p := ⟨b2, off + k * 6 + 2, none⟩) hb2).trans Y2.out
       have a3 := (BZ.out.cell (p := ⟨b2, off + k * 6 + 3, none⟩) hb2).trans Y3.out
       have a4 := (BZ.out.cell (p := ⟨b2, off + k * 6 + 4, none⟩) hb2).trans Y4.out
       have a5 := (BZ.out.cell (p := ⟨b2, off + k * 6 + 5, none⟩) hb2).trans Y5.out
       clear hxc
       have HN : Hid (X2 ++ (c.routers.take (k + 1)).flatMap rtD = X2 ++ (c.routers.take k).flatMap rtD ++ rtD c.routers[k]) := by show _ = _; rw [flat_succ rtD c.routers k hkl, List.append_assoc]
       have hxl : (X2 ++ (c.routers.take k).flatMap rtD).length ≤ 617600 := by have := L3.out k; have := HL2.out; rw [List.length_append]; omega
       have HQ := hide (HF.out.routers.2 _ (List.getElem_mem hkl))
       have HUk := hide (HU.out.2 _ (List.getElem_mem hkl)).1
       generalize c.routers[k] = q at *
       obtain ⟨u, hu⟩ : ∃ u : ByteArray, u = ⟨(rtD q).toArray⟩ := ⟨_, rfl⟩
       obtain ⟨z1, K1, e1, g1⟩ := add1 (b := 6200) HS.out hu hxl (rtD_len q HQ.out.2 HQ.out.1) (by decide)
       have HS2 : Hid (z1 = ⟨(X2 ++ (c.routers.take (k + 1)).flatMap rtD).toArray⟩) := by show _ = _; rw [HN.out, e1]
       have CN := hide (routerText_is q _ _ _ wr (i1.below PxR.mono BZ.out) (i2.below NbR.mono BZ.out) (i3.below LkR.mono BZ.out) HUk HQ.out.2 HQ.out.1)
       rw [← hu] at CN
       clear e1 g1 hu hxl HN HS i1 i2 i3
       unfold AddsTo at K1
       go_wp2_with fail
       refine CN.out.mono ?_
       rintro e w3 ⟨rfl, hb3⟩
       have HB3 := hide (HB.out.trans (bless hb3 HB.out.size))
       clear hb3 CN
       go_wp2_with fail
       exact ⟨⟨k + 1, z1, by go_num, rfl, by omega, HS2, HB3⟩, by simp [intOf] <;> omega⟩
     · have hkl' : ¬ (k : Int) < (c.routers.length : Int) := by omega
       obtain rfl : k = c.routers.length := by omega
       have HS2 : Hid (s = ⟨X3.toArray⟩) := by show _ = _; rw [HS.out, List.take_length, HX3.out]
       clear HS
       go_wp2_with fail
       go_ret
       exact ⟨by rw [← HS2.out]; rfl, bthen HA.out HB.out⟩
end Go.Proofs.YtpmmhmgojjlniaaGreatDoor
