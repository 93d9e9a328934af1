/- The document's text of a router. -/
import Derived.Test.YtpmmhmgojjlniaaGreatDoorQ38
import Derived.Test.YtpmmhmgojjlniaaGreatDoorQ44
import Derived.Test.YtpmmhmgojjlniaaGreatDoorQ47
import Derived.Test.YtpmmhmgojjlniaaGreatDoorQ48
namespace Go.Proofs.YtpmmhmgojjlniaaGreatDoor
open Go.RowKit Go.Sort
def neD (p : Int × Int) : List UInt8 := [32, 110, 101, 116, 119, 111, 114, 107, 32] ++ Ax.Ad.textA p.1 p.2 ++ [59, 10]
def nbD (n : Nb) : List UInt8 := [32, 110, 101, 105, 103, 104, 98, 111, 114, 32] ++ lst n.name ++ opt (!n.imp.toList.isEmpty) ([32, 105, 109, 112, 111, 114, 116, 32] ++ lst n.imp) ++ opt (!n.exp.toList.isEmpty) ([32, 101, 120, 112, 111, 114, 116, 32] ++ lst n.exp) ++ opt n.client [32, 99, 108, 105, 101, 110, 116] ++ [59, 10]
def lkD (k : Lk) : List UInt8 := [32, 108, 105, 110, 107, 32] ++ lst k.name ++ [32, 99, 111, 115, 116, 32] ++ Lib.itoa k.cost ++ [59, 10]
def rtHd (r : Rt) : List UInt8 := [114, 111, 117, 116, 101, 114, 32] ++ lst r.name ++ [32, 123, 10, 32, 97, 115, 32] ++ Lib.itoa r.asn ++ [59, 10, 32, 105, 100, 32] ++ Lib.itoa r.id ++ [59, 10]
def rtD (r : Rt) : List UInt8 := rtHd r ++ r.nets.flatMap neD ++ r.nbs.flatMap nbD ++ r.links.flatMap lkD ++ [125, 10]
theorem add1 {X M : List UInt8} {s m : ByteArray} {a b : Nat} (hs : s = ⟨X.toArray⟩) (hm : m = ⟨M.toArray⟩) (h : X.length ≤ a) (h2 : M.length ≤ b) (hab : a + b ≤ 1000000) :
    ∃ z, AddsTo s m z ∧ z = ⟨(X ++ M).toArray⟩ ∧ (X ++ M).length ≤ a + b := by
  refine ⟨⟨(X ++ M).toArray⟩, ?_, rfl, by rw [List.length_append]; omega⟩
  rw [hs, hm]
  exact adds_to _ _ (by omega)
theorem add1o {X L : List UInt8} {b : Bool} {s : ByteArray} {a n : Nat} (hs : s = ⟨X.toArray⟩) (h : X.length ≤ a) (h2 : L.length ≤ n) (hab : a + n ≤ 1000000) :
    ∃ z, (b = true → AddsTo s ⟨L.toArray⟩ z) ∧ (b = false → s = z) ∧ z = ⟨(X ++ opt b L).toArray⟩ ∧ (X ++ opt b L).length ≤ a + n := by
  refine ⟨⟨(X ++ opt b L).toArray⟩, ?_, ?_, rfl, Nat.le_trans (opt_len _ _ _) (by omega)⟩
  · rintro rfl
    rw [hs]
    exact adds_to _ _ (by omega)
  · rintro rfl
    rw [hs]
    show _ = (⟨(X ++ []).toArray⟩ : ByteArray)
    rw [List.append_nil]
theorem add2o {X L M : List UInt8} {b : Bool} {s m : ByteArray} {a n : Nat} (hs : s = ⟨X.toArray⟩) (hm : m = ⟨M.toArray⟩) (h : X.length ≤ a) (h2 : L.length + M.length ≤ n) (hab : a + n ≤ 1000000) :
    ∃ z, (b = true → ∃ t, AddsTo s ⟨L.toArray⟩ t ∧ AddsTo t m z) ∧ (b = false → s = z) ∧ z = ⟨(X ++ opt b (L ++ M)).toArray⟩ ∧ (X ++ opt b (L ++ M)).length ≤ a + n := by
  refine ⟨⟨(X ++ opt b (L ++ M)).toArray⟩, ?_, ?_, rfl, Nat.le_trans (opt_len _ _ _) (by rw [List.length_append]; omega)⟩
  · rintro rfl
    refine ⟨⟨(X ++ L).toArray⟩, by rw [hs]; exact adds_to _ _ (by omega), ?_⟩
    rw [hm]
    have e : X ++ opt true (L ++ M) = X ++ L ++ M := by show X ++ (L ++ M) = _; simp [List.append_assoc]
    rw [e]
    exact adds_to _ _ (by rw [List.length_append]; omega)
  · rintro rfl
    rw [hs]
    show _ = (⟨(X ++ []).toArray⟩ : ByteArray)
    rw [List.append_nil]
theorem flatLen {α : Type} (f : α → List UInt8) (K : Nat) (l : List α) (h : ∀ x ∈ l, (f x).length ≤ K) : (l.flatMap f).length ≤ K * l.length := by
  induction l with
  | nil => exact Nat.zero_le _
  | cons a l ih =>
    rw [List.flatMap_cons, List.length_append, List.length_cons]
    have h1 := h a (List.mem_cons_self)
    have h2 := ih fun x hx => h x (List.mem_cons_of_mem _ hx)
    rw [Nat.mul_succ]
    omega
theorem flatTakeLen {α : Type} (f : α → List UInt8) (K N : Nat) (l : List α) (h : ∀ x ∈ l, (f x).length ≤ K) (hn : l.length ≤ N) (k : Nat) : ((l.take k).flatMap f).length ≤ K * N := by
  have h1 : (l.take k).length ≤ N := by rw [List.length_take]; omega
  exact Nat.le_trans (flatLen f K _ fun x hx => h x (List.mem_of_mem_take hx)) (Nat.mul_le_mul_left K h1)
theorem flat_succ {α : Type} (f : α → List UInt8) (l : List α) (k : Nat) (h : k < l.length) : (l.take (k + 1)).flatMap f = (l.take k).flatMap f ++ f l[k] := by
  rw [List.take_succ_eq_append_getElem h, List.flatMap_append]
  simp
theorem textA_len (p : Int × Int) : (Ax.Ad.textA p.1 p.2).length ≤ 100 := by
  have := addrT_size p
  have e : (addrT p).size = (Ax.Ad.textA p.1 p.2).length := by show (Ax.Ad.textA p.1 p.2).toArray.size = _; simp
  omega
theorem neD_len (p : Int × Int) : (neD p).length ≤ 120 := by
  unfold neD
  have := textA_len p
  simp only [List.length_append, List.length_cons, List.length_nil]
  omega
theorem opt_le (b : Bool) (x : List UInt8) : (opt b x).length ≤ x.length := by
  unfold opt
  split
  · exact Nat.le_refl _
  · exact Nat.zero_le _
theorem nbD_len (n : Nb) (h : n.name.size ≤ 12 ∧ n.imp.size ≤ 12 ∧ n.exp.size ≤ 12) : (nbD n).length ≤ 120 := by
  unfold nbD
  have h1 := opt_le (!n.imp.toList.isEmpty) ([32, 105, 109, 112, 111, 114, 116, 32] ++ lst n.imp)
  have h2 := opt_le (!n.exp.toList.isEmpty) ([32, 101, 120, 112, 111, 114, 116, 32] ++ lst n.exp)
  have h3 := opt_le n.client [32, 99, 108, 105, 101, 110, 116]
  have e1 := lstz n.name
  have e2 := lstz n.imp
  have e3 := lstz n.exp
  simp only [List.length_append, List.length_cons, List.length_nil] at h1 h2 h3 ⊢
  omega
theorem lkD_len (k : Lk) (h : k.name.size ≤ 12 ∧ 0 ≤ k.cost ∧ k.cost ≤ 65536) : (lkD k).length ≤ 120 := by
  unfold lkD
  have e1 := lstz k.name
  have e2 := Lib.itoa_length_le k.cost (by omega) (by omega)
  simp only [List.length_append, List.length_cons, List.length_nil]
  omega
set_option maxHeartbeats 16000000 in
set_option maxRecDepth 100000 in
theorem routerText_is (r : Rt) (vn vb vl : Value) (w : World) (h1 : Rd w 2 PxR vn r.nets) (h2 : Rd w 4 NbR vb r.nbs) (h3 : Rd w 2 LkR vl r.links) (hw : ∀ p ∈ r.nets, U32 p.1) (hF : RtF r) (hnm : r.name.size ≤ 12) :
    Calls Tryz.prog 40 #[.agg #[.string r.name, .int .i64 r.asn, .int .i64 r.id, vn, vb, vl]] w fun e w' => e = .returned (.string ⟨(rtD r).toArray⟩) ∧ Below w.heap.size w w' := by
  obtain ⟨on, kn, rfl⟩ := h1.slice
  obtain ⟨ob, kb, rfl⟩ := h2.slice
  obtain ⟨ol, kl, rfl⟩ := h3.slice
  have RN := hide h1
  have RB := hide h2
  have RL := hide h3
  have HU := hide hw
  have HF := hide hF
  have HNM := hide hnm
  obtain ⟨X0, hX0⟩ : ∃ X, rtHd r = X := ⟨_, rfl⟩
  have hl0 : X0.length ≤ 100 := by
    rw [← hX0]; unfold rtHd
    have e1 := lstz r.name
    have e2 := Lib.itoa_length_le r.asn (by have := hF.asn; omega) (by have := hF.asn; omega)
    have e3 := Lib.itoa_length_le r.id (by have := hF.id; omega) (by have := hF.id; omega)
    simp only [List.length_append, List.length_cons, List.length_nil]
    omega
  obtain ⟨X1, hX1⟩ : ∃ X, X0 ++ r.nets.flatMap neD = X := ⟨_, rfl⟩
  obtain ⟨X2, hX2⟩ : ∃ X, X1 ++ r.nbs.flatMap nbD = X := ⟨_, rfl⟩
  obtain ⟨X3, hX3⟩ : ∃ X, X2 ++ r.links.flatMap lkD = X := ⟨_, rfl⟩
  obtain ⟨T, hT⟩ : ∃ X, X3 ++ [125, 10] = X := ⟨_, rfl⟩
  have LN := hide (fun k => flatTakeLen neD 120 16 r.nets (fun p _ => neD_len p) hF.nets k)
  have LB := hide (fun k => flatTakeLen nbD 120 16 r.nbs (fun p h => nbD_len p (hF.nbs.2 p h)) hF.nbs.1 k)
  have LL := hide (fun k => flatTakeLen lkD 120 16 r.links (fun p h => lkD_len p (hF.links.2 p h)) hF.links.1 k)
  have hl1 : X1.length ≤ 2100 := by have := LN.out r.nets.length; rw [List.take_length] at this; rw [← hX1, List.length_append]; omega
  have hl2 : X2.length ≤ 4100 := by have := LB.out r.nbs.length; rw [List.take_length] at this; rw [← hX2, List.length_append]; omega
  have hl3 : X3.length ≤ 6100 := by have := LL.out r.links.length; rw [List.take_length] at this; rw [← hX3, List.length_append]; omega
  have HC : Hid (rtD r = T) := by show _ = _; unfold rtD; rw [hX0, hX1, hX2, hX3, hT]
  rw [HC.out]
  have HX0 := hide hX0
  have HX1 := hide hX1
  have HX2 := hide hX2
  have HX3 := hide hX3
  have HT := hide hT
  have HL0 := hide hl0
  have HL1 := hide hl1
  have HL2 := hide hl2
  have HL3 := hide hl3
  have A0 := balloc (brefl w) (.cells #[.string r.name, .int .i64 r.asn, .int .i64 r.id, .slice on r.nets.length kn, .slice ob r.nbs.length kb, .slice ol r.links.length kl] 66)
  have N := hide (heap_new w #[.string r.name, .int .i64 r.asn, .int .i64 r.id, .slice on r.nets.length kn, .slice ob r.nbs.length kb, .slice ol r.links.length kl] 66)
  have HA := hide A0
  have hwl : w.heap.size < (w.alloc (.cells #[.string r.name, .int .i64 r.asn, .int .i64 r.id, .slice on r.nets.length kn, .slice ob r.nbs.length kb, .slice ol r.links.length kl] 66)).heap.size := by rw [size_alloc]; omega
  clear h1 h2 h3 A0 hw hF hnm hX0 hX1 hX2 hX3 hT hl0 hl1 hl2 hl3 HC
  go_enter Tryz.func40, Tryz.ntmps40
  go_upto_region 1 with fail
  obtain ⟨bc, hbc⟩ : ∃ q, w.heap.size = q := ⟨_, rfl⟩
  have HBC := hide hbc
  rw [hbc] at N hwl ⊢
  obtain ⟨w0, hw0⟩ : ∃ q, w.alloc (.cells #[.string r.name, .int .i64 r.asn, .int .i64 r.id, .slice on r.nets.length kn, .slice ob r.nbs.length kb, .slice ol r.links.length kl] 66) = q := ⟨_, rfl⟩
  rw [hw0] at N HA hwl ⊢
  have hw0l : w.heap.size ≤ w0.heap.size := by omega
  clear hw0 hbc
  have n0 := cell_of N.out 0 rfl
  have n1 := cell_of N.out 1 rfl
  have n2 := cell_of N.out 2 rfl
  obtain ⟨u1, hu1⟩ : ∃ u : ByteArray, u = ⟨(Lib.itoa r.asn).toArray⟩ := ⟨_, rfl⟩
  obtain ⟨u2, hu2⟩ : ∃ u : ByteArray, u = ⟨(Lib.itoa r.id).toArray⟩ := ⟨_, rfl⟩
  obtain ⟨z1, K1, e1, g1⟩ := add1 (X := [114, 111, 117, 116, 101, 114, 32]) (a := 7) (b := 12) rfl (ba_lst r.name) (by decide) (by rw [lstz]; exact HNM.out) (by decide)
  obtain ⟨z2, K2, e2, g2⟩ := add1 (M := [32, 123, 10, 32, 97, 115, 32]) (b := 7) e1 rfl g1 (by decide) (by decide)
  obtain ⟨z3, K3, e3, g3⟩ := add1 (b := 21) e2 hu1 g2 (Lib.itoa_length_le r.asn (by have := HF.out.asn; omega) (by have := HF.out.asn; omega)) (by decide)
  obtain ⟨z4, K4, e4, g4⟩ := add1 (M := [59, 10, 32, 105, 100, 32]) (b := 7) e3 rfl g3 (by decide) (by decide)
  obtain ⟨z5, K5, e5, g5⟩ := add1 (b := 21) e4 hu2 g4 (Lib.itoa_length_le r.id (by have := HF.out.id; omega) (by have := HF.out.id; omega)) (by decide)
  obtain ⟨z6, K6, e6, g6⟩ := add1 (M := [59, 10]) (b := 2) e5 rfl g5 (by decide) (by decide)
  have HS : Hid (z6 = ⟨X0.toArray⟩) := e6.trans (congrArg (fun x : List UInt8 => (⟨x.toArray⟩ : ByteArray)) HX0.out)
  have CA := hide (fun W => Ax.refNumber_is r.asn u1 (by have := HF.out.asn; omega) (by have := HF.out.asn; omega) hu1 W)
  have CI := hide (fun W => Ax.refNumber_is r.id u2 (by have := HF.out.id; omega) (by have := HF.out.id; omega) hu2 W)
  clear e1 e2 e3 e4 e5 e6 g1 g2 g3 g4 g5 g6 hu1 hu2
  unfold AddsTo at K1 K2 K3 K4 K5 K6
  have rn0 := fun dd os => cell_regrown n0 dd os
  have rn1 := fun dd os => cell_regrown n1 dd os
  have rn2 := fun dd os => cell_regrown n2 dd os
  go_wp2_with fail
  refine wp_region_quiet_below (by kernel_rfl) (by kernel_rfl) ?_
  iterate 7 (go_big_quiet_step ((go_at_call 95; exact Calls.regrown_of (CA.out _))))
  iterate 5 (go_big_quiet_step ((go_at_call 95; exact Calls.regrown_of (CI.out _))))
  repeat (go_big_quiet_step (fail))
  refine wpQuiet_nil ?_
  rintro _ ⟨⟨dd, os⟩, rfl⟩
  have hb1 := below_regrown w0 dd os
  generalize Sort.grow (redrawn w0 dd) os = w5 at hb1
  have HB0 := hide hb1
  clear hb1 rn0 rn1 rn2 n0 n1 n2 K1 K2 K3 K4 K5 K6 CA CI
  go_wp2_with fail
  go_loopw [3, 4] (fun v3 v4 wr => ∃ (k : Nat) (s : ByteArray), v4 = .int .i64 k ∧ v3 = .string s ∧ k ≤ r.nets.length ∧ Hid (s = ⟨(X0 ++ (r.nets.take k).flatMap neD).toArray⟩) ∧ Hid (Below w0.heap.size w0 wr)) (fun _ v4 _ => r.nets.length - (intOf v4).toNat)
  case atStart => exact ⟨0, _, rfl, rfl, Nat.zero_le _, by rw [List.take_zero, List.flatMap_nil, List.append_nil]; exact HS, HB0⟩
  case round =>
  as_aux_lemma =>
  clear HS HB0
  obtain ⟨k, s, rfl, rfl, hk, HS, HB⟩ := hrel
  have n3 := cell_of ((HB.out.block bc hwl).trans N.out) 3 rfl
  by_cases hkl : k < r.nets.length
  · have hkl' : (k : Int) < (r.nets.length : Int) := by omega
    have hk16 : (k : Int) < 16 := by have := HF.out.nets; omega
    obtain ⟨b2, off, xs, rfl, hb2, hx, hxc⟩ := RN.out.at_ hkl
    obtain rfl : xs = [.int .u32 r.nets[k].1, .int .i64 r.nets[k].2] := hx
    have BZ := hide (bthen HA.out HB.out)
    have a0 := (BZ.out.cell (p := ⟨b2, off + k * 2, none⟩) hb2).trans (hxc 0 _ rfl)
    have a1 := (BZ.out.cell (p := ⟨b2, off + k * 2 + 1, none⟩) hb2).trans (hxc 1 _ rfl)
    clear hxc
    have HN : Hid (X0 ++ (r.nets.take (k + 1)).flatMap neD = X0 ++ (r.nets.take k).flatMap neD ++ neD r.nets[k]) := by show _ = _; rw [flat_succ neD r.nets k hkl, List.append_assoc]
    have hxl : (X0 ++ (r.nets.take k).flatMap neD).length ≤ 10000 := by have := LN.out k; have := HL0.out; rw [List.length_append]; omega
    have HUk := hide (HU.out r.nets[k] (List.getElem_mem hkl))
    generalize r.nets[k] = q at *
    obtain ⟨u, hu⟩ : ∃ u : ByteArray, u = ⟨(Ax.Ad.textA q.1 q.2).toArray⟩ := ⟨_, rfl⟩
    obtain ⟨z1, K1, e1, g1⟩ := add1 (M := [32, 110, 101, 116, 119, 111, 114, 107, 32]) (b := 9) HS.out rfl hxl (by decide) (by decide)
    obtain ⟨z2, K2, e2, g2⟩ := add1 (b := 100) e1 hu g1 (textA_len q) (by decide)
    obtain ⟨z3, K3, e3, g3⟩ := add1 (M := [59, 10]) (b := 2) e2 rfl g2 (by decide) (by decide)
    have HS2 : Hid (z3 = ⟨(X0 ++ (r.nets.take (k + 1)).flatMap neD).toArray⟩) := by show _ = _; rw [HN.out, e3]; unfold neD; simp only [List.append_assoc]
    have CN := hide (fun W => Ax.refText_any q.1 q.2 W HUk.out.1 HUk.out.2)
    rw [← hu] at CN
    clear e1 e2 e3 g1 g2 g3 hu hxl HN HS
    unfold AddsTo at K1 K2 K3
    go_wp2_with fail
    refine (CN.out _).mono ?_
    rintro e w3 ⟨rfl, hb3⟩
    have HB3 := hide (HB.out.trans (bless hb3 HB.out.size))
    clear hb3 CN
    go_wp2_with fail
    exact ⟨⟨k + 1, z3, by go_num, rfl, by omega, HS2, HB3⟩, by simp [intOf] <;> omega⟩
  · have hkl' : ¬ (k : Int) < (r.nets.length : Int) := by omega
    obtain rfl : k = r.nets.length := by omega
    have HS2 : Hid (s = ⟨X1.toArray⟩) := by show _ = _; rw [HS.out, List.take_length, HX1.out]
    clear HS
    go_wp2_with fail
    clear n3 hkl hkl' hk
    have HS := HS2
    clear HS2
    obtain ⟨wC, hwC⟩ : ∃ q, q = wr := ⟨_, rfl⟩
    subst hwC
    have HB0 := HB
    clear HB
    go_loopw [3, 5] (fun v3 v4 wr => ∃ (k : Nat) (s : ByteArray), v4 = .int .i64 k ∧ v3 = .string s ∧ k ≤ r.nbs.length ∧ Hid (s = ⟨(X1 ++ (r.nbs.take k).flatMap nbD).toArray⟩) ∧ Hid (Below w0.heap.size w0 wr)) (fun _ v4 _ => r.nbs.length - (intOf v4).toNat)
    case atStart => exact ⟨0, _, rfl, rfl, Nat.zero_le _, by rw [List.take_zero, List.flatMap_nil, List.append_nil]; exact HS, HB0⟩
    case round =>
    as_aux_lemma =>
    clear HS HB0
    obtain ⟨k, s, rfl, rfl, hk, HS, HB⟩ := hrel
    have n4 := cell_of ((HB.out.block bc hwl).trans N.out) 4 rfl
    by_cases hkl : k < r.nbs.length
    · have hkl' : (k : Int) < (r.nbs.length : Int) := by omega
      have hk16 : (k : Int) < 16 := by have := HF.out.nbs; omega
      obtain ⟨b2, off, xs, rfl, hb2, hx, hxc⟩ := RB.out.at_ hkl
      obtain rfl : xs = [.string r.nbs[k].name, .string r.nbs[k].imp, .string r.nbs[k].exp, .bool r.nbs[k].client] := hx
      have BZ := hide (bthen HA.out HB.out)
      have a0 := (BZ.out.cell (p := ⟨b2, off + k * 4, none⟩) hb2).trans (hxc 0 _ rfl)
      have a1 := (BZ.out.cell (p := ⟨b2, off + k * 4 + 1, none⟩) hb2).trans (hxc 1 _ rfl)
      have a2 := (BZ.out.cell (p := ⟨b2, off + k * 4 + 2, none⟩) hb2).trans (hxc 2 _ rfl)
      have a3 := (BZ.out.cell (p := ⟨b2, off + k * 4 + 3, none⟩) hb2).trans (hxc 3 _ rfl)
      clear hxc
      have HN : Hid (X1 ++ (r.nbs.take (k + 1)).flatMap nbD = X1 ++ (r.nbs.take k).flatMap nbD ++ nbD r.nbs[k]) := by show _ = _; rw [flat_succ nbD r.nbs k hkl, List.append_assoc]
      have hxl : (X1 ++ (r.nbs.take k).flatMap nbD).length ≤ 10000 := by have := LB.out k; have := HL1.out; rw [List.length_append]; omega
      have HZk := hide (HF.out.nbs.2 r.nbs[k] (List.getElem_mem hkl))
      generalize r.nbs[k] = q at *
      obtain ⟨z1, K1, e1, g1⟩ := add1 (M := [32, 110, 101, 105, 103, 104, 98, 111, 114, 32]) (b := 10) HS.out rfl hxl (by decide) (by decide)
      obtain ⟨z2, K2, e2, g2⟩ := add1 (b := 12) e1 (ba_lst q.name) g1 (by rw [lstz]; exact HZk.out.1) (by decide)
      unfold AddsTo at K1 K2
      obtain ⟨name, imp, exp, cl⟩ := q
      simp only at a0 a1 a2 a3 HZk HN K2 e2 g2
      have HNE : Hid (X1 ++ (r.nbs.take (k + 1)).flatMap nbD = X1 ++ (r.nbs.take k).flatMap nbD ++ [32, 110, 101, 105, 103, 104, 98, 111, 114, 32] ++ lst name ++ opt (!imp.toList.isEmpty) ([32, 105, 109, 112, 111, 114, 116, 32] ++ lst imp) ++ opt (!exp.toList.isEmpty) ([32, 101, 120, 112, 111, 114, 116, 32] ++ lst exp) ++ opt cl [32, 99, 108, 105, 101, 110, 116] ++ [59, 10]) := by show _ = _; rw [HN.out]; unfold nbD; simp only [List.append_assoc]
      have HW := hide (balloc HB.out (.cells #[.string name, .string imp, .string exp, .bool cl] 68))
      have M := hide (heap_new wr #[.string name, .string imp, .string exp, .bool cl] 68)
      clear HN HS e1 g1 hxl
      go_upto_region 10 with fail
      clear a0 a1 a2 a3 n4
      obtain ⟨bq, hbq⟩ : ∃ y, wr.heap.size = y := ⟨_, rfl⟩
      rw [hbq] at M ⊢
      obtain ⟨w3, hw3⟩ : ∃ y, wr.alloc (.cells #[.string name, .string imp, .string exp, .bool cl] 68) = y := ⟨_, rfl⟩
      rw [hw3] at M HW ⊢
      clear hw3 hbq
      have m0 := cell_of M.out 0 rfl
      have m1 := cell_of M.out 1 rfl
      have m2 := cell_of M.out 2 rfl
      have m3 := cell_of M.out 3 rfl
      obtain ⟨y1, Ha1, Hb1, e3, g3⟩ := add2o (L := [32, 105, 109, 112, 111, 114, 116, 32]) (b := !imp.toList.isEmpty) (n := 20) e2 (ba_lst imp) g2 (by have := HZk.out.2.1; rw [lstz]; show 8 + _ ≤ _; omega) (by decide)
      obtain ⟨y2, Ha2, Hb2, e4, g4⟩ := add2o (L := [32, 101, 120, 112, 111, 114, 116, 32]) (b := !exp.toList.isEmpty) (n := 20) e3 (ba_lst exp) g3 (by have := HZk.out.2.2; rw [lstz]; show 8 + _ ≤ _; omega) (by decide)
      obtain ⟨y3, Ha3, Hb3, e5, g5⟩ := add1o (L := [32, 99, 108, 105, 101, 110, 116]) (b := cl) (n := 7) e4 g4 (by decide) (by decide)
      obtain ⟨y4, K9, e6, g6⟩ := add1 (M := [59, 10]) (b := 2) e5 rfl g5 (by decide) (by decide)
      have HS2 : Hid (y4 = ⟨(X1 ++ (r.nbs.take (k + 1)).flatMap nbD).toArray⟩) := by show _ = _; rw [HNE.out, e6]
      clear e2 e3 e4 e5 e6 g2 g3 g4 g5 g6 HNE
      unfold AddsTo at K9
      cases hi : imp.toList.isEmpty <;> cases he : exp.toList.isEmpty <;> cases cl
      all_goals (rw [hi] at Ha1 Hb1; rw [he] at Ha2 Hb2)
      all_goals (first | (obtain ⟨t1, P1, P2⟩ := Ha1 rfl; unfold AddsTo at P1 P2) | (obtain rfl := Hb1 rfl))
      all_goals (first | (obtain ⟨t2, P3, P4⟩ := Ha2 rfl; unfold AddsTo at P3 P4) | (obtain rfl := Hb2 rfl))
      all_goals (first | (have P5 := Ha3 rfl; unfold AddsTo at P5) | (obtain rfl := Hb3 rfl))
      all_goals clear Ha1 Hb1 Ha2 Hb2 Ha3 Hb3
      all_goals go_wp2_with fail
      all_goals exact ⟨⟨k + 1, y4, by go_num, rfl, by omega, HS2, HW⟩, by simp [intOf] <;> omega⟩
    · have hkl' : ¬ (k : Int) < (r.nbs.length : Int) := by omega
      obtain rfl : k = r.nbs.length := by omega
      have HS2 : Hid (s = ⟨X2.toArray⟩) := by show _ = _; rw [HS.out, List.take_length, HX2.out]
      clear HS
      go_wp2_with fail
      clear n4 hkl hkl' hk
      have HS := HS2
      clear HS2
      obtain ⟨wC, hwC⟩ : ∃ q, q = wr := ⟨_, rfl⟩
      subst hwC
      have HB0 := HB
      clear HB
      go_loopw [3, 7] (fun v3 v4 wr => ∃ (k : Nat) (s : ByteArray), v4 = .int .i64 k ∧ v3 = .string s ∧ k ≤ r.links.length ∧ Hid (s = ⟨(X2 ++ (r.links.take k).flatMap lkD).toArray⟩) ∧ Hid (Below w0.heap.size w0 wr)) (fun _ v4 _ => r.links.length - (intOf v4).toNat)
      case atStart => exact ⟨0, _, rfl, rfl, Nat.zero_le _, by rw [List.take_zero, List.flatMap_nil, List.append_nil]; exact HS, HB0⟩
      case round =>
      as_aux_lemma =>
      clear HS HB0
      obtain ⟨k, s, rfl, rfl, hk, HS, HB⟩ := hrel
      have n5 := cell_of ((HB.out.block bc hwl).trans N.out) 5 rfl
      by_cases hkl : k < r.links.length
      · have hkl' : (k : Int) < (r.links.length : Int) := by omega
        have hk16 : (k : Int) < 16 := by have := HF.out.links; omega
        obtain ⟨b2, off, xs, rfl, hb2, hx, hxc⟩ := RL.out.at_ hkl
        obtain rfl : xs = [.string r.links[k].name, .int .i64 r.links[k].cost] := hx
        have BZ := hide (bthen HA.out HB.out)
        have a0 := (BZ.out.cell (p := ⟨b2, off + k * 2, none⟩) hb2).trans (hxc 0 _ rfl)
        have a1 := (BZ.out.cell (p := ⟨b2, off + k * 2 + 1, none⟩) hb2).trans (hxc 1 _ rfl)
        clear hxc
        have HN : Hid (X2 ++ (r.links.take (k + 1)).flatMap lkD = X2 ++ (r.links.take k).flatMap lkD ++ lkD r.links[k]) := by show _ = _; rw [flat_succ lkD r.links k hkl, List.append_assoc]
        have hxl : (X2 ++ (r.links.take k).flatMap lkD).length ≤ 10000 := by have := LL.out k; have := HL2.out; rw [List.length_append]; omega
        have HZk := hide (HF.out.links.2 r.links[k] (List.getElem_mem hkl))
        generalize r.links[k] = q at *
        obtain ⟨u, hu⟩ : ∃ u : ByteArray, u = ⟨(Lib.itoa q.cost).toArray⟩ := ⟨_, rfl⟩
        obtain ⟨z1, K1, e1, g1⟩ := add1 (M := [32, 108, 105, 110, 107, 32]) (b := 6) HS.out rfl hxl (by decide) (by decide)
        obtain ⟨z2, K2, e2, g2⟩ := add1 (b := 12) e1 (ba_lst q.name) g1 (by rw [lstz]; exact HZk.out.1) (by decide)
        obtain ⟨z3, K3, e3, g3⟩ := add1 (M := [32, 99, 111, 115, 116, 32]) (b := 6) e2 rfl g2 (by decide) (by decide)
        obtain ⟨z4, K4, e4, g4⟩ := add1 (b := 21) e3 hu g3 (Lib.itoa_length_le q.cost (by have := HZk.out; omega) (by have := HZk.out; omega)) (by decide)
        obtain ⟨z5, K5, e5, g5⟩ := add1 (M := [59, 10]) (b := 2) e4 rfl g4 (by decide) (by decide)
        have HS2 : Hid (z5 = ⟨(X2 ++ (r.links.take (k + 1)).flatMap lkD).toArray⟩) := by show _ = _; rw [HN.out, e5]; unfold lkD; simp only [List.append_assoc]
        have CN := hide (fun W => Ax.refNumber_is q.cost u (by have := HZk.out; omega) (by have := HZk.out; omega) hu W)
        clear e1 e2 e3 e4 e5 g1 g2 g3 g4 g5 hu hxl HN HS
        unfold AddsTo at K1 K2 K3 K4 K5
        have rn5 := fun dd os => cell_regrown n5 dd os
        have ra0 := fun dd os => cell_regrown a0 dd os
        have ra1 := fun dd os => cell_regrown a1 dd os
        go_wp2_with fail
        refine wp_region_quiet_below (by kernel_rfl) (by kernel_rfl) ?_
        repeat (go_big_quiet_step ((go_at_call 95; exact Calls.regrown_of (CN.out _))))
        refine wpQuiet_nil ?_
        rintro _ ⟨⟨dd, os⟩, rfl⟩
        have hb1 := below_regrown wr dd os
        generalize Sort.grow (redrawn wr dd) os = w5 at hb1
        have HB3 := hide (HB.out.trans (bless hb1 HB.out.size))
        clear hb1 rn5 ra0 ra1 n5 a0 a1 CN
        go_wp2_with fail
        exact ⟨⟨k + 1, z5, by go_num, rfl, by omega, HS2, HB3⟩, by simp [intOf] <;> omega⟩
      · have hkl' : ¬ (k : Int) < (r.links.length : Int) := by omega
        obtain rfl : k = r.links.length := by omega
        have HS2 : Hid (s = ⟨X3.toArray⟩) := by show _ = _; rw [HS.out, List.take_length, HX3.out]
        clear HS
        obtain ⟨z1, K1, e1, g1⟩ := add1 (M := [125, 10]) (b := 2) HS2.out rfl HL3.out (by decide) (by decide)
        have HZ : Hid (z1 = ⟨T.toArray⟩) := by show _ = _; rw [e1, HT.out]
        unfold AddsTo at K1
        clear e1 g1
        go_wp2_with fail
        go_ret
        exact ⟨by rw [← HZ.out]; rfl, bthen HA.out HB.out⟩
end Go.Proofs.YtpmmhmgojjlniaaGreatDoor
namespace Go.Proofs.YtpmmhmgojjlniaaGreatDoor.Ax
open Go.RowKit
end Go.Proofs.YtpmmhmgojjlniaaGreatDoor.Ax
namespace Go.Proofs.YtpmmhmgojjlniaaGreatDoor.Ax
open Go.RowKit
set_option maxHeartbeats 1000000 in
theorem refRText_not (a b g l : Int) (p : Bool) (w : World) (ha : 0 ≤ a) (ha2 : a ≤ 4294967295) (hm : Ad.rmay (a, b, g, l, p) = false) :
    Calls Tryz.prog 38 #[.agg #[.int .u32 a, .int .i64 b, .int .i64 g, .int .i64 l, .bool p]] w fun e w' => e = .returned (.string ⟨#[]⟩) ∧ Below w.heap.size w w' := by
  go_enter Tryz.func38, Tryz.ntmps38
  go_wp2_with fail
  refine (refRMay_is _ _ _ _ _ _ hm _ ha ha2).mono ?_
  rintro e w1 ⟨rfl, hb1⟩
  go_wp2_with fail
  go_ret
  exact ⟨rfl, bthen (balloc (brefl w) _) hb1⟩

set_option maxHeartbeats 2000000 in
set_option maxRecDepth 100000 in
theorem refRText_00 (a b g l : Int) (p : Bool) (s0 sb tP u0 : ByteArray) (w : World) (ha : 0 ≤ a) (ha2 : a ≤ 4294967295) (M : Hid (Ad.rmay (a, b, g, l, p) = true))
    (hS : Hid (s0 = if p = true then ⟨#[112, 101, 114, 109, 105, 116]⟩ else ⟨#[100, 101, 110, 121]⟩))
    (Kb : Adds s0 ⟨#[32]⟩ sb) (K0 : Adds sb tP u0)
    (CT : Hid (∀ W, Below w.heap.size w W → Calls Tryz.prog 94 #[.agg #[.int .u32 a, .int .i64 b]] W fun e w' => e = .returned (.string tP) ∧ Below W.heap.size W w'))
    (h1 : ¬ b < g) (h2 : ¬ g < l) :
    Calls Tryz.prog 38 #[.agg #[.int .u32 a, .int .i64 b, .int .i64 g, .int .i64 l, .bool p]] w fun e w' => e = .returned (.string u0) ∧ Below w.heap.size w w' := by
  unfold Adds at *
  have F0 := hide (five_box w a b g l p)
  cases p
  all_goals
    have HS := hS.out
    simp at HS
    go_enter Tryz.func38, Tryz.ntmps38
    go_wp2_with fail
    refine (refRMay_is _ _ _ _ _ _ M.out _ ha ha2).mono ?_
    rintro e w1 ⟨rfl, hb1⟩
    have F1 := hide (five_below F0.out hb1)
    have B1 := hide (bthen (balloc (brefl w) _) hb1)
    obtain ⟨c0, c1, c2, c3, c4, c5, c6⟩ := F1.out
    clear hb1 F0
    rw [HS] at Kb
    clear HS hS
    go_wp2_with fail
    refine (CT.out _ B1.out).mono ?_
    rintro e w2 ⟨rfl, hb2⟩
    have F2 := hide (five_below F1.out hb2)
    have B2 := hide (bthen B1.out hb2)
    clear c0 c1 c2 c3 c4 c5 c6
    obtain ⟨c0, c1, c2, c3, c4, c5, c6⟩ := F2.out
    clear hb2 F1 B1
    go_wp2_with fail
    go_ret
    exact ⟨rfl, B2.out⟩

set_option maxHeartbeats 2000000 in
set_option maxRecDepth 100000 in
theorem refRText_01 (a b g l : Int) (p : Bool) (s0 sb tP u0 tL vL u2 : ByteArray) (w : World) (ha : 0 ≤ a) (ha2 : a ≤ 4294967295) (M : Hid (Ad.rmay (a, b, g, l, p) = true))
    (hS : Hid (s0 = if p = true then ⟨#[112, 101, 114, 109, 105, 116]⟩ else ⟨#[100, 101, 110, 121]⟩))
    (Kb : Adds s0 ⟨#[32]⟩ sb) (K0 : Adds sb tP u0) (KL : Adds u0 ⟨#[32, 108, 101, 32]⟩ vL) (K2 : Adds vL tL u2)
    (CT : Hid (∀ W, Below w.heap.size w W → Calls Tryz.prog 94 #[.agg #[.int .u32 a, .int .i64 b]] W fun e w' => e = .returned (.string tP) ∧ Below W.heap.size W w'))
    (CL : Hid (∀ W, Below w.heap.size w W → Calls Tryz.prog 95 #[.int .i64 l] W fun e w' => e = .returned (.string tL) ∧ Below W.heap.size W w'))
    (h1 : ¬ b < g) (h2 : g < l) :
    Calls Tryz.prog 38 #[.agg #[.int .u32 a, .int .i64 b, .int .i64 g, .int .i64 l, .bool p]] w fun e w' => e = .returned (.string u2) ∧ Below w.heap.size w w' := by
  unfold Adds at *
  have F0 := hide (five_box w a b g l p)
  cases p
  all_goals
    have HS := hS.out
    simp at HS
    go_enter Tryz.func38, Tryz.ntmps38
    go_wp2_with fail
    refine (refRMay_is _ _ _ _ _ _ M.out _ ha ha2).mono ?_
    rintro e w1 ⟨rfl, hb1⟩
    have F1 := hide (five_below F0.out hb1)
    have B1 := hide (bthen (balloc (brefl w) _) hb1)
    obtain ⟨c0, c1, c2, c3, c4, c5, c6⟩ := F1.out
    clear hb1 F0
    rw [HS] at Kb
    clear HS hS
    go_wp2_with fail
    refine (CT.out _ B1.out).mono ?_
    rintro e w2 ⟨rfl, hb2⟩
    have F2 := hide (five_below F1.out hb2)
    have B2 := hide (bthen B1.out hb2)
    clear c0 c1 c2 c3 c4 c5 c6
    obtain ⟨c0, c1, c2, c3, c4, c5, c6⟩ := F2.out
    clear hb2 F1 B1
    go_wp2_with fail
    refine (CL.out _ B2.out).mono ?_
    rintro e w3 ⟨rfl, hb3⟩
    have F3 := hide (five_below F2.out hb3)
    have B3 := hide (bthen B2.out hb3)
    clear c0 c1 c2 c3 c4 c5 c6
    obtain ⟨c0, c1, c2, c3, c4, c5, c6⟩ := F3.out
    clear hb3 F2 B2
    go_wp2_with fail
    go_ret
    exact ⟨rfl, B3.out⟩

set_option maxHeartbeats 2000000 in
set_option maxRecDepth 100000 in
theorem refRText_10 (a b g l : Int) (p : Bool) (s0 sb tP u0 tG vG u1 : ByteArray) (w : World) (ha : 0 ≤ a) (ha2 : a ≤ 4294967295) (M : Hid (Ad.rmay (a, b, g, l, p) = true))
    (hS : Hid (s0 = if p = true then ⟨#[112, 101, 114, 109, 105, 116]⟩ else ⟨#[100, 101, 110, 121]⟩))
    (Kb : Adds s0 ⟨#[32]⟩ sb) (K0 : Adds sb tP u0) (KG : Adds u0 ⟨#[32, 103, 101, 32]⟩ vG) (K1 : Adds vG tG u1)
    (CT : Hid (∀ W, Below w.heap.size w W → Calls Tryz.prog 94 #[.agg #[.int .u32 a, .int .i64 b]] W fun e w' => e = .returned (.string tP) ∧ Below W.heap.size W w'))
    (CG : Hid (∀ W, Below w.heap.size w W → Calls Tryz.prog 95 #[.int .i64 g] W fun e w' => e = .returned (.string tG) ∧ Below W.heap.size W w'))
    (h1 : b < g) (h2 : ¬ g < l) :
    Calls Tryz.prog 38 #[.agg #[.int .u32 a, .int .i64 b, .int .i64 g, .int .i64 l, .bool p]] w fun e w' => e = .returned (.string u1) ∧ Below w.heap.size w w' := by
  unfold Adds at *
  have F0 := hide (five_box w a b g l p)
  cases p
  all_goals
    have HS := hS.out
    simp at HS
    go_enter Tryz.func38, Tryz.ntmps38
    go_wp2_with fail
    refine (refRMay_is _ _ _ _ _ _ M.out _ ha ha2).mono ?_
    rintro e w1 ⟨rfl, hb1⟩
    have F1 := hide (five_below F0.out hb1)
    have B1 := hide (bthen (balloc (brefl w) _) hb1)
    obtain ⟨c0, c1, c2, c3, c4, c5, c6⟩ := F1.out
    clear hb1 F0
    rw [HS] at Kb
    clear HS hS
    go_wp2_with fail
    refine (CT.out _ B1.out).mono ?_
    rintro e w2 ⟨rfl, hb2⟩
    have F2 := hide (five_below F1.out hb2)
    have B2 := hide (bthen B1.out hb2)
    clear c0 c1 c2 c3 c4 c5 c6
    obtain ⟨c0, c1, c2, c3, c4, c5, c6⟩ := F2.out
    clear hb2 F1 B1
    go_wp2_with fail
    refine (CG.out _ B2.out).mono ?_
    rintro e w3 ⟨rfl, hb3⟩
    have F3 := hide (five_below F2.out hb3)
    have B3 := hide (bthen B2.out hb3)
    clear c0 c1 c2 c3 c4 c5 c6
    obtain ⟨c0, c1, c2, c3, c4, c5, c6⟩ := F3.out
    clear hb3 F2 B2
    go_wp2_with fail
    go_ret
    exact ⟨rfl, B3.out⟩

set_option maxHeartbeats 2000000 in
set_option maxRecDepth 100000 in
theorem refRText_11 (a b g l : Int) (p : Bool) (s0 sb tP u0 tG vG u1 tL vL u2 : ByteArray) (w : World) (ha : 0 ≤ a) (ha2 : a ≤ 4294967295) (M : Hid (Ad.rmay (a, b, g, l, p) = true))
    (hS : Hid (s0 = if p = true then ⟨#[112, 101, 114, 109, 105, 116]⟩ else ⟨#[100, 101, 110, 121]⟩))
    (Kb : Adds s0 ⟨#[32]⟩ sb) (K0 : Adds sb tP u0) (KG : Adds u0 ⟨#[32, 103, 101, 32]⟩ vG) (K1 : Adds vG tG u1) (KL : Adds u1 ⟨#[32, 108, 101, 32]⟩ vL) (K2 : Adds vL tL u2)
    (CT : Hid (∀ W, Below w.heap.size w W → Calls Tryz.prog 94 #[.agg #[.int .u32 a, .int .i64 b]] W fun e w' => e = .returned (.string tP) ∧ Below W.heap.size W w'))
    (CG : Hid (∀ W, Below w.heap.size w W → Calls Tryz.prog 95 #[.int .i64 g] W fun e w' => e = .returned (.string tG) ∧ Below W.heap.size W w'))
    (CL : Hid (∀ W, Below w.heap.size w W → Calls Tryz.prog 95 #[.int .i64 l] W fun e w' => e = .returned (.string tL) ∧ Below W.heap.size W w'))
    (h1 : b < g) (h2 : g < l) :
    Calls Tryz.prog 38 #[.agg #[.int .u32 a, .int .i64 b, .int .i64 g, .int .i64 l, .bool p]] w fun e w' => e = .returned (.string u2) ∧ Below w.heap.size w w' := by
  unfold Adds at *
  have F0 := hide (five_box w a b g l p)
  cases p
  all_goals
    have HS := hS.out
    simp at HS
    go_enter Tryz.func38, Tryz.ntmps38
    go_wp2_with fail
    refine (refRMay_is _ _ _ _ _ _ M.out _ ha ha2).mono ?_
    rintro e w1 ⟨rfl, hb1⟩
    have F1 := hide (five_below F0.out hb1)
    have B1 := hide (bthen (balloc (brefl w) _) hb1)
    obtain ⟨c0, c1, c2, c3, c4, c5, c6⟩ := F1.out
    clear hb1 F0
    rw [HS] at Kb
    clear HS hS
    go_wp2_with fail
    refine (CT.out _ B1.out).mono ?_
    rintro e w2 ⟨rfl, hb2⟩
    have F2 := hide (five_below F1.out hb2)
    have B2 := hide (bthen B1.out hb2)
    clear c0 c1 c2 c3 c4 c5 c6
    obtain ⟨c0, c1, c2, c3, c4, c5, c6⟩ := F2.out
    clear hb2 F1 B1
    go_wp2_with fail
    refine (CG.out _ B2.out).mono ?_
    rintro e w3 ⟨rfl, hb3⟩
    have F3 := hide (five_below F2.out hb3)
    have B3 := hide (bthen B2.out hb3)
    clear c0 c1 c2 c3 c4 c5 c6
    obtain ⟨c0, c1, c2, c3, c4, c5, c6⟩ := F3.out
    clear hb3 F2 B2
    go_wp2_with fail
    refine (CL.out _ B3.out).mono ?_
    rintro e w4 ⟨rfl, hb4⟩
    have F4 := hide (five_below F3.out hb4)
    have B4 := hide (bthen B3.out hb4)
    clear c0 c1 c2 c3 c4 c5 c6
    obtain ⟨c0, c1, c2, c3, c4, c5, c6⟩ := F4.out
    clear hb4 F3 B3
    go_wp2_with fail
    go_ret
    exact ⟨rfl, B4.out⟩

end Go.Proofs.YtpmmhmgojjlniaaGreatDoor.Ax
