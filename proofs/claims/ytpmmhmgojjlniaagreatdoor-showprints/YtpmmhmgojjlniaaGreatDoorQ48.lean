/- The document's text of a clause. -/
import Derived.Test.YtpmmhmgojjlniaaGreatDoorQ45
import Derived.Test.YtpmmhmgojjlniaaGreatDoorQ46
import Derived.Test.YtpmmhmgojjlniaaGreatDoorQ47
namespace Go.Proofs.YtpmmhmgojjlniaaGreatDoor
open Go.RowKit Go.Sort
def opt (b : Bool) (x : List UInt8) : List UInt8 := if b = true then x else []
theorem ba_lst (s : ByteArray) : s = ⟨(lst s).toArray⟩ := by cases s; simp [lst]
theorem opt_no {X Y q : List UInt8} {b : Bool} (h : X ++ opt b q = Y) (hb : b = false) : X = Y := by rw [hb] at h; rw [← h]; exact (List.append_nil X).symm
theorem opt_yes {X Y L1 M L2 : List UInt8} {b : Bool} (h : X ++ opt b (L1 ++ M ++ L2) = Y) (hb : b = true) (hl : Y.length ≤ 1000000) {s m : ByteArray} (hs : s = ⟨X.toArray⟩) (hm : m = ⟨M.toArray⟩) :
    ∃ s1 s2 s3, AddsTo s ⟨L1.toArray⟩ s1 ∧ AddsTo s1 m s2 ∧ AddsTo s2 ⟨L2.toArray⟩ s3 ∧ s3 = ⟨Y.toArray⟩ := by
  rw [hb] at h
  have e : X ++ L1 ++ M ++ L2 = Y := by rw [← h]; show _ = X ++ (L1 ++ M ++ L2); simp [List.append_assoc]
  have hy : Y.length = X.length + L1.length + M.length + L2.length := by rw [← e]; simp only [List.length_append]
  refine ⟨⟨(X ++ L1).toArray⟩, ⟨(X ++ L1 ++ M).toArray⟩, ⟨(X ++ L1 ++ M ++ L2).toArray⟩, ?_, ?_, ?_, by rw [e]⟩
  · rw [hs]; exact adds_to _ _ (by omega)
  · rw [hm]; exact adds_to _ _ (by rw [List.length_append]; omega)
  · exact adds_to _ _ (by rw [List.length_append, List.length_append]; omega)
theorem opt_one {X Y L1 : List UInt8} {b : Bool} (h : X ++ opt b L1 = Y) (hb : b = true) (hl : Y.length ≤ 1000000) {s : ByteArray} (hs : s = ⟨X.toArray⟩) :
    ∃ s1, AddsTo s ⟨L1.toArray⟩ s1 ∧ s1 = ⟨Y.toArray⟩ := by
  rw [hb] at h
  have e : X ++ L1 = Y := h
  refine ⟨⟨(X ++ L1).toArray⟩, ?_, by rw [e]⟩
  rw [hs]
  exact adds_to _ _ (by have : Y.length = X.length + L1.length := by rw [← e]; simp only [List.length_append]
                        omega)
theorem opt_len (X : List UInt8) (b : Bool) (x : List UInt8) : (X ++ opt b x).length ≤ X.length + x.length := by
  rw [List.length_append]
  unfold opt
  split
  · exact Nat.le_refl _
  · exact Nat.add_le_add_left (Nat.zero_le _) _
theorem rdComm1 (W : World) (a b : Int) : Rd (W.alloc (.cells #[.int .i64 a, .int .i64 b] 53)) 2 PrR (.slice (some ⟨W.heap.size, 0, none⟩) 1 1) [(a, b)] := by
  have N := heap_new W #[.int .i64 a, .int .i64 b] 53
  refine ⟨some ⟨W.heap.size, 0, none⟩, 1, rfl, Nat.le_refl _, .inr ⟨W.heap.size, 0, rfl, fun j hj => ?_⟩⟩
  have hj0 : j = 0 := by simp at hj; exact hj
  subst hj0
  refine ⟨[.int .i64 a, .int .i64 b], rfl, by simp, fun i u hu => ?_⟩
  match i, hu with
  | 0, hu => simp at hu; subst hu; exact cell_of N 0 rfl
  | 1, hu => simp at hu; subst hu; exact cell_of N 1 rfl
  | i + 2, hu => simp at hu
theorem lstz (s : ByteArray) : (lst s).length = s.size := by cases s; exact Array.length_toList
theorem orgT_len (n : Int) : (lst (orgT n)).length ≤ 4 := by
  unfold orgT
  split
  · decide
  · split <;> decide
theorem istext_len (l : List Int) : (Ar.Is.text l).length ≤ 400 := by
  unfold Ar.Is.text
  split
  · rename_i h
    have h1 := Ar.Is.joinTo_len l h l.length (Nat.le_refl _)
    have h2 := ((Ar.Is.may_iff l).1 h).1
    unfold Ar.Is.joinTo at h1
    rw [List.take_length] at h1
    omega
  · exact Nat.zero_le _
/-- The document's text of a clause's head. -/
def clHd (c : Cl) : List UInt8 := (if c.ok = true then [32, 112, 101, 114, 109, 105, 116, 32] else [32, 100, 101, 110, 121, 32]) ++ Lib.itoa c.n ++ [32, 123, 10]
def clD (c : Cl) : List UInt8 := clHd c ++ opt (!c.m.list.toList.isEmpty) ([32, 32, 109, 97, 116, 99, 104, 32, 112, 114, 101, 102, 105, 120, 32] ++ lst c.m.list ++ [59, 10]) ++ opt (!c.m.path.toList.isEmpty) ([32, 32, 109, 97, 116, 99, 104, 32, 112, 97, 116, 104, 32, 34] ++ lst c.m.path ++ [34, 59, 10]) ++ opt (c.m.ca != 0) ([32, 32, 109, 97, 116, 99, 104, 32, 99, 111, 109, 109, 117, 110, 105, 116, 121] ++ comsL [(c.m.ca, c.m.cn)] ++ [59, 10]) ++ opt (decide (0 ≤ c.s.pref)) ([32, 32, 115, 101, 116, 32, 112, 114, 101, 102, 32] ++ Lib.itoa c.s.pref ++ [59, 10]) ++ opt (decide (0 ≤ c.s.med)) ([32, 32, 115, 101, 116, 32, 109, 101, 100, 32] ++ Lib.itoa c.s.med ++ [59, 10]) ++ opt (decide (0 ≤ c.s.org)) ([32, 32, 115, 101, 116, 32, 111, 114, 105, 103, 105, 110, 32] ++ lst (orgT c.s.org) ++ [59, 10]) ++ opt c.s.clr [32, 32, 115, 101, 116, 32, 99, 111, 109, 109, 117, 110, 105, 116, 121, 32, 99, 108, 101, 97, 114, 59, 10] ++ opt (decide (0 < c.s.del.length)) ([32, 32, 115, 101, 116, 32, 99, 111, 109, 109, 117, 110, 105, 116, 121, 32, 100, 101, 108] ++ comsL c.s.del ++ [59, 10]) ++ opt (decide (0 < c.s.add.length)) ([32, 32, 115, 101, 116, 32, 99, 111, 109, 109, 117, 110, 105, 116, 121, 32, 97, 100, 100] ++ comsL c.s.add ++ [59, 10]) ++ opt (decide (0 < c.s.prep.length)) ([32, 32, 115, 101, 116, 32, 112, 114, 101, 112, 101, 110, 100, 32] ++ Ar.Is.text c.s.prep ++ [59, 10]) ++ [32, 125, 10]
set_option maxHeartbeats 16000000 in
set_option maxRecDepth 100000 in
theorem clauseText_is (c : Cl) (va vd vp : Value) (w : World) (h1 : Rd w 2 PrR va c.s.add) (h2 : Rd w 2 PrR vd c.s.del) (h3 : Rd w 1 InR vp c.s.prep) (hF : ClF c) (hp : c.m.path.size ≤ 10000) :
    Calls Tryz.prog 39 #[clV c va vd vp] w fun e w' => e = .returned (.string ⟨(clD c).toArray⟩) ∧ Below w.heap.size w w' := by
  obtain ⟨oa, ka, rfl⟩ := h1.slice
  obtain ⟨od, kd, rfl⟩ := h2.slice
  obtain ⟨op, kp, rfl⟩ := h3.slice
  unfold clV
  have R1 := hide h1
  have R2 := hide h2
  have R3 := hide h3
  have HF := hide hF
  have lh : (clHd c).length ≤ 40 := by
    unfold clHd
    have := Lib.itoa_length_le c.n (by have := hF.n; omega) (by have := hF.n; omega)
    rw [List.length_append, List.length_append]
    split <;> simp <;> omega
  obtain ⟨X0, hX0⟩ : ∃ X, clHd c = X := ⟨_, rfl⟩
  rw [hX0] at lh
  obtain ⟨X1, hX1⟩ : ∃ X, X0 ++ opt (!c.m.list.toList.isEmpty) ([32, 32, 109, 97, 116, 99, 104, 32, 112, 114, 101, 102, 105, 120, 32] ++ lst c.m.list ++ [59, 10]) = X := ⟨_, rfl⟩
  have m1 : (lst c.m.list).length ≤ 12 := by have := hF.list; rw [lstz]; omega
  have l1 : X1.length ≤ 69 := by
    have := opt_len X0 (!c.m.list.toList.isEmpty) ([32, 32, 109, 97, 116, 99, 104, 32, 112, 114, 101, 102, 105, 120, 32] ++ lst c.m.list ++ [59, 10])
    rw [hX1] at this
    simp only [List.length_append, List.length_cons, List.length_nil] at this
    omega
  obtain ⟨X2, hX2⟩ : ∃ X, X1 ++ opt (!c.m.path.toList.isEmpty) ([32, 32, 109, 97, 116, 99, 104, 32, 112, 97, 116, 104, 32, 34] ++ lst c.m.path ++ [34, 59, 10]) = X := ⟨_, rfl⟩
  have m2 : (lst c.m.path).length ≤ 10000 := by have := hp; rw [lstz]; omega
  have l2 : X2.length ≤ 10086 := by
    have := opt_len X1 (!c.m.path.toList.isEmpty) ([32, 32, 109, 97, 116, 99, 104, 32, 112, 97, 116, 104, 32, 34] ++ lst c.m.path ++ [34, 59, 10])
    rw [hX2] at this
    simp only [List.length_append, List.length_cons, List.length_nil] at this
    omega
  obtain ⟨X3, hX3⟩ : ∃ X, X2 ++ opt (c.m.ca != 0) ([32, 32, 109, 97, 116, 99, 104, 32, 99, 111, 109, 109, 117, 110, 105, 116, 121] ++ comsL [(c.m.ca, c.m.cn)] ++ [59, 10]) = X := ⟨_, rfl⟩
  have m3 : (comsL [(c.m.ca, c.m.cn)]).length ≤ 61 := by have := comsL_len [(c.m.ca, c.m.cn)]; simp only [List.length_cons, List.length_nil] at this; omega
  have l3 : X3.length ≤ 10166 := by
    have := opt_len X2 (c.m.ca != 0) ([32, 32, 109, 97, 116, 99, 104, 32, 99, 111, 109, 109, 117, 110, 105, 116, 121] ++ comsL [(c.m.ca, c.m.cn)] ++ [59, 10])
    rw [hX3] at this
    simp only [List.length_append, List.length_cons, List.length_nil] at this
    omega
  obtain ⟨X4, hX4⟩ : ∃ X, X3 ++ opt (decide (0 ≤ c.s.pref)) ([32, 32, 115, 101, 116, 32, 112, 114, 101, 102, 32] ++ Lib.itoa c.s.pref ++ [59, 10]) = X := ⟨_, rfl⟩
  have m4 : (Lib.itoa c.s.pref).length ≤ 21 := by have := Lib.itoa_length_le c.s.pref (by have := hF.pref; omega) (by have := hF.pref; omega); omega
  have l4 : X4.length ≤ 10200 := by
    have := opt_len X3 (decide (0 ≤ c.s.pref)) ([32, 32, 115, 101, 116, 32, 112, 114, 101, 102, 32] ++ Lib.itoa c.s.pref ++ [59, 10])
    rw [hX4] at this
    simp only [List.length_append, List.length_cons, List.length_nil] at this
    omega
  obtain ⟨X5, hX5⟩ : ∃ X, X4 ++ opt (decide (0 ≤ c.s.med)) ([32, 32, 115, 101, 116, 32, 109, 101, 100, 32] ++ Lib.itoa c.s.med ++ [59, 10]) = X := ⟨_, rfl⟩
  have m5 : (Lib.itoa c.s.med).length ≤ 21 := by have := Lib.itoa_length_le c.s.med (by have := hF.med; omega) (by have := hF.med; omega); omega
  have l5 : X5.length ≤ 10233 := by
    have := opt_len X4 (decide (0 ≤ c.s.med)) ([32, 32, 115, 101, 116, 32, 109, 101, 100, 32] ++ Lib.itoa c.s.med ++ [59, 10])
    rw [hX5] at this
    simp only [List.length_append, List.length_cons, List.length_nil] at this
    omega
  obtain ⟨X6, hX6⟩ : ∃ X, X5 ++ opt (decide (0 ≤ c.s.org)) ([32, 32, 115, 101, 116, 32, 111, 114, 105, 103, 105, 110, 32] ++ lst (orgT c.s.org) ++ [59, 10]) = X := ⟨_, rfl⟩
  have m6 : (lst (orgT c.s.org)).length ≤ 4 := by exact orgT_len _
  have l6 : X6.length ≤ 10252 := by
    have := opt_len X5 (decide (0 ≤ c.s.org)) ([32, 32, 115, 101, 116, 32, 111, 114, 105, 103, 105, 110, 32] ++ lst (orgT c.s.org) ++ [59, 10])
    rw [hX6] at this
    simp only [List.length_append, List.length_cons, List.length_nil] at this
    omega
  obtain ⟨X7, hX7⟩ : ∃ X, X6 ++ opt c.s.clr [32, 32, 115, 101, 116, 32, 99, 111, 109, 109, 117, 110, 105, 116, 121, 32, 99, 108, 101, 97, 114, 59, 10] = X := ⟨_, rfl⟩
  have l7 : X7.length ≤ 10275 := by
    have := opt_len X6 c.s.clr [32, 32, 115, 101, 116, 32, 99, 111, 109, 109, 117, 110, 105, 116, 121, 32, 99, 108, 101, 97, 114, 59, 10]
    rw [hX7] at this
    simp only [List.length_cons, List.length_nil] at this
    omega
  obtain ⟨X8, hX8⟩ : ∃ X, X7 ++ opt (decide (0 < c.s.del.length)) ([32, 32, 115, 101, 116, 32, 99, 111, 109, 109, 117, 110, 105, 116, 121, 32, 100, 101, 108] ++ comsL c.s.del ++ [59, 10]) = X := ⟨_, rfl⟩
  have m8 : (comsL c.s.del).length ≤ 488 := by have := comsL_len c.s.del; have := hF.del; omega
  have l8 : X8.length ≤ 10784 := by
    have := opt_len X7 (decide (0 < c.s.del.length)) ([32, 32, 115, 101, 116, 32, 99, 111, 109, 109, 117, 110, 105, 116, 121, 32, 100, 101, 108] ++ comsL c.s.del ++ [59, 10])
    rw [hX8] at this
    simp only [List.length_append, List.length_cons, List.length_nil] at this
    omega
  obtain ⟨X9, hX9⟩ : ∃ X, X8 ++ opt (decide (0 < c.s.add.length)) ([32, 32, 115, 101, 116, 32, 99, 111, 109, 109, 117, 110, 105, 116, 121, 32, 97, 100, 100] ++ comsL c.s.add ++ [59, 10]) = X := ⟨_, rfl⟩
  have m9 : (comsL c.s.add).length ≤ 488 := by have := comsL_len c.s.add; have := hF.add; omega
  have l9 : X9.length ≤ 11293 := by
    have := opt_len X8 (decide (0 < c.s.add.length)) ([32, 32, 115, 101, 116, 32, 99, 111, 109, 109, 117, 110, 105, 116, 121, 32, 97, 100, 100] ++ comsL c.s.add ++ [59, 10])
    rw [hX9] at this
    simp only [List.length_append, List.length_cons, List.length_nil] at this
    omega
  obtain ⟨X10, hX10⟩ : ∃ X, X9 ++ opt (decide (0 < c.s.prep.length)) ([32, 32, 115, 101, 116, 32, 112, 114, 101, 112, 101, 110, 100, 32] ++ Ar.Is.text c.s.prep ++ [59, 10]) = X := ⟨_, rfl⟩
  have m10 : (Ar.Is.text c.s.prep).length ≤ 400 := by exact istext_len _
  have l10 : X10.length ≤ 11709 := by
    have := opt_len X9 (decide (0 < c.s.prep.length)) ([32, 32, 115, 101, 116, 32, 112, 114, 101, 112, 101, 110, 100, 32] ++ Ar.Is.text c.s.prep ++ [59, 10])
    rw [hX10] at this
    simp only [List.length_append, List.length_cons, List.length_nil] at this
    omega
  obtain ⟨T, hT⟩ : ∃ T, X10 ++ [32, 125, 10] = T := ⟨_, rfl⟩
  have HC : Hid (clD c = T) := by show _ = _; unfold clD; rw [hX0, hX1, hX2, hX3, hX4, hX5, hX6, hX7, hX8, hX9, hX10, hT]
  rw [HC.out]
  have HX0 := hide hX0
  have HL0 : Hid (X0.length ≤ 1000000) := by show _ ≤ _; omega
  have HX1 := hide hX1
  have HL1 : Hid (X1.length ≤ 1000000) := by show _ ≤ _; omega
  have HX2 := hide hX2
  have HL2 : Hid (X2.length ≤ 1000000) := by show _ ≤ _; omega
  have HX3 := hide hX3
  have HL3 : Hid (X3.length ≤ 1000000) := by show _ ≤ _; omega
  have HX4 := hide hX4
  have HL4 : Hid (X4.length ≤ 1000000) := by show _ ≤ _; omega
  have HX5 := hide hX5
  have HL5 : Hid (X5.length ≤ 1000000) := by show _ ≤ _; omega
  have HX6 := hide hX6
  have HL6 : Hid (X6.length ≤ 1000000) := by show _ ≤ _; omega
  have HX7 := hide hX7
  have HL7 : Hid (X7.length ≤ 1000000) := by show _ ≤ _; omega
  have HX8 := hide hX8
  have HL8 : Hid (X8.length ≤ 1000000) := by show _ ≤ _; omega
  have HX9 := hide hX9
  have HL9 : Hid (X9.length ≤ 1000000) := by show _ ≤ _; omega
  have HX10 := hide hX10
  have HL10 : Hid (X10.length ≤ 1000000) := by show _ ≤ _; omega
  have HLT : Hid (X10.length + 3 ≤ 1000000) := by show _ ≤ _; omega
  have HT := hide hT
  clear hX0 hX1 hX2 hX3 hX4 hX5 hX6 hX7 hX8 hX9 hX10 hT l1 l2 l3 l4 l5 l6 l7 l8 l9 l10 lh m1 m2 m3 m4 m5 m6 m8 m9 m10
  have A0 := balloc (brefl w) (.cells #[.int .i64 c.n, .bool c.ok, .string c.m.list, .string c.m.path, .int .i64 c.m.ca, .int .i64 c.m.cn, .int .i64 c.s.pref, .int .i64 c.s.med, .int .i64 c.s.org, .slice oa c.s.add.length ka, .slice od c.s.del.length kd, .bool c.s.clr, .slice op c.s.prep.length kp] 61)
  have N := hide (heap_new w #[.int .i64 c.n, .bool c.ok, .string c.m.list, .string c.m.path, .int .i64 c.m.ca, .int .i64 c.m.cn, .int .i64 c.s.pref, .int .i64 c.s.med, .int .i64 c.s.org, .slice oa c.s.add.length ka, .slice od c.s.del.length kd, .bool c.s.clr, .slice op c.s.prep.length kp] 61)
  have HA := hide A0
  have hwl : w.heap.size < (w.alloc (.cells #[.int .i64 c.n, .bool c.ok, .string c.m.list, .string c.m.path, .int .i64 c.m.ca, .int .i64 c.m.cn, .int .i64 c.s.pref, .int .i64 c.s.med, .int .i64 c.s.org, .slice oa c.s.add.length ka, .slice od c.s.del.length kd, .bool c.s.clr, .slice op c.s.prep.length kp] 61)).heap.size := by rw [size_alloc]; omega
  clear h1 h2 h3 A0 hF hp HC
  go_enter Tryz.func39, Tryz.ntmps39
  go_upto_region 1 with fail
  obtain ⟨bc, hbc⟩ : ∃ q, w.heap.size = q := ⟨_, rfl⟩
  have HBC := hide hbc
  rw [hbc] at N hwl ⊢
  obtain ⟨w0, hw0⟩ : ∃ q, w.alloc (.cells #[.int .i64 c.n, .bool c.ok, .string c.m.list, .string c.m.path, .int .i64 c.m.ca, .int .i64 c.m.cn, .int .i64 c.s.pref, .int .i64 c.s.med, .int .i64 c.s.org, .slice oa c.s.add.length ka, .slice od c.s.del.length kd, .bool c.s.clr, .slice op c.s.prep.length kp] 61) = q := ⟨_, rfl⟩
  rw [hw0] at N HA hwl ⊢
  have hw0l : w.heap.size ≤ w0.heap.size := by omega
  clear hw0 hbc
  have n1 := cell_of N.out 1 rfl
  go_upto_if 6 with fail
  clear n1
  go_cut [0, 3] from 4 (fun _ v3 wx => v3 = .string (if c.ok = true then ⟨#[32, 112, 101, 114, 109, 105, 116, 32]⟩ else ⟨#[32, 100, 101, 110, 121, 32]⟩) ∧ wx = w0)
  case first =>
    cases hok : c.ok with
    | false =>
      go_wp2_with fail
      go_meet
      exact ⟨by rw [hok]; rfl, rfl⟩
    | true =>
      go_wp2_with fail
      go_meet
      exact ⟨by rw [hok]; rfl, rfl⟩
  obtain ⟨rfl, hwc⟩ := hcut
  have hwd := hwc.symm
  subst hwd
  obtain ⟨sa, hsa⟩ : ∃ s : ByteArray, (if c.ok = true then ⟨#[32, 112, 101, 114, 109, 105, 116, 32]⟩ else ⟨#[32, 100, 101, 110, 121, 32]⟩) = s := ⟨_, rfl⟩
  rw [hsa]
  obtain ⟨s0, s1, s2, K0, K1, HS⟩ : ∃ t s1 s2 : ByteArray, AddsTo sa t s1 ∧ AddsTo s1 ⟨#[32, 123, 10]⟩ s2 ∧ Hid (t = ⟨(Lib.itoa c.n).toArray⟩ ∧ s2 = ⟨X0.toArray⟩) := by
    have hx := HX0.out
    have hl := Lib.itoa_length_le c.n (by have := HF.out.n; omega) (by have := HF.out.n; omega)
    rw [← hx]
    unfold clHd
    rw [← hsa]
    cases c.ok with
    | false => exact ⟨_, ⟨([32, 100, 101, 110, 121, 32] ++ Lib.itoa c.n).toArray⟩, _, adds_to _ _ (by simp; omega), adds_to _ _ (by simp; omega), rfl, rfl⟩
    | true => exact ⟨_, ⟨([32, 112, 101, 114, 109, 105, 116, 32] ++ Lib.itoa c.n).toArray⟩, _, adds_to _ _ (by simp; omega), adds_to _ _ (by simp; omega), rfl, rfl⟩
  have CN := hide (fun W => Ax.refNumber_is c.n s0 (by have := HF.out.n; omega) (by have := HF.out.n; omega) HS.out.1 W)
  unfold AddsTo at K0 K1
  clear hsa HX0 HL0
  have n0 := cell_of N.out 0 rfl
  go_wp2_with fail
  refine (CN.out _).mono ?_
  rintro e w1 ⟨rfl, hb1⟩
  have HB := hide (bless hb1 (Nat.le_refl _))
  clear hb1 CN n0
  have HS3 := hide HS.out.2
  clear HS
  have HS := HS3
  clear HS3
  have n2 := cell_of ((HB.out.block bc hwl).trans N.out) 2 rfl
  go_upto_if 16 with fail
  clear n2
  go_cut [0, 3] from 4 (fun _ v3 wx => ∃ s : ByteArray, v3 = .string s ∧ Hid (s = ⟨X1.toArray⟩) ∧ Hid (Below w0.heap.size w0 wx))
  case first =>
    have n2 := cell_of ((HB.out.block bc hwl).trans N.out) 2 rfl
    rcases Bool.eq_false_or_eq_true (!c.m.list.toList.isEmpty) with hb | hb
    rotate_left
    · have HS2 := hide (HS.out.trans (congrArg (fun x : List UInt8 => (⟨x.toArray⟩ : ByteArray)) (opt_no HX1.out hb)))
      have hd : c.m.list.toList.isEmpty = true := by simpa using hb
      first | rw [hb] | skip
      go_wp2_with fail
      go_meet
      exact ⟨_, rfl, HS2, HB⟩
    · obtain ⟨z1, z2, z3, K0, K1, K2, HZ⟩ := opt_yes HX1.out hb HL1.out HS.out (ba_lst (c.m.list))
      have HS2 := hide HZ
      first | rw [hb] | skip
      unfold AddsTo at K0 K1 K2
      clear HZ
      have hd : c.m.list.toList.isEmpty = false := by simpa using hb
      go_wp2_with fail
      go_meet
      exact ⟨_, rfl, HS2, HB⟩
  clear HS HB HX1 HL1
  obtain ⟨s, rfl, HS, HB⟩ := hcut
  have n3 := cell_of ((HB.out.block bc hwl).trans N.out) 3 rfl
  go_upto_if 27 with fail
  clear n3
  go_cut [0, 3] from 4 (fun _ v3 wx => ∃ s : ByteArray, v3 = .string s ∧ Hid (s = ⟨X2.toArray⟩) ∧ Hid (Below w0.heap.size w0 wx))
  case first =>
    have n3 := cell_of ((HB.out.block bc hwl).trans N.out) 3 rfl
    rcases Bool.eq_false_or_eq_true (!c.m.path.toList.isEmpty) with hb | hb
    rotate_left
    · have HS2 := hide (HS.out.trans (congrArg (fun x : List UInt8 => (⟨x.toArray⟩ : ByteArray)) (opt_no HX2.out hb)))
      have hd : c.m.path.toList.isEmpty = true := by simpa using hb
      first | rw [hb] | skip
      go_wp2_with fail
      go_meet
      exact ⟨_, rfl, HS2, HB⟩
    · obtain ⟨z1, z2, z3, K0, K1, K2, HZ⟩ := opt_yes HX2.out hb HL2.out HS.out (ba_lst (c.m.path))
      have HS2 := hide HZ
      first | rw [hb] | skip
      unfold AddsTo at K0 K1 K2
      clear HZ
      have hd : c.m.path.toList.isEmpty = false := by simpa using hb
      go_wp2_with fail
      go_meet
      exact ⟨_, rfl, HS2, HB⟩
  clear HS HB HX2 HL2
  obtain ⟨s, rfl, HS, HB⟩ := hcut
  have n4 := cell_of ((HB.out.block bc hwl).trans N.out) 4 rfl
  have n5 := cell_of ((HB.out.block bc hwl).trans N.out) 5 rfl
  go_upto_if 39 with fail
  clear n4 n5
  go_cut [0, 3] from 4 (fun _ v3 wx => ∃ s : ByteArray, v3 = .string s ∧ Hid (s = ⟨X3.toArray⟩) ∧ Hid (Below w0.heap.size w0 wx))
  case first =>
    have n4 := cell_of ((HB.out.block bc hwl).trans N.out) 4 rfl
    have n5 := cell_of ((HB.out.block bc hwl).trans N.out) 5 rfl
    rcases Bool.eq_false_or_eq_true (c.m.ca != 0) with hb | hb
    rotate_left
    · have HS2 := hide (HS.out.trans (congrArg (fun x : List UInt8 => (⟨x.toArray⟩ : ByteArray)) (opt_no HX3.out hb)))
      first | rw [hb] | skip
      go_wp2_with fail
      go_meet
      exact ⟨_, rfl, HS2, HB⟩
    · obtain ⟨u, hu⟩ : ∃ u : ByteArray, u = ⟨(comsL [(c.m.ca, c.m.cn)]).toArray⟩ := ⟨_, rfl⟩
      obtain ⟨z1, z2, z3, K0, K1, K2, HZ⟩ := opt_yes HX3.out hb HL3.out HS.out hu
      have HS2 := hide HZ
      first | rw [hb] | skip
      unfold AddsTo at K0 K1 K2
      clear HZ
      have CN := hide (fun W => comms_is [(c.m.ca, c.m.cn)] _ _ (rdComm1 W c.m.ca c.m.cn) (by simp))
      rw [← hu] at CN
      clear hu
      go_wp2_with fail
      refine (CN.out _).mono ?_
      rintro e w2 ⟨rfl, hb2⟩
      have HB2 := hide ((balloc HB.out _).trans (bless hb2 (balloc HB.out _).size))
      clear hb2 CN
      go_wp2_with fail
      go_meet
      exact ⟨_, rfl, HS2, HB2⟩
  clear HS HB HX3 HL3
  obtain ⟨s, rfl, HS, HB⟩ := hcut
  have n6 := cell_of ((HB.out.block bc hwl).trans N.out) 6 rfl
  go_upto_if 52 with fail
  clear n6
  go_cut [0, 3] from 4 (fun _ v3 wx => ∃ s : ByteArray, v3 = .string s ∧ Hid (s = ⟨X4.toArray⟩) ∧ Hid (Below w0.heap.size w0 wx))
  case first =>
    have n6 := cell_of ((HB.out.block bc hwl).trans N.out) 6 rfl
    rcases Bool.eq_false_or_eq_true (decide (0 ≤ c.s.pref)) with hb | hb
    rotate_left
    · have HS2 := hide (HS.out.trans (congrArg (fun x : List UInt8 => (⟨x.toArray⟩ : ByteArray)) (opt_no HX4.out hb)))
      have hd : ¬ 0 ≤ c.s.pref := of_decide_eq_false hb
      first | rw [hb] | skip
      go_wp2_with fail
      go_meet
      exact ⟨_, rfl, HS2, HB⟩
    · obtain ⟨u, hu⟩ : ∃ u : ByteArray, u = ⟨(Lib.itoa c.s.pref).toArray⟩ := ⟨_, rfl⟩
      obtain ⟨z1, z2, z3, K0, K1, K2, HZ⟩ := opt_yes HX4.out hb HL4.out HS.out hu
      have HS2 := hide HZ
      first | rw [hb] | skip
      unfold AddsTo at K0 K1 K2
      clear HZ
      have hd : 0 ≤ c.s.pref := of_decide_eq_true hb
      have CN := hide (fun W => Ax.refNumber_is c.s.pref u hd (by have := HF.out.pref; omega) hu W)
      clear hu
      go_wp2_with fail
      refine (CN.out _).mono ?_
      rintro e w2 ⟨rfl, hb2⟩
      have HB2 := hide (HB.out.trans (bless hb2 HB.out.size))
      clear hb2 CN
      go_wp2_with fail
      go_meet
      exact ⟨_, rfl, HS2, HB2⟩
  clear HS HB HX4 HL4
  obtain ⟨s, rfl, HS, HB⟩ := hcut
  have n7 := cell_of ((HB.out.block bc hwl).trans N.out) 7 rfl
  go_upto_if 64 with fail
  clear n7
  go_cut [0, 3] from 4 (fun _ v3 wx => ∃ s : ByteArray, v3 = .string s ∧ Hid (s = ⟨X5.toArray⟩) ∧ Hid (Below w0.heap.size w0 wx))
  case first =>
    have n7 := cell_of ((HB.out.block bc hwl).trans N.out) 7 rfl
    rcases Bool.eq_false_or_eq_true (decide (0 ≤ c.s.med)) with hb | hb
    rotate_left
    · have HS2 := hide (HS.out.trans (congrArg (fun x : List UInt8 => (⟨x.toArray⟩ : ByteArray)) (opt_no HX5.out hb)))
      have hd : ¬ 0 ≤ c.s.med := of_decide_eq_false hb
      first | rw [hb] | skip
      go_wp2_with fail
      go_meet
      exact ⟨_, rfl, HS2, HB⟩
    · obtain ⟨u, hu⟩ : ∃ u : ByteArray, u = ⟨(Lib.itoa c.s.med).toArray⟩ := ⟨_, rfl⟩
      obtain ⟨z1, z2, z3, K0, K1, K2, HZ⟩ := opt_yes HX5.out hb HL5.out HS.out hu
      have HS2 := hide HZ
      first | rw [hb] | skip
      unfold AddsTo at K0 K1 K2
      clear HZ
      have hd : 0 ≤ c.s.med := of_decide_eq_true hb
      have CN := hide (fun W => Ax.refNumber_is c.s.med u hd (by have := HF.out.med; omega) hu W)
      clear hu
      go_wp2_with fail
      refine (CN.out _).mono ?_
      rintro e w2 ⟨rfl, hb2⟩
      have HB2 := hide (HB.out.trans (bless hb2 HB.out.size))
      clear hb2 CN
      go_wp2_with fail
      go_meet
      exact ⟨_, rfl, HS2, HB2⟩
  clear HS HB HX5 HL5
  obtain ⟨s, rfl, HS, HB⟩ := hcut
  have n8 := cell_of ((HB.out.block bc hwl).trans N.out) 8 rfl
  go_upto_if 76 with fail
  clear n8
  go_cut [0, 3] from 4 (fun _ v3 wx => ∃ s : ByteArray, v3 = .string s ∧ Hid (s = ⟨X6.toArray⟩) ∧ Hid (Below w0.heap.size w0 wx))
  case first =>
    have n8 := cell_of ((HB.out.block bc hwl).trans N.out) 8 rfl
    rcases Bool.eq_false_or_eq_true (decide (0 ≤ c.s.org)) with hb | hb
    rotate_left
    · have HS2 := hide (HS.out.trans (congrArg (fun x : List UInt8 => (⟨x.toArray⟩ : ByteArray)) (opt_no HX6.out hb)))
      have hd : ¬ 0 ≤ c.s.org := of_decide_eq_false hb
      first | rw [hb] | skip
      go_wp2_with fail
      go_meet
      exact ⟨_, rfl, HS2, HB⟩
    · obtain ⟨z1, z2, z3, K0, K1, K2, HZ⟩ := opt_yes HX6.out hb HL6.out HS.out (ba_lst (orgT c.s.org))
      have HS2 := hide HZ
      first | rw [hb] | skip
      unfold AddsTo at K0 K1 K2
      clear HZ
      have hd : 0 ≤ c.s.org := of_decide_eq_true hb
      have ho : c.s.org = 0 ∨ c.s.org = 1 ∨ c.s.org = 2 := by have := HF.out.org; omega
      have HBx := hide (balloc HB.out (.cells #[.string ⟨#[105, 103, 112]⟩, .string ⟨#[101, 103, 112]⟩, .string ⟨#[110, 111, 110, 101]⟩] 9))
      obtain ⟨og, hog⟩ : ∃ x, c.s.org = x := ⟨_, rfl⟩
      have n8x := cell_of ((HBx.out.block bc hwl).trans N.out) 8 rfl
      have hbl : bc < wc.heap.size := heap_lt ((HB.out.block bc hwl).trans N.out)
      rw [hog] at ho hd n8 n8x K1
      clear hb n8
      rcases ho with rfl | rfl | rfl
      all_goals first | rw [show orgT 0 = ⟨#[105, 103, 112]⟩ from rfl] at K1 | rw [show orgT 1 = ⟨#[101, 103, 112]⟩ from rfl] at K1 | rw [show orgT 2 = ⟨#[110, 111, 110, 101]⟩ from rfl] at K1
      all_goals go_wp2_with fail
      all_goals go_meet
      all_goals exact ⟨_, rfl, HS2, HBx⟩
  clear HS HB HX6 HL6
  obtain ⟨s, rfl, HS, HB⟩ := hcut
  have n11 := cell_of ((HB.out.block bc hwl).trans N.out) 11 rfl
  go_upto_if 90 with fail
  clear n11
  go_cut [0, 3] from 4 (fun _ v3 wx => ∃ s : ByteArray, v3 = .string s ∧ Hid (s = ⟨X7.toArray⟩) ∧ Hid (Below w0.heap.size w0 wx))
  case first =>
    have n11 := cell_of ((HB.out.block bc hwl).trans N.out) 11 rfl
    rcases Bool.eq_false_or_eq_true c.s.clr with hb | hb
    rotate_left
    · have HS2 := hide (HS.out.trans (congrArg (fun x : List UInt8 => (⟨x.toArray⟩ : ByteArray)) (opt_no HX7.out hb)))
      first | rw [hb] | skip
      go_wp2_with fail
      go_meet
      exact ⟨_, rfl, HS2, HB⟩
    · obtain ⟨z1, K0, HZ⟩ := opt_one HX7.out hb HL7.out HS.out
      have HS2 := hide HZ
      first | rw [hb] | skip
      unfold AddsTo at K0
      clear HZ
      go_wp2_with fail
      go_meet
      exact ⟨_, rfl, HS2, HB⟩
  clear HS HB HX7 HL7
  obtain ⟨s, rfl, HS, HB⟩ := hcut
  have n10 := cell_of ((HB.out.block bc hwl).trans N.out) 10 rfl
  go_upto_if 97 with fail
  clear n10
  go_cut [0, 3] from 4 (fun _ v3 wx => ∃ s : ByteArray, v3 = .string s ∧ Hid (s = ⟨X8.toArray⟩) ∧ Hid (Below w0.heap.size w0 wx))
  case first =>
    have n10 := cell_of ((HB.out.block bc hwl).trans N.out) 10 rfl
    rcases Bool.eq_false_or_eq_true (decide (0 < c.s.del.length)) with hb | hb
    rotate_left
    · have HS2 := hide (HS.out.trans (congrArg (fun x : List UInt8 => (⟨x.toArray⟩ : ByteArray)) (opt_no HX8.out hb)))
      have hd : ¬ (0 : Int) < (c.s.del.length : Int) := by have := of_decide_eq_false hb; omega
      first | rw [hb] | skip
      go_wp2_with fail
      go_meet
      exact ⟨_, rfl, HS2, HB⟩
    · obtain ⟨u, hu⟩ : ∃ u : ByteArray, u = ⟨(comsL c.s.del).toArray⟩ := ⟨_, rfl⟩
      obtain ⟨z1, z2, z3, K0, K1, K2, HZ⟩ := opt_yes HX8.out hb HL8.out HS.out hu
      have HS2 := hide HZ
      first | rw [hb] | skip
      unfold AddsTo at K0 K1 K2
      clear HZ
      have hd : (0 : Int) < (c.s.del.length : Int) := by have := of_decide_eq_true hb; omega
      have CN := hide (fun W (h : Below w.heap.size w W) => comms_is c.s.del _ W (R2.out.below PrR.mono h) (by have := HF.out.del; omega))
      rw [← hu] at CN
      clear hu
      go_wp2_with fail
      refine (CN.out _ (bthen HA.out HB.out)).mono ?_
      rintro e w2 ⟨rfl, hb2⟩
      have HB2 := hide (HB.out.trans (bless hb2 HB.out.size))
      clear hb2 CN
      go_wp2_with fail
      go_meet
      exact ⟨_, rfl, HS2, HB2⟩
  clear HS HB HX8 HL8
  obtain ⟨s, rfl, HS, HB⟩ := hcut
  have n9 := cell_of ((HB.out.block bc hwl).trans N.out) 9 rfl
  go_upto_if 110 with fail
  clear n9
  go_cut [0, 3] from 4 (fun _ v3 wx => ∃ s : ByteArray, v3 = .string s ∧ Hid (s = ⟨X9.toArray⟩) ∧ Hid (Below w0.heap.size w0 wx))
  case first =>
    have n9 := cell_of ((HB.out.block bc hwl).trans N.out) 9 rfl
    rcases Bool.eq_false_or_eq_true (decide (0 < c.s.add.length)) with hb | hb
    rotate_left
    · have HS2 := hide (HS.out.trans (congrArg (fun x : List UInt8 => (⟨x.toArray⟩ : ByteArray)) (opt_no HX9.out hb)))
      have hd : ¬ (0 : Int) < (c.s.add.length : Int) := by have := of_decide_eq_false hb; omega
      first | rw [hb] | skip
      go_wp2_with fail
      go_meet
      exact ⟨_, rfl, HS2, HB⟩
    · obtain ⟨u, hu⟩ : ∃ u : ByteArray, u = ⟨(comsL c.s.add).toArray⟩ := ⟨_, rfl⟩
      obtain ⟨z1, z2, z3, K0, K1, K2, HZ⟩ := opt_yes HX9.out hb HL9.out HS.out hu
      have HS2 := hide HZ
      first | rw [hb] | skip
      unfold AddsTo at K0 K1 K2
      clear HZ
      have hd : (0 : Int) < (c.s.add.length : Int) := by have := of_decide_eq_true hb; omega
      have CN := hide (fun W (h : Below w.heap.size w W) => comms_is c.s.add _ W (R1.out.below PrR.mono h) (by have := HF.out.add; omega))
      rw [← hu] at CN
      clear hu
      go_wp2_with fail
      refine (CN.out _ (bthen HA.out HB.out)).mono ?_
      rintro e w2 ⟨rfl, hb2⟩
      have HB2 := hide (HB.out.trans (bless hb2 HB.out.size))
      clear hb2 CN
      go_wp2_with fail
      go_meet
      exact ⟨_, rfl, HS2, HB2⟩
  clear HS HB HX9 HL9
  obtain ⟨s, rfl, HS, HB⟩ := hcut
  have n12 := cell_of ((HB.out.block bc hwl).trans N.out) 12 rfl
  go_upto_if 123 with fail
  clear n12
  go_cut [0, 3] from 4 (fun _ v3 wx => ∃ s : ByteArray, v3 = .string s ∧ Hid (s = ⟨X10.toArray⟩) ∧ Hid (Below w0.heap.size w0 wx))
  case first =>
    have n12 := cell_of ((HB.out.block bc hwl).trans N.out) 12 rfl
    rcases Bool.eq_false_or_eq_true (decide (0 < c.s.prep.length)) with hb | hb
    rotate_left
    · have HS2 := hide (HS.out.trans (congrArg (fun x : List UInt8 => (⟨x.toArray⟩ : ByteArray)) (opt_no HX10.out hb)))
      have hd : ¬ (0 : Int) < (c.s.prep.length : Int) := by have := of_decide_eq_false hb; omega
      first | rw [hb] | skip
      go_wp2_with fail
      go_meet
      exact ⟨_, rfl, HS2, HB⟩
    · obtain ⟨u, hu⟩ : ∃ u : ByteArray, u = ⟨(Ar.Is.text c.s.prep).toArray⟩ := ⟨_, rfl⟩
      obtain ⟨z1, z2, z3, K0, K1, K2, HZ⟩ := opt_yes HX10.out hb HL10.out HS.out hu
      have HS2 := hide HZ
      first | rw [hb] | skip
      unfold AddsTo at K0 K1 K2
      clear HZ
      have hd : (0 : Int) < (c.s.prep.length : Int) := by have := of_decide_eq_true hb; omega
      have CN := hide (fun W (h : Below w.heap.size w W) => Ar.refText_is op kp c.s.prep u hu W (rd_slotI (R3.out.below InR.mono h)) (by have := HF.out.prep.1; omega))
      clear hu
      go_wp2_with fail
      refine (CN.out _ (bthen HA.out HB.out)).mono ?_
      rintro e w2 ⟨rfl, hb2⟩
      have HB2 := hide (HB.out.trans (bless hb2 HB.out.size))
      clear hb2 CN
      go_wp2_with fail
      go_meet
      exact ⟨_, rfl, HS2, HB2⟩
  clear HS HB HX10 HL10
  obtain ⟨s, rfl, HS, HB⟩ := hcut
  obtain ⟨z, hz⟩ : ∃ z : ByteArray, z = ⟨T.toArray⟩ := ⟨_, rfl⟩
  have K0 : AddsTo s ⟨#[32, 125, 10]⟩ z := by
    rw [HS.out, hz, ← HT.out]
    exact adds_to _ _ (by have := HLT.out; show _ + 3 ≤ _; omega)
  have HZ := hide hz
  unfold AddsTo at K0
  clear hz
  go_wp2_with fail
  go_ret
  exact ⟨by rw [← HZ.out]; rfl, bthen HA.out HB.out⟩
end Go.Proofs.YtpmmhmgojjlniaaGreatDoor
