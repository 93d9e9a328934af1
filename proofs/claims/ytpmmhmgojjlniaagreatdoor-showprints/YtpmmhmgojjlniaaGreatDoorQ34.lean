/- show's writer: set. -/
import Derived.Test.YtpmmhmgojjlniaaGreatDoorQ01
import Derived.Test.YtpmmhmgojjlniaaGreatDoorQ33
namespace Go.Proofs.YtpmmhmgojjlniaaGreatDoor
open Go.RowKit Go.Sort
def orgT (n : Int) : ByteArray := if n = 0 then ⟨#[105, 103, 112]⟩ else if n = 1 then ⟨#[101, 103, 112]⟩ else ⟨#[110, 111, 110, 101]⟩
def orgB (d : Nat) (n : Int) : List UInt8 := if n = -1 then [] else lineB d (sayT [⟨#[115, 101, 116, 32, 111, 114, 105, 103, 105, 110]⟩, orgT n])
def clrB (d : Nat) (b : Bool) : List UInt8 := if b = true then lineB d (sayT [⟨#[115, 101, 116, 32, 99, 111, 109, 109, 117, 110, 105, 116, 121, 32, 99, 108, 101, 97, 114]⟩]) else []
/-- What a clause sets, as it is written. -/
def setB (d : Nat) (s : Se) : List UInt8 := numB d ⟨#[115, 101, 116, 32, 112, 114, 101, 102]⟩ s.pref ++ numB d ⟨#[115, 101, 116, 32, 109, 101, 100]⟩ s.med ++ orgB d s.org ++ clrB d s.clr ++ rowB d ⟨#[115, 101, 116, 32, 99, 111, 109, 109, 117, 110, 105, 116, 121, 32, 100, 101, 108]⟩ s.del commT ++ rowB d ⟨#[115, 101, 116, 32, 99, 111, 109, 109, 117, 110, 105, 116, 121, 32, 97, 100, 100]⟩ s.add commT ++ rowB d ⟨#[115, 101, 116, 32, 112, 114, 101, 112, 101, 110, 100]⟩ s.prep numT
theorem numB_len (d : Nat) (x : ByteArray) (n : Int) : (numB d x n).length ≤ d + (sayT [x, numT n]).size + 1 := by
  unfold numB
  split
  · exact Nat.zero_le _
  · rw [lineB_len]; exact Nat.le_refl _
theorem orgB_len (d : Nat) (n : Int) : (orgB d n).length ≤ d + (sayT [⟨#[115, 101, 116, 32, 111, 114, 105, 103, 105, 110]⟩, orgT n]).size + 1 := by
  unfold orgB
  split
  · exact Nat.zero_le _
  · rw [lineB_len]; exact Nat.le_refl _
theorem clrB_len (d : Nat) (b : Bool) : (clrB d b).length ≤ d + (sayT [⟨#[115, 101, 116, 32, 99, 111, 109, 109, 117, 110, 105, 116, 121, 32, 99, 108, 101, 97, 114]⟩]).size + 1 := by
  unfold clrB
  split
  · rw [lineB_len]; exact Nat.le_refl _
  · exact Nat.zero_le _
theorem rowB_len {α : Type} (d : Nat) (x : ByteArray) (l : List α) (key : α → ByteArray) : (rowB d x l key).length ≤ d + (sayT (x :: l.map key)).size + 1 := by
  cases l with
  | nil => exact Nat.zero_le _
  | cons a l => show (lineB d _).length ≤ _; rw [lineB_len]; exact Nat.le_refl _
/-- No line of what a clause sets is too long. -/
structure SetSz (s : Se) : Prop where
  pref : (sayT [⟨#[115, 101, 116, 32, 112, 114, 101, 102]⟩, numT s.pref]).size ≤ 100000
  med : (sayT [⟨#[115, 101, 116, 32, 109, 101, 100]⟩, numT s.med]).size ≤ 100000
  org : (sayT [⟨#[115, 101, 116, 32, 111, 114, 105, 103, 105, 110]⟩, orgT s.org]).size ≤ 100000
  clr : (sayT [⟨#[115, 101, 116, 32, 99, 111, 109, 109, 117, 110, 105, 116, 121, 32, 99, 108, 101, 97, 114]⟩]).size ≤ 100000
  del : (sayT (⟨#[115, 101, 116, 32, 99, 111, 109, 109, 117, 110, 105, 116, 121, 32, 100, 101, 108]⟩ :: s.del.map commT)).size ≤ 100000
  add : (sayT (⟨#[115, 101, 116, 32, 99, 111, 109, 109, 117, 110, 105, 116, 121, 32, 97, 100, 100]⟩ :: s.add.map commT)).size ≤ 100000
  prep : (sayT (⟨#[115, 101, 116, 32, 112, 114, 101, 112, 101, 110, 100]⟩ :: s.prep.map numT)).size ≤ 100000
set_option maxHeartbeats 8000000 in
set_option maxRecDepth 100000 in
theorem set_is (WB w : World) (b d : Nat) (l : List UInt8) (s : Se) (va vd vp : Value) (hW : Below WB.heap.size WB w) (h1 : Rd WB 2 PrR va s.add) (h2 : Rd WB 2 PrR vd s.del) (h3 : Rd WB 1 InR vp s.prep) (ht : Tab WB) (hp : -1 ≤ s.pref ∧ s.pref ≤ 1048576) (hm : -1 ≤ s.med ∧ s.med ≤ 1048576) (hq : ∀ n ∈ s.prep, -1 ≤ n ∧ n ≤ 1048576) (hn : s.add.length ≤ 900 ∧ s.del.length ≤ 900 ∧ s.prep.length ≤ 900) (hs : SetSz s) (hd : d ≤ 10)
    (h : IsWr WB.heap.size b (Lib.byteCells l) d w) (hz : l.length ≤ 100000000) :
    Calls Tryz.prog 202 #[.pointer (some ⟨b, 0, none⟩), .agg #[.int .i64 s.pref, .int .i64 s.med, .int .i64 s.org, va, vd, .bool s.clr, vp]] w fun e w' => e = .returned (.tuple #[]) ∧ IsWr WB.heap.size b (Lib.byteCells (l ++ setB d s)) d w' ∧ Below WB.heap.size w w' ∧ KeptB b w w' := by
  obtain ⟨oa, ka, rfl⟩ := h1.slice
  obtain ⟨od, kd, rfl⟩ := h2.slice
  obtain ⟨op, kp, rfl⟩ := h3.slice
  obtain ⟨pref, med, org, add, del, clr, prep⟩ := s
  obtain ⟨s1, s2, s3, s4, s5, s6, s7⟩ := hs
  simp only at h1 h2 h3 hp hm hq hn s1 s2 s3 s4 s5 s6 s7 ⊢
  have l1 := numB_len d ⟨#[115, 101, 116, 32, 112, 114, 101, 102]⟩ pref
  have l2 := numB_len d ⟨#[115, 101, 116, 32, 109, 101, 100]⟩ med
  have l3 := orgB_len d org
  have l4 := clrB_len d clr
  have l5 := rowB_len d ⟨#[115, 101, 116, 32, 99, 111, 109, 109, 117, 110, 105, 116, 121, 32, 100, 101, 108]⟩ del commT
  have l6 := rowB_len d ⟨#[115, 101, 116, 32, 99, 111, 109, 109, 117, 110, 105, 116, 121, 32, 97, 100, 100]⟩ add commT
  have l7 := rowB_len d ⟨#[115, 101, 116, 32, 112, 114, 101, 112, 101, 110, 100]⟩ prep numT
  have HE : Hid (setB d ⟨pref, med, org, add, del, clr, prep⟩ = numB d ⟨#[115, 101, 116, 32, 112, 114, 101, 102]⟩ pref ++ numB d ⟨#[115, 101, 116, 32, 109, 101, 100]⟩ med ++ orgB d org ++ clrB d clr ++ rowB d ⟨#[115, 101, 116, 32, 99, 111, 109, 109, 117, 110, 105, 116, 121, 32, 100, 101, 108]⟩ del commT ++ rowB d ⟨#[115, 101, 116, 32, 99, 111, 109, 109, 117, 110, 105, 116, 121, 32, 97, 100, 100]⟩ add commT ++ rowB d ⟨#[115, 101, 116, 32, 112, 114, 101, 112, 101, 110, 100]⟩ prep numT) := rfl
  have HBW := hide hW
  have HT := hide ht
  have HR1 := hide h1
  have HR2 := hide h2
  have HR3 := hide h3
  have HQ := hide hq
  have hlt := h.depth.2.2.1
  have hnx : w.heap.size ≠ b := by omega
  have A1 := balloc (brefl w) (.cells #[.int .i64 pref, .int .i64 med, .int .i64 org, .slice oa add.length ka, .slice od del.length kd, .bool clr, .slice op prep.length kp] 59)
  have N0 := hide (heap_new w #[.int .i64 pref, .int .i64 med, .int .i64 org, .slice oa add.length ka, .slice od del.length kd, .bool clr, .slice op prep.length kp] 59)
  have IS0 := hide (h.below A1)
  have B0 := hide (below_less A1 hW.size)
  have K0 := hide ((KeptB.refl b w).below A1)
  have hBW : WB.heap.size ≤ w.heap.size := hW.size
  clear h hW h1 h2 h3 ht hq hlt A1
  go_enter Tryz.func202, Tryz.ntmps202
  go_upto_region 1 with fail
  obtain ⟨bx, hbx⟩ : ∃ x, w.heap.size = x := ⟨_, rfl⟩
  rw [hbx] at N0 hnx ⊢
  generalize w.alloc (.cells #[.int .i64 pref, .int .i64 med, .int .i64 org, .slice oa add.length ka, .slice od del.length kd, .bool clr, .slice op prep.length kp] 59) = w0 at *
  have hBs0 : WB.heap.size ≤ w0.heap.size := Nat.le_trans hBW B0.out.size
  have n0 := cell_of N0.out 0 rfl
  have C := hide (number_is WB.heap.size b l d ⟨#[115, 101, 116, 32, 112, 114, 101, 102]⟩ pref hp.1 hp.2 w0 (Tab.on HT.out (HBW.out.trans B0.out)) IS0.out (by (try simp only [List.length_append]); omega) hBs0)
  go_wp2_with fail
  refine Calls.mono (P := Tryz.prog) (f := 252) C.out ?_
  rintro e w1 ⟨rfl, h6, hb6, hk6⟩
  have N1 := hide (hk6 _ _ _ _ N0.out (by decide) hnx)
  have IS1 := hide h6
  have B1 := hide (B0.out.trans hb6)
  have K1 := hide (K0.out.trans hk6)
  clear h6 hb6 hk6 C n0
  have hBs1 : WB.heap.size ≤ w1.heap.size := Nat.le_trans hBW B1.out.size
  have n1 := cell_of N1.out 1 rfl
  have C := hide (number_is WB.heap.size b _ d ⟨#[115, 101, 116, 32, 109, 101, 100]⟩ med hm.1 hm.2 w1 (Tab.on HT.out (HBW.out.trans B1.out)) IS1.out (by (try simp only [List.length_append]); omega) hBs1)
  go_wp2_with fail
  refine Calls.mono (P := Tryz.prog) (f := 252) C.out ?_
  rintro e w2 ⟨rfl, h6, hb6, hk6⟩
  have N2 := hide (hk6 _ _ _ _ N1.out (by decide) hnx)
  have IS2 := hide h6
  have B2 := hide (B1.out.trans hb6)
  have K2 := hide (K1.out.trans hk6)
  clear h6 hb6 hk6 C n1
  have n2 := cell_of N2.out 2 rfl
  by_cases h0 : org = -1
  · have HO : Hid (orgB d org = []) := if_pos h0
    subst h0
    have n5 := cell_of N2.out 5 rfl
    cases clr with
    | false =>
      have HCL : Hid (clrB d false = []) := rfl
      have hBs2 : WB.heap.size ≤ w2.heap.size := Nat.le_trans hBW B2.out.size
      have n4 := cell_of N2.out 4 rfl
      have C := hide (rowComm_is WB.heap.size b _ d ⟨#[115, 101, 116, 32, 99, 111, 109, 109, 117, 110, 105, 116, 121, 32, 100, 101, 108]⟩ (.slice od del.length kd) del w2 (commText_key w2 (Tab.on HT.out (HBW.out.trans B2.out)) (fun _ => True)) IS2.out (HR2.out.below PrR.mono (HBW.out.trans B2.out)) (fun _ _ => trivial) hn.2.1 (by (try simp only [List.length_append]); omega) hBs2)
      go_wp2_with fail
      refine Calls.mono (P := Tryz.prog) (f := 254) C.out ?_
      rintro e w3 ⟨rfl, h6, hb6, hk6⟩
      have N3 := hide (hk6 _ _ _ _ N2.out (by decide) hnx)
      have IS3 := hide h6
      have B3 := hide (B2.out.trans hb6)
      have K3 := hide (K2.out.trans hk6)
      clear h6 hb6 hk6 C n4
      have hBs3 : WB.heap.size ≤ w3.heap.size := Nat.le_trans hBW B3.out.size
      have n3 := cell_of N3.out 3 rfl
      have C := hide (rowComm_is WB.heap.size b _ d ⟨#[115, 101, 116, 32, 99, 111, 109, 109, 117, 110, 105, 116, 121, 32, 97, 100, 100]⟩ (.slice oa add.length ka) add w3 (commText_key w3 (Tab.on HT.out (HBW.out.trans B3.out)) (fun _ => True)) IS3.out (HR1.out.below PrR.mono (HBW.out.trans B3.out)) (fun _ _ => trivial) hn.1 (by (try simp only [List.length_append]); omega) hBs3)
      go_wp2_with fail
      refine Calls.mono (P := Tryz.prog) (f := 254) C.out ?_
      rintro e w4 ⟨rfl, h6, hb6, hk6⟩
      have N4 := hide (hk6 _ _ _ _ N3.out (by decide) hnx)
      have IS4 := hide h6
      have B4 := hide (B3.out.trans hb6)
      have K4 := hide (K3.out.trans hk6)
      clear h6 hb6 hk6 C n3
      have hBs4 : WB.heap.size ≤ w4.heap.size := Nat.le_trans hBW B4.out.size
      have n6 := cell_of N4.out 6 rfl
      have C := hide (rowint_is WB.heap.size b _ d ⟨#[115, 101, 116, 32, 112, 114, 101, 112, 101, 110, 100]⟩ (.slice op prep.length kp) prep w4 (itoa_key w4 (Tab.on HT.out (HBW.out.trans B4.out))) IS4.out (HR3.out.below InR.mono (HBW.out.trans B4.out)) HQ.out hn.2.2 (by (try simp only [List.length_append]); omega) hBs4)
      go_wp2_with fail
      refine Calls.mono (P := Tryz.prog) (f := 255) C.out ?_
      rintro e w5 ⟨rfl, h6, hb6, hk6⟩
      have N5 := hide (hk6 _ _ _ _ N4.out (by decide) hnx)
      have IS5 := hide h6
      have B5 := hide (B4.out.trans hb6)
      have K5 := hide (K4.out.trans hk6)
      clear h6 hb6 hk6 C n6
      go_wp2_with fail
      go_end0
      exact ⟨rfl, by rw [HE.out, HO.out, HCL.out]; simp only [List.append_assoc, List.nil_append] at *; simpa only [List.append_assoc, List.nil_append] using IS5.out, B5.out, K5.out⟩
    | true =>
      have HCL : Hid (clrB d true = lineB d (sayT [⟨#[115, 101, 116, 32, 99, 111, 109, 109, 117, 110, 105, 116, 121, 32, 99, 108, 101, 97, 114]⟩])) := rfl
      have hll := lineB_len d (sayT [⟨#[115, 101, 116, 32, 99, 111, 109, 109, 117, 110, 105, 116, 121, 32, 99, 108, 101, 97, 114]⟩])
      have hBs2 : WB.heap.size ≤ w2.heap.size := Nat.le_trans hBW B2.out.size
      have C := hide (sayRow [⟨#[115, 101, 116, 32, 99, 111, 109, 109, 117, 110, 105, 116, 121, 32, 99, 108, 101, 97, 114]⟩] WB.heap.size b _ d w2 IS2.out (by simp) (by (try simp only [List.length_append]); omega) hBs2)
      go_wp2_with fail
      refine Calls.mono (P := Tryz.prog) (f := 131) C.out ?_
      rintro e w3 ⟨rfl, h6, hb6, hk6⟩
      have N3 := hide (hk6 _ _ _ _ N2.out (by decide) hnx)
      have IS3 := hide h6
      have B3 := hide (B2.out.trans hb6)
      have K3 := hide (K2.out.trans hk6)
      clear h6 hb6 hk6 C
      have hBs3 : WB.heap.size ≤ w3.heap.size := Nat.le_trans hBW B3.out.size
      have n4 := cell_of N3.out 4 rfl
      have C := hide (rowComm_is WB.heap.size b _ d ⟨#[115, 101, 116, 32, 99, 111, 109, 109, 117, 110, 105, 116, 121, 32, 100, 101, 108]⟩ (.slice od del.length kd) del w3 (commText_key w3 (Tab.on HT.out (HBW.out.trans B3.out)) (fun _ => True)) IS3.out (HR2.out.below PrR.mono (HBW.out.trans B3.out)) (fun _ _ => trivial) hn.2.1 (by (try simp only [List.length_append]); omega) hBs3)
      go_wp2_with fail
      refine Calls.mono (P := Tryz.prog) (f := 254) C.out ?_
      rintro e w4 ⟨rfl, h6, hb6, hk6⟩
      have N4 := hide (hk6 _ _ _ _ N3.out (by decide) hnx)
      have IS4 := hide h6
      have B4 := hide (B3.out.trans hb6)
      have K4 := hide (K3.out.trans hk6)
      clear h6 hb6 hk6 C n4
      have hBs4 : WB.heap.size ≤ w4.heap.size := Nat.le_trans hBW B4.out.size
      have n3 := cell_of N4.out 3 rfl
      have C := hide (rowComm_is WB.heap.size b _ d ⟨#[115, 101, 116, 32, 99, 111, 109, 109, 117, 110, 105, 116, 121, 32, 97, 100, 100]⟩ (.slice oa add.length ka) add w4 (commText_key w4 (Tab.on HT.out (HBW.out.trans B4.out)) (fun _ => True)) IS4.out (HR1.out.below PrR.mono (HBW.out.trans B4.out)) (fun _ _ => trivial) hn.1 (by (try simp only [List.length_append]); omega) hBs4)
      go_wp2_with fail
      refine Calls.mono (P := Tryz.prog) (f := 254) C.out ?_
      rintro e w5 ⟨rfl, h6, hb6, hk6⟩
      have N5 := hide (hk6 _ _ _ _ N4.out (by decide) hnx)
      have IS5 := hide h6
      have B5 := hide (B4.out.trans hb6)
      have K5 := hide (K4.out.trans hk6)
      clear h6 hb6 hk6 C n3
      have hBs5 : WB.heap.size ≤ w5.heap.size := Nat.le_trans hBW B5.out.size
      have n6 := cell_of N5.out 6 rfl
      have C := hide (rowint_is WB.heap.size b _ d ⟨#[115, 101, 116, 32, 112, 114, 101, 112, 101, 110, 100]⟩ (.slice op prep.length kp) prep w5 (itoa_key w5 (Tab.on HT.out (HBW.out.trans B5.out))) IS5.out (HR3.out.below InR.mono (HBW.out.trans B5.out)) HQ.out hn.2.2 (by (try simp only [List.length_append]); omega) hBs5)
      go_wp2_with fail
      refine Calls.mono (P := Tryz.prog) (f := 255) C.out ?_
      rintro e w6 ⟨rfl, h6, hb6, hk6⟩
      have N6 := hide (hk6 _ _ _ _ N5.out (by decide) hnx)
      have IS6 := hide h6
      have B6 := hide (B5.out.trans hb6)
      have K6 := hide (K5.out.trans hk6)
      clear h6 hb6 hk6 C n6
      go_wp2_with fail
      go_end0
      exact ⟨rfl, by rw [HE.out, HO.out, HCL.out]; simp only [List.append_assoc, List.nil_append] at *; simpa only [List.append_assoc, List.nil_append] using IS6.out, B6.out, K6.out⟩
  · have HO : Hid (orgB d org = lineB d (sayT [⟨#[115, 101, 116, 32, 111, 114, 105, 103, 105, 110]⟩, orgT org])) := if_neg h0
    have hlo := lineB_len d (sayT [⟨#[115, 101, 116, 32, 111, 114, 105, 103, 105, 110]⟩, orgT org])
    have HON := hide (fun W => originName_is org W)
    have HOT : Hid ((if org = 0 then (⟨#[105, 103, 112]⟩ : ByteArray) else if org = 1 then ⟨#[101, 103, 112]⟩ else ⟨#[110, 111, 110, 101]⟩) = orgT org) := rfl
    rw [HOT.out] at HON
    go_wp2_with (refine (HON.out _).mono ?_; rintro e w2 ⟨rfl, rfl⟩)
    have hBs2 : WB.heap.size ≤ w2.heap.size := Nat.le_trans hBW B2.out.size
    have C := hide (sayRow [⟨#[115, 101, 116, 32, 111, 114, 105, 103, 105, 110]⟩, orgT org] WB.heap.size b _ d _ IS2.out (by simp) (by (try simp only [List.length_append]); omega) (Nat.le_trans hBW B2.out.size))
    go_wp2_with fail
    refine Calls.mono (P := Tryz.prog) (f := 131) C.out ?_
    rintro e w3 ⟨rfl, h6, hb6, hk6⟩
    have N3 := hide (hk6 _ _ _ _ N2.out (by decide) hnx)
    have IS3 := hide h6
    have B3 := hide (B2.out.trans hb6)
    have K3 := hide (K2.out.trans hk6)
    clear h6 hb6 hk6 C
    have n5 := cell_of N3.out 5 rfl
    cases clr with
    | false =>
      have HCL : Hid (clrB d false = []) := rfl
      have hBs3 : WB.heap.size ≤ w3.heap.size := Nat.le_trans hBW B3.out.size
      have n4 := cell_of N3.out 4 rfl
      have C := hide (rowComm_is WB.heap.size b _ d ⟨#[115, 101, 116, 32, 99, 111, 109, 109, 117, 110, 105, 116, 121, 32, 100, 101, 108]⟩ (.slice od del.length kd) del w3 (commText_key w3 (Tab.on HT.out (HBW.out.trans B3.out)) (fun _ => True)) IS3.out (HR2.out.below PrR.mono (HBW.out.trans B3.out)) (fun _ _ => trivial) hn.2.1 (by (try simp only [List.length_append]); omega) hBs3)
      go_wp2_with fail
      refine Calls.mono (P := Tryz.prog) (f := 254) C.out ?_
      rintro e w4 ⟨rfl, h6, hb6, hk6⟩
      have N4 := hide (hk6 _ _ _ _ N3.out (by decide) hnx)
      have IS4 := hide h6
      have B4 := hide (B3.out.trans hb6)
      have K4 := hide (K3.out.trans hk6)
      clear h6 hb6 hk6 C n4
      have hBs4 : WB.heap.size ≤ w4.heap.size := Nat.le_trans hBW B4.out.size
      have n3 := cell_of N4.out 3 rfl
      have C := hide (rowComm_is WB.heap.size b _ d ⟨#[115, 101, 116, 32, 99, 111, 109, 109, 117, 110, 105, 116, 121, 32, 97, 100, 100]⟩ (.slice oa add.length ka) add w4 (commText_key w4 (Tab.on HT.out (HBW.out.trans B4.out)) (fun _ => True)) IS4.out (HR1.out.below PrR.mono (HBW.out.trans B4.out)) (fun _ _ => trivial) hn.1 (by (try simp only [List.length_append]); omega) hBs4)
      go_wp2_with fail
      refine Calls.mono (P := Tryz.prog) (f := 254) C.out ?_
      rintro e w5 ⟨rfl, h6, hb6, hk6⟩
      have N5 := hide (hk6 _ _ _ _ N4.out (by decide) hnx)
      have IS5 := hide h6
      have B5 := hide (B4.out.trans hb6)
      have K5 := hide (K4.out.trans hk6)
      clear h6 hb6 hk6 C n3
      have hBs5 : WB.heap.size ≤ w5.heap.size := Nat.le_trans hBW B5.out.size
      have n6 := cell_of N5.out 6 rfl
      have C := hide (rowint_is WB.heap.size b _ d ⟨#[115, 101, 116, 32, 112, 114, 101, 112, 101, 110, 100]⟩ (.slice op prep.length kp) prep w5 (itoa_key w5 (Tab.on HT.out (HBW.out.trans B5.out))) IS5.out (HR3.out.below InR.mono (HBW.out.trans B5.out)) HQ.out hn.2.2 (by (try simp only [List.length_append]); omega) hBs5)
      go_wp2_with fail
      refine Calls.mono (P := Tryz.prog) (f := 255) C.out ?_
      rintro e w6 ⟨rfl, h6, hb6, hk6⟩
      have N6 := hide (hk6 _ _ _ _ N5.out (by decide) hnx)
      have IS6 := hide h6
      have B6 := hide (B5.out.trans hb6)
      have K6 := hide (K5.out.trans hk6)
      clear h6 hb6 hk6 C n6
      go_wp2_with fail
      go_end0
      exact ⟨rfl, by rw [HE.out, HO.out, HCL.out]; simp only [List.append_assoc, List.nil_append] at *; simpa only [List.append_assoc, List.nil_append] using IS6.out, B6.out, K6.out⟩
    | true =>
      have HCL : Hid (clrB d true = lineB d (sayT [⟨#[115, 101, 116, 32, 99, 111, 109, 109, 117, 110, 105, 116, 121, 32, 99, 108, 101, 97, 114]⟩])) := rfl
      have hll := lineB_len d (sayT [⟨#[115, 101, 116, 32, 99, 111, 109, 109, 117, 110, 105, 116, 121, 32, 99, 108, 101, 97, 114]⟩])
      have hBs3 : WB.heap.size ≤ w3.heap.size := Nat.le_trans hBW B3.out.size
      have C := hide (sayRow [⟨#[115, 101, 116, 32, 99, 111, 109, 109, 117, 110, 105, 116, 121, 32, 99, 108, 101, 97, 114]⟩] WB.heap.size b _ d w3 IS3.out (by simp) (by (try simp only [List.length_append]); omega) hBs3)
      go_wp2_with fail
      refine Calls.mono (P := Tryz.prog) (f := 131) C.out ?_
      rintro e w4 ⟨rfl, h6, hb6, hk6⟩
      have N4 := hide (hk6 _ _ _ _ N3.out (by decide) hnx)
      have IS4 := hide h6
      have B4 := hide (B3.out.trans hb6)
      have K4 := hide (K3.out.trans hk6)
      clear h6 hb6 hk6 C
      have hBs4 : WB.heap.size ≤ w4.heap.size := Nat.le_trans hBW B4.out.size
      have n4 := cell_of N4.out 4 rfl
      have C := hide (rowComm_is WB.heap.size b _ d ⟨#[115, 101, 116, 32, 99, 111, 109, 109, 117, 110, 105, 116, 121, 32, 100, 101, 108]⟩ (.slice od del.length kd) del w4 (commText_key w4 (Tab.on HT.out (HBW.out.trans B4.out)) (fun _ => True)) IS4.out (HR2.out.below PrR.mono (HBW.out.trans B4.out)) (fun _ _ => trivial) hn.2.1 (by (try simp only [List.length_append]); omega) hBs4)
      go_wp2_with fail
      refine Calls.mono (P := Tryz.prog) (f := 254) C.out ?_
      rintro e w5 ⟨rfl, h6, hb6, hk6⟩
      have N5 := hide (hk6 _ _ _ _ N4.out (by decide) hnx)
      have IS5 := hide h6
      have B5 := hide (B4.out.trans hb6)
      have K5 := hide (K4.out.trans hk6)
      clear h6 hb6 hk6 C n4
      have hBs5 : WB.heap.size ≤ w5.heap.size := Nat.le_trans hBW B5.out.size
      have n3 := cell_of N5.out 3 rfl
      have C := hide (rowComm_is WB.heap.size b _ d ⟨#[115, 101, 116, 32, 99, 111, 109, 109, 117, 110, 105, 116, 121, 32, 97, 100, 100]⟩ (.slice oa add.length ka) add w5 (commText_key w5 (Tab.on HT.out (HBW.out.trans B5.out)) (fun _ => True)) IS5.out (HR1.out.below PrR.mono (HBW.out.trans B5.out)) (fun _ _ => trivial) hn.1 (by (try simp only [List.length_append]); omega) hBs5)
      go_wp2_with fail
      refine Calls.mono (P := Tryz.prog) (f := 254) C.out ?_
      rintro e w6 ⟨rfl, h6, hb6, hk6⟩
      have N6 := hide (hk6 _ _ _ _ N5.out (by decide) hnx)
      have IS6 := hide h6
      have B6 := hide (B5.out.trans hb6)
      have K6 := hide (K5.out.trans hk6)
      clear h6 hb6 hk6 C n3
      have hBs6 : WB.heap.size ≤ w6.heap.size := Nat.le_trans hBW B6.out.size
      have n6 := cell_of N6.out 6 rfl
      have C := hide (rowint_is WB.heap.size b _ d ⟨#[115, 101, 116, 32, 112, 114, 101, 112, 101, 110, 100]⟩ (.slice op prep.length kp) prep w6 (itoa_key w6 (Tab.on HT.out (HBW.out.trans B6.out))) IS6.out (HR3.out.below InR.mono (HBW.out.trans B6.out)) HQ.out hn.2.2 (by (try simp only [List.length_append]); omega) hBs6)
      go_wp2_with fail
      refine Calls.mono (P := Tryz.prog) (f := 255) C.out ?_
      rintro e w7 ⟨rfl, h6, hb6, hk6⟩
      have N7 := hide (hk6 _ _ _ _ N6.out (by decide) hnx)
      have IS7 := hide h6
      have B7 := hide (B6.out.trans hb6)
      have K7 := hide (K6.out.trans hk6)
      clear h6 hb6 hk6 C n6
      go_wp2_with fail
      go_end0
      exact ⟨rfl, by rw [HE.out, HO.out, HCL.out]; simp only [List.append_assoc] at *; simpa only [List.append_assoc, List.nil_append] using IS7.out, B7.out, K7.out⟩
end Go.Proofs.YtpmmhmgojjlniaaGreatDoor
