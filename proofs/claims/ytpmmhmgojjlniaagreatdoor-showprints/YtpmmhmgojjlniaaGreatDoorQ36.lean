/- show's writer: match. -/
import Derived.Test.YtpmmhmgojjlniaaGreatDoorQ15
import Derived.Test.YtpmmhmgojjlniaaGreatDoorQ16
import Derived.Test.YtpmmhmgojjlniaaGreatDoorQ34
import Derived.Test.YtpmmhmgojjlniaaGreatDoorQ35
namespace Go.Proofs.YtpmmhmgojjlniaaGreatDoor
open Go.RowKit Go.Sort
theorem neqCm (a b c d : Int) (w : World) : (binOp .neq 53 (.agg #[.int .i64 a, .int .i64 b]) (.agg #[.int .i64 c, .int .i64 d])).run Tryz.prog w = .ok (.bool (!(a == c && b == d))) w := by
  have hS : Tryz.prog.underlying 53 = some (.struct (Tryz.prog.fieldsOf 53)) := by kernel_rfl
  have hp : Tryz.prog.stoodInHeld 53 = false := by kernel_rfl
  rw [run_neq_struct, show (10000 : Nat) = 9999 + 1 from rfl, run_equalIn_agg w 9999 53 _ _ hS hp]
  simp only [Program.fieldsOf, Tryz.underlying53]
  go_simp
  by_cases h1 : a = c <;> by_cases h2 : b = d <;> simp [h1, h2]
def inQ (s : ByteArray) : ByteArray := ⟨#[34]⟩ ++ s ++ ⟨#[34]⟩
def mlB (d : Nat) (s : ByteArray) : List UInt8 := if s = ⟨#[]⟩ then [] else lineB d (sayT [⟨#[109, 97, 116, 99, 104, 32, 112, 114, 101, 102, 105, 120]⟩, s])
def mpB (d : Nat) (s : ByteArray) : List UInt8 := if s = ⟨#[]⟩ then [] else lineB d (sayT [⟨#[109, 97, 116, 99, 104, 32, 112, 97, 116, 104]⟩, inQ s])
def mcB (d : Nat) (a n : Int) : List UInt8 := if (a == 0 && n == 0) = true then [] else lineB d (sayT [⟨#[109, 97, 116, 99, 104, 32, 99, 111, 109, 109, 117, 110, 105, 116, 121]⟩, commT (a, n)])
/-- What a clause asks for, as it is written. -/
def matchB (d : Nat) (m : Mt) : List UInt8 := mlB d m.list ++ mpB d m.path ++ mcB d m.ca m.cn
structure MatchSz (m : Mt) : Prop where
  list : (sayT [⟨#[109, 97, 116, 99, 104, 32, 112, 114, 101, 102, 105, 120]⟩, m.list]).size ≤ 100000
  path : (sayT [⟨#[109, 97, 116, 99, 104, 32, 112, 97, 116, 104]⟩, inQ m.path]).size ≤ 100000
  comm : (sayT [⟨#[109, 97, 116, 99, 104, 32, 99, 111, 109, 109, 117, 110, 105, 116, 121]⟩, commT (m.ca, m.cn)]).size ≤ 100000
  p : m.path.size ≤ 100000
set_option maxHeartbeats 8000000 in
set_option maxRecDepth 100000 in
theorem match_is (WB w : World) (b d : Nat) (l : List UInt8) (m : Mt) (hW : Below WB.heap.size WB w) (ht : Tab WB) (hs : MatchSz m) (hd : d ≤ 10)
    (h : IsWr WB.heap.size b (Lib.byteCells l) d w) (hz : l.length ≤ 100000000) :
    Calls Tryz.prog 201 #[.pointer (some ⟨b, 0, none⟩), .agg #[.string m.list, .string m.path, .int .i64 m.ca, .int .i64 m.cn]] w fun e w' => e = .returned (.tuple #[]) ∧ IsWr WB.heap.size b (Lib.byteCells (l ++ matchB d m)) d w' ∧ Below WB.heap.size w w' ∧ KeptB b w w' := by
  obtain ⟨li, pa, ca, cn⟩ := m
  obtain ⟨s1, s2, s3, s4⟩ := hs
  simp only at s1 s2 s3 s4 ⊢
  have l1 := lineB_len d (sayT [⟨#[109, 97, 116, 99, 104, 32, 112, 114, 101, 102, 105, 120]⟩, li])
  have l2 := lineB_len d (sayT [⟨#[109, 97, 116, 99, 104, 32, 112, 97, 116, 104]⟩, inQ pa])
  have HE : Hid (matchB d ⟨li, pa, ca, cn⟩ = mlB d li ++ mpB d pa ++ mcB d ca cn) := rfl
  have HBW := hide hW
  have HT := hide ht
  have hq := neqCm
  have hov1 : ¬ 9223372036854775807 < 1 + pa.size := by omega
  have hov2 : ¬ 9223372036854775807 < 1 + pa.size + 1 := by omega
  have hlt := h.depth.2.2.1
  have hnx : w.heap.size ≠ b := by omega
  have A1 := balloc (brefl w) (.cells #[.string li, .string pa, .int .i64 ca, .int .i64 cn] 55)
  have N0 := hide (heap_new w #[.string li, .string pa, .int .i64 ca, .int .i64 cn] 55)
  have IS0 := hide (h.below A1)
  have B0 := hide (below_less A1 hW.size)
  have K0 := hide ((KeptB.refl b w).below A1)
  have hBW : WB.heap.size ≤ w.heap.size := hW.size
  clear h hW ht hlt A1
  go_enter Tryz.func201, Tryz.ntmps201
  go_upto_region 1 with fail
  obtain ⟨bx, hbx⟩ : ∃ x, w.heap.size = x := ⟨_, rfl⟩
  rw [hbx] at N0 hnx ⊢
  generalize w.alloc (.cells #[.string li, .string pa, .int .i64 ca, .int .i64 cn] 55) = w0 at *
  by_cases hl : li = ⟨#[]⟩
  · have HL : Hid (mlB d li = []) := if_pos hl
    have dl : (li.toList == []) = true := by rw [hl]; exact nil_is
    have n0 := cell_of N0.out 0 rfl
    by_cases hp : pa = ⟨#[]⟩
    · have HP : Hid (mpB d pa = []) := if_pos hp
      have dp : (pa.toList == []) = true := by rw [hp]; exact nil_is
      have n1 := cell_of N0.out 1 rfl
      cases hc : (ca == 0 && cn == 0) with
      | true =>
        have HC : Hid (mcB d ca cn = []) := if_pos hc
        have n2 := cell_of N0.out 2 rfl
        have n3 := cell_of N0.out 3 rfl
        go_wp2_with fail
        go_end0
        exact ⟨rfl, by rw [HE.out, HL.out, HP.out, HC.out]; simpa only [List.append_assoc, List.nil_append, List.append_nil] using IS0.out, B0.out, K0.out⟩
      | false =>
        have HC : Hid (mcB d ca cn = lineB d (sayT [⟨#[109, 97, 116, 99, 104, 32, 99, 111, 109, 109, 117, 110, 105, 116, 121]⟩, commT (ca, cn)])) := if_neg (by rw [hc]; decide)
        have n2 := cell_of N0.out 2 rfl
        have n3 := cell_of N0.out 3 rfl
        have CT := hide (Cm.text_is ca cn (commT (ca, cn)) rfl w0 (Tab.on HT.out (HBW.out.trans B0.out)))
        go_wp2_with fail
        refine CT.out.mono ?_
        rintro e w9 ⟨rfl, hb9⟩
        have hBs9 : WB.heap.size ≤ w0.heap.size := Nat.le_trans hBW B0.out.size
        have IS9 := hide (IS0.out.below hb9)
        have N9 := hide ((hb9.block bx (heap_lt N0.out)).trans N0.out)
        have B9 := hide (B0.out.trans (below_less hb9 hBs9))
        have K9 := hide (K0.out.below hb9)
        clear hb9 CT n2 n3 hBs9
        have hBs9 : WB.heap.size ≤ w9.heap.size := Nat.le_trans hBW B9.out.size
        have C := hide (sayRow [⟨#[109, 97, 116, 99, 104, 32, 99, 111, 109, 109, 117, 110, 105, 116, 121]⟩, commT (ca, cn)] WB.heap.size b _ d w9 IS9.out (by simp) (by (try simp only [List.length_append]); omega) hBs9)
        go_wp2_with fail
        refine Calls.mono (P := Tryz.prog) (f := 131) C.out ?_
        rintro e w10 ⟨rfl, h6, hb6, hk6⟩
        have N10 := hide (hk6 _ _ _ _ N9.out (by decide) hnx)
        have IS10 := hide h6
        have B10 := hide (B9.out.trans hb6)
        have K10 := hide (K9.out.trans hk6)
        clear h6 hb6 hk6 C
        go_wp2_with fail
        go_end0
        exact ⟨rfl, by rw [HE.out, HL.out, HP.out, HC.out]; simpa only [List.append_assoc, List.nil_append, List.append_nil] using IS10.out, B10.out, K10.out⟩
    · have HP : Hid (mpB d pa = lineB d (sayT [⟨#[109, 97, 116, 99, 104, 32, 112, 97, 116, 104]⟩, inQ pa])) := if_neg hp
      have dp : (pa.toList == []) = false := not_nil hp
      have HQ : Hid (inQ pa = ⟨#[34]⟩ ++ pa ++ ⟨#[34]⟩) := rfl
      have hBs0 : WB.heap.size ≤ w0.heap.size := Nat.le_trans hBW B0.out.size
      have n1 := cell_of N0.out 1 rfl
      have C := hide (sayRow [⟨#[109, 97, 116, 99, 104, 32, 112, 97, 116, 104]⟩, inQ pa] WB.heap.size b _ d w0 IS0.out (by simp) (by (try simp only [List.length_append]); omega) hBs0)
      rw [show (([⟨#[109, 97, 116, 99, 104, 32, 112, 97, 116, 104]⟩, inQ pa].map Value.string).toArray : Array Value) = #[.string ⟨#[109, 97, 116, 99, 104, 32, 112, 97, 116, 104]⟩, .string (⟨#[34]⟩ ++ pa ++ ⟨#[34]⟩)] from rfl] at C
      go_wp2_with fail
      refine Calls.mono (P := Tryz.prog) (f := 131) C.out ?_
      rintro e w1 ⟨rfl, h6, hb6, hk6⟩
      have N1 := hide (hk6 _ _ _ _ N0.out (by decide) hnx)
      have IS1 := hide h6
      have B1 := hide (B0.out.trans hb6)
      have K1 := hide (K0.out.trans hk6)
      clear h6 hb6 hk6 C n1
      cases hc : (ca == 0 && cn == 0) with
      | true =>
        have HC : Hid (mcB d ca cn = []) := if_pos hc
        have n2 := cell_of N1.out 2 rfl
        have n3 := cell_of N1.out 3 rfl
        go_wp2_with fail
        go_end0
        exact ⟨rfl, by rw [HE.out, HL.out, HP.out, HC.out]; simpa only [List.append_assoc, List.nil_append, List.append_nil] using IS1.out, B1.out, K1.out⟩
      | false =>
        have HC : Hid (mcB d ca cn = lineB d (sayT [⟨#[109, 97, 116, 99, 104, 32, 99, 111, 109, 109, 117, 110, 105, 116, 121]⟩, commT (ca, cn)])) := if_neg (by rw [hc]; decide)
        have n2 := cell_of N1.out 2 rfl
        have n3 := cell_of N1.out 3 rfl
        have CT := hide (Cm.text_is ca cn (commT (ca, cn)) rfl w1 (Tab.on HT.out (HBW.out.trans B1.out)))
        go_wp2_with fail
        refine CT.out.mono ?_
        rintro e w9 ⟨rfl, hb9⟩
        have hBs9 : WB.heap.size ≤ w1.heap.size := Nat.le_trans hBW B1.out.size
        have IS9 := hide (IS1.out.below hb9)
        have N9 := hide ((hb9.block bx (heap_lt N1.out)).trans N1.out)
        have B9 := hide (B1.out.trans (below_less hb9 hBs9))
        have K9 := hide (K1.out.below hb9)
        clear hb9 CT n2 n3 hBs9
        have hBs9 : WB.heap.size ≤ w9.heap.size := Nat.le_trans hBW B9.out.size
        have C := hide (sayRow [⟨#[109, 97, 116, 99, 104, 32, 99, 111, 109, 109, 117, 110, 105, 116, 121]⟩, commT (ca, cn)] WB.heap.size b _ d w9 IS9.out (by simp) (by (try simp only [List.length_append]); omega) hBs9)
        go_wp2_with fail
        refine Calls.mono (P := Tryz.prog) (f := 131) C.out ?_
        rintro e w10 ⟨rfl, h6, hb6, hk6⟩
        have N10 := hide (hk6 _ _ _ _ N9.out (by decide) hnx)
        have IS10 := hide h6
        have B10 := hide (B9.out.trans hb6)
        have K10 := hide (K9.out.trans hk6)
        clear h6 hb6 hk6 C
        go_wp2_with fail
        go_end0
        exact ⟨rfl, by rw [HE.out, HL.out, HP.out, HC.out]; simpa only [List.append_assoc, List.nil_append, List.append_nil] using IS10.out, B10.out, K10.out⟩
  · have HL : Hid (mlB d li = lineB d (sayT [⟨#[109, 97, 116, 99, 104, 32, 112, 114, 101, 102, 105, 120]⟩, li])) := if_neg hl
    have dl : (li.toList == []) = false := not_nil hl
    have hBs0 : WB.heap.size ≤ w0.heap.size := Nat.le_trans hBW B0.out.size
    have n0 := cell_of N0.out 0 rfl
    have C := hide (sayRow [⟨#[109, 97, 116, 99, 104, 32, 112, 114, 101, 102, 105, 120]⟩, li] WB.heap.size b _ d w0 IS0.out (by simp) (by (try simp only [List.length_append]); omega) hBs0)
    go_wp2_with fail
    refine Calls.mono (P := Tryz.prog) (f := 131) C.out ?_
    rintro e w1 ⟨rfl, h6, hb6, hk6⟩
    have N1 := hide (hk6 _ _ _ _ N0.out (by decide) hnx)
    have IS1 := hide h6
    have B1 := hide (B0.out.trans hb6)
    have K1 := hide (K0.out.trans hk6)
    clear h6 hb6 hk6 C n0
    by_cases hp : pa = ⟨#[]⟩
    · have HP : Hid (mpB d pa = []) := if_pos hp
      have dp : (pa.toList == []) = true := by rw [hp]; exact nil_is
      have n1 := cell_of N1.out 1 rfl
      cases hc : (ca == 0 && cn == 0) with
      | true =>
        have HC : Hid (mcB d ca cn = []) := if_pos hc
        have n2 := cell_of N1.out 2 rfl
        have n3 := cell_of N1.out 3 rfl
        go_wp2_with fail
        go_end0
        exact ⟨rfl, by rw [HE.out, HL.out, HP.out, HC.out]; simpa only [List.append_assoc, List.nil_append, List.append_nil] using IS1.out, B1.out, K1.out⟩
      | false =>
        have HC : Hid (mcB d ca cn = lineB d (sayT [⟨#[109, 97, 116, 99, 104, 32, 99, 111, 109, 109, 117, 110, 105, 116, 121]⟩, commT (ca, cn)])) := if_neg (by rw [hc]; decide)
        have n2 := cell_of N1.out 2 rfl
        have n3 := cell_of N1.out 3 rfl
        have CT := hide (Cm.text_is ca cn (commT (ca, cn)) rfl w1 (Tab.on HT.out (HBW.out.trans B1.out)))
        go_wp2_with fail
        refine CT.out.mono ?_
        rintro e w9 ⟨rfl, hb9⟩
        have hBs9 : WB.heap.size ≤ w1.heap.size := Nat.le_trans hBW B1.out.size
        have IS9 := hide (IS1.out.below hb9)
        have N9 := hide ((hb9.block bx (heap_lt N1.out)).trans N1.out)
        have B9 := hide (B1.out.trans (below_less hb9 hBs9))
        have K9 := hide (K1.out.below hb9)
        clear hb9 CT n2 n3 hBs9
        have hBs9 : WB.heap.size ≤ w9.heap.size := Nat.le_trans hBW B9.out.size
        have C := hide (sayRow [⟨#[109, 97, 116, 99, 104, 32, 99, 111, 109, 109, 117, 110, 105, 116, 121]⟩, commT (ca, cn)] WB.heap.size b _ d w9 IS9.out (by simp) (by (try simp only [List.length_append]); omega) hBs9)
        go_wp2_with fail
        refine Calls.mono (P := Tryz.prog) (f := 131) C.out ?_
        rintro e w10 ⟨rfl, h6, hb6, hk6⟩
        have N10 := hide (hk6 _ _ _ _ N9.out (by decide) hnx)
        have IS10 := hide h6
        have B10 := hide (B9.out.trans hb6)
        have K10 := hide (K9.out.trans hk6)
        clear h6 hb6 hk6 C
        go_wp2_with fail
        go_end0
        exact ⟨rfl, by rw [HE.out, HL.out, HP.out, HC.out]; simpa only [List.append_assoc, List.nil_append, List.append_nil] using IS10.out, B10.out, K10.out⟩
    · have HP : Hid (mpB d pa = lineB d (sayT [⟨#[109, 97, 116, 99, 104, 32, 112, 97, 116, 104]⟩, inQ pa])) := if_neg hp
      have dp : (pa.toList == []) = false := not_nil hp
      have HQ : Hid (inQ pa = ⟨#[34]⟩ ++ pa ++ ⟨#[34]⟩) := rfl
      have hBs1 : WB.heap.size ≤ w1.heap.size := Nat.le_trans hBW B1.out.size
      have n1 := cell_of N1.out 1 rfl
      have C := hide (sayRow [⟨#[109, 97, 116, 99, 104, 32, 112, 97, 116, 104]⟩, inQ pa] WB.heap.size b _ d w1 IS1.out (by simp) (by (try simp only [List.length_append]); omega) hBs1)
      rw [show (([⟨#[109, 97, 116, 99, 104, 32, 112, 97, 116, 104]⟩, inQ pa].map Value.string).toArray : Array Value) = #[.string ⟨#[109, 97, 116, 99, 104, 32, 112, 97, 116, 104]⟩, .string (⟨#[34]⟩ ++ pa ++ ⟨#[34]⟩)] from rfl] at C
      go_wp2_with fail
      refine Calls.mono (P := Tryz.prog) (f := 131) C.out ?_
      rintro e w2 ⟨rfl, h6, hb6, hk6⟩
      have N2 := hide (hk6 _ _ _ _ N1.out (by decide) hnx)
      have IS2 := hide h6
      have B2 := hide (B1.out.trans hb6)
      have K2 := hide (K1.out.trans hk6)
      clear h6 hb6 hk6 C n1
      cases hc : (ca == 0 && cn == 0) with
      | true =>
        have HC : Hid (mcB d ca cn = []) := if_pos hc
        have n2 := cell_of N2.out 2 rfl
        have n3 := cell_of N2.out 3 rfl
        go_wp2_with fail
        go_end0
        exact ⟨rfl, by rw [HE.out, HL.out, HP.out, HC.out]; simpa only [List.append_assoc, List.nil_append, List.append_nil] using IS2.out, B2.out, K2.out⟩
      | false =>
        have HC : Hid (mcB d ca cn = lineB d (sayT [⟨#[109, 97, 116, 99, 104, 32, 99, 111, 109, 109, 117, 110, 105, 116, 121]⟩, commT (ca, cn)])) := if_neg (by rw [hc]; decide)
        have n2 := cell_of N2.out 2 rfl
        have n3 := cell_of N2.out 3 rfl
        have CT := hide (Cm.text_is ca cn (commT (ca, cn)) rfl w2 (Tab.on HT.out (HBW.out.trans B2.out)))
        go_wp2_with fail
        refine CT.out.mono ?_
        rintro e w9 ⟨rfl, hb9⟩
        have hBs9 : WB.heap.size ≤ w2.heap.size := Nat.le_trans hBW B2.out.size
        have IS9 := hide (IS2.out.below hb9)
        have N9 := hide ((hb9.block bx (heap_lt N2.out)).trans N2.out)
        have B9 := hide (B2.out.trans (below_less hb9 hBs9))
        have K9 := hide (K2.out.below hb9)
        clear hb9 CT n2 n3 hBs9
        have hBs9 : WB.heap.size ≤ w9.heap.size := Nat.le_trans hBW B9.out.size
        have C := hide (sayRow [⟨#[109, 97, 116, 99, 104, 32, 99, 111, 109, 109, 117, 110, 105, 116, 121]⟩, commT (ca, cn)] WB.heap.size b _ d w9 IS9.out (by simp) (by (try simp only [List.length_append]); omega) hBs9)
        go_wp2_with fail
        refine Calls.mono (P := Tryz.prog) (f := 131) C.out ?_
        rintro e w10 ⟨rfl, h6, hb6, hk6⟩
        have N10 := hide (hk6 _ _ _ _ N9.out (by decide) hnx)
        have IS10 := hide h6
        have B10 := hide (B9.out.trans hb6)
        have K10 := hide (K9.out.trans hk6)
        clear h6 hb6 hk6 C
        go_wp2_with fail
        go_end0
        exact ⟨rfl, by rw [HE.out, HL.out, HP.out, HC.out]; simpa only [List.append_assoc, List.nil_append, List.append_nil] using IS10.out, B10.out, K10.out⟩
end Go.Proofs.YtpmmhmgojjlniaaGreatDoor
namespace Go.Proofs.YtpmmhmgojjlniaaGreatDoor
open Go.RowKit Go.Sort
theorem matchB_len (d : Nat) (m : Mt) (h : MatchSz m) : (matchB d m).length ≤ 3 * (d + 100001) := by
  have l1 := lineB_len d
  obtain ⟨s1, s2, s3, _⟩ := h
  have a : (mlB d m.list).length ≤ d + 100001 := by
    unfold mlB; split
    · exact Nat.zero_le _
    · rw [l1]; omega
  have b : (mpB d m.path).length ≤ d + 100001 := by
    unfold mpB; split
    · exact Nat.zero_le _
    · rw [l1]; omega
  have c : (mcB d m.ca m.cn).length ≤ d + 100001 := by
    unfold mcB; split
    · exact Nat.zero_le _
    · rw [l1]; omega
  unfold matchB
  rw [List.length_append, List.length_append]
  omega
def clIn (d : Nat) (c : Cl) : List UInt8 := matchB d c.m ++ setB d c.s
set_option maxHeartbeats 8000000 in
set_option maxRecDepth 100000 in
theorem clauseIn_is (WB W0 : World) (b d bc bw : Nat) (c : Cl) (va vd vp : Value) (hW0 : Below WB.heap.size WB W0) (h1 : Rd WB 2 PrR va c.s.add) (h2 : Rd WB 2 PrR vd c.s.del) (h3 : Rd WB 1 InR vp c.s.prep) (ht : Tab WB) (hp : -1 ≤ c.s.pref ∧ c.s.pref ≤ 1048576) (hm : -1 ≤ c.s.med ∧ c.s.med ≤ 1048576) (hq : ∀ n ∈ c.s.prep, -1 ≤ n ∧ n ≤ 1048576) (hn : c.s.add.length ≤ 900 ∧ c.s.del.length ≤ 900 ∧ c.s.prep.length ≤ 900) (hs : SetSz c.s) (hsm : MatchSz c.m) (hd : d ≤ 10)
    (hbc : W0.heap[bc]? = some (.cells #[.int .i64 c.n, .bool c.ok, .string c.m.list, .string c.m.path, .int .i64 c.m.ca, .int .i64 c.m.cn, .int .i64 c.s.pref, .int .i64 c.s.med, .int .i64 c.s.org, va, vd, .bool c.s.clr, vp] 61 (0, 0))) (hbw : W0.heap[bw]? = some (.cells #[.pointer (some ⟨b, 0, none⟩)] 119 (0, 0))) (hnc : bc ≠ b) (hnw : bw ≠ b) :
    FnDoes W0 200 #[.pointer (some ⟨bw, 0, none⟩), .pointer (some ⟨bc, 0, none⟩)] WB.heap.size b d (clIn d c) 1000 where
  enter := fun args w => by go_simp
  ok := fun W x hW hK hwr hz => by
    have hB0 := hW0.trans hW
    have HC := hide (hK _ _ _ _ hbc (by decide) hnc)
    have HW := hide (hK _ _ _ _ hbw (by decide) hnw)
    have hml := matchB_len d c.m hsm
    have hl : (clIn d c).length = (matchB d c.m).length + (setB d c.s).length := by unfold clIn; rw [List.length_append]
    have CM := hide (match_is WB W b d x c.m hB0 ht hsm hd hwr (by omega))
    have CS := hide (fun W2 (h : Below WB.heap.size W W2) hI => set_is WB W2 b d (x ++ matchB d c.m) c.s va vd vp (hB0.trans h) h1 h2 h3 ht hp hm hq hn hs hd hI (by rw [List.length_append]; omega))
    have HE : Hid (x ++ clIn d c = x ++ matchB d c.m ++ setB d c.s) := by show _ = _; unfold clIn; rw [List.append_assoc]
    obtain ⟨oa, ka, rfl⟩ := h1.slice
    obtain ⟨od, kd, rfl⟩ := h2.slice
    obtain ⟨op, kp, rfl⟩ := h3.slice
    have n0 := cell_of HW.out 0 rfl
    have n2 := cell_of HC.out 2 rfl
    have n3 := cell_of HC.out 3 rfl
    have n4 := cell_of HC.out 4 rfl
    have n5 := cell_of HC.out 5 rfl
    generalize matchB d c.m = MB at *
    generalize setB d c.s = SB at *
    generalize clIn d c = CB at *
    clear hB0 hbc hbw hW0 h1 h2 h3 ht hq hs hsm hK hwr hW hz hml hl
    go_enter Tryz.func200, Tryz.ntmps200
    go_wp2_with fail
    refine CM.out.mono ?_
    rintro e w2 ⟨rfl, h6, hb6, hk6⟩
    have HC2 := hide (hk6 _ _ _ _ HC.out (by decide) hnc)
    have HW2 := hide (hk6 _ _ _ _ HW.out (by decide) hnw)
    have C2 := hide (CS.out w2 hb6 h6)
    have B2 := hide hb6
    have K2 := hide hk6
    clear h6 hb6 hk6 CM CS n0 n2 n3 n4 n5
    have n0 := cell_of HW2.out 0 rfl
    have n6 := cell_of HC2.out 6 rfl
    have n7 := cell_of HC2.out 7 rfl
    have n8 := cell_of HC2.out 8 rfl
    have n9 := cell_of HC2.out 9 rfl
    have n10 := cell_of HC2.out 10 rfl
    have n11 := cell_of HC2.out 11 rfl
    have n12 := cell_of HC2.out 12 rfl
    go_wp2_with fail
    refine C2.out.mono ?_
    rintro e w3 ⟨rfl, h7, hb7, hk7⟩
    have W3 : Hid (IsWr WB.heap.size b (Lib.byteCells (x ++ CB)) d w3) := by
      show IsWr _ _ _ _ _
      rw [HE.out]
      exact h7
    have B3 := hide (B2.out.trans hb7)
    have K3 := hide (K2.out.trans hk7)
    clear h7 hb7 hk7 C2 n0 n6 n7 n8 n9 n10 n11 n12
    go_wp2_with fail
    go_end0
    exact ⟨rfl, W3.out, B3.out, K3.out⟩
end Go.Proofs.YtpmmhmgojjlniaaGreatDoor
