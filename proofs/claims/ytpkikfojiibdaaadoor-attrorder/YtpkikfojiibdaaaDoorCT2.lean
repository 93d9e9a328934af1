/- The text of a community: comm's and the document's. -/
import Derived.Test.YtpkikfojiibdaaaDoorCT1
namespace Go.Proofs.YtpkikfojiibdaaaDoor.Cm
open Go.RowKit Go.Sort

def Co.nE : List UInt8 := [110, 111, 45, 101, 120, 112, 111, 114, 116]
def Co.nA : List UInt8 := [110, 111, 45, 97, 100, 118, 101, 114, 116, 105, 115, 101]
def Co.lo : List UInt8 := [108, 111, 99, 97, 108]
def Co.plain (a b : Int) : List UInt8 := Lib.itoa a ++ [58] ++ Lib.itoa b
def Co.text (a b : Int) : List UInt8 :=
  if Co.may (a, b) = true then (if a = 65535 ∧ b = 65281 then Co.nE else if a = 65535 ∧ b = 65282 then Co.nA else if a = 65535 ∧ b = 65283 then Co.lo else Co.plain a b) else []

theorem noExport_is (w : World) : Calls Tryd.prog 64 #[] w fun e w' => e = .returned (.agg #[.int .i64 65535, .int .i64 65281]) ∧ Below w.heap.size w w' := by
  go_enter Tryd.func64, Tryd.ntmps64
  go_wp2_with fail
  exact bodyPost_ret (v := .agg #[.int .i64 65535, .int .i64 65281]) (by simp [results, Tryd.results64, go_sem]) rfl ⟨rfl, balloc (brefl w) _⟩
theorem noAdv_is (w : World) : Calls Tryd.prog 65 #[] w fun e w' => e = .returned (.agg #[.int .i64 65535, .int .i64 65282]) ∧ Below w.heap.size w w' := by
  go_enter Tryd.func65, Tryd.ntmps65
  go_wp2_with fail
  exact bodyPost_ret (v := .agg #[.int .i64 65535, .int .i64 65282]) (by simp [results, Tryd.results65, go_sem]) rfl ⟨rfl, balloc (brefl w) _⟩
theorem local_is (w : World) : Calls Tryd.prog 66 #[] w fun e w' => e = .returned (.agg #[.int .i64 65535, .int .i64 65283]) ∧ Below w.heap.size w w' := by
  go_enter Tryd.func66, Tryd.ntmps66
  go_wp2_with fail
  exact bodyPost_ret (v := .agg #[.int .i64 65535, .int .i64 65283]) (by simp [results, Tryd.results66, go_sem]) rfl ⟨rfl, balloc (brefl w) _⟩

theorem Co.may_iff (a b : Int) : Co.may (a, b) = true ↔ 1 ≤ a ∧ a ≤ 65535 ∧ 0 ≤ b ∧ b ≤ 65535 := by simp [Co.may]

set_option maxHeartbeats 2000000 in
set_option maxRecDepth 100000 in
theorem text_plain (a b : Int) (t0 t1 u0 u1 : ByteArray) (w : World) (hT : Tab w) (M : Hid (Co.may (a, b) = true)) (h1 : (a == 65535 && b == 65281) = false) (h2 : (a == 65535 && b == 65282) = false) (h3 : (a == 65535 && b == 65283) = false)
    (K0 : Adds t0 ⟨#[58]⟩ u0) (K1 : Adds u0 t1 u1) (N0 : Hid (t0 = ⟨(Lib.itoa a).toArray⟩)) (N1 : Hid (t1 = ⟨(Lib.itoa b).toArray⟩)) :
    Calls Tryd.prog 46 #[.agg #[.int .i64 a, .int .i64 b]] w fun e w' => e = .returned (.string u1) ∧ Below w.heap.size w w' := by
  unfold Adds at *
  have hm := (Co.may_iff a b).1 M.out
  have HT := hide hT
  clear hT
  go_enter Tryd.func46, Tryd.ntmps46
  go_wp2_with fail
  have TB := hide (two_new w a b 51)
  have B0 := hide (balloc (brefl w) (.cells #[.int .i64 a, .int .i64 b] 51))
  generalize w.alloc (.cells #[.int .i64 a, .int .i64 b] 51) = W0 at *
  generalize w.heap.size = R at TB ⊢
  refine (may_is _ _ _ M.out _).mono ?_
  rintro e w1 ⟨rfl, hb1⟩
  obtain ⟨p0, p1, p2, p3⟩ := two_below hb1 TB.out
  have B1 := hide (bthen B0.out hb1)
  clear hb1
  go_wp2_with fail
  refine (noExport_is _).mono ?_
  rintro e w2 ⟨rfl, hb2⟩
  have T2 := hide (two_below hb2 (two_of p0 p1))
  have B2 := hide (bthen B1.out hb2)
  clear hb2 p0 p1 p2 p3
  have hq := eqC
  have hgd := guardC
  go_wp2_with fail
  refine (noAdv_is _).mono ?_
  rintro e w3 ⟨rfl, hb3⟩
  have T3 := hide (two_below hb3 T2.out)
  have B3 := hide (bthen B2.out hb3)
  clear hb3
  go_wp2_with fail
  refine (local_is _).mono ?_
  rintro e w4 ⟨rfl, hb4⟩
  have T4 := hide (two_below hb4 T3.out)
  have B4 := hide (bthen B3.out hb4)
  clear hb4
  go_wp2_with fail
  clear hq hgd
  obtain ⟨c0, c1⟩ := two_regrown T4.out
  have CT := hide fun (dd : Nat) (os : Array Obj) => HT.out.on (bthen B4.out (below_regrown w4 dd os))
  refine wp_region_quiet_below (by kernel_rfl) (by kernel_rfl) ?_
  iterate 3 (go_big_quiet_step ((go_at_call 18; exact Calls.regrown_of (itoa_is _ t0 (by omega) (by omega) N0.out _ (CT.out _ _)))))
  iterate 6 (go_big_quiet_step ((go_at_call 18; exact Calls.regrown_of (itoa_is _ t1 (by omega) (by omega) N1.out _ (CT.out _ _)))))
  refine wpQuiet_nil ?_
  rintro w8 ⟨⟨dd, os⟩, hw8⟩
  have hb8 : Below w4.heap.size w4 w8 := by rw [hw8]; exact below_regrown _ dd os
  have B8 := hide (bthen B4.out hb8)
  clear hb8 hw8 c0 c1
  go_wp2_with fail
  go_ret
  exact ⟨rfl, B8.out⟩
end Go.Proofs.YtpkikfojiibdaaaDoor.Cm