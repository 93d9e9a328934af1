import Derived.Test.YtkpoanjcalolkaaDoorPl2
import Derived.Test.YtkpoanjcalolkaaDoorX2
/- The contracts of plist's Text and of the document's Text of a rule. -/
namespace Go.Proofs.YtkpoanjcalolkaaDoor
open Go.RowKit

/-- A rule's five cells read there, in this world; and its block is an old one. -/
def Five (w : World) (n : Nat) (a b g l : Int) (p : Bool) : Prop := w.cell? ⟨n, 0, none⟩ = some (.int .u32 a) ∧ w.cell? ⟨n, 1, none⟩ = some (.int .i64 b) ∧ w.cell? ⟨n, 2, none⟩ = some (.int .i64 g) ∧ w.cell? ⟨n, 3, none⟩ = some (.int .i64 l) ∧ w.cell? ⟨n, 4, none⟩ = some (.bool p) ∧ n < w.heap.size ∧ n < w.heap.size + 1
theorem five_box (w : World) (a b g l : Int) (p : Bool) : Five (w.alloc (.cells #[.int .u32 a, .int .i64 b, .int .i64 g, .int .i64 l, .bool p] 32)) w.heap.size a b g l p :=
  ⟨by simp, by simp, by simp, by simp, by simp, by simp, by simp; omega⟩
theorem five_below {W w1 : World} {n : Nat} {a b g l : Int} {p : Bool} (h : Five W n a b g l p) (hb : Below W.heap.size W w1) : Five w1 n a b g l p := by
  obtain ⟨h0, h1, h2, h3, h4, h5, h6⟩ := h
  have k := fun i => hb.cell (p := ⟨n, i, none⟩) h5
  have := hb.size
  exact ⟨(k 0).trans h0, (k 1).trans h1, (k 2).trans h2, (k 3).trans h3, (k 4).trans h4, by omega, by omega⟩

set_option maxHeartbeats 1000000 in
theorem ptext_not (a b g l : Int) (p : Bool) (w : World) (ha : 0 ≤ a) (ha2 : a ≤ 4294967295) (hm : Ad.rmay (a, b, g, l, p) = false) :
    Calls Tryd.prog 16 #[.agg #[.int .u32 a, .int .i64 b, .int .i64 g, .int .i64 l, .bool p]] w fun e w' => e = .returned (.string ⟨#[]⟩) ∧ Below w.heap.size w w' := by
  go_enter Tryd.func16, Tryd.ntmps16
  go_wp2_with fail
  refine (rmay_is _ _ _ _ _ _ hm _ ha ha2).mono ?_
  rintro e w1 ⟨rfl, hb1⟩
  go_wp2_with fail
  go_ret
  exact ⟨rfl, bthen (balloc (brefl w) _) hb1⟩

set_option maxHeartbeats 2000000 in
set_option maxRecDepth 100000 in
theorem ptext_00 (a b g l : Int) (p : Bool) (s0 tP u0 : ByteArray) (w : World) (ha : 0 ≤ a) (ha2 : a ≤ 4294967295) (M : Hid (Ad.rmay (a, b, g, l, p) = true))
    (hS : Hid (s0 = if p = true then ⟨#[112, 101, 114, 109, 105, 116, 32]⟩ else ⟨#[100, 101, 110, 121, 32]⟩))
    (K0 : Adds s0 tP u0)
    (CT : Hid (∀ W, Below w.heap.size w W → Calls Tryd.prog 32 #[.agg #[.int .u32 a, .int .i64 b]] W fun e w' => e = .returned (.string tP) ∧ Below W.heap.size W w'))
    (h1 : (g != b) = false) (h2 : (l != g) = false) :
    Calls Tryd.prog 16 #[.agg #[.int .u32 a, .int .i64 b, .int .i64 g, .int .i64 l, .bool p]] w fun e w' => e = .returned (.string u0) ∧ Below w.heap.size w w' := by
  unfold Adds at *
  have F0 := hide (five_box w a b g l p)
  cases p
  all_goals
    have HS := hS.out
    simp at HS
    go_enter Tryd.func16, Tryd.ntmps16
    go_wp2_with fail
    refine (rmay_is _ _ _ _ _ _ M.out _ ha ha2).mono ?_
    rintro e w1 ⟨rfl, hb1⟩
    have F1 := hide (five_below F0.out hb1)
    have B1 := hide (bthen (balloc (brefl w) _) hb1)
    obtain ⟨c0, c1, c2, c3, c4, c5, c6⟩ := F1.out
    clear hb1 F0
    rw [HS] at K0
    clear HS hS
    go_wp2_with fail
    refine (CT.out _ B1.out).mono ?_
    rintro e w2 ⟨rfl, hb2⟩
    have F2 := hide (five_below F1.out hb2)
    have B2 := hide (bthen B1.out hb2)
    clear c0 c1 c2 c3 c4 c5 c6
    obtain ⟨c0, c1, c2, c3, c4, c5, c6⟩ := F2.out
    clear hb2 F1 B1
    go_wp2_with fail
    go_ret
    exact ⟨rfl, B2.out⟩

set_option maxHeartbeats 2000000 in
set_option maxRecDepth 100000 in
theorem ptext_01 (a b g l : Int) (p : Bool) (s0 tP u0 tL vL u2 : ByteArray) (w : World) (ha : 0 ≤ a) (ha2 : a ≤ 4294967295) (M : Hid (Ad.rmay (a, b, g, l, p) = true))
    (hS : Hid (s0 = if p = true then ⟨#[112, 101, 114, 109, 105, 116, 32]⟩ else ⟨#[100, 101, 110, 121, 32]⟩))
    (K0 : Adds s0 tP u0) (KL : Adds ⟨#[32, 108, 101, 32]⟩ tL vL) (K2 : Adds u0 vL u2)
    (CT : Hid (∀ W, Below w.heap.size w W → Calls Tryd.prog 32 #[.agg #[.int .u32 a, .int .i64 b]] W fun e w' => e = .returned (.string tP) ∧ Below W.heap.size W w'))
    (CL : Hid (∀ W, Below w.heap.size w W → Calls Tryd.prog 33 #[.int .i64 l] W fun e w' => e = .returned (.string tL) ∧ Below W.heap.size W w'))
    (h1 : (g != b) = false) (h2 : (l != g) = true) :
    Calls Tryd.prog 16 #[.agg #[.int .u32 a, .int .i64 b, .int .i64 g, .int .i64 l, .bool p]] w fun e w' => e = .returned (.string u2) ∧ Below w.heap.size w w' := by
  unfold Adds at *
  have F0 := hide (five_box w a b g l p)
  cases p
  all_goals
    have HS := hS.out
    simp at HS
    go_enter Tryd.func16, Tryd.ntmps16
    go_wp2_with fail
    refine (rmay_is _ _ _ _ _ _ M.out _ ha ha2).mono ?_
    rintro e w1 ⟨rfl, hb1⟩
    have F1 := hide (five_below F0.out hb1)
    have B1 := hide (bthen (balloc (brefl w) _) hb1)
    obtain ⟨c0, c1, c2, c3, c4, c5, c6⟩ := F1.out
    clear hb1 F0
    rw [HS] at K0
    clear HS hS
    go_wp2_with fail
    refine (CT.out _ B1.out).mono ?_
    rintro e w2 ⟨rfl, hb2⟩
    have F2 := hide (five_below F1.out hb2)
    have B2 := hide (bthen B1.out hb2)
    clear c0 c1 c2 c3 c4 c5 c6
    obtain ⟨c0, c1, c2, c3, c4, c5, c6⟩ := F2.out
    clear hb2 F1 B1
    go_wp2_with fail
    refine (CL.out _ B2.out).mono ?_
    rintro e w3 ⟨rfl, hb3⟩
    have F3 := hide (five_below F2.out hb3)
    have B3 := hide (bthen B2.out hb3)
    clear c0 c1 c2 c3 c4 c5 c6
    obtain ⟨c0, c1, c2, c3, c4, c5, c6⟩ := F3.out
    clear hb3 F2 B2
    go_wp2_with fail
    go_ret
    exact ⟨rfl, B3.out⟩

set_option maxHeartbeats 2000000 in
set_option maxRecDepth 100000 in
theorem ptext_10 (a b g l : Int) (p : Bool) (s0 tP u0 tG vG u1 : ByteArray) (w : World) (ha : 0 ≤ a) (ha2 : a ≤ 4294967295) (M : Hid (Ad.rmay (a, b, g, l, p) = true))
    (hS : Hid (s0 = if p = true then ⟨#[112, 101, 114, 109, 105, 116, 32]⟩ else ⟨#[100, 101, 110, 121, 32]⟩))
    (K0 : Adds s0 tP u0) (KG : Adds ⟨#[32, 103, 101, 32]⟩ tG vG) (K1 : Adds u0 vG u1)
    (CT : Hid (∀ W, Below w.heap.size w W → Calls Tryd.prog 32 #[.agg #[.int .u32 a, .int .i64 b]] W fun e w' => e = .returned (.string tP) ∧ Below W.heap.size W w'))
    (CG : Hid (∀ W, Below w.heap.size w W → Calls Tryd.prog 33 #[.int .i64 g] W fun e w' => e = .returned (.string tG) ∧ Below W.heap.size W w'))
    (h1 : (g != b) = true) (h2 : (l != g) = false) :
    Calls Tryd.prog 16 #[.agg #[.int .u32 a, .int .i64 b, .int .i64 g, .int .i64 l, .bool p]] w fun e w' => e = .returned (.string u1) ∧ Below w.heap.size w w' := by
  unfold Adds at *
  have F0 := hide (five_box w a b g l p)
  cases p
  all_goals
    have HS := hS.out
    simp at HS
    go_enter Tryd.func16, Tryd.ntmps16
    go_wp2_with fail
    refine (rmay_is _ _ _ _ _ _ M.out _ ha ha2).mono ?_
    rintro e w1 ⟨rfl, hb1⟩
    have F1 := hide (five_below F0.out hb1)
    have B1 := hide (bthen (balloc (brefl w) _) hb1)
    obtain ⟨c0, c1, c2, c3, c4, c5, c6⟩ := F1.out
    clear hb1 F0
    rw [HS] at K0
    clear HS hS
    go_wp2_with fail
    refine (CT.out _ B1.out).mono ?_
    rintro e w2 ⟨rfl, hb2⟩
    have F2 := hide (five_below F1.out hb2)
    have B2 := hide (bthen B1.out hb2)
    clear c0 c1 c2 c3 c4 c5 c6
    obtain ⟨c0, c1, c2, c3, c4, c5, c6⟩ := F2.out
    clear hb2 F1 B1
    go_wp2_with fail
    refine (CG.out _ B2.out).mono ?_
    rintro e w3 ⟨rfl, hb3⟩
    have F3 := hide (five_below F2.out hb3)
    have B3 := hide (bthen B2.out hb3)
    clear c0 c1 c2 c3 c4 c5 c6
    obtain ⟨c0, c1, c2, c3, c4, c5, c6⟩ := F3.out
    clear hb3 F2 B2
    go_wp2_with fail
    go_ret
    exact ⟨rfl, B3.out⟩

set_option maxHeartbeats 2000000 in
set_option maxRecDepth 100000 in
theorem ptext_11 (a b g l : Int) (p : Bool) (s0 tP u0 tG vG u1 tL vL u2 : ByteArray) (w : World) (ha : 0 ≤ a) (ha2 : a ≤ 4294967295) (M : Hid (Ad.rmay (a, b, g, l, p) = true))
    (hS : Hid (s0 = if p = true then ⟨#[112, 101, 114, 109, 105, 116, 32]⟩ else ⟨#[100, 101, 110, 121, 32]⟩))
    (K0 : Adds s0 tP u0) (KG : Adds ⟨#[32, 103, 101, 32]⟩ tG vG) (K1 : Adds u0 vG u1) (KL : Adds ⟨#[32, 108, 101, 32]⟩ tL vL) (K2 : Adds u1 vL u2)
    (CT : Hid (∀ W, Below w.heap.size w W → Calls Tryd.prog 32 #[.agg #[.int .u32 a, .int .i64 b]] W fun e w' => e = .returned (.string tP) ∧ Below W.heap.size W w'))
    (CG : Hid (∀ W, Below w.heap.size w W → Calls Tryd.prog 33 #[.int .i64 g] W fun e w' => e = .returned (.string tG) ∧ Below W.heap.size W w'))
    (CL : Hid (∀ W, Below w.heap.size w W → Calls Tryd.prog 33 #[.int .i64 l] W fun e w' => e = .returned (.string tL) ∧ Below W.heap.size W w'))
    (h1 : (g != b) = true) (h2 : (l != g) = true) :
    Calls Tryd.prog 16 #[.agg #[.int .u32 a, .int .i64 b, .int .i64 g, .int .i64 l, .bool p]] w fun e w' => e = .returned (.string u2) ∧ Below w.heap.size w w' := by
  unfold Adds at *
  have F0 := hide (five_box w a b g l p)
  cases p
  all_goals
    have HS := hS.out
    simp at HS
    go_enter Tryd.func16, Tryd.ntmps16
    go_wp2_with fail
    refine (rmay_is _ _ _ _ _ _ M.out _ ha ha2).mono ?_
    rintro e w1 ⟨rfl, hb1⟩
    have F1 := hide (five_below F0.out hb1)
    have B1 := hide (bthen (balloc (brefl w) _) hb1)
    obtain ⟨c0, c1, c2, c3, c4, c5, c6⟩ := F1.out
    clear hb1 F0
    rw [HS] at K0
    clear HS hS
    go_wp2_with fail
    refine (CT.out _ B1.out).mono ?_
    rintro e w2 ⟨rfl, hb2⟩
    have F2 := hide (five_below F1.out hb2)
    have B2 := hide (bthen B1.out hb2)
    clear c0 c1 c2 c3 c4 c5 c6
    obtain ⟨c0, c1, c2, c3, c4, c5, c6⟩ := F2.out
    clear hb2 F1 B1
    go_wp2_with fail
    refine (CG.out _ B2.out).mono ?_
    rintro e w3 ⟨rfl, hb3⟩
    have F3 := hide (five_below F2.out hb3)
    have B3 := hide (bthen B2.out hb3)
    clear c0 c1 c2 c3 c4 c5 c6
    obtain ⟨c0, c1, c2, c3, c4, c5, c6⟩ := F3.out
    clear hb3 F2 B2
    go_wp2_with fail
    refine (CL.out _ B3.out).mono ?_
    rintro e w4 ⟨rfl, hb4⟩
    have F4 := hide (five_below F3.out hb4)
    have B4 := hide (bthen B3.out hb4)
    clear c0 c1 c2 c3 c4 c5 c6
    obtain ⟨c0, c1, c2, c3, c4, c5, c6⟩ := F4.out
    clear hb4 F3 B3
    go_wp2_with fail
    go_ret
    exact ⟨rfl, B4.out⟩

end Go.Proofs.YtkpoanjcalolkaaDoor

/- The contract of the document's Text of a rule. -/
namespace Go.Proofs.YtkpoanjcalolkaaDoor
open Go.RowKit

set_option maxHeartbeats 1000000 in
theorem refRText_not (a b g l : Int) (p : Bool) (w : World) (ha : 0 ≤ a) (ha2 : a ≤ 4294967295) (hm : Ad.rmay (a, b, g, l, p) = false) :
    Calls Tryd.prog 17 #[.agg #[.int .u32 a, .int .i64 b, .int .i64 g, .int .i64 l, .bool p]] w fun e w' => e = .returned (.string ⟨#[]⟩) ∧ Below w.heap.size w w' := by
  go_enter Tryd.func17, Tryd.ntmps17
  go_wp2_with fail
  refine (refRMay_is _ _ _ _ _ _ hm _ ha ha2).mono ?_
  rintro e w1 ⟨rfl, hb1⟩
  go_wp2_with fail
  go_ret
  exact ⟨rfl, bthen (balloc (brefl w) _) hb1⟩

set_option maxHeartbeats 2000000 in
set_option maxRecDepth 100000 in
theorem refRText_00 (a b g l : Int) (p : Bool) (s0 sb tP u0 : ByteArray) (w : World) (ha : 0 ≤ a) (ha2 : a ≤ 4294967295) (M : Hid (Ad.rmay (a, b, g, l, p) = true))
    (hS : Hid (s0 = if p = true then ⟨#[112, 101, 114, 109, 105, 116]⟩ else ⟨#[100, 101, 110, 121]⟩))
    (Kb : Adds s0 ⟨#[32]⟩ sb) (K0 : Adds sb tP u0)
    (CT : Hid (∀ W, Below w.heap.size w W → Calls Tryd.prog 34 #[.agg #[.int .u32 a, .int .i64 b]] W fun e w' => e = .returned (.string tP) ∧ Below W.heap.size W w'))
    (h1 : ¬ b < g) (h2 : ¬ g < l) :
    Calls Tryd.prog 17 #[.agg #[.int .u32 a, .int .i64 b, .int .i64 g, .int .i64 l, .bool p]] w fun e w' => e = .returned (.string u0) ∧ Below w.heap.size w w' := by
  unfold Adds at *
  have F0 := hide (five_box w a b g l p)
  cases p
  all_goals
    have HS := hS.out
    simp at HS
    go_enter Tryd.func17, Tryd.ntmps17
    go_wp2_with fail
    refine (refRMay_is _ _ _ _ _ _ M.out _ ha ha2).mono ?_
    rintro e w1 ⟨rfl, hb1⟩
    have F1 := hide (five_below F0.out hb1)
    have B1 := hide (bthen (balloc (brefl w) _) hb1)
    obtain ⟨c0, c1, c2, c3, c4, c5, c6⟩ := F1.out
    clear hb1 F0
    rw [HS] at Kb
    clear HS hS
    go_wp2_with fail
    refine (CT.out _ B1.out).mono ?_
    rintro e w2 ⟨rfl, hb2⟩
    have F2 := hide (five_below F1.out hb2)
    have B2 := hide (bthen B1.out hb2)
    clear c0 c1 c2 c3 c4 c5 c6
    obtain ⟨c0, c1, c2, c3, c4, c5, c6⟩ := F2.out
    clear hb2 F1 B1
    go_wp2_with fail
    go_ret
    exact ⟨rfl, B2.out⟩

set_option maxHeartbeats 2000000 in
set_option maxRecDepth 100000 in
theorem refRText_01 (a b g l : Int) (p : Bool) (s0 sb tP u0 tL vL u2 : ByteArray) (w : World) (ha : 0 ≤ a) (ha2 : a ≤ 4294967295) (M : Hid (Ad.rmay (a, b, g, l, p) = true))
    (hS : Hid (s0 = if p = true then ⟨#[112, 101, 114, 109, 105, 116]⟩ else ⟨#[100, 101, 110, 121]⟩))
    (Kb : Adds s0 ⟨#[32]⟩ sb) (K0 : Adds sb tP u0) (KL : Adds u0 ⟨#[32, 108, 101, 32]⟩ vL) (K2 : Adds vL tL u2)
    (CT : Hid (∀ W, Below w.heap.size w W → Calls Tryd.prog 34 #[.agg #[.int .u32 a, .int .i64 b]] W fun e w' => e = .returned (.string tP) ∧ Below W.heap.size W w'))
    (CL : Hid (∀ W, Below w.heap.size w W → Calls Tryd.prog 35 #[.int .i64 l] W fun e w' => e = .returned (.string tL) ∧ Below W.heap.size W w'))
    (h1 : ¬ b < g) (h2 : g < l) :
    Calls Tryd.prog 17 #[.agg #[.int .u32 a, .int .i64 b, .int .i64 g, .int .i64 l, .bool p]] w fun e w' => e = .returned (.string u2) ∧ Below w.heap.size w w' := by
  unfold Adds at *
  have F0 := hide (five_box w a b g l p)
  cases p
  all_goals
    have HS := hS.out
    simp at HS
    go_enter Tryd.func17, Tryd.ntmps17
    go_wp2_with fail
    refine (refRMay_is _ _ _ _ _ _ M.out _ ha ha2).mono ?_
    rintro e w1 ⟨rfl, hb1⟩
    have F1 := hide (five_below F0.out hb1)
    have B1 := hide (bthen (balloc (brefl w) _) hb1)
    obtain ⟨c0, c1, c2, c3, c4, c5, c6⟩ := F1.out
    clear hb1 F0
    rw [HS] at Kb
    clear HS hS
    go_wp2_with fail
    refine (CT.out _ B1.out).mono ?_
    rintro e w2 ⟨rfl, hb2⟩
    have F2 := hide (five_below F1.out hb2)
    have B2 := hide (bthen B1.out hb2)
    clear c0 c1 c2 c3 c4 c5 c6
    obtain ⟨c0, c1, c2, c3, c4, c5, c6⟩ := F2.out
    clear hb2 F1 B1
    go_wp2_with fail
    refine (CL.out _ B2.out).mono ?_
    rintro e w3 ⟨rfl, hb3⟩
    have F3 := hide (five_below F2.out hb3)
    have B3 := hide (bthen B2.out hb3)
    clear c0 c1 c2 c3 c4 c5 c6
    obtain ⟨c0, c1, c2, c3, c4, c5, c6⟩ := F3.out
    clear hb3 F2 B2
    go_wp2_with fail
    go_ret
    exact ⟨rfl, B3.out⟩

set_option maxHeartbeats 2000000 in
set_option maxRecDepth 100000 in
theorem refRText_10 (a b g l : Int) (p : Bool) (s0 sb tP u0 tG vG u1 : ByteArray) (w : World) (ha : 0 ≤ a) (ha2 : a ≤ 4294967295) (M : Hid (Ad.rmay (a, b, g, l, p) = true))
    (hS : Hid (s0 = if p = true then ⟨#[112, 101, 114, 109, 105, 116]⟩ else ⟨#[100, 101, 110, 121]⟩))
    (Kb : Adds s0 ⟨#[32]⟩ sb) (K0 : Adds sb tP u0) (KG : Adds u0 ⟨#[32, 103, 101, 32]⟩ vG) (K1 : Adds vG tG u1)
    (CT : Hid (∀ W, Below w.heap.size w W → Calls Tryd.prog 34 #[.agg #[.int .u32 a, .int .i64 b]] W fun e w' => e = .returned (.string tP) ∧ Below W.heap.size W w'))
    (CG : Hid (∀ W, Below w.heap.size w W → Calls Tryd.prog 35 #[.int .i64 g] W fun e w' => e = .returned (.string tG) ∧ Below W.heap.size W w'))
    (h1 : b < g) (h2 : ¬ g < l) :
    Calls Tryd.prog 17 #[.agg #[.int .u32 a, .int .i64 b, .int .i64 g, .int .i64 l, .bool p]] w fun e w' => e = .returned (.string u1) ∧ Below w.heap.size w w' := by
  unfold Adds at *
  have F0 := hide (five_box w a b g l p)
  cases p
  all_goals
    have HS := hS.out
    simp at HS
    go_enter Tryd.func17, Tryd.ntmps17
    go_wp2_with fail
    refine (refRMay_is _ _ _ _ _ _ M.out _ ha ha2).mono ?_
    rintro e w1 ⟨rfl, hb1⟩
    have F1 := hide (five_below F0.out hb1)
    have B1 := hide (bthen (balloc (brefl w) _) hb1)
    obtain ⟨c0, c1, c2, c3, c4, c5, c6⟩ := F1.out
    clear hb1 F0
    rw [HS] at Kb
    clear HS hS
    go_wp2_with fail
    refine (CT.out _ B1.out).mono ?_
    rintro e w2 ⟨rfl, hb2⟩
    have F2 := hide (five_below F1.out hb2)
    have B2 := hide (bthen B1.out hb2)
    clear c0 c1 c2 c3 c4 c5 c6
    obtain ⟨c0, c1, c2, c3, c4, c5, c6⟩ := F2.out
    clear hb2 F1 B1
    go_wp2_with fail
    refine (CG.out _ B2.out).mono ?_
    rintro e w3 ⟨rfl, hb3⟩
    have F3 := hide (five_below F2.out hb3)
    have B3 := hide (bthen B2.out hb3)
    clear c0 c1 c2 c3 c4 c5 c6
    obtain ⟨c0, c1, c2, c3, c4, c5, c6⟩ := F3.out
    clear hb3 F2 B2
    go_wp2_with fail
    go_ret
    exact ⟨rfl, B3.out⟩

set_option maxHeartbeats 2000000 in
set_option maxRecDepth 100000 in
theorem refRText_11 (a b g l : Int) (p : Bool) (s0 sb tP u0 tG vG u1 tL vL u2 : ByteArray) (w : World) (ha : 0 ≤ a) (ha2 : a ≤ 4294967295) (M : Hid (Ad.rmay (a, b, g, l, p) = true))
    (hS : Hid (s0 = if p = true then ⟨#[112, 101, 114, 109, 105, 116]⟩ else ⟨#[100, 101, 110, 121]⟩))
    (Kb : Adds s0 ⟨#[32]⟩ sb) (K0 : Adds sb tP u0) (KG : Adds u0 ⟨#[32, 103, 101, 32]⟩ vG) (K1 : Adds vG tG u1) (KL : Adds u1 ⟨#[32, 108, 101, 32]⟩ vL) (K2 : Adds vL tL u2)
    (CT : Hid (∀ W, Below w.heap.size w W → Calls Tryd.prog 34 #[.agg #[.int .u32 a, .int .i64 b]] W fun e w' => e = .returned (.string tP) ∧ Below W.heap.size W w'))
    (CG : Hid (∀ W, Below w.heap.size w W → Calls Tryd.prog 35 #[.int .i64 g] W fun e w' => e = .returned (.string tG) ∧ Below W.heap.size W w'))
    (CL : Hid (∀ W, Below w.heap.size w W → Calls Tryd.prog 35 #[.int .i64 l] W fun e w' => e = .returned (.string tL) ∧ Below W.heap.size W w'))
    (h1 : b < g) (h2 : g < l) :
    Calls Tryd.prog 17 #[.agg #[.int .u32 a, .int .i64 b, .int .i64 g, .int .i64 l, .bool p]] w fun e w' => e = .returned (.string u2) ∧ Below w.heap.size w w' := by
  unfold Adds at *
  have F0 := hide (five_box w a b g l p)
  cases p
  all_goals
    have HS := hS.out
    simp at HS
    go_enter Tryd.func17, Tryd.ntmps17
    go_wp2_with fail
    refine (refRMay_is _ _ _ _ _ _ M.out _ ha ha2).mono ?_
    rintro e w1 ⟨rfl, hb1⟩
    have F1 := hide (five_below F0.out hb1)
    have B1 := hide (bthen (balloc (brefl w) _) hb1)
    obtain ⟨c0, c1, c2, c3, c4, c5, c6⟩ := F1.out
    clear hb1 F0
    rw [HS] at Kb
    clear HS hS
    go_wp2_with fail
    refine (CT.out _ B1.out).mono ?_
    rintro e w2 ⟨rfl, hb2⟩
    have F2 := hide (five_below F1.out hb2)
    have B2 := hide (bthen B1.out hb2)
    clear c0 c1 c2 c3 c4 c5 c6
    obtain ⟨c0, c1, c2, c3, c4, c5, c6⟩ := F2.out
    clear hb2 F1 B1
    go_wp2_with fail
    refine (CG.out _ B2.out).mono ?_
    rintro e w3 ⟨rfl, hb3⟩
    have F3 := hide (five_below F2.out hb3)
    have B3 := hide (bthen B2.out hb3)
    clear c0 c1 c2 c3 c4 c5 c6
    obtain ⟨c0, c1, c2, c3, c4, c5, c6⟩ := F3.out
    clear hb3 F2 B2
    go_wp2_with fail
    refine (CL.out _ B3.out).mono ?_
    rintro e w4 ⟨rfl, hb4⟩
    have F4 := hide (five_below F3.out hb4)
    have B4 := hide (bthen B3.out hb4)
    clear c0 c1 c2 c3 c4 c5 c6
    obtain ⟨c0, c1, c2, c3, c4, c5, c6⟩ := F4.out
    clear hb4 F3 B3
    go_wp2_with fail
    go_ret
    exact ⟨rfl, B4.out⟩

end Go.Proofs.YtkpoanjcalolkaaDoor

