/- Texts. -/
import Derived.Test.YtpmmhmgojjlniaaGreatDoorQ01
import Derived.Test.YtpmmhmgojjlniaaGreatDoorQ02
import Derived.Test.YtpmmhmgojjlniaaGreatDoorQ03
import Derived.Test.YtpmmhmgojjlniaaGreatDoorQ33
import Derived.Test.YtpmmhmgojjlniaaGreatDoorQ37
import Derived.Lib.AppendIntMem
import Derived.Laws.IdiomStrings
import Derived.Laws.Concat
import Derived.Deep.RegionHeld
import Derived.Deep.RegionHeldLaw
namespace Go.Proofs.YtpmmhmgojjlniaaGreatDoor.Ax
open Go.RowKit
/-- The library's table of powers of ten reads as it was laid. -/
def Tab (w : World) : Prop := Lib.TabIs Tryz.prog w "internal/strconv.uint64pow10" .u64 Lib.pow10Tab

theorem Tab.on {w w' : World} (h : Tab w) (hb : Below w.heap.size w w') : Tab w' := Lib.tabBelow_of_tabIs h w' hb

theorem itoa_any (n : Int) (h0 : -9223372036854775808 ≤ n) (h1 : n ≤ 9223372036854775807) (w : World) (h : Tab w) :
    Calls Tryz.prog 136 #[.int .i64 n] w fun e w' => e = .returned (.string ⟨(Lib.itoa n).toArray⟩) ∧ Below w.heap.size w w' := by
  refine (Tryz.strconv_Itoa n h0 h1 w h).mono ?_
  rintro e w' ⟨rfl, k, os, rfl⟩
  exact ⟨rfl, Lib.below_grow _ w (Nat.le_refl _) k os⟩

/-- Itoa's digits, where they are few. -/
def Ad.dgI (n : Int) : List UInt8 := if 0 ≤ n ∧ n ≤ 255 then Lib.itoa n else []

theorem Ad.dgI_len (n : Int) : (Ad.dgI n).length ≤ 100 := by
  unfold Ad.dgI
  split
  · have := Ad.itoa_len3 n (by omega) (by omega); omega
  · simp

theorem Ad.dgI_text (a b : Int) (h0 : 0 ≤ b) (h1 : b ≤ 32) : Ad.text Ad.dgI a b = Ad.textI a b := by
  have g : ∀ n, 0 ≤ n → n ≤ 255 → Ad.dgI n = Lib.itoa n := fun n a b => by unfold Ad.dgI; rw [if_pos ⟨a, b⟩]
  have o := Ad.oct_bd a
  unfold Ad.textI Ad.text Ad.textTo Ad.textTo Ad.textTo Ad.textTo Ad.textTo
  rw [g _ (o 0).1 (o 0).2, g _ (o 1).1 (o 1).2, g _ (o 2).1 (o 2).2, g _ (o 3).1 (o 3).2, g b h0 (by omega)]

theorem text_may (a b : Int) (w : World) (ha : 0 ≤ a) (ha2 : a ≤ 4294967295) (hm : Ad.may a b = true) (ht : Tab w) :
    Calls Tryz.prog 137 #[.agg #[.int .u32 a, .int .i64 b]] w fun e w' => e = .returned (.string ⟨(Ad.textI a b).toArray⟩) ∧ Below w.heap.size w w' := by
  have hb := of_decide_eq_true hm
  rw [← Ad.dgI_text a b hb.1 hb.2.1]
  refine text_yes Ad.dgI a b w ha ha2 hm Ad.dgI_len ?_
  intro n W hn hW
  have hr : 0 ≤ n ∧ n ≤ 255 := by
    rcases hn with rfl | ⟨j, _, rfl⟩
    · omega
    · exact Ad.oct_bd a j
  have e : Ad.dgI n = Lib.itoa n := by unfold Ad.dgI; rw [if_pos hr]
  rw [e]
  exact itoa_any n (by omega) (by omega) W (ht.on hW)

theorem text_not (a b : Int) (w : World) (ha : 0 ≤ a) (ha2 : a ≤ 4294967295) (hm : Ad.may a b = false) :
    Calls Tryz.prog 137 #[.agg #[.int .u32 a, .int .i64 b]] w fun e w' => e = .returned (.string ⟨#[]⟩) ∧ Below w.heap.size w w' := by
  go_enter Tryz.func137, Tryz.ntmps137
  go_wp2_with fail
  refine (may_is _ _ _ hm _ ha ha2).mono ?_
  rintro e w1 ⟨rfl, hb1⟩
  go_wp2_with fail
  go_ret
  exact ⟨rfl, bthen (balloc (brefl w) _) hb1⟩

/-- A prefix's text; none where it may not be. -/
def Ad.textA (a b : Int) : List UInt8 := if Ad.may a b = true then Ad.textI a b else []

theorem text_any (a b : Int) (w : World) (ha : 0 ≤ a) (ha2 : a ≤ 4294967295) (ht : Tab w) :
    Calls Tryz.prog 137 #[.agg #[.int .u32 a, .int .i64 b]] w fun e w' => e = .returned (.string ⟨(Ad.textA a b).toArray⟩) ∧ Below w.heap.size w w' := by
  unfold Ad.textA
  cases hm : Ad.may a b
  · exact text_not a b w ha ha2 hm
  · exact text_may a b w ha ha2 hm ht

end Go.Proofs.YtpmmhmgojjlniaaGreatDoor.Ax
namespace Go.Proofs.YtpmmhmgojjlniaaGreatDoor.Ax
open Go.RowKit
theorem Ad.rmay_iff (r : Ad.R) : Ad.rmay r = true ↔ Ad.may r.1 r.2.1 = true ∧ r.2.1 ≤ r.2.2.1 ∧ r.2.2.1 ≤ r.2.2.2.1 ∧ r.2.2.2.1 ≤ 32 := by
  unfold Ad.rmay; simp [and_assoc]

def Ad.tword (p : Bool) : List UInt8 := if p = true then [112, 101, 114, 109, 105, 116, 32] else [100, 101, 110, 121, 32]
/-- What stands behind a rule's prefix. -/
def Ad.tge (b g : Int) : List UInt8 := if g = b then [] else [32, 103, 101, 32] ++ Lib.itoa g
def Ad.tle (g l : Int) : List UInt8 := if l = g then [] else [32, 108, 101, 32] ++ Lib.itoa l
/-- A rule's text. -/
def Ad.rtext (r : Ad.R) : List UInt8 := if Ad.rmay r = true then Ad.tword r.2.2.2.2 ++ Ad.textI r.1 r.2.1 ++ Ad.tge r.2.1 r.2.2.1 ++ Ad.tle r.2.2.1 r.2.2.2.1 else []

theorem Ad.ba_app (a b : List UInt8) : (⟨a.toArray⟩ : ByteArray) ++ ⟨b.toArray⟩ = ⟨(a ++ b).toArray⟩ := by
  apply ByteArray.ext
  simp [ByteArray.data_append]

/-- Two texts joined make a third one. -/
def Adds (x y z : ByteArray) : Prop := ∀ W : World, (Op.stringOp .add x y).run Tryz.prog W = .ok (.string z) W

theorem adds_mk (x y z : ByteArray) (h : x.size + y.size ≤ maxLen) (hz : x ++ y = z) : Adds x y z := by
  intro W
  subst hz
  exact run_string_add_sum W x y h


end Go.Proofs.YtpmmhmgojjlniaaGreatDoor.Ax
namespace Go.Proofs.YtpmmhmgojjlniaaGreatDoor.Ax
open Go.RowKit
/-- A rule's five cells read there, in this world; and its block is an old one. -/
def Five (w : World) (n : Nat) (a b g l : Int) (p : Bool) : Prop := w.cell? ⟨n, 0, none⟩ = some (.int .u32 a) ∧ w.cell? ⟨n, 1, none⟩ = some (.int .i64 b) ∧ w.cell? ⟨n, 2, none⟩ = some (.int .i64 g) ∧ w.cell? ⟨n, 3, none⟩ = some (.int .i64 l) ∧ w.cell? ⟨n, 4, none⟩ = some (.bool p) ∧ n < w.heap.size ∧ n < w.heap.size + 1
theorem five_box (w : World) (a b g l : Int) (p : Bool) : Five (w.alloc (.cells #[.int .u32 a, .int .i64 b, .int .i64 g, .int .i64 l, .bool p] 97)) w.heap.size a b g l p :=
  ⟨by simp, by simp, by simp, by simp, by simp, by simp, by simp; omega⟩
theorem five_below {W w1 : World} {n : Nat} {a b g l : Int} {p : Bool} (h : Five W n a b g l p) (hb : Below W.heap.size W w1) : Five w1 n a b g l p := by
  obtain ⟨h0, h1, h2, h3, h4, h5, h6⟩ := h
  have k := fun i => hb.cell (p := ⟨n, i, none⟩) h5
  have := hb.size
  exact ⟨(k 0).trans h0, (k 1).trans h1, (k 2).trans h2, (k 3).trans h3, (k 4).trans h4, by omega, by omega⟩

set_option maxHeartbeats 1000000 in
theorem ptext_not (a b g l : Int) (p : Bool) (w : World) (ha : 0 ≤ a) (ha2 : a ≤ 4294967295) (hm : Ad.rmay (a, b, g, l, p) = false) :
    Calls Tryz.prog 132 #[.agg #[.int .u32 a, .int .i64 b, .int .i64 g, .int .i64 l, .bool p]] w fun e w' => e = .returned (.string ⟨#[]⟩) ∧ Below w.heap.size w w' := by
  go_enter Tryz.func132, Tryz.ntmps132
  go_wp2_with fail
  refine (rmay_is _ _ _ _ _ _ hm _ ha ha2).mono ?_
  rintro e w1 ⟨rfl, hb1⟩
  go_wp2_with fail
  go_ret
  exact ⟨rfl, bthen (balloc (brefl w) _) hb1⟩

set_option maxHeartbeats 2000000 in
set_option maxRecDepth 100000 in
theorem ptext_00 (a b g l : Int) (p : Bool) (s0 tP u0 : ByteArray) (w : World) (ha : 0 ≤ a) (ha2 : a ≤ 4294967295) (M : Hid (Ad.rmay (a, b, g, l, p) = true))
    (hS : Hid (s0 = if p = true then ⟨#[112, 101, 114, 109, 105, 116, 32]⟩ else ⟨#[100, 101, 110, 121, 32]⟩))
    (K0 : Adds s0 tP u0)
    (CT : Hid (∀ W, Below w.heap.size w W → Calls Tryz.prog 137 #[.agg #[.int .u32 a, .int .i64 b]] W fun e w' => e = .returned (.string tP) ∧ Below W.heap.size W w'))
    (h1 : (g != b) = false) (h2 : (l != g) = false) :
    Calls Tryz.prog 132 #[.agg #[.int .u32 a, .int .i64 b, .int .i64 g, .int .i64 l, .bool p]] w fun e w' => e = .returned (.string u0) ∧ Below w.heap.size w w' := by
  unfold Adds at *
  have F0 := hide (five_box w a b g l p)
  cases p
  all_goals
    have HS := hS.out
    simp at HS
    go_enter Tryz.func132, Tryz.ntmps132
    go_wp2_with fail
    refine (rmay_is _ _ _ _ _ _ M.out _ ha ha2).mono ?_
    rintro e w1 ⟨rfl, hb1⟩
    have F1 := hide (five_below F0.out hb1)
    have B1 := hide (bthen (balloc (brefl w) _) hb1)
    obtain ⟨c0, c1, c2, c3, c4, c5, c6⟩ := F1.out
    clear hb1 F0
    rw [HS] at K0
    clear HS hS
    go_wp2_with fail
    refine (CT.out _ B1.out).mono ?_
    rintro e w2 ⟨rfl, hb2⟩
    have F2 := hide (five_below F1.out hb2)
    have B2 := hide (bthen B1.out hb2)
    clear c0 c1 c2 c3 c4 c5 c6
    obtain ⟨c0, c1, c2, c3, c4, c5, c6⟩ := F2.out
    clear hb2 F1 B1
    go_wp2_with fail
    go_ret
    exact ⟨rfl, B2.out⟩

set_option maxHeartbeats 2000000 in
set_option maxRecDepth 100000 in
theorem ptext_01 (a b g l : Int) (p : Bool) (s0 tP u0 tL vL u2 : ByteArray) (w : World) (ha : 0 ≤ a) (ha2 : a ≤ 4294967295) (M : Hid (Ad.rmay (a, b, g, l, p) = true))
    (hS : Hid (s0 = if p = true then ⟨#[112, 101, 114, 109, 105, 116, 32]⟩ else ⟨#[100, 101, 110, 121, 32]⟩))
    (K0 : Adds s0 tP u0) (KL : Adds ⟨#[32, 108, 101, 32]⟩ tL vL) (K2 : Adds u0 vL u2)
    (CT : Hid (∀ W, Below w.heap.size w W → Calls Tryz.prog 137 #[.agg #[.int .u32 a, .int .i64 b]] W fun e w' => e = .returned (.string tP) ∧ Below W.heap.size W w'))
    (CL : Hid (∀ W, Below w.heap.size w W → Calls Tryz.prog 136 #[.int .i64 l] W fun e w' => e = .returned (.string tL) ∧ Below W.heap.size W w'))
    (h1 : (g != b) = false) (h2 : (l != g) = true) :
    Calls Tryz.prog 132 #[.agg #[.int .u32 a, .int .i64 b, .int .i64 g, .int .i64 l, .bool p]] w fun e w' => e = .returned (.string u2) ∧ Below w.heap.size w w' := by
  unfold Adds at *
  have F0 := hide (five_box w a b g l p)
  cases p
  all_goals
    have HS := hS.out
    simp at HS
    go_enter Tryz.func132, Tryz.ntmps132
    go_wp2_with fail
    refine (rmay_is _ _ _ _ _ _ M.out _ ha ha2).mono ?_
    rintro e w1 ⟨rfl, hb1⟩
    have F1 := hide (five_below F0.out hb1)
    have B1 := hide (bthen (balloc (brefl w) _) hb1)
    obtain ⟨c0, c1, c2, c3, c4, c5, c6⟩ := F1.out
    clear hb1 F0
    rw [HS] at K0
    clear HS hS
    go_wp2_with fail
    refine (CT.out _ B1.out).mono ?_
    rintro e w2 ⟨rfl, hb2⟩
    have F2 := hide (five_below F1.out hb2)
    have B2 := hide (bthen B1.out hb2)
    clear c0 c1 c2 c3 c4 c5 c6
    obtain ⟨c0, c1, c2, c3, c4, c5, c6⟩ := F2.out
    clear hb2 F1 B1
    go_wp2_with fail
    refine (CL.out _ B2.out).mono ?_
    rintro e w3 ⟨rfl, hb3⟩
    have F3 := hide (five_below F2.out hb3)
    have B3 := hide (bthen B2.out hb3)
    clear c0 c1 c2 c3 c4 c5 c6
    obtain ⟨c0, c1, c2, c3, c4, c5, c6⟩ := F3.out
    clear hb3 F2 B2
    go_wp2_with fail
    go_ret
    exact ⟨rfl, B3.out⟩

set_option maxHeartbeats 2000000 in
set_option maxRecDepth 100000 in
theorem ptext_10 (a b g l : Int) (p : Bool) (s0 tP u0 tG vG u1 : ByteArray) (w : World) (ha : 0 ≤ a) (ha2 : a ≤ 4294967295) (M : Hid (Ad.rmay (a, b, g, l, p) = true))
    (hS : Hid (s0 = if p = true then ⟨#[112, 101, 114, 109, 105, 116, 32]⟩ else ⟨#[100, 101, 110, 121, 32]⟩))
    (K0 : Adds s0 tP u0) (KG : Adds ⟨#[32, 103, 101, 32]⟩ tG vG) (K1 : Adds u0 vG u1)
    (CT : Hid (∀ W, Below w.heap.size w W → Calls Tryz.prog 137 #[.agg #[.int .u32 a, .int .i64 b]] W fun e w' => e = .returned (.string tP) ∧ Below W.heap.size W w'))
    (CG : Hid (∀ W, Below w.heap.size w W → Calls Tryz.prog 136 #[.int .i64 g] W fun e w' => e = .returned (.string tG) ∧ Below W.heap.size W w'))
    (h1 : (g != b) = true) (h2 : (l != g) = false) :
    Calls Tryz.prog 132 #[.agg #[.int .u32 a, .int .i64 b, .int .i64 g, .int .i64 l, .bool p]] w fun e w' => e = .returned (.string u1) ∧ Below w.heap.size w w' := by
  unfold Adds at *
  have F0 := hide (five_box w a b g l p)
  cases p
  all_goals
    have HS := hS.out
    simp at HS
    go_enter Tryz.func132, Tryz.ntmps132
    go_wp2_with fail
    refine (rmay_is _ _ _ _ _ _ M.out _ ha ha2).mono ?_
    rintro e w1 ⟨rfl, hb1⟩
    have F1 := hide (five_below F0.out hb1)
    have B1 := hide (bthen (balloc (brefl w) _) hb1)
    obtain ⟨c0, c1, c2, c3, c4, c5, c6⟩ := F1.out
    clear hb1 F0
    rw [HS] at K0
    clear HS hS
    go_wp2_with fail
    refine (CT.out _ B1.out).mono ?_
    rintro e w2 ⟨rfl, hb2⟩
    have F2 := hide (five_below F1.out hb2)
    have B2 := hide (bthen B1.out hb2)
    clear c0 c1 c2 c3 c4 c5 c6
    obtain ⟨c0, c1, c2, c3, c4, c5, c6⟩ := F2.out
    clear hb2 F1 B1
    go_wp2_with fail
    refine (CG.out _ B2.out).mono ?_
    rintro e w3 ⟨rfl, hb3⟩
    have F3 := hide (five_below F2.out hb3)
    have B3 := hide (bthen B2.out hb3)
    clear c0 c1 c2 c3 c4 c5 c6
    obtain ⟨c0, c1, c2, c3, c4, c5, c6⟩ := F3.out
    clear hb3 F2 B2
    go_wp2_with fail
    go_ret
    exact ⟨rfl, B3.out⟩

set_option maxHeartbeats 2000000 in
set_option maxRecDepth 100000 in
theorem ptext_11 (a b g l : Int) (p : Bool) (s0 tP u0 tG vG u1 tL vL u2 : ByteArray) (w : World) (ha : 0 ≤ a) (ha2 : a ≤ 4294967295) (M : Hid (Ad.rmay (a, b, g, l, p) = true))
    (hS : Hid (s0 = if p = true then ⟨#[112, 101, 114, 109, 105, 116, 32]⟩ else ⟨#[100, 101, 110, 121, 32]⟩))
    (K0 : Adds s0 tP u0) (KG : Adds ⟨#[32, 103, 101, 32]⟩ tG vG) (K1 : Adds u0 vG u1) (KL : Adds ⟨#[32, 108, 101, 32]⟩ tL vL) (K2 : Adds u1 vL u2)
    (CT : Hid (∀ W, Below w.heap.size w W → Calls Tryz.prog 137 #[.agg #[.int .u32 a, .int .i64 b]] W fun e w' => e = .returned (.string tP) ∧ Below W.heap.size W w'))
    (CG : Hid (∀ W, Below w.heap.size w W → Calls Tryz.prog 136 #[.int .i64 g] W fun e w' => e = .returned (.string tG) ∧ Below W.heap.size W w'))
    (CL : Hid (∀ W, Below w.heap.size w W → Calls Tryz.prog 136 #[.int .i64 l] W fun e w' => e = .returned (.string tL) ∧ Below W.heap.size W w'))
    (h1 : (g != b) = true) (h2 : (l != g) = true) :
    Calls Tryz.prog 132 #[.agg #[.int .u32 a, .int .i64 b, .int .i64 g, .int .i64 l, .bool p]] w fun e w' => e = .returned (.string u2) ∧ Below w.heap.size w w' := by
  unfold Adds at *
  have F0 := hide (five_box w a b g l p)
  cases p
  all_goals
    have HS := hS.out
    simp at HS
    go_enter Tryz.func132, Tryz.ntmps132
    go_wp2_with fail
    refine (rmay_is _ _ _ _ _ _ M.out _ ha ha2).mono ?_
    rintro e w1 ⟨rfl, hb1⟩
    have F1 := hide (five_below F0.out hb1)
    have B1 := hide (bthen (balloc (brefl w) _) hb1)
    obtain ⟨c0, c1, c2, c3, c4, c5, c6⟩ := F1.out
    clear hb1 F0
    rw [HS] at K0
    clear HS hS
    go_wp2_with fail
    refine (CT.out _ B1.out).mono ?_
    rintro e w2 ⟨rfl, hb2⟩
    have F2 := hide (five_below F1.out hb2)
    have B2 := hide (bthen B1.out hb2)
    clear c0 c1 c2 c3 c4 c5 c6
    obtain ⟨c0, c1, c2, c3, c4, c5, c6⟩ := F2.out
    clear hb2 F1 B1
    go_wp2_with fail
    refine (CG.out _ B2.out).mono ?_
    rintro e w3 ⟨rfl, hb3⟩
    have F3 := hide (five_below F2.out hb3)
    have B3 := hide (bthen B2.out hb3)
    clear c0 c1 c2 c3 c4 c5 c6
    obtain ⟨c0, c1, c2, c3, c4, c5, c6⟩ := F3.out
    clear hb3 F2 B2
    go_wp2_with fail
    refine (CL.out _ B3.out).mono ?_
    rintro e w4 ⟨rfl, hb4⟩
    have F4 := hide (five_below F3.out hb4)
    have B4 := hide (bthen B3.out hb4)
    clear c0 c1 c2 c3 c4 c5 c6
    obtain ⟨c0, c1, c2, c3, c4, c5, c6⟩ := F4.out
    clear hb4 F3 B3
    go_wp2_with fail
    go_ret
    exact ⟨rfl, B4.out⟩

theorem Ad.textI_len (a b : Int) (h0 : 0 ≤ b) (h1 : b ≤ 32) : (Ad.textI a b).length ≤ 100 := by
  rw [Ad.textI_eq]
  have l := fun j => Ad.itoa_len3 _ (Ad.oct_bd a j).1 (by have := (Ad.oct_bd a j).2; omega)
  have l0 := l 0
  have l1 := l 1
  have l2 := l 2
  have l3 := l 3
  have l4 := Ad.itoa_len3 b h0 (by omega)
  simp only [List.length_append, List.length_cons]
  omega


theorem adds_list (x y : List UInt8) (h1 : x.length ≤ 1000) (h2 : y.length ≤ 1000) : Adds ⟨x.toArray⟩ ⟨y.toArray⟩ ⟨(x ++ y).toArray⟩ := by
  have sz : ∀ x : List UInt8, (⟨x.toArray⟩ : ByteArray).size = x.length := fun x => by simp [ByteArray.size]
  exact adds_mk _ _ _ (by rw [sz, sz]; unfold maxLen; omega) (Ad.ba_app x y)


/-- The word of a rule, without the blank. -/
def Ad.tword0 (p : Bool) : List UInt8 := if p = true then [112, 101, 114, 109, 105, 116] else [100, 101, 110, 121]

theorem Ad.tword_eq (p : Bool) : Ad.tword p = Ad.tword0 p ++ [32] := by cases p <;> rfl

theorem Ad.tword_len (p : Bool) : (Ad.tword p).length ≤ 7 := by cases p <;> decide

theorem Ad.tword0_len (p : Bool) : (Ad.tword0 p).length ≤ 6 := by cases p <;> decide

theorem Ad.word_is (p : Bool) : (⟨(Ad.tword p).toArray⟩ : ByteArray) = if p = true then ⟨#[112, 101, 114, 109, 105, 116, 32]⟩ else ⟨#[100, 101, 110, 121, 32]⟩ := by cases p <;> rfl

theorem Ad.word0_is (p : Bool) : (⟨(Ad.tword0 p).toArray⟩ : ByteArray) = if p = true then ⟨#[112, 101, 114, 109, 105, 116]⟩ else ⟨#[100, 101, 110, 121]⟩ := by cases p <;> rfl


theorem ptext_any (a b g l : Int) (p : Bool) (w : World) (ha : 0 ≤ a) (ha2 : a ≤ 4294967295) (ht : Tab w) :
    Calls Tryz.prog 132 #[.agg #[.int .u32 a, .int .i64 b, .int .i64 g, .int .i64 l, .bool p]] w fun e w' => e = .returned (.string ⟨(Ad.rtext (a, b, g, l, p)).toArray⟩) ∧ Below w.heap.size w w' := by
  cases hm : Ad.rmay (a, b, g, l, p)
  · have e : Ad.rtext (a, b, g, l, p) = [] := by unfold Ad.rtext; rw [if_neg (by rw [hm]; decide)]
    rw [e]
    exact ptext_not a b g l p w ha ha2 hm
  · have e : Ad.rtext (a, b, g, l, p) = Ad.tword p ++ Ad.textI a b ++ Ad.tge b g ++ Ad.tle g l := by unfold Ad.rtext; rw [if_pos hm]
    rw [e]
    obtain ⟨r1, r2, r3, r4⟩ := (Ad.rmay_iff _).1 hm
    simp only at r1 r2 r3 r4
    obtain ⟨b0, b1, _⟩ := (Ad.may_iff _ _).1 r1
    have L1 := Ad.textI_len a b b0 b1
    have L0 := Ad.tword_len p
    have Lg := Ad.itoa_len3 g (by omega) (by omega)
    have Ll := Ad.itoa_len3 l (by omega) (by omega)
    have CT : Hid (∀ W, Below w.heap.size w W → Calls Tryz.prog 137 #[.agg #[.int .u32 a, .int .i64 b]] W fun e w' => e = .returned (.string ⟨(Ad.textI a b).toArray⟩) ∧ Below W.heap.size W w') := hide fun W hW => text_may a b W ha ha2 r1 (ht.on hW)
    have CG : Hid (∀ W, Below w.heap.size w W → Calls Tryz.prog 136 #[.int .i64 g] W fun e w' => e = .returned (.string ⟨(Lib.itoa g).toArray⟩) ∧ Below W.heap.size W w') := hide fun W hW => itoa_any g (by omega) (by omega) W (ht.on hW)
    have CL : Hid (∀ W, Below w.heap.size w W → Calls Tryz.prog 136 #[.int .i64 l] W fun e w' => e = .returned (.string ⟨(Lib.itoa l).toArray⟩) ∧ Below W.heap.size W w') := hide fun W hW => itoa_any l (by omega) (by omega) W (ht.on hW)
    have K0 := adds_list (Ad.tword p) (Ad.textI a b) (by omega) (by omega)
    have KG := adds_list [32, 103, 101, 32] (Lib.itoa g) (by decide) (by omega)
    have KL := adds_list [32, 108, 101, 32] (Lib.itoa l) (by decide) (by omega)
    unfold Ad.tge Ad.tle
    by_cases hg : g = b
    · rw [if_pos hg, List.append_nil]
      by_cases hl : l = g
      · rw [if_pos hl, List.append_nil]
        exact ptext_00 a b g l p _ _ _ w ha ha2 hm (Ad.word_is p) K0 CT (by simpa using hg) (by simpa using hl)
      · rw [if_neg hl]
        exact ptext_01 a b g l p _ _ _ _ _ _ w ha ha2 hm (Ad.word_is p) K0 KL (adds_list _ _ (by simp; omega) (by simp; omega)) CT CL (by simpa using hg) (by simpa using hl)
    · rw [if_neg hg]
      have K1 := adds_list (Ad.tword p ++ Ad.textI a b) ([32, 103, 101, 32] ++ Lib.itoa g) (by simp; omega) (by simp; omega)
      by_cases hl : l = g
      · rw [if_pos hl, List.append_nil]
        exact ptext_10 a b g l p _ _ _ _ _ _ w ha ha2 hm (Ad.word_is p) K0 KG K1 CT CG (by simpa using hg) (by simpa using hl)
      · rw [if_neg hl]
        exact ptext_11 a b g l p _ _ _ _ _ _ _ _ _ w ha ha2 hm (Ad.word_is p) K0 KG K1 KL (adds_list _ _ (by simp; omega) (by simp; omega)) CT CG CL (by simpa using hg) (by simpa using hl)


end Go.Proofs.YtpmmhmgojjlniaaGreatDoor.Ax
namespace Go.Proofs.YtpmmhmgojjlniaaGreatDoor
open Go.RowKit Go.Sort
theorem join_one (x s : List UInt8) : Lib.join [x] s = x := by simp [Lib.join]
theorem sayT_one (x : ByteArray) : sayT [x] = x ++ ⟨#[59]⟩ := by
  unfold sayT wordsT
  rw [show ([x].map (·.data.toList)) = [x.data.toList] from rfl, join_one]
/-- A rule as it is written. -/
def ruleT (r : Rg) : ByteArray := ⟨(Ax.Ad.rtext (r.ad, r.bits, r.ge, r.le, r.ok)).toArray⟩
def ruleB (d : Nat) (r : Rg) : List UInt8 := lineB d (sayT [ruleT r])
def rulesB (d : Nat) (l : List Rg) : List UInt8 := l.flatMap (ruleB d)
theorem flat_take {α : Type} (f : α → List UInt8) (l : List α) (k : Nat) : ((l.take k).flatMap f).length ≤ (l.flatMap f).length := by
  conv => rhs; rw [← List.take_append_drop k l, List.flatMap_append, List.length_append]
  omega
theorem flat_snoc {α : Type} (f : α → List UInt8) (l : List α) (k : Nat) (h : k < l.length) : (l.take (k + 1)).flatMap f = (l.take k).flatMap f ++ f l[k] := by
  rw [List.take_succ_eq_append_getElem h, List.flatMap_append]
  simp
set_option maxHeartbeats 4000000 in
set_option maxRecDepth 100000 in
theorem listIn_is (WB W0 : World) (b d bl bw : Nat) (name : ByteArray) (v : Value) (l : List Rg) (hW0 : Below WB.heap.size WB W0) (hl : Rd WB 5 RgR v l) (ht : Tab WB) (hu : ∀ r ∈ l, 0 ≤ r.ad ∧ r.ad ≤ 4294967295) (hn : l.length ≤ 1000) (hd : d ≤ 10) (hs : ∀ r ∈ l, (ruleT r).size ≤ 400)
    (hbl : W0.heap[bl]? = some (.cells #[.string name, v] 48 (0, 0))) (hbw : W0.heap[bw]? = some (.cells #[.pointer (some ⟨b, 0, none⟩)] 119 (0, 0))) (hnl : bl ≠ b) (hnw : bw ≠ b) :
    FnDoes W0 130 #[.pointer (some ⟨bl, 0, none⟩), .pointer (some ⟨bw, 0, none⟩)] WB.heap.size b d (rulesB d l) 1000 where
  enter := fun args w => by go_simp
  ok := fun W x hW hK hwr hz => by
    obtain ⟨o, c, rfl⟩ := hl.slice
    have hB0 := hide (hW0.trans hW)
    have HL := hide (hK _ _ _ _ hbl (by decide) hnl)
    have HW := hide (hK _ _ _ _ hbw (by decide) hnw)
    have HRD := hide hl
    have HT := hide ht
    have HU := hide hu
    have HSZ := hide hs
    have HX := hide hwr
    have hBW : WB.heap.size ≤ W.heap.size := Nat.le_trans hW0.size hW.size
    have hz2 : x.length + (rulesB d l).length + 1000 ≤ 100000000 := hz
    clear hl hbl hbw hK hW hW0 ht hu hs hwr hz
    have n1 := cell_of HL.out 1 rfl
    go_enter Tryz.func130, Tryz.ntmps130
    go_wp2_with fail
    clear n1
    go_loopw [7] (fun v7 wr => ∃ k : Nat, v7 = .int .i64 k ∧ k ≤ l.length ∧ Hid (IsWr WB.heap.size b (Lib.byteCells (x ++ rulesB d (l.take k))) d wr) ∧ Hid (Below WB.heap.size W wr) ∧ Hid (KeptB b W wr)) (fun v7 _ => l.length - (intOf v7).toNat)
    case atStart => exact ⟨0, rfl, Nat.zero_le _, by show IsWr _ _ _ _ _; rw [show rulesB d (l.take 0) = [] from rfl, List.append_nil]; exact HX.out, Below.refl _ W, KeptB.refl b W⟩
    case round =>
      obtain ⟨k, rfl, hk, HIS, HBR, HK⟩ := hrel
      by_cases hkl : k < l.length
      · have hkl' : (k : Int) < (l.length : Int) := by omega
        obtain ⟨b2, off, xs, rfl, hbw, hx, ha⟩ := (Rd.below RgR.mono HRD.out (hB0.out.trans HBR.out)).at_ hkl
        have hr := HU.out l[k] (List.getElem_mem hkl)
        have hsz := HSZ.out l[k] (List.getElem_mem hkl)
        have HN := hide (show rulesB d (l.take (k + 1)) = rulesB d (l.take k) ++ ruleB d l[k] from flat_snoc _ _ _ hkl)
        have hlen : (rulesB d (l.take k)).length ≤ (rulesB d l).length := flat_take _ _ _
        have HPT : Hid (∀ W2, Below wr.heap.size wr W2 → Calls Tryz.prog 132 #[.agg #[.int .u32 l[k].ad, .int .i64 l[k].bits, .int .i64 l[k].ge, .int .i64 l[k].le, .bool l[k].ok]] W2 fun e w' => e = .returned (.string (ruleT l[k])) ∧ Below W2.heap.size W2 w') := fun W2 h2 => Ax.ptext_any _ _ _ _ _ W2 hr.1 hr.2 (Tab.on HT.out (below_less ((hB0.out.trans HBR.out).trans (below_less h2 (Nat.le_trans hBW HBR.out.size))) (Nat.le_refl _)))
        have HSAY : Hid (∀ W2, IsWr WB.heap.size b (Lib.byteCells (x ++ rulesB d (l.take k))) d W2 → WB.heap.size ≤ W2.heap.size → Calls Tryz.prog 131 #[.pointer (some ⟨b, 0, none⟩), .slice (some ⟨W2.heap.size, 0, none⟩) 1 1] (W2.alloc (.cells #[.string (ruleT l[k])] 9)) fun e w' => e = .returned (.tuple #[]) ∧ IsWr WB.heap.size b (Lib.byteCells (x ++ rulesB d (l.take k) ++ ruleB d l[k])) d w' ∧ Below WB.heap.size W2 w' ∧ KeptB b W2 w') := fun W2 h2 hB => sayRow [ruleT l[k]] WB.heap.size b _ d W2 h2 (by simp) (by rw [sayT_one, ByteArray.size_append, List.length_append]; show _ + (_ + 1) + 1 ≤ _; omega) hB
        generalize ruleB d l[k] = RB at *
        generalize ruleT l[k] = rt at *
        generalize l[k] = r at *
        unfold RgR at hx
        subst hx
        have e0 := ha 0 _ rfl
        have e1 := ha 1 _ rfl
        have e2 := ha 2 _ rfl
        have e3 := ha 3 _ rfl
        have e4 := ha 4 _ rfl
        simp only [Nat.add_zero] at e0
        clear ha
        have A2 := balloc (brefl wr) (.cells #[.int .u32 r.ad, .int .i64 r.bits, .int .i64 r.ge, .int .i64 r.le, .bool r.ok] 97)
        have N2 := hide (heap_new wr #[.int .u32 r.ad, .int .i64 r.bits, .int .i64 r.ge, .int .i64 r.le, .bool r.ok] 97)
        have HW2 := hide ((A2.block bw (heap_lt (HK.out _ _ _ _ HW.out (by decide) hnw))).trans (HK.out _ _ _ _ HW.out (by decide) hnw))
        have HIS2 := hide (HIS.out.below A2)
        have HA2 := hide A2
        have HPT2 := hide (fun W2 h2 => HPT.out W2 (bthen A2 h2))
        clear A2 HPT
        go_upto_region 3 with fail
        have D := Below.drew (brefl (wr.alloc (.cells #[.int .u32 r.ad, .int .i64 r.bits, .int .i64 r.ge, .int .i64 r.le, .bool r.ok] 97)))
        have HW3 := hide ((D.block bw (heap_lt HW2.out)).trans HW2.out)
        have N3 := hide ((D.block wr.heap.size (heap_lt N2.out)).trans N2.out)
        have HIS3 := hide (HIS2.out.below D)
        have HA3 := hide (bthen HA2.out D)
        have HPT3 := hide (HPT2.out _ D)
        refine wp_region_held_drew (S := (fun w' => w'.cell? ⟨bw, 0, none⟩ = some (.pointer (some ⟨b, 0, none⟩)))) (by kernel_rfl) (cell_of HW3.out 0 rfl) (fun hHeld => ?_)
        clear D HW2 HIS2 HPT2 N2 e0 e1 e2 e3 e4
        obtain ⟨bx, hbx⟩ : ∃ y, wr.heap.size = y := ⟨_, rfl⟩
        rw [hbx] at N3
        generalize (wr.alloc (.cells #[.int .u32 r.ad, .int .i64 r.bits, .int .i64 r.ge, .int .i64 r.le, .bool r.ok] 97)).drew = w3 at *
        clear HA2
        try rw [hbx]
        refine wpAnyH_take (i := 0) (v := .pointer (some ⟨b, 0, none⟩)) rfl (by kernel_rfl) (by kernel_rfl) (by kernel_rfl) (fun _ _ _ h => h) (Or.inl ⟨by rfl, fun w hSw => by dsimp only at hSw; go_simp⟩) hHeld ?_
        simp only [Act.put, List.getElem_toArray, List.getElem_cons_zero, List.setIfInBounds_toArray, List.set_cons_zero, List.set_cons_succ]
        refine wpAnyH_ready (rs := [1]) (by kernel_rfl) (by simp) ?_
        refine AllReadyH.cons rfl (fun K hK => ?_) AllReadyH.nil
        have n0 := cell_of N3.out 0 rfl
        have n1 := cell_of N3.out 1 rfl
        have n2 := cell_of N3.out 2 rfl
        have n3 := cell_of N3.out 3 rfl
        have n4 := cell_of N3.out 4 rfl
        go_simp
        refine hK.out _ _ (cell_of HW3.out 0 rfl) (fun hHeld => ?_)
        clear hK K n0 n1 n2 n3 n4 N3
        try simp only [Act.put, List.getElem_toArray, List.getElem_cons_zero, List.getElem_cons_succ, List.setIfInBounds_toArray, List.set_cons_zero, List.set_cons_succ]
        refine wpAnyH_ready (rs := [2]) (by kernel_rfl) (by simp) ?_
        refine AllReadyH.cons rfl (fun K hK => ?_) AllReadyH.nil
        go_simp
        go_wp2_with (refine HPT3.out.mono ?_; rintro e w4 ⟨rfl, hb4⟩)
        have HW4 := hide ((hb4.block bw (heap_lt HW3.out)).trans HW3.out)
        have HIS4 := hide (HIS3.out.below hb4)
        have HA4 := hide (bthen HA3.out hb4)
        clear hb4 HPT3 HW3 HIS3 HA3
        refine hK.out _ _ (cell_of HW4.out 0 rfl) (fun hHeld => ?_)
        clear hK K
        try simp only [Act.put, List.getElem_toArray, List.getElem_cons_zero, List.getElem_cons_succ, List.setIfInBounds_toArray, List.set_cons_zero, List.set_cons_succ]
        have B4 := hide (HBR.out.trans (below_less HA4.out (Nat.le_trans hBW HBR.out.size)))
        have K4 := hide (HK.out.below HA4.out)
        have CS := hide (HSAY.out w4 HIS4.out (Nat.le_trans hBW B4.out.size))
        have A5 := hide (balloc (brefl w4) (.cells #[.string rt] 9))
        have HW5 := hide ((A5.out.block bw (heap_lt HW4.out)).trans HW4.out)
        refine wpAnyH_ready (rs := [3]) (by kernel_rfl) (by simp) ?_
        refine AllReadyH.cons rfl (fun K hK => ?_) AllReadyH.nil
        go_simp
        refine hK.out _ _ (cell_of HW5.out 0 rfl) (fun hHeld => ?_)
        clear hK K
        try simp only [Act.put, List.getElem_toArray, List.getElem_cons_zero, List.getElem_cons_succ, List.setIfInBounds_toArray, List.set_cons_zero, List.set_cons_succ]
        refine wpAnyH_ready (rs := [4]) (by kernel_rfl) (by simp) ?_
        refine AllReadyH.cons rfl (fun K hK => ?_) AllReadyH.nil
        go_simp
        go_wp2_with (refine CS.out.mono ?_; rintro e w6 ⟨rfl, h6, hb6, hk6⟩)
        have HW6 := hide (hk6 _ _ _ _ HW4.out (by decide) hnw)
        have W6 : Hid (IsWr WB.heap.size b (Lib.byteCells (x ++ rulesB d (l.take (k + 1)))) d w6) := by
          show IsWr _ _ _ _ _
          rw [HN.out, ← List.append_assoc]
          exact h6
        have B6 := hide (B4.out.trans hb6)
        have K6 := hide (K4.out.trans hk6)
        clear h6 hb6 hk6 CS
        refine hK.out _ _ (cell_of HW6.out 0 rfl) (fun hHeld => ?_)
        clear hK K
        try simp only [Act.put, List.getElem_toArray, List.getElem_cons_zero, List.getElem_cons_succ, List.setIfInBounds_toArray, List.set_cons_zero, List.set_cons_succ]
        refine wpAnyH_done (by kernel_rfl) ?_ _
        clear hHeld
        go_wp2_with fail
        exact ⟨⟨k + 1, by go_num, by omega, W6, B6, K6⟩, by simp [intOf] <;> omega⟩
      · have hkl' : ¬ (k : Int) < (l.length : Int) := by omega
        obtain rfl : k = l.length := by omega
        rw [List.take_length] at HIS
        go_wp2_with fail
        go_end0
        exact ⟨rfl, HIS.out, HBR.out, HK.out⟩
end Go.Proofs.YtpmmhmgojjlniaaGreatDoor
