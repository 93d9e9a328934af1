/- The contract of the laws' own lives: it answers true. -/
import Derived.Test.YtfkajefminopjabDoorR2
import Derived.Test.YtfkajefminopjabDoorT1
namespace Go.Proofs.YtfkajefminopjabDoor
open Go.RowKit

/-- Digits, of numbers below 100. -/
def Ad.dg (n : Int) : List UInt8 := if 0 ≤ n ∧ n < 100 then Lib.decDigits n.toNat else []

theorem Ad.dec_len (u : Nat) (h : u < 100) : (Lib.decDigits u).length ≤ 2 := by
  rw [Lib.decDigits]
  by_cases h1 : u < 10
  · simp [h1]
  · have h2 : u / 10 < 10 := by omega
    rw [Lib.decDigits]
    simp [h1, h2]

theorem Ad.dg_len (n : Int) : (Ad.dg n).length ≤ 100 := by
  unfold Ad.dg
  split
  · have := Ad.dec_len n.toNat (by omega); omega
  · simp

theorem itoa_dg (n : Int) (h0 : 0 ≤ n) (h1 : n < 100) (W : World) : Calls Tryd.prog 25 #[.int .i64 n] W fun e w' => e = .returned (.string ⟨(Ad.dg n).toArray⟩) ∧ Below W.heap.size W w' := by
  obtain ⟨i, rfl⟩ := Int.eq_ofNat_of_zero_le h0
  refine (Tryd.strconv_Itoa_small i (by omega) W).mono ?_
  rintro e w' ⟨rfl, rfl⟩
  refine ⟨?_, brefl _⟩
  unfold Ad.dg
  rw [if_pos ⟨h0, h1⟩, Int.toNat_natCast]

theorem Ad.text_ten : Ad.text Ad.dg 167772160 8 = [49, 48, 46, 48, 46, 48, 46, 48, 47, 56] := by
  have e10 : Lib.decDigits 10 = [49, 48] := by rw [Lib.decDigits]; simp; rw [Lib.decDigits]; simp
  have e0 : Lib.decDigits 0 = [48] := by rw [Lib.decDigits]; simp
  have e8 : Lib.decDigits 8 = [56] := by rw [Lib.decDigits]; simp
  have o0 : Ad.oct 167772160 0 = 10 := by decide
  have o1 : Ad.oct 167772160 1 = 0 := by decide
  have o2 : Ad.oct 167772160 2 = 0 := by decide
  have o3 : Ad.oct 167772160 3 = 0 := by decide
  simp [Ad.text, Ad.textTo, o0, o1, o2, o3, Ad.dg, e10, e0, e8, Ad.mark]

theorem text_ten (w : World) : Calls Tryd.prog 13 #[.agg #[.int .u32 167772160, .int .i64 8]] w fun e w' => e = .returned (.string ⟨#[49, 48, 46, 48, 46, 48, 46, 48, 47, 56]⟩) ∧ Below w.heap.size w w' := by
  refine (text_yes Ad.dg 167772160 8 w (by decide) (by decide) (by decide) Ad.dg_len ?_).mono ?_
  · intro n W hn _
    have : 0 ≤ n ∧ n < 100 := by
      rcases hn with rfl | ⟨j, hj, rfl⟩
      · decide
      · have hj' : j = 0 ∨ j = 1 ∨ j = 2 ∨ j = 3 := by omega
        rcases hj' with rfl | rfl | rfl | rfl <;> decide
    exact itoa_dg n this.1 this.2 W
  · rintro e w' ⟨rfl, hb⟩
    rw [Ad.text_ten]
    exact ⟨rfl, hb⟩

/-- The chapter's two prefixes. -/
def Ad.two : List (Int × Int) := [(167772160, 9), (176160768, 9)]

theorem Ad.two_rises (l : List (Int × Int)) (hp : l.Perm Ad.two) (hr : Ad.rises l) : l = Ad.two := by
  have hl := hp.length_eq
  match l, hl with
  | [x, y], _ =>
    have hx : x ∈ Ad.two := hp.mem_iff.1 (by simp)
    have hy : y ∈ Ad.two := hp.mem_iff.1 (by simp)
    simp [Ad.two] at hx hy
    rcases hx with rfl | rfl <;> rcases hy with rfl | rfl
    · exact absurd (hp.mem_iff.2 (show ((176160768, 9) : Int × Int) ∈ Ad.two by simp [Ad.two])) (by simp)
    · rfl
    · have := hr 0 1 (by simp) (by simp) (by decide)
      exact absurd this (by decide)
    · exact absurd (hp.mem_iff.2 (show ((167772160, 9) : Int × Int) ∈ Ad.two by simp [Ad.two])) (by simp)

theorem Ad.two_stack : Ad.stack Ad.two = [(167772160, 8)] := by decide
theorem Ad.two_why : Ad.why Ad.two = 0 := by decide

set_option maxHeartbeats 1000000 in
set_option maxRecDepth 100000 in
theorem lives_any (w : World) : Calls Tryd.prog 4 #[] w fun e w' => e = .returned (.bool true) ∧ Below w.heap.size w w' := by
  go_enter Tryd.func4, Tryd.ntmps4
  go_wp2_with fail
  refine (plain_ok w.heap.size 0 2 Ad.two _ ?_ ?_ (by decide) Ad.two_why).mono ?_
  · intro j u hj
    have e : Ad.cells Ad.two = [.int .u32 167772160, .int .i64 9, .int .u32 176160768, .int .i64 9] := by simp [Ad.cells, Ad.two, Ad.enc]
    rw [e] at hj
    match j, hj with
    | 0, hj => simp at hj; subst hj; simp
    | 1, hj => simp at hj; subst hj; simp
    | 2, hj => simp at hj; subst hj; simp
    | 3, hj => simp at hj; subst hj; simp
  · intro x hx
    simp [Ad.two] at hx
    rcases hx with rfl | rfl <;> decide
  rintro e w1 ⟨l', v', hp, hr, rfl, ho, hb1⟩
  obtain rfl := Ad.two_rises l' hp hr
  rw [Ad.two_stack] at ho
  have hb1' := bthen (balloc (brefl w) _) hb1
  obtain ⟨ao, cap, rfl⟩ := row_slice ho
  have HR := hide (Ad.rowAt_own (l := [(167772160, 8)]) ho)
  clear ho hp hr hb1
  go_wp2_with fail
  refine (text_ten _).mono ?_
  rintro e w2 ⟨rfl, hb2⟩
  have hb2' := bthen hb1' hb2
  have HR2 := hide (Ad.rowAt_below HR.out hb2)
  clear HR hb2 hb1'
  go_wp2_with fail
  refine (same_any ao (some ⟨w2.heap.size, 0, none⟩) cap 1 [(167772160, 8)] [(167772160, 8)] _ rfl (by decide) (Ad.rowAt_below HR2.out (balloc (brefl w2) _)) (.inr ⟨w2.heap.size, 0, rfl, ?_⟩)).mono ?_
  · intro j u hj
    have e : Ad.cells [(167772160, 8)] = [.int .u32 167772160, .int .i64 8] := by simp [Ad.cells, Ad.enc]
    rw [e] at hj
    match j, hj with
    | 0, hj => simp at hj; subst hj; simp
    | 1, hj => simp at hj; subst hj; simp
  rintro e w3 ⟨rfl, hb3⟩
  have hb3' := bthen (balloc hb2' _) hb3
  go_wp2_with fail
  go_ret
  exact ⟨rfl, hb3'⟩
end Go.Proofs.YtfkajefminopjabDoor
