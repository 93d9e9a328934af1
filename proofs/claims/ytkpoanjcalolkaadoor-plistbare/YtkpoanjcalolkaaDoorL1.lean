import Derived.Test.YtkpoanjcalolkaaDoorT1
/- The text of the chapter's prefix. -/
namespace Go.Proofs.YtkpoanjcalolkaaDoor
open Go.RowKit

/-- Digits, of numbers below 100. -/
def Ad.dg (n : Int) : List UInt8 := if 0 ≤ n ∧ n < 100 then Lib.decDigits n.toNat else []

theorem Ad.dec_len (u : Nat) (h : u < 100) : (Lib.decDigits u).length ≤ 2 := by
  rw [Lib.decDigits]
  by_cases h1 : u < 10
  · simp [h1]
  · have h2 : u / 10 < 10 := by omega
    rw [Lib.decDigits]
    simp [h1, h2]

theorem Ad.dg_len (n : Int) : (Ad.dg n).length ≤ 100 := by
  unfold Ad.dg
  split
  · have := Ad.dec_len n.toNat (by omega); omega
  · simp

theorem itoa_dg (n : Int) (h0 : 0 ≤ n) (h1 : n < 100) (W : World) : Calls Tryd.prog 33 #[.int .i64 n] W fun e w' => e = .returned (.string ⟨(Ad.dg n).toArray⟩) ∧ Below W.heap.size W w' := by
  obtain ⟨i, rfl⟩ := Int.eq_ofNat_of_zero_le h0
  refine (Tryd.strconv_Itoa_small i (by omega) W).mono ?_
  rintro e w' ⟨rfl, rfl⟩
  refine ⟨?_, brefl _⟩
  unfold Ad.dg
  rw [if_pos ⟨h0, h1⟩, Int.toNat_natCast]

theorem Ad.text_ten : Ad.text Ad.dg 167772160 8 = [49, 48, 46, 48, 46, 48, 46, 48, 47, 56] := by
  have e10 : Lib.decDigits 10 = [49, 48] := by rw [Lib.decDigits]; simp; rw [Lib.decDigits]; simp
  have e0 : Lib.decDigits 0 = [48] := by rw [Lib.decDigits]; simp
  have e8 : Lib.decDigits 8 = [56] := by rw [Lib.decDigits]; simp
  have o0 : Ad.oct 167772160 0 = 10 := by decide
  have o1 : Ad.oct 167772160 1 = 0 := by decide
  have o2 : Ad.oct 167772160 2 = 0 := by decide
  have o3 : Ad.oct 167772160 3 = 0 := by decide
  simp [Ad.text, Ad.textTo, o0, o1, o2, o3, Ad.dg, e10, e0, e8, Ad.mark]

theorem text_ten (w : World) : Calls Tryd.prog 32 #[.agg #[.int .u32 167772160, .int .i64 8]] w fun e w' => e = .returned (.string ⟨#[49, 48, 46, 48, 46, 48, 46, 48, 47, 56]⟩) ∧ Below w.heap.size w w' := by
  refine (text_yes Ad.dg 167772160 8 w (by decide) (by decide) (by decide) Ad.dg_len ?_).mono ?_
  · intro n W hn _
    have : 0 ≤ n ∧ n < 100 := by
      rcases hn with rfl | ⟨j, hj, rfl⟩
      · decide
      · have hj' : j = 0 ∨ j = 1 ∨ j = 2 ∨ j = 3 := by omega
        rcases hj' with rfl | rfl | rfl | rfl <;> decide
    exact itoa_dg n this.1 this.2 W
  · rintro e w' ⟨rfl, hb⟩
    rw [Ad.text_ten]
    exact ⟨rfl, hb⟩

end Go.Proofs.YtkpoanjcalolkaaDoor
