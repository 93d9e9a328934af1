import Derived.Test.YtkpoanjcalolkaaDoorM7
import Derived.Test.YtkpoanjcalolkaaDoorT1
import Derived.Test.YtkpoanjcalolkaaDoorA4
/- The contract of addr's split. -/
namespace Go.Proofs.YtkpoanjcalolkaaDoor
open Go.RowKit

theorem Ad.idx_nat (l : List UInt8) (c : UInt8) (h : ¬ Lib.indexByte l c < 0) : ∃ o : Nat, Lib.indexByte l c = (o : Int) ∧ o < l.length := by
  obtain ⟨o, ho⟩ := Int.eq_ofNat_of_zero_le (show 0 ≤ Lib.indexByte l c by omega)
  refine ⟨o, ho, ?_⟩
  have := (Lib.indexByte_some ho).1
  exact (List.getElem?_eq_some_iff.1 this).1

/-- What split hands back where the text isn't of the form. -/
def Ad.noParts : Value := .tuple #[.agg #[.string ⟨#[]⟩, .string ⟨#[]⟩, .string ⟨#[]⟩, .string ⟨#[]⟩, .string ⟨#[]⟩], .bool false]
/-- What split hands back. -/
def Ad.splitOf (l : List UInt8) : Value :=
  match Ad.marks5 l with
  | none => Ad.noParts
  | some (a, b, c, d, e) => if (Ad.isNum a && Ad.isNum b && Ad.isNum c && Ad.isNum d && Ad.isNum e) = true then .tuple #[.agg #[.string ⟨a.toArray⟩, .string ⟨b.toArray⟩, .string ⟨c.toArray⟩, .string ⟨d.toArray⟩, .string ⟨e.toArray⟩], .bool true] else Ad.noParts

theorem Ad.ret_no {l : List UInt8} (h : Ad.marks5 l = none) : Ending.returned Ad.noParts = .returned (Ad.splitOf l) := by unfold Ad.splitOf; rw [h]

theorem Ad.ba (s : ByteArray) : (⟨s.data.toList.toArray⟩ : ByteArray) = s := by obtain ⟨⟨l⟩⟩ := s; rfl

theorem Ad.extract_size (s : ByteArray) (a b n : Nat) (h : s.size ≤ n) : (s.extract a b).size ≤ n := by
  have : (s.extract a b).data.toList.length ≤ s.data.toList.length := by rw [Lib.extract_data]; simp; omega
  rw [Ad.size_list, Ad.size_list] at this
  omega

end Go.Proofs.YtkpoanjcalolkaaDoor

/- The contract of addr's Parse. -/
namespace Go.Proofs.YtkpoanjcalolkaaDoor
open Go.RowKit

/-- What Parse hands back, of a prefix and an error. -/
def Ad.res (a b e : Int) : Value := .tuple #[.agg #[.int .u32 a, .int .i64 b], .int .i64 e]

/-- A number that is above m: too many digits, or too great. -/
def Ad.bad (l : List UInt8) (m : Int) : Bool := decide (3 < l.length ∨ m < Ad.num l)
def Ad.addr4 (l0 l1 l2 l3 : List UInt8) : Int := ((Ad.num l0 * 256 + Ad.num l1) * 256 + Ad.num l2) * 256 + Ad.num l3
/-- The prefix of five numbers, and the error. -/
def Ad.parseT (l0 l1 l2 l3 l4 : List UInt8) : Int × Int × Int :=
  if (Ad.bad l0 255 || Ad.bad l1 255 || Ad.bad l2 255 || Ad.bad l3 255 || Ad.bad l4 32) = true then (0, 0, 7)
  else if Ad.may (Ad.addr4 l0 l1 l2 l3) (Ad.num l4) = true then (Ad.addr4 l0 l1 l2 l3, Ad.num l4, 0) else (0, 0, 1)

theorem Ad.numOf_bad {l : List UInt8} {m : Int} (h : Ad.bad l m = true) : Ad.numOf l m = .tuple #[.int .i64 0, .bool false] := by
  unfold Ad.numOf; rw [if_pos (of_decide_eq_true h)]
theorem Ad.numOf_good {l : List UInt8} {m : Int} (h : Ad.bad l m = false) : Ad.numOf l m = .tuple #[.int .i64 (Ad.num l), .bool true] := by
  unfold Ad.numOf; rw [if_neg (of_decide_eq_false h)]
theorem Ad.good_bd {l : List UInt8} {m : Int} (hd : Ad.digs l = true) (h : Ad.bad l m = false) : 0 ≤ Ad.num l ∧ Ad.num l ≤ m := by
  have h1 := (Ad.num_bd l hd).1
  have h2 := of_decide_eq_false h
  omega

theorem Ad.or0 (n : Int) (h0 : 0 ≤ n) (h1 : n ≤ 255) : bits .or .u32 0 n = n := by
  have := Ad.or_low 0 n 8 (by decide) (by decide) (by decide) h0 (by have : ((2 ^ 8 : Nat) : Int) = 256 := rfl; omega) (by decide)
  omega
theorem Ad.or8 (x n : Int) (h0 : 0 ≤ n) (h1 : n ≤ 255) (g0 : 0 ≤ x) (g1 : x ≤ 16777215) : bits .or .u32 (x * 256 % 4294967296) n = x * 256 + n := by
  have e : x * 256 % 4294967296 = x * 256 := by omega
  rw [e]
  exact Ad.or_low (x * 256) n 8 (by omega) (by omega) (by have : ((2 ^ 8 : Nat) : Int) = 256 := rfl; omega) h0 (by have : ((2 ^ 8 : Nat) : Int) = 256 := rfl; omega) (by decide)

theorem Ad.or8' (x n : Int) (h0 : 0 ≤ n) (h1 : n ≤ 255) (g0 : 0 ≤ x) (g1 : x ≤ 16777215) : bits .or .u32 (x * 256) n = x * 256 + n :=
  Ad.or_low (x * 256) n 8 (by omega) (by omega) (by have : ((2 ^ 8 : Nat) : Int) = 256 := rfl; omega) h0 (by have : ((2 ^ 8 : Nat) : Int) = 256 := rfl; omega) (by decide)

end Go.Proofs.YtkpoanjcalolkaaDoor

