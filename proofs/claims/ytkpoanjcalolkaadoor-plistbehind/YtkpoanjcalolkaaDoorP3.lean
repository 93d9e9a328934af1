/- The contract of addr's split. -/
import Derived.Test.YtkpoanjcalolkaaDoorM7
import Derived.Test.YtkpoanjcalolkaaDoorT1
namespace Go.Proofs.YtkpoanjcalolkaaDoor
open Go.RowKit

theorem Ad.idx_nat (l : List UInt8) (c : UInt8) (h : ¬ Lib.indexByte l c < 0) : ∃ o : Nat, Lib.indexByte l c = (o : Int) ∧ o < l.length := by
  obtain ⟨o, ho⟩ := Int.eq_ofNat_of_zero_le (show 0 ≤ Lib.indexByte l c by omega)
  refine ⟨o, ho, ?_⟩
  have := (Lib.indexByte_some ho).1
  exact (List.getElem?_eq_some_iff.1 this).1

/-- What split hands back where the text isn't of the form. -/
def Ad.noParts : Value := .tuple #[.agg #[.string ⟨#[]⟩, .string ⟨#[]⟩, .string ⟨#[]⟩, .string ⟨#[]⟩, .string ⟨#[]⟩], .bool false]
/-- What split hands back. -/
def Ad.splitOf (l : List UInt8) : Value :=
  match Ad.marks5 l with
  | none => Ad.noParts
  | some (a, b, c, d, e) => if (Ad.isNum a && Ad.isNum b && Ad.isNum c && Ad.isNum d && Ad.isNum e) = true then .tuple #[.agg #[.string ⟨a.toArray⟩, .string ⟨b.toArray⟩, .string ⟨c.toArray⟩, .string ⟨d.toArray⟩, .string ⟨e.toArray⟩], .bool true] else Ad.noParts

theorem Ad.ret_no {l : List UInt8} (h : Ad.marks5 l = none) : Ending.returned Ad.noParts = .returned (Ad.splitOf l) := by unfold Ad.splitOf; rw [h]

theorem Ad.ba (s : ByteArray) : (⟨s.data.toList.toArray⟩ : ByteArray) = s := by obtain ⟨⟨l⟩⟩ := s; rfl

theorem Ad.extract_size (s : ByteArray) (a b n : Nat) (h : s.size ≤ n) : (s.extract a b).size ≤ n := by
  have : (s.extract a b).data.toList.length ≤ s.data.toList.length := by rw [Lib.extract_data]; simp; omega
  rw [Ad.size_list, Ad.size_list] at this
  omega

end Go.Proofs.YtkpoanjcalolkaaDoor
