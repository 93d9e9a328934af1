import Derived.Test.YtkpoanjcalolkaaDoorA1
import Derived.Test.YtkpoanjcalolkaaDoorW1
import Derived.LoopN
/- The contracts of addr's isNumber and number. -/
namespace Go.Proofs.YtkpoanjcalolkaaDoor
open Go.RowKit

/-- Digits alone. -/
def Ad.digs (l : List UInt8) : Bool := l.all fun c => decide (48 ≤ c.toNat) && decide (c.toNat ≤ 57)
/-- A 0 ahead of others. -/
def Ad.zeroAhead (l : List UInt8) : Bool := decide (1 < l.length) && (l.head? == some 48)
/-- Is a text digits without a 0 ahead? -/
def Ad.isNum (l : List UInt8) : Bool := !l.isEmpty && !Ad.zeroAhead l && Ad.digs l
/-- The number of some digits. -/
def Ad.num (l : List UInt8) : Int := l.foldl (fun n c => 10 * n + ((c.toNat : Int) - 48)) 0

theorem Ad.size_list (s : ByteArray) : s.data.toList.length = s.size := by simp
theorem Ad.get_list (s : ByteArray) (k : Nat) (h : k < s.size) : s.data.toList[k]'(by simpa using h) = s[k] := rfl
theorem Ad.empty_iff (s : ByteArray) : s.toList.isEmpty = decide (s.size = 0) := by
  rw [ByteArray.toList_eq]
  obtain ⟨⟨l⟩⟩ := s
  cases l <;> simp [ByteArray.size]

/-- One byte is a digit. -/
def Ad.dig (c : UInt8) : Bool := decide (48 ≤ c.toNat) && decide (c.toNat ≤ 57)

theorem Ad.digs_iff (s : ByteArray) : Ad.digs s.data.toList = true ↔ ∀ k (h : k < s.size), Ad.dig s[k] = true := by
  unfold Ad.digs
  rw [List.all_eq_true]
  constructor
  · intro h k hk
    exact h s[k] (by rw [← Ad.get_list s k hk]; exact List.getElem_mem _)
  · intro h x hx
    obtain ⟨k, hk, rfl⟩ := List.getElem_of_mem hx
    exact h k (by simpa using hk)

theorem Ad.head_iff (s : ByteArray) (h : 0 < s.size) : s.data.toList.head? = some s[0] := by
  rw [← Ad.get_list s 0 h, List.head?_eq_getElem?]
  simp

end Go.Proofs.YtkpoanjcalolkaaDoor

/- The contract of addr's number. -/
namespace Go.Proofs.YtkpoanjcalolkaaDoor
open Go.RowKit

theorem Ad.num_snoc (l : List UInt8) (c : UInt8) : Ad.num (l ++ [c]) = 10 * Ad.num l + ((c.toNat : Int) - 48) := by
  unfold Ad.num; rw [List.foldl_append]; rfl
theorem Ad.digs_snoc (l : List UInt8) (c : UInt8) : Ad.digs (l ++ [c]) = (Ad.digs l && Ad.dig c) := by
  unfold Ad.digs Ad.dig; simp [List.all_append]
theorem Ad.take_snoc (s : ByteArray) (k : Nat) (h : k < s.size) : s.data.toList.take (k + 1) = s.data.toList.take k ++ [s[k]] := by
  rw [List.take_succ_eq_append_getElem (by simpa using h)]; rfl
theorem Ad.dig_bd (c : UInt8) (h : Ad.dig c = true) : (48 : Int) ≤ (c.toNat : Int) ∧ (c.toNat : Int) ≤ 57 := by
  simp [Ad.dig] at h
  omega

theorem Ad.num_bd (l : List UInt8) (h : Ad.digs l = true) : 0 ≤ Ad.num l ∧ Ad.num l < 10 ^ l.length := by
  have key : ∀ (n : Nat) (l : List UInt8), l.length = n → Ad.digs l = true → 0 ≤ Ad.num l ∧ Ad.num l < 10 ^ l.length := by
    intro n
    induction n with
    | zero =>
      intro l hl _
      obtain rfl := List.length_eq_zero_iff.1 hl
      simp [Ad.num]
    | succ n ih =>
      intro l hl hd
      obtain ⟨m, c, rfl⟩ : ∃ m c, l = m ++ [c] := ⟨l.dropLast, l.getLast (by intro h; rw [h] at hl; simp at hl), (List.dropLast_concat_getLast _).symm⟩
      rw [Ad.digs_snoc, Bool.and_eq_true] at hd
      have := ih m (by simpa using hl) hd.1
      have hc := Ad.dig_bd c hd.2
      rw [Ad.num_snoc, List.length_append]
      have hp : (10 : Int) ^ (m.length + [c].length) = 10 ^ m.length * 10 := Int.pow_succ 10 m.length
      rw [hp]
      omega
  exact key l.length l rfl h

theorem Ad.digs_take (s : ByteArray) (k : Nat) (h : Ad.digs s.data.toList = true) : Ad.digs (s.data.toList.take k) = true := by
  unfold Ad.digs at *
  rw [List.all_eq_true] at *
  exact fun x hx => h x (List.mem_of_mem_take hx)

/-- What number hands back. -/
def Ad.numOf (l : List UInt8) (m : Int) : Value := if 3 < l.length ∨ m < Ad.num l then .tuple #[.int .i64 0, .bool false] else .tuple #[.int .i64 (Ad.num l), .bool true]

end Go.Proofs.YtkpoanjcalolkaaDoor

