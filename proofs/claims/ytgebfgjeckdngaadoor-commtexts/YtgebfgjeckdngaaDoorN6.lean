/- The contract of the document's Parse. -/
import Derived.Test.YtgebfgjeckdngaaDoorN5
namespace Go.Proofs.YtgebfgjeckdngaaDoor
open Go.RowKit

theorem refText_nE (w : World) : Calls Tryd.prog 15 #[.agg #[.int .i64 65535, .int .i64 65281]] w fun e w' => e = .returned (.string ⟨#[110, 111, 45, 101, 120, 112, 111, 114, 116]⟩) ∧ Below w.heap.size w w' := refText_is 65535 65281 _ rfl w
theorem refText_nA (w : World) : Calls Tryd.prog 15 #[.agg #[.int .i64 65535, .int .i64 65282]] w fun e w' => e = .returned (.string ⟨#[110, 111, 45, 97, 100, 118, 101, 114, 116, 105, 115, 101]⟩) ∧ Below w.heap.size w w' := refText_is 65535 65282 _ rfl w
theorem refText_lo (w : World) : Calls Tryd.prog 15 #[.agg #[.int .i64 65535, .int .i64 65283]] w fun e w' => e = .returned (.string ⟨#[108, 111, 99, 97, 108]⟩) ∧ Below w.heap.size w w' := refText_is 65535 65283 _ rfl w

/-- The rest of Parse, behind the names. -/
def Co.parseR (l : List UInt8) : Int × Int × Int :=
  match Ad.cutL l 58 with
  | none => (0, 0, 4)
  | some p => if (Ad.isNum p.1 && Ad.isNum p.2) = true then (if Co.may (Ad.num p.1, Ad.num p.2) = true then (Ad.num p.1, Ad.num p.2, 0) else (0, 0, 7)) else (0, 0, 4)
/-- What Parse answers, said by three tests. -/
theorem Co.parse_tests (s : ByteArray) (a b q : Int) (h : Co.parse s.data.toList = (a, b, q)) :
    ((s.toList == [110, 111, 45, 101, 120, 112, 111, 114, 116]) = true ∧ a = 65535 ∧ b = 65281 ∧ q = 0) ∨
    ((s.toList == [110, 111, 45, 101, 120, 112, 111, 114, 116]) = false ∧ (s.toList == [110, 111, 45, 97, 100, 118, 101, 114, 116, 105, 115, 101]) = true ∧ a = 65535 ∧ b = 65282 ∧ q = 0) ∨
    ((s.toList == [110, 111, 45, 101, 120, 112, 111, 114, 116]) = false ∧ (s.toList == [110, 111, 45, 97, 100, 118, 101, 114, 116, 105, 115, 101]) = false ∧ (s.toList == [108, 111, 99, 97, 108]) = true ∧ a = 65535 ∧ b = 65283 ∧ q = 0) ∨
    ((s.toList == [110, 111, 45, 101, 120, 112, 111, 114, 116]) = false ∧ (s.toList == [110, 111, 45, 97, 100, 118, 101, 114, 116, 105, 115, 101]) = false ∧ (s.toList == [108, 111, 99, 97, 108]) = false ∧ Co.parseR s.data.toList = (a, b, q)) := by
  unfold Co.parse at h
  by_cases h1 : s.data.toList = Co.nE
  · left
    rw [if_pos h1] at h
    simp only [Prod.mk.injEq] at h
    refine ⟨?_, h.1.symm, h.2.1.symm, h.2.2.symm⟩
    rw [ByteArray.toList_eq, h1]; decide
  · right
    rw [if_neg h1] at h
    by_cases h2 : s.data.toList = Co.nA
    · left
      rw [if_pos h2] at h
      simp only [Prod.mk.injEq] at h
      refine ⟨neq_list h1, ?_, h.1.symm, h.2.1.symm, h.2.2.symm⟩
      rw [ByteArray.toList_eq, h2]; decide
    · right
      rw [if_neg h2] at h
      by_cases h3 : s.data.toList = Co.lo
      · left
        rw [if_pos h3] at h
        simp only [Prod.mk.injEq] at h
        refine ⟨neq_list h1, neq_list h2, ?_, h.1.symm, h.2.1.symm, h.2.2.symm⟩
        rw [ByteArray.toList_eq, h3]; decide
      · right
        rw [if_neg h3] at h
        exact ⟨neq_list h1, neq_list h2, neq_list h3, h⟩

theorem Ad.dgt_not {l : List UInt8} (h : Ad.isNum l = false) : Ad.dgt l = -1 := by unfold Ad.dgt; rw [h]; rfl
theorem Ad.dgt_yes {l : List UInt8} (h : Ad.isNum l = true) : Ad.dgt l = Ad.clampM (Ad.num l) ∧ 0 ≤ Ad.dgt l := by
  have h1 : Ad.dgt l = Ad.clampM (Ad.num l) := by unfold Ad.dgt; rw [if_pos h]
  refine ⟨h1, ?_⟩
  rw [h1]
  have := (Ad.num_bd l (isNum_digs h)).1
  unfold Ad.clampM
  split <;> omega
theorem Co.may_clamp {t r : List UInt8} (h1 : Ad.isNum t = true) (h2 : Ad.isNum r = true) : Co.may (Ad.clampM (Ad.num t), Ad.clampM (Ad.num r)) = Co.may (Ad.num t, Ad.num r) ∧ (Co.may (Ad.num t, Ad.num r) = true → Ad.clampM (Ad.num t) = Ad.num t ∧ Ad.clampM (Ad.num r) = Ad.num r) := by
  have n1 := (Ad.num_bd t (isNum_digs h1)).1
  have n2 := (Ad.num_bd r (isNum_digs h2)).1
  constructor
  · rw [Bool.eq_iff_iff, Co.may_iff, Co.may_iff]
    unfold Ad.clampM
    split <;> split <;> omega
  · intro hm
    have := (Co.may_iff _ _).1 hm
    unfold Ad.clampM
    constructor
    · rw [if_neg (by omega)]
    · rw [if_neg (by omega)]
theorem Ad.cut_colon (s : ByteArray) (j : Nat) (hj : j < s.size) (h58 : (s[j].toNat : Int) = 58) (hall : ∀ k (h : k < s.size), k < j → (s[k].toNat : Int) ≠ 58) : Ad.cutL s.data.toList 58 = some (Ad.sub s 0 j, Ad.sub s (j + 1) s.size) := by
  have e1 : Ad.sub s 0 j = s.data.toList.take j := by unfold Ad.sub; simp
  have e2 : Ad.sub s (j + 1) s.size = s.data.toList.drop (j + 1) := by
    unfold Ad.sub
    rw [List.take_of_length_le (by rw [List.length_drop, Ad.size_list]; omega)]
  have hjl : j < s.data.toList.length := by rw [Ad.size_list]; exact hj
  have e3 : s.data.toList[j] = 58 := by
    rw [Ad.get_list s j hj]
    exact UInt8.toNat_inj.1 (by show s[j].toNat = 58; omega)
  have e4 : s.data.toList = s.data.toList.take j ++ 58 :: s.data.toList.drop (j + 1) := by
    rw [← e3, ← List.drop_eq_getElem_cons hjl, List.take_append_drop]
  rw [e1, e2]
  conv => lhs; rw [e4]
  refine Ad.cutL_app _ _ _ ?_
  intro hm
  obtain ⟨k, hk, he⟩ := List.getElem_of_mem hm
  have hk' : k < j := by rw [List.length_take] at hk; omega
  rw [List.getElem_take, Ad.get_list s k (by omega)] at he
  exact hall k (by omega) hk' (by rw [he]; rfl)
theorem Ad.cut_no_colon (s : ByteArray) (hall : ∀ k (h : k < s.size), (s[k].toNat : Int) ≠ 58) : Ad.cutL s.data.toList 58 = none := by
  cases hc : Ad.cutL s.data.toList 58 with
  | none => rfl
  | some p =>
    exfalso
    obtain ⟨h1, _⟩ := Ad.cutL_some _ _ p.1 p.2 hc
    have hm : (58 : UInt8) ∈ s.data.toList := by rw [h1]; simp
    obtain ⟨k, hk, he⟩ := List.getElem_of_mem hm
    have hk' : k < s.size := by rw [← Ad.size_list]; exact hk
    rw [Ad.get_list s k hk'] at he
    exact hall k hk' (by rw [he]; rfl)
end Go.Proofs.YtgebfgjeckdngaaDoor
