import Derived.Test.YtkpoanjcalolkaaDoorP1
import Derived.Lib.IndexLaws
import Derived.Lib.IndexBytes
/- Plain lists of bytes: a text cut at a mark; a prefix's text in its five numbers. -/
namespace Go.Proofs.YtkpoanjcalolkaaDoor

/-- A text cut at the first c. -/
def Ad.cutL : List UInt8 → UInt8 → Option (List UInt8 × List UInt8)
  | [], _ => none
  | x :: xs, c => if x = c then some ([], xs) else (Ad.cutL xs c).map fun p => (x :: p.1, p.2)

theorem Ad.cutL_some : ∀ (l : List UInt8) (c : UInt8) (t r : List UInt8), Ad.cutL l c = some (t, r) → l = t ++ c :: r ∧ c ∉ t
  | [], c, t, r, h => by simp [Ad.cutL] at h
  | x :: xs, c, t, r, h => by
    unfold Ad.cutL at h
    by_cases hx : x = c
    · rw [if_pos hx] at h
      simp at h
      obtain ⟨rfl, rfl⟩ := h
      exact ⟨by simp [hx], by simp⟩
    · rw [if_neg hx] at h
      cases hc : Ad.cutL xs c with
      | none => rw [hc] at h; simp at h
      | some p =>
        rw [hc] at h
        simp at h
        obtain ⟨rfl, rfl⟩ := h
        have := Ad.cutL_some xs c p.1 p.2 hc
        refine ⟨by rw [List.cons_append, ← this.1], ?_⟩
        simp
        exact ⟨fun e => hx e.symm, this.2⟩

theorem Ad.cutL_app : ∀ (t : List UInt8) (c : UInt8) (r : List UInt8), c ∉ t → Ad.cutL (t ++ c :: r) c = some (t, r)
  | [], c, r, _ => by simp [Ad.cutL]
  | x :: t, c, r, h => by
    simp at h
    rw [List.cons_append, Ad.cutL, if_neg (fun e => h.1 e.symm), Ad.cutL_app t c r h.2]
    rfl

theorem Ad.cutL_none (l : List UInt8) (c : UInt8) (h : Lib.indexByte l c < 0) : Ad.cutL l c = none := by
  cases hc : Ad.cutL l c with
  | none => rfl
  | some p =>
    exfalso
    have h1 := Ad.cutL_some l c p.1 p.2 hc
    have h2 := Lib.indexByte_ge l c
    have h3 : Lib.indexByte l c = -1 := by omega
    have := Lib.indexByte_none h3 p.1.length
    rw [h1.1] at this
    simp at this

theorem Ad.cutL_at (s : ByteArray) (c : UInt8) (o : Nat) (h : Lib.indexByte s.data.toList c = (o : Int)) (hlt : o < s.size) :
    Ad.cutL s.data.toList c = some ((s.extract 0 o).data.toList, (s.extract (o + 1) s.size).data.toList) := by
  obtain ⟨h1, h2⟩ := Lib.indexByte_some h
  have e1 : (s.extract 0 o).data.toList = s.data.toList.take o := by rw [Lib.extract_data]; simp
  have e2 : (s.extract (o + 1) s.size).data.toList = s.data.toList.drop (o + 1) := Lib.extract_to_end s (o + 1)
  have e3 : s.data.toList = s.data.toList.take o ++ c :: s.data.toList.drop (o + 1) := by
    have hl : o < s.data.toList.length := by simpa using hlt
    have h3 : s.data.toList[o]'hl = c := by
      rw [List.getElem?_eq_getElem hl] at h1
      exact Option.some.inj h1
    rw [← h3, ← List.drop_eq_getElem_cons hl, List.take_append_drop]
  rw [e1, e2]
  conv => lhs; rw [e3]
  refine Ad.cutL_app _ _ _ ?_
  intro hm
  obtain ⟨k, hk, he⟩ := List.getElem_of_mem hm
  have hk' : k < o := by rw [List.length_take] at hk; omega
  refine h2 k hk' ?_
  rw [List.getElem_take] at he
  rw [← he]
  simp

/-- The five numbers of a text; none, if it isn't of that form. -/
def Ad.marks5 (l : List UInt8) : Option (List UInt8 × List UInt8 × List UInt8 × List UInt8 × List UInt8) :=
  (Ad.cutL l 46).bind fun p0 => (Ad.cutL p0.2 46).bind fun p1 => (Ad.cutL p1.2 46).bind fun p2 => (Ad.cutL p2.2 47).bind fun p3 => some (p0.1, p1.1, p2.1, p3.1, p3.2)
end Go.Proofs.YtkpoanjcalolkaaDoor
