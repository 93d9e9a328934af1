/- The contract of the document's Parse of a path. -/
import Derived.Test.YtnbedjgjkoeflaaDoorH9
import Derived.Test.YtnbedjgjkoeflaaDoorH6
import Derived.LoopN
namespace Go.Proofs.YtnbedjgjkoeflaaDoor
open Go.RowKit

theorem Ad.num_zero (cur : List UInt8) (h : Ad.isNum cur = true) (h0 : Ad.num cur = 0) : cur = [48] := by
  have := Ad.itoa_num cur h
  rw [h0] at this
  have h1 : Lib.itoa ((0 : Nat) : Int) = Lib.decDigits 0 := Lib.itoa_nonneg 0
  rw [← this, show (0 : Int) = ((0 : Nat) : Int) from rfl, h1, Lib.decDigits_one (by decide)]
  rfl
theorem Ad.isNum_mk (cur : List UInt8) (h0 : cur ≠ []) (hz : Ad.zeroAhead cur = false) (hd : Ad.digs cur = true) : Ad.isNum cur = true := by
  unfold Ad.isNum
  rw [hz, hd]
  cases cur with
  | nil => exact absurd rfl h0
  | cons a b => rfl
/-- Parse's scan: the pieces that are done, and the one that is under way. -/
def PInv (l : List UInt8) (i : Nat) (done : List (List UInt8)) (cur : List UInt8) : Prop :=
  Sp.split l = done ++ Sp.split (cur ++ l.drop i) ∧ (32 : UInt8) ∉ cur ∧ (∀ f ∈ done, Ad.isNum f = true) ∧ Ad.digs cur = true ∧ Ad.zeroAhead cur = false
def PEnd (l : List UInt8) (done : List (List UInt8)) : Prop := Sp.split l = done ∧ ∀ f ∈ done, Ad.isNum f = true
def PBad (l : List UInt8) : Prop := ∃ f ∈ Sp.split l, Ad.isNum f = false
theorem PInv.start (l : List UInt8) : PInv l 0 [] [] := ⟨by simp, by simp, by simp, rfl, rfl⟩
theorem PInv.blank {l : List UInt8} {i : Nat} {done : List (List UInt8)} {cur : List UInt8} (h : PInv l i done cur) (hi : i < l.length) (hc : l[i] = 32) (h0 : cur ≠ []) : PInv l (i + 1) (done ++ [cur]) [] := by
  obtain ⟨h1, h2, h3, h4, h5⟩ := h
  refine ⟨?_, by simp, fun f hf => ?_, rfl, rfl⟩
  · rw [h1, List.drop_eq_getElem_cons hi, hc, Sp.split_app cur _ h2]
    simp
  · rcases List.mem_append.1 hf with hf | hf
    · exact h3 f hf
    · simp at hf
      subst hf
      exact Ad.isNum_mk _ h0 h5 h4
theorem PInv.blank0 {l : List UInt8} {i : Nat} {done : List (List UInt8)} (h : PInv l i done []) (hi : i < l.length) (hc : l[i] = 32) : PBad l := by
  refine ⟨[], ?_, rfl⟩
  rw [h.1, List.nil_append, List.drop_eq_getElem_cons hi, hc, Sp.split_blank]
  simp
theorem PInv.last {l : List UInt8} {done : List (List UInt8)} {cur : List UInt8} (h : PInv l l.length done cur) (h0 : cur ≠ []) : PEnd l (done ++ [cur]) := by
  obtain ⟨h1, h2, h3, h4, h5⟩ := h
  refine ⟨?_, fun f hf => ?_⟩
  · rw [h1, List.drop_length, List.append_nil, Sp.split_one cur h2]
  · rcases List.mem_append.1 hf with hf | hf
    · exact h3 f hf
    · simp at hf
      subst hf
      exact Ad.isNum_mk _ h0 h5 h4
theorem PInv.last0 {l : List UInt8} {done : List (List UInt8)} (h : PInv l l.length done []) : PBad l := by
  refine ⟨[], ?_, rfl⟩
  rw [h.1, List.drop_length]
  simp [Sp.split]
theorem PInv.first {l : List UInt8} {i : Nat} {done : List (List UInt8)} {cur : List UInt8} (h : PInv l i done cur) (hi : i < l.length) (hc : l[i] ≠ 32) : ∃ t, (cur ++ [l[i]] ++ t) ∈ Sp.split l := by
  have hno : (32 : UInt8) ∉ cur ++ [l[i]] := by
    intro hm
    rcases List.mem_append.1 hm with hm | hm
    · exact h.2.1 hm
    · simp at hm
      exact hc hm.symm
  obtain ⟨t, fs, ht⟩ := Sp.split_first (cur ++ [l[i]]) (l.drop (i + 1)) hno
  refine ⟨t, ?_⟩
  rw [h.1, List.drop_eq_getElem_cons hi, show cur ++ l[i] :: l.drop (i + 1) = cur ++ [l[i]] ++ l.drop (i + 1) by simp, ht]
  simp
theorem PInv.letter {l : List UInt8} {i : Nat} {done : List (List UInt8)} {cur : List UInt8} (h : PInv l i done cur) (hi : i < l.length) (hc : l[i] ≠ 32) (hd : Ad.dig l[i] = false) : PBad l := by
  obtain ⟨t, ht⟩ := h.first hi hc
  refine ⟨_, ht, ?_⟩
  unfold Ad.isNum
  have : Ad.digs (cur ++ [l[i]] ++ t) = false := by
    unfold Ad.digs
    rw [List.all_eq_false]
    exact ⟨l[i], by simp, by unfold Ad.dig at hd; simp only [hd]; decide⟩
  rw [this, Bool.and_false]
theorem PInv.zero {l : List UInt8} {i : Nat} {done : List (List UInt8)} {cur : List UInt8} (h : PInv l i done cur) (hi : i < l.length) (hc : l[i] ≠ 32) (h0 : cur ≠ []) (hn : Ad.num cur = 0) : PBad l := by
  obtain ⟨t, ht⟩ := h.first hi hc
  refine ⟨_, ht, ?_⟩
  have hcur := Ad.num_zero cur (Ad.isNum_mk cur h0 h.2.2.2.2 h.2.2.2.1) hn
  unfold Ad.isNum Ad.zeroAhead
  rw [hcur]
  simp
theorem PInv.digit {l : List UInt8} {i : Nat} {done : List (List UInt8)} {cur : List UInt8} (h : PInv l i done cur) (hi : i < l.length) (hc : l[i] ≠ 32) (hd : Ad.dig l[i] = true) (h0 : cur = [] ∨ Ad.num cur ≠ 0) : PInv l (i + 1) done (cur ++ [l[i]]) := by
  obtain ⟨h1, h2, h3, h4, h5⟩ := h
  refine ⟨?_, ?_, h3, ?_, ?_⟩
  · rw [h1, List.drop_eq_getElem_cons hi]
    simp
  · intro hm
    rcases List.mem_append.1 hm with hm | hm
    · exact h2 hm
    · simp at hm
      exact hc hm.symm
  · rw [Ad.digs_snoc, h4, hd]; rfl
  · rcases h0 with h0 | h0
    · subst h0; rfl
    · cases cur with
      | nil => rfl
      | cons a r =>
        unfold Ad.zeroAhead at h5 ⊢
        cases r with
        | nil =>
          have : a ≠ 48 := by
            intro e
            subst e
            exact h0 (by decide)
          simp [this]
        | cons b r =>
          simp at h5
          simp [h5]
theorem clamp_bd (cur : List UInt8) (h : Ad.digs cur = true) : 0 ≤ Ad.clampM (Ad.num cur) ∧ Ad.clampM (Ad.num cur) ≤ 1000000 ∧ (Ad.clampM (Ad.num cur) = 0 ↔ Ad.num cur = 0) := by
  have := (Ad.num_bd cur h).1
  unfold Ad.clampM
  split <;> omega
theorem clamp_step (cur : List UInt8) (h : Ad.digs cur = true) (c : UInt8) (hc : Ad.dig c = true) : Ad.clampM (Ad.num (cur ++ [c])) = Ad.clampM (10 * Ad.clampM (Ad.num cur) + ((c.toNat : Int) - 48)) := by
  have h1 := (Ad.num_bd cur h).1
  have h2 := Ad.dig_bd c hc
  rw [Ad.num_snoc]
  unfold Ad.clampM
  by_cases a : 1000000 < Ad.num cur
  · rw [if_pos a, if_pos (by omega), if_pos (by omega)]
  · rw [if_neg a]
def cl (f : List UInt8) : Int := Ad.clampM (Ad.num f)
end Go.Proofs.YtnbedjgjkoeflaaDoor
