import Derived.Test.YtkpoanjcalolkaaDoorPa1
import Derived.OwnWalk
import Derived.Laws.AppendOwnNone
import Derived.Laws.OwnMore
/- Lists of rules joined: the first rule that is met; an append of a list that came in. -/
namespace Go.Proofs.YtkpoanjcalolkaaDoor
open Go.RowKit

theorem Ad.get_left (l m : List Ad.R) (j : Nat) (h : j < l.length) : (l ++ m)[j]! = l[j]! := by
  rw [Ad.get_bang _ j (by simp; omega), Ad.get_bang l j h, List.getElem_append_left h]
theorem Ad.get_right (l m : List Ad.R) (j : Nat) (h : l.length ≤ j) (h2 : j < l.length + m.length) : (l ++ m)[j]! = m[j - l.length]! := by
  rw [Ad.get_bang _ j (by simp; omega), Ad.get_bang m _ (by omega), List.getElem_append_right h]

theorem Ad.first_left (l m : List Ad.R) (c d : Int) (k : Nat) (hk : k < l.length) (h : Ad.met l[k]! c d = true) (ha : ∀ j, j < k → Ad.met l[j]! c d = false) : Ad.first (l ++ m) c d = k :=
  Ad.first_hit _ c d k (by simp; omega) (by rw [Ad.get_left l m k hk]; exact h) fun j hj => by rw [Ad.get_left l m j (by omega)]; exact ha j hj

theorem Ad.first_right (l m : List Ad.R) (c d : Int) (k : Nat) (hl : ∀ j, j < l.length → Ad.met l[j]! c d = false) (hk : k < m.length) (h : Ad.met m[k]! c d = true) (ha : ∀ j, j < k → Ad.met m[j]! c d = false) : Ad.first (l ++ m) c d = ((l.length + k : Nat) : Int) := by
  refine Ad.first_hit _ c d (l.length + k) (by simp; omega) (by rw [Ad.get_right l m _ (by omega) (by omega), Nat.add_sub_cancel_left]; exact h) fun j hj => ?_
  by_cases hjl : j < l.length
  · rw [Ad.get_left l m j hjl]; exact hl j hjl
  · rw [Ad.get_right l m j (by omega) (by omega)]; exact ha _ (by omega)

theorem Ad.first_none (l m : List Ad.R) (c d : Int) (hl : ∀ j, j < l.length → Ad.met l[j]! c d = false) (hm : ∀ j, j < m.length → Ad.met m[j]! c d = false) : Ad.first (l ++ m) c d = -1 := by
  refine Ad.first_miss _ c d fun j hj => ?_
  rw [List.length_append] at hj
  by_cases hjl : j < l.length
  · rw [Ad.get_left l m j hjl]; exact hl j hjl
  · rw [Ad.get_right l m j (by omega) (by omega)]; exact hm _ (by omega)

theorem Ad.pass_left (l m : List Ad.R) (k : Nat) (hk : k < l.length) : Ad.pass (l ++ m) k = Ad.pass l k := by
  unfold Ad.pass
  rw [Int.toNat_natCast, Ad.get_left l m k hk]
theorem Ad.pass_right (l m : List Ad.R) (k : Nat) (hk : k < m.length) : Ad.pass (l ++ m) ((l.length + k : Nat) : Int) = Ad.pass m k := by
  unfold Ad.pass
  rw [Int.toNat_natCast, Int.toNat_natCast, Ad.get_right l m _ (by omega) (by omega), Nat.add_sub_cancel_left]
  have h1 : (0 : Int) ≤ ((l.length + k : Nat) : Int) := by omega
  have h2 : (0 : Int) ≤ (k : Int) := by omega
  rw [decide_eq_true h1, decide_eq_true h2]

theorem Ad.rwhy_iff (l : List Ad.R) : Ad.rwhy l = 0 ↔ l.length ≤ 16 ∧ l.all Ad.rmay = true := by
  unfold Ad.rwhy
  constructor
  · intro h
    split at h
    · cases h
    · split at h
      · exact ⟨by omega, by assumption⟩
      · cases h
  · rintro ⟨h1, h2⟩
    rw [if_neg (by omega), if_pos h2]

theorem Ad.rwhy_append (l m : List Ad.R) (h : Ad.rwhy (l ++ m) = 0) : Ad.rwhy l = 0 ∧ Ad.rwhy m = 0 := by
  rw [Ad.rwhy_iff, List.length_append, List.all_append, Bool.and_eq_true] at h
  rw [Ad.rwhy_iff, Ad.rwhy_iff]
  exact ⟨⟨by omega, h.2.1⟩, ⟨by omega, h.2.2⟩⟩

theorem row_slice {w : World} {B e size n : Nat} {v : Value} {xs : List Value} (h : w.ownsRow B e size v n xs) : ∃ ao cap, v = .slice ao n cap := by
  rcases h.2 with ⟨hv, h0⟩ | ⟨g, cap, cur, hv, _⟩
  · exact ⟨none, 0, by rw [hv, h0]⟩
  · exact ⟨_, _, hv⟩

theorem Ad.slotR_own {w : World} {B n cap : Nat} {ao : Option Addr} {l : List Ad.R} (h : w.ownsRow B 32 5 (.slice ao n cap) n (Ad.cellsR l)) : Ad.slotR w ao l := by
  rcases h.2 with ⟨hv, h0⟩ | ⟨g, cap', cur, hv, _⟩
  · left
    have := h.1
    rw [Ad.cellsR_length, h0] at this
    exact List.length_eq_zero_iff.1 (by omega)
  · right
    simp only [Value.slice.injEq] at hv
    refine ⟨g, 0, hv.1, fun j u hu => ?_⟩
    have hj : j < n * 5 := by have := (List.getElem?_eq_some_iff.1 hu).1; have := h.1; omega
    rw [hv.1] at h
    rw [Nat.zero_add, h.cellAt j hj]
    exact hu

theorem Ad.cellsR_one (l : List Ad.R) : ∀ u ∈ Ad.cellsR l, u.oneCell' = true := by
  intro u hu
  simp only [Ad.cellsR, List.mem_flatMap] at hu
  obtain ⟨x, _, hx⟩ := hu
  simp [Ad.encR] at hx
  rcases hx with rfl | rfl | rfl | rfl | rfl <;> rfl

theorem infoRule : (Tryd.prog.info? 32).map (fun i => (i.zero, i.size, i.bytes)) = some (some (.agg #[.int .u32 0, .int .i64 0, .int .i64 0, .int .i64 0, .bool false]), 5, 40) := by kernel_rfl

theorem info_partsR : ∃ i0 : TypeInfo, Tryd.prog.info? 32 = some i0 ∧ i0.zero = some (.agg #[.int .u32 0, .int .i64 0, .int .i64 0, .int .i64 0, .bool false]) ∧ i0.size = 5 ∧ i0.bytes = 40 := by
  have h := infoRule
  cases hi : Tryd.prog.info? 32 with
  | none => rw [hi] at h; cases h
  | some i0 =>
    rw [hi] at h
    simp only [Option.map_some, Option.some.injEq, Prod.mk.injEq] at h
    exact ⟨i0, rfl, h.1, h.2.1, h.2.2⟩

/-- A list that came in, put behind one of the call's own. -/
theorem append_slot {w w0 : World} {ops : Array Oper} {rest : List Oper} {o : Oper} {a : Act} {Q : Exit → Act → World → Prop} (hgd : o.guard = none) (s x : Operand)
    (ho : o.op = .call { callee := .builtin .append, args := #[s, x], argTypes := #[22, 22] }) (v : Value) (n : Nat) (xs : List Ad.R) (hs : a.eval s = v) (hown : w.ownsRow w0.heap.size 32 5 v n (Ad.cellsR xs))
    (ao : Option Addr) (cap : Nat) (l : List Ad.R) (hx : a.eval x = .slice ao l.length cap) (hR : Ad.slotR w ao l) (hcap : ao = none → cap = 0) (hsp : ∀ ad, ao = some ad → ad.spot = none) (hn : n + l.length ≤ 1000000) (hb : Below w0.heap.size w0 w)
    (h : ∀ v' w', w'.ownsRow w0.heap.size 32 5 v' (n + l.length) (Ad.cellsR (xs ++ l)) → Below w0.heap.size w0 w' → wpList Tryd.prog ops Q rest (a.put o.dst v') w') : wpList Tryd.prog ops Q (o :: rest) a w := by
  obtain ⟨i0, hi, hz0, hz1, hz2⟩ := info_partsR
  cases ao with
  | none =>
    have hl : l = [] := by
      rcases hR with h | ⟨b, off, h, _⟩
      · exact h
      · cases h
    subst hl
    rw [hcap rfl] at hx
    refine wpList_append_own_none hgd s x 22 ho w0.heap.size 32 i0 5 Tryd.underlying22 hi v n (Ad.cellsR xs) hs hown hx ?_
    exact h v w (by simpa using hown) hb
  | some ad =>
    obtain ⟨b, off, sp⟩ := ad
    obtain rfl : sp = none := hsp _ rfl
    have hrd : ∀ j u, (Ad.cellsR l)[j]? = some u → w.cell? ((⟨b, off, none⟩ : Addr).add j) = some u := by
      intro j u hu
      rcases hR with h | ⟨b', off', h, hr⟩
      · rw [h] at hu; simp [Ad.cellsR] at hu
      · simp only [Option.some.injEq, Addr.mk.injEq, and_true] at h
        rw [show (⟨b, off, none⟩ : Addr).add j = ⟨b, off + j, none⟩ by unfold Addr.add; split <;> simp_all, h.1, h.2]
        exact hr j u hu
    refine wpList_append_own w hgd s x 22 ho w0.heap.size 32 i0 _ 5 40 Tryd.underlying22 hi hz0 hz1 hz2 rfl (by decide) v n (Ad.cellsR xs) hs hown ⟨b, off, none⟩ l.length cap (Ad.cellsR l) hx (Ad.cellsR_length l) hrd (Ad.cellsR_one l) (by unfold maxLen; omega) (by omega) hb.size ?_
    intro v' w' ho' hg _
    refine h v' w' ?_ (Below.grown hb hg hb.size fun k hk => (hown.lt k hk).1)
    have e : Ad.cellsR (xs ++ l) = Ad.cellsR xs ++ Ad.cellsR l := by simp [Ad.cellsR]
    rw [e]
    exact ho'
end Go.Proofs.YtkpoanjcalolkaaDoor
