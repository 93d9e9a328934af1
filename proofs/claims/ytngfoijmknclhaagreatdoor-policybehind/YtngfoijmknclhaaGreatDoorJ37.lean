/- New memory: what a row of the call's own may be asked; clones of lists of numbers and of communities. -/
import Derived.Test.YtngfoijmknclhaaGreatDoorJ08
import Derived.Test.YtngfoijmknclhaaGreatDoorJ33
import Derived.Test.YtngfoijmknclhaaGreatDoorJ36
import Derived.Shelf.SlGeneric
import Derived.Shelf.Small.Wraps
import Derived.Shelf.Slices.Clone
import Derived.Shelf.SlicesE.IndexFunc
import Derived.Test.YtngfoijmknclhaaGreatDoorProg
namespace Go.Proofs.YtngfoijmknclhaaGreatDoor
open Go.RowKit Go.Sort
theorem own_wr {w : World} {B t k n c : Nat} {o : Option Addr} {xs : List Value} (h : w.ownsRow B t k (.slice o n c) n xs) : Wr B w o (n * k) := by
  rcases h.2 with ⟨_, h0⟩ | ⟨g, cap, cur, hv, hB, hg, hn, _, hs, _⟩
  · exact .inl (by rw [h0, Nat.zero_mul])
  · simp only [Value.slice.injEq] at hv
    refine .inr ⟨g, 0, hv.1, hB, fun j hj => ?_⟩
    have hj' : j < cur.size := by
      rw [hs]
      exact Nat.lt_of_lt_of_le hj (Nat.mul_le_mul_right k hn)
    constructor
    · simp [World.cell?, hg, Nat.zero_add, hj']
    · simp [World.frozen?, hg]
theorem wr_below {w w' : World} {B n : Nat} {o : Option Addr} (h : Wr B w o n) (hb : Below w.heap.size w w') : Wr B w' o n := by
  rcases h with h | ⟨g, off, ho, hB, hc⟩
  · exact .inl h
  · refine .inr ⟨g, off, ho, hB, fun j hj => ?_⟩
    obtain ⟨h1, h2⟩ := hc j hj
    have hlt : g < w.heap.size := by
      obtain ⟨v, hv⟩ := Option.isSome_iff_exists.1 h1
      exact block_lt_of_cell (a := ⟨g, off + j, none⟩) hv
    rw [(bcell hb).1 g (off + j) hlt, (bcell hb).2 g (off + j) hlt]
    exact ⟨h1, h2⟩
theorem wr_mono {w : World} {B B' n : Nat} {o : Option Addr} (h : Wr B w o n) (hb : B' ≤ B) : Wr B' w o n := by
  rcases h with h | ⟨g, off, ho, hB, hc⟩
  · exact .inl h
  · exact .inr ⟨g, off, ho, Nat.le_trans hb hB, hc⟩
theorem wrow_wr {w : World} {B : Nat} {o : Option Addr} {x : List Cm.Co.C} (h : Cm.Co.wrow B w o x) : Wr B w o (x.length * 2) := by
  rcases h with h | ⟨g, ho, hB, hc⟩
  · exact .inl (by rw [h]; rfl)
  · refine .inr ⟨g, 0, ho, hB, fun j hj => ?_⟩
    obtain ⟨h1, h2, h3, h4⟩ := hc (j / 2) (by simp; omega)
    rcases Nat.mod_two_eq_zero_or_one j with hm | hm
    · rw [show 0 + j = j / 2 * 2 by omega, h1]; exact ⟨rfl, h3⟩
    · rw [show 0 + j = j / 2 * 2 + 1 by omega, h2]; exact ⟨rfl, h4⟩
theorem own_cameI {w : World} {B n cap : Nat} {ao : Option Addr} {xs : List Value} (h : w.ownsRow B 3 1 (.slice ao n cap) n xs) : Cm.Co.came ao cap := by
  rcases h.2 with ⟨hv, h0⟩ | ⟨g, cap', cur, hv, _⟩
  · simp only [Value.slice.injEq] at hv
    exact ⟨fun _ => hv.2.2, fun ad h => (by rw [hv.1] at h; cases h)⟩
  · simp only [Value.slice.injEq] at hv
    refine ⟨fun h => (by rw [hv.1] at h; cases h), fun ad h => ?_⟩
    rw [hv.1] at h
    cases h
    rfl
theorem own_cap {w : World} {B t k n c : Nat} {o : Option Addr} {xs : List Value} (h : w.ownsRow B t k (.slice o n c) n xs) : n ≤ c := by
  rcases h.2 with ⟨_, h0⟩ | ⟨g, cap, cur, hv, _, _, hn, _⟩
  · omega
  · simp only [Value.slice.injEq] at hv
    rw [hv.2.2]
    exact hn
/-- A new list of numbers. -/
def NewI (w : World) (l : List Int) (e : Ending) (w' : World) : Prop :=
  ∃ o c, e = .returned (.slice o l.length c) ∧ Is.slot w' o l ∧ Wr w.heap.size w' o l.length ∧ (Cm.Co.came o c ∧ l.length ≤ c) ∧ Below w.heap.size w w'
/-- A new list of communities. -/
def NewC (w : World) (l : List Cm.Co.C) (e : Ending) (w' : World) : Prop :=
  ∃ o c, e = .returned (.slice o l.length c) ∧ Cm.Co.slot w' o l ∧ Wr w.heap.size w' o (l.length * 2) ∧ Cm.Co.came o c ∧ Below w.heap.size w w'
theorem cloneI_is (ao : Option Addr) (ca : Nat) (l : List Int) (w : World) (hA : Is.slot w ao l) (hC : Cm.Co.came ao ca) (hlen : l.length ≤ 1000000) : Calls Tryz.prog 81 #[.slice ao l.length ca] w (NewI w l) := by
  cases ao with
  | none =>
    have hl : l = [] := by
      rcases hA with h | ⟨b, off, h, _⟩
      · exact h
      · cases h
    subst hl
    refine (Tryz.slices_Clone_int_nil 0 ca w).mono ?_
    rintro e w' ⟨rfl, rfl⟩
    exact ⟨none, 0, rfl, .inl rfl, .inl rfl, ⟨⟨fun _ => rfl, fun ad had => (by cases had)⟩, Nat.le_refl _⟩, brefl _⟩
  | some ad =>
    obtain ⟨b, off, sp⟩ := ad
    obtain rfl : sp = none := hC.2 _ rfl
    have hR : ∀ j (hj : j < l.length), w.cell? ⟨b, off + j, none⟩ = some (.int .i64 l[j]) := by
      rcases hA with h | ⟨b', off', h, hr⟩
      · subst h; intro j hj; cases hj
      · simp only [Option.some.injEq, Addr.mk.injEq, and_true] at h
        rw [h.1, h.2]; exact hr
    refine (Tryz.slices_Clone_int b off l.length ca l w (Nat.le_refl _) (by omega) (fun j hj => by rw [hR j hj, List.getD_eq_getElem?_getD, List.getElem?_eq_getElem hj]; rfl)).mono ?_
    rintro e w' ⟨v', rfl, hown, _, hb⟩
    rw [List.take_length] at hown
    obtain ⟨o, c, rfl⟩ := row_slice hown
    exact ⟨o, c, rfl, Is.slot_own hown, by simpa using own_wr hown, ⟨own_cameI hown, own_cap hown⟩, hb⟩
theorem cloneC_is (ao : Option Addr) (ca : Nat) (l : List Cm.Co.C) (w : World) (hA : Cm.Co.slot w ao l) (hC : Cm.Co.came ao ca) (hlen : l.length ≤ 1000000) : Calls Tryz.prog 82 #[.slice ao l.length ca] w (NewC w l) := by
  refine (Cm.clone_is ao ca l w hA hC hlen).mono ?_
  rintro e w' ⟨o, c, rfl, hown, hb⟩
  exact ⟨o, c, rfl, Cm.Co.slot_own hown, own_wr hown, Cm.own_came hown, hb⟩
end Go.Proofs.YtngfoijmknclhaaGreatDoor
