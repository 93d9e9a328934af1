/- The law PlistIdle: the mathematics of its three loops. -/
import Derived.Test.YtkpoanjcalolkaaDoorId1
import Derived.Test.YtkpoanjcalolkaaDoorEd1
import Derived.Test.YtkpoanjcalolkaaDoorAt1
namespace Go.Proofs.YtkpoanjcalolkaaDoor
open Go.RowKit

/-- What the law asks of an address and a number of bits. -/
def Ad.ask (l : List Ad.R) (m : Int) (e : Int) (B : Nat) : Bool := Ad.first l (Ad.cut e B) B == m
/-- The edges of a rule's prefix. -/
def Ad.redges (r : Ad.R) : List Int := Ad.edges r.1 (r.1 + Ad.sz r.2.1 - 1)

theorem Ad.cut_may (e : Int) (B : Nat) (hB : B ≤ 32) : Ad.may (Ad.cut e B) B = true := (Ad.may_iff _ _).2 ⟨by omega, by omega, Ad.cut_idem e B⟩

theorem Ad.ask_idle (l : List Ad.R) (m : Int) (h : Ad.Idle l m true) (e : Int) (B : Nat) (h0 : 0 ≤ e) (h1 : e ≤ 4294967295) (hB : B ≤ 32) : Ad.ask l m e B = false := by
  rcases h with ⟨_, h⟩ | ⟨h, _⟩
  · have := h (Ad.cut e B) B (Ad.cut_nonneg e B h0) (Int.le_trans (Ad.cut_le e B) h1) (Ad.cut_may e B hB)
    simpa [Ad.ask] using this
  · cases h

theorem Ad.ask_not (l : List Ad.R) (m : Int) (hall : ∀ r ∈ l, Ad.rmay r = true) (hf : Ad.fitsR l) (hl : 0 < l.length) (h : Ad.Idle l m false) :
    ∃ d k n : Nat, d ≤ 32 ∧ n < 6 ∧ ∃ hk : k < l.length, Ad.ask l m ((Ad.redges l[k]).getD n 0) d = true := by
  rcases h with ⟨h, _⟩ | ⟨_, x, d, h0, h1, h2, h3⟩
  · cases h
  · obtain ⟨d0, d1, _⟩ := (Ad.may_iff _ _).1 h2
    obtain ⟨c, c1, c2, c3, c4, c5⟩ := Ad.grid_col l hall x d h0 h2
    obtain ⟨D, rfl⟩ := Int.eq_ofNat_of_zero_le d0
    have e1 : Ad.first l c D = m := (Ad.first_col l x D c c5).trans h3
    have e2 : Ad.ask l m c D = true := by
      obtain ⟨_, _, hc⟩ := (Ad.may_iff _ _).1 c4
      unfold Ad.ask
      rw [hc, e1]
      simp
    rcases c1 with rfl | ⟨r, hr, hc⟩
    · exact ⟨D, 0, 0, by omega, by decide, hl, e2⟩
    · obtain ⟨k, hk, rfl⟩ := List.getElem_of_mem hr
      obtain ⟨f0, f1⟩ := hf _ hr
      rcases hc with rfl | rfl
      · exact ⟨D, k, 2, by omega, by decide, hk, e2⟩
      · refine ⟨D, k, 5, by omega, by decide, hk, ?_⟩
        have e3 : (Ad.redges l[k]).getD 5 0 = IntKind.u32.wrap (l[k].1 + Ad.sz l[k].2.1 - 1 + 1) := rfl
        rw [e3, IntKind.wrap_u32']
        have hp := Ad.sz_pos l[k].2.1
        have e4 : (l[k].1 + Ad.sz l[k].2.1 - 1 + 1) % 4294967296 = Ad.rend l[k] := by unfold Ad.rend at c3 ⊢; omega
        rw [e4]
        exact e2

theorem Ad.redges_bd (r : Ad.R) (hr : Ad.rmay r = true) (h0 : 0 ≤ r.1) (h1 : r.1 ≤ 4294967295) (n : Nat) : 0 ≤ (Ad.redges r).getD n 0 ∧ (Ad.redges r).getD n 0 ≤ 4294967295 := by
  obtain ⟨m1, _⟩ := (Ad.rmay_iff r).1 hr
  obtain ⟨b0, b1, hc⟩ := (Ad.may_iff _ _).1 m1
  have hend := Ad.end_le r.1 r.2.1 b0 h1 hc
  have hp := Ad.sz_pos r.2.1
  match n with
  | 0 => exact (show (0 : Int) ≤ 0 ∧ (0 : Int) ≤ 4294967295 by decide)
  | 1 => exact (show (0 : Int) ≤ 4294967295 ∧ (4294967295 : Int) ≤ 4294967295 by decide)
  | 2 => exact ⟨h0, h1⟩
  | 3 =>
    have e : (Ad.redges r).getD 3 0 = IntKind.u32.wrap (r.1 - 1) := rfl
    rw [e, IntKind.wrap_u32']
    omega
  | 4 =>
    have e : (Ad.redges r).getD 4 0 = r.1 + Ad.sz r.2.1 - 1 := rfl
    rw [e]
    omega
  | 5 =>
    have e : (Ad.redges r).getD 5 0 = IntKind.u32.wrap (r.1 + Ad.sz r.2.1 - 1 + 1) := rfl
    rw [e, IntKind.wrap_u32']
    omega
  | k + 6 =>
    have e : (Ad.redges r).getD (k + 6) 0 = 0 := by
      rw [List.getD_eq_getElem?_getD, List.getElem?_eq_none (by simp [Ad.redges, Ad.edges, Ad.four])]
      rfl
    rw [e]
    exact ⟨by decide, by decide⟩

/-- Where the loops are: behind the place where it was met, it has been met. -/
def Ad.Pst (r : Bool) (d0 k0 n0 B k n : Nat) (f : Bool) : Prop := (r = true → f = false) ∧ (r = false → (d0 < B ∨ (d0 = B ∧ (k0 < k ∨ (k0 = k ∧ n0 < n)))) → f = true)

theorem Ad.pst_start (r : Bool) (d0 k0 n0 : Nat) : Ad.Pst r d0 k0 n0 0 0 0 false := ⟨fun _ => rfl, fun _ h => by omega⟩
theorem Ad.pst_k {r : Bool} {d0 k0 n0 B k : Nat} {f : Bool} (h : Ad.Pst r d0 k0 n0 B k 6 f) (hn : n0 < 6) : Ad.Pst r d0 k0 n0 B (k + 1) 0 f := ⟨h.1, fun hr hp => h.2 hr (by omega)⟩
theorem Ad.pst_B {r : Bool} {d0 k0 n0 B k : Nat} {f : Bool} (h : Ad.Pst r d0 k0 n0 B k 0 f) (hk : k0 < k) : Ad.Pst r d0 k0 n0 (B + 1) 0 0 f := ⟨h.1, fun hr hp => h.2 hr (by omega)⟩
theorem Ad.pst_n {r : Bool} {d0 k0 n0 B k n : Nat} {f g : Bool} (h : Ad.Pst r d0 k0 n0 B k n f) (h1 : r = true → g = false) (h2 : r = false → B = d0 → k = k0 → n = n0 → g = true) : Ad.Pst r d0 k0 n0 B k (n + 1) (f || g) := by
  refine ⟨fun hr => by rw [h.1 hr, h1 hr]; rfl, fun hr hp => ?_⟩
  by_cases hq : d0 < B ∨ (d0 = B ∧ (k0 < k ∨ (k0 = k ∧ n0 < n)))
  · rw [h.2 hr hq]; rfl
  · rw [h2 hr (by omega) (by omega) (by omega)]; simp
theorem Ad.pst_end {r : Bool} {d0 k0 n0 : Nat} {f : Bool} (h : Ad.Pst r d0 k0 n0 33 0 0 f) (hd : d0 ≤ 32) : f = !r := by
  cases r
  · exact h.2 rfl (.inl (by omega))
  · exact h.1 rfl

/-- The edges' row reads so. -/
def EdgeAt (W : World) (g : Nat) (es : List Int) : Prop := ∀ j, j < 6 → W.cell? ⟨g, j, none⟩ = some (.int .u32 (es.getD j 0))
theorem edge_below {W W' : World} {g : Nat} {es : List Int} (h : EdgeAt W g es) (hb : Below W.heap.size W W') : EdgeAt W' g es := fun j hj => (hb.cell (p := ⟨g, j, none⟩) (block_lt_of_cell (h j hj))).trans (h j hj)
theorem edge_of {W : World} {base g cap : Nat} (r : Ad.R) (h : W.ownsRow base 23 1 (.slice (some ⟨g, 0, none⟩) 6 cap) 6 (Ad.u32s (Ad.redges r))) : EdgeAt W g (Ad.redges r) := fun j hj => by
  rw [h.cellAt j (by omega)]
  have hl : (Ad.redges r).length = 6 := rfl
  rw [Ad.u32s, List.getElem?_map, List.getD_eq_getElem?_getD, List.getElem?_eq_getElem (by omega)]
  rfl
end Go.Proofs.YtkpoanjcalolkaaDoor
