/- Turning one number of each community of a row, and back: what else lies stays. -/
import Derived.Test.YtgebfgjeckdngaaDoorY4
import Derived.Laws.BitsAllLaws
namespace Go.Proofs.YtgebfgjeckdngaaDoor
open Go.RowKit Go.Sort Go.Lib

def Co.fx (n : Int) : Int := bits .xor .i64 n 1
theorem fx_nat (a : Nat) (ha : a < 1000000) : Co.fx (a : Int) = ((a ^^^ 1 : Nat) : Int) := by
  have hx : a ^^^ 1 < 2 ^ 20 := Nat.xor_lt_two_pow (by omega) (by omega)
  unfold Co.fx
  show IntKind.i64.wrap ((BitVec.ofInt 64 (a : Int) ^^^ BitVec.ofInt 64 ((1 : Nat) : Int)).toNat : Int) = _
  rw [BitVec.toNat_xor, ofInt_u64 a (by omega), ofInt_u64 1 (by omega), IntKind.wrap_i64]
  omega
theorem fx_fx (n : Int) (h0 : 0 ≤ n) (h1 : n ≤ 65535) : Co.fx (Co.fx n) = n := by
  obtain ⟨a, rfl⟩ := Int.eq_ofNat_of_zero_le h0
  have hx : a ^^^ 1 < 2 ^ 16 := Nat.xor_lt_two_pow (by omega) (by omega)
  rw [fx_nat a (by omega), fx_nat (a ^^^ 1) (by omega), Nat.xor_assoc, Nat.xor_self, Nat.xor_zero]
def Co.fl (c : Co.C) : Co.C := (c.1, Co.fx c.2)

/-- The first k are turned by f, the others by h. -/
def Co.At (x dk : Array Co.C) (f h : Co.C → Co.C) (k : Nat) : Prop := dk.size = x.size ∧ ∀ i, i < x.size → dk[i]! = if i < k then f x[i]! else h x[i]!
theorem Co.At.step {x dk : Array Co.C} {f h : Co.C → Co.C} {k : Nat} (H : Co.At x dk f h k) (hk : k < x.size) (z : Co.C) (hz : z = f x[k]!) : Co.At x (dk.setIfInBounds k z) f h (k + 1) := by
  refine ⟨by simp [H.1], fun i hi => ?_⟩
  by_cases e : i = k
  · subst e
    rw [getElem!_set_same dk i z (by rw [H.1]; exact hi), if_pos (by omega), hz]
  · rw [getElem!_set_other dk k i z e, H.2 i hi]
    by_cases h1 : i < k
    · rw [if_pos h1, if_pos (by omega)]
    · rw [if_neg h1, if_neg (by omega)]

theorem Co.holds_set2 {w : World} {g : Nat} {d : Array Co.C} (h : Co.holds w g d) (k : Nat) (hk : k < d.size) (z : Int) : Co.holds (w.setCell ⟨g, k * 2 + 1, none⟩ (.int .i64 z)) g (d.setIfInBounds k ((d[k]!).1, z)) := by
  intro i hi
  have hi' : i < d.size := by simpa using hi
  obtain ⟨h0, h1, h2, h3⟩ := h i hi'
  by_cases e : i = k
  · subst e
    rw [getElem!_set_same d i _ hi']
    have m1 : (⟨g, i * 2 + 1, none⟩ : Addr) ≠ ⟨g, i * 2, none⟩ := by intro h; injection h; omega
    refine ⟨?_, World.cell?_setCell_same _ _ _ h1, by simpa using h2, by simpa using h3⟩
    rw [World.cell?_setCell_other (h := m1)]; exact h0
  · rw [getElem!_set_other d k i _ e]
    have n2 : (⟨g, k * 2 + 1, none⟩ : Addr) ≠ ⟨g, i * 2, none⟩ := by intro h; injection h; omega
    have n4 : (⟨g, k * 2 + 1, none⟩ : Addr) ≠ ⟨g, i * 2 + 1, none⟩ := by intro h; injection h; omega
    refine ⟨?_, ?_, by simpa using h2, by simpa using h3⟩
    · rw [World.cell?_setCell_other (h := n2)]; exact h0
    · rw [World.cell?_setCell_other (h := n4)]; exact h1

/-- All blocks but one are as they were. -/
def But (g : Nat) (w w' : World) : Prop := w.heap.size ≤ w'.heap.size ∧ ∀ b, b < w.heap.size → b ≠ g → w'.heap[b]? = w.heap[b]?
theorem But.refl (g : Nat) (w : World) : But g w w := ⟨Nat.le_refl _, fun _ _ _ => rfl⟩
theorem But.below {g : Nat} {w w1 w2 : World} (h : But g w w1) (hb : Below w1.heap.size w1 w2) : But g w w2 :=
  ⟨Nat.le_trans h.1 hb.size, fun b h1 h2 => (hb.block b (Nat.lt_of_lt_of_le h1 h.1)).trans (h.2 b h1 h2)⟩
theorem But.set {g : Nat} {w w1 : World} (h : But g w w1) (o : Nat) (v : Value) : But g w (w1.setCell ⟨g, o, none⟩ v) := by
  refine ⟨by simpa [World.setCell] using h.1, fun b h1 h2 => ?_⟩
  rw [← h.2 b h1 h2]
  simp only [World.setCell, Array.getElem?_modify]
  rw [if_neg (fun e => h2 e.symm)]
theorem But.slot {g : Nat} {w w' : World} {o : Option Addr} {y : List Co.C} (h : But g w w') (hs : Co.slot w o y) (hn : ∀ ad, o = some ad → ad.block ≠ g) : Co.slot w' o y := by
  rcases hs with hs | ⟨b, off, hs, hr⟩
  · exact .inl hs
  · refine .inr ⟨b, off, hs, fun j u hu => ?_⟩
    have hc := hr j u hu
    have hb := h.2 b (block_lt_of_cell hc) (hn _ hs)
    rw [← hc]
    simp only [World.cell?, hb]

/-- Where the turning stands. -/
def FlipSt (B : Nat) (W1 : World) (xo : Option Addr) (x : List Co.C) (f h : Co.C → Co.C) (k : Nat) (wr : World) : Prop :=
  Below B W1 wr ∧ ((x = [] ∧ Below W1.heap.size W1 wr) ∨ ∃ g, xo = some ⟨g, 0, none⟩ ∧ B ≤ g ∧ g < W1.heap.size ∧ But g W1 wr ∧ ∃ dk, Co.At x.toArray dk f h k ∧ Co.holds wr g dk)
theorem FlipSt.start {B : Nat} {W1 : World} {xo : Option Addr} {x : List Co.C} (h : Co.wrow B W1 xo x) (f : Co.C → Co.C) : FlipSt B W1 xo x f id 0 W1 := by
  refine ⟨Below.refl _ _, ?_⟩
  rcases h with h | ⟨g, h1, h2, h3⟩
  · exact .inl ⟨h, Below.refl _ _⟩
  · rcases Nat.eq_zero_or_pos x.length with h0 | h0
    · exact .inl ⟨List.length_eq_zero_iff.1 h0, Below.refl _ _⟩
    · exact .inr ⟨g, h1, h2, block_lt_of_cell (h3 0 (by simpa using h0)).1, But.refl _ _, x.toArray, ⟨rfl, fun i _ => by rw [if_neg (by omega)]; rfl⟩, h3⟩
theorem FlipSt.below {B : Nat} {W1 wr w' : World} {xo : Option Addr} {x : List Co.C} {f h : Co.C → Co.C} {k : Nat} (H : FlipSt B W1 xo x f h k wr) (hB : B ≤ W1.heap.size) (hb : Below wr.heap.size wr w') : FlipSt B W1 xo x f h k w' := by
  refine ⟨H.1.trans (hb.mono (Nat.le_trans hB H.1.size)), ?_⟩
  rcases H.2 with ⟨h1, h2⟩ | ⟨g, h1, h2, h3, h4, dk, h5, h6⟩
  · exact .inl ⟨h1, bthen h2 hb⟩
  · exact .inr ⟨g, h1, h2, h3, h4.below hb, dk, h5, Co.holds_below h6 hb⟩
theorem FlipSt.turn {B : Nat} {W1 wr : World} {xo : Option Addr} {x : List Co.C} {f h f2 h2 : Co.C → Co.C} (H : FlipSt B W1 xo x f h x.length wr) (he : h2 = f) : FlipSt B W1 xo x f2 h2 0 wr := by
  subst he
  refine ⟨H.1, ?_⟩
  rcases H.2 with h1 | ⟨g, h1, h2, h3, h4, dk, h5, h6⟩
  · exact .inl h1
  · refine .inr ⟨g, h1, h2, h3, h4, dk, ⟨h5.1, fun i hi => ?_⟩, h6⟩
    rw [h5.2 i hi, if_pos (by simpa using hi), if_neg (by omega)]
/-- One round: what is read and what is written. -/
theorem FlipSt.round {B : Nat} {W1 wr : World} {xo : Option Addr} {x : List Co.C} {f h : Co.C → Co.C} {k : Nat} (H : FlipSt B W1 xo x f h k wr) (hk : k < x.length) (hf : ∀ c, (f c).1 = c.1) (hh : ∀ c, (h c).1 = c.1) :
    ∃ g, xo = some ⟨g, 0, none⟩ ∧ wr.cell? ⟨g, k * 2 + 1, none⟩ = some (.int .i64 (h x[k]!).2) ∧ wr.frozen? ⟨g, k * 2 + 1, none⟩ = false ∧ FlipSt B W1 xo x f h (k + 1) (wr.setCell ⟨g, k * 2 + 1, none⟩ (.int .i64 (f x[k]!).2)) := by
  rcases H.2 with ⟨h1, _⟩ | ⟨g, h1, h2, h3, h4, dk, h5, h6⟩
  · rw [h1] at hk; simp at hk
  · have hk' : k < x.toArray.size := by simpa using hk
    have hkd : k < dk.size := by rw [h5.1]; exact hk'
    obtain ⟨c0, c1, c2, c3⟩ := h6 k hkd
    have hx : x.toArray[k]! = x[k]! := by simp [hk]
    have hv : dk[k]! = h x[k]! := by rw [h5.2 k hk', if_neg (by omega), hx]
    rw [hv] at c1
    refine ⟨g, h1, c1, c3, H.1.setCell (p := ⟨g, k * 2 + 1, none⟩) h2 _, .inr ⟨g, h1, h2, h3, h4.set _ _, _, ?_, Co.holds_set2 h6 k hkd _⟩⟩
    refine h5.step hk' _ ?_
    rw [hv, hx, hh]
    exact Prod.ext (show (x[k]!).1 = (f x[k]!).1 from (hf _).symm) rfl
theorem FlipSt.done {B : Nat} {W1 wr : World} {xo : Option Addr} {x : List Co.C} {h : Co.C → Co.C} (H : FlipSt B W1 xo x id h x.length wr) : Co.slot wr xo x := by
  rcases H.2 with ⟨h1, _⟩ | ⟨g, h1, h2, h3, h4, dk, h5, h6⟩
  · exact .inl h1
  · have e : dk = x.toArray := by
      apply Array.ext
      · exact h5.1
      · intro i hi1 hi2
        have := h5.2 i hi2
        rw [if_pos (by simpa using hi2), getElem!_pos dk i hi1, getElem!_pos x.toArray i hi2] at this
        exact this
    subst e
    exact Co.wrow_slot (B := B) (.inr ⟨g, h1, h2, h6⟩)
/-- Another list, elsewhere. -/
theorem FlipSt.slot {B : Nat} {W1 wr : World} {xo o : Option Addr} {x y : List Co.C} {f h : Co.C → Co.C} {k : Nat} (H : FlipSt B W1 xo x f h k wr) (hs : Co.slot W1 o y) (hn : ∀ g, xo = some ⟨g, 0, none⟩ → ∀ ad, o = some ad → ad.block ≠ g) : Co.slot wr o y := by
  rcases H.2 with ⟨_, h1⟩ | ⟨g, h1, h2, h3, h4, dk, h5, h6⟩
  · exact Co.slot_below hs h1
  · exact h4.slot hs (hn g h1)
end Go.Proofs.YtgebfgjeckdngaaDoor
