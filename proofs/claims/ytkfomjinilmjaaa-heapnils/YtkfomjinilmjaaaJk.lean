/- A heap; the contract of Len, of two numbers by texts. -/
import Derived.Test.YtkfomjinilmjaaaJj
import Derived.Test.YtkfomjinilmjaaaHk
namespace Go.Proofs.Ytkfomjinilmjaaa
open Go.RowKit Go.Maps

/-- A heap: its rows in the order in which they were set. -/
def Hp2 (lt : ByteArray → ByteArray → Bool) (w : World) (h f : Nat) (L : List RwP) (T : Int) (ao : Option Addr) (m : Nat) : Prop :=
  ∃ (R : List RwP) (φ : Int × Int → Option Nat) (cap : Nat) (U : Int), Hm2 w h f R T φ ao cap m R.length ∧ Idx R φ ∧ Gs lt R L U
section
variable {lt : ByteArray → ByteArray → Bool} {w w' : World} {h f : Nat} {L : List RwP} {T : Int} {ao : Option Addr} {m : Nat}
theorem Hp2.old (H : Hp2 lt w h f L T ao m) : ∀ b, Own h m ao b → b < w.heap.size := by
  obtain ⟨R, φ, cap, U, H, _, _⟩ := H
  exact H.lt
theorem Hp2.kept (H : Hp2 lt w h f L T ao m) (hb : ∀ b, Own h m ao b → w'.heap[b]? = w.heap[b]?) : Hp2 lt w' h f L T ao m := by
  obtain ⟨R, φ, cap, U, H, h2, h3⟩ := H
  exact ⟨R, φ, cap, U, H.kept hb, h2, h3⟩
theorem Hp2.below (H : Hp2 lt w h f L T ao m) (hb : Below w.heap.size w w') : Hp2 lt w' h f L T ao m := H.kept fun b hb' => hb.block b (H.old b hb')
theorem Hp2.once (H : Hp2 lt w h f L T ao m) : Once L := by
  obtain ⟨R, φ, cap, U, _, h2, h3⟩ := H
  exact h3.once h2
theorem Hp2.turn (H : Hp2 lt w h f L T ao m) : L.Pairwise fun a b => a.t < b.t := by
  obtain ⟨R, φ, cap, U, _, _, h3⟩ := H
  exact h3.turn
theorem Gs.top_any2 {R : List RwP} (G : Gs lt R L T) {T' : Int} (hT : ∀ x ∈ L, x.t ≤ T') : Gs lt R L T' := ⟨G.ho, G.len, G.mem, G.turn, hT⟩
theorem Hp2.sm (H : Hp2 lt w h f L T ao m) : ∀ x ∈ L, In64 x.k := by
  obtain ⟨R, φ, cap, U, h1, _, h3⟩ := H
  exact fun x hx => h1.sm x ((h3.mem x).2 hx)
/-- The row of a key. -/
def rowOf2 (L : List RwP) (k : Int × Int) : Option RwP := L.find? fun x => decide (x.k = k)
theorem rowOf2_some {x : RwP} {k : Int × Int} (h : rowOf2 L k = some x) : x ∈ L ∧ x.k = k := ⟨List.mem_of_find?_eq_some h, by simpa using List.find?_some h⟩
theorem rowOf2_none {k : Int × Int} : rowOf2 L k = none ↔ ∀ x ∈ L, x.k ≠ k := by simp [rowOf2, List.find?_eq_none]
theorem rowOf2_mem {x : RwP} (ho : Once L) (hx : x ∈ L) : rowOf2 L x.k = some x := by
  cases e : rowOf2 L x.k with
  | none => exact absurd rfl (rowOf2_none.1 e x hx)
  | some y =>
    obtain ⟨hy, hk⟩ := rowOf2_some e
    obtain ⟨i, hi⟩ := List.mem_iff_getElem?.1 hx
    obtain ⟨j, hj⟩ := List.mem_iff_getElem?.1 hy
    have := ho j i y x hj hi hk
    subst this
    rw [hi, Option.some.injEq] at hj
    rw [hj]
/-- Where the map has a key. -/
theorem idx_row2 {R : List RwP} {φ : Int × Int → Option Nat} (hI : Idx R φ) (hG : Gs lt R L T) (k : Int × Int) : match φ k with | some i => ∃ a, R[i]? = some a ∧ rowOf2 L k = some a | none => rowOf2 L k = none := by
  cases e : φ k with
  | some i =>
    obtain ⟨a, ha, hk⟩ := hI.2 k i e
    refine ⟨a, ha, ?_⟩
    rw [← hk]
    exact rowOf2_mem (hG.once hI) ((hG.mem a).1 (List.mem_iff_getElem?.2 ⟨i, ha⟩))
  | none =>
    rw [rowOf2_none]
    intro x hx hk
    obtain ⟨i, hi⟩ := List.mem_iff_getElem?.1 ((hG.mem x).2 hx)
    rw [← hk, hI.1 i x hi] at e
    cases e
theorem len2_is (H : Hp2 lt w h f L T ao m) (_hn : L.length ≤ 1000) : Calls Try.prog 34 #[.pointer (some ⟨h, 0, none⟩)] w fun e w' => e = .returned (.int .i64 (L.length : Nat)) ∧ w' = w := by
  obtain ⟨R, φ, cap, U, H, _, G⟩ := H
  obtain ⟨c0, c1, c2, c3, _⟩ := four_cells H.top
  rw [G.len] at c1
  clear H G
  go_enter Try.func34, Try.ntmps34
  go_wp2_with fail
  go_ret
  exact ⟨rfl, rfl⟩
end
end Go.Proofs.Ytkfomjinilmjaaa
