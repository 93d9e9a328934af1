/- Worlds, communities and lists of them: where they lie, and how two are held against each other. -/
import Derived.Test.YtngfoijmknclhaaGreatDoorProg
import Derived.WalkKit
import Derived.WalkSpells
import Derived.WalkLawsBesides
import Derived.Deep.QuietTactic
import Derived.BigQuiet
import Derived.Lib.QuietBelow
import Derived.Deep.Cut
import Derived.Lib.Builder
import Derived.RegionTactic
import Derived.Laws.StructEq
import Derived.Sort.Grow
namespace Go.Proofs.YtngfoijmknclhaaGreatDoor.Cm
open Go.RowKit Go.Sort
theorem hide {p : Prop} (h : p) : Hid p := h

theorem heap_lt {w : World} {b : Nat} {o : Obj} (h : w.heap[b]? = some o) : b < w.heap.size := by
  rcases Nat.lt_or_ge b w.heap.size with h' | h'
  · exact h'
  · simp [Array.getElem?_eq_none h'] at h

/-- An owned row is owned still behind what leaves all old blocks as they were. -/
theorem row_below {w w' : World} {B e size n : Nat} {v : Value} {xs : List Value} (h : w.ownsRow B e size v n xs) (hb : Below w.heap.size w w') : w'.ownsRow B e size v n xs := by
  obtain ⟨h1, h2⟩ := h
  refine ⟨h1, ?_⟩
  rcases h2 with h2 | ⟨g, cap, cur, hv, hB, hg, r⟩
  · exact .inl h2
  · exact .inr ⟨g, cap, cur, hv, hB, (hb.block g (heap_lt hg)).trans hg, r⟩

theorem ret_int {k : IntKind} {a b : Int} (h : a = b) : Ending.returned (.int k a) = .returned (.int k b) := by rw [h]
theorem ret_bool {a b : Bool} (h : a = b) : Ending.returned (.bool a) = .returned (.bool b) := by rw [h]
theorem bcell {W w1 : World} (hb : Below W.heap.size W w1) : (∀ b o, b < W.heap.size → w1.cell? ⟨b, o, none⟩ = W.cell? ⟨b, o, none⟩) ∧ (∀ b o, b < W.heap.size → w1.frozen? ⟨b, o, none⟩ = W.frozen? ⟨b, o, none⟩) :=
  ⟨fun b o h => hb.cell (p := ⟨b, o, none⟩) h, fun b o h => hb.frozen (p := ⟨b, o, none⟩) h⟩
theorem bthen {w W w1 : World} (h : Below w.heap.size w W) (hb : Below W.heap.size W w1) : Below w.heap.size w w1 := h.trans (hb.mono h.size)
theorem balloc {w W : World} (h : Below w.heap.size w W) (o : Obj) : Below w.heap.size w (W.alloc o) := h.alloc h.size o
theorem brefl (w : World) : Below w.heap.size w w := Below.refl _ _
theorem bset {w W : World} (h : Below w.heap.size w W) {p : Addr} (hp : w.heap.size ≤ p.block) (u : Value) : Below w.heap.size w (W.setCell p u) := h.setCell hp u

/-- Some draws on, some blocks behind. -/
def Grows (w w' : World) : Prop := ∃ q os, w' = grow (w.drewN q) os
theorem Grows.refl (w : World) : Grows w w := ⟨0, #[], by rw [grow_empty]; rfl⟩
theorem Grows.trans {a b c : World} (h : Grows a b) (k : Grows b c) : Grows a c := by
  obtain ⟨q, os, rfl⟩ := h
  obtain ⟨q', os', rfl⟩ := k
  refine ⟨q + q', os ++ os', ?_⟩
  rw [← grow_grow, ← World.drewN_drewN]
  rfl
theorem Grows.alloc {a b : World} (h : Grows a b) (o : Obj) : Grows a (b.alloc o) := h.trans ⟨0, #[o], rfl⟩
theorem Grows.drewN {a b : World} (h : Grows a b) (n : Nat) : Grows a (b.drewN n) := h.trans ⟨n, #[], by rw [grow_empty]⟩
theorem Grows.below {a b : World} (h : Grows a b) : Below a.heap.size a b := by
  obtain ⟨q, os, rfl⟩ := h
  exact ⟨rfl, rfl, rfl, by simp [grow], fun k hk => by simp [grow, Array.getElem?_append, hk]⟩

/-- A community's two cells read there. -/
def Two (w : World) (n : Nat) (a b : Int) : Prop := w.cell? ⟨n, 0, none⟩ = some (.int .i64 a) ∧ w.cell? ⟨n, 1, none⟩ = some (.int .i64 b) ∧ n < w.heap.size ∧ n < w.heap.size + 1
theorem two_of {W : World} {n : Nat} {a b : Int} (h0 : W.cell? ⟨n, 0, none⟩ = some (.int .i64 a)) (h1 : W.cell? ⟨n, 1, none⟩ = some (.int .i64 b)) : Two W n a b :=
  ⟨h0, h1, block_lt_of_cell h0, Nat.lt_succ_of_lt (block_lt_of_cell h0)⟩
theorem two_below {W w1 : World} {n : Nat} {a b : Int} (hb : Below W.heap.size W w1) (h : Two W n a b) : Two w1 n a b :=
  two_of ((hb.cell (p := ⟨n, 0, none⟩) h.2.2.1).trans h.1) ((hb.cell (p := ⟨n, 1, none⟩) h.2.2.1).trans h.2.1)
theorem two_new (W : World) (a b : Int) (t : TypeId) : Two (W.alloc (.cells #[.int .i64 a, .int .i64 b] t)) W.heap.size a b := two_of (by simp) (by simp)

abbrev Co.C : Type := Int × Int
def Co.enc (x : Co.C) : List Value := [.int .i64 x.1, .int .i64 x.2]
def Co.cells (l : List Co.C) : List Value := l.flatMap Co.enc
def Co.reads (w : World) (b off : Nat) (l : List Co.C) : Prop := ∀ j u, (Co.cells l)[j]? = some u → w.cell? ⟨b, off + j, none⟩ = some u
/-- A slice at which a list lies: nil has none. -/
def Co.slot (w : World) (ao : Option Addr) (l : List Co.C) : Prop := l = [] ∨ ∃ b off, ao = some ⟨b, off, none⟩ ∧ Co.reads w b off l

theorem Co.cells_length (l : List Co.C) : (Co.cells l).length = l.length * 2 := by
  induction l with
  | nil => rfl
  | cons x l ih => simp only [Co.cells, List.flatMap_cons, List.length_append, List.length_cons] at *; simp only [Co.enc, List.length_cons, List.length_nil]; omega
theorem Co.cells_app (x y : List Co.C) : Co.cells (x ++ y) = Co.cells x ++ Co.cells y := by simp [Co.cells]
theorem Co.cells_get (l : List Co.C) (i : Nat) (h : i < l.length) : (Co.cells l)[i * 2]? = some (.int .i64 l[i].1) ∧ (Co.cells l)[i * 2 + 1]? = some (.int .i64 l[i].2) := by
  induction l generalizing i with
  | nil => simp at h
  | cons x l ih =>
    cases i with
    | zero => simp [Co.cells, Co.enc]
    | succ i =>
      have := ih i (by simpa using h)
      have e : (i + 1) * 2 = i * 2 + 1 + 1 := by omega
      simpa [Co.cells, Co.enc, e] using this
theorem Co.cells_one (l : List Co.C) : ∀ u ∈ Co.cells l, u.oneCell' = true := by
  intro u hu
  simp only [Co.cells, List.mem_flatMap] at hu
  obtain ⟨x, _, hx⟩ := hu
  simp [Co.enc] at hx
  rcases hx with rfl | rfl <;> rfl

theorem Co.reads_at {w : World} {b off : Nat} {l : List Co.C} (h : Co.reads w b off l) (i : Nat) (hi : i < l.length) :
    w.cell? ⟨b, off + i * 2, none⟩ = some (.int .i64 l[i].1) ∧ w.cell? ⟨b, off + i * 2 + 1, none⟩ = some (.int .i64 l[i].2) := by
  have := Co.cells_get l i hi
  exact ⟨h _ _ this.1, by rw [Nat.add_assoc]; exact h _ _ this.2⟩
theorem Co.reads_below {w w' : World} {b off : Nat} {l : List Co.C} (h : Co.reads w b off l) (hb : Below w.heap.size w w') : Co.reads w' b off l := by
  intro j u hu
  have := h j u hu
  rw [hb.cell (p := ⟨b, off + j, none⟩) (block_lt_of_cell this)]
  exact this
theorem Co.slot_below {w w' : World} {ao : Option Addr} {l : List Co.C} (h : Co.slot w ao l) (hb : Below w.heap.size w w') : Co.slot w' ao l := by
  rcases h with h | ⟨b, off, h, hr⟩
  · exact .inl h
  · exact .inr ⟨b, off, h, Co.reads_below hr hb⟩
theorem Co.slot_at {w : World} {ao : Option Addr} {l : List Co.C} (h : Co.slot w ao l) {k : Nat} (hk : k < l.length) : ∃ b off, ao = some ⟨b, off, none⟩ ∧ Co.reads w b off l := by
  rcases h with h | h
  · rw [h] at hk; simp at hk
  · exact h
theorem row_slice {w : World} {B e size n : Nat} {v : Value} {xs : List Value} (h : w.ownsRow B e size v n xs) : ∃ ao cap, v = .slice ao n cap := by
  rcases h.2 with ⟨rfl, rfl⟩ | ⟨g, cap, cur, rfl, _⟩
  · exact ⟨none, 0, rfl⟩
  · exact ⟨_, cap, rfl⟩
theorem Co.slot_own {w : World} {B n cap : Nat} {ao : Option Addr} {l : List Co.C} (h : w.ownsRow B 39 2 (.slice ao n cap) n (Co.cells l)) : Co.slot w ao l := by
  rcases h.2 with ⟨hv, h0⟩ | ⟨g, cap', cur, hv, _⟩
  · left
    have := h.1
    rw [Co.cells_length, h0] at this
    exact List.length_eq_zero_iff.1 (by omega)
  · right
    simp only [Value.slice.injEq] at hv
    refine ⟨g, 0, hv.1, fun j u hu => ?_⟩
    have hj : j < n * 2 := by have := (List.getElem?_eq_some_iff.1 hu).1; have := h.1; omega
    rw [hv.1] at h
    rw [Nat.zero_add, h.cellAt j hj]
    exact hu
theorem guardC : Tryz.prog.eqGuardType Tryz.prog.depth 39 = false := by kernel_rfl
theorem eqC (a b c d : Int) (w : World) : (binOp .eql 39 (.agg #[.int .i64 a, .int .i64 b]) (.agg #[.int .i64 c, .int .i64 d])).run Tryz.prog w = .ok (.bool (a == c && b == d)) w := by
  have u3 := Tryz.underlying3
  have a3 := Tryz.isAgg3
  have z3 := Tryz.sizeOf3
  have hS : Tryz.prog.underlying 39 = some (.struct (Tryz.prog.fieldsOf 39)) := by kernel_rfl
  have hp : Tryz.prog.stoodInHeld 39 = false := by kernel_rfl
  rw [run_eql_struct, show (10000 : Nat) = 9999 + 1 from rfl, run_equalIn_agg w 9999 39 _ _ hS hp]
  simp only [Program.fieldsOf, Tryz.underlying39]
  go_simp
  by_cases h1 : a = c <;> by_cases h2 : b = d <;> simp [h1, h2]
theorem neqC (a b c d : Int) (w : World) : (binOp .neq 39 (.agg #[.int .i64 a, .int .i64 b]) (.agg #[.int .i64 c, .int .i64 d])).run Tryz.prog w = .ok (.bool (!(a == c && b == d))) w := by
  have u3 := Tryz.underlying3
  have a3 := Tryz.isAgg3
  have z3 := Tryz.sizeOf3
  have hS : Tryz.prog.underlying 39 = some (.struct (Tryz.prog.fieldsOf 39)) := by kernel_rfl
  have hp : Tryz.prog.stoodInHeld 39 = false := by kernel_rfl
  rw [run_neq_struct, show (10000 : Nat) = 9999 + 1 from rfl, run_equalIn_agg w 9999 39 _ _ hS hp]
  simp only [Program.fieldsOf, Tryz.underlying39]
  go_simp
  by_cases h1 : a = c <;> by_cases h2 : b = d <;> simp [h1, h2]
end Go.Proofs.YtngfoijmknclhaaGreatDoor.Cm
