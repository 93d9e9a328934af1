/- Worlds, communities and lists of them: where they lie, and how two are held against each other. -/
import Derived.Test.YtpmmhmgojjlniaaGreatDoorProg
import Derived.WalkKit
import Derived.WalkSpells
import Derived.WalkLawsBesides
import Derived.Deep.QuietTactic
import Derived.BigQuiet
import Derived.Lib.QuietBelow
import Derived.Deep.Cut
import Derived.Lib.Builder
import Derived.RegionTactic
import Derived.Laws.StructEq
import Derived.Sort.Grow
import Derived.Deep.RegionHeldLaw
import Derived.Lib.ItoaLen
import Derived.Lib.AppendIntMem
import Derived.Laws.IdiomStrings
import Derived.Laws.Concat
import Derived.Lib.Join
namespace Go.Proofs.YtpmmhmgojjlniaaGreatDoor.Cm
open Go.RowKit Go.Sort

theorem hide {p : Prop} (h : p) : Hid p := h

theorem heap_lt {w : World} {b : Nat} {o : Obj} (h : w.heap[b]? = some o) : b < w.heap.size := by
  rcases Nat.lt_or_ge b w.heap.size with h' | h'
  · exact h'
  · simp [Array.getElem?_eq_none h'] at h

/-- An owned row is owned still behind what leaves all old blocks as they were. -/
theorem row_below {w w' : World} {B e size n : Nat} {v : Value} {xs : List Value} (h : w.ownsRow B e size v n xs) (hb : Below w.heap.size w w') : w'.ownsRow B e size v n xs := by
  obtain ⟨h1, h2⟩ := h
  refine ⟨h1, ?_⟩
  rcases h2 with h2 | ⟨g, cap, cur, hv, hB, hg, r⟩
  · exact .inl h2
  · exact .inr ⟨g, cap, cur, hv, hB, (hb.block g (heap_lt hg)).trans hg, r⟩

theorem ret_int {k : IntKind} {a b : Int} (h : a = b) : Ending.returned (.int k a) = .returned (.int k b) := by rw [h]
theorem ret_bool {a b : Bool} (h : a = b) : Ending.returned (.bool a) = .returned (.bool b) := by rw [h]
theorem bcell {W w1 : World} (hb : Below W.heap.size W w1) : (∀ b o, b < W.heap.size → w1.cell? ⟨b, o, none⟩ = W.cell? ⟨b, o, none⟩) ∧ (∀ b o, b < W.heap.size → w1.frozen? ⟨b, o, none⟩ = W.frozen? ⟨b, o, none⟩) :=
  ⟨fun b o h => hb.cell (p := ⟨b, o, none⟩) h, fun b o h => hb.frozen (p := ⟨b, o, none⟩) h⟩
theorem bthen {w W w1 : World} (h : Below w.heap.size w W) (hb : Below W.heap.size W w1) : Below w.heap.size w w1 := h.trans (hb.mono h.size)
theorem balloc {w W : World} (h : Below w.heap.size w W) (o : Obj) : Below w.heap.size w (W.alloc o) := h.alloc h.size o
theorem brefl (w : World) : Below w.heap.size w w := Below.refl _ _
theorem bset {w W : World} (h : Below w.heap.size w W) {p : Addr} (hp : w.heap.size ≤ p.block) (u : Value) : Below w.heap.size w (W.setCell p u) := h.setCell hp u

/-- Some draws on, some blocks behind. -/
def Grows (w w' : World) : Prop := ∃ q os, w' = grow (w.drewN q) os
theorem Grows.refl (w : World) : Grows w w := ⟨0, #[], by rw [grow_empty]; rfl⟩
theorem Grows.trans {a b c : World} (h : Grows a b) (k : Grows b c) : Grows a c := by
  obtain ⟨q, os, rfl⟩ := h
  obtain ⟨q', os', rfl⟩ := k
  refine ⟨q + q', os ++ os', ?_⟩
  rw [← grow_grow, ← World.drewN_drewN]
  rfl
theorem Grows.alloc {a b : World} (h : Grows a b) (o : Obj) : Grows a (b.alloc o) := h.trans ⟨0, #[o], rfl⟩
theorem Grows.drewN {a b : World} (h : Grows a b) (n : Nat) : Grows a (b.drewN n) := h.trans ⟨n, #[], by rw [grow_empty]⟩
theorem Grows.below {a b : World} (h : Grows a b) : Below a.heap.size a b := by
  obtain ⟨q, os, rfl⟩ := h
  exact ⟨rfl, rfl, rfl, by simp [grow], fun k hk => by simp [grow, Array.getElem?_append, hk]⟩

/-- A community's two cells read there. -/
def Two (w : World) (n : Nat) (a b : Int) : Prop := w.cell? ⟨n, 0, none⟩ = some (.int .i64 a) ∧ w.cell? ⟨n, 1, none⟩ = some (.int .i64 b) ∧ n < w.heap.size ∧ n < w.heap.size + 1
theorem two_of {W : World} {n : Nat} {a b : Int} (h0 : W.cell? ⟨n, 0, none⟩ = some (.int .i64 a)) (h1 : W.cell? ⟨n, 1, none⟩ = some (.int .i64 b)) : Two W n a b :=
  ⟨h0, h1, block_lt_of_cell h0, Nat.lt_succ_of_lt (block_lt_of_cell h0)⟩
theorem two_below {W w1 : World} {n : Nat} {a b : Int} (hb : Below W.heap.size W w1) (h : Two W n a b) : Two w1 n a b :=
  two_of ((hb.cell (p := ⟨n, 0, none⟩) h.2.2.1).trans h.1) ((hb.cell (p := ⟨n, 1, none⟩) h.2.2.1).trans h.2.1)
theorem two_new (W : World) (a b : Int) (t : TypeId) : Two (W.alloc (.cells #[.int .i64 a, .int .i64 b] t)) W.heap.size a b := two_of (by simp) (by simp)

abbrev Co.C : Type := Int × Int
def Co.enc (x : Co.C) : List Value := [.int .i64 x.1, .int .i64 x.2]
def Co.cells (l : List Co.C) : List Value := l.flatMap Co.enc
def Co.reads (w : World) (b off : Nat) (l : List Co.C) : Prop := ∀ j u, (Co.cells l)[j]? = some u → w.cell? ⟨b, off + j, none⟩ = some u
/-- A slice at which a list lies: nil has none. -/
def Co.slot (w : World) (ao : Option Addr) (l : List Co.C) : Prop := l = [] ∨ ∃ b off, ao = some ⟨b, off, none⟩ ∧ Co.reads w b off l

theorem Co.cells_length (l : List Co.C) : (Co.cells l).length = l.length * 2 := by
  induction l with
  | nil => rfl
  | cons x l ih => simp only [Co.cells, List.flatMap_cons, List.length_append, List.length_cons] at *; simp only [Co.enc, List.length_cons, List.length_nil]; omega
theorem Co.cells_app (x y : List Co.C) : Co.cells (x ++ y) = Co.cells x ++ Co.cells y := by simp [Co.cells]
theorem Co.cells_get (l : List Co.C) (i : Nat) (h : i < l.length) : (Co.cells l)[i * 2]? = some (.int .i64 l[i].1) ∧ (Co.cells l)[i * 2 + 1]? = some (.int .i64 l[i].2) := by
  induction l generalizing i with
  | nil => simp at h
  | cons x l ih =>
    cases i with
    | zero => simp [Co.cells, Co.enc]
    | succ i =>
      have := ih i (by simpa using h)
      have e : (i + 1) * 2 = i * 2 + 1 + 1 := by omega
      simpa [Co.cells, Co.enc, e] using this
theorem Co.cells_one (l : List Co.C) : ∀ u ∈ Co.cells l, u.oneCell' = true := by
  intro u hu
  simp only [Co.cells, List.mem_flatMap] at hu
  obtain ⟨x, _, hx⟩ := hu
  simp [Co.enc] at hx
  rcases hx with rfl | rfl <;> rfl

theorem Co.reads_at {w : World} {b off : Nat} {l : List Co.C} (h : Co.reads w b off l) (i : Nat) (hi : i < l.length) :
    w.cell? ⟨b, off + i * 2, none⟩ = some (.int .i64 l[i].1) ∧ w.cell? ⟨b, off + i * 2 + 1, none⟩ = some (.int .i64 l[i].2) := by
  have := Co.cells_get l i hi
  exact ⟨h _ _ this.1, by rw [Nat.add_assoc]; exact h _ _ this.2⟩
theorem Co.reads_below {w w' : World} {b off : Nat} {l : List Co.C} (h : Co.reads w b off l) (hb : Below w.heap.size w w') : Co.reads w' b off l := by
  intro j u hu
  have := h j u hu
  rw [hb.cell (p := ⟨b, off + j, none⟩) (block_lt_of_cell this)]
  exact this
theorem Co.slot_below {w w' : World} {ao : Option Addr} {l : List Co.C} (h : Co.slot w ao l) (hb : Below w.heap.size w w') : Co.slot w' ao l := by
  rcases h with h | ⟨b, off, h, hr⟩
  · exact .inl h
  · exact .inr ⟨b, off, h, Co.reads_below hr hb⟩
theorem Co.slot_at {w : World} {ao : Option Addr} {l : List Co.C} (h : Co.slot w ao l) {k : Nat} (hk : k < l.length) : ∃ b off, ao = some ⟨b, off, none⟩ ∧ Co.reads w b off l := by
  rcases h with h | h
  · rw [h] at hk; simp at hk
  · exact h
theorem row_slice {w : World} {B e size n : Nat} {v : Value} {xs : List Value} (h : w.ownsRow B e size v n xs) : ∃ ao cap, v = .slice ao n cap := by
  rcases h.2 with ⟨rfl, rfl⟩ | ⟨g, cap, cur, rfl, _⟩
  · exact ⟨none, 0, rfl⟩
  · exact ⟨_, cap, rfl⟩
theorem Co.slot_own {w : World} {B n cap : Nat} {ao : Option Addr} {l : List Co.C} (h : w.ownsRow B 53 2 (.slice ao n cap) n (Co.cells l)) : Co.slot w ao l := by
  rcases h.2 with ⟨hv, h0⟩ | ⟨g, cap', cur, hv, _⟩
  · left
    have := h.1
    rw [Co.cells_length, h0] at this
    exact List.length_eq_zero_iff.1 (by omega)
  · right
    simp only [Value.slice.injEq] at hv
    refine ⟨g, 0, hv.1, fun j u hu => ?_⟩
    have hj : j < n * 2 := by have := (List.getElem?_eq_some_iff.1 hu).1; have := h.1; omega
    rw [hv.1] at h
    rw [Nat.zero_add, h.cellAt j hj]
    exact hu
theorem Co.own_len {w : World} {B n : Nat} {v : Value} {l : List Co.C} (h : w.ownsRow B 53 2 v n (Co.cells l)) : n = l.length := by
  have := h.1
  rw [Co.cells_length] at this
  omega

theorem guardC : Tryz.prog.eqGuardType Tryz.prog.depth 53 = false := by kernel_rfl
theorem eqC (a b c d : Int) (w : World) : (binOp .eql 53 (.agg #[.int .i64 a, .int .i64 b]) (.agg #[.int .i64 c, .int .i64 d])).run Tryz.prog w = .ok (.bool (a == c && b == d)) w := by
  have u3 := Tryz.underlying3
  have a3 := Tryz.isAgg3
  have z3 := Tryz.sizeOf3
  have hS : Tryz.prog.underlying 53 = some (.struct (Tryz.prog.fieldsOf 53)) := by kernel_rfl
  have hp : Tryz.prog.stoodInHeld 53 = false := by kernel_rfl
  rw [run_eql_struct, show (10000 : Nat) = 9999 + 1 from rfl, run_equalIn_agg w 9999 53 _ _ hS hp]
  simp only [Program.fieldsOf, Tryz.underlying53]
  go_simp
  by_cases h1 : a = c <;> by_cases h2 : b = d <;> simp [h1, h2]
theorem neqC (a b c d : Int) (w : World) : (binOp .neq 53 (.agg #[.int .i64 a, .int .i64 b]) (.agg #[.int .i64 c, .int .i64 d])).run Tryz.prog w = .ok (.bool (!(a == c && b == d))) w := by
  have u3 := Tryz.underlying3
  have a3 := Tryz.isAgg3
  have z3 := Tryz.sizeOf3
  have hS : Tryz.prog.underlying 53 = some (.struct (Tryz.prog.fieldsOf 53)) := by kernel_rfl
  have hp : Tryz.prog.stoodInHeld 53 = false := by kernel_rfl
  rw [run_neq_struct, show (10000 : Nat) = 9999 + 1 from rfl, run_equalIn_agg w 9999 53 _ _ hS hp]
  simp only [Program.fieldsOf, Tryz.underlying53]
  go_simp
  by_cases h1 : a = c <;> by_cases h2 : b = d <;> simp [h1, h2]
end Go.Proofs.YtpmmhmgojjlniaaGreatDoor.Cm
namespace Go.Proofs.YtpmmhmgojjlniaaGreatDoor.Cm
open Go.RowKit Go.Sort

def Co.may (c : Co.C) : Bool := decide (1 ≤ c.1 ∧ c.1 ≤ 65535 ∧ 0 ≤ c.2 ∧ c.2 ≤ 65535)
def Co.ci (a b : Int) : Int := if a < b then -1 else if b < a then 1 else 0
def Co.ord (x y : Co.C) : Int := if Co.ci x.1 y.1 ≠ 0 then Co.ci x.1 y.1 else Co.ci x.2 y.2
def Co.bef (x y : Co.C) : Bool := decide (x.1 < y.1 ∨ (x.1 = y.1 ∧ x.2 < y.2))

theorem may_any (a b : Int) (w : World) : Calls Tryz.prog 215 #[.agg #[.int .i64 a, .int .i64 b]] w fun e w' => e = .returned (.bool (Co.may (a, b))) ∧ Grows w w' := by
  by_cases h0 : 1 ≤ a
  · have h0d : decide (1 ≤ a) = true := by simpa using h0
    by_cases h1 : a ≤ 65535
    · have h1d : decide (a ≤ 65535) = true := by simpa using h1
      by_cases h2 : 0 ≤ b
      · have h2d : decide (0 ≤ b) = true := by simpa using h2
        by_cases h3 : b ≤ 65535
        · have h3d : decide (b ≤ 65535) = true := by simpa using h3
          go_enter Tryz.func215, Tryz.ntmps215
          go_wp2_with fail
          go_ret
          exact ⟨ret_bool (by simp [Co.may]; omega), (Grows.refl w).alloc _⟩
        · have h3d : decide (b ≤ 65535) = false := by simpa using h3
          go_enter Tryz.func215, Tryz.ntmps215
          go_wp2_with fail
          go_ret
          exact ⟨ret_bool (by simp [Co.may]; omega), (Grows.refl w).alloc _⟩
      · have h2d : decide (0 ≤ b) = false := by simpa using h2
        go_enter Tryz.func215, Tryz.ntmps215
        go_wp2_with fail
        go_ret
        exact ⟨ret_bool (by simp [Co.may]; omega), (Grows.refl w).alloc _⟩
    · have h1d : decide (a ≤ 65535) = false := by simpa using h1
      go_enter Tryz.func215, Tryz.ntmps215
      go_wp2_with fail
      go_ret
      exact ⟨ret_bool (by simp [Co.may]; omega), (Grows.refl w).alloc _⟩
  · have h0d : decide (1 ≤ a) = false := by simpa using h0
    go_enter Tryz.func215, Tryz.ntmps215
    go_wp2_with fail
    go_ret
    exact ⟨ret_bool (by simp [Co.may]; omega), (Grows.refl w).alloc _⟩
theorem may_is (a b : Int) (r : Bool) (h : Co.may (a, b) = r) (w : World) : Calls Tryz.prog 215 #[.agg #[.int .i64 a, .int .i64 b]] w fun e w' => e = .returned (.bool r) ∧ Below w.heap.size w w' := by
  subst h
  exact (may_any a b w).mono fun e w' ⟨h1, h2⟩ => ⟨h1, h2.below⟩

theorem or_zero (x y : Int) (hx : x = 0) : y = if x ≠ 0 then x else y := by simp [hx]
theorem or_pos (x y : Int) (hx : x ≠ 0) : x = if x ≠ 0 then x else y := by simp [hx]

end Go.Proofs.YtpmmhmgojjlniaaGreatDoor.Cm
namespace Go.Proofs.YtpmmhmgojjlniaaGreatDoor.Ar
open Go.RowKit Go.Sort

theorem hide {p : Prop} (h : p) : Hid p := h

theorem heap_lt {w : World} {b : Nat} {o : Obj} (h : w.heap[b]? = some o) : b < w.heap.size := by
  rcases Nat.lt_or_ge b w.heap.size with h' | h'
  · exact h'
  · simp [Array.getElem?_eq_none h'] at h

/-- An owned row is owned still behind what leaves all old blocks as they were. -/
theorem row_below {w w' : World} {B e size n : Nat} {v : Value} {xs : List Value} (h : w.ownsRow B e size v n xs) (hb : Below w.heap.size w w') : w'.ownsRow B e size v n xs := by
  obtain ⟨h1, h2⟩ := h
  refine ⟨h1, ?_⟩
  rcases h2 with h2 | ⟨g, cap, cur, hv, hB, hg, r⟩
  · exact .inl h2
  · exact .inr ⟨g, cap, cur, hv, hB, (hb.block g (heap_lt hg)).trans hg, r⟩

theorem ret_int {k : IntKind} {a b : Int} (h : a = b) : Ending.returned (.int k a) = .returned (.int k b) := by rw [h]
theorem ret_bool {a b : Bool} (h : a = b) : Ending.returned (.bool a) = .returned (.bool b) := by rw [h]
theorem bcell {W w1 : World} (hb : Below W.heap.size W w1) : (∀ b o, b < W.heap.size → w1.cell? ⟨b, o, none⟩ = W.cell? ⟨b, o, none⟩) ∧ (∀ b o, b < W.heap.size → w1.frozen? ⟨b, o, none⟩ = W.frozen? ⟨b, o, none⟩) :=
  ⟨fun b o h => hb.cell (p := ⟨b, o, none⟩) h, fun b o h => hb.frozen (p := ⟨b, o, none⟩) h⟩
theorem bthen {w W w1 : World} (h : Below w.heap.size w W) (hb : Below W.heap.size W w1) : Below w.heap.size w w1 := h.trans (hb.mono h.size)
theorem balloc {w W : World} (h : Below w.heap.size w W) (o : Obj) : Below w.heap.size w (W.alloc o) := h.alloc h.size o
theorem brefl (w : World) : Below w.heap.size w w := Below.refl _ _
theorem bset {w W : World} (h : Below w.heap.size w W) {p : Addr} (hp : w.heap.size ≤ p.block) (u : Value) : Below w.heap.size w (W.setCell p u) := h.setCell hp u

/-- Some draws on, some blocks behind. -/
def Grows (w w' : World) : Prop := ∃ q os, w' = grow (w.drewN q) os
theorem Grows.refl (w : World) : Grows w w := ⟨0, #[], by rw [grow_empty]; rfl⟩
theorem Grows.trans {a b c : World} (h : Grows a b) (k : Grows b c) : Grows a c := by
  obtain ⟨q, os, rfl⟩ := h
  obtain ⟨q', os', rfl⟩ := k
  refine ⟨q + q', os ++ os', ?_⟩
  rw [← grow_grow, ← World.drewN_drewN]
  rfl
theorem Grows.alloc {a b : World} (h : Grows a b) (o : Obj) : Grows a (b.alloc o) := h.trans ⟨0, #[o], rfl⟩
theorem Grows.drewN {a b : World} (h : Grows a b) (n : Nat) : Grows a (b.drewN n) := h.trans ⟨n, #[], by rw [grow_empty]⟩
theorem Grows.below {a b : World} (h : Grows a b) : Below a.heap.size a b := by
  obtain ⟨q, os, rfl⟩ := h
  exact ⟨rfl, rfl, rfl, by simp [grow], fun k hk => by simp [grow, Array.getElem?_append, hk]⟩

/-- A run's two cells read there. -/
def Two (w : World) (n : Nat) (a b : Int) : Prop := w.cell? ⟨n, 0, none⟩ = some (.int .i64 a) ∧ w.cell? ⟨n, 1, none⟩ = some (.int .i64 b) ∧ n < w.heap.size ∧ n < w.heap.size + 1
theorem two_of {W : World} {n : Nat} {a b : Int} (h0 : W.cell? ⟨n, 0, none⟩ = some (.int .i64 a)) (h1 : W.cell? ⟨n, 1, none⟩ = some (.int .i64 b)) : Two W n a b :=
  ⟨h0, h1, block_lt_of_cell h0, Nat.lt_succ_of_lt (block_lt_of_cell h0)⟩
theorem two_below {W w1 : World} {n : Nat} {a b : Int} (hb : Below W.heap.size W w1) (h : Two W n a b) : Two w1 n a b :=
  two_of ((hb.cell (p := ⟨n, 0, none⟩) h.2.2.1).trans h.1) ((hb.cell (p := ⟨n, 1, none⟩) h.2.2.1).trans h.2.1)
theorem two_new (W : World) (a b : Int) (t : TypeId) : Two (W.alloc (.cells #[.int .i64 a, .int .i64 b] t)) W.heap.size a b := two_of (by simp) (by simp)

abbrev Ru.C : Type := Int × Int
def Ru.enc (x : Ru.C) : List Value := [.int .i64 x.1, .int .i64 x.2]
def Ru.cells (l : List Ru.C) : List Value := l.flatMap Ru.enc
def Ru.reads (w : World) (b off : Nat) (l : List Ru.C) : Prop := ∀ j u, (Ru.cells l)[j]? = some u → w.cell? ⟨b, off + j, none⟩ = some u
/-- A slice at which a list lies: nil has none. -/
def Ru.slot (w : World) (ao : Option Addr) (l : List Ru.C) : Prop := l = [] ∨ ∃ b off, ao = some ⟨b, off, none⟩ ∧ Ru.reads w b off l

theorem Ru.cells_length (l : List Ru.C) : (Ru.cells l).length = l.length * 2 := by
  induction l with
  | nil => rfl
  | cons x l ih => simp only [Ru.cells, List.flatMap_cons, List.length_append, List.length_cons] at *; simp only [Ru.enc, List.length_cons, List.length_nil]; omega
theorem Ru.cells_app (x y : List Ru.C) : Ru.cells (x ++ y) = Ru.cells x ++ Ru.cells y := by simp [Ru.cells]
theorem Ru.cells_get (l : List Ru.C) (i : Nat) (h : i < l.length) : (Ru.cells l)[i * 2]? = some (.int .i64 l[i].1) ∧ (Ru.cells l)[i * 2 + 1]? = some (.int .i64 l[i].2) := by
  induction l generalizing i with
  | nil => simp at h
  | cons x l ih =>
    cases i with
    | zero => simp [Ru.cells, Ru.enc]
    | succ i =>
      have := ih i (by simpa using h)
      have e : (i + 1) * 2 = i * 2 + 1 + 1 := by omega
      simpa [Ru.cells, Ru.enc, e] using this
theorem Ru.cells_one (l : List Ru.C) : ∀ u ∈ Ru.cells l, u.oneCell' = true := by
  intro u hu
  simp only [Ru.cells, List.mem_flatMap] at hu
  obtain ⟨x, _, hx⟩ := hu
  simp [Ru.enc] at hx
  rcases hx with rfl | rfl <;> rfl

theorem Ru.reads_at {w : World} {b off : Nat} {l : List Ru.C} (h : Ru.reads w b off l) (i : Nat) (hi : i < l.length) :
    w.cell? ⟨b, off + i * 2, none⟩ = some (.int .i64 l[i].1) ∧ w.cell? ⟨b, off + i * 2 + 1, none⟩ = some (.int .i64 l[i].2) := by
  have := Ru.cells_get l i hi
  exact ⟨h _ _ this.1, by rw [Nat.add_assoc]; exact h _ _ this.2⟩
theorem Ru.reads_below {w w' : World} {b off : Nat} {l : List Ru.C} (h : Ru.reads w b off l) (hb : Below w.heap.size w w') : Ru.reads w' b off l := by
  intro j u hu
  have := h j u hu
  rw [hb.cell (p := ⟨b, off + j, none⟩) (block_lt_of_cell this)]
  exact this
theorem Ru.slot_below {w w' : World} {ao : Option Addr} {l : List Ru.C} (h : Ru.slot w ao l) (hb : Below w.heap.size w w') : Ru.slot w' ao l := by
  rcases h with h | ⟨b, off, h, hr⟩
  · exact .inl h
  · exact .inr ⟨b, off, h, Ru.reads_below hr hb⟩
theorem Ru.slot_at {w : World} {ao : Option Addr} {l : List Ru.C} (h : Ru.slot w ao l) {k : Nat} (hk : k < l.length) : ∃ b off, ao = some ⟨b, off, none⟩ ∧ Ru.reads w b off l := by
  rcases h with h | h
  · rw [h] at hk; simp at hk
  · exact h
theorem row_slice {w : World} {B e size n : Nat} {v : Value} {xs : List Value} (h : w.ownsRow B e size v n xs) : ∃ ao cap, v = .slice ao n cap := by
  rcases h.2 with ⟨rfl, rfl⟩ | ⟨g, cap, cur, rfl, _⟩
  · exact ⟨none, 0, rfl⟩
  · exact ⟨_, cap, rfl⟩
/-- Numbers' cells. -/
def Is.cells (l : List Int) : List Value := l.map fun n => .int .i64 n
def Is.reads (w : World) (b off : Nat) (l : List Int) : Prop := ∀ j (h : j < l.length), w.cell? ⟨b, off + j, none⟩ = some (.int .i64 l[j])
/-- A slice at which numbers lie: nil has none. -/
def Is.slot (w : World) (ao : Option Addr) (l : List Int) : Prop := l = [] ∨ ∃ b off, ao = some ⟨b, off, none⟩ ∧ Is.reads w b off l
theorem Is.cells_length (l : List Int) : (Is.cells l).length = l.length := by simp [Is.cells]
theorem Is.cells_app (x y : List Int) : Is.cells (x ++ y) = Is.cells x ++ Is.cells y := by simp [Is.cells]
theorem Is.cells_one (l : List Int) : ∀ u ∈ Is.cells l, u.oneCell' = true := by
  intro u hu
  simp only [Is.cells, List.mem_map] at hu
  obtain ⟨x, _, rfl⟩ := hu
  rfl
theorem Is.reads_below {w w' : World} {b off : Nat} {l : List Int} (h : Is.reads w b off l) (hb : Below w.heap.size w w') : Is.reads w' b off l := by
  intro j hj
  have := h j hj
  rw [hb.cell (p := ⟨b, off + j, none⟩) (block_lt_of_cell this)]
  exact this
theorem Is.slot_below {w w' : World} {ao : Option Addr} {l : List Int} (h : Is.slot w ao l) (hb : Below w.heap.size w w') : Is.slot w' ao l := by
  rcases h with h | ⟨b, off, h, hr⟩
  · exact .inl h
  · exact .inr ⟨b, off, h, Is.reads_below hr hb⟩
theorem Is.slot_at {w : World} {ao : Option Addr} {l : List Int} (h : Is.slot w ao l) {k : Nat} (hk : k < l.length) : ∃ b off, ao = some ⟨b, off, none⟩ ∧ Is.reads w b off l := by
  rcases h with h | h
  · rw [h] at hk; simp at hk
  · exact h
theorem Is.own_len {w : World} {B n : Nat} {v : Value} {l : List Int} (h : w.ownsRow B 3 1 v n (Is.cells l)) : n = l.length := by
  have := h.1
  rw [Is.cells_length] at this
  omega
theorem Is.slot_own {w : World} {B n cap : Nat} {ao : Option Addr} {l : List Int} (h : w.ownsRow B 3 1 (.slice ao n cap) n (Is.cells l)) : Is.slot w ao l := by
  have hn := Is.own_len h
  rcases h.2 with ⟨hv, h0⟩ | ⟨g, cap', cur, hv, _⟩
  · left
    exact List.length_eq_zero_iff.1 (by omega)
  · right
    simp only [Value.slice.injEq] at hv
    refine ⟨g, 0, hv.1, fun j hj => ?_⟩
    rw [hv.1] at h
    rw [Nat.zero_add, h.cellAt j (by omega)]
    simp [Is.cells, hj]

/-- A number of an AS. -/
def Is.as (n : Int) : Bool := decide (0 < n) && decide (n < 65536)
theorem Is.as_iff (n : Int) : Is.as n = true ↔ 0 < n ∧ n < 65536 := by simp [Is.as]
theorem Is.as_not (n : Int) : Is.as n = false ↔ n ≤ 0 ∨ 65536 ≤ n := by
  rw [← Bool.not_eq_true, Is.as_iff]; omega
def Is.may (l : List Int) : Bool := decide (l.length ≤ 16) && l.all Is.as
theorem Is.may_iff (l : List Int) : Is.may l = true ↔ l.length ≤ 16 ∧ ∀ j (h : j < l.length), Is.as l[j] = true := by
  rw [Is.may, Bool.and_eq_true, decide_eq_true_iff, List.all_eq_true]
  constructor
  · exact fun h => ⟨h.1, fun j hj => h.2 _ (List.getElem_mem hj)⟩
  · intro h
    refine ⟨h.1, fun x hx => ?_⟩
    obtain ⟨j, hj, rfl⟩ := List.getElem_of_mem hx
    exact h.2 j hj

end Go.Proofs.YtpmmhmgojjlniaaGreatDoor.Ar
namespace Go.Proofs.YtpmmhmgojjlniaaGreatDoor.Ar
open Go.RowKit Go.Sort

/-- Two texts joined make a third one. -/
def Adds (x y z : ByteArray) : Prop := ∀ W : World, (Op.stringOp .add x y).run Tryz.prog W = .ok (.string z) W
theorem adds_mk (x y z : ByteArray) (h : x.size + y.size ≤ maxLen) (hz : x ++ y = z) : Adds x y z := by
  intro W
  subst hz
  exact run_string_add_sum W x y h
theorem ba_app (a b : List UInt8) : (⟨a.toArray⟩ : ByteArray) ++ ⟨b.toArray⟩ = ⟨(a ++ b).toArray⟩ := by
  apply ByteArray.ext
  simp [ByteArray.data_append]
theorem adds_list (x y : List UInt8) (h1 : x.length ≤ 100000) (h2 : y.length ≤ 100000) : Adds ⟨x.toArray⟩ ⟨y.toArray⟩ ⟨(x ++ y).toArray⟩ :=
  adds_mk _ _ _ (by show x.toArray.size + y.toArray.size ≤ maxLen; simp; unfold maxLen; omega) (ba_app x y)

theorem one_byte (W : World) (d : Int) (h0 : 0 ≤ d) (h1 : d < 256) : (convert 72 9 (.slice (some ⟨W.heap.size, 0, none⟩) 1 1)).run Tryz.prog (W.alloc (.cells #[.int .u8 d] 5)) = .ok (.string ⟨[UInt8.ofNat d.toNat].toArray⟩) (W.alloc (.cells #[.int .u8 d] 5)) := by
  refine run_convert_bytes_back (W.alloc (.cells #[.int .u8 d] 5)) _ _ _ ⟨W.heap.size, 0, none⟩ 1 [UInt8.ofNat d.toNat] Tryz.underlying72 Tryz.underlying5 Tryz.underlying9 ?_
  intro j hj
  simp at hj
  subst hj
  have e : (((UInt8.ofNat d.toNat).toNat : Nat) : Int) = d := by
    rw [UInt8.toNat_ofNat']
    omega
  simp [Addr.add, go_sem]
  omega

theorem dec_step (u d : Nat) (hd : d < 10) (hu : 0 < u) : Lib.decDigits (10 * u + d) = Lib.decDigits u ++ [UInt8.ofNat (48 + d)] := by
  rw [Lib.decDigits, dif_neg (by omega)]
  have e1 : (10 * u + d) / 10 = u := by omega
  have e2 : (10 * u + d) % 10 = d := by omega
  rw [e1, e2]

theorem itoa_len (n : Int) (h0 : 0 ≤ n) (h1 : n ≤ 65535) : (Lib.itoa n).length ≤ 21 := Lib.itoa_length_le n (by omega) (by omega)
def Is.text (l : List Int) : List UInt8 := if Is.may l = true then Lib.join (l.map Lib.itoa) [32] else []
/-- What stands behind the first k. -/
def Is.joinTo (l : List Int) (k : Nat) : List UInt8 := Lib.join ((l.take k).map Lib.itoa) [32]
theorem Is.joinTo_one (l : List Int) (h : 0 < l.length) : Is.joinTo l 1 = Lib.itoa l[0] := by
  cases l with
  | nil => simp at h
  | cons x r => simp [Is.joinTo, Lib.join_one]
theorem Is.joinTo_succ (l : List Int) (m : Nat) (h : m + 1 < l.length) : Is.joinTo l (m + 1 + 1) = Is.joinTo l (m + 1) ++ [32] ++ Lib.itoa l[m + 1] := by
  cases l with
  | nil => simp at h
  | cons x r =>
    have h' : m < r.length := by simpa using h
    unfold Is.joinTo
    rw [List.take_succ_cons, List.map_cons, Lib.join_cons, List.take_succ_cons, List.map_cons, Lib.join_cons, List.map_take, List.map_take, Lib.joinTail_take_succ [32] (r.map Lib.itoa) m (Lib.itoa r[m]) (by simp [h'])]
    simp [List.append_assoc]
theorem Is.joinTo_len (l : List Int) (hm : Is.may l = true) : ∀ k, k ≤ l.length → (Is.joinTo l k).length ≤ 22 * k
  | 0, _ => by simp [Is.joinTo, Lib.join]
  | 1, h => by
    rw [Is.joinTo_one l h]
    have := (Is.as_iff _).1 (((Is.may_iff l).1 hm).2 0 h)
    have := itoa_len l[0] (by omega) (by omega)
    omega
  | m + 2, h => by
    rw [Is.joinTo_succ l m h]
    have h1 := Is.joinTo_len l hm (m + 1) (by omega)
    have := (Is.as_iff _).1 (((Is.may_iff l).1 hm).2 (m + 1) h)
    have h2 := itoa_len l[m + 1] (by omega) (by omega)
    rw [List.length_append, List.length_append, List.length_singleton]
    omega

end Go.Proofs.YtpmmhmgojjlniaaGreatDoor.Ar
