import Derived.Test.YtkhmhmopcofejaaProg
import Derived.WalkKit
import Derived.WalkSpells
import Derived.WalkLawsBesides
import Derived.Deep.QuietTactic
import Derived.BigQuiet
import Derived.Lib.QuietBelow
import Derived.Deep.Cut
import Derived.Lib.Builder
import Derived.RegionTactic
import Derived.Laws.StructEq
import Derived.Sort.Grow
import Derived.Deep.RegionHeldLaw
/- Worlds, communities and lists of them: where they lie, and how two are held against each other. -/
namespace Go.Proofs.Ytkhmhmopcofejaa.Cm
open Go.RowKit Go.Sort

theorem hide {p : Prop} (h : p) : Hid p := h

theorem heap_lt {w : World} {b : Nat} {o : Obj} (h : w.heap[b]? = some o) : b < w.heap.size := by
  rcases Nat.lt_or_ge b w.heap.size with h' | h'
  · exact h'
  · simp [Array.getElem?_eq_none h'] at h

/-- An owned row is owned still behind what leaves all old blocks as they were. -/
theorem row_below {w w' : World} {B e size n : Nat} {v : Value} {xs : List Value} (h : w.ownsRow B e size v n xs) (hb : Below w.heap.size w w') : w'.ownsRow B e size v n xs := by
  obtain ⟨h1, h2⟩ := h
  refine ⟨h1, ?_⟩
  rcases h2 with h2 | ⟨g, cap, cur, hv, hB, hg, r⟩
  · exact .inl h2
  · exact .inr ⟨g, cap, cur, hv, hB, (hb.block g (heap_lt hg)).trans hg, r⟩

theorem ret_int {k : IntKind} {a b : Int} (h : a = b) : Ending.returned (.int k a) = .returned (.int k b) := by rw [h]
theorem ret_bool {a b : Bool} (h : a = b) : Ending.returned (.bool a) = .returned (.bool b) := by rw [h]
theorem bcell {W w1 : World} (hb : Below W.heap.size W w1) : (∀ b o, b < W.heap.size → w1.cell? ⟨b, o, none⟩ = W.cell? ⟨b, o, none⟩) ∧ (∀ b o, b < W.heap.size → w1.frozen? ⟨b, o, none⟩ = W.frozen? ⟨b, o, none⟩) :=
  ⟨fun b o h => hb.cell (p := ⟨b, o, none⟩) h, fun b o h => hb.frozen (p := ⟨b, o, none⟩) h⟩
theorem bthen {w W w1 : World} (h : Below w.heap.size w W) (hb : Below W.heap.size W w1) : Below w.heap.size w w1 := h.trans (hb.mono h.size)
theorem balloc {w W : World} (h : Below w.heap.size w W) (o : Obj) : Below w.heap.size w (W.alloc o) := h.alloc h.size o
theorem brefl (w : World) : Below w.heap.size w w := Below.refl _ _
theorem bset {w W : World} (h : Below w.heap.size w W) {p : Addr} (hp : w.heap.size ≤ p.block) (u : Value) : Below w.heap.size w (W.setCell p u) := h.setCell hp u

/-- Some draws on, some blocks behind. -/
def Grows (w w' : World) : Prop := ∃ q os, w' = grow (w.drewN q) os
theorem Grows.refl (w : World) : Grows w w := ⟨0, #[], by rw [grow_empty]; rfl⟩
theorem Grows.trans {a b c : World} (h : Grows a b) (k : Grows b c) : Grows a c := by
  obtain ⟨q, os, rfl⟩ := h
  obtain ⟨q', os', rfl⟩ := k
  refine ⟨q + q', os ++ os', ?_⟩
  rw [← grow_grow, ← World.drewN_drewN]
  rfl
theorem Grows.alloc {a b : World} (h : Grows a b) (o : Obj) : Grows a (b.alloc o) := h.trans ⟨0, #[o], rfl⟩
theorem Grows.drewN {a b : World} (h : Grows a b) (n : Nat) : Grows a (b.drewN n) := h.trans ⟨n, #[], by rw [grow_empty]⟩
theorem Grows.below {a b : World} (h : Grows a b) : Below a.heap.size a b := by
  obtain ⟨q, os, rfl⟩ := h
  exact ⟨rfl, rfl, rfl, by simp [grow], fun k hk => by simp [grow, Array.getElem?_append, hk]⟩

/-- A community's two cells read there. -/
def Two (w : World) (n : Nat) (a b : Int) : Prop := w.cell? ⟨n, 0, none⟩ = some (.int .i64 a) ∧ w.cell? ⟨n, 1, none⟩ = some (.int .i64 b) ∧ n < w.heap.size ∧ n < w.heap.size + 1
theorem two_of {W : World} {n : Nat} {a b : Int} (h0 : W.cell? ⟨n, 0, none⟩ = some (.int .i64 a)) (h1 : W.cell? ⟨n, 1, none⟩ = some (.int .i64 b)) : Two W n a b :=
  ⟨h0, h1, block_lt_of_cell h0, Nat.lt_succ_of_lt (block_lt_of_cell h0)⟩
theorem two_below {W w1 : World} {n : Nat} {a b : Int} (hb : Below W.heap.size W w1) (h : Two W n a b) : Two w1 n a b :=
  two_of ((hb.cell (p := ⟨n, 0, none⟩) h.2.2.1).trans h.1) ((hb.cell (p := ⟨n, 1, none⟩) h.2.2.1).trans h.2.1)
theorem two_new (W : World) (a b : Int) (t : TypeId) : Two (W.alloc (.cells #[.int .i64 a, .int .i64 b] t)) W.heap.size a b := two_of (by simp) (by simp)

abbrev Co.C : Type := Int × Int
def Co.enc (x : Co.C) : List Value := [.int .i64 x.1, .int .i64 x.2]
def Co.cells (l : List Co.C) : List Value := l.flatMap Co.enc
def Co.reads (w : World) (b off : Nat) (l : List Co.C) : Prop := ∀ j u, (Co.cells l)[j]? = some u → w.cell? ⟨b, off + j, none⟩ = some u
/-- A slice at which a list lies: nil has none. -/
def Co.slot (w : World) (ao : Option Addr) (l : List Co.C) : Prop := l = [] ∨ ∃ b off, ao = some ⟨b, off, none⟩ ∧ Co.reads w b off l

theorem Co.cells_length (l : List Co.C) : (Co.cells l).length = l.length * 2 := by
  induction l with
  | nil => rfl
  | cons x l ih => simp only [Co.cells, List.flatMap_cons, List.length_append, List.length_cons] at *; simp only [Co.enc, List.length_cons, List.length_nil]; omega
theorem Co.cells_app (x y : List Co.C) : Co.cells (x ++ y) = Co.cells x ++ Co.cells y := by simp [Co.cells]
theorem Co.cells_get (l : List Co.C) (i : Nat) (h : i < l.length) : (Co.cells l)[i * 2]? = some (.int .i64 l[i].1) ∧ (Co.cells l)[i * 2 + 1]? = some (.int .i64 l[i].2) := by
  induction l generalizing i with
  | nil => simp at h
  | cons x l ih =>
    cases i with
    | zero => simp [Co.cells, Co.enc]
    | succ i =>
      have := ih i (by simpa using h)
      have e : (i + 1) * 2 = i * 2 + 1 + 1 := by omega
      simpa [Co.cells, Co.enc, e] using this
theorem Co.cells_one (l : List Co.C) : ∀ u ∈ Co.cells l, u.oneCell' = true := by
  intro u hu
  simp only [Co.cells, List.mem_flatMap] at hu
  obtain ⟨x, _, hx⟩ := hu
  simp [Co.enc] at hx
  rcases hx with rfl | rfl <;> rfl

theorem Co.reads_at {w : World} {b off : Nat} {l : List Co.C} (h : Co.reads w b off l) (i : Nat) (hi : i < l.length) :
    w.cell? ⟨b, off + i * 2, none⟩ = some (.int .i64 l[i].1) ∧ w.cell? ⟨b, off + i * 2 + 1, none⟩ = some (.int .i64 l[i].2) := by
  have := Co.cells_get l i hi
  exact ⟨h _ _ this.1, by rw [Nat.add_assoc]; exact h _ _ this.2⟩
theorem Co.reads_below {w w' : World} {b off : Nat} {l : List Co.C} (h : Co.reads w b off l) (hb : Below w.heap.size w w') : Co.reads w' b off l := by
  intro j u hu
  have := h j u hu
  rw [hb.cell (p := ⟨b, off + j, none⟩) (block_lt_of_cell this)]
  exact this
theorem Co.slot_below {w w' : World} {ao : Option Addr} {l : List Co.C} (h : Co.slot w ao l) (hb : Below w.heap.size w w') : Co.slot w' ao l := by
  rcases h with h | ⟨b, off, h, hr⟩
  · exact .inl h
  · exact .inr ⟨b, off, h, Co.reads_below hr hb⟩
theorem Co.slot_at {w : World} {ao : Option Addr} {l : List Co.C} (h : Co.slot w ao l) {k : Nat} (hk : k < l.length) : ∃ b off, ao = some ⟨b, off, none⟩ ∧ Co.reads w b off l := by
  rcases h with h | h
  · rw [h] at hk; simp at hk
  · exact h
theorem row_slice {w : World} {B e size n : Nat} {v : Value} {xs : List Value} (h : w.ownsRow B e size v n xs) : ∃ ao cap, v = .slice ao n cap := by
  rcases h.2 with ⟨rfl, rfl⟩ | ⟨g, cap, cur, rfl, _⟩
  · exact ⟨none, 0, rfl⟩
  · exact ⟨_, cap, rfl⟩
theorem Co.slot_own {w : World} {B n cap : Nat} {ao : Option Addr} {l : List Co.C} (h : w.ownsRow B 94 2 (.slice ao n cap) n (Co.cells l)) : Co.slot w ao l := by
  rcases h.2 with ⟨hv, h0⟩ | ⟨g, cap', cur, hv, _⟩
  · left
    have := h.1
    rw [Co.cells_length, h0] at this
    exact List.length_eq_zero_iff.1 (by omega)
  · right
    simp only [Value.slice.injEq] at hv
    refine ⟨g, 0, hv.1, fun j u hu => ?_⟩
    have hj : j < n * 2 := by have := (List.getElem?_eq_some_iff.1 hu).1; have := h.1; omega
    rw [hv.1] at h
    rw [Nat.zero_add, h.cellAt j hj]
    exact hu
theorem Co.own_len {w : World} {B n : Nat} {v : Value} {l : List Co.C} (h : w.ownsRow B 94 2 v n (Co.cells l)) : n = l.length := by
  have := h.1
  rw [Co.cells_length] at this
  omega

theorem guardC : Try.prog.eqGuardType Try.prog.depth 94 = false := by kernel_rfl
theorem eqC (a b c d : Int) (w : World) : (binOp .eql 94 (.agg #[.int .i64 a, .int .i64 b]) (.agg #[.int .i64 c, .int .i64 d])).run Try.prog w = .ok (.bool (a == c && b == d)) w := by
  have u3 := Try.underlying3
  have a3 := Try.isAgg3
  have z3 := Try.sizeOf3
  have hS : Try.prog.underlying 94 = some (.struct (Try.prog.fieldsOf 94)) := by kernel_rfl
  have hp : Try.prog.stoodInHeld 94 = false := by kernel_rfl
  rw [run_eql_struct, show (10000 : Nat) = 9999 + 1 from rfl, run_equalIn_agg w 9999 94 _ _ hS hp]
  simp only [Program.fieldsOf, Try.underlying94]
  go_simp
  by_cases h1 : a = c <;> by_cases h2 : b = d <;> simp [h1, h2]
theorem neqC (a b c d : Int) (w : World) : (binOp .neq 94 (.agg #[.int .i64 a, .int .i64 b]) (.agg #[.int .i64 c, .int .i64 d])).run Try.prog w = .ok (.bool (!(a == c && b == d))) w := by
  have u3 := Try.underlying3
  have a3 := Try.isAgg3
  have z3 := Try.sizeOf3
  have hS : Try.prog.underlying 94 = some (.struct (Try.prog.fieldsOf 94)) := by kernel_rfl
  have hp : Try.prog.stoodInHeld 94 = false := by kernel_rfl
  rw [run_neq_struct, show (10000 : Nat) = 9999 + 1 from rfl, run_equalIn_agg w 9999 94 _ _ hS hp]
  simp only [Program.fieldsOf, Try.underlying94]
  go_simp
  by_cases h1 : a = c <;> by_cases h2 : b = d <;> simp [h1, h2]
end Go.Proofs.Ytkhmhmopcofejaa.Cm

/- The contracts of comm's May, cmp.Compare, cmp.Or and comm's order, and of the document's May and Before. -/
namespace Go.Proofs.Ytkhmhmopcofejaa.Cm
open Go.RowKit Go.Sort

def Co.may (c : Co.C) : Bool := decide (1 ≤ c.1 ∧ c.1 ≤ 65535 ∧ 0 ≤ c.2 ∧ c.2 ≤ 65535)
def Co.ci (a b : Int) : Int := if a < b then -1 else if b < a then 1 else 0
def Co.ord (x y : Co.C) : Int := if Co.ci x.1 y.1 ≠ 0 then Co.ci x.1 y.1 else Co.ci x.2 y.2
def Co.bef (x y : Co.C) : Bool := decide (x.1 < y.1 ∨ (x.1 = y.1 ∧ x.2 < y.2))

theorem may_any (a b : Int) (w : World) : Calls Try.prog 100 #[.agg #[.int .i64 a, .int .i64 b]] w fun e w' => e = .returned (.bool (Co.may (a, b))) ∧ Grows w w' := by
  by_cases h0 : 1 ≤ a
  · have h0d : decide (1 ≤ a) = true := by simpa using h0
    by_cases h1 : a ≤ 65535
    · have h1d : decide (a ≤ 65535) = true := by simpa using h1
      by_cases h2 : 0 ≤ b
      · have h2d : decide (0 ≤ b) = true := by simpa using h2
        by_cases h3 : b ≤ 65535
        · have h3d : decide (b ≤ 65535) = true := by simpa using h3
          go_enter Try.func100, Try.ntmps100
          go_wp2_with fail
          go_ret
          exact ⟨ret_bool (by simp [Co.may]; omega), (Grows.refl w).alloc _⟩
        · have h3d : decide (b ≤ 65535) = false := by simpa using h3
          go_enter Try.func100, Try.ntmps100
          go_wp2_with fail
          go_ret
          exact ⟨ret_bool (by simp [Co.may]; omega), (Grows.refl w).alloc _⟩
      · have h2d : decide (0 ≤ b) = false := by simpa using h2
        go_enter Try.func100, Try.ntmps100
        go_wp2_with fail
        go_ret
        exact ⟨ret_bool (by simp [Co.may]; omega), (Grows.refl w).alloc _⟩
    · have h1d : decide (a ≤ 65535) = false := by simpa using h1
      go_enter Try.func100, Try.ntmps100
      go_wp2_with fail
      go_ret
      exact ⟨ret_bool (by simp [Co.may]; omega), (Grows.refl w).alloc _⟩
  · have h0d : decide (1 ≤ a) = false := by simpa using h0
    go_enter Try.func100, Try.ntmps100
    go_wp2_with fail
    go_ret
    exact ⟨ret_bool (by simp [Co.may]; omega), (Grows.refl w).alloc _⟩
theorem may_is (a b : Int) (r : Bool) (h : Co.may (a, b) = r) (w : World) : Calls Try.prog 100 #[.agg #[.int .i64 a, .int .i64 b]] w fun e w' => e = .returned (.bool r) ∧ Below w.heap.size w w' := by
  subst h
  exact (may_any a b w).mono fun e w' ⟨h1, h2⟩ => ⟨h1, h2.below⟩

theorem refMay_is (a b : Int) (r : Bool) (h : Co.may (a, b) = r) (w : World) : Calls Try.prog 70 #[.agg #[.int .i64 a, .int .i64 b]] w fun e w' => e = .returned (.bool r) ∧ Below w.heap.size w w' := by
  subst h
  by_cases h0 : 0 < a
  · have h0d : decide (0 < a) = true := by simpa using h0
    by_cases h1 : a < 65536
    · have h1d : decide (a < 65536) = true := by simpa using h1
      by_cases h2 : 0 ≤ b
      · have h2d : decide (0 ≤ b) = true := by simpa using h2
        by_cases h3 : b < 65536
        · have h3d : decide (b < 65536) = true := by simpa using h3
          go_enter Try.func70, Try.ntmps70
          go_wp2_with fail
          go_ret
          exact ⟨ret_bool (by simp [Co.may]; omega), balloc (brefl w) _⟩
        · have h3d : decide (b < 65536) = false := by simpa using h3
          go_enter Try.func70, Try.ntmps70
          go_wp2_with fail
          go_ret
          exact ⟨ret_bool (by simp [Co.may]; omega), balloc (brefl w) _⟩
      · have h2d : decide (0 ≤ b) = false := by simpa using h2
        go_enter Try.func70, Try.ntmps70
        go_wp2_with fail
        go_ret
        exact ⟨ret_bool (by simp [Co.may]; omega), balloc (brefl w) _⟩
    · have h1d : decide (a < 65536) = false := by simpa using h1
      go_enter Try.func70, Try.ntmps70
      go_wp2_with fail
      go_ret
      exact ⟨ret_bool (by simp [Co.may]; omega), balloc (brefl w) _⟩
  · have h0d : decide (0 < a) = false := by simpa using h0
    go_enter Try.func70, Try.ntmps70
    go_wp2_with fail
    go_ret
    exact ⟨ret_bool (by simp [Co.may]; omega), balloc (brefl w) _⟩

theorem refBefore_is (a b c d : Int) (r : Bool) (h : Co.bef (a, b) (c, d) = r) (w : World) : Calls Try.prog 71 #[.agg #[.int .i64 a, .int .i64 b], .agg #[.int .i64 c, .int .i64 d]] w fun e w' => e = .returned (.bool r) ∧ Below w.heap.size w w' := by
  subst h
  by_cases h0 : a < c
  · have hd0 : decide (a < c) = true := by simpa using h0
    go_enter Try.func71, Try.ntmps71
    go_wp2_with fail
    go_ret
    exact ⟨ret_bool (by simp [Co.bef]; omega), balloc (balloc (brefl w) _) _⟩
  · have hd0 : decide (a < c) = false := by simpa using h0
    by_cases h1 : a = c
    · subst h1
      by_cases h2 : b < d
      · have hd2 : decide (b < d) = true := by simpa using h2
        go_enter Try.func71, Try.ntmps71
        go_wp2_with fail
        go_ret
        exact ⟨ret_bool (by simp [Co.bef]; omega), balloc (balloc (brefl w) _) _⟩
      · have hd2 : decide (b < d) = false := by simpa using h2
        go_enter Try.func71, Try.ntmps71
        go_wp2_with fail
        go_ret
        exact ⟨ret_bool (by simp [Co.bef]; omega), balloc (balloc (brefl w) _) _⟩
    · have hd1 : (a == c) = false := by simpa using h1
      go_enter Try.func71, Try.ntmps71
      go_wp2_with fail
      go_ret
      exact ⟨ret_bool (by simp [Co.bef]; omega), balloc (balloc (brefl w) _) _⟩

theorem nan_any (a : Int) (w : World) : Calls Try.prog 104 #[.int .i64 a] w fun e w' => e = .returned (.bool false) ∧ w' = w := by
  go_enter Try.func104, Try.ntmps104
  go_wp2_with fail
  go_ret
  exact ⟨rfl, rfl⟩

theorem cmpI_any (a b : Int) (w : World) : Calls Try.prog 93 #[.int .i64 a, .int .i64 b] w fun e w' => e = .returned (.int .i64 (Co.ci a b)) ∧ w' = w := by
  by_cases h0 : a < b
  · go_enter Try.func93, Try.ntmps93
    go_wp2_with (go_at_call 104; refine (nan_any _ _).mono ?_; rintro _ _ ⟨rfl, rfl⟩)
    go_ret
    exact ⟨ret_int (by simp [Co.ci, h0]), rfl⟩
  · by_cases h1 : b < a
    · go_enter Try.func93, Try.ntmps93
      go_wp2_with (go_at_call 104; refine (nan_any _ _).mono ?_; rintro _ _ ⟨rfl, rfl⟩)
      go_ret
      exact ⟨ret_int (by simp [Co.ci, h0, h1]), rfl⟩
    · go_enter Try.func93, Try.ntmps93
      go_wp2_with (go_at_call 104; refine (nan_any _ _).mono ?_; rintro _ _ ⟨rfl, rfl⟩)
      go_ret
      exact ⟨ret_int (by rw [Co.ci, if_neg (by omega), if_neg (by omega)]), rfl⟩

theorem or_zero (x y : Int) (hx : x = 0) : y = if x ≠ 0 then x else y := by simp [hx]
theorem or_pos (x y : Int) (hx : x ≠ 0) : x = if x ≠ 0 then x else y := by simp [hx]

set_option maxHeartbeats 1000000 in
theorem or_two (g c : Nat) (x y z : Int) (hz : z = if x ≠ 0 then x else y) (w : World) (h0 : w.cell? ⟨g, 0, none⟩ = some (.int .i64 x)) (h1 : w.cell? ⟨g, 0 + 1, none⟩ = some (.int .i64 y)) :
    Calls Try.prog 92 #[.slice (some ⟨g, 0, none⟩) 2 c] w fun e w' => e = .returned (.int .i64 z) ∧ w' = w := by
  have HZ := hide hz
  clear hz
  go_enter Try.func92, Try.ntmps92
  go_wp2_with fail
  go_loopw [8] (fun v wr => ∃ k : Nat, v = .int .i64 k ∧ k ≤ 2 ∧ (0 < k → x = 0) ∧ (1 < k → y = 0) ∧ wr = w) (fun v _ => 2 - (intOf v).toNat)
  case atStart => exact ⟨0, rfl, by decide, fun h => absurd h (by decide), fun h => absurd h (by decide), rfl⟩
  case round =>
    obtain ⟨k, rfl, hk, hx, hy, rfl⟩ := hrel
    match k, hk with
    | 0, _ =>
      cases hd : (x != 0)
      · have hx0 : x = 0 := by simpa using hd
        go_wp2_with fail
        exact ⟨⟨1, by go_num, by decide, fun _ => hx0, fun h => absurd h (by decide), trivial⟩, by simp [intOf]⟩
      · have hx0 : x ≠ 0 := by simpa using hd
        go_wp2_with fail
        go_ret
        exact ⟨ret_int ((or_pos x y hx0).trans HZ.out.symm), rfl⟩
    | 1, _ =>
      have hx0 := hx (by decide)
      cases hd : (y != 0)
      · have hy0 : y = 0 := by simpa using hd
        go_wp2_with fail
        exact ⟨⟨2, by go_num, by decide, fun _ => hx0, fun _ => hy0, trivial⟩, by simp [intOf]⟩
      · go_wp2_with fail
        go_ret
        exact ⟨ret_int ((or_zero x y hx0).trans HZ.out.symm), rfl⟩
    | 2, _ =>
      have hx0 := hx (by decide)
      have hy0 := hy (by decide)
      go_wp2_with fail
      go_ret
      exact ⟨ret_int (hy0.symm.trans ((or_zero x y hx0).trans HZ.out.symm)), rfl⟩

set_option maxHeartbeats 2000000 in
theorem order_any (a b c d z : Int) (hz : Co.ord (a, b) (c, d) = z) (w : World) : Calls Try.prog 101 #[.agg #[.int .i64 a, .int .i64 b], .agg #[.int .i64 c, .int .i64 d]] w fun e w' => e = .returned (.int .i64 z) ∧ Grows w w' := by
  have HZ : Hid (z = if Co.ci a c ≠ 0 then Co.ci a c else Co.ci b d) := hz.symm
  have HC1 := hide (fun W => cmpI_any a c W)
  have HC2 := hide (fun W => cmpI_any b d W)
  generalize Co.ci a c = x at HZ HC1
  generalize Co.ci b d = y at HZ HC2
  clear hz
  go_enter Try.func101, Try.ntmps101
  go_wp2_with fail
  have T1 := two_below (balloc (brefl _) (.cells #[.int .i64 c, .int .i64 d] 94)) (two_new w a b 94)
  have T2 := two_new (w.alloc (.cells #[.int .i64 a, .int .i64 b] 94)) c d 94
  have G0 := hide (((Grows.refl w).alloc (.cells #[.int .i64 a, .int .i64 b] 94)).alloc (.cells #[.int .i64 c, .int .i64 d] 94))
  rw [show (w.alloc (.cells #[.int .i64 a, .int .i64 b] 94)).heap.size = w.heap.size + 1 by simp] at T2
  generalize (w.alloc (.cells #[.int .i64 a, .int .i64 b] 94)).alloc (.cells #[.int .i64 c, .int .i64 d] 94) = W0 at *
  generalize w.heap.size = R at *
  generalize R + 1 = R2 at *
  obtain ⟨t0, t1, t2, _⟩ := T1
  obtain ⟨s0, s1, s2, _⟩ := T2
  go_region_held_law (fun w' => w'.cell? ⟨R, 0, none⟩ = some (.int .i64 a) ∧ w'.cell? ⟨R, 1, none⟩ = some (.int .i64 b) ∧ w'.cell? ⟨R2, 0, none⟩ = some (.int .i64 c) ∧ w'.cell? ⟨R2, 1, none⟩ = some (.int .i64 d))
    (first
      | exact ⟨t0, t1, s0, s1⟩
      | (refine ⟨(World.cell?_alloc_past _ _ _ (by first | exact t2 | (simp; omega))).trans ?_, (World.cell?_alloc_past _ _ _ (by first | exact t2 | (simp; omega))).trans ?_, (World.cell?_alloc_past _ _ _ (by first | exact s2 | (simp; omega))).trans ?_, (World.cell?_alloc_past _ _ _ (by first | exact s2 | (simp; omega))).trans ?_⟩ <;> (go_split_ands; assumption)))
    (first | (go_at_call_of 93 (Value.int .i64 a); refine (HC1.out _).mono ?_; rintro _ _ ⟨rfl, rfl⟩) | (go_at_call_of 93 (Value.int .i64 b); refine (HC2.out _).mono ?_; rintro _ _ ⟨rfl, rfl⟩) | (go_at_call 92; refine (or_two _ _ x y z HZ.out _ (by simp [go_sem]) (by simp [go_sem])).mono ?_; rintro _ _ ⟨rfl, rfl⟩))
  go_wp2_with fail
  go_ret
  exact ⟨rfl, (G0.out.alloc _).drewN 1⟩
theorem order_is (a b c d z : Int) (hz : Co.ord (a, b) (c, d) = z) (w : World) : Calls Try.prog 101 #[.agg #[.int .i64 a, .int .i64 b], .agg #[.int .i64 c, .int .i64 d]] w fun e w' => e = .returned (.int .i64 z) ∧ Below w.heap.size w w' :=
  (order_any a b c d z hz w).mono fun _ _ ⟨h1, h2⟩ => ⟨h1, h2.below⟩
end Go.Proofs.Ytkhmhmopcofejaa.Cm

/- The contracts of slices.CompareFunc, of comm's Compare, of the document's Same, Compare and of the law's few. -/
namespace Go.Proofs.Ytkhmhmopcofejaa.Cm
open Go.RowKit Go.Sort

def Co.lex : List Co.C → List Co.C → Int
  | x :: xs, y :: ys => if Co.ord x y ≠ 0 then Co.ord x y else Co.lex xs ys
  | _, _ => 0
def Co.compare (a b : List Co.C) : Int := if a.length < b.length then -1 else if b.length < a.length then 1 else Co.lex a b

theorem Co.lex_step (a b : List Co.C) (k : Nat) (h1 : k < a.length) (h2 : k < b.length) : Co.lex (a.drop k) (b.drop k) = if Co.ord a[k] b[k] ≠ 0 then Co.ord a[k] b[k] else Co.lex (a.drop (k + 1)) (b.drop (k + 1)) := by
  rw [List.drop_eq_getElem_cons h1, List.drop_eq_getElem_cons h2]
  rfl
theorem Co.lex_end (a b : List Co.C) (k : Nat) (h1 : a.length ≤ k) : Co.lex (a.drop k) (b.drop k) = 0 := by
  rw [List.drop_eq_nil_of_le h1]
  rfl

set_option maxHeartbeats 4000000 in
theorem cmpF_any (ao bo : Option Addr) (ca cb : Nat) (a b : List Co.C) (w : World) (hA : Co.slot w ao a) (hB : Co.slot w bo b) (hl : a.length = b.length) (h200 : a.length ≤ 200) :
    Calls Try.prog 105 #[.slice ao a.length ca, .slice bo b.length cb, .func (.func 101) #[] #[]] w fun e w' => e = .returned (.int .i64 (Co.lex a b)) ∧ Below w.heap.size w w' := by
  have HA := hide hA
  have HB := hide hB
  have HL := hide hl
  clear hA hB
  have hle : ¬ (a.length : Int) < (b.length : Int) := by omega
  have h200b : b.length ≤ 200 := by omega
  clear hl
  go_enter Try.func105, Try.ntmps105
  go_wp2_with fail
  go_loopw [13] (fun v wr => ∃ k : Nat, v = .int .i64 k ∧ k ≤ a.length ∧ Co.lex a b = Co.lex (a.drop k) (b.drop k) ∧ Below w.heap.size w wr) (fun v _ => a.length - (intOf v).toNat)
  case atStart => exact ⟨0, rfl, Nat.zero_le _, rfl, brefl w⟩
  case round =>
    obtain ⟨k, rfl, hk, hlex, hbr⟩ := hrel
    have HX := hide hlex
    have HBR := hide hbr
    clear hlex hbr
    by_cases hka : k < a.length
    · have hkb : k < b.length := by have := HL.out; omega
      have hkA : (k : Int) < (a.length : Int) := by omega
      have hkB : ¬ (b.length : Int) ≤ (k : Int) := by omega
      obtain ⟨b1, o1, rfl, hr1⟩ := Co.slot_at HA.out hka
      obtain ⟨b2, o2, rfl, hr2⟩ := Co.slot_at HB.out hkb
      obtain ⟨e0, e1⟩ := Co.reads_at (Co.reads_below hr1 HBR.out) k hka
      obtain ⟨f0, f1⟩ := Co.reads_at (Co.reads_below hr2 HBR.out) k hkb
      clear hr1 hr2
      have n1 : b1 < wr.heap.size := block_lt_of_cell e0
      have n2 : b2 < wr.heap.size := block_lt_of_cell f0
      have n3 : b2 < wr.heap.size + 1 := by omega
      have n4 : wr.heap.size ≠ b2 := by omega
      have n5 : b2 ≠ wr.heap.size := by omega
      have HS := hide (Co.lex_step a b k hka hkb)
      generalize a[k] = y at *
      generalize b[k] = z at *
      obtain ⟨y0, y1⟩ := y
      obtain ⟨z0, z1⟩ := z
      obtain ⟨o, ho⟩ : ∃ o, Co.ord (y0, y1) (z0, z1) = o := ⟨_, rfl⟩
      have HO := hide ho
      rw [ho] at HS
      clear ho
      cases hd : (o != 0)
      · have ho0 : o = 0 := by simpa using hd
        go_wp2_with fail
        refine (order_is y0 y1 z0 z1 o HO.out _).mono ?_
        rintro e w1 ⟨rfl, hb1⟩
        have B1 := hide (bthen (balloc (balloc HBR.out _) _) hb1)
        clear hb1
        have HN := hide (HX.out.trans (HS.out.trans (if_neg (by simp [ho0]))))
        go_wp2_with fail
        exact ⟨⟨k + 1, by go_num, by omega, HN.out, B1.out⟩, by simp [intOf] <;> omega⟩
      · have ho0 : o ≠ 0 := by simpa using hd
        have HN := hide (HX.out.trans (HS.out.trans (if_pos ho0)))
        go_wp2_with fail
        refine (order_is y0 y1 z0 z1 o HO.out _).mono ?_
        rintro e w1 ⟨rfl, hb1⟩
        have B1 := hide (bthen (balloc (balloc HBR.out _) _) hb1)
        clear hb1
        go_wp2_with fail
        go_ret
        exact ⟨ret_int HN.out.symm, B1.out⟩
    · have hkA : ¬ (k : Int) < (a.length : Int) := by omega
      have he := hide (HX.out.trans (Co.lex_end a b k (by omega)))
      go_wp2_with fail
      go_ret
      exact ⟨ret_int he.out.symm, HBR.out⟩

set_option maxHeartbeats 1000000 in
theorem compare_is (ao bo : Option Addr) (ca cb : Nat) (a b : List Co.C) (x : Int) (hx : Co.compare a b = x) (w : World) (hA : Co.slot w ao a) (hB : Co.slot w bo b) (h200 : a.length ≤ 200) (_h200b : b.length ≤ 200) :
    Calls Try.prog 95 #[.slice ao a.length ca, .slice bo b.length cb] w fun e w' => e = .returned (.int .i64 x) ∧ Below w.heap.size w w' := by
  have HA := hide hA
  have HB := hide hB
  have HX := hide hx
  clear hA hB hx
  by_cases hl : a.length = b.length
  · have hd : ((a.length : Int) != (b.length : Int)) = false := by simp [hl]
    have CC := hide (fun W (hW : Below w.heap.size w W) => cmpF_any ao bo ca cb a b W (Co.slot_below HA.out hW) (Co.slot_below HB.out hW) hl h200)
    have HX2 : Hid (x = Co.lex a b) := by
      show _ = _
      rw [← HX.out, Co.compare, if_neg (by omega), if_neg (by omega)]
    clear hl
    go_enter Try.func95, Try.ntmps95
    go_wp2_with fail
    refine (CC.out _ (brefl w)).mono ?_
    rintro e w1 ⟨rfl, hb1⟩
    go_wp2_with fail
    go_ret
    exact ⟨ret_int HX2.out.symm, hb1⟩
  · have hd : ((a.length : Int) != (b.length : Int)) = true := by simp; omega
    have HX2 : Hid (x = Co.ci a.length b.length) := by
      show _ = _
      rw [← HX.out, Co.compare, Co.ci]
      by_cases h1 : a.length < b.length
      · rw [if_pos h1, if_pos (by omega)]
      · rw [if_neg h1, if_pos (by omega), if_neg (by omega), if_pos (by omega)]
    clear hl
    go_enter Try.func95, Try.ntmps95
    go_wp2_with fail
    refine (cmpI_any _ _ _).mono ?_
    rintro e w1 ⟨rfl, rfl⟩
    go_wp2_with fail
    go_ret
    exact ⟨ret_int HX2.out.symm, brefl _⟩

theorem Co.ne_at (a b : List Co.C) (k : Nat) (h1 : k < a.length) (h2 : k < b.length) (h : a[k] ≠ b[k]) : a ≠ b := by
  intro e
  subst e
  exact h rfl

end Go.Proofs.Ytkhmhmopcofejaa.Cm

