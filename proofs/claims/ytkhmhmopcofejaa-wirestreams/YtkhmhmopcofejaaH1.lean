import Derived.Test.YtkhmhmopcofejaaProg
import Derived.WalkKit
import Derived.WalkSpells
import Derived.WalkLawsBesides
import Derived.Deep.QuietTactic
import Derived.BigQuiet
import Derived.Lib.QuietBelow
import Derived.Deep.Cut
import Derived.Lib.Builder
import Derived.RegionTactic
import Derived.Laws.StructEq
import Derived.Sort.Grow
import Derived.ChangeKeysEq
import Derived.Laws.AppendOwn
import Derived.Laws.AppendOwnNone
import Derived.Deep.AppendLies
/- Worlds; lists of numbers and of runs: where they lie. -/
namespace Go.Proofs.Ytkhmhmopcofejaa
open Go.RowKit Go.Sort

theorem hide {p : Prop} (h : p) : Hid p := h

theorem heap_lt {w : World} {b : Nat} {o : Obj} (h : w.heap[b]? = some o) : b < w.heap.size := by
  rcases Nat.lt_or_ge b w.heap.size with h' | h'
  · exact h'
  · simp [Array.getElem?_eq_none h'] at h

/-- An owned row is owned still behind what leaves all old blocks as they were. -/
theorem row_below {w w' : World} {B e size n : Nat} {v : Value} {xs : List Value} (h : w.ownsRow B e size v n xs) (hb : Below w.heap.size w w') : w'.ownsRow B e size v n xs := by
  obtain ⟨h1, h2⟩ := h
  refine ⟨h1, ?_⟩
  rcases h2 with h2 | ⟨g, cap, cur, hv, hB, hg, r⟩
  · exact .inl h2
  · exact .inr ⟨g, cap, cur, hv, hB, (hb.block g (heap_lt hg)).trans hg, r⟩

theorem ret_int {k : IntKind} {a b : Int} (h : a = b) : Ending.returned (.int k a) = .returned (.int k b) := by rw [h]
theorem ret_bool {a b : Bool} (h : a = b) : Ending.returned (.bool a) = .returned (.bool b) := by rw [h]
theorem bcell {W w1 : World} (hb : Below W.heap.size W w1) : (∀ b o, b < W.heap.size → w1.cell? ⟨b, o, none⟩ = W.cell? ⟨b, o, none⟩) ∧ (∀ b o, b < W.heap.size → w1.frozen? ⟨b, o, none⟩ = W.frozen? ⟨b, o, none⟩) :=
  ⟨fun b o h => hb.cell (p := ⟨b, o, none⟩) h, fun b o h => hb.frozen (p := ⟨b, o, none⟩) h⟩
theorem bthen {w W w1 : World} (h : Below w.heap.size w W) (hb : Below W.heap.size W w1) : Below w.heap.size w w1 := h.trans (hb.mono h.size)
theorem balloc {w W : World} (h : Below w.heap.size w W) (o : Obj) : Below w.heap.size w (W.alloc o) := h.alloc h.size o
theorem brefl (w : World) : Below w.heap.size w w := Below.refl _ _
theorem bset {w W : World} (h : Below w.heap.size w W) {p : Addr} (hp : w.heap.size ≤ p.block) (u : Value) : Below w.heap.size w (W.setCell p u) := h.setCell hp u

/-- Some draws on, some blocks behind. -/
def Grows (w w' : World) : Prop := ∃ q os, w' = grow (w.drewN q) os
theorem Grows.refl (w : World) : Grows w w := ⟨0, #[], by rw [grow_empty]; rfl⟩
theorem Grows.trans {a b c : World} (h : Grows a b) (k : Grows b c) : Grows a c := by
  obtain ⟨q, os, rfl⟩ := h
  obtain ⟨q', os', rfl⟩ := k
  refine ⟨q + q', os ++ os', ?_⟩
  rw [← grow_grow, ← World.drewN_drewN]
  rfl
theorem Grows.alloc {a b : World} (h : Grows a b) (o : Obj) : Grows a (b.alloc o) := h.trans ⟨0, #[o], rfl⟩
theorem Grows.drewN {a b : World} (h : Grows a b) (n : Nat) : Grows a (b.drewN n) := h.trans ⟨n, #[], by rw [grow_empty]⟩
theorem Grows.below {a b : World} (h : Grows a b) : Below a.heap.size a b := by
  obtain ⟨q, os, rfl⟩ := h
  exact ⟨rfl, rfl, rfl, by simp [grow], fun k hk => by simp [grow, Array.getElem?_append, hk]⟩

/-- A run's two cells read there. -/
def Two (w : World) (n : Nat) (a b : Int) : Prop := w.cell? ⟨n, 0, none⟩ = some (.int .i64 a) ∧ w.cell? ⟨n, 1, none⟩ = some (.int .i64 b) ∧ n < w.heap.size ∧ n < w.heap.size + 1
theorem two_of {W : World} {n : Nat} {a b : Int} (h0 : W.cell? ⟨n, 0, none⟩ = some (.int .i64 a)) (h1 : W.cell? ⟨n, 1, none⟩ = some (.int .i64 b)) : Two W n a b :=
  ⟨h0, h1, block_lt_of_cell h0, Nat.lt_succ_of_lt (block_lt_of_cell h0)⟩
theorem two_below {W w1 : World} {n : Nat} {a b : Int} (hb : Below W.heap.size W w1) (h : Two W n a b) : Two w1 n a b :=
  two_of ((hb.cell (p := ⟨n, 0, none⟩) h.2.2.1).trans h.1) ((hb.cell (p := ⟨n, 1, none⟩) h.2.2.1).trans h.2.1)
theorem two_new (W : World) (a b : Int) (t : TypeId) : Two (W.alloc (.cells #[.int .i64 a, .int .i64 b] t)) W.heap.size a b := two_of (by simp) (by simp)

abbrev Ru.C : Type := Int × Int
def Ru.enc (x : Ru.C) : List Value := [.int .i64 x.1, .int .i64 x.2]
def Ru.cells (l : List Ru.C) : List Value := l.flatMap Ru.enc
def Ru.reads (w : World) (b off : Nat) (l : List Ru.C) : Prop := ∀ j u, (Ru.cells l)[j]? = some u → w.cell? ⟨b, off + j, none⟩ = some u
/-- A slice at which a list lies: nil has none. -/
def Ru.slot (w : World) (ao : Option Addr) (l : List Ru.C) : Prop := l = [] ∨ ∃ b off, ao = some ⟨b, off, none⟩ ∧ Ru.reads w b off l

theorem Ru.cells_length (l : List Ru.C) : (Ru.cells l).length = l.length * 2 := by
  induction l with
  | nil => rfl
  | cons x l ih => simp only [Ru.cells, List.flatMap_cons, List.length_append, List.length_cons] at *; simp only [Ru.enc, List.length_cons, List.length_nil]; omega
theorem Ru.cells_app (x y : List Ru.C) : Ru.cells (x ++ y) = Ru.cells x ++ Ru.cells y := by simp [Ru.cells]
theorem Ru.cells_get (l : List Ru.C) (i : Nat) (h : i < l.length) : (Ru.cells l)[i * 2]? = some (.int .i64 l[i].1) ∧ (Ru.cells l)[i * 2 + 1]? = some (.int .i64 l[i].2) := by
  induction l generalizing i with
  | nil => simp at h
  | cons x l ih =>
    cases i with
    | zero => simp [Ru.cells, Ru.enc]
    | succ i =>
      have := ih i (by simpa using h)
      have e : (i + 1) * 2 = i * 2 + 1 + 1 := by omega
      simpa [Ru.cells, Ru.enc, e] using this
theorem Ru.cells_one (l : List Ru.C) : ∀ u ∈ Ru.cells l, u.oneCell' = true := by
  intro u hu
  simp only [Ru.cells, List.mem_flatMap] at hu
  obtain ⟨x, _, hx⟩ := hu
  simp [Ru.enc] at hx
  rcases hx with rfl | rfl <;> rfl

theorem Ru.reads_at {w : World} {b off : Nat} {l : List Ru.C} (h : Ru.reads w b off l) (i : Nat) (hi : i < l.length) :
    w.cell? ⟨b, off + i * 2, none⟩ = some (.int .i64 l[i].1) ∧ w.cell? ⟨b, off + i * 2 + 1, none⟩ = some (.int .i64 l[i].2) := by
  have := Ru.cells_get l i hi
  exact ⟨h _ _ this.1, by rw [Nat.add_assoc]; exact h _ _ this.2⟩
theorem Ru.reads_below {w w' : World} {b off : Nat} {l : List Ru.C} (h : Ru.reads w b off l) (hb : Below w.heap.size w w') : Ru.reads w' b off l := by
  intro j u hu
  have := h j u hu
  rw [hb.cell (p := ⟨b, off + j, none⟩) (block_lt_of_cell this)]
  exact this
theorem Ru.slot_below {w w' : World} {ao : Option Addr} {l : List Ru.C} (h : Ru.slot w ao l) (hb : Below w.heap.size w w') : Ru.slot w' ao l := by
  rcases h with h | ⟨b, off, h, hr⟩
  · exact .inl h
  · exact .inr ⟨b, off, h, Ru.reads_below hr hb⟩
theorem Ru.slot_at {w : World} {ao : Option Addr} {l : List Ru.C} (h : Ru.slot w ao l) {k : Nat} (hk : k < l.length) : ∃ b off, ao = some ⟨b, off, none⟩ ∧ Ru.reads w b off l := by
  rcases h with h | h
  · rw [h] at hk; simp at hk
  · exact h
theorem row_slice {w : World} {B e size n : Nat} {v : Value} {xs : List Value} (h : w.ownsRow B e size v n xs) : ∃ ao cap, v = .slice ao n cap := by
  rcases h.2 with ⟨rfl, rfl⟩ | ⟨g, cap, cur, rfl, _⟩
  · exact ⟨none, 0, rfl⟩
  · exact ⟨_, cap, rfl⟩
/-- Numbers' cells. -/
def Is.cells (l : List Int) : List Value := l.map fun n => .int .i64 n
def Is.reads (w : World) (b off : Nat) (l : List Int) : Prop := ∀ j (h : j < l.length), w.cell? ⟨b, off + j, none⟩ = some (.int .i64 l[j])
/-- A slice at which numbers lie: nil has none. -/
def Is.slot (w : World) (ao : Option Addr) (l : List Int) : Prop := l = [] ∨ ∃ b off, ao = some ⟨b, off, none⟩ ∧ Is.reads w b off l
theorem Is.cells_length (l : List Int) : (Is.cells l).length = l.length := by simp [Is.cells]
theorem Is.cells_app (x y : List Int) : Is.cells (x ++ y) = Is.cells x ++ Is.cells y := by simp [Is.cells]
theorem Is.cells_one (l : List Int) : ∀ u ∈ Is.cells l, u.oneCell' = true := by
  intro u hu
  simp only [Is.cells, List.mem_map] at hu
  obtain ⟨x, _, rfl⟩ := hu
  rfl
theorem Is.reads_below {w w' : World} {b off : Nat} {l : List Int} (h : Is.reads w b off l) (hb : Below w.heap.size w w') : Is.reads w' b off l := by
  intro j hj
  have := h j hj
  rw [hb.cell (p := ⟨b, off + j, none⟩) (block_lt_of_cell this)]
  exact this
theorem Is.slot_below {w w' : World} {ao : Option Addr} {l : List Int} (h : Is.slot w ao l) (hb : Below w.heap.size w w') : Is.slot w' ao l := by
  rcases h with h | ⟨b, off, h, hr⟩
  · exact .inl h
  · exact .inr ⟨b, off, h, Is.reads_below hr hb⟩
theorem Is.slot_at {w : World} {ao : Option Addr} {l : List Int} (h : Is.slot w ao l) {k : Nat} (hk : k < l.length) : ∃ b off, ao = some ⟨b, off, none⟩ ∧ Is.reads w b off l := by
  rcases h with h | h
  · rw [h] at hk; simp at hk
  · exact h
theorem Is.own_len {w : World} {B n : Nat} {v : Value} {l : List Int} (h : w.ownsRow B 3 1 v n (Is.cells l)) : n = l.length := by
  have := h.1
  rw [Is.cells_length] at this
  omega
theorem Is.slot_own {w : World} {B n cap : Nat} {ao : Option Addr} {l : List Int} (h : w.ownsRow B 3 1 (.slice ao n cap) n (Is.cells l)) : Is.slot w ao l := by
  have hn := Is.own_len h
  rcases h.2 with ⟨hv, h0⟩ | ⟨g, cap', cur, hv, _⟩
  · left
    exact List.length_eq_zero_iff.1 (by omega)
  · right
    simp only [Value.slice.injEq] at hv
    refine ⟨g, 0, hv.1, fun j hj => ?_⟩
    rw [hv.1] at h
    rw [Nat.zero_add, h.cellAt j (by omega)]
    simp [Is.cells, hj]

/-- A number of an AS. -/
def Is.as (n : Int) : Bool := decide (0 < n) && decide (n < 65536)
theorem Is.as_iff (n : Int) : Is.as n = true ↔ 0 < n ∧ n < 65536 := by simp [Is.as]
theorem Is.as_not (n : Int) : Is.as n = false ↔ n ≤ 0 ∨ 65536 ≤ n := by
  rw [← Bool.not_eq_true, Is.as_iff]; omega
def Is.may (l : List Int) : Bool := decide (l.length ≤ 16) && l.all Is.as
theorem Is.may_iff (l : List Int) : Is.may l = true ↔ l.length ≤ 16 ∧ ∀ j (h : j < l.length), Is.as l[j] = true := by
  rw [Is.may, Bool.and_eq_true, decide_eq_true_iff, List.all_eq_true]
  constructor
  · exact fun h => ⟨h.1, fun j hj => h.2 _ (List.getElem_mem hj)⟩
  · intro h
    refine ⟨h.1, fun x hx => ?_⟩
    obtain ⟨j, hj, rfl⟩ := List.getElem_of_mem hx
    exact h.2 j hj

theorem refAS_is (n : Int) (r : Bool) (h : Is.as n = r) (w : World) : Calls Try.prog 69 #[.int .i64 n] w fun e w' => e = .returned (.bool r) ∧ w' = w := by
  cases r
  · rcases (Is.as_not n).1 h with h | h
    · have h0 : ¬ 0 < n := by omega
      clear h
      go_enter Try.func69, Try.ntmps69
      go_wp2_with fail
      go_ret
      exact ⟨rfl, rfl⟩
    · have h0 : 0 < n := by omega
      have h1 : ¬ n < 65536 := by omega
      clear h
      go_enter Try.func69, Try.ntmps69
      go_wp2_with fail
      go_ret
      exact ⟨rfl, rfl⟩
  · obtain ⟨h0, h1⟩ := (Is.as_iff n).1 h
    clear h
    go_enter Try.func69, Try.ntmps69
    go_wp2_with fail
    go_ret
    exact ⟨rfl, rfl⟩

set_option maxHeartbeats 2000000 in
theorem refMay_is (ao : Option Addr) (ca : Nat) (l : List Int) (r : Bool) (hr : Is.may l = r) (w : World) (hA : Is.slot w ao l) (h300 : l.length ≤ 300) :
    Calls Try.prog 46 #[.slice ao l.length ca] w fun e w' => e = .returned (.bool r) ∧ w' = w := by
  have HA := hide hA
  have HR := hide hr
  clear hA hr
  go_enter Try.func46, Try.ntmps46
  go_wp2_with fail
  go_loop [3] (fun t => ∃ k : Nat, k ≤ l.length ∧ k ≤ 16 ∧ t = .int .i64 k ∧ Hid (∀ j (h : j < l.length), j < k → Is.as l[j] = true)) (fun t => l.length - (intOf t).toNat)
  case atStart => exact ⟨0, Nat.zero_le _, by decide, rfl, hide fun j _ h => absurd h (Nat.not_lt_zero _)⟩
  case round =>
    obtain ⟨k, hk, hk16, rfl, HALL⟩ := hrel
    by_cases hlt : k < l.length
    · have hlt' : (k : Int) < (l.length : Int) := by omega
      by_cases h16 : k = 16
      · subst h16
        go_wp2_with fail
        go_ret
        refine ⟨ret_bool ?_, rfl⟩
        rw [← HR.out, Is.may, decide_eq_false (by omega)]
        rfl
      · have h16' : ¬ (16 : Int) ≤ (k : Int) := by omega
        obtain ⟨b, off, rfl, hrd⟩ := Is.slot_at HA.out hlt
        have e0 := hrd k hlt
        clear hrd
        cases has : Is.as l[k]
        · have CA := hide (fun W => refAS_is l[k] false has W)
          have HN : Hid (r = false) := by
            show _ = _
            rw [← HR.out]
            cases hm : Is.may l
            · rfl
            · have := ((Is.may_iff l).1 hm).2 k hlt
              rw [has] at this
              cases this
          clear has
          generalize l[k] = y at *
          go_wp2_with fail
          refine (CA.out _).mono ?_
          rintro e w2 ⟨rfl, rfl⟩
          go_wp2_with fail
          go_ret
          exact ⟨ret_bool HN.out.symm, rfl⟩
        · have CA := hide (fun W => refAS_is l[k] true has W)
          have HK : Hid (Is.as l[k] = true) := has
          clear has
          generalize hy : l[k] = y at CA e0
          clear hy
          go_wp2_with fail
          refine (CA.out _).mono ?_
          rintro e w2 ⟨rfl, rfl⟩
          go_wp2_with fail
          refine ⟨⟨k + 1, hlt, by omega, by simp, hide fun j hj hjk => ?_⟩, by simp [intOf]; omega⟩
          rcases Nat.lt_or_ge j k with h | h
          · exact HALL.out j hj h
          · obtain rfl : j = k := by omega
            exact HK.out
    · obtain rfl : k = l.length := by omega
      go_wp2_with fail
      go_ret
      refine ⟨ret_bool ?_, rfl⟩
      rw [← HR.out]
      exact ((Is.may_iff l).2 ⟨hk16, fun j hj => HALL.out j hj hj⟩).symm

end Go.Proofs.Ytkhmhmopcofejaa

/- The contracts of the document's Compare and Same of paths. -/
namespace Go.Proofs.Ytkhmhmopcofejaa
open Go.RowKit Go.Sort

def Is.lex : List Int → List Int → Int
  | x :: xs, y :: ys => if x < y then -1 else if y < x then 1 else Is.lex xs ys
  | _, _ => 0
def Is.compare (a b : List Int) : Int := if a.length < b.length then -1 else if b.length < a.length then 1 else Is.lex a b

theorem Is.lex_step (a b : List Int) (k : Nat) (h1 : k < a.length) (h2 : k < b.length) : Is.lex (a.drop k) (b.drop k) = if a[k] < b[k] then -1 else if b[k] < a[k] then 1 else Is.lex (a.drop (k + 1)) (b.drop (k + 1)) := by
  rw [List.drop_eq_getElem_cons h1, List.drop_eq_getElem_cons h2]
  rfl
theorem Is.lex_end (a b : List Int) (k : Nat) (h1 : a.length ≤ k) : Is.lex (a.drop k) (b.drop k) = 0 := by
  rw [List.drop_eq_nil_of_le h1]
  rfl
theorem Is.lex_bd : ∀ a b : List Int, -1 ≤ Is.lex a b ∧ Is.lex a b ≤ 1
  | [], _ => by simp [Is.lex]
  | _ :: _, [] => by simp [Is.lex]
  | x :: xs, y :: ys => by
    have := Is.lex_bd xs ys
    simp only [Is.lex]
    split
    · omega
    · split <;> omega
theorem Is.lex_zero : ∀ a b : List Int, a.length = b.length → (Is.lex a b = 0 ↔ a = b)
  | [], [], _ => by simp [Is.lex]
  | [], _ :: _, h => by simp at h
  | _ :: _, [], h => by simp at h
  | x :: xs, y :: ys, h => by
    have ih := Is.lex_zero xs ys (by simpa using h)
    simp only [Is.lex, List.cons.injEq]
    by_cases h1 : x < y
    · rw [if_pos h1]
      constructor
      · intro h; omega
      · intro h; omega
    · rw [if_neg h1]
      by_cases h2 : y < x
      · rw [if_pos h2]
        constructor
        · intro h; omega
        · intro h; omega
      · rw [if_neg h2, ih]
        constructor
        · exact fun h => ⟨by omega, h⟩
        · exact fun h => h.2
theorem Is.lex_neg : ∀ a b : List Int, Is.lex b a = -Is.lex a b
  | [], [] => rfl
  | [], _ :: _ => rfl
  | _ :: _, [] => rfl
  | x :: xs, y :: ys => by
    have ih := Is.lex_neg xs ys
    simp only [Is.lex]
    by_cases h1 : x < y
    · rw [if_pos h1, if_neg (by omega), if_pos h1]; rfl
    · by_cases h2 : y < x
      · rw [if_pos h2, if_neg h1, if_pos h2]
      · rw [if_neg h2, if_neg h1, if_neg h1, if_neg h2, ih]
theorem Is.lex_trans : ∀ a b c : List Int, a.length = b.length → b.length = c.length → Is.lex a b ≤ 0 → Is.lex b c ≤ 0 → Is.lex a c ≤ 0 ∧ ((Is.lex a b = 0 ∧ Is.lex b c = 0) ∨ Is.lex a c < 0)
  | [], [], [], _, _, _, _ => by simp [Is.lex]
  | x :: xs, y :: ys, z :: zs, h1, h2, h3, h4 => by
    have ih := Is.lex_trans xs ys zs (by simpa using h1) (by simpa using h2)
    simp only [Is.lex] at *
    by_cases e1 : x < y
    · by_cases e2 : y < z
      · rw [if_pos (show x < z by omega)]; omega
      · rw [if_neg e2] at h4
        by_cases e3 : z < y
        · rw [if_pos e3] at h4; omega
        · rw [if_pos (show x < z by omega)]; omega
    · rw [if_neg e1] at h3
      by_cases e3 : y < x
      · rw [if_pos e3] at h3; omega
      · rw [if_neg e3] at h3
        by_cases e2 : y < z
        · rw [if_pos (show x < z by omega)]; omega
        · rw [if_neg e2] at h4
          by_cases e4 : z < y
          · rw [if_pos e4] at h4; omega
          · rw [if_neg e4] at h4
            have := ih h3 h4
            rw [if_neg (show ¬ x < z by omega), if_neg (show ¬ z < x by omega), if_neg e1, if_neg e3, if_neg e2, if_neg e4]
            exact this
  | [], _ :: _, _, h, _, _, _ => by simp at h
  | _ :: _, [], _, h, _, _, _ => by simp at h
  | [], [], _ :: _, _, h, _, _ => by simp at h
  | _ :: _, _ :: _, [], _, h, _, _ => by simp at h
theorem Is.compare_bd (a b : List Int) : -1 ≤ Is.compare a b ∧ Is.compare a b ≤ 1 := by
  have := Is.lex_bd a b
  unfold Is.compare
  split
  · omega
  · split <;> omega
theorem Is.compare_zero (a b : List Int) : Is.compare a b = 0 ↔ a = b := by
  unfold Is.compare
  split
  · constructor
    · intro h; omega
    · rintro rfl; omega
  · split
    · constructor
      · intro h; omega
      · rintro rfl; omega
    · exact Is.lex_zero a b (by omega)
theorem Is.compare_neg (a b : List Int) : Is.compare b a = -Is.compare a b := by
  have := Is.lex_neg a b
  unfold Is.compare
  by_cases h1 : a.length < b.length
  · rw [if_pos h1, if_neg (by omega), if_pos h1]; rfl
  · by_cases h2 : b.length < a.length
    · rw [if_pos h2, if_neg h1, if_pos h2]
    · rw [if_neg h2, if_neg h1, if_neg h1, if_neg h2, this]
theorem Is.compare_trans (a b c : List Int) (h1 : Is.compare a b ≤ 0) (h2 : Is.compare b c ≤ 0) : Is.compare a c ≤ 0 ∧ ((Is.compare a b = 0 ∧ Is.compare b c = 0) ∨ Is.compare a c < 0) := by
  unfold Is.compare at *
  by_cases e1 : a.length < b.length
  · by_cases e2 : b.length < c.length
    · rw [if_pos (show a.length < c.length by omega)]; omega
    · rw [if_neg e2] at h2
      by_cases e3 : c.length < b.length
      · rw [if_pos e3] at h2; omega
      · rw [if_pos (show a.length < c.length by omega)]; omega
  · rw [if_neg e1] at h1
    by_cases e3 : b.length < a.length
    · rw [if_pos e3] at h1; omega
    · rw [if_neg e3] at h1
      by_cases e2 : b.length < c.length
      · rw [if_pos (show a.length < c.length by omega)]; omega
      · rw [if_neg e2] at h2
        by_cases e4 : c.length < b.length
        · rw [if_pos e4] at h2; omega
        · rw [if_neg e4] at h2
          have := Is.lex_trans a b c (by omega) (by omega) h1 h2
          rw [if_neg (show ¬ a.length < c.length by omega), if_neg (show ¬ c.length < a.length by omega), if_neg e1, if_neg e3, if_neg e2, if_neg e4]
          exact this

set_option maxHeartbeats 4000000 in
theorem refCompare_same (ao bo : Option Addr) (ca cb : Nat) (a b : List Int) (w : World) (hA : Is.slot w ao a) (hB : Is.slot w bo b) (hl : a.length = b.length) (h300 : a.length ≤ 300) :
    Calls Try.prog 73 #[.slice ao a.length ca, .slice bo b.length cb] w fun e w' => e = .returned (.int .i64 (Is.lex a b)) ∧ Below w.heap.size w w' := by
  have HA := hide hA
  have HB := hide hB
  have HL := hide hl
  clear hA hB
  have hle : (a.length : Int) = (b.length : Int) := by omega
  have h300b : b.length ≤ 300 := by omega
  clear hl
  go_enter Try.func73, Try.ntmps73
  go_wp2_with fail
  go_loopw [5] (fun v wr => ∃ k : Nat, v = .int .i64 k ∧ k ≤ a.length ∧ Hid (Is.lex a b = Is.lex (a.drop k) (b.drop k)) ∧ Below w.heap.size w wr) (fun v _ => a.length - (intOf v).toNat)
  case atStart => exact ⟨0, rfl, Nat.zero_le _, hide rfl, brefl w⟩
  case round =>
    obtain ⟨k, rfl, hk, HX, hbr⟩ := hrel
    have HBR := hide hbr
    clear hbr
    by_cases hka : k < a.length
    · have hkb : k < b.length := by have := HL.out; omega
      have hkA : (k : Int) < (a.length : Int) := by omega
      have hkB : (k : Int) < (b.length : Int) := by omega
      obtain ⟨b1, o1, rfl, hr1⟩ := Is.slot_at HA.out hka
      obtain ⟨b2, o2, rfl, hr2⟩ := Is.slot_at HB.out hkb
      have e0 := Is.reads_below hr1 HBR.out k hka
      have f0 := Is.reads_below hr2 HBR.out k hkb
      clear hr1 hr2
      have HS := hide (Is.lex_step a b k hka hkb)
      generalize a[k] = y at *
      generalize b[k] = z at *
      have r0 := fun dd os => cell_regrown e0 dd os
      have s0 := fun dd os => cell_regrown f0 dd os
      by_cases h1 : y < z
      · have HN := hide (HX.out.trans (HS.out.trans (if_pos h1)))
        clear HS
        go_wp2_with fail
        refine wp_region_quiet_below (by kernel_rfl) (by kernel_rfl) ?_
        repeat (go_big_quiet_step (fail))
        refine wpQuiet_nil ?_
        rintro _ ⟨⟨dd, os⟩, rfl⟩
        have hb1 := below_regrown wr dd os
        generalize Sort.grow (redrawn wr dd) os = w1 at hb1
        have B1 := hide (bthen HBR.out hb1)
        clear hb1 r0 s0 e0 f0
        go_wp2_with fail
        go_ret
        exact ⟨ret_int HN.out.symm, B1.out⟩
      · have HS1 := hide (HX.out.trans (HS.out.trans (if_neg h1)))
        clear HS
        go_wp2_with fail
        refine wp_region_quiet_below (by kernel_rfl) (by kernel_rfl) ?_
        repeat (go_big_quiet_step (fail))
        refine wpQuiet_nil ?_
        rintro _ ⟨⟨dd, os⟩, rfl⟩
        have hb1 := below_regrown wr dd os
        have E0 := r0 dd os
        have F0 := s0 dd os
        generalize Sort.grow (redrawn wr dd) os = w1 at hb1 E0 F0
        have B1 := hide (bthen HBR.out hb1)
        clear hb1 r0 s0 e0 f0
        have r0 := fun dd os => cell_regrown E0 dd os
        have s0 := fun dd os => cell_regrown F0 dd os
        by_cases h2 : z < y
        · have HN := hide (HS1.out.trans (if_pos h2))
          clear HS1
          go_wp2_with fail
          refine wp_region_quiet_below (by kernel_rfl) (by kernel_rfl) ?_
          repeat (go_big_quiet_step (fail))
          refine wpQuiet_nil ?_
          rintro _ ⟨⟨dd2, os2⟩, rfl⟩
          have hb2 := below_regrown w1 dd2 os2
          generalize Sort.grow (redrawn w1 dd2) os2 = w2 at hb2
          have B2 := hide (bthen B1.out hb2)
          clear hb2 r0 s0 E0 F0
          go_wp2_with fail
          go_ret
          exact ⟨ret_int HN.out.symm, B2.out⟩
        · have HN := hide (HS1.out.trans (if_neg h2))
          clear HS1
          go_wp2_with fail
          refine wp_region_quiet_below (by kernel_rfl) (by kernel_rfl) ?_
          repeat (go_big_quiet_step (fail))
          refine wpQuiet_nil ?_
          rintro _ ⟨⟨dd2, os2⟩, rfl⟩
          have hb2 := below_regrown w1 dd2 os2
          generalize Sort.grow (redrawn w1 dd2) os2 = w2 at hb2
          have B2 := hide (bthen B1.out hb2)
          clear hb2 r0 s0 E0 F0
          go_wp2_with fail
          exact ⟨⟨k + 1, by go_num, by omega, hide HN.out, B2.out⟩, by simp [intOf] <;> omega⟩
    · have HN := hide (HX.out.trans (Is.lex_end a b k (by omega)))
      obtain rfl : k = a.length := by omega
      go_wp2_with fail
      go_ret
      exact ⟨ret_int HN.out.symm, HBR.out⟩

theorem refCompare_is (ao bo : Option Addr) (ca cb : Nat) (a b : List Int) (x : Int) (hx : Is.compare a b = x) (w : World) (hA : Is.slot w ao a) (hB : Is.slot w bo b) (ha : a.length ≤ 300) :
    Calls Try.prog 73 #[.slice ao a.length ca, .slice bo b.length cb] w fun e w' => e = .returned (.int .i64 x) ∧ Below w.heap.size w w' := by
  subst hx
  unfold Is.compare
  by_cases h1 : a.length < b.length
  · rw [if_pos h1]
    have h1' : (a.length : Int) < (b.length : Int) := by omega
    have h2' : ¬ (a.length : Int) = (b.length : Int) := by omega
    go_enter Try.func73, Try.ntmps73
    go_wp2_with fail
    go_ret
    exact ⟨rfl, brefl w⟩
  · rw [if_neg h1]
    by_cases h2 : b.length < a.length
    · rw [if_pos h2]
      have h1' : ¬ (a.length : Int) < (b.length : Int) := by omega
      have h2' : ¬ (a.length : Int) = (b.length : Int) := by omega
      go_enter Try.func73, Try.ntmps73
      go_wp2_with fail
      go_ret
      exact ⟨rfl, brefl w⟩
    · rw [if_neg h2]
      exact refCompare_same ao bo ca cb a b w hA hB (by omega) ha

end Go.Proofs.Ytkhmhmopcofejaa

/- Runs held against each other, and rows that are put behind. -/
namespace Go.Proofs.Ytkhmhmopcofejaa
open Go.RowKit Go.Sort

/-- A slice that came in: nil has no room, and no place within a place. -/
def came (ao : Option Addr) (cap : Nat) : Prop := (ao = none → cap = 0) ∧ (∀ ad, ao = some ad → ad.spot = none)
theorem came_some (g o c : Nat) : came (some ⟨g, o, none⟩) c := ⟨fun h => (by cases h), fun ad h => (by cases h; rfl)⟩
theorem own_came {w : World} {B e size n cap : Nat} {ao : Option Addr} {xs : List Value} (h : w.ownsRow B e size (.slice ao n cap) n xs) : came ao cap := by
  rcases h.2 with ⟨hv, h0⟩ | ⟨g, cap', cur, hv, _⟩
  · simp only [Value.slice.injEq] at hv
    exact ⟨fun _ => hv.2.2, fun ad h => (by rw [hv.1] at h; cases h)⟩
  · simp only [Value.slice.injEq] at hv
    exact ⟨fun h => (by rw [hv.1] at h; cases h), fun ad h => (by rw [hv.1] at h; cases h; rfl)⟩

theorem infoI : (Try.prog.info? 3).map (fun i => (i.zero, i.size, i.bytes)) = some (some (.int .i64 0), 1, 8) := by kernel_rfl
theorem info_partsI : ∃ i0 : TypeInfo, Try.prog.info? 3 = some i0 ∧ i0.zero = some (.int .i64 0) ∧ i0.size = 1 ∧ i0.bytes = 8 := by
  have h := infoI
  cases hi : Try.prog.info? 3 with
  | none => rw [hi] at h; cases h
  | some i0 =>
    rw [hi] at h
    simp only [Option.map_some, Option.some.injEq, Prod.mk.injEq] at h
    exact ⟨i0, rfl, h.1, h.2.1, h.2.2⟩
theorem Is.cells_get (l : List Int) (j : Nat) (u : Value) (h : (Is.cells l)[j]? = some u) : ∃ hj : j < l.length, u = .int .i64 l[j] := by
  have hj : j < l.length := by have := (List.getElem?_eq_some_iff.1 h).1; rwa [Is.cells_length] at this
  refine ⟨hj, ?_⟩
  simp [Is.cells, hj] at h
  exact h.symm

/-- Numbers put behind a row of the call's own. -/
theorem append_ints {w w0 : World} {ops : Array Oper} {rest : List Oper} {o : Oper} {a : Act} {Q : Exit → Act → World → Prop} (hgd : o.guard = none) (s x : Operand)
    (ho : o.op = .call { callee := .builtin .append, args := #[s, x], argTypes := #[23, 23] }) (v : Value) (n : Nat) (xs : List Int) (hs : a.eval s = v) (hown : w.ownsRow w0.heap.size 3 1 v n (Is.cells xs))
    (ao : Option Addr) (nl cap : Nat) (l : List Int) (hx : a.eval x = .slice ao nl cap) (hnl : l.length = nl) (hR : Is.slot w ao l) (hC : came ao cap) (hn : n + nl ≤ 1000000) (hb : Below w0.heap.size w0 w)
    (h : ∀ v' w', w'.ownsRow w0.heap.size 3 1 v' (n + nl) (Is.cells (xs ++ l)) → Below w0.heap.size w0 w' → wpList Try.prog ops Q rest (a.put o.dst v') w') : wpList Try.prog ops Q (o :: rest) a w := by
  subst hnl
  obtain ⟨i0, hi, hz0, hz1, hz2⟩ := info_partsI
  cases ao with
  | none =>
    have hl : l = [] := by
      rcases hR with h | ⟨b, off, h, _⟩
      · exact h
      · cases h
    subst hl
    rw [hC.1 rfl] at hx
    refine wpList_append_own_none hgd s x 23 ho w0.heap.size 3 i0 1 Try.underlying23 hi v n (Is.cells xs) hs hown hx ?_
    exact h v w (by simpa using hown) hb
  | some ad =>
    obtain ⟨b, off, sp⟩ := ad
    obtain rfl : sp = none := hC.2 _ rfl
    have hrd : ∀ j u, (Is.cells l)[j]? = some u → w.cell? ((⟨b, off, none⟩ : Addr).add j) = some u := by
      intro j u hu
      obtain ⟨hj, rfl⟩ := Is.cells_get l j u hu
      rcases hR with h | ⟨b', off', h, hr⟩
      · rw [h] at hj; simp at hj
      · simp only [Option.some.injEq, Addr.mk.injEq, and_true] at h
        rw [show (⟨b, off, none⟩ : Addr).add j = ⟨b, off + j, none⟩ by unfold Addr.add; split <;> simp_all, h.1, h.2]
        exact hr j hj
    refine wpList_append_own w hgd s x 23 ho w0.heap.size 3 i0 _ 1 8 Try.underlying23 hi hz0 hz1 hz2 rfl (by decide) v n (Is.cells xs) hs hown ⟨b, off, none⟩ l.length cap (Is.cells l) hx (by rw [Is.cells_length, Nat.mul_one]) hrd (Is.cells_one l) (by unfold maxLen; omega) (by omega) hb.size ?_
    intro v' w' ho' hg _
    refine h v' w' ?_ (Below.grown hb hg hb.size fun k hk => (hown.lt k hk).1)
    rw [Is.cells_app]
    exact ho'
theorem Is.slot_one (W : World) (n : Int) (t : TypeId) : Is.slot (W.alloc (.cells #[.int .i64 n] t)) (some ⟨W.heap.size, 0, none⟩) [n] := by
  refine .inr ⟨_, 0, rfl, fun j hj => ?_⟩
  obtain rfl : j = 0 := by simp at hj; omega
  simp

theorem Ru.slot_one (W : World) (a b : Int) (g : Nat) (h : Two W g a b) : Ru.slot W (some ⟨g, 0, none⟩) [(a, b)] := by
  refine .inr ⟨g, 0, rfl, fun j u hu => ?_⟩
  match j, hu with
  | 0, hu => simp [Ru.cells, Ru.enc] at hu; subst hu; exact h.1
  | 1, hu => simp [Ru.cells, Ru.enc] at hu; subst hu; exact h.2.1

end Go.Proofs.Ytkhmhmopcofejaa

