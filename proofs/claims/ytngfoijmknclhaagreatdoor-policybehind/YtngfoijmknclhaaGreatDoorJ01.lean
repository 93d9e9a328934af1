/- Worlds; lists of numbers and of runs: where they lie. -/
import Derived.Test.YtngfoijmknclhaaGreatDoorProg
import Derived.WalkKit
import Derived.WalkSpells
import Derived.WalkLawsBesides
import Derived.Deep.QuietTactic
import Derived.BigQuiet
import Derived.Lib.QuietBelow
import Derived.Deep.Cut
import Derived.Lib.Builder
import Derived.RegionTactic
import Derived.Laws.StructEq
import Derived.Sort.Grow
import Derived.Lib.ItoaLen
import Derived.Lib.AppendIntMem
import Derived.Laws.IdiomStrings
import Derived.Laws.Concat
import Derived.Lib.Join
import Derived.Lib.IndexLaws
import Derived.Lib.IndexBytes
namespace Go.Proofs.YtngfoijmknclhaaGreatDoor
open Go.RowKit Go.Sort
theorem hide {p : Prop} (h : p) : Hid p := h

theorem heap_lt {w : World} {b : Nat} {o : Obj} (h : w.heap[b]? = some o) : b < w.heap.size := by
  rcases Nat.lt_or_ge b w.heap.size with h' | h'
  · exact h'
  · simp [Array.getElem?_eq_none h'] at h

/-- An owned row is owned still behind what leaves all old blocks as they were. -/
theorem row_below {w w' : World} {B e size n : Nat} {v : Value} {xs : List Value} (h : w.ownsRow B e size v n xs) (hb : Below w.heap.size w w') : w'.ownsRow B e size v n xs := by
  obtain ⟨h1, h2⟩ := h
  refine ⟨h1, ?_⟩
  rcases h2 with h2 | ⟨g, cap, cur, hv, hB, hg, r⟩
  · exact .inl h2
  · exact .inr ⟨g, cap, cur, hv, hB, (hb.block g (heap_lt hg)).trans hg, r⟩

theorem ret_int {k : IntKind} {a b : Int} (h : a = b) : Ending.returned (.int k a) = .returned (.int k b) := by rw [h]
theorem ret_bool {a b : Bool} (h : a = b) : Ending.returned (.bool a) = .returned (.bool b) := by rw [h]
theorem bcell {W w1 : World} (hb : Below W.heap.size W w1) : (∀ b o, b < W.heap.size → w1.cell? ⟨b, o, none⟩ = W.cell? ⟨b, o, none⟩) ∧ (∀ b o, b < W.heap.size → w1.frozen? ⟨b, o, none⟩ = W.frozen? ⟨b, o, none⟩) :=
  ⟨fun b o h => hb.cell (p := ⟨b, o, none⟩) h, fun b o h => hb.frozen (p := ⟨b, o, none⟩) h⟩
theorem bthen {w W w1 : World} (h : Below w.heap.size w W) (hb : Below W.heap.size W w1) : Below w.heap.size w w1 := h.trans (hb.mono h.size)
theorem balloc {w W : World} (h : Below w.heap.size w W) (o : Obj) : Below w.heap.size w (W.alloc o) := h.alloc h.size o
theorem brefl (w : World) : Below w.heap.size w w := Below.refl _ _
theorem bset {w W : World} (h : Below w.heap.size w W) {p : Addr} (hp : w.heap.size ≤ p.block) (u : Value) : Below w.heap.size w (W.setCell p u) := h.setCell hp u

/-- Some draws on, some blocks behind. -/
def Grows (w w' : World) : Prop := ∃ q os, w' = grow (w.drewN q) os
theorem Grows.refl (w : World) : Grows w w := ⟨0, #[], by rw [grow_empty]; rfl⟩
theorem Grows.trans {a b c : World} (h : Grows a b) (k : Grows b c) : Grows a c := by
  obtain ⟨q, os, rfl⟩ := h
  obtain ⟨q', os', rfl⟩ := k
  refine ⟨q + q', os ++ os', ?_⟩
  rw [← grow_grow, ← World.drewN_drewN]
  rfl
theorem Grows.alloc {a b : World} (h : Grows a b) (o : Obj) : Grows a (b.alloc o) := h.trans ⟨0, #[o], rfl⟩
theorem Grows.drewN {a b : World} (h : Grows a b) (n : Nat) : Grows a (b.drewN n) := h.trans ⟨n, #[], by rw [grow_empty]⟩
theorem Grows.below {a b : World} (h : Grows a b) : Below a.heap.size a b := by
  obtain ⟨q, os, rfl⟩ := h
  exact ⟨rfl, rfl, rfl, by simp [grow], fun k hk => by simp [grow, Array.getElem?_append, hk]⟩

/-- A run's two cells read there. -/
def Two (w : World) (n : Nat) (a b : Int) : Prop := w.cell? ⟨n, 0, none⟩ = some (.int .i64 a) ∧ w.cell? ⟨n, 1, none⟩ = some (.int .i64 b) ∧ n < w.heap.size ∧ n < w.heap.size + 1
theorem two_of {W : World} {n : Nat} {a b : Int} (h0 : W.cell? ⟨n, 0, none⟩ = some (.int .i64 a)) (h1 : W.cell? ⟨n, 1, none⟩ = some (.int .i64 b)) : Two W n a b :=
  ⟨h0, h1, block_lt_of_cell h0, Nat.lt_succ_of_lt (block_lt_of_cell h0)⟩
theorem two_below {W w1 : World} {n : Nat} {a b : Int} (hb : Below W.heap.size W w1) (h : Two W n a b) : Two w1 n a b :=
  two_of ((hb.cell (p := ⟨n, 0, none⟩) h.2.2.1).trans h.1) ((hb.cell (p := ⟨n, 1, none⟩) h.2.2.1).trans h.2.1)
theorem two_new (W : World) (a b : Int) (t : TypeId) : Two (W.alloc (.cells #[.int .i64 a, .int .i64 b] t)) W.heap.size a b := two_of (by simp) (by simp)

theorem row_slice {w : World} {B e size n : Nat} {v : Value} {xs : List Value} (h : w.ownsRow B e size v n xs) : ∃ ao cap, v = .slice ao n cap := by
  rcases h.2 with ⟨rfl, rfl⟩ | ⟨g, cap, cur, rfl, _⟩
  · exact ⟨none, 0, rfl⟩
  · exact ⟨_, cap, rfl⟩
/-- Numbers' cells. -/
def Is.cells (l : List Int) : List Value := l.map fun n => .int .i64 n
def Is.reads (w : World) (b off : Nat) (l : List Int) : Prop := ∀ j (h : j < l.length), w.cell? ⟨b, off + j, none⟩ = some (.int .i64 l[j])
/-- A slice at which numbers lie: nil has none. -/
def Is.slot (w : World) (ao : Option Addr) (l : List Int) : Prop := l = [] ∨ ∃ b off, ao = some ⟨b, off, none⟩ ∧ Is.reads w b off l
theorem Is.cells_length (l : List Int) : (Is.cells l).length = l.length := by simp [Is.cells]
theorem Is.cells_app (x y : List Int) : Is.cells (x ++ y) = Is.cells x ++ Is.cells y := by simp [Is.cells]
theorem Is.cells_one (l : List Int) : ∀ u ∈ Is.cells l, u.oneCell' = true := by
  intro u hu
  simp only [Is.cells, List.mem_map] at hu
  obtain ⟨x, _, rfl⟩ := hu
  rfl
theorem Is.reads_below {w w' : World} {b off : Nat} {l : List Int} (h : Is.reads w b off l) (hb : Below w.heap.size w w') : Is.reads w' b off l := by
  intro j hj
  have := h j hj
  rw [hb.cell (p := ⟨b, off + j, none⟩) (block_lt_of_cell this)]
  exact this
theorem Is.slot_below {w w' : World} {ao : Option Addr} {l : List Int} (h : Is.slot w ao l) (hb : Below w.heap.size w w') : Is.slot w' ao l := by
  rcases h with h | ⟨b, off, h, hr⟩
  · exact .inl h
  · exact .inr ⟨b, off, h, Is.reads_below hr hb⟩
theorem Is.slot_at {w : World} {ao : Option Addr} {l : List Int} (h : Is.slot w ao l) {k : Nat} (hk : k < l.length) : ∃ b off, ao = some ⟨b, off, none⟩ ∧ Is.reads w b off l := by
  rcases h with h | h
  · rw [h] at hk; simp at hk
  · exact h
theorem Is.own_len {w : World} {B n : Nat} {v : Value} {l : List Int} (h : w.ownsRow B 3 1 v n (Is.cells l)) : n = l.length := by
  have := h.1
  rw [Is.cells_length] at this
  omega
theorem Is.slot_own {w : World} {B n cap : Nat} {ao : Option Addr} {l : List Int} (h : w.ownsRow B 3 1 (.slice ao n cap) n (Is.cells l)) : Is.slot w ao l := by
  have hn := Is.own_len h
  rcases h.2 with ⟨hv, h0⟩ | ⟨g, cap', cur, hv, _⟩
  · left
    exact List.length_eq_zero_iff.1 (by omega)
  · right
    simp only [Value.slice.injEq] at hv
    refine ⟨g, 0, hv.1, fun j hj => ?_⟩
    rw [hv.1] at h
    rw [Nat.zero_add, h.cellAt j (by omega)]
    simp [Is.cells, hj]

/-- A number of an AS. -/
def Is.as (n : Int) : Bool := decide (0 < n) && decide (n < 65536)
theorem Is.as_iff (n : Int) : Is.as n = true ↔ 0 < n ∧ n < 65536 := by simp [Is.as]
theorem Is.as_not (n : Int) : Is.as n = false ↔ n ≤ 0 ∨ 65536 ≤ n := by
  rw [← Bool.not_eq_true, Is.as_iff]; omega
def Is.may (l : List Int) : Bool := decide (l.length ≤ 16) && l.all Is.as
theorem Is.may_iff (l : List Int) : Is.may l = true ↔ l.length ≤ 16 ∧ ∀ j (h : j < l.length), Is.as l[j] = true := by
  rw [Is.may, Bool.and_eq_true, decide_eq_true_iff, List.all_eq_true]
  constructor
  · exact fun h => ⟨h.1, fun j hj => h.2 _ (List.getElem_mem hj)⟩
  · intro h
    refine ⟨h.1, fun x hx => ?_⟩
    obtain ⟨j, hj, rfl⟩ := List.getElem_of_mem hx
    exact h.2 j hj

theorem refAS_is (n : Int) (r : Bool) (h : Is.as n = r) (w : World) : Calls Tryz.prog 97 #[.int .i64 n] w fun e w' => e = .returned (.bool r) ∧ w' = w := by
  cases r
  · rcases (Is.as_not n).1 h with h | h
    · have h0 : ¬ 0 < n := by omega
      clear h
      go_enter Tryz.func97, Tryz.ntmps97
      go_wp2_with fail
      go_ret
      exact ⟨rfl, rfl⟩
    · have h0 : 0 < n := by omega
      have h1 : ¬ n < 65536 := by omega
      clear h
      go_enter Tryz.func97, Tryz.ntmps97
      go_wp2_with fail
      go_ret
      exact ⟨rfl, rfl⟩
  · obtain ⟨h0, h1⟩ := (Is.as_iff n).1 h
    clear h
    go_enter Tryz.func97, Tryz.ntmps97
    go_wp2_with fail
    go_ret
    exact ⟨rfl, rfl⟩

set_option maxHeartbeats 2000000 in
theorem refMay_is (ao : Option Addr) (ca : Nat) (l : List Int) (r : Bool) (hr : Is.may l = r) (w : World) (hA : Is.slot w ao l) (h300 : l.length ≤ 300) :
    Calls Tryz.prog 55 #[.slice ao l.length ca] w fun e w' => e = .returned (.bool r) ∧ w' = w := by
  have HA := hide hA
  have HR := hide hr
  clear hA hr
  go_enter Tryz.func55, Tryz.ntmps55
  go_wp2_with fail
  go_loop [3] (fun t => ∃ k : Nat, k ≤ l.length ∧ k ≤ 16 ∧ t = .int .i64 k ∧ Hid (∀ j (h : j < l.length), j < k → Is.as l[j] = true)) (fun t => l.length - (intOf t).toNat)
  case atStart => exact ⟨0, Nat.zero_le _, by decide, rfl, hide fun j _ h => absurd h (Nat.not_lt_zero _)⟩
  case round =>
    obtain ⟨k, hk, hk16, rfl, HALL⟩ := hrel
    by_cases hlt : k < l.length
    · have hlt' : (k : Int) < (l.length : Int) := by omega
      by_cases h16 : k = 16
      · subst h16
        go_wp2_with fail
        go_ret
        refine ⟨ret_bool ?_, rfl⟩
        rw [← HR.out, Is.may, decide_eq_false (by omega)]
        rfl
      · have h16' : ¬ (16 : Int) ≤ (k : Int) := by omega
        obtain ⟨b, off, rfl, hrd⟩ := Is.slot_at HA.out hlt
        have e0 := hrd k hlt
        clear hrd
        cases has : Is.as l[k]
        · have CA := hide (fun W => refAS_is l[k] false has W)
          have HN : Hid (r = false) := by
            show _ = _
            rw [← HR.out]
            cases hm : Is.may l
            · rfl
            · have := ((Is.may_iff l).1 hm).2 k hlt
              rw [has] at this
              cases this
          clear has
          generalize l[k] = y at *
          go_wp2_with fail
          refine (CA.out _).mono ?_
          rintro e w2 ⟨rfl, rfl⟩
          go_wp2_with fail
          go_ret
          exact ⟨ret_bool HN.out.symm, rfl⟩
        · have CA := hide (fun W => refAS_is l[k] true has W)
          have HK : Hid (Is.as l[k] = true) := has
          clear has
          generalize hy : l[k] = y at CA e0
          clear hy
          go_wp2_with fail
          refine (CA.out _).mono ?_
          rintro e w2 ⟨rfl, rfl⟩
          go_wp2_with fail
          refine ⟨⟨k + 1, hlt, by omega, by simp, hide fun j hj hjk => ?_⟩, by simp [intOf]; omega⟩
          rcases Nat.lt_or_ge j k with h | h
          · exact HALL.out j hj h
          · obtain rfl : j = k := by omega
            exact HK.out
    · obtain rfl : k = l.length := by omega
      go_wp2_with fail
      go_ret
      refine ⟨ret_bool ?_, rfl⟩
      rw [← HR.out]
      exact ((Is.may_iff l).2 ⟨hk16, fun j hj => HALL.out j hj hj⟩).symm

end Go.Proofs.YtngfoijmknclhaaGreatDoor
namespace Go.Proofs.YtngfoijmknclhaaGreatDoor
open Go.RowKit Go.Sort
theorem itoa_len (n : Int) (h0 : 0 ≤ n) (h1 : n ≤ 65535) : (Lib.itoa n).length ≤ 21 := Lib.itoa_length_le n (by omega) (by omega)
end Go.Proofs.YtngfoijmknclhaaGreatDoor
namespace Go.Proofs.YtngfoijmknclhaaGreatDoor
open Go.RowKit
/-- Digits alone. -/
def Ad.digs (l : List UInt8) : Bool := l.all fun c => decide (48 ≤ c.toNat) && decide (c.toNat ≤ 57)
/-- A 0 ahead of others. -/
def Ad.zeroAhead (l : List UInt8) : Bool := decide (1 < l.length) && (l.head? == some 48)
/-- Is a text digits without a 0 ahead? -/
def Ad.isNum (l : List UInt8) : Bool := !l.isEmpty && !Ad.zeroAhead l && Ad.digs l
/-- The number of some digits. -/
def Ad.num (l : List UInt8) : Int := l.foldl (fun n c => 10 * n + ((c.toNat : Int) - 48)) 0

theorem Ad.size_list (s : ByteArray) : s.data.toList.length = s.size := by simp
theorem Ad.get_list (s : ByteArray) (k : Nat) (h : k < s.size) : s.data.toList[k]'(by simpa using h) = s[k] := rfl
theorem Ad.empty_iff (s : ByteArray) : s.toList.isEmpty = decide (s.size = 0) := by
  rw [ByteArray.toList_eq]
  obtain ⟨⟨l⟩⟩ := s
  cases l <;> simp [ByteArray.size]

/-- One byte is a digit. -/
def Ad.dig (c : UInt8) : Bool := decide (48 ≤ c.toNat) && decide (c.toNat ≤ 57)

theorem Ad.head_iff (s : ByteArray) (h : 0 < s.size) : s.data.toList.head? = some s[0] := by
  rw [← Ad.get_list s 0 h, List.head?_eq_getElem?]
  simp

theorem Ad.dig_bd (c : UInt8) (h : Ad.dig c = true) : (48 : Int) ≤ (c.toNat : Int) ∧ (c.toNat : Int) ≤ 57 := by
  simp [Ad.dig] at h
  omega

theorem isNum_digs {l : List UInt8} (h : Ad.isNum l = true) : Ad.digs l = true := by
  unfold Ad.isNum at h
  rw [Bool.and_eq_true] at h
  exact h.2

/-- The pieces of a text between blanks. -/
def Sp.split : List UInt8 → List (List UInt8)
  | [] => [[]]
  | c :: r => if c = 32 then [] :: Sp.split r else match Sp.split r with | f :: fs => (c :: f) :: fs | [] => [[c]]
theorem Sp.split_blank (r : List UInt8) : Sp.split (32 :: r) = [] :: Sp.split r := by simp [Sp.split]
theorem Sp.split_app : ∀ (a r : List UInt8), (32 : UInt8) ∉ a → Sp.split (a ++ 32 :: r) = a :: Sp.split r
  | [], r, _ => Sp.split_blank r
  | c :: a, r, h => by
    simp only [List.mem_cons, not_or] at h
    have ih := Sp.split_app a r h.2
    rw [List.cons_append, Sp.split, if_neg (fun e => h.1 e.symm), ih]
theorem Sp.split_one : ∀ (a : List UInt8), (32 : UInt8) ∉ a → Sp.split a = [a]
  | [], _ => rfl
  | c :: a, h => by
    simp only [List.mem_cons, not_or] at h
    rw [Sp.split, if_neg (fun e => h.1 e.symm), Sp.split_one a h.2]
/-- What Parse says of a text. -/
def Is.parse (l : List UInt8) : List Int × Int :=
  if l = [] then ([], 0) else
  if (Sp.split l).all Ad.isNum = true then
    (if ((Sp.split l).map Ad.num).all Is.as = true then (if 16 < (Sp.split l).length then ([], 2) else ((Sp.split l).map Ad.num, 0)) else ([], 7))
  else ([], 4)
theorem Is.parse_bad (l : List UInt8) (h0 : l ≠ []) (f : List UInt8) (hf : f ∈ Sp.split l) (hn : Ad.isNum f = false) (y : List Int) (q : Int) (h : Is.parse l = (y, q)) : y = [] ∧ q = 4 := by
  have ha : (Sp.split l).all Ad.isNum = false := by rw [List.all_eq_false]; exact ⟨f, hf, by rw [hn]; decide⟩
  unfold Is.parse at h
  rw [if_neg h0, ha] at h
  simp at h
  exact ⟨h.1, h.2.symm⟩
end Go.Proofs.YtngfoijmknclhaaGreatDoor
