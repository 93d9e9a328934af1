/- Worlds; places in a text; what a text is scanned as. -/
import Derived.Test.YtdkfamlnmjhcfaaProg
import Derived.WalkKit
import Derived.WalkSpells
import Derived.WalkLawsBesides
import Derived.Deep.QuietTactic
import Derived.BigQuiet
import Derived.Lib.QuietBelow
import Derived.Deep.Cut
import Derived.Lib.Builder
import Derived.RegionTactic
import Derived.Laws.StructEq
import Derived.Sort.Grow
namespace Go.Proofs.Ytdkfamlnmjhcfaa
open Go.RowKit Go.Sort

theorem hide {p : Prop} (h : p) : Hid p := h
theorem heap_lt {w : World} {b : Nat} {o : Obj} (h : w.heap[b]? = some o) : b < w.heap.size := by
  rcases Nat.lt_or_ge b w.heap.size with h' | h'
  · exact h'
  · simp [Array.getElem?_eq_none h'] at h
theorem row_below {w w' : World} {B e size n : Nat} {v : Value} {xs : List Value} (h : w.ownsRow B e size v n xs) (hb : Below w.heap.size w w') : w'.ownsRow B e size v n xs := by
  obtain ⟨h1, h2⟩ := h
  refine ⟨h1, ?_⟩
  rcases h2 with h2 | ⟨g, cap, cur, hv, hB, hg, r⟩
  · exact .inl h2
  · exact .inr ⟨g, cap, cur, hv, hB, (hb.block g (heap_lt hg)).trans hg, r⟩
theorem ret_bool {a b : Bool} (h : a = b) : Ending.returned (.bool a) = .returned (.bool b) := by rw [h]
theorem bthen {w W w1 : World} (h : Below w.heap.size w W) (hb : Below W.heap.size W w1) : Below w.heap.size w w1 := h.trans (hb.mono h.size)
theorem balloc {w W : World} (h : Below w.heap.size w W) (o : Obj) : Below w.heap.size w (W.alloc o) := h.alloc h.size o
theorem brefl (w : World) : Below w.heap.size w w := Below.refl _ _
theorem bset {w W : World} (h : Below w.heap.size w W) {p : Addr} (hp : w.heap.size ≤ p.block) (u : Value) : Below w.heap.size w (W.setCell p u) := h.setCell hp u
theorem heap_new (w : World) (x : Array Value) (t : TypeId) : (w.alloc (.cells x t)).heap[w.heap.size]? = some (.cells x t (0, 0)) := heap_alloc_new w _
theorem row_slice {w : World} {B e s n : Nat} {v : Value} {xs : List Value} (h : w.ownsRow B e s v n xs) : ∃ o c, v = .slice o n c := by
  rcases h.2 with ⟨hv, h0⟩ | ⟨g, cap, cur, hv, _⟩
  · exact ⟨none, 0, by rw [hv, h0]⟩
  · exact ⟨_, _, hv⟩

/-- The bytes of a text. -/
abbrev lst (s : ByteArray) : List UInt8 := s.data.toList
theorem lst_size (s : ByteArray) : (lst s).length = s.size := by simp
theorem lst_get (s : ByteArray) (k : Nat) (h : k < s.size) : (lst s)[k]'(by simpa using h) = s[k] := rfl

/-- A place one byte on. -/
def plS (p : Nat × Nat) (c : UInt8) : Nat × Nat := if c = 10 then (p.1 + 1, 1) else (p.1, p.2 + 1)
/-- The place of a byte. -/
def plc (l : List UInt8) (k : Nat) : Nat × Nat := (l.take k).foldl plS (1, 1)
theorem plc_zero (l : List UInt8) : plc l 0 = (1, 1) := rfl
theorem plc_succ {l : List UInt8} {k : Nat} (h : k < l.length) : plc l (k + 1) = plS (plc l k) l[k] := by
  unfold plc
  rw [List.take_succ_eq_append_getElem h, List.foldl_append]
  rfl
theorem plc_over {l : List UInt8} {k : Nat} (h : l.length ≤ k) : plc l k = plc l l.length := by
  unfold plc
  rw [List.take_of_length_le h, List.take_length]
theorem plc_bounds (l : List UInt8) (k : Nat) (h : k ≤ l.length) : (plc l k).1 ≤ k + 1 ∧ 1 ≤ (plc l k).1 ∧ (plc l k).2 ≤ k + 1 ∧ 1 ≤ (plc l k).2 := by
  induction k with
  | zero => rw [plc_zero]; decide
  | succ k ih =>
    have := ih (by omega)
    rw [plc_succ (by omega)]
    unfold plS
    split <;> (simp only; omega)
/-- One place comes ahead of another. -/
def ltP (p q : Nat × Nat) : Prop := p.1 < q.1 ∨ (p.1 = q.1 ∧ p.2 < q.2)
theorem ltP_trans {p q r : Nat × Nat} (h : ltP p q) (k : ltP q r) : ltP p r := by unfold ltP at *; omega
theorem ltP_ne {p q : Nat × Nat} (h : ltP p q) : p ≠ q := by
  rintro rfl
  unfold ltP at h
  omega
theorem plS_lt (p : Nat × Nat) (c : UInt8) : ltP p (plS p c) := by
  unfold ltP plS
  split
  · exact .inl (Nat.lt_succ_self _)
  · exact .inr ⟨rfl, Nat.lt_succ_self _⟩
theorem plc_lt {l : List UInt8} {j k : Nat} (h : j < k) (hk : k ≤ l.length) : ltP (plc l j) (plc l k) := by
  induction k with
  | zero => omega
  | succ k ih =>
    rw [plc_succ (by omega)]
    rcases Nat.lt_or_ge j k with h' | h'
    · exact ltP_trans (ih h' (by omega)) (plS_lt _ _)
    · obtain rfl : j = k := by omega
      exact plS_lt _ _
theorem plc_inj {l : List UInt8} {j k : Nat} (hj : j ≤ l.length) (hk : k ≤ l.length) (h : plc l j = plc l k) : j = k := by
  rcases Nat.lt_trichotomy j k with h' | h' | h'
  · exact absurd h (ltP_ne (plc_lt h' hk))
  · exact h'
  · exact absurd h.symm (ltP_ne (plc_lt h' hj))
/-- A byte of a word. -/
def ltr (c : UInt8) : Bool := decide (97 ≤ c.toNat ∧ c.toNat ≤ 122) || decide (48 ≤ c.toNat ∧ c.toNat ≤ 57) || decide (c.toNat = 46) || decide (c.toNat = 58) || decide (c.toNat = 47) || decide (c.toNat = 45) || decide (c.toNat = 95)
def blk (c : UInt8) : Bool := decide (c.toNat = 32) || decide (c.toNat = 9) || decide (c.toNat = 13) || decide (c.toNat = 10)
def mrk (c : UInt8) : Bool := decide (c.toNat = 123) || decide (c.toNat = 125) || decide (c.toNat = 59)
/-- A byte within a text. -/
def txc (c : UInt8) : Bool := decide (32 ≤ c.toNat) && (decide (c.toNat ≤ 126) && decide (c.toNat ≠ 34))
/-- A byte by which a text in quotes goes on. -/
def inq (c : UInt8) : Bool := decide (c.toNat ≠ 34) && decide (c.toNat ≠ 10)
def rmk (c : UInt8) : Bool := decide (c.toNat ≠ 10)
/-- What comes next: a fault so many bytes on; or so many bytes, of what kind they are (2 for blanks, too), and a token. -/
inductive Stp where
  | fault (n : Nat) (e : Int)
  | go (n : Nat) (a : Nat) (t : Option (Nat × List UInt8))
/-- What stands behind a quote. -/
def quo (r : List UInt8) : Stp :=
  match r.drop (r.takeWhile inq).length with
  | [] => .fault 0 3
  | d :: _ => if d.toNat ≠ 34 then .fault 0 3 else if 64 < (r.takeWhile inq).length then .fault 0 2 else if ((r.takeWhile inq).takeWhile txc).length < (r.takeWhile inq).length then .fault (1 + ((r.takeWhile inq).takeWhile txc).length) 4 else .go ((r.takeWhile inq).length + 2) 1 (some (1, r.takeWhile inq))
def wrd (l : List UInt8) : Stp := if 32 < (l.takeWhile ltr).length then .fault 0 2 else .go (l.takeWhile ltr).length 0 (some (0, l.takeWhile ltr))
/-- The token that bytes begin with, right behind something of a kind. -/
def bgn : List UInt8 → Nat → Stp
  | [], _ => .fault 0 4
  | c :: r, a => if mrk c = true then .go 1 2 (some (2, [c])) else if c.toNat = 34 ∧ a ≠ 0 then quo r else if ltr c = true ∧ a ≠ 1 then wrd (c :: r) else .fault 0 4
def stp : List UInt8 → Nat → Stp
  | [], a => .go 0 a none
  | c :: r, a => if blk c = true then .go 1 2 none else if c.toNat = 35 then .go ((c :: r).takeWhile rmk).length 2 none else bgn (c :: r) a
structure Tok where
  kind : Nat
  s : List UInt8
  at_ : Nat
def tokOf (b : Nat) : Option (Nat × List UInt8) → List Tok
  | none => []
  | some (k, s) => [⟨k, s, b⟩]
/-- What bytes from a place on are scanned as. -/
inductive Sc : Nat → List UInt8 → Nat → List Tok → Option (Nat × Int) → Prop
  | nil (b : Nat) (f : Nat) : Sc b [] f [] none
  | bad {b : Nat} {r : List UInt8} {f : Nat} {n : Nat} {e : Int} : r ≠ [] → stp r f = .fault n e → Sc b r f [] (some (b + n, e))
  | more {b : Nat} {r : List UInt8} {f f' : Nat} {n : Nat} {t : Option (Nat × List UInt8)} {ts : List Tok} {o : Option (Nat × Int)} : r ≠ [] → stp r f = .go n f' t → Sc (b + n) (r.drop n) f' ts o → Sc b r f (tokOf b t ++ ts) o
theorem Sc.det {b : Nat} {r : List UInt8} {f : Nat} {ts ts' : List Tok} {o o' : Option (Nat × Int)} (h : Sc b r f ts o) (h' : Sc b r f ts' o') : ts = ts' ∧ o = o' := by
  induction h generalizing ts' o' with
  | nil b f =>
    cases h' with
    | nil => exact ⟨rfl, rfl⟩
    | bad h _ => exact absurd rfl h
    | more h _ _ => exact absurd rfl h
  | bad hr hs =>
    cases h' with
    | nil => exact absurd rfl hr
    | bad _ hs' => rw [hs] at hs'; cases hs'; exact ⟨rfl, rfl⟩
    | more _ hs' _ => rw [hs] at hs'; cases hs'
  | more hr hs _ ih =>
    cases h' with
    | nil => exact absurd rfl hr
    | bad _ hs' => rw [hs] at hs'; cases hs'
    | more _ hs' hm =>
      rw [hs] at hs'
      cases hs'
      obtain ⟨rfl, rfl⟩ := ih hm
      exact ⟨rfl, rfl⟩
theorem takeWhile_cons_len {p : UInt8 → Bool} {c : UInt8} {r : List UInt8} (h : p c = true) : 1 ≤ ((c :: r).takeWhile p).length := by rw [List.takeWhile_cons_of_pos h]; simp
theorem takeWhile_le (p : UInt8 → Bool) (r : List UInt8) : (r.takeWhile p).length ≤ r.length := (List.takeWhile_prefix p).length_le
theorem mem_takeWhile {p : UInt8 → Bool} {l : List UInt8} : ∀ c ∈ l.takeWhile p, p c = true := by
  induction l with
  | nil => intro c h; simp at h
  | cons a l ih =>
    intro c h
    rw [List.takeWhile_cons] at h
    split at h
    · rcases List.mem_cons.1 h with rfl | h
      · assumption
      · exact ih c h
    · simp at h
/-- What a text in quotes tells. -/
theorem quo_go {r : List UInt8} {n f' : Nat} {t : Option (Nat × List UInt8)} (h : quo r = .go n f' t) : ∃ s q, r = s ++ 34 :: q ∧ (∀ c ∈ s, txc c = true) ∧ s.length ≤ 64 ∧ n = s.length + 2 ∧ f' = 1 ∧ t = some (1, s) ∧ s = r.takeWhile inq := by
  unfold quo at h
  split at h
  · cases h
  · rename_i d tl hd
    split at h
    · cases h
    · rename_i h34
      split at h
      · cases h
      · rename_i h64
        split at h
        · cases h
        · rename_i hall
          cases h
          have ed : d = 34 := UInt8.toNat_inj.1 (by simpa using h34)
          refine ⟨r.takeWhile inq, tl, ?_, ?_, by omega, rfl, rfl, rfl, rfl⟩
          · have h := List.take_append_drop (r.takeWhile inq).length r
            rw [← List.prefix_iff_eq_take.1 (List.takeWhile_prefix inq), hd, ed] at h
            exact h.symm
          · have he : (r.takeWhile inq).takeWhile txc = r.takeWhile inq := (List.takeWhile_prefix txc).eq_of_length_le (by omega)
            intro c hc
            rw [← he] at hc
            exact mem_takeWhile c hc
/-- Something is gone on by. -/
theorem stp_pos {r : List UInt8} {f f' : Nat} {n : Nat} {t : Option (Nat × List UInt8)} (hr : r ≠ []) (h : stp r f = .go n f' t) : 1 ≤ n ∧ n ≤ r.length := by
  cases r with
  | nil => exact absurd rfl hr
  | cons c r =>
    have hc1 : (c :: r).length = r.length + 1 := rfl
    simp only [stp, bgn] at h
    split at h
    · cases h; omega
    · split at h
      · rename_i hb h35
        cases h
        exact ⟨takeWhile_cons_len (by unfold rmk; rw [decide_eq_true_eq, h35]; decide), takeWhile_le _ _⟩
      · split at h
        · cases h; omega
        · split at h
          · obtain ⟨s, q, rfl, _, _, rfl, _⟩ := quo_go h
            simp only [List.length_cons, List.length_append]
            omega
          · split at h
            · rename_i hl
              unfold wrd at h
              split at h
              · cases h
              · cases h
                exact ⟨takeWhile_cons_len hl.1, takeWhile_le _ _⟩
            · cases h
end Go.Proofs.Ytdkfamlnmjhcfaa
