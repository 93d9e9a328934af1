/- Worlds; places in a text; what a text is scanned as. -/
import Derived.Test.YtpmmhmgojjlniaaGreatDoorQ02
import Derived.Test.YtpmmhmgojjlniaaGreatDoorQ03
import Derived.Test.YtpmmhmgojjlniaaGreatDoorQ14
import Derived.Test.YtpmmhmgojjlniaaGreatDoorProg
import Derived.WalkKit
import Derived.WalkSpells
import Derived.WalkLawsBesides
import Derived.Deep.QuietTactic
import Derived.BigQuiet
import Derived.Lib.QuietBelow
import Derived.Deep.Cut
import Derived.Lib.Builder
import Derived.RegionTactic
import Derived.Laws.StructEq
import Derived.Sort.Grow
import Derived.Deep.RegionHeldLaw
import Derived.Lib.AppendStr
import Derived.Lib.UnsafeStr
import Derived.Laws.Externs
import Derived.Laws.IdiomCopy
namespace Go.Proofs.YtpmmhmgojjlniaaGreatDoor.Lx
open Go.RowKit Go.Sort
theorem hide {p : Prop} (h : p) : Hid p := h
theorem heap_lt {w : World} {b : Nat} {o : Obj} (h : w.heap[b]? = some o) : b < w.heap.size := by
  rcases Nat.lt_or_ge b w.heap.size with h' | h'
  · exact h'
  · simp [Array.getElem?_eq_none h'] at h
theorem row_below {w w' : World} {B e size n : Nat} {v : Value} {xs : List Value} (h : w.ownsRow B e size v n xs) (hb : Below w.heap.size w w') : w'.ownsRow B e size v n xs := by
  obtain ⟨h1, h2⟩ := h
  refine ⟨h1, ?_⟩
  rcases h2 with h2 | ⟨g, cap, cur, hv, hB, hg, r⟩
  · exact .inl h2
  · exact .inr ⟨g, cap, cur, hv, hB, (hb.block g (heap_lt hg)).trans hg, r⟩
theorem ret_bool {a b : Bool} (h : a = b) : Ending.returned (.bool a) = .returned (.bool b) := by rw [h]
theorem bthen {w W w1 : World} (h : Below w.heap.size w W) (hb : Below W.heap.size W w1) : Below w.heap.size w w1 := h.trans (hb.mono h.size)
theorem balloc {w W : World} (h : Below w.heap.size w W) (o : Obj) : Below w.heap.size w (W.alloc o) := h.alloc h.size o
theorem brefl (w : World) : Below w.heap.size w w := Below.refl _ _
theorem bset {w W : World} (h : Below w.heap.size w W) {p : Addr} (hp : w.heap.size ≤ p.block) (u : Value) : Below w.heap.size w (W.setCell p u) := h.setCell hp u
theorem heap_new (w : World) (x : Array Value) (t : TypeId) : (w.alloc (.cells x t)).heap[w.heap.size]? = some (.cells x t (0, 0)) := heap_alloc_new w _
theorem row_slice {w : World} {B e s n : Nat} {v : Value} {xs : List Value} (h : w.ownsRow B e s v n xs) : ∃ o c, v = .slice o n c := by
  rcases h.2 with ⟨hv, h0⟩ | ⟨g, cap, cur, hv, _⟩
  · exact ⟨none, 0, by rw [hv, h0]⟩
  · exact ⟨_, _, hv⟩

/-- The bytes of a text. -/
abbrev lst (s : ByteArray) : List UInt8 := s.data.toList
/-- A place one byte on. -/
def plS (p : Nat × Nat) (c : UInt8) : Nat × Nat := if c = 10 then (p.1 + 1, 1) else (p.1, p.2 + 1)
/-- The place of a byte. -/
def plc (l : List UInt8) (k : Nat) : Nat × Nat := (l.take k).foldl plS (1, 1)
/-- A byte of a word. -/
def ltr (c : UInt8) : Bool := decide (97 ≤ c.toNat ∧ c.toNat ≤ 122) || decide (48 ≤ c.toNat ∧ c.toNat ≤ 57) || decide (c.toNat = 46) || decide (c.toNat = 58) || decide (c.toNat = 47) || decide (c.toNat = 45) || decide (c.toNat = 95)
def blk (c : UInt8) : Bool := decide (c.toNat = 32) || decide (c.toNat = 9) || decide (c.toNat = 13) || decide (c.toNat = 10)
def mrk (c : UInt8) : Bool := decide (c.toNat = 123) || decide (c.toNat = 125) || decide (c.toNat = 59)
/-- A byte within a text. -/
def txc (c : UInt8) : Bool := decide (32 ≤ c.toNat) && (decide (c.toNat ≤ 126) && decide (c.toNat ≠ 34))
/-- A byte by which a text in quotes goes on. -/
def inq (c : UInt8) : Bool := decide (c.toNat ≠ 34) && decide (c.toNat ≠ 10)
def rmk (c : UInt8) : Bool := decide (c.toNat ≠ 10)
/-- What comes next: a fault so many bytes on; or so many bytes, of what kind they are (2 for blanks, too), and a token. -/
inductive Stp where
  | fault (n : Nat) (e : Int)
  | go (n : Nat) (a : Nat) (t : Option (Nat × List UInt8))
/-- What stands behind a quote. -/
def quo (r : List UInt8) : Stp :=
  match r.drop (r.takeWhile inq).length with
  | [] => .fault 0 3
  | d :: _ => if d.toNat ≠ 34 then .fault 0 3 else if 64 < (r.takeWhile inq).length then .fault 0 2 else if ((r.takeWhile inq).takeWhile txc).length < (r.takeWhile inq).length then .fault (1 + ((r.takeWhile inq).takeWhile txc).length) 4 else .go ((r.takeWhile inq).length + 2) 1 (some (1, r.takeWhile inq))
def wrd (l : List UInt8) : Stp := if 32 < (l.takeWhile ltr).length then .fault 0 2 else .go (l.takeWhile ltr).length 0 (some (0, l.takeWhile ltr))
/-- The token that bytes begin with, right behind something of a kind. -/
def bgn : List UInt8 → Nat → Stp
  | [], _ => .fault 0 4
  | c :: r, a => if mrk c = true then .go 1 2 (some (2, [c])) else if c.toNat = 34 ∧ a ≠ 0 then quo r else if ltr c = true ∧ a ≠ 1 then wrd (c :: r) else .fault 0 4
def stp : List UInt8 → Nat → Stp
  | [], a => .go 0 a none
  | c :: r, a => if blk c = true then .go 1 2 none else if c.toNat = 35 then .go ((c :: r).takeWhile rmk).length 2 none else bgn (c :: r) a
structure Tok where
  kind : Nat
  s : List UInt8
  at_ : Nat
def tokOf (b : Nat) : Option (Nat × List UInt8) → List Tok
  | none => []
  | some (k, s) => [⟨k, s, b⟩]
/-- What bytes from a place on are scanned as. -/
inductive Sc : Nat → List UInt8 → Nat → List Tok → Option (Nat × Int) → Prop
  | nil (b : Nat) (f : Nat) : Sc b [] f [] none
  | bad {b : Nat} {r : List UInt8} {f : Nat} {n : Nat} {e : Int} : r ≠ [] → stp r f = .fault n e → Sc b r f [] (some (b + n, e))
  | more {b : Nat} {r : List UInt8} {f f' : Nat} {n : Nat} {t : Option (Nat × List UInt8)} {ts : List Tok} {o : Option (Nat × Int)} : r ≠ [] → stp r f = .go n f' t → Sc (b + n) (r.drop n) f' ts o → Sc b r f (tokOf b t ++ ts) o
end Go.Proofs.YtpmmhmgojjlniaaGreatDoor.Lx
namespace Go.Proofs.YtpmmhmgojjlniaaGreatDoor.Lx
open Go.RowKit Go.Sort
theorem set1 {w : World} {b t : Nat} {x0 x1 : Value} (h : w.heap[b]? = some (.cells #[x0, x1] t (0, 0))) (v : Value) : (w.setCell ⟨b, 1, none⟩ v).heap[b]? = some (.cells #[x0, v] t (0, 0)) := heap_setCell_same w b 1 _ t v h
end Go.Proofs.YtpmmhmgojjlniaaGreatDoor.Lx
namespace Go.Proofs.YtpmmhmgojjlniaaGreatDoor.Lx
open Go.RowKit Go.Sort
/-- How many bytes of a kind stand from a place on. -/
def tw (p : UInt8 → Bool) (l : List UInt8) (i : Nat) : Nat := ((l.drop i).takeWhile p).length
end Go.Proofs.YtpmmhmgojjlniaaGreatDoor.Lx
namespace Go.Proofs.YtpmmhmgojjlniaaGreatDoor.Lx
open Go.RowKit Go.Sort
/-- What a scan tells. -/
def Is (s : ByteArray) (ts : List Tok) (p q c : Int) : Prop :=
  (8192 < s.size ∧ ts = [] ∧ p = 1 ∧ q = 1 ∧ c = 2) ∨ (s.size ≤ 8192 ∧ ∃ ts' o, Sc 0 (lst s) 2 ts' o ∧ ((o = none ∧ ts = ts' ∧ p = 0 ∧ q = 0 ∧ c = 0) ∨ ∃ b e, o = some (b, e) ∧ ts = [] ∧ p = ((plc (lst s) b).1 : Nat) ∧ q = ((plc (lst s) b).2 : Nat) ∧ c = e))
end Go.Proofs.YtpmmhmgojjlniaaGreatDoor.Lx
namespace Go.Proofs.YtpmmhmgojjlniaaGreatDoor.Lx
open Go.RowKit Go.Sort
/-- A token as it lies there. -/
structure Tv where
  k : Int
  s : ByteArray
  p : Int
  q : Int
end Go.Proofs.YtpmmhmgojjlniaaGreatDoor.Lx
namespace Go.Proofs.YtpmmhmgojjlniaaGreatDoor.Lx
open Go.RowKit Go.Sort
/-- A token as it stands in a text. -/
def wr (k : Nat) (s : List UInt8) : List UInt8 := if k = 1 then [34] ++ s ++ [34] else s
end Go.Proofs.YtpmmhmgojjlniaaGreatDoor.Lx
namespace Go.Proofs.YtpmmhmgojjlniaaGreatDoor
open Go.RowKit Go.Sort
theorem infoBuilder : (Tryz.prog.info? 74).map (·.size) = some 2 := by kernel_rfl
theorem liesWriter : liesAt Tryz.prog Tryz.prog.depth 76 (3 / Tryz.prog.cellsOf 76) 0 74 1 = true := by kernel_rfl
/-- A writer in a block of its own, with the bytes that it has written and its depth. -/
def WrAt (B b : Nat) (p : Value) (bs : List Value) (d : Int) (w : World) : Prop :=
  B ≤ b ∧ ∃ v, w.heap[b]? = some (.cells #[p, v, .int .i64 d] 76 (0, 0)) ∧ w.ownsRow B 5 1 v bs.length bs ∧ v.ownBlock ≠ some b
def IsWr (B b : Nat) (bs : List Value) (d : Int) (w : World) : Prop := WrAt B b (.pointer none) bs d w ∨ WrAt B b (.pointer (some ⟨b, 0, none⟩)) bs d w
theorem WrAt.cell0 {B b : Nat} {p : Value} {bs : List Value} {d : Int} {w : World} (h : WrAt B b p bs d w) : w.cell? ⟨b, 0, none⟩ = some p := by
  obtain ⟨_, v, hb, _⟩ := h
  simp [World.cell?, hb]
theorem WrAt.shape {B b : Nat} {p : Value} {bs : List Value} {d : Int} {w : World} (h : WrAt B b p bs d w) : w.shape? b = some (76, 3) := by
  obtain ⟨_, v, hb, _⟩ := h
  simp [World.shape?, hb]
theorem WrAt.frozen0 {B b : Nat} {p : Value} {bs : List Value} {d : Int} {w : World} (h : WrAt B b p bs d w) : w.frozen? ⟨b, 0, none⟩ = false := by
  obtain ⟨_, v, hb, _⟩ := h
  simp [World.frozen?, hb]
theorem WrAt.used {B b : Nat} {p : Value} {bs : List Value} {d : Int} {w : World} (h : WrAt B b p bs d w) (q : Value) : WrAt B b q bs d (w.setCell ⟨b, 0, none⟩ q) := by
  obtain ⟨hB, v, hb, hown, hne⟩ := h
  refine ⟨hB, v, ?_, ?_, hne⟩
  · simp [World.setCell, Array.getElem?_modify, hb]
  · refine hown.kept (row := some b) ⟨rfl, rfl, rfl, by simp [World.setCell], fun k _ hk => Below.heap_setCell _ _ _ _ (fun e => hk (by simp [e]))⟩ ?_
    exact Or.inr hne
/-- The depth is set. -/
theorem WrAt.deep {B b : Nat} {p : Value} {bs : List Value} {d : Int} {w : World} (h : WrAt B b p bs d w) (d' : Int) : WrAt B b p bs d' (w.setCell ⟨b, 2, none⟩ (.int .i64 d')) := by
  obtain ⟨hB, v, hb, hown, hne⟩ := h
  refine ⟨hB, v, ?_, ?_, hne⟩
  · simp [World.setCell, Array.getElem?_modify, hb]
  · refine hown.kept (row := some b) ⟨rfl, rfl, rfl, by simp [World.setCell], fun k _ hk => Below.heap_setCell _ _ _ _ (fun e => hk (by simp [e]))⟩ ?_
    exact Or.inr hne
theorem WrAt.put {B b : Nat} {p v v' : Value} {bs' : List Value} {d : Int} {w : World} (hB : B ≤ b) (hb : w.heap[b]? = some (.cells #[p, v, .int .i64 d] 76 (0, 0))) (hown : w.ownsRow B 5 1 v' bs'.length bs') :
    WrAt B b p bs' d (w.setCell ⟨b, 1, none⟩ v') := by
  have hne := Lib.ownBlock_ne hown hb (by decide)
  refine ⟨hB, v', ?_, ?_, hne⟩
  · simp [World.setCell, Array.getElem?_modify, hb]
  · exact hown.kept (row := some b) ⟨rfl, rfl, rfl, by simp [World.setCell], fun k _ hk => Below.heap_setCell _ _ _ _ (fun e => hk (by simp [e]))⟩ (Or.inr hne)
/-- Blocks of other types are kept. -/
def KeptB (b : Nat) (w w' : World) : Prop := ∀ (g : Nat) (cs : Array Value) (T : TypeId) (fr : Nat × Nat), w.heap[g]? = some (.cells cs T fr) → T ≠ 5 → g ≠ b → w'.heap[g]? = some (.cells cs T fr)
theorem KeptB.set {b : Nat} {w w' : World} (h : KeptB b w w') (o : Nat) (v : Value) : KeptB b w (w'.setCell ⟨b, o, none⟩ v) := fun g cs T fr hg hT hn => (Below.heap_setCell w' ⟨b, o, none⟩ v g hn).trans (h g cs T fr hg hT hn)
theorem KeptB.refl (b : Nat) (w : World) : KeptB b w w := fun _ _ _ _ h _ _ => h
theorem KeptB.trans {b : Nat} {w w1 w2 : World} (h : KeptB b w w1) (k : KeptB b w1 w2) : KeptB b w w2 := fun g cs T fr hg hT hn => k g cs T fr (h g cs T fr hg hT hn) hT hn
theorem KeptB.below {b : Nat} {w w1 w2 : World} (h : KeptB b w w1) (k : Below w1.heap.size w1 w2) : KeptB b w w2 := fun g cs T fr hg hT hn => (k.block g (heap_lt (h g cs T fr hg hT hn))).trans (h g cs T fr hg hT hn)
set_option maxHeartbeats 1000000 in
set_option maxRecDepth 100000 in
theorem copyCheck_used (b : Nat) (w : World) (h0 : w.cell? ⟨b, 0, none⟩ = some (.pointer (some ⟨b, 0, none⟩))) :
    Calls Tryz.prog 257 #[.pointer (some ⟨b, 0, none⟩)] w fun e w' => e = .returned (.tuple #[]) ∧ w' = w := by
  obtain ⟨j, hj, _⟩ := Option.map_eq_some_iff.1 infoBuilder
  go_enter Tryz.func257, Tryz.ntmps257
  go_wp2
  rw [Lib.run_neq_ptr_same w _ Tryz.underlying71 hj]
  go_wp2
  go_end0
  exact ⟨rfl, rfl⟩
set_option maxHeartbeats 1000000 in
set_option maxRecDepth 100000 in
theorem copyCheck_fresh (b : Nat) (w : World) (h0 : w.cell? ⟨b, 0, none⟩ = some (.pointer none)) (hsh : w.shape? b = some (76, 3)) (hfz : w.frozen? ⟨b, 0, none⟩ = false) :
    Calls Tryz.prog 257 #[.pointer (some ⟨b, 0, none⟩)] w fun e w' => e = .returned (.tuple #[]) ∧ w' = w.setCell ⟨b, 0, none⟩ (.pointer (some ⟨b, 0, none⟩)) := by
  obtain ⟨j, hj, hjs⟩ := Option.map_eq_some_iff.1 infoBuilder
  go_enter Tryz.func257, Tryz.ntmps257
  go_wp2
  rw [Lib.run_to_unsafe w ⟨b, 0, none⟩ Tryz.underlying71 Tryz.underlying325 hj (by rw [hjs]; decide) hsh (Nat.zero_lt_succ 2)]
  simp only [Result.andThen]
  rw [Oper.upon_value]
  go_wp2
  rw [run_callFunc_extern Tryz.func298 (by kernel_rfl) (by kernel_rfl) (by kernel_rfl) (e := Extern.AbiNoEscape.same) (by kernel_rfl)]
  rw [Lib.run_noEscape]
  simp only [Result.andThen]
  rw [Oper.upon_value]
  go_wp2
  rw [Lib.run_from_unsafe w ⟨b, 0, none⟩ Tryz.underlying325 Tryz.underlying71 hj hsh liesWriter]
  simp only [Result.andThen]
  rw [Oper.upon_value]
  go_wp2
  go_end0
  exact ⟨rfl, rfl⟩
theorem copyCheck_keep (B b : Nat) (bs : List Value) (d : Int) (w : World) (h : IsWr B b bs d w) :
    Calls Tryz.prog 257 #[.pointer (some ⟨b, 0, none⟩)] w fun e w' => e = .returned (.tuple #[]) ∧ WrAt B b (.pointer (some ⟨b, 0, none⟩)) bs d w' ∧ Below B w w' ∧ KeptB b w w' := by
  rcases h with h | h
  · refine (copyCheck_fresh b w h.cell0 h.shape h.frozen0).mono ?_
    rintro e w' ⟨rfl, rfl⟩
    exact ⟨rfl, h.used _, (Below.refl B w).setCell (p := ⟨b, 0, none⟩) h.1 _, (KeptB.refl b w).set 0 _⟩
  · refine (copyCheck_used b w h.cell0).mono ?_
    rintro e w' ⟨rfl, rfl⟩
    exact ⟨rfl, h, Below.refl B _, KeptB.refl b _⟩
end Go.Proofs.YtpmmhmgojjlniaaGreatDoor
namespace Go.Proofs.YtpmmhmgojjlniaaGreatDoor
open Go.RowKit Go.Sort
theorem infoByte : (Tryz.prog.info? 5).map (fun i => (i.zero, i.size, i.bytes)) = some (some (.int .u8 0), 1, 1) := by kernel_rfl
theorem IsWr.below {B b : Nat} {bs : List Value} {d : Int} {w w' : World} (h : IsWr B b bs d w) (hb : Below w.heap.size w w') : IsWr B b bs d w' := by
  have k : ∀ p, WrAt B b p bs d w → WrAt B b p bs d w' := by
    rintro p ⟨hB, v, hbk, hown, hne⟩
    exact ⟨hB, v, (hb.block b (heap_lt hbk)).trans hbk, Ar.row_below hown hb, hne⟩
  rcases h with h | h
  · exact .inl (k _ h)
  · exact .inr (k _ h)
theorem IsWr.depth {B b : Nat} {bs : List Value} {d : Int} {w : World} (h : IsWr B b bs d w) : w.cell? ⟨b, 2, none⟩ = some (.int .i64 d) ∧ w.frozen? ⟨b, 2, none⟩ = false ∧ b < w.heap.size ∧ B ≤ b := by
  rcases h with ⟨hB, v, hb, _⟩ | ⟨hB, v, hb, _⟩ <;> exact ⟨by simp [World.cell?, hb], by simp [World.frozen?, hb], heap_lt hb, hB⟩
theorem IsWr.deep {B b : Nat} {bs : List Value} {d : Int} {w : World} (h : IsWr B b bs d w) (d' : Int) : IsWr B b bs d' (w.setCell ⟨b, 2, none⟩ (.int .i64 d')) := h.imp (·.deep d') (·.deep d')
set_option maxHeartbeats 2000000 in
set_option maxRecDepth 100000 in
theorem writeByte_keep (B b : Nat) (bs : List Value) (d : Int) (c : Int) (w : World) (h : IsWr B b bs d w) (hlen : bs.length + 1 ≤ 140737488355328) (hBw : B ≤ w.heap.size) :
    Calls Tryz.prog 205 #[.pointer (some ⟨b, 0, none⟩), .int .u8 c] w fun e w' => e = .returned .nilIface ∧ IsWr B b (bs ++ [.int .u8 c]) d w' ∧ Below B w w' ∧ KeptB b w w' := by
  obtain ⟨i0, hi, hz0, hz1, hz2⟩ := info_parts infoByte
  go_enter Tryz.func205, Tryz.ntmps205
  go_wp2_with (go_at_call 257; refine (copyCheck_keep B b bs d _ h).mono ?_)
  rintro e w1 ⟨rfl, h1, hb1, hk1⟩
  obtain ⟨hB, v, hbk, hown, hne⟩ := h1
  have c0 : w1.cell? ⟨b, 0, none⟩ = some (.pointer (some ⟨b, 0, none⟩)) := by rw [Lib.cell_of_heap hbk]; rfl
  have c1 : w1.cell? ⟨b, 1, none⟩ = some v := by rw [Lib.cell_of_heap hbk]; rfl
  have hlt := heap_lt hbk
  have hBs : B ≤ w1.heap.size := Nat.le_trans hBw hb1.size
  go_wp2_with (at_builtin; refine wpList_append_own _ rfl _ _ 72 rfl B 5 i0 (.int .u8 0) 1 1 Tryz.underlying72 hi hz0 hz1 hz2 rfl (by decide) _ _ _ rfl (hown.alloc _) ⟨w1.heap.size, 0, none⟩ 1 1 [.int .u8 c] rfl rfl ?c1 ?c2 ?c3 ?c4 ?c5 ?_)
  case c1 =>
    intro j u hj
    match j, hj with
    | 0, hj => simp at hj; subst hj; simp [Addr.add]
  case c2 => intro u hu; simp at hu; subst hu; rfl
  case c3 => unfold maxLen; omega
  case c4 => omega
  case c5 => simp; omega
  intro v' w2 hown' hgrow _
  have hb2 : w2.heap[b]? = some (.cells #[.pointer (some ⟨b, 0, none⟩), v, .int .i64 d] 76 (0, 0)) := by
    rw [hgrow.block b (by simp; omega) (fun e => hne e.symm), Lib.alloc_old w1 _ b hlt]
    exact hbk
  have d0 : w2.cell? ⟨b, 0, none⟩ = some (.pointer (some ⟨b, 0, none⟩)) := by rw [Lib.cell_of_heap hb2]; rfl
  have d1 : w2.cell? ⟨b, 1, none⟩ = some v := by rw [Lib.cell_of_heap hb2]; rfl
  have f1 : w2.frozen? ⟨b, 1, none⟩ = false := Lib.frozen_of_heap hb2 1
  obtain ⟨g, cap, rfl⟩ : ∃ g cap, v' = .slice (some ⟨g, 0, none⟩) (bs.length + 1) cap := by
    rcases hown'.2 with ⟨_, h0⟩ | ⟨g, cap, cur, hv, _⟩
    · omega
    · exact ⟨g, cap, hv⟩
  go_wp2
  go_ret
  refine ⟨rfl, .inr ?_, ?_, ?_⟩
  · exact WrAt.put hB hb2 (bs' := bs ++ [.int .u8 c]) (by simpa using hown')
  · exact ((hb1.alloc hBs _).grown hgrow (by simp; omega) (fun k hk => (hown.lt k hk).1)).setCell (p := ⟨b, 1, none⟩) hB _
  · refine KeptB.set (fun g cs T fr hg hT hn => ?_) 1 _
    have hg1 := hk1 g cs T fr hg hT hn
    have hlt1 := heap_lt hg1
    rw [hgrow.block g (by simp; omega) (fun e => Lib.ownBlock_ne hown hg1 hT e.symm), Lib.alloc_old w1 _ g hlt1]
    exact hg1
set_option maxHeartbeats 2000000 in
set_option maxRecDepth 100000 in
theorem writeString_keep (B b : Nat) (bs : List Value) (d : Int) (s : ByteArray) (w : World) (h : IsWr B b bs d w) (hlen : bs.length + s.size ≤ 140737488355328) (hBw : B ≤ w.heap.size) :
    Calls Tryz.prog 204 #[.pointer (some ⟨b, 0, none⟩), .string s] w fun e w' => e = .returned (.tuple #[.int .i64 s.size, .nilIface]) ∧ IsWr B b (bs ++ Lib.strCells s) d w' ∧ Below B w w' ∧ KeptB b w w' := by
  obtain ⟨i0, hi, hz0, hz1, hz2⟩ := info_parts infoByte
  go_enter Tryz.func204, Tryz.ntmps204
  go_wp2_with (go_at_call 257; refine (copyCheck_keep B b bs d _ h).mono ?_)
  rintro e w1 ⟨rfl, h1, hb1, hk1⟩
  obtain ⟨hB, v, hbk, hown, hne⟩ := h1
  have c0 : w1.cell? ⟨b, 0, none⟩ = some (.pointer (some ⟨b, 0, none⟩)) := by rw [Lib.cell_of_heap hbk]; rfl
  have c1 : w1.cell? ⟨b, 1, none⟩ = some v := by rw [Lib.cell_of_heap hbk]; rfl
  have hlt := heap_lt hbk
  have hBs : B ≤ w1.heap.size := Nat.le_trans hBw hb1.size
  go_wp2_with (at_builtin; refine Lib.wpList_append_own_string _ rfl _ _ 72 9 rfl B 5 i0 Tryz.underlying72 Tryz.underlying9 hi hz0 hz1 hz2 _ _ _ rfl hown s rfl ?c3 ?c4 ?c5 ?_)
  case c3 => unfold maxLen; omega
  case c4 => omega
  case c5 => omega
  intro v' w2 hown' hgrow _
  have hb2 : w2.heap[b]? = some (.cells #[.pointer (some ⟨b, 0, none⟩), v, .int .i64 d] 76 (0, 0)) := by
    rw [hgrow.block b hlt (fun e => hne e.symm)]
    exact hbk
  have d0 : w2.cell? ⟨b, 0, none⟩ = some (.pointer (some ⟨b, 0, none⟩)) := by rw [Lib.cell_of_heap hb2]; rfl
  have d1 : w2.cell? ⟨b, 1, none⟩ = some v := by rw [Lib.cell_of_heap hb2]; rfl
  have f1 : w2.frozen? ⟨b, 1, none⟩ = false := Lib.frozen_of_heap hb2 1
  obtain ⟨ao, n', cap, rfl⟩ : ∃ ao n' cap, v' = .slice ao n' cap := by
    rcases hown'.2 with ⟨hv, _⟩ | ⟨g, cap, cur, hv, _⟩
    · exact ⟨_, _, _, hv⟩
    · exact ⟨_, _, _, hv⟩
  go_wp2
  go_ret2
  refine ⟨rfl, .inr ?_, ?_, ?_⟩
  · exact WrAt.put hB hb2 (bs' := bs ++ Lib.strCells s) (by simpa [Lib.strCells_length] using hown')
  · exact (hb1.grown hgrow hBs (fun k hk => (hown.lt k hk).1)).setCell (p := ⟨b, 1, none⟩) hB _
  · refine KeptB.set (fun g cs T fr hg hT hn => ?_) 1 _
    have hg1 := hk1 g cs T fr hg hT hn
    rw [hgrow.block g (heap_lt hg1) (fun e => Lib.ownBlock_ne hown hg1 hT e.symm)]
    exact hg1
set_option maxRecDepth 100000 in
theorem len_is (B b : Nat) (bs : List Value) (d : Int) (w : World) (h : IsWr B b bs d w) : Calls Tryz.prog 23 #[.pointer (some ⟨b, 0, none⟩)] w fun e w' => e = .returned (.int .i64 bs.length) ∧ w' = w := by
  obtain ⟨v, hb, hown⟩ : ∃ v, w.cell? ⟨b, 1, none⟩ = some v ∧ w.ownsRow B 5 1 v bs.length bs := by
    rcases h with ⟨_, v, hb, ho, _⟩ | ⟨_, v, hb, ho, _⟩ <;> exact ⟨v, by simp [World.cell?, hb], ho⟩
  obtain ⟨ao, cap, rfl⟩ : ∃ ao cap, v = .slice ao bs.length cap := by
    rcases hown.2 with ⟨hv, h0⟩ | ⟨g, cap, cur, hv, _⟩
    · exact ⟨_, _, by rw [h0]; exact hv⟩
    · exact ⟨_, _, hv⟩
  clear hown h
  go_enter Tryz.func23, Tryz.ntmps23
  go_wp2_with fail
  go_ret
  exact ⟨rfl, rfl⟩
end Go.Proofs.YtpmmhmgojjlniaaGreatDoor
namespace Go.Proofs.YtpmmhmgojjlniaaGreatDoor
open Go.RowKit Go.Sort
/-- A blank for each block that a line stands in. -/
def pad (d : Nat) : List UInt8 := List.replicate d 32
def lst (s : ByteArray) : List UInt8 := s.data.toList
/-- A line as it is written. -/
def lineB (d : Nat) (s : ByteArray) : List UInt8 := pad d ++ lst s ++ [10]
theorem cells_app (a b : List UInt8) : Lib.byteCells (a ++ b) = Lib.byteCells a ++ Lib.byteCells b := by simp [Lib.byteCells]
theorem cells_str (s : ByteArray) : Lib.strCells s = Lib.byteCells (lst s) := rfl
set_option maxHeartbeats 2000000 in
set_option maxRecDepth 100000 in
theorem line_is (B b : Nat) (l : List UInt8) (d : Nat) (s : ByteArray) (w : World) (h : IsWr B b (Lib.byteCells l) d w) (hz : l.length + d + s.size + 1 ≤ 1000000000) (hBw : B ≤ w.heap.size) :
    Calls Tryz.prog 198 #[.pointer (some ⟨b, 0, none⟩), .string s] w fun e w' => e = .returned (.tuple #[]) ∧ IsWr B b (Lib.byteCells (l ++ lineB d s)) d w' ∧ Below B w w' ∧ KeptB b w w' := by
  have H := hide h
  have hd0 := h.depth.1
  clear h
  go_enter Tryz.func198, Tryz.ntmps198
  go_wp2_with fail
  go_loopw [8] (fun v8 wr => ∃ k : Nat, v8 = .int .i64 k ∧ k ≤ d ∧ Hid (IsWr B b (Lib.byteCells (l ++ pad k)) d wr) ∧ Hid (Below B w wr) ∧ Hid (KeptB b w wr)) (fun v8 _ => d - (intOf v8).toNat)
  case atStart => exact ⟨0, rfl, Nat.zero_le _, by show IsWr _ _ _ _ _; rw [show pad 0 = [] from rfl, List.append_nil]; exact H.out, Below.refl B w, KeptB.refl b w⟩
  case round =>
    obtain ⟨k, rfl, hk, HW, HBR, HK⟩ := hrel
    have hBr : B ≤ wr.heap.size := Nat.le_trans hBw HBR.out.size
    by_cases hkd : k < d
    · have hkd' : (k : Int) < (d : Int) := by omega
      have C := hide (writeByte_keep B b _ d 32 wr HW.out (by rw [Lib.byteCells_length]; simp [pad]; omega) hBr)
      have HS : Hid (∀ W, IsWr B b (Lib.byteCells (l ++ pad k) ++ [.int .u8 32]) d W → IsWr B b (Lib.byteCells (l ++ pad (k + 1))) d W) := fun W hW => by
        rw [show pad (k + 1) = pad k ++ [32] from List.replicate_succ', ← List.append_assoc, cells_app]
        exact hW
      clear HW
      go_wp2_with fail
      refine C.out.mono ?_
      rintro e w2 ⟨rfl, h2, hb2, hk2⟩
      have W2 := hide (HS.out w2 h2)
      have B2 := hide (HBR.out.trans hb2)
      have K2 := hide (HK.out.trans hk2)
      clear h2 hb2 hk2 C HS
      go_wp2_with fail
      exact ⟨⟨k + 1, by go_num, by omega, W2, B2, K2⟩, by simp [intOf] <;> omega⟩
    · have hkd' : ¬ (k : Int) < (d : Int) := by omega
      obtain rfl : k = d := by omega
      have C := hide (writeString_keep B b _ k s wr HW.out (by rw [Lib.byteCells_length]; simp [pad]; omega) hBr)
      clear HW
      go_wp2_with fail
      refine C.out.mono ?_
      rintro e w2 ⟨rfl, h2, hb2, hk2⟩
      have C2 := hide (writeByte_keep B b _ k 10 w2 h2 (by rw [List.length_append, Lib.byteCells_length, Lib.strCells_length]; simp [pad]; omega) (Nat.le_trans hBr hb2.size))
      have B2 := hide (HBR.out.trans hb2)
      have K2 := hide (HK.out.trans hk2)
      clear h2 hb2 hk2 C
      go_wp2_with fail
      refine C2.out.mono ?_
      rintro e w3 ⟨rfl, h3, hb3, hk3⟩
      have W3 : Hid (IsWr B b (Lib.byteCells (l ++ lineB k s)) k w3) := by
        show IsWr _ _ _ _ _
        rw [show l ++ lineB k s = (l ++ pad k) ++ lst s ++ [10] by simp [lineB], cells_app, cells_app, ← cells_str]
        exact h3
      have B3 := hide (B2.out.trans hb3)
      have K3 := hide (K2.out.trans hk3)
      clear h3 hb3 hk3 C2
      go_wp2_with fail
      go_end0
      exact ⟨rfl, W3.out, B3.out, K3.out⟩
end Go.Proofs.YtpmmhmgojjlniaaGreatDoor
namespace Go.Proofs.YtpmmhmgojjlniaaGreatDoor
open Go.RowKit Go.Sort
theorem below_less {B n : Nat} {w w' : World} (h : Below n w w') (hB : B ≤ n) : Below B w w' := ⟨h.os, h.tape, h.output, h.size, fun k hk => h.block k (Nat.lt_of_lt_of_le hk hB)⟩
/-- Words with blanks between them. -/
def wordsT (xs : List ByteArray) : ByteArray := ⟨(Lib.join (xs.map (·.data.toList)) [32]).toArray⟩
def sayT (xs : List ByteArray) : ByteArray := wordsT xs ++ ⟨#[59]⟩
set_option maxHeartbeats 2000000 in
set_option maxRecDepth 100000 in
theorem say_is (B b : Nat) (l : List UInt8) (d : Nat) (xs : List ByteArray) (bk o c : Nat) (w : World) (h : IsWr B b (Lib.byteCells l) d w) (hcells : ∀ (j : Nat) x, xs[j]? = some x → w.cell? ⟨bk, o + j, none⟩ = some (.string x)) (hbk : bk < w.heap.size) (hN : xs.length ≤ 1000) (hcap : xs.length ≤ c) (hz : l.length + d + (sayT xs).size + 1 ≤ 1000000000) (hBw : B ≤ w.heap.size) :
    Calls Tryz.prog 131 #[.pointer (some ⟨b, 0, none⟩), .slice (some ⟨bk, o, none⟩) xs.length c] w fun e w' => e = .returned (.tuple #[]) ∧ IsWr B b (Lib.byteCells (l ++ lineB d (sayT xs))) d w' ∧ Below B w w' ∧ KeptB b w w' := by
  have hs : (sayT xs).size = (wordsT xs).size + 1 := by unfold sayT; rw [ByteArray.size_append]; rfl
  have hw : (Lib.join (xs.map (·.data.toList)) [32]).length = (wordsT xs).size := by unfold wordsT; simp [ByteArray.size]
  have CJ := hide (Tryz.strings_Join bk o c xs ⟨#[32]⟩ w hcells hbk (by omega) hcap (by show (Lib.join _ [32]).length ≤ _; omega))
  have HJ : Hid ((⟨(Lib.join (xs.map (·.data.toList)) (ByteArray.mk #[32]).data.toList).toArray⟩ : ByteArray) = wordsT xs) := rfl
  rw [HJ.out] at CJ
  have CL := hide (fun W hW => line_is B b l d (sayT xs) W hW hz)
  have H := hide h
  have hov : ¬ 9223372036854775807 < (wordsT xs).size + 1 := by omega
  have HT : Hid (sayT xs = wordsT xs ++ ⟨#[59]⟩) := rfl
  generalize wordsT xs = t at *
  generalize sayT xs = u at *
  obtain rfl := HT.out
  clear hcells h HJ hs hw HT
  go_enter Tryz.func131, Tryz.ntmps131
  go_wp2_with (refine CJ.out.mono ?_; rintro e w1 ⟨rfl, hb1⟩)
  have C2 := hide (CL.out w1 (H.out.below hb1) (Nat.le_trans hBw hb1.size))
  have B1 := hide (below_less hb1 hBw)
  have K1 := hide ((KeptB.refl b w).below hb1)
  clear hb1 CJ CL
  go_wp2_with (refine C2.out.mono ?_; rintro e w2 ⟨rfl, h2, hb2, hk2⟩)
  have B2 := hide (B1.out.trans hb2)
  have K2 := hide (K1.out.trans hk2)
  have W2 := hide h2
  clear h2 hb2 hk2
  go_end0
  exact ⟨rfl, W2.out, B2.out, K2.out⟩
/-- A function value that writes so much. -/
structure FnDoes (W0 : World) (f : Nat) (caps : Array Value) (B b d : Nat) (out : List UInt8) (N : Nat) : Prop where
  enter : ∀ (args : Array Value) (w : World), (callFunc f args).run Tryz.prog w = .ok (.enter f args) w
  ok : ∀ (W : World) (l : List UInt8), Below B W0 W → KeptB b W0 W → IsWr B b (Lib.byteCells l) d W → l.length + out.length + N ≤ 100000000 → Calls Tryz.prog f caps W fun e w' => e = .returned (.tuple #[]) ∧ IsWr B b (Lib.byteCells (l ++ out)) d w' ∧ Below B W w' ∧ KeptB b W w'
/-- A block as it is written. -/
def blockB (d : Nat) (head : ByteArray) (out : List UInt8) : List UInt8 := lineB d (head ++ ⟨#[32, 123]⟩) ++ out ++ lineB d ⟨#[125]⟩
theorem lineB_len (d : Nat) (s : ByteArray) : (lineB d s).length = d + s.size + 1 := by
  show (pad d ++ lst s ++ [10]).length = _
  rw [List.length_append, List.length_append]
  show (List.replicate d 32).length + s.data.toList.length + 1 = _
  rw [List.length_replicate]
  rfl
set_option maxHeartbeats 2000000 in
set_option maxRecDepth 100000 in
theorem block_is {f N : Nat} {caps : Array Value} (B b : Nat) (l : List UInt8) (d : Nat) (head : ByteArray) (out : List UInt8) (w : World) (hf : FnDoes w f caps B b (d + 1) out N) (h : IsWr B b (Lib.byteCells l) d w) (hd : d ≤ 10) (hh : head.size ≤ 500) (hz : l.length + out.length + N + 1000 ≤ 100000000) (hBw : B ≤ w.heap.size) :
    Calls Tryz.prog 129 #[.pointer (some ⟨b, 0, none⟩), .string head, .func (.func f) #[] caps] w fun e w' => e = .returned (.tuple #[]) ∧ IsWr B b (Lib.byteCells (l ++ blockB d head out)) d w' ∧ Below B w w' ∧ KeptB b w w' := by
  have hcf := hf.enter
  have HF := hide hf.ok
  have HB := hide (show blockB d head out = lineB d (head ++ ⟨#[32, 123]⟩) ++ out ++ lineB d ⟨#[125]⟩ from rfl)
  have hs : (head ++ (⟨#[32, 123]⟩ : ByteArray)).size = head.size + 2 := by rw [ByteArray.size_append]; rfl
  have C1 := hide (line_is B b l d (head ++ ⟨#[32, 123]⟩) w h (by omega) hBw)
  have hL := lineB_len d (head ++ ⟨#[32, 123]⟩)
  have hov : ¬ 9223372036854775807 < head.size + 2 := by omega
  generalize blockB d head out = BL at *
  generalize lineB d (head ++ ⟨#[32, 123]⟩) = L1 at *
  clear hf h
  go_enter Tryz.func129, Tryz.ntmps129
  go_wp2_with fail
  refine C1.out.mono ?_
  rintro e w1 ⟨rfl, h1, hb1, hk1⟩
  obtain ⟨c1, f1, hlt1, hBb⟩ := h1.depth
  have h2 := h1.deep ((d + 1 : Nat) : Int)
  have hb2 := hb1.setCell (p := ⟨b, 2, none⟩) hBb (.int .i64 ((d + 1 : Nat) : Int))
  have hk2 := hk1.set 2 (.int .i64 ((d + 1 : Nat) : Int))
  have hwr : IntKind.i64.wrap ((d : Int) + 1) = ((d + 1 : Nat) : Int) := by rw [IntKind.wrap_i64]; omega
  have C2 := hide (HF.out _ (l ++ L1) hb2 hk2 h2 (by rw [List.length_append]; omega))
  have B2 := hide hb2
  have K2 := hide hk2
  clear h1 hb1 hk1 h2 hb2 hk2 C1 HF
  go_wp2_with fail
  refine C2.out.mono ?_
  rintro e w2 ⟨rfl, h2, hb2, hk2⟩
  obtain ⟨c2, f2, hlt2, _⟩ := h2.depth
  have h3 := h2.deep (d : Int)
  have hb3 := (B2.out.trans hb2).setCell (p := ⟨b, 2, none⟩) hBb (.int .i64 (d : Int))
  have hk3 := (K2.out.trans hk2).set 2 (.int .i64 (d : Int))
  have hwr2 : IntKind.i64.wrap (((d + 1 : Nat) : Int) - 1) = (d : Int) := by rw [IntKind.wrap_i64]; omega
  have hwr3 : IntKind.i64.wrap ((d : Int) + 1 - 1) = (d : Int) := by rw [IntKind.wrap_i64]; omega
  have C3 := hide (line_is B b (l ++ L1 ++ out) d ⟨#[125]⟩ _ h3 (by rw [List.length_append, List.length_append]; show _ + _ + _ + d + 1 + 1 ≤ _; omega) (Nat.le_trans hBw hb3.size))
  have B3 := hide hb3
  have K3 := hide hk3
  clear h2 hb2 hk2 h3 hb3 hk3 C2 B2 K2 c1 f1 hlt1
  go_wp2_with fail
  refine C3.out.mono ?_
  rintro e w3 ⟨rfl, h4, hb4, hk4⟩
  have W4 : Hid (IsWr B b (Lib.byteCells (l ++ BL)) d w3) := by
    show IsWr _ _ _ _ _
    rw [HB.out, ← List.append_assoc, ← List.append_assoc]
    exact h4
  have B4 := hide (B3.out.trans hb4)
  have K4 := hide (K3.out.trans hk4)
  clear h4 hb4 hk4 C3
  go_wp2_with fail
  go_end0
  exact ⟨rfl, W4.out, B4.out, K4.out⟩
end Go.Proofs.YtpmmhmgojjlniaaGreatDoor
namespace Go.Proofs.YtpmmhmgojjlniaaGreatDoor
open Go.RowKit Go.Sort
theorem kept_alloc (b : Nat) (w : World) (o : Obj) : KeptB b w (w.alloc o) := fun g _ _ _ hg _ _ => (Lib.alloc_old w o g (heap_lt hg)).trans hg
/-- Words in a row that was just made. -/
theorem sayRow (xs : List ByteArray) (B b : Nat) (l : List UInt8) (d : Nat) (w : World) (h : IsWr B b (Lib.byteCells l) d w) (hN : xs.length ≤ 1000) (hz : l.length + d + (sayT xs).size + 1 ≤ 1000000000) (hBw : B ≤ w.heap.size) :
    Calls Tryz.prog 131 #[.pointer (some ⟨b, 0, none⟩), .slice (some ⟨w.heap.size, 0, none⟩) xs.length xs.length] (w.alloc (.cells (xs.map Value.string).toArray 9)) fun e w' => e = .returned (.tuple #[]) ∧ IsWr B b (Lib.byteCells (l ++ lineB d (sayT xs))) d w' ∧ Below B w w' ∧ KeptB b w w' := by
  have A := balloc (brefl w) (.cells (xs.map Value.string).toArray 9)
  have hz2 : (w.alloc (.cells (xs.map Value.string).toArray 9)).heap.size = w.heap.size + 1 := by simp
  refine (say_is B b l d xs w.heap.size 0 xs.length _ (h.below A) (fun j x hx => ?_) (by omega) hN (Nat.le_refl _) hz (by omega)).mono ?_
  · have := cell_of (heap_new w (xs.map Value.string).toArray 9) j (u := .string x) (by simp [hx])
    rw [Nat.zero_add]
    exact this
  · rintro e w' ⟨rfl, h1, h2, h3⟩
    exact ⟨rfl, h1, (below_less A hBw).trans h2, (kept_alloc b w _).trans h3⟩
theorem originName_is (n : Int) (w : World) : Calls Tryz.prog 253 #[.int .i64 n] w fun e w' => e = .returned (.string (if n = 0 then ⟨#[105, 103, 112]⟩ else if n = 1 then ⟨#[101, 103, 112]⟩ else ⟨#[110, 111, 110, 101]⟩)) ∧ w' = w := by
  by_cases h0 : n = 0
  · subst h0
    go_enter Tryz.func253, Tryz.ntmps253
    go_wp2_with fail
    go_ret
    exact ⟨rfl, rfl⟩
  · by_cases h1 : n = 1
    · subst h1
      go_enter Tryz.func253, Tryz.ntmps253
      go_wp2_with fail
      go_ret
      exact ⟨rfl, rfl⟩
    · rw [if_neg h0, if_neg h1]
      go_enter Tryz.func253, Tryz.ntmps253
      go_wp2_with fail
      go_ret
      exact ⟨rfl, rfl⟩
/-- A number as it is written. -/
def numT (n : Int) : ByteArray := ⟨(Lib.itoa n).toArray⟩
end Go.Proofs.YtpmmhmgojjlniaaGreatDoor
