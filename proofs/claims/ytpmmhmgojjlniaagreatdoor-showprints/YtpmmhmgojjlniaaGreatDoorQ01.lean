/- What is parsed, step by step: trees of steps; what they make of tokens. -/
import Derived.Test.YtpmmhmgojjlniaaGreatDoorProg
import Derived.WalkKit
import Derived.WalkSpells
import Derived.WalkLawsBesides
import Derived.Deep.QuietTactic
import Derived.BigQuiet
import Derived.Lib.QuietBelow
import Derived.Deep.Cut
import Derived.RegionTactic
import Derived.Laws.StructEq
import Derived.Sort.Grow
import Derived.Deep.RegionHeldLaw
import Derived.Deep.RegionHeld3
import Derived.Laws.BitsAllLaws
namespace Go.Proofs.YtpmmhmgojjlniaaGreatDoor
/-- A token as it lies there. -/
structure Tv where
  k : Int
  s : ByteArray
  p : Int
  q : Int
/-- Steps: an answer; a fault at the last token; a token is taken; the next one is looked at. -/
inductive Pg (α : Type) where
  | ret (a : α)
  | fail (e : Int)
  | next (k : Int → ByteArray → Pg α)
  | peek (k : Option (Int × ByteArray) → Pg α)
/-- Where a parser stands: tokens that are left, and the last one's place; or a fault. -/
inductive Sta where
  | good (r : List Tv) (l : Int × Int)
  | bad (p q e : Int)
end Go.Proofs.YtpmmhmgojjlniaaGreatDoor
namespace Go.Proofs.YtpmmhmgojjlniaaGreatDoor
structure Rg where
  ad : Int
  bits : Int
  ge : Int
  le : Int
  ok : Bool
structure Mt where
  list : ByteArray
  path : ByteArray
  ca : Int
  cn : Int
structure Se where
  pref : Int
  med : Int
  org : Int
  add : List (Int × Int)
  del : List (Int × Int)
  clr : Bool
  prep : List Int
structure Cl where
  n : Int
  ok : Bool
  m : Mt
  s : Se
structure Ls where
  name : ByteArray
  rules : List Rg
structure Mp where
  name : ByteArray
  cls : List Cl
structure Nb where
  name : ByteArray
  imp : ByteArray
  exp : ByteArray
  client : Bool
structure Lk where
  name : ByteArray
  cost : Int
structure Rt where
  name : ByteArray
  asn : Int
  id : Int
  nets : List (Int × Int)
  nbs : List Nb
  links : List Lk
structure Cf where
  lists : List Ls
  maps : List Mp
  routers : List Rt
abbrev bs (l : List UInt8) : ByteArray := ⟨l.toArray⟩
def wd (k : Int) (s : ByteArray) : ByteArray := if k = 0 then s else bs []
def isM (m : UInt8) (k : Int) (s : ByteArray) : Prop := k = 2 ∧ s = bs [m]
instance (m : UInt8) (k : Int) (s : ByteArray) : Decidable (isM m k s) := inferInstanceAs (Decidable (_ ∧ _))
section
variable (F : Fn)
def room (n most : Nat) : Pg Unit := if most ≤ n then .fail 2 else .ret ()
end
end Go.Proofs.YtpmmhmgojjlniaaGreatDoor
namespace Go.Proofs.YtpmmhmgojjlniaaGreatDoor
open Go.RowKit Go.Sort
theorem hide {p : Prop} (h : p) : Hid p := h
theorem heap_lt {w : World} {b : Nat} {o : Obj} (h : w.heap[b]? = some o) : b < w.heap.size := by
  rcases Nat.lt_or_ge b w.heap.size with h' | h'
  · exact h'
  · simp [Array.getElem?_eq_none h'] at h
theorem ret_bool {a b : Bool} (h : a = b) : Ending.returned (.bool a) = .returned (.bool b) := by rw [h]
theorem bthen {w W w1 : World} (h : Below w.heap.size w W) (hb : Below W.heap.size W w1) : Below w.heap.size w w1 := h.trans (hb.mono h.size)
theorem balloc {w W : World} (h : Below w.heap.size w W) (o : Obj) : Below w.heap.size w (W.alloc o) := h.alloc h.size o
theorem brefl (w : World) : Below w.heap.size w w := Below.refl _ _
theorem heap_new (w : World) (x : Array Value) (t : TypeId) : (w.alloc (.cells x t)).heap[w.heap.size]? = some (.cells x t (0, 0)) := heap_alloc_new w _
theorem size_alloc (w : World) (o : Obj) : (w.alloc o).heap.size = w.heap.size + 1 := by simp
theorem size_setCell (w : World) (a : Addr) (u : Value) : (w.setCell a u).heap.size = w.heap.size := by simp [World.setCell]
/-- Of what there was, all but the blocks of S is as it was. -/
structure But (S : Nat → Prop) (w w' : World) : Prop where
  os : w'.os = w.os
  tape : w'.tape = w.tape
  output : w'.output = w.output
  size : w.heap.size ≤ w'.heap.size
  block : ∀ k, ¬ S k → k < w.heap.size → w'.heap[k]? = w.heap[k]?
theorem But.refl (S : Nat → Prop) (w : World) : But S w w := ⟨rfl, rfl, rfl, Nat.le_refl _, fun _ _ _ => rfl⟩
theorem But.trans {S : Nat → Prop} {u v w : World} (h : But S u v) (k : But S v w) : But S u w :=
  ⟨k.os.trans h.os, k.tape.trans h.tape, k.output.trans h.output, Nat.le_trans h.size k.size, fun i hi hl => (k.block i hi (Nat.lt_of_lt_of_le hl h.size)).trans (h.block i hi hl)⟩
theorem But.of {S : Nat → Prop} {w w' : World} (h : Below w.heap.size w w') : But S w w' := ⟨h.os, h.tape, h.output, h.size, fun k _ hk => h.block k hk⟩
theorem But.below {S : Nat → Prop} {N : Nat} {w w' : World} (h : But S w w') (hN : ∀ k, S k → N ≤ k) (hS : N ≤ w.heap.size) : Below N w w' := ⟨h.os, h.tape, h.output, h.size, fun k hk => h.block k (fun e => by have := hN k e; omega) (by omega)⟩
theorem But.alloc {S : Nat → Prop} {w w' : World} (h : But S w w') (o : Obj) : But S w (w'.alloc o) := h.trans (But.of (balloc (brefl _) o))
theorem But.drew {S : Nat → Prop} {w w' : World} (h : But S w w') : But S w w'.drew := h.trans (But.of (Below.drew (brefl _)))
theorem But.setCell {S : Nat → Prop} {w w' : World} (h : But S w w') {p : Addr} (hp : S p.block ∨ w.heap.size ≤ p.block) (u : Value) : But S w (w'.setCell p u) :=
  ⟨h.os, h.tape, h.output, by rw [size_setCell]; exact h.size, fun k hk hl => by
    rw [Below.heap_setCell _ _ _ _ (by
      rintro rfl
      rcases hp with e | e
      · exact hk e
      · omega)]
    exact h.block k hk hl⟩
theorem But.grown {S : Nat → Prop} {u w w' : World} {row : Option Nat} (h : But S u w) (hg : w.grownBy w' row) (hr : ∀ k, row = some k → S k ∨ u.heap.size ≤ k) : But S u w' :=
  ⟨hg.os.trans h.os, hg.tape.trans h.tape, hg.output.trans h.output, Nat.le_trans h.size hg.size, fun k hk hl => (hg.block k (Nat.lt_of_lt_of_le hl h.size) (fun e => by
    rcases hr k e.symm with h1 | h1
    · exact hk h1
    · omega)).trans (h.block k hk hl)⟩
/-- A token taken. -/
def taken (en : Int × Int) : Sta → Tv × Sta
  | .good (t :: r) _ => (t, .good r (t.p, t.q))
  | .good [] _ => (⟨0, bs [], en.1, en.2⟩, .bad en.1 en.2 3)
  | .bad p q e => (⟨0, bs [], en.1, en.2⟩, .bad p q e)
end Go.Proofs.YtpmmhmgojjlniaaGreatDoor
namespace Go.Proofs.YtpmmhmgojjlniaaGreatDoor
open Go.RowKit Go.Sort
/-- Things that lie in a row, each in so many cells. -/
def Rd {α : Type} (w : World) (z : Nat) (R : World → α → List Value → Prop) (v : Value) (l : List α) : Prop :=
  ∃ ao c, v = .slice ao l.length c ∧ l.length ≤ c ∧ (l = [] ∨ ∃ b off, ao = some ⟨b, off, none⟩ ∧ ∀ j (h : j < l.length), ∃ xs, R w l[j] xs ∧ xs ≠ [] ∧ ∀ i u, xs[i]? = some u → w.cell? ⟨b, off + j * z + i, none⟩ = some u)
/-- What is kept by whatever leaves all old blocks. -/
def Mono {α : Type} (R : World → α → List Value → Prop) : Prop := ∀ w w' a x, Below w.heap.size w w' → R w a x → R w' a x
theorem Rd.below {α : Type} {w w' : World} {z : Nat} {R : World → α → List Value → Prop} {v : Value} {l : List α} (hR : Mono R) (h : Rd w z R v l) (hb : Below w.heap.size w w') : Rd w' z R v l := by
  obtain ⟨ao, c, hv, hc, h⟩ := h
  refine ⟨ao, c, hv, hc, ?_⟩
  rcases h with h | ⟨b, off, h, hr⟩
  · exact .inl h
  · refine .inr ⟨b, off, h, fun j hj => ?_⟩
    obtain ⟨xs, h1, h2, h3⟩ := hr j hj
    refine ⟨xs, hR _ _ _ _ hb h1, h2, fun i u hu => ?_⟩
    have k := h3 i u hu
    exact (hb.cell (p := ⟨b, off + j * z + i, none⟩) (World.block_lt_of_cell? w _ k)).trans k
theorem Rd.slice {α : Type} {w : World} {z : Nat} {R : World → α → List Value → Prop} {v : Value} {l : List α} (h : Rd w z R v l) : ∃ ao c, v = .slice ao l.length c := by
  obtain ⟨ao, c, hv, _⟩ := h
  exact ⟨ao, c, hv⟩
theorem Rd.cap {α : Type} {w : World} {z : Nat} {R : World → α → List Value → Prop} {ao : Option Addr} {n c : Nat} {l : List α} (h : Rd w z R (.slice ao n c) l) : l.length ≤ c := by
  obtain ⟨ao', c', hv, hc, _⟩ := h
  cases hv
  exact hc
theorem Rd.at_ {α : Type} {w : World} {z : Nat} {R : World → α → List Value → Prop} {ao : Option Addr} {n c : Nat} {l : List α} (h : Rd w z R (.slice ao n c) l) {j : Nat} (hj : j < l.length) : ∃ b off xs, ao = some ⟨b, off, none⟩ ∧ b < w.heap.size ∧ R w l[j] xs ∧ ∀ i u, xs[i]? = some u → w.cell? ⟨b, off + j * z + i, none⟩ = some u := by
  obtain ⟨ao', c', hv, _, h⟩ := h
  cases hv
  rcases h with h | ⟨b, off, h, hr⟩
  · rw [h] at hj; simp at hj
  · obtain ⟨xs, h1, h2, h3⟩ := hr j hj
    refine ⟨b, off, xs, h, ?_, h1, h3⟩
    cases xs with
    | nil => exact absurd rfl h2
    | cons x xs => exact World.block_lt_of_cell? w _ (h3 0 x rfl)
def RgR (_ : World) (r : Rg) (x : List Value) : Prop := x = [.int .u32 r.ad, .int .i64 r.bits, .int .i64 r.ge, .int .i64 r.le, .bool r.ok]
def PrR (_ : World) (p : Int × Int) (x : List Value) : Prop := x = [.int .i64 p.1, .int .i64 p.2]
def PxR (_ : World) (p : Int × Int) (x : List Value) : Prop := x = [.int .u32 p.1, .int .i64 p.2]
def InR (_ : World) (n : Int) (x : List Value) : Prop := x = [.int .i64 n]
def NbR (_ : World) (n : Nb) (x : List Value) : Prop := x = [.string n.name, .string n.imp, .string n.exp, .bool n.client]
def LkR (_ : World) (n : Lk) (x : List Value) : Prop := x = [.string n.name, .int .i64 n.cost]
def ClR (w : World) (c : Cl) (x : List Value) : Prop := ∃ va vd vp, x = [.int .i64 c.n, .bool c.ok, .string c.m.list, .string c.m.path, .int .i64 c.m.ca, .int .i64 c.m.cn, .int .i64 c.s.pref, .int .i64 c.s.med, .int .i64 c.s.org, va, vd, .bool c.s.clr, vp] ∧ Rd w 2 PrR va c.s.add ∧ Rd w 2 PrR vd c.s.del ∧ Rd w 1 InR vp c.s.prep
def LsR (w : World) (l : Ls) (x : List Value) : Prop := ∃ v, x = [.string l.name, v] ∧ Rd w 5 RgR v l.rules
def MpR (w : World) (m : Mp) (x : List Value) : Prop := ∃ v, x = [.string m.name, v] ∧ Rd w 13 ClR v m.cls
def RtR (w : World) (r : Rt) (x : List Value) : Prop := ∃ vn vb vl, x = [.string r.name, .int .i64 r.asn, .int .i64 r.id, vn, vb, vl] ∧ Rd w 2 PxR vn r.nets ∧ Rd w 4 NbR vb r.nbs ∧ Rd w 2 LkR vl r.links
def CfR (w : World) (c : Cf) (v1 v2 v3 : Value) : Prop := Rd w 2 LsR v1 c.lists ∧ Rd w 2 MpR v2 c.maps ∧ Rd w 6 RtR v3 c.routers
theorem RgR.mono : Mono RgR := fun _ _ _ _ _ h => h
theorem PrR.mono : Mono PrR := fun _ _ _ _ _ h => h
theorem PxR.mono : Mono PxR := fun _ _ _ _ _ h => h
theorem InR.mono : Mono InR := fun _ _ _ _ _ h => h
theorem NbR.mono : Mono NbR := fun _ _ _ _ _ h => h
theorem LkR.mono : Mono LkR := fun _ _ _ _ _ h => h
theorem ClR.mono : Mono ClR := fun _ _ _ _ hb ⟨va, vd, vp, h0, h1, h2, h3⟩ => ⟨va, vd, vp, h0, h1.below PrR.mono hb, h2.below PrR.mono hb, h3.below InR.mono hb⟩
theorem LsR.mono : Mono LsR := fun _ _ _ _ hb ⟨v, h0, h1⟩ => ⟨v, h0, h1.below RgR.mono hb⟩
theorem MpR.mono : Mono MpR := fun _ _ _ _ hb ⟨v, h0, h1⟩ => ⟨v, h0, h1.below ClR.mono hb⟩
theorem RtR.mono : Mono RtR := fun _ _ _ _ hb ⟨vn, vb, vl, h0, h1, h2, h3⟩ => ⟨vn, vb, vl, h0, h1.below PxR.mono hb, h2.below NbR.mono hb, h3.below LkR.mono hb⟩
theorem CfR.below {w w' : World} {c : Cf} {v1 v2 v3 : Value} (h : CfR w c v1 v2 v3) (hb : Below w.heap.size w w') : CfR w' c v1 v2 v3 := ⟨h.1.below LsR.mono hb, h.2.1.below MpR.mono hb, h.2.2.below RtR.mono hb⟩
end Go.Proofs.YtpmmhmgojjlniaaGreatDoor
namespace Go.Proofs.YtpmmhmgojjlniaaGreatDoor
open Go.RowKit Go.Sort
theorem cell_of {w : World} {b : Nat} {cs : Array Value} {t : TypeId} (h : w.heap[b]? = some (.cells cs t (0, 0))) (i : Nat) {u : Value} (hi : cs[i]? = some u) : w.cell? ⟨b, i, none⟩ = some u := by
  simp [World.cell?, h, hi]
/-- A clause as a value. -/
def clV (c : Cl) (va vd vp : Value) : Value := .agg #[.int .i64 c.n, .bool c.ok, .string c.m.list, .string c.m.path, .int .i64 c.m.ca, .int .i64 c.m.cn, .int .i64 c.s.pref, .int .i64 c.s.med, .int .i64 c.s.org, va, vd, .bool c.s.clr, vp]
end Go.Proofs.YtpmmhmgojjlniaaGreatDoor
namespace Go.Proofs.YtpmmhmgojjlniaaGreatDoor
open Go.RowKit Go.Sort
/-- A thing as a value. -/
def VR {α : Type} (z : Nat) (R : World → α → List Value → Prop) (w : World) (a : α) (v : Value) : Prop := ∃ xs, R w a xs ∧ xs.length = z ∧ v = (if z = 1 then xs.headD undef else .agg xs.toArray)
theorem VR.mono {α : Type} {z : Nat} {R : World → α → List Value → Prop} (hR : Mono R) {w w' : World} {a : α} {v : Value} (h : VR z R w a v) (hb : Below w.heap.size w w') : VR z R w' a v := by
  obtain ⟨xs, h1, h2⟩ := h
  exact ⟨xs, hR _ _ _ _ hb h1, h2⟩
/-- A function value that answers p of things. -/
structure FnIs {α : Type} (W0 : World) (f : Nat) (caps : Array Value) (z : Nat) (R : World → α → List Value → Prop) (G : α → Prop) (p : α → Bool) : Prop where
  enter : ∀ (args : Array Value) (w : World), (callFunc f args).run Tryz.prog w = .ok (.enter f args) w
  ok : ∀ (W : World) (a : α) (x : Value), Below W0.heap.size W0 W → VR z R W a x → G a → Calls Tryz.prog f (#[x] ++ caps) W fun e w' => e = .returned (.bool (p a)) ∧ Below W.heap.size W w'
theorem FnIs.from {α : Type} {W0 W1 : World} {f : Nat} {caps : Array Value} {z : Nat} {R : World → α → List Value → Prop} {G : α → Prop} {p : α → Bool} (h : FnIs W0 f caps z R G p) (hb : Below W0.heap.size W0 W1) : FnIs W1 f caps z R G p := ⟨h.enter, fun W a x hW hx hg => h.ok W a x (bthen hb hW) hx hg⟩
/-- The like for texts. -/
structure FnKey {α : Type} (W0 : World) (f : Nat) (caps : Array Value) (z : Nat) (R : World → α → List Value → Prop) (G : α → Prop) (k : α → ByteArray) : Prop where
  enter : ∀ (args : Array Value) (w : World), (callFunc f args).run Tryz.prog w = .ok (.enter f args) w
  ok : ∀ (W : World) (a : α) (x : Value), Below W0.heap.size W0 W → VR z R W a x → G a → Calls Tryz.prog f (#[x] ++ caps) W fun e w' => e = .returned (.string (k a)) ∧ Below W.heap.size W w'
theorem FnKey.from {α : Type} {W0 W1 : World} {f : Nat} {caps : Array Value} {z : Nat} {R : World → α → List Value → Prop} {G : α → Prop} {k : α → ByteArray} (h : FnKey W0 f caps z R G k) (hb : Below W0.heap.size W0 W1) : FnKey W1 f caps z R G k := ⟨h.enter, fun W a x hW hx hg => h.ok W a x (bthen hb hW) hx hg⟩
/-- A place tells whether there is one. -/
def AnyIs (i : Int) (b : Bool) : Prop := 0 ≤ i ↔ b = true
theorem any_take {α : Type} {p : α → Bool} {l : List α} {k : Nat} (h : k < l.length) : (l.take (k + 1)).any p = ((l.take k).any p || p l[k]) := by
  rw [List.take_succ_eq_append_getElem h, List.any_append]
  simp
theorem any_of_at {α : Type} {p : α → Bool} {l : List α} {k : Nat} (h : k < l.length) (hp : p l[k] = true) : l.any p = true := List.any_eq_true.2 ⟨l[k], List.getElem_mem h, hp⟩
theorem PxR.len {w : World} {c : Int × Int} {x : List Value} (h : PxR w c x) : x.length = 2 := by rw [h]; rfl
theorem PrR.len {w : World} {c : Int × Int} {x : List Value} (h : PrR w c x) : x.length = 2 := by rw [h]; rfl
theorem InR.len {w : World} {c : Int} {x : List Value} (h : InR w c x) : x.length = 1 := by rw [h]; rfl
theorem NbR.len {w : World} {c : Nb} {x : List Value} (h : NbR w c x) : x.length = 4 := by rw [h]; rfl
theorem LkR.len {w : World} {c : Lk} {x : List Value} (h : LkR w c x) : x.length = 2 := by rw [h]; rfl
theorem ClR.len {w : World} {c : Cl} {x : List Value} (h : ClR w c x) : x.length = 13 := by obtain ⟨va, vd, vp, rfl, _⟩ := h; rfl
theorem LsR.len {w : World} {c : Ls} {x : List Value} (h : LsR w c x) : x.length = 2 := by obtain ⟨v, rfl, _⟩ := h; rfl
theorem MpR.len {w : World} {c : Mp} {x : List Value} (h : MpR w c x) : x.length = 2 := by obtain ⟨v, rfl, _⟩ := h; rfl
theorem RtR.len {w : World} {c : Rt} {x : List Value} (h : RtR w c x) : x.length = 6 := by obtain ⟨a, b, c, rfl, _⟩ := h; rfl
theorem list1 {xs : List Value} (h : xs.length = 1) : ∃ x0, xs = [x0] := by
  match xs, h with
  | [x0], _ => exact ⟨x0, rfl⟩
theorem list2 {xs : List Value} (h : xs.length = 2) : ∃ x0 x1, xs = [x0, x1] := by
  match xs, h with
  | [x0, x1], _ => exact ⟨x0, x1, rfl⟩
theorem list4 {xs : List Value} (h : xs.length = 4) : ∃ x0 x1 x2 x3, xs = [x0, x1, x2, x3] := by
  match xs, h with
  | [x0, x1, x2, x3], _ => exact ⟨x0, x1, x2, x3, rfl⟩
theorem list6 {xs : List Value} (h : xs.length = 6) : ∃ x0 x1 x2 x3 x4 x5, xs = [x0, x1, x2, x3, x4, x5] := by
  match xs, h with
  | [x0, x1, x2, x3, x4, x5], _ => exact ⟨x0, x1, x2, x3, x4, x5, rfl⟩
theorem list13 {xs : List Value} (h : xs.length = 13) : ∃ x0 x1 x2 x3 x4 x5 x6 x7 x8 x9 x10 x11 x12, xs = [x0, x1, x2, x3, x4, x5, x6, x7, x8, x9, x10, x11, x12] := by
  match xs, h with
  | [x0, x1, x2, x3, x4, x5, x6, x7, x8, x9, x10, x11, x12], _ => exact ⟨x0, x1, x2, x3, x4, x5, x6, x7, x8, x9, x10, x11, x12, rfl⟩
end Go.Proofs.YtpmmhmgojjlniaaGreatDoor
namespace Go.Proofs.YtpmmhmgojjlniaaGreatDoor
open Go.RowKit Go.Sort
theorem beq_tl (a b : ByteArray) : (a.toList == b.toList) = decide (a = b) := by
  rw [Bool.eq_iff_iff, decide_eq_true_eq, beq_iff_eq, ByteArray.toList_eq, ByteArray.toList_eq]
  constructor
  · intro h
    exact ByteArray.ext (Array.ext' h)
  · rintro rfl
    rfl
end Go.Proofs.YtpmmhmgojjlniaaGreatDoor
namespace Go.Proofs.YtpmmhmgojjlniaaGreatDoor
open Go.RowKit Go.Sort
/-- No two of a few have one key. -/
def uniq {α κ : Type} [DecidableEq κ] (key : α → κ) : List α → Bool
  | [] => true
  | a :: l => !(l.any fun b => decide (key b = key a)) && uniq key l
/-- The like, as it is looked for from the front. -/
def uniqTo {α κ : Type} [DecidableEq κ] (key : α → κ) (l : List α) (k : Nat) : Prop := ∀ i (h : i < l.length), i < k → (l.take i).any (fun b => decide (key l[i] = key b)) = false
theorem uniq_iff {α κ : Type} [DecidableEq κ] (key : α → κ) (l : List α) : uniq key l = true ↔ (l.map key).Nodup := by
  induction l with
  | nil => simp [uniq]
  | cons a l ih =>
    simp only [uniq, Bool.and_eq_true, Bool.not_eq_true', List.map_cons, List.nodup_cons, ih]
    refine and_congr_left fun _ => ?_
    simp
theorem nodup_take {κ : Type} (l : List κ) : l.Nodup ↔ ∀ i (h : i < l.length), l[i] ∉ l.take i := by
  unfold List.Nodup
  rw [List.pairwise_iff_getElem]
  refine ⟨fun H i h hm => ?_, fun H i j hi hj hij e => ?_⟩
  · obtain ⟨j, hj, he⟩ := List.mem_iff_getElem.1 hm
    rw [List.length_take] at hj
    rw [List.getElem_take] at he
    exact H j i (by omega) h (by omega) he
  · refine H j hj (List.mem_iff_getElem.2 ⟨i, by rw [List.length_take]; omega, ?_⟩)
    rw [List.getElem_take]
    exact e
theorem uniq_all {α κ : Type} [DecidableEq κ] (key : α → κ) (l : List α) (h : uniqTo key l l.length) : uniq key l = true := by
  rw [uniq_iff, nodup_take]
  intro i hi
  rw [List.length_map] at hi
  have h1 := h i hi hi
  rw [List.getElem_map, ← List.map_take]
  intro hm
  obtain ⟨b, hb, he⟩ := List.mem_map.1 hm
  have : (l.take i).any (fun b => decide (key l[i] = key b)) = true := List.any_eq_true.2 ⟨b, hb, by simp [he]⟩
  rw [h1] at this
  cases this
theorem uniq_not {α κ : Type} [DecidableEq κ] (key : α → κ) (l : List α) (i : Nat) (hi : i < l.length) (h : (l.take i).any (fun b => decide (key l[i] = key b)) = true) : uniq key l = false := by
  rw [← Bool.not_eq_true, uniq_iff, nodup_take]
  intro H
  obtain ⟨b, hb, he⟩ := List.any_eq_true.1 h
  refine H i (by rw [List.length_map]; exact hi) ?_
  rw [List.getElem_map, ← List.map_take]
  exact List.mem_map.2 ⟨b, hb, by simpa using Eq.symm (of_decide_eq_true he)⟩
theorem grown_below2 {W0 wr : World} {n : Nat} (h : Below n W0 wr) (hn : n ≤ wr.heap.size) (d : Nat) (os : Array Obj) : Below n W0 (Sort.grow (redrawn wr d) os) := h.trans ⟨(below_regrown wr d os).os, (below_regrown wr d os).tape, (below_regrown wr d os).output, (below_regrown wr d os).size, fun k hk => (below_regrown wr d os).block k (Nat.lt_of_lt_of_le hk hn)⟩
theorem Rd.take {α : Type} {w : World} {z : Nat} {R : World → α → List Value → Prop} {ao : Option Addr} {n c : Nat} {l : List α} (h : Rd w z R (.slice ao n c) l) (k : Nat) (hk : k ≤ l.length) : Rd w z R (.slice ao k c) (l.take k) := by
  obtain ⟨ao', c', hv, hc, h⟩ := h
  cases hv
  refine ⟨ao, c, by rw [List.length_take, Nat.min_eq_left hk], by rw [List.length_take]; omega, ?_⟩
  rcases h with h | ⟨b, off, h, hr⟩
  · exact .inl (by rw [h]; simp)
  · refine .inr ⟨b, off, h, fun j hj => ?_⟩
    rw [List.length_take] at hj
    rw [List.getElem_take]
    exact hr j (by omega)
/-- A function value that tells a prefix of things. -/
structure FnPfx {α : Type} (W0 : World) (f : Nat) (caps : Array Value) (z : Nat) (R : World → α → List Value → Prop) (G : α → Prop) (k : α → Int × Int) : Prop where
  enter : ∀ (args : Array Value) (w : World), (callFunc f args).run Tryz.prog w = .ok (.enter f args) w
  ok : ∀ (W : World) (a : α) (x : Value), Below W0.heap.size W0 W → VR z R W a x → G a → Calls Tryz.prog f (#[x] ++ caps) W fun e w' => e = .returned (.agg #[.int .u32 (k a).1, .int .i64 (k a).2]) ∧ Below W.heap.size W w'
theorem FnPfx.from {α : Type} {W0 W1 : World} {f : Nat} {caps : Array Value} {z : Nat} {R : World → α → List Value → Prop} {G : α → Prop} {k : α → Int × Int} (h : FnPfx W0 f caps z R G k) (hb : Below W0.heap.size W0 W1) : FnPfx W1 f caps z R G k := ⟨h.enter, fun W a x hW hx hg => h.ok W a x (bthen hb hW) hx hg⟩
end Go.Proofs.YtpmmhmgojjlniaaGreatDoor
namespace Go.Proofs.YtpmmhmgojjlniaaGreatDoor
open Go.RowKit Go.Sort
/-- The last token is that one. -/
def At (t : Tv) : Sta → Prop
  | .good _ l => l = (t.p, t.q)
  | .bad _ _ _ => True
def okv {α : Type} (a : α) : Sta → Option α
  | .good _ _ => some a
  | .bad _ _ _ => none
end Go.Proofs.YtpmmhmgojjlniaaGreatDoor
namespace Go.Proofs.YtpmmhmgojjlniaaGreatDoor.Kn
open Go.RowKit Go.Sort
def ltrC (c : UInt8) : Bool := decide (97 ≤ (c.toNat : Int)) && decide ((c.toNat : Int) ≤ 122)
def dgtC (c : UInt8) : Bool := decide (48 ≤ (c.toNat : Int)) && decide ((c.toNat : Int) ≤ 57)
def inNm (c : UInt8) : Bool := ltrC c || dgtC c || decide ((c.toNat : Int) = 45) || decide ((c.toNat : Int) = 95)
theorem emptyS_iff (s : ByteArray) : s.toList.isEmpty = decide (s.size = 0) := by
  rw [ByteArray.toList_eq]
  obtain ⟨⟨l⟩⟩ := s
  cases l <;> simp [ByteArray.size]
theorem ltrC_is (c : UInt8) (w : World) : Calls Tryz.prog 209 #[.int .u8 (c.toNat : Int)] w fun e w' => e = .returned (.bool (ltrC c)) ∧ w' = w := by
  unfold ltrC
  by_cases h : 97 ≤ (c.toNat : Int)
  · go_enter Tryz.func209, Tryz.ntmps209
    go_wp2_with fail
    all_goals
      go_ret
      exact ⟨ret_bool (by simp [h]; try omega), rfl⟩
  · go_enter Tryz.func209, Tryz.ntmps209
    go_wp2_with fail
    all_goals
      go_ret
      exact ⟨ret_bool (by simp; try omega), rfl⟩
theorem dgtC_is (c : UInt8) (w : World) : Calls Tryz.prog 259 #[.int .u8 (c.toNat : Int)] w fun e w' => e = .returned (.bool (dgtC c)) ∧ w' = w := by
  unfold dgtC
  by_cases h : 48 ≤ (c.toNat : Int)
  · go_enter Tryz.func259, Tryz.ntmps259
    go_wp2_with fail
    all_goals
      go_ret
      exact ⟨ret_bool (by simp [h]; try omega), rfl⟩
  · go_enter Tryz.func259, Tryz.ntmps259
    go_wp2_with fail
    all_goals
      go_ret
      exact ⟨ret_bool (by simp; try omega), rfl⟩
set_option maxHeartbeats 1000000 in
set_option maxRecDepth 100000 in
theorem inNm_is (c : UInt8) (w : World) : Calls Tryz.prog 210 #[.int .u8 (c.toNat : Int)] w fun e w' => e = .returned (.bool (inNm c)) ∧ w' = w := by
  have CL := hide (ltrC_is c)
  have CD := hide (dgtC_is c)
  unfold inNm
  cases hl : ltrC c
  · cases hd : dgtC c
    · rw [hl] at CL
      rw [hd] at CD
      clear hl hd
      by_cases h1 : (c.toNat : Int) = 45
      · generalize (c.toNat : Int) = z at *
        subst h1
        go_enter Tryz.func210, Tryz.ntmps210
        go_wp2_with fail
        refine (CL.out _).mono ?_
        rintro e w1 ⟨rfl, rfl⟩
        go_wp2_with fail
        refine (CD.out _).mono ?_
        rintro e w2 ⟨rfl, rfl⟩
        go_wp2_with fail
        all_goals
          go_ret
          exact ⟨rfl, rfl⟩
      · have h1' := hide h1
        go_enter Tryz.func210, Tryz.ntmps210
        go_wp2_with fail
        refine (CL.out _).mono ?_
        rintro e w1 ⟨rfl, rfl⟩
        go_wp2_with fail
        refine (CD.out _).mono ?_
        rintro e w2 ⟨rfl, rfl⟩
        go_wp2_with fail
        all_goals
          go_ret
          exact ⟨ret_bool (by have := h1'.out; rw [Bool.eq_iff_iff]; simp; try omega), rfl⟩
    · rw [hl] at CL
      rw [hd] at CD
      clear hl hd
      go_enter Tryz.func210, Tryz.ntmps210
      go_wp2_with fail
      refine (CL.out _).mono ?_
      rintro e w1 ⟨rfl, rfl⟩
      go_wp2_with fail
      refine (CD.out _).mono ?_
      rintro e w2 ⟨rfl, rfl⟩
      go_wp2_with fail
      all_goals
        go_ret
        exact ⟨rfl, rfl⟩
  · rw [hl] at CL
    clear hl
    go_enter Tryz.func210, Tryz.ntmps210
    go_wp2_with fail
    refine (CL.out _).mono ?_
    rintro e w1 ⟨rfl, rfl⟩
    go_wp2_with fail
    all_goals
      go_ret
      exact ⟨rfl, rfl⟩
end Go.Proofs.YtpmmhmgojjlniaaGreatDoor.Kn
namespace Go.Proofs.YtpmmhmgojjlniaaGreatDoor.Kn
open Go.RowKit Go.Sort
theorem allB_bad {p : UInt8 → Bool} (s : ByteArray) (j : Nat) (h : j < s.size) (hp : p s[j] = false) : s.data.toList.all p = false := by
  rw [List.all_eq_false]
  refine ⟨s[j], ?_, by rw [hp]; decide⟩
  have : s.data.toList[j]'(by simpa using h) = s[j] := by simp [ByteArray.getElem_eq_getElem_data]
  rw [← this]
  exact List.getElem_mem _
theorem allB_ok {p : UInt8 → Bool} (s : ByteArray) (hp : ∀ j (h : j < s.size), p s[j] = true) : s.data.toList.all p = true := by
  rw [List.all_eq_true]
  intro c hc
  obtain ⟨j, hj, rfl⟩ := List.getElem_of_mem hc
  have hj' : j < s.size := by simpa using hj
  have : s.data.toList[j] = s[j] := by simp [ByteArray.getElem_eq_getElem_data]
  rw [this]
  exact hp j hj'
/-- The fault of a name. -/
def nmF (s : ByteArray) : Int := if h : 0 < s.size then (if ltrC s[0] = false then 4 else if s.data.toList.all inNm = false then 4 else if 12 < s.size then 2 else 0) else 4
set_option maxHeartbeats 2000000 in
set_option maxRecDepth 100000 in
theorem nameFault_is (s : ByteArray) (hs : s.size ≤ 1000) (w : World) : Calls Tryz.prog 141 #[.string s] w fun e w' => e = .returned (.int .i64 (nmF s)) ∧ Below w.heap.size w w' := by
  obtain ⟨R, hR⟩ : ∃ R, R = nmF s := ⟨_, rfl⟩
  rw [← hR]
  by_cases h0 : s.size = 0
  · obtain rfl : s = ⟨#[]⟩ := ByteArray.ext (Array.eq_empty_of_size_eq_zero h0)
    obtain rfl : R = 4 := hR
    go_enter Tryz.func141, Tryz.ntmps141
    go_wp2_with fail
    go_ret
    exact ⟨rfl, brefl w⟩
  · have he : s.toList.isEmpty = false := by rw [emptyS_iff]; exact decide_eq_false h0
    have hp : 0 < s.size := by omega
    have hp' : (0 : Int) < (s.size : Int) := by omega
    have CL := hide (ltrC_is s[0])
    unfold nmF at hR
    rw [dif_pos hp] at hR
    cases hl : ltrC s[0]
    · rw [hl, if_pos rfl] at hR
      subst hR
      rw [hl] at CL
      clear hl
      go_enter Tryz.func141, Tryz.ntmps141
      go_wp2_with fail
      refine (CL.out _).mono ?_
      rintro e w1 ⟨rfl, rfl⟩
      go_wp2_with fail
      go_ret
      exact ⟨rfl, brefl _⟩
    · rw [hl, if_neg (by decide)] at hR
      rw [hl] at CL
      clear hl
      have HBAD : Hid (∀ j (h : j < s.size), inNm s[j] = false → R = 4) := by
        intro j h hn
        rw [hR, if_pos (allB_bad s j h hn)]
      have HEND : Hid ((∀ j (h : j < s.size), inNm s[j] = true) → R = if 12 < s.size then 2 else 0) := by
        intro h
        rw [hR, if_neg (by rw [allB_ok s h]; decide)]
      clear hR
      go_enter Tryz.func141, Tryz.ntmps141
      go_wp2_with fail
      refine (CL.out _).mono ?_
      rintro e w1 ⟨rfl, rfl⟩
      go_wp2_with fail
      go_loopw [14] (fun v wr => ∃ k : Nat, v = .int .i64 k ∧ k ≤ s.size ∧ Hid (∀ j (h : j < s.size), j < k → inNm s[j] = true) ∧ Below w1.heap.size w1 wr) (fun v _ => s.size - (intOf v).toNat)
      case atStart => exact ⟨0, rfl, Nat.zero_le _, hide fun j _ hj => absurd hj (Nat.not_lt_zero _), brefl w1⟩
      case round =>
        obtain ⟨k, rfl, hk, HALL, hbr⟩ := hrel
        have HBR := hide hbr
        clear hbr
        by_cases hkl : k < s.size
        · have hkl' : (k : Int) < (s.size : Int) := by omega
          have HB := hide (HBAD.out k hkl)
          have HNX : Hid (inNm s[k] = true → ∀ j (h : j < s.size), j < k + 1 → inNm s[j] = true) := by
            intro h j hj hjk
            rcases Nat.lt_or_ge j k with h1 | h1
            · exact HALL.out j hj h1
            · obtain rfl : j = k := by omega
              exact h
          have CN := hide (inNm_is s[k])
          cases hn : inNm s[k]
          · rw [hn] at CN HB
            obtain rfl := HB.out rfl
            clear HB HNX hn
            go_wp2_with fail
            refine (CN.out _).mono ?_
            rintro e w2 ⟨rfl, rfl⟩
            go_wp2_with fail
            go_ret
            exact ⟨rfl, HBR.out⟩
          · rw [hn] at CN HNX
            clear HB hn
            go_wp2_with fail
            refine (CN.out _).mono ?_
            rintro e w2 ⟨rfl, rfl⟩
            go_wp2_with fail
            exact ⟨⟨k + 1, by go_num, by omega, hide (HNX.out (by first | exact True.intro | rfl)), HBR.out⟩, by simp [intOf]; omega⟩
        · have hkl' : ¬ (k : Int) < (s.size : Int) := by omega
          have HE := hide (HEND.out fun j h => HALL.out j h (by omega))
          by_cases h12 : 12 < s.size
          · have h12' : (12 : Int) < (s.size : Int) := by omega
            rw [if_pos h12] at HE
            obtain rfl := HE.out
            go_wp2_with fail
            go_ret
            exact ⟨rfl, HBR.out⟩
          · have h12' : ¬ (12 : Int) < (s.size : Int) := by omega
            rw [if_neg h12] at HE
            obtain rfl := HE.out
            go_wp2_with fail
            go_ret
            exact ⟨rfl, HBR.out⟩
end Go.Proofs.YtpmmhmgojjlniaaGreatDoor.Kn
namespace Go.Proofs.YtpmmhmgojjlniaaGreatDoor
open Go.RowKit Go.Sort
/-- Is a text a name? -/
def nmOk (s : ByteArray) : Bool := decide (Kn.nmF s = 0)
set_option maxRecDepth 100000 in
theorem cfgName_is (s : ByteArray) (hs : s.size ≤ 1000) (w : World) : Calls Tryz.prog 70 #[.string s] w fun e w' => e = .returned (.bool (nmOk s)) ∧ Below w.heap.size w w' := by
  have C := hide (Kn.nameFault_is s hs w)
  have HE : Hid (nmOk s = decide (Kn.nmF s = 0)) := rfl
  generalize Kn.nmF s = n at *
  go_enter Tryz.func70, Tryz.ntmps70
  go_wp2_with fail
  refine C.out.mono ?_
  rintro e w1 ⟨rfl, hb⟩
  go_wp2_with fail
  go_ret
  refine ⟨ret_bool ?_, hb⟩
  rw [HE.out]
  rfl
end Go.Proofs.YtpmmhmgojjlniaaGreatDoor
namespace Go.Proofs.YtpmmhmgojjlniaaGreatDoor.Ax.Ad
open Go
/-- How many addresses a prefix of b bits has. -/
def sz (b : Int) : Int := ((2 ^ (32 - b.toNat) : Nat) : Int)
/-- The first b bits of a, with 0 for the others. -/
def cut (a b : Int) : Int := a / sz b * sz b
def may (a b : Int) : Bool := decide (0 ≤ b ∧ b ≤ 32 ∧ cut a b = a)
theorem may_iff (a b : Int) : may a b = true ↔ 0 ≤ b ∧ b ≤ 32 ∧ cut a b = a := by unfold may; exact decide_eq_true_iff

/-- As the walk spells the cut. -/
theorem cut_bits (a b : Int) (h0 : 0 ≤ a) (h1 : a ≤ 4294967295) (hb : 0 ≤ b) (hb2 : b ≤ 32) :
    bits .andNot .u32 a (4294967295 / 2 ^ b.toNat) = cut a b := by
  obtain ⟨A, rfl⟩ := Int.eq_ofNat_of_zero_le h0
  obtain ⟨B, rfl⟩ := Int.eq_ofNat_of_zero_le hb
  have hB : B ≤ 32 := by omega
  have hA : A < 4294967296 := by omega
  have hpow : (4294967295 : Nat) / 2 ^ B = 2 ^ (32 - B) - 1 := by
    have : ∀ n : Fin 33, (4294967295 : Nat) / 2 ^ n.val = 2 ^ (32 - n.val) - 1 := by decide
    exact this ⟨B, by omega⟩
  have e1 : ((4294967295 : Int) / 2 ^ (Int.toNat (B : Int))) = (((4294967295 : Nat) / 2 ^ B : Nat) : Int) := by
    rw [Int.toNat_natCast]; simp
  rw [e1, hpow]
  have hlt : 2 ^ (32 - B) - 1 < 4294967296 := by
    have : (2 : Nat) ^ (32 - B) ≤ 2 ^ 32 := Nat.pow_le_pow_right (by decide) (by omega)
    omega
  rw [u32_andNot_nat A _ hA hlt]
  have e2 : cut (A : Int) (B : Int) = ((A / 2 ^ (32 - B) * 2 ^ (32 - B) : Nat) : Int) := by
    unfold cut sz
    rw [Int.toNat_natCast]; simp
  rw [e2]
  congr 1
  have hle : (2 : Nat) ^ (32 - B) ≤ 2 ^ 32 := Nat.pow_le_pow_right (by decide) (by omega)
  have hp := Nat.two_pow_pos (32 - B)
  have e3 : 4294967295 - (2 ^ (32 - B) - 1) = 2 ^ 32 - ((2 ^ (32 - B) - 1) + 1) := by omega
  rw [e3]
  apply Nat.eq_of_testBit_eq
  intro i
  rw [Nat.testBit_and, Nat.testBit_two_pow_sub_succ (by omega), Nat.testBit_two_pow_sub_one, Nat.testBit_mul_two_pow, Nat.testBit_div_two_pow]
  by_cases hi : 32 - B ≤ i
  · have : i - (32 - B) + (32 - B) = i := by omega
    by_cases h32 : i < 32
    · simp [hi, h32, this]
    · have hge : (2 : Nat) ^ 32 ≤ 2 ^ i := Nat.pow_le_pow_right (by decide) (by omega)
      have : A.testBit i = false := Nat.testBit_lt_two_pow (by omega)
      simp [*]
  · have h2 : i < 32 - B := by omega
    simp [hi, h2]
end Go.Proofs.YtpmmhmgojjlniaaGreatDoor.Ax.Ad
