/- Heaps in memory: what is kept, maps, rows. -/
import Derived.Test.YtkfomjinilmjaaaProg
import Derived.Test.YtkfomjinilmjaaaHb
import Derived.WalkKit
import Derived.WalkSpells
import Derived.WalkLawsBesides
import Derived.Deep.QuietTactic
import Derived.Deep.RegionHeldLaw
import Derived.BigQuiet
import Derived.Lib.QuietBelow
import Derived.Deep.Cut
import Derived.RegionTactic
import Derived.Laws.Rows
import Derived.OneCell
import Derived.Maps.OwnSet
import Derived.Maps.OwnOps
import Derived.Maps.AppendAt
import Derived.StringKeys
import Derived.Defers
import Derived.Recover
namespace Go.Proofs.Ytkfomjinilmjaaa
open Go.RowKit Go.Maps

theorem hide {p : Prop} (h : p) : Hid p := h
theorem bthen {w W w1 : World} (h : Below w.heap.size w W) (hb : Below W.heap.size W w1) : Below w.heap.size w w1 := h.trans (hb.mono h.size)
theorem balloc {w W : World} (h : Below w.heap.size w W) (o : Obj) : Below w.heap.size w (W.alloc o) := h.alloc h.size o
theorem brefl (w : World) : Below w.heap.size w w := Below.refl _ _
/-- All but some blocks is as it was. -/
structure Keep (S : Nat → Prop) (w w' : World) : Prop where
  os : w'.os = w.os
  tape : w'.tape = w.tape
  output : w'.output = w.output
  size : w.heap.size ≤ w'.heap.size
  block : ∀ k, ¬ S k → k < w.heap.size → w'.heap[k]? = w.heap[k]?
theorem size_setCell (w : World) (a : Addr) (v : Value) : (w.setCell a v).heap.size = w.heap.size := by simp [World.setCell]
theorem size_alloc (w : World) (o : Obj) : (w.alloc o).heap.size = w.heap.size + 1 := by simp
theorem heap_alloc_lt (w : World) (o : Obj) (k : Nat) (h : k < w.heap.size) : (w.alloc o).heap[k]? = w.heap[k]? := by
  show (w.heap.push o)[k]? = _
  rw [Array.getElem?_push, if_neg (Nat.ne_of_lt h)]
theorem Keep.refl (S : Nat → Prop) (w : World) : Keep S w w := ⟨rfl, rfl, rfl, Nat.le_refl _, fun _ _ _ => rfl⟩
theorem Keep.trans {S : Nat → Prop} {u v w : World} (h : Keep S u v) (k : Keep S v w) : Keep S u w :=
  ⟨k.os.trans h.os, k.tape.trans h.tape, k.output.trans h.output, Nat.le_trans h.size k.size, fun i hi hl => (k.block i hi (Nat.lt_of_lt_of_le hl h.size)).trans (h.block i hi hl)⟩
/-- One behind another, which may write what is new, too. -/
theorem Keep.trans' {S S' : Nat → Prop} {u v w : World} (h : Keep S u v) (k : Keep S' v w) (hs : ∀ i, S' i → S i ∨ u.heap.size ≤ i) : Keep S u w :=
  ⟨k.os.trans h.os, k.tape.trans h.tape, k.output.trans h.output, Nat.le_trans h.size k.size, fun i hi hl => (k.block i (fun e => by rcases hs i e with e | e; exact hi e; omega) (Nat.lt_of_lt_of_le hl h.size)).trans (h.block i hi hl)⟩
theorem Keep.mono {S S' : Nat → Prop} {u v : World} (h : Keep S u v) (hs : ∀ i, S i → S' i) : Keep S' u v := ⟨h.os, h.tape, h.output, h.size, fun i hi hl => h.block i (fun e => hi (hs i e)) hl⟩
theorem Keep.of {S : Nat → Prop} {w w' : World} (h : Below w.heap.size w w') : Keep S w w' := ⟨h.os, h.tape, h.output, h.size, fun k _ hk => h.block k hk⟩
theorem Keep.below {S : Nat → Prop} {N : Nat} {w w' : World} (h : Keep S w w') (hS : ∀ i, S i → N ≤ i) (hN : N ≤ w.heap.size) : Below N w w' := ⟨h.os, h.tape, h.output, h.size, fun k hk => h.block k (fun e => by have := hS k e; omega) (by omega)⟩
theorem Keep.below' {S : Nat → Prop} {N : Nat} {u w w' : World} (hb : Below N u w) (h : Keep S w w') (hS : ∀ i, S i → N ≤ i) (hN : N ≤ w.heap.size) : Below N u w' := hb.trans (h.below hS hN)
theorem Keep.alloc {S : Nat → Prop} {w w' : World} (h : Keep S w w') (o : Obj) : Keep S w (w'.alloc o) := h.trans (Keep.of (balloc (brefl _) o))
theorem Keep.drew {S : Nat → Prop} {w w' : World} (h : Keep S w w') : Keep S w w'.drew := h.trans (Keep.of (Below.drew (brefl _)))
theorem Keep.setCell {S : Nat → Prop} {w w' : World} (h : Keep S w w') {p : Addr} (hp : S p.block ∨ w.heap.size ≤ p.block) (u : Value) : Keep S w (w'.setCell p u) :=
  ⟨h.os, h.tape, h.output, by rw [size_setCell]; exact h.size, fun k hk hl => by
    rw [Below.heap_setCell _ _ _ _ (by rintro rfl; rcases hp with e | e; exact hk e; omega)]
    exact h.block k hk hl⟩
theorem Keep.then {S : Nat → Prop} {u w w' : World} (h : Keep S u w) (hb : Below w.heap.size w w') : Keep S u w' := h.trans (Keep.of hb)
theorem Keep.grown {S : Nat → Prop} {w w' : World} {row : Option Nat} (hg : w.grownBy w' row) (hr : ∀ k, row = some k → S k) : Keep S w w' :=
  ⟨hg.os, hg.tape, hg.output, hg.size, fun k hk hl => hg.block k hl (fun e => hk (hr k e.symm))⟩

/-- What a key reads as. -/
def kl (k : ByteArray) : Lit := .string k.data.toList
theorem kl_inj {a b : ByteArray} (h : kl a = kl b) : a = b := by
  unfold kl at h
  simp only [Lit.string.injEq] at h
  exact ByteArray.ext (Array.ext' h)
theorem klaw : Keyed Try.prog 9 := string_keyed Try.underlying9
theorem zeroI (w : World) : (zeroValue 3).run Try.prog w = .ok (.int .i64 0) w := by kernel_rfl
theorem hkey {k : ByteArray} (h : k.size ≤ 200) : keyOf Try.prog 9 (.string k) = some (kl k) := Go.WideMaps.keyOf_string_mk Try.underlying9 (by unfold maxLen; omega)
theorem kl_key (k : ByteArray) : WideAt.IsKeyLit (kl k) := by unfold kl; trivial
/-- A map of places by keys. -/
def Mp (w : World) (m n : Nat) (φ : ByteArray → Option Nat) : Prop :=
  ∃ D : DataW Unit, w.ownsMap Try.prog 9 (plainElem Try.prog 3) m n D ∧ ∀ k : ByteArray, k.size ≤ 200 → Maps.has D (kl k) = (φ k).isSome ∧ ∀ i, φ k = some i → D.atKey (kl k) (.lit (.int .i64 0)) = .lit (.int .i64 (i : Nat))
theorem own_tight {w : World} {m n n' : Nat} {D : DataW Unit} (h : w.ownsMap Try.prog 9 (plainElem Try.prog 3) m n D) (hn : Maps.size D ≤ n') : w.ownsMap Try.prog 9 (plainElem Try.prog 3) m n' D := by
  obtain ⟨es, clock, hb, F, hs, rfl⟩ := h
  refine ⟨es, clock, hb, F, ?_, rfl⟩
  have : Maps.size (DataW.map ((es.toList.map (WideElems.rg Try.prog 9 (plainElem (H := Unit) Try.prog 3))).foldr DataW.insert [])) = es.size := length_read es
  omega
theorem mp_new (w : World) : Mp (w.alloc (.map #[] 0)) w.heap.size 0 fun _ => none :=
  ⟨_, World.ownsMap_made w _ _ _, fun k _ => ⟨rfl, fun i h => by cases h⟩⟩
theorem Mp.kept {w w' : World} {m n : Nat} {φ : ByteArray → Option Nat} (h : Mp w m n φ) (hb : w'.heap[m]? = w.heap[m]?) : Mp w' m n φ := by
  obtain ⟨D, ⟨es, clock, h1, F, hs, hD⟩, hl⟩ := h
  exact ⟨D, ⟨es, clock, hb.trans h1, F, hs, hD⟩, hl⟩
theorem Mp.lt {w : World} {m n : Nat} {φ : ByteArray → Option Nat} (h : Mp w m n φ) : m < w.heap.size := by
  obtain ⟨D, h, _⟩ := h
  exact h.lt
theorem Mp.put {w w' : World} {m n n' i : Nat} {D : DataW Unit} {φ : ByteArray → Option Nat} {k : ByteArray} (h : w.ownsMap Try.prog 9 (plainElem Try.prog 3) m n D) (hl : ∀ k : ByteArray, k.size ≤ 200 → Maps.has D (kl k) = (φ k).isSome ∧ ∀ i, φ k = some i → D.atKey (kl k) (.lit (.int .i64 0)) = .lit (.int .i64 (i : Nat)))
    (hk : k.size ≤ 200) (hn : n ≤ n') (hn' : φ k = none → n + 1 ≤ n') (h' : w'.ownsMap Try.prog 9 (plainElem Try.prog 3) m (n + 1) (D.put (kl k) (.lit (.int .i64 (i : Nat))))) : Mp w' m n' (upd φ k (some i)) := by
  refine ⟨_, own_tight h' ?_, fun x hx => ?_⟩
  · rw [size_put (h.tidy klaw), (hl k hk).1]
    have := h.size_le
    cases e : φ k with
    | none => have := hn' e; simp; omega
    | some j => simp; omega
  · unfold upd
    by_cases e : x = k
    · subst e
      rw [if_pos rfl]
      exact ⟨has_put_same h.isMap (kl_key _) _, fun j hj => by cases hj; exact atKey_put_same h.isMap (kl_key _) _ _⟩
    · rw [if_neg e, has_put_other (fun e2 => e (kl_inj e2)), atKey_put_other (fun e2 => e (kl_inj e2))]
      exact hl x hx
theorem Mp.del {w w' : World} {m n n' : Nat} {D : DataW Unit} {φ : ByteArray → Option Nat} {k : ByteArray} (h : w.ownsMap Try.prog 9 (plainElem Try.prog 3) m n D) (hl : ∀ k : ByteArray, k.size ≤ 200 → Maps.has D (kl k) = (φ k).isSome ∧ ∀ i, φ k = some i → D.atKey (kl k) (.lit (.int .i64 0)) = .lit (.int .i64 (i : Nat)))
    (hk : k.size ≤ 200) (hs : φ k ≠ none) (hn' : n - 1 ≤ n') (h' : w'.ownsMap Try.prog 9 (plainElem Try.prog 3) m n (D.del (kl k))) : Mp w' m n' (upd φ k none) := by
  refine ⟨_, own_tight h' ?_, fun x hx => ?_⟩
  · have h1 := size_del (k := kl k) (h.tidy klaw)
    rw [(hl k hk).1] at h1
    have := h.size_le
    cases e : φ k with
    | none => exact absurd e hs
    | some j => rw [e] at h1; simp at h1; omega
  · unfold upd
    by_cases e : x = k
    · subst e
      rw [if_pos rfl]
      exact ⟨has_del_same, fun j hj => by cases hj⟩
    · rw [if_neg e, has_del_other (fun e2 => e (kl_inj e2)), atKey_del_other (fun e2 => e (kl_inj e2))]
      exact hl x hx

abbrev RwS := Rw ByteArray Int
/-- Rows in a block. -/
def Rd (cur : Array Value) (R : List RwS) : Prop := ∀ j x, R[j]? = some x → cur[j * 3]? = some (.string x.k) ∧ cur[j * 3 + 1]? = some (.int .i64 x.r) ∧ cur[j * 3 + 2]? = some (.int .i64 x.t)
def RowAt (w : World) (ao : Option Addr) (cap : Nat) (R : List RwS) : Prop :=
  (ao = none ∧ cap = 0 ∧ R = []) ∨ ∃ g cur, ao = some ⟨g, 0, none⟩ ∧ w.heap[g]? = some (.cells cur 70 (0, 0)) ∧ R.length ≤ cap ∧ cap ≤ maxLen ∧ cur.size = cap * 3 ∧ Rd cur R
/-- A heap in memory. -/
structure Hm (w : World) (h f : Nat) (R : List RwS) (T : Int) (φ : ByteArray → Option Nat) (ao : Option Addr) (cap m n : Nat) : Prop where
  top : w.heap[h]? = some (.cells #[.func (.func f) #[] #[], .slice ao R.length cap, .map (some m), .int .i64 T] 66 (0, 0))
  row : RowAt w ao cap R
  mp : Mp w m n φ
  hm : h ≠ m
  hg : ∀ a, ao = some a → a.block ≠ h ∧ a.block ≠ m
  sm : ∀ x ∈ R, x.k.size ≤ 200
def Own (h m : Nat) (ao : Option Addr) : Nat → Prop := fun b => b = h ∨ b = m ∨ ∃ a, ao = some a ∧ a.block = b
theorem Hm.lt {w : World} {h f : Nat} {R : List RwS} {T : Int} {φ : ByteArray → Option Nat} {ao : Option Addr} {cap m n : Nat} (H : Hm w h f R T φ ao cap m n) : ∀ b, Own h m ao b → b < w.heap.size := by
  rintro b (rfl | rfl | ⟨a, rfl, rfl⟩)
  · exact lt_of_block H.top
  · exact H.mp.lt
  · rcases H.row with ⟨e, _⟩ | ⟨g, cur, e, hg, _⟩
    · cases e
    · cases e
      exact lt_of_block hg
theorem Hm.kept {w w' : World} {h f : Nat} {R : List RwS} {T : Int} {φ : ByteArray → Option Nat} {ao : Option Addr} {cap m n : Nat} (H : Hm w h f R T φ ao cap m n) (hb : ∀ b, Own h m ao b → w'.heap[b]? = w.heap[b]?) : Hm w' h f R T φ ao cap m n := by
  refine ⟨(hb h (.inl rfl)).trans H.top, ?_, H.mp.kept (hb m (.inr (.inl rfl))), H.hm, H.hg, H.sm⟩
  rcases H.row with e | ⟨g, cur, e, hg, r⟩
  · exact .inl e
  · exact .inr ⟨g, cur, e, (hb g (.inr (.inr ⟨_, e, rfl⟩))).trans hg, r⟩
theorem Hm.below {w w' : World} {h f : Nat} {R : List RwS} {T : Int} {φ : ByteArray → Option Nat} {ao : Option Addr} {cap m n : Nat} (H : Hm w h f R T φ ao cap m n) (hb : Below w.heap.size w w') : Hm w' h f R T φ ao cap m n := H.kept fun b hb' => hb.block b (H.lt b hb')
/-- A heap's four cells. -/
theorem four_cells {w : World} {b y : Nat} {x0 x1 x2 x3 : Value} (h : w.heap[b]? = some (.cells #[x0, x1, x2, x3] y (0, 0))) :
    w.cell? ⟨b, 0, none⟩ = some x0 ∧ w.cell? ⟨b, 1, none⟩ = some x1 ∧ w.cell? ⟨b, 2, none⟩ = some x2 ∧ w.cell? ⟨b, 3, none⟩ = some x3 ∧ ∀ o, w.frozen? ⟨b, o, none⟩ = false :=
  ⟨by rw [cell_of_row w b 0 _ y _ h]; rfl, by rw [cell_of_row w b 1 _ y _ h]; rfl, by rw [cell_of_row w b 2 _ y _ h]; rfl, by rw [cell_of_row w b 3 _ y _ h]; rfl, fun o => frozen_of_row w b o _ y h⟩
/-- The cells of a row. -/
theorem Hm.at {w : World} {h f : Nat} {R : List RwS} {T : Int} {φ : ByteArray → Option Nat} {ao : Option Addr} {cap m n : Nat} (H : Hm w h f R T φ ao cap m n) {j : Nat} {x : RwS} (hx : R[j]? = some x) :
    ∃ g, ao = some ⟨g, 0, none⟩ ∧ w.cell? ⟨g, j * 3, none⟩ = some (.string x.k) ∧ w.cell? ⟨g, j * 3 + 1, none⟩ = some (.int .i64 x.r) ∧ w.cell? ⟨g, j * 3 + 2, none⟩ = some (.int .i64 x.t) ∧ ∀ o, w.frozen? ⟨g, o, none⟩ = false := by
  rcases H.row with ⟨_, _, rfl⟩ | ⟨g, cur, e, hg, _, _, _, hr⟩
  · simp at hx
  · obtain ⟨h0, h1, h2⟩ := hr j x hx
    exact ⟨g, e, by rw [cell_of_row w g _ _ 70 _ hg, h0], by rw [cell_of_row w g _ _ 70 _ hg, h1], by rw [cell_of_row w g _ _ 70 _ hg, h2], fun o => frozen_of_row w g o _ 70 hg⟩
end Go.Proofs.Ytkfomjinilmjaaa
