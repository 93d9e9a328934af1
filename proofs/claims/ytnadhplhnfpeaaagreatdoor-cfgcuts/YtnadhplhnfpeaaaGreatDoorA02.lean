/- Part of the proof. -/
import Derived.Test.YtnadhplhnfpeaaaGreatDoorAZ
import Derived.Test.YtnadhplhnfpeaaaGreatDoorA01
import Derived.WalkKit
import Derived.WalkSpells
import Derived.WalkLawsBesides
import Derived.Deep.QuietTactic
import Derived.BigQuiet
import Derived.Lib.QuietBelow
import Derived.Deep.Cut
import Derived.RegionTactic
import Derived.Laws.StructEq
import Derived.Sort.Grow
import Derived.Deep.RegionHeldLaw
import Derived.Deep.RegionHeld3
namespace Go.Proofs.YtnadhplhnfpeaaaGreatDoor
def Cf.nil : Cf := ⟨[], [], []⟩
section
variable (F : Fn)
theorem room_bind {α : Type} (n m : Nat) (h : Unit → Pg α) : (room n m).bind h = if m ≤ n then Pg.fail 2 else h () := by
 unfold room
 split <;> rfl
end
end Go.Proofs.YtnadhplhnfpeaaaGreatDoor
namespace Go.Proofs.YtnadhplhnfpeaaaGreatDoor
open Go.RowKit Go.Sort
theorem hide {p : Prop} (h : p) : Hid p := h
theorem heap_lt {w : World} {b : Nat} {o : Obj} (h : w.heap[b]? = some o) : b < w.heap.size := by
 rcases Nat.lt_or_ge b w.heap.size with h' | h'
 ·
  exact h'
 simp [Array.getElem?_eq_none h'] at h
theorem ret_bool {a b : Bool} (h : a = b) : Ending.returned (.bool a) = .returned (.bool b) := by rw [h]
theorem bthen {w W w1 : World} (h : Below w.heap.size w W) (hb : Below W.heap.size W w1) : Below w.heap.size w w1 := h.trans (hb.mono h.size)
theorem balloc {w W : World} (h : Below w.heap.size w W) (o : Obj) : Below w.heap.size w (W.alloc o) := h.alloc h.size o
theorem brefl (w : World) : Below w.heap.size w w := Below.refl _ _
theorem heap_new (w : World) (x : Array Value) (t : TypeId) : (w.alloc (.cells x t)).heap[w.heap.size]? = some (.cells x t (0, 0)) := heap_alloc_new w _
theorem size_alloc (w : World) (o : Obj) : (w.alloc o).heap.size = w.heap.size + 1 := by simp
theorem size_setCell (w : World) (a : Addr) (u : Value) : (w.setCell a u).heap.size = w.heap.size := by simp [World.setCell]
theorem row_of {w w' : World} {B e size n : Nat} {v : Value} {xs : List Value} (h : w.ownsRow B e size v n xs) (hk : ∀ g, v.ownBlock = some g → w'.heap[g]? = w.heap[g]?) : w'.ownsRow B e size v n xs := by
 obtain ⟨h1, h2⟩ := h
 refine ⟨h1, ?_⟩
 rcases h2 with h2 | ⟨g, cap, cur, hv, hB, hg, r⟩
 ·
  exact .inl h2
 exact .inr ⟨g, cap, cur, hv, hB, (hk g (by rw [hv]; rfl)).trans hg, r⟩
structure But (S : Nat → Prop) (w w' : World) : Prop where
  os : w'.os = w.os
  tape : w'.tape = w.tape
  output : w'.output = w.output
  size : w.heap.size ≤ w'.heap.size
  block : ∀ k, ¬ S k → k < w.heap.size → w'.heap[k]? = w.heap[k]?
theorem But.refl (S : Nat → Prop) (w : World) : But S w w := ⟨rfl, rfl, rfl, Nat.le_refl _, fun _ _ _ => rfl⟩
theorem But.trans {S : Nat → Prop} {u v w : World} (h : But S u v) (k : But S v w) : But S u w :=
  ⟨k.os.trans h.os, k.tape.trans h.tape, k.output.trans h.output, Nat.le_trans h.size k.size, fun i hi hl => (k.block i hi (Nat.lt_of_lt_of_le hl h.size)).trans (h.block i hi hl)⟩
theorem But.mono {S S' : Nat → Prop} {u v : World} (h : But S u v) (hs : ∀ k, k < u.heap.size → S k → S' k) : But S' u v := ⟨h.os, h.tape, h.output, h.size, fun k hk hl => h.block k (fun e => hk (hs k hl e)) hl⟩
theorem But.thens {S S' : Nat → Prop} {u v w : World} (h : But S u v) (k : But S' v w) (hs : ∀ i, i < u.heap.size → S' i → S i) : But S u w :=
  ⟨k.os.trans h.os, k.tape.trans h.tape, k.output.trans h.output, Nat.le_trans h.size k.size, fun i hi hl => (k.block i (fun e => hi (hs i hl e)) (Nat.lt_of_lt_of_le hl h.size)).trans (h.block i hi hl)⟩
theorem But.of {S : Nat → Prop} {w w' : World} (h : Below w.heap.size w w') : But S w w' := ⟨h.os, h.tape, h.output, h.size, fun k _ hk => h.block k hk⟩
theorem But.below {S : Nat → Prop} {N : Nat} {w w' : World} (h : But S w w') (hN : ∀ k, S k → N ≤ k) (hS : N ≤ w.heap.size) : Below N w w' := ⟨h.os, h.tape, h.output, h.size, fun k hk => h.block k (fun e => by have := hN k e; omega) (by omega)⟩
theorem But.alloc {S : Nat → Prop} {w w' : World} (h : But S w w') (o : Obj) : But S w (w'.alloc o) := h.trans (But.of (balloc (brefl _) o))
theorem But.drew {S : Nat → Prop} {w w' : World} (h : But S w w') : But S w w'.drew := h.trans (But.of (Below.drew (brefl _)))
theorem But.setCell {S : Nat → Prop} {w w' : World} (h : But S w w') {p : Addr} (hp : S p.block ∨ w.heap.size ≤ p.block) (u : Value) : But S w (w'.setCell p u) :=
  ⟨h.os, h.tape, h.output, by rw [size_setCell]; exact h.size, fun k hk hl => by
    rw [Below.heap_setCell _ _ _ _ (by
      rintro rfl
      rcases hp with e | e
      · exact hk e
      · omega)]
    exact h.block k hk hl⟩
theorem But.grown {S : Nat → Prop} {u w w' : World} {row : Option Nat} (h : But S u w) (hg : w.grownBy w' row) (hr : ∀ k, row = some k → S k ∨ u.heap.size ≤ k) : But S u w' :=
  ⟨hg.os.trans h.os, hg.tape.trans h.tape, hg.output.trans h.output, Nat.le_trans h.size hg.size, fun k hk hl => (hg.block k (Nat.lt_of_lt_of_le hl h.size) (fun e => by
    rcases hr k e.symm with h1 | h1
    · exact hk h1
    · omega)).trans (h.block k hk hl)⟩
theorem But.keep {S : Nat → Prop} {w w' : World} (h : But S w w') {g : Nat} {o : Obj} (hg : w.heap[g]? = some o) (hs : ¬ S g) : w'.heap[g]? = some o := (h.block g hs (heap_lt hg)).trans hg
abbrev but1 (b : Nat) : Nat → Prop := fun k => k = b
def Tv.val (t : Tv) : Value := .agg #[.int .i64 t.k, .string t.s, .int .i64 t.p, .int .i64 t.q]
def Tv.at_ (w : World) (b off : Nat) (x : Tv) : Prop := w.cell? ⟨b, off, none⟩ = some (.int .i64 x.k) ∧ w.cell? ⟨b, off + 1, none⟩ = some (.string x.s) ∧ w.cell? ⟨b, off + 2, none⟩ = some (.int .i64 x.p) ∧ w.cell? ⟨b, off + 3, none⟩ = some (.int .i64 x.q)
def Tv.slot (w : World) (ao : Option Addr) (l : List Tv) : Prop := l = [] ∨ ∃ b off, ao = some ⟨b, off, none⟩ ∧ ∀ j (h : j < l.length), Tv.at_ w b (off + j * 4) l[j]
structure En where
  w0 : World
  pb : Nat
  en : Int × Int
def PsV (E : En) (ao : Option Addr) (n c : Nat) (a1 a2 e : Int) : Sta → Prop
  | .good r _ => r.length = n ∧ n ≤ c ∧ n ≤ 100000 ∧ (∀ t ∈ r, t.s.size ≤ 1000) ∧ Tv.slot E.w0 ao r ∧ a1 = 0 ∧ a2 = 0 ∧ e = 0
  | .bad p q x => ao = none ∧ n = 0 ∧ c = 0 ∧ a1 = p ∧ a2 = q ∧ e = x ∧ x ≠ 0
def Ps (E : En) (w : World) (st : Sta) : Prop := Below E.w0.heap.size E.w0 w ∧ E.w0.heap.size ≤ E.pb ∧ ∃ ao n c a1 a2 e, w.heap[E.pb]? = some (.cells #[.slice ao n c, .int .i64 E.en.1, .int .i64 E.en.2, .int .i64 a1, .int .i64 a2, .int .i64 e] 62 (0, 0)) ∧ PsV E ao n c a1 a2 e st
theorem Ps.lt {E : En} {w : World} {st : Sta} (h : Ps E w st) : E.pb < w.heap.size := by
 obtain ⟨_, _, ao, n, c, a1, a2, e, hg, _⟩ := h
 exact heap_lt hg
theorem Ps.of {E : En} {w w' : World} {st : Sta} (h : Ps E w st) {S : Nat → Prop} (hb : But S w w') (hp : ¬ S E.pb) (hs : ∀ k, S k → E.w0.heap.size ≤ k) : Ps E w' st := by
 have hlt := h.lt
 obtain ⟨h1, h2, ao, n, c, a1, a2, e, hg, hv⟩ := h
 exact ⟨h1.trans (hb.below hs h1.size), h2, ao, n, c, a1, a2, e, hb.keep hg hp, hv⟩
theorem Ps.below {E : En} {w w' : World} {st : Sta} (h : Ps E w st) (hb : Below w.heap.size w w') : Ps E w' st := h.of (S := fun _ => False) (But.of hb) (fun h => h) (fun _ h => h.elim)
theorem Ps.alloc {E : En} {w : World} {st : Sta} (h : Ps E w st) (o : Obj) : Ps E (w.alloc o) st := h.below (balloc (brefl _) o)
def taken (en : Int × Int) : Sta → Tv × Sta
  | .good (t :: r) _ => (t, .good r (t.p, t.q))
  | .good [] _ => (⟨0, bs [], en.1, en.2⟩, .bad en.1 en.2 3)
  | .bad p q e => (⟨0, bs [], en.1, en.2⟩, .bad p q e)
def faulted (t : Tv) (e : Int) : Sta → Sta
  | .good r l => if e = 0 then .good r l else .bad t.p t.q e
  | .bad p q x => .bad p q x
theorem six_cells {w : World} {b y : Nat} {x0 x1 x2 x3 x4 x5 : Value} (h : w.heap[b]? = some (.cells #[x0, x1, x2, x3, x4, x5] y (0, 0))) : (w.cell? ⟨b, 0, none⟩ = some x0 ∧ w.cell? ⟨b, 1, none⟩ = some x1 ∧ w.cell? ⟨b, 2, none⟩ = some x2 ∧ w.cell? ⟨b, 3, none⟩ = some x3 ∧ w.cell? ⟨b, 4, none⟩ = some x4 ∧ w.cell? ⟨b, 5, none⟩ = some x5) ∧ w.frozen? ⟨b, 0, none⟩ = false ∧ w.frozen? ⟨b, 3, none⟩ = false ∧ w.frozen? ⟨b, 4, none⟩ = false ∧ w.frozen? ⟨b, 5, none⟩ = false := by
 simp [World.cell?, World.frozen?, h]
theorem four_cells {w : World} {b y : Nat} {x0 x1 x2 x3 : Value} (h : w.heap[b]? = some (.cells #[x0, x1, x2, x3] y (0, 0))) : (w.cell? ⟨b, 0, none⟩ = some x0 ∧ w.cell? ⟨b, 1, none⟩ = some x1 ∧ w.cell? ⟨b, 2, none⟩ = some x2 ∧ w.cell? ⟨b, 3, none⟩ = some x3) ∧ w.frozen? ⟨b, 0, none⟩ = false ∧ w.frozen? ⟨b, 1, none⟩ = false ∧ w.frozen? ⟨b, 2, none⟩ = false ∧ w.frozen? ⟨b, 3, none⟩ = false := by
 simp [World.cell?, World.frozen?, h]
theorem set_far {w : World} {b o j : Nat} {v : Value} {x : Obj} (h : w.heap[j]? = some x) (hn : j ≠ b) : (w.setCell ⟨b, o, none⟩ v).heap[j]? = some x := (Below.heap_setCell w ⟨b, o, none⟩ v j hn).trans h
theorem but_pb {E : En} {w w' : World} {st : Sta} (h : Ps E w st) (hb : But (but1 E.pb) w w') : Below E.w0.heap.size E.w0 w' := h.1.trans (hb.below (fun k e => by rw [show k = E.pb from e]; exact h.2.1) h.1.size)
abbrev set4 (w : World) (b : Nat) (v0 v1 v2 v3 : Value) : World := (((w.setCell ⟨b, 0, none⟩ v0).setCell ⟨b, 1, none⟩ v1).setCell ⟨b, 2, none⟩ v2).setCell ⟨b, 3, none⟩ v3
theorem four_set {w : World} {b t : Nat} {x0 x1 x2 x3 : Value} (h : w.heap[b]? = some (.cells #[x0, x1, x2, x3] t (0, 0))) (v0 v1 v2 v3 : Value) : (set4 w b v0 v1 v2 v3).heap[b]? = some (.cells #[v0, v1, v2, v3] t (0, 0)) :=
  heap_setCell_same _ b 3 _ t v3 (heap_setCell_same _ b 2 _ t v2 (heap_setCell_same _ b 1 _ t v1 (heap_setCell_same w b 0 _ t v0 h)))
theorem But.put4 {S : Nat → Prop} {w w' : World} (h : But S w w') {b : Nat} (hp : S b ∨ w.heap.size ≤ b) (v0 v1 v2 v3 : Value) : But S w (set4 w' b v0 v1 v2 v3) :=
  (((h.setCell (p := ⟨b, 0, none⟩) hp v0).setCell (p := ⟨b, 1, none⟩) hp v1).setCell (p := ⟨b, 2, none⟩) hp v2).setCell (p := ⟨b, 3, none⟩) hp v3
theorem far4 {w : World} {b j : Nat} {x : Obj} (h : w.heap[j]? = some x) (hn : j ≠ b) (v0 v1 v2 v3 : Value) : (set4 w b v0 v1 v2 v3).heap[j]? = some x := set_far (set_far (set_far (set_far h hn) hn) hn) hn
theorem Ps.put {E : En} {w : World} {st : Sta} (h : Ps E w st) {p : Addr} (hb : p.block ≠ E.pb) (hw : E.w0.heap.size ≤ p.block) (v : Value) : Ps E (w.setCell p v) st :=
  h.of (S := fun k => k = p.block) ((But.refl (fun k => k = p.block) w).setCell (p := p) (.inl rfl) v) (fun e => hb e.symm) (fun k e => by rw [e]; exact hw)
theorem Ps.put4 {E : En} {w : World} {st : Sta} (h : Ps E w st) {b : Nat} (hb : b ≠ E.pb) (hw : E.w0.heap.size ≤ b) (v0 v1 v2 v3 : Value) : Ps E (set4 w b v0 v1 v2 v3) st :=
  (((h.put (p := ⟨b, 0, none⟩) hb hw v0).put (p := ⟨b, 1, none⟩) hb hw v1).put (p := ⟨b, 2, none⟩) hb hw v2).put (p := ⟨b, 3, none⟩) hb hw v3
set_option maxHeartbeats 2000000 in
set_option maxRecDepth 100000 in
theorem fault_is (E : En) (st : Sta) (t : Tv) (e : Int) (w : World) (h : Ps E w st) : Calls Tryz.prog 44 #[.pointer (some ⟨E.pb, 0, none⟩), t.val, .int .i64 e] w fun r w' => r = .returned (.tuple #[]) ∧ But (but1 E.pb) w w' ∧ Ps E w' (faulted t e st) := by
 have H := hide h
 obtain ⟨tk, tt, tp, tq⟩ := t
 obtain ⟨W0, pb, en⟩ := E
 obtain ⟨h1, h2, ao, n, c, a1, a2, x, hg, hv⟩ := h
 have A0 := hide (But.of (S := but1 pb) (balloc (brefl w) (.cells #[.int .i64 tk, .string tt, .int .i64 tp, .int .i64 tq] 95)))
 have N0 := hide (heap_new w #[.int .i64 tk, .string tt, .int .i64 tp, .int .i64 tq] 95)
 have PA := hide (H.out.alloc (.cells #[.int .i64 tk, .string tt, .int .i64 tp, .int .i64 tq] 95))
 have G0 := hide (((balloc (brefl w) (.cells #[.int .i64 tk, .string tt, .int .i64 tp, .int .i64 tq] 95)).block pb (heap_lt hg)).trans hg)
 have HNE : Hid (w.heap.size ≠ pb) := by have := heap_lt hg; show _ ≠ _; simp only at this; omega
 have HV := hide hv
 simp only [Tv.val] at *
 clear h1 h2 hg hv
 go_enter Tryz.func44, Tryz.ntmps44
 go_upto_region 1 with fail
 obtain ⟨tb, htb⟩ : ∃ tb, w.heap.size = tb := ⟨_, rfl⟩
 have HTW : Hid (w.heap.size ≤ tb) := Nat.le_of_eq htb
 rw [htb] at N0 HNE ⊢
 generalize w.alloc (.cells #[.int .i64 tk, .string tt, .int .i64 tp, .int .i64 tq] 95) = W at *
 clear htb
 obtain ⟨⟨z0, z1, z2, z3, z4, z5⟩, y0, y3, y4, y5⟩ := six_cells G0.out
 cases st with
 | good r l =>
  obtain ⟨hr, hnc, hnb, hzz, hsl, rfl, rfl, rfl⟩ := HV.out
  by_cases he : e = 0
  ·
   subst he
   have HST : Hid (faulted ⟨tk, tt, tp, tq⟩ 0 (.good r l) = .good r l) := rfl
   go_wp2_with fail
   go_end0
   refine ⟨rfl, A0.out, ?_⟩
   rw [HST.out]
   exact PA.out
  have he' : (e != 0) = true := by rw [bne_iff_ne]; exact he
  have HST : Hid (faulted ⟨tk, tt, tp, tq⟩ e (.good r l) = .bad tp tq e) := if_neg he
  have HE := hide he
  clear he hr hnc hnb hsl hzz
  go_upto_region 2 with fail
  clear he'
  obtain ⟨⟨c0, c1, c2, c3⟩, _⟩ := four_cells N0.out
  have G1 := hide (heap_setCell_same _ pb 3 _ 62 (.int .i64 tp) G0.out)
  have G2 := hide (heap_setCell_same _ pb 4 _ 62 (.int .i64 tq) G1.out)
  have G3 := hide (heap_setCell_same _ pb 5 _ 62 (.int .i64 e) G2.out)
  have G4 := hide (heap_setCell_same _ pb 0 _ 62 (.slice none 0 0) G3.out)
  have A4 := hide ((((A0.out.setCell (p := ⟨pb, 3, none⟩) (.inl rfl) (.int .i64 tp)).setCell (p := ⟨pb, 4, none⟩) (.inl rfl) (.int .i64 tq)).setCell (p := ⟨pb, 5, none⟩) (.inl rfl) (.int .i64 e)).setCell (p := ⟨pb, 0, none⟩) (.inl rfl) (.slice none 0 0))
  go_wp2_with fail
  go_end0
  refine ⟨rfl, A4.out, ?_⟩
  rw [HST.out]
  exact ⟨but_pb H.out A4.out, H.out.2.1, none, 0, 0, tp, tq, e, G4.out, rfl, rfl, rfl, rfl, rfl, rfl, HE.out⟩
 | bad p q y =>
  obtain ⟨rfl, rfl, rfl, rfl, rfl, rfl, hx⟩ := HV.out
  have hx' : (x == 0) = false := by rw [beq_eq_false_iff_ne]; exact hx
  go_wp2_with fail
  go_end0
  exact ⟨rfl, A0.out, PA.out⟩
theorem taken_fault (en : Int × Int) (st : Sta) (h : ∀ t r l, st ≠ .good (t :: r) l) : (taken en st).1 = ⟨0, bs [], en.1, en.2⟩ ∧ (taken en st).2 = faulted ⟨0, bs [], en.1, en.2⟩ 3 st := by
 cases st with
 | good r l =>
  cases r with
  | nil => exact ⟨rfl, rfl⟩
  | cons t r => exact absurd rfl (h t r l)
 | bad p q e => exact ⟨rfl, rfl⟩
set_option maxHeartbeats 2000000 in
set_option maxRecDepth 100000 in
theorem next_none (E : En) (st : Sta) (w : World) (h : Ps E w st) (hst : ∀ t r l, st ≠ .good (t :: r) l) : Calls Tryz.prog 38 #[.pointer (some ⟨E.pb, 0, none⟩)] w fun r w' => r = .returned (taken E.en st).1.val ∧ But (but1 E.pb) w w' ∧ Ps E w' (taken E.en st).2 := by
 obtain ⟨e1, e2⟩ := taken_fault E.en st hst
 rw [e1, e2]
 clear e1 e2
 have CF := hide (fault_is E st ⟨0, bs [], E.en.1, E.en.2⟩ 3)
 have H := hide h
 obtain ⟨W0, pb, ⟨en1, en2⟩⟩ := E
 obtain ⟨h1, h2, ao, n, c, a1, a2, x, hg, hv⟩ := h
 obtain rfl : n = 0 := by
  cases st with
  | good r l =>
   cases r with
   | nil => exact hv.1.symm
   | cons t r => exact absurd rfl (hst t r l)
  | bad p q e => exact hv.2.1
 have HW0 : Hid (W0.heap.size ≤ w.heap.size) := h1.size
 clear hv h1 h2 hst
 simp only [Tv.val] at *
 have A1 := hide (balloc (brefl w) (.cells #[.int .i64 0, .string ⟨#[]⟩, .int .i64 0, .int .i64 0] 95))
 have N1 := hide (heap_new w #[.int .i64 0, .string ⟨#[]⟩, .int .i64 0, .int .i64 0] 95)
 have G1 := hide ((A1.out.block pb (heap_lt hg)).trans hg)
 have P1 := hide (H.out.below A1.out)
 have HL := hide (heap_lt hg)
 clear hg H
 go_enter Tryz.func38, Tryz.ntmps38
 go_upto_region 1 with fail
 obtain ⟨rb, hrb⟩ : ∃ rb, w.heap.size = rb := ⟨_, rfl⟩
 have HRW : Hid (w.heap.size ≤ rb ∧ rb ≠ pb) := by have h9 := HL.out; exact ⟨Nat.le_of_eq hrb, by omega⟩
 rw [hrb] at N1 ⊢
 generalize w.alloc (.cells #[.int .i64 0, .string ⟨#[]⟩, .int .i64 0, .int .i64 0] 95) = W1 at *
 clear hrb
 obtain ⟨⟨z0, z1, z2, z3, z4, z5⟩, y0, y3, y4, y5⟩ := six_cells G1.out
 have A2 := hide (balloc (brefl W1) (.cells #[.int .i64 0, .string ⟨#[]⟩, .int .i64 en1, .int .i64 en2] 95))
 have N2 := hide (heap_new W1 #[.int .i64 0, .string ⟨#[]⟩, .int .i64 en1, .int .i64 en2] 95)
 have P2 := hide (P1.out.below A2.out)
 have R2 := hide ((A2.out.block rb (heap_lt N1.out)).trans N1.out)
 have HTN : Hid (W1.heap.size ≠ pb ∧ W1.heap.size ≠ rb) := by have h1 := heap_lt G1.out; have h2 := heap_lt N1.out; exact ⟨by omega, by omega⟩
 go_upto_region 3 with fail
 obtain ⟨tb, htb⟩ : ∃ tb, W1.heap.size = tb := ⟨_, rfl⟩
 rw [htb] at N2 HTN ⊢
 have B2 := hide (bthen A1.out A2.out)
 generalize W1.alloc (.cells #[.int .i64 0, .string ⟨#[]⟩, .int .i64 en1, .int .i64 en2] 95) = W2 at *
 clear htb z0 z1 z2 z3 z4 z5 y0 y3 y4 y5 A1 A2 N1 G1 P1
 obtain ⟨⟨c0, c1, c2, c3⟩, _⟩ := four_cells N2.out
 go_wp2_with fail
 refine (CF.out _ P2.out).mono ?_
 rintro e w3 ⟨rfl, b3, p3⟩
 have N3 := hide (b3.keep N2.out HTN.out.1)
 have R3 := hide (b3.keep R2.out HRW.out.2)
 have B3 := hide ((But.of (S := but1 pb) B2.out).trans b3)
 have P3 := hide p3
 clear b3 p3 CF c0 c1 c2 c3 N2 R2 B2 P2
 obtain ⟨⟨c0, c1, c2, c3⟩, _⟩ := four_cells N3.out
 obtain ⟨⟨d0, d1, d2, d3⟩, f0, f1, f2, f3⟩ := four_cells R3.out
 go_wp2_with fail
 refine bodyPost_ret (v := .agg #[.int .i64 0, .string ⟨#[]⟩, .int .i64 en1, .int .i64 en2]) ?_ rfl ⟨rfl, B3.out.put4 (.inr HRW.out.1) (.int .i64 0) (.string ⟨#[]⟩) (.int .i64 en1) (.int .i64 en2), P3.out.put4 HRW.out.2 (Nat.le_trans HW0.out HRW.out.1) (.int .i64 0) (.string ⟨#[]⟩) (.int .i64 en1) (.int .i64 en2)⟩
 obtain ⟨⟨t0, t1, t2, t3⟩, _⟩ := four_cells (four_set R3.out (.int .i64 0) (.string ⟨#[]⟩) (.int .i64 en1) (.int .i64 en2))
 simp [results, Tryz.results38, go_sem, t0, t1, t2, t3]
def cut1 (ao : Option Addr) (c : Nat) : Option Addr := if c = 1 then ao else ao.map (·.add 4)
theorem slot_cut1 {w : World} {ao : Option Addr} {t : Tv} {r : List Tv} {c : Nat} (h : Tv.slot w ao (t :: r)) (hc : (t :: r).length ≤ c) : Tv.slot w (cut1 ao c) r := by
 rcases h with h | ⟨b, off, rfl, h⟩
 ·
  cases h
 unfold cut1
 split
 ·
  left
  simp only [List.length_cons] at hc
  exact List.length_eq_zero_iff.1 (by omega)
 right
 refine ⟨b, off + 4, rfl, fun j hj => ?_⟩
 have := h (j + 1) (by simp only [List.length_cons]; omega)
 rw [show off + (j + 1) * 4 = off + 4 + j * 4 by omega] at this
 exact this
set_option maxHeartbeats 2000000 in
set_option maxRecDepth 100000 in
theorem next_some (E : En) (t : Tv) (r : List Tv) (l : Int × Int) (w : World) (h : Ps E w (.good (t :: r) l)) : Calls Tryz.prog 38 #[.pointer (some ⟨E.pb, 0, none⟩)] w fun x w' => x = .returned t.val ∧ But (but1 E.pb) w w' ∧ Ps E w' (.good r (t.p, t.q)) := by
 have H := hide h
 obtain ⟨W0, pb, ⟨en1, en2⟩⟩ := E
 obtain ⟨h1, h2, ao, n, c, a1, a2, x, hg, hr, hnc, hnb, hzz, hsl, rfl, rfl, rfl⟩ := h
 have HZZ : Hid (∀ t ∈ r, t.s.size ≤ 1000) := fun t ht => hzz t (List.mem_cons_of_mem _ ht)
 clear hzz
 obtain ⟨b, off, rfl, hat⟩ : ∃ b off, ao = some ⟨b, off, none⟩ ∧ Tv.at_ W0 b off t := by
  rcases hsl with h | ⟨b, off, rfl, h⟩
  ·
   cases h
  have := h 0 (by simp)
  rw [Nat.zero_mul, Nat.add_zero] at this
  exact ⟨b, off, rfl, this⟩
 have HSL := hide (slot_cut1 hsl (by rw [hr]; exact hnc))
 have hb : b < W0.heap.size := World.block_lt_of_cell? _ _ hat.1
 have hat2 : ∀ W, Below W0.heap.size W0 W → Tv.at_ W b off t := fun W hW => by
  unfold Tv.at_
  rw [hW.cell (p := ⟨b, off, none⟩) hb, hW.cell (p := ⟨b, off + 1, none⟩) hb, hW.cell (p := ⟨b, off + 2, none⟩) hb, hW.cell (p := ⟨b, off + 3, none⟩) hb]
  exact hat
 obtain ⟨tk, tt, tp, tq⟩ := t
 have HAT := hide hat2
 have HW0 := hide h1
 have HPB := hide h2
 have hn1 : 1 ≤ n := by rw [← hr]; simp
 have HRL : Hid (r.length = n - 1) := by show _ = _; rw [← hr]; simp
 clear hat hat2 hsl hr h1 h2
 simp only [Tv.val] at *
 have A1 := hide (balloc (brefl w) (.cells #[.int .i64 0, .string ⟨#[]⟩, .int .i64 0, .int .i64 0] 95))
 have N1 := hide (heap_new w #[.int .i64 0, .string ⟨#[]⟩, .int .i64 0, .int .i64 0] 95)
 have G1 := hide ((A1.out.block pb (heap_lt hg)).trans hg)
 have HL := hide (heap_lt hg)
 have HBW := hide (Nat.lt_of_lt_of_le hb HW0.out.size)
 clear hg
 have hnn : ¬ (n : Int) = 0 := by omega
 have hnb' : ((n : Int) == 0) = false := by rw [beq_eq_false_iff_ne]; exact hnn
 have hni : (1 : Int) ≤ (n : Int) := by omega
 have hci : (n : Int) ≤ (c : Int) := by omega
 have hc1 : (1 : Int) ≤ (c : Int) := by omega
 go_enter Tryz.func38, Tryz.ntmps38
 go_upto_region 1 with fail
 obtain ⟨rb, hrb⟩ : ∃ rb, w.heap.size = rb := ⟨_, rfl⟩
 have HRW : Hid (w.heap.size ≤ rb ∧ rb ≠ pb ∧ b < rb) := by have h9 := HL.out; have h8 := HBW.out; exact ⟨Nat.le_of_eq hrb, by omega, by omega⟩
 have hb1 : b < (w.alloc (.cells #[.int .i64 0, .string ⟨#[]⟩, .int .i64 0, .int .i64 0] 95)).heap.size := Nat.lt_of_lt_of_le HBW.out A1.out.size
 rw [hrb] at N1 ⊢
 generalize w.alloc (.cells #[.int .i64 0, .string ⟨#[]⟩, .int .i64 0, .int .i64 0] 95) = W1 at *
 clear hrb
 obtain ⟨⟨z0, z1, z2, z3, z4, z5⟩, y0, y3, y4, y5⟩ := six_cells G1.out
 obtain ⟨t0, t1, t2, t3⟩ := HAT.out W1 (HW0.out.trans (A1.out.mono HW0.out.size))
 simp only at t0 t1 t2 t3
 have A2 := hide (balloc (brefl W1) (.cells #[.int .i64 tk, .string tt, .int .i64 tp, .int .i64 tq] 95))
 have N2 := hide (heap_new W1 #[.int .i64 tk, .string tt, .int .i64 tp, .int .i64 tq] 95)
 have G2 := hide ((A2.out.block pb (heap_lt G1.out)).trans G1.out)
 have R2 := hide ((A2.out.block rb (heap_lt N1.out)).trans N1.out)
 have HTN : Hid (W1.heap.size ≠ pb ∧ W1.heap.size ≠ rb) := by have h1 := heap_lt G1.out; have h2 := heap_lt N1.out; exact ⟨by omega, by omega⟩
 go_upto_region 6 with fail
 obtain ⟨tb, htb⟩ : ∃ tb, W1.heap.size = tb := ⟨_, rfl⟩
 rw [htb] at N2 HTN ⊢
 have B2 := hide (bthen A1.out A2.out)
 generalize W1.alloc (.cells #[.int .i64 tk, .string tt, .int .i64 tp, .int .i64 tq] 95) = W2 at *
 clear htb z0 z1 z2 z3 z4 z5 y0 y3 y4 y5 A1 A2 N1 G1 t0 t1 t2 t3 hb1 hnb' hnn
 obtain ⟨⟨z0, z1, z2, z3, z4, z5⟩, y0, y3, y4, y5⟩ := six_cells G2.out
 by_cases hc : c = 1
 ·
  subst hc
  obtain rfl : n = 1 := by omega
  have HS2 : Hid (Tv.slot W0 (some ⟨b, off, none⟩) r) := HSL.out
  go_upto_region 7 with fail
  have G3 := hide (heap_setCell_same _ pb 0 _ 62 (.slice (some ⟨b, off, none⟩) 0 0) G2.out)
  have N3 := hide (set_far (o := 0) (v := .slice (some ⟨b, off, none⟩) 0 0) N2.out HTN.out.1)
  have R3 := hide (set_far (o := 0) (v := .slice (some ⟨b, off, none⟩) 0 0) R2.out HRW.out.2.1)
  have B3 := hide ((But.of (S := but1 pb) B2.out).setCell (p := ⟨pb, 0, none⟩) (.inl rfl) (.slice (some ⟨b, off, none⟩) 0 0))
  clear z0 z1 z2 z3 z4 z5 y0 y3 y4 y5
  generalize W2.setCell ⟨pb, 0, none⟩ (.slice (some ⟨b, off, none⟩) 0 0) = W3 at *
  clear G2 N2 R2 B2
  obtain ⟨⟨c0, c1, c2, c3⟩, _⟩ := four_cells N3.out
  obtain ⟨⟨d0, d1, d2, d3⟩, f0, f1, f2, f3⟩ := four_cells R3.out
  go_wp2_with fail
  have B4 := hide (B3.out.put4 (.inr HRW.out.1) (.int .i64 tk) (.string tt) (.int .i64 tp) (.int .i64 tq))
  have G4 := hide (far4 G3.out (fun e => HRW.out.2.1 e.symm) (.int .i64 tk) (.string tt) (.int .i64 tp) (.int .i64 tq))
  refine bodyPost_ret (v := .agg #[.int .i64 tk, .string tt, .int .i64 tp, .int .i64 tq]) ?_ rfl ⟨rfl, B4.out, but_pb H.out B4.out, HPB.out, some ⟨b, off, none⟩, 0, 0, 0, 0, 0, G4.out, ?_, by omega, by omega, HZZ.out, HS2.out, rfl, rfl, rfl⟩
  ·
   obtain ⟨⟨t0, t1, t2, t3⟩, _⟩ := four_cells (four_set R3.out (.int .i64 tk) (.string tt) (.int .i64 tp) (.int .i64 tq))
   simp [results, Tryz.results38, go_sem, t0, t1, t2, t3]
  rw [HRL.out]
 have hcc : ¬ (c : Int) = 1 := by omega
 have HS2 : Hid (Tv.slot W0 (some ⟨b, off + 4, none⟩) r) := by have h := HSL.out; rw [cut1, if_neg hc] at h; exact h
 clear hc
 go_upto_region 7 with fail
 have G3 := hide (heap_setCell_same _ pb 0 _ 62 (.slice (some ⟨b, off + 4, none⟩) (n - 1) (c - 1)) G2.out)
 have N3 := hide (set_far (o := 0) (v := .slice (some ⟨b, off + 4, none⟩) (n - 1) (c - 1)) N2.out HTN.out.1)
 have R3 := hide (set_far (o := 0) (v := .slice (some ⟨b, off + 4, none⟩) (n - 1) (c - 1)) R2.out HRW.out.2.1)
 have B3 := hide ((But.of (S := but1 pb) B2.out).setCell (p := ⟨pb, 0, none⟩) (.inl rfl) (.slice (some ⟨b, off + 4, none⟩) (n - 1) (c - 1)))
 clear z0 z1 z2 z3 z4 z5 y0 y3 y4 y5
 generalize W2.setCell ⟨pb, 0, none⟩ (.slice (some ⟨b, off + 4, none⟩) (n - 1) (c - 1)) = W3 at *
 clear G2 N2 R2 B2
 obtain ⟨⟨c0, c1, c2, c3⟩, _⟩ := four_cells N3.out
 obtain ⟨⟨d0, d1, d2, d3⟩, f0, f1, f2, f3⟩ := four_cells R3.out
 go_wp2_with fail
 have B4 := hide (B3.out.put4 (.inr HRW.out.1) (.int .i64 tk) (.string tt) (.int .i64 tp) (.int .i64 tq))
 have G4 := hide (far4 G3.out (fun e => HRW.out.2.1 e.symm) (.int .i64 tk) (.string tt) (.int .i64 tp) (.int .i64 tq))
 refine bodyPost_ret (v := .agg #[.int .i64 tk, .string tt, .int .i64 tp, .int .i64 tq]) ?_ rfl ⟨rfl, B4.out, but_pb H.out B4.out, HPB.out, some ⟨b, off + 4, none⟩, n - 1, c - 1, 0, 0, 0, G4.out, ?_, by omega, by omega, HZZ.out, HS2.out, rfl, rfl, rfl⟩
 ·
  obtain ⟨⟨t0, t1, t2, t3⟩, _⟩ := four_cells (four_set R3.out (.int .i64 tk) (.string tt) (.int .i64 tp) (.int .i64 tq))
  simp [results, Tryz.results38, go_sem, t0, t1, t2, t3]
 rw [HRL.out]
theorem next_is (E : En) (st : Sta) (w : World) (h : Ps E w st) : Calls Tryz.prog 38 #[.pointer (some ⟨E.pb, 0, none⟩)] w fun r w' => r = .returned (taken E.en st).1.val ∧ But (but1 E.pb) w w' ∧ Ps E w' (taken E.en st).2 := by
 cases st with
 | good r l =>
  cases r with
  | nil => exact next_none E _ w h (fun t r l e => by cases e)
  | cons t r => exact next_some E t r l w h
 | bad p q e => exact next_none E _ w h (fun t r l e => by cases e)
set_option maxHeartbeats 1000000 in
theorem word_is (t : Tv) (w : World) : Calls Tryz.prog 39 #[t.val] w fun r w' => r = .returned (.string (wd t.k t.s)) ∧ Below w.heap.size w w' := by
 obtain ⟨k, s, p, q⟩ := t
 have A1 := hide (balloc (brefl w) (.cells #[.int .i64 k, .string s, .int .i64 p, .int .i64 q] 95))
 simp only [Tv.val, wd]
 by_cases hk : k = 0
 ·
  subst hk
  rw [if_pos rfl]
  go_enter Tryz.func39, Tryz.ntmps39
  go_wp2_with fail
  go_ret
  exact ⟨rfl, A1.out⟩
 have hk' : (k != 0) = true := by rw [bne_iff_ne]; exact hk
 rw [if_neg hk]
 clear hk
 go_enter Tryz.func39, Tryz.ntmps39
 go_wp2_with fail
 go_ret
 exact ⟨rfl, A1.out⟩
theorem beq_tl (a b : ByteArray) : (a.toList == b.toList) = decide (a = b) := by
 rw [Bool.eq_iff_iff, decide_eq_true_eq, beq_iff_eq, ByteArray.toList_eq, ByteArray.toList_eq]
 constructor
 ·
  intro h
  exact ByteArray.ext (Array.ext' h)
 rintro rfl
 rfl
theorem dec_isM (m : UInt8) (k : Int) (s : ByteArray) : decide (isM m k s) = (decide (k = 2) && decide (s = bs [m])) := by
 by_cases h : isM m k s
 ·
  rw [decide_eq_true h, decide_eq_true h.1, decide_eq_true h.2]
  rfl
 rw [decide_eq_false h]
 by_cases h1 : k = 2
 ·
  rw [decide_eq_false (fun h2 => h ⟨h1, h2⟩), Bool.and_false]
 rw [decide_eq_false h1, Bool.false_and]
set_option maxHeartbeats 1000000 in
theorem isMark_is (m : UInt8) (t : Tv) (w : World) : Calls Tryz.prog 86 #[t.val, .string (bs [m])] w fun r w' => r = .returned (.bool (decide (isM m t.k t.s))) ∧ Below w.heap.size w w' := by
 obtain ⟨k, s, p, q⟩ := t
 have A1 := hide (balloc (brefl w) (.cells #[.int .i64 k, .string s, .int .i64 p, .int .i64 q] 95))
 simp only [Tv.val]
 rw [dec_isM]
 obtain ⟨M, hM⟩ : ∃ M, bs [m] = M := ⟨_, rfl⟩
 rw [hM]
 clear hM
 by_cases hk : k = 2
 ·
  subst hk
  have hb := beq_tl s M
  go_enter Tryz.func86, Tryz.ntmps86
  go_wp2_with fail
  go_ret
  exact ⟨by simp, A1.out⟩
 have hk' : (k == 2) = false := by rw [beq_eq_false_iff_ne]; exact hk
 go_enter Tryz.func86, Tryz.ntmps86
 go_wp2_with fail
 go_ret
 exact ⟨by simp [hk], A1.out⟩
end Go.Proofs.YtnadhplhnfpeaaaGreatDoor
