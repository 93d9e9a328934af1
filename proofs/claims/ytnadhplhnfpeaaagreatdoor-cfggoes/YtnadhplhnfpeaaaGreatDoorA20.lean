/- Part of the proof. -/
import Derived.Test.YtnadhplhnfpeaaaGreatDoorAZ
import Derived.Test.YtnadhplhnfpeaaaGreatDoorA19
namespace Go.Proofs.YtnadhplhnfpeaaaGreatDoor
open Go.RowKit Go.Sort
structure Rb where
  bx : Nat
  f1 : Nat
  rb : Nat
  f2 : Nat
  f3 : Nat
  c1 : Nat
  x1 : Nat
  c2 : Nat
  x2 : Nat
  c3 : Nat
  x3 : Nat
structure Rv where
  nm : ByteArray
  asn : Int
  id : Int
  vn : Value
  vb : Value
  vl : Value
  nets : List (Int × Int)
  nbs : List Nb
  links : List Lk
  n1 : List ByteArray
  n2 : List ByteArray
  n3 : List ByteArray
  r1 : Option Nat
  r2 : Option Nat
  r3 : Option Nat
def Rv.o1 (b : Rb) (v : Rv) : Oc := ⟨b.c1, b.x1, v.n1, v.r1⟩
def Rv.o2 (b : Rb) (v : Rv) : Oc := ⟨b.c2, b.x2, v.n2, v.r2⟩
def Rv.o3 (b : Rb) (v : Rv) : Oc := ⟨b.c3, b.x3, v.n3, v.r3⟩
def RtS (b : Rb) (v : Rv) (k : Nat) : Prop := k = b.rb ∨ (v.vn.ownBlock = some k ∨ v.vb.ownBlock = some k ∨ v.vl.ownBlock = some k) ∨ (v.o1 b).S k ∨ (v.o2 b).S k ∨ (v.o3 b).S k
structure RtAt (E : En) (b : Rb) (w : World) (v : Rv) : Prop where
  box : w.heap[b.bx]? = some (.cells #[.pointer (some ⟨E.pb, 0, none⟩)] 59 (0, 0))
  f1 : w.heap[b.f1]? = some (.cells #[Oc.fn ⟨b.c1, b.x1, [], none⟩] 96 (0, 0))
  f2 : w.heap[b.f2]? = some (.cells #[Oc.fn ⟨b.c2, b.x2, [], none⟩] 96 (0, 0))
  f3 : w.heap[b.f3]? = some (.cells #[Oc.fn ⟨b.c3, b.x3, [], none⟩] 96 (0, 0))
  mem : w.heap[b.rb]? = some (.cells #[.string v.nm, .int .i64 v.asn, .int .i64 v.id, v.vn, v.vb, v.vl] 50 (0, 0))
  nets : RowOf w E.w0.heap.size 107 2 PxC v.vn v.nets
  nbs : RowOf w E.w0.heap.size 113 4 NbC v.vb v.nbs
  links : RowOf w E.w0.heap.size 115 2 LkC v.vl v.links
  oc1 : OcAt E w (v.o1 b)
  oc2 : OcAt E w (v.o2 b)
  oc3 : OcAt E w (v.o3 b)
  far : (b.c1 ≠ b.c2 ∧ b.c1 ≠ b.c3 ∧ b.c2 ≠ b.c3) ∧ (∀ g, v.r1 = some g → ¬ v.r2 = some g ∧ ¬ v.r3 = some g) ∧ ∀ g, v.r2 = some g → ¬ v.r3 = some g
  base : E.w0.heap.size ≤ b.rb ∧ b.rb ≠ E.pb
theorem OcAt.keepT {E : En} {w w' : World} {o : Oc} {X : Nat → Prop} (h : OcAt E w o) (hb : But X w w') (h1 : Av w X 126) (h2 : Av w X 59) (h3 : Av w X 9) : OcAt E w' o := by
 obtain ⟨v, q1, _⟩ := h.row
 refine h.of hb (h1 _ _ q1) (h2 _ _ h.box) (fun g hg => ?_)
 obtain ⟨_, _, cs, hc⟩ := h.rb g hg
 exact h3 _ _ hc
theorem RtAt.keep {E : En} {b : Rb} {w w' : World} {X : Nat → Prop} {v : Rv} (h : RtAt E b w v) (hb : But X w w') (ha : ∀ t, t ≠ 62 → t ≠ 95 → Av w X t) : RtAt E b w' v := by
 have hn : AvT tNo w X := fun _ h => h.elim
 exact ⟨hb.keep h.box (ha 59 (by decide) (by decide) _ _ h.box), hb.keep h.f1 (ha 96 (by decide) (by decide) _ _ h.f1), hb.keep h.f2 (ha 96 (by decide) (by decide) _ _ h.f2), hb.keep h.f3 (ha 96 (by decide) (by decide) _ _ h.f3), hb.keep h.mem (ha 50 (by decide) (by decide) _ _ h.mem), RowOf.keep PxC.keeps h.nets hb hn (ha 107 (by decide) (by decide)), RowOf.keep NbC.keeps h.nbs hb hn (ha 113 (by decide) (by decide)), RowOf.keep LkC.keeps h.links hb hn (ha 115 (by decide) (by decide)), h.oc1.keepT hb (ha 126 (by decide) (by decide)) (ha 59 (by decide) (by decide)) (ha 9 (by decide) (by decide)), h.oc2.keepT hb (ha 126 (by decide) (by decide)) (ha 59 (by decide) (by decide)) (ha 9 (by decide) (by decide)), h.oc3.keepT hb (ha 126 (by decide) (by decide)) (ha 59 (by decide) (by decide)) (ha 9 (by decide) (by decide)), h.far, h.base⟩
theorem RtAt.below {E : En} {b : Rb} {w w' : World} {v : Rv} (h : RtAt E b w v) (hb : Below w.heap.size w w') : RtAt E b w' v := h.keep (X := fun _ => False) (But.of hb) (fun _ _ _ _ _ _ h => h)
theorem av_pb {E : En} {w : World} {st : Sta} {o : Oc} {t : Nat} (hp : Ps E w st) (ho : OcAt E w o) (h1 : t ≠ 62) (h2 : t ≠ 126) (h3 : t ≠ 9) : Av w (fun k => k = E.pb ∨ o.S k) t := av_or (hp.av h1) (ho.av h2 h3)
theorem av_pbs {E : En} {w : World} {st : Sta} (hp : Ps E w st) {t : Nat} (h1 : t ≠ 62) : Av w (fun k => k = E.pb) t := hp.av h1
theorem RtAt.told1 {E : En} {b : Rb} {w w' : World} {v : Rv} {st : Sta} (h : RtAt E b w v) (hp : Ps E w st) (hb : But (fun k => k = E.pb ∨ (v.o1 b).S k) w w') (n : List ByteArray) (r : Option Nat) (ho : OcAt E w' ⟨b.c1, b.x1, n, r⟩) (hl : ∀ g, r = some g → v.r1 = some g ∨ w.heap.size ≤ g) : RtAt E b w' { v with n1 := n, r1 := r } := by
 have hn : AvT tNo w (fun k => k = E.pb ∨ (v.o1 b).S k) := fun _ h => h.elim
 have ha := fun t h1 h2 h3 => av_pb (t := t) hp h.oc1 h1 h2 h3
 have e2 := fun g (hg : r = some g) (h2 : v.r2 = some g) => (hl g hg).elim (fun e => (h.far.2.1 g e).1 h2) (fun e => by have := (h.oc2.rb g h2).2.1; omega)
 have e3 := fun g (hg : r = some g) (h2 : v.r3 = some g) => (hl g hg).elim (fun e => (h.far.2.1 g e).2 h2) (fun e => by have := (h.oc3.rb g h2).2.1; omega)
 exact ⟨hb.keep h.box (ha 59 (by decide) (by decide) (by decide) _ _ h.box), hb.keep h.f1 (ha 96 (by decide) (by decide) (by decide) _ _ h.f1), hb.keep h.f2 (ha 96 (by decide) (by decide) (by decide) _ _ h.f2), hb.keep h.f3 (ha 96 (by decide) (by decide) (by decide) _ _ h.f3), hb.keep h.mem (ha 50 (by decide) (by decide) (by decide) _ _ h.mem), RowOf.keep PxC.keeps h.nets hb hn (ha 107 (by decide) (by decide) (by decide)), RowOf.keep NbC.keeps h.nbs hb hn (ha 113 (by decide) (by decide) (by decide)), RowOf.keep LkC.keeps h.links hb hn (ha 115 (by decide) (by decide) (by decide)), ho, h.oc2.beside h.oc1 (Ne.symm h.far.1.1) (fun g h1 h2 => (h.far.2.1 g h2).1 h1) hb (av_pbs hp (by decide)) (av_pbs hp (by decide)) (av_pbs hp (by decide)), h.oc3.beside h.oc1 (Ne.symm h.far.1.2.1) (fun g h1 h2 => (h.far.2.1 g h2).2 h1) hb (av_pbs hp (by decide)) (av_pbs hp (by decide)) (av_pbs hp (by decide)), ⟨h.far.1, fun g hg => ⟨e2 g hg, e3 g hg⟩, h.far.2.2⟩, h.base⟩
theorem RtAt.told2 {E : En} {b : Rb} {w w' : World} {v : Rv} {st : Sta} (h : RtAt E b w v) (hp : Ps E w st) (hb : But (fun k => k = E.pb ∨ (v.o2 b).S k) w w') (n : List ByteArray) (r : Option Nat) (ho : OcAt E w' ⟨b.c2, b.x2, n, r⟩) (hl : ∀ g, r = some g → v.r2 = some g ∨ w.heap.size ≤ g) : RtAt E b w' { v with n2 := n, r2 := r } := by
 have hn : AvT tNo w (fun k => k = E.pb ∨ (v.o2 b).S k) := fun _ h => h.elim
 have ha := fun t h1 h2 h3 => av_pb (t := t) hp h.oc2 h1 h2 h3
 have e1 := fun g (h2 : v.r1 = some g) (hg : r = some g) => (hl g hg).elim (fun e => (h.far.2.1 g h2).1 e) (fun e => by have := (h.oc1.rb g h2).2.1; omega)
 have e3 := fun g (hg : r = some g) (h2 : v.r3 = some g) => (hl g hg).elim (fun e => h.far.2.2 g e h2) (fun e => by have := (h.oc3.rb g h2).2.1; omega)
 exact ⟨hb.keep h.box (ha 59 (by decide) (by decide) (by decide) _ _ h.box), hb.keep h.f1 (ha 96 (by decide) (by decide) (by decide) _ _ h.f1), hb.keep h.f2 (ha 96 (by decide) (by decide) (by decide) _ _ h.f2), hb.keep h.f3 (ha 96 (by decide) (by decide) (by decide) _ _ h.f3), hb.keep h.mem (ha 50 (by decide) (by decide) (by decide) _ _ h.mem), RowOf.keep PxC.keeps h.nets hb hn (ha 107 (by decide) (by decide) (by decide)), RowOf.keep NbC.keeps h.nbs hb hn (ha 113 (by decide) (by decide) (by decide)), RowOf.keep LkC.keeps h.links hb hn (ha 115 (by decide) (by decide) (by decide)), h.oc1.beside h.oc2 h.far.1.1 (fun g h1 h2 => (h.far.2.1 g h1).1 h2) hb (av_pbs hp (by decide)) (av_pbs hp (by decide)) (av_pbs hp (by decide)), ho, h.oc3.beside h.oc2 (Ne.symm h.far.1.2.2) (fun g h1 h2 => h.far.2.2 g h2 h1) hb (av_pbs hp (by decide)) (av_pbs hp (by decide)) (av_pbs hp (by decide)), ⟨h.far.1, fun g hg => ⟨fun e => e1 g hg e, (h.far.2.1 g hg).2⟩, e3⟩, h.base⟩
theorem RtAt.told3 {E : En} {b : Rb} {w w' : World} {v : Rv} {st : Sta} (h : RtAt E b w v) (hp : Ps E w st) (hb : But (fun k => k = E.pb ∨ (v.o3 b).S k) w w') (n : List ByteArray) (r : Option Nat) (ho : OcAt E w' ⟨b.c3, b.x3, n, r⟩) (hl : ∀ g, r = some g → v.r3 = some g ∨ w.heap.size ≤ g) : RtAt E b w' { v with n3 := n, r3 := r } := by
 have hn : AvT tNo w (fun k => k = E.pb ∨ (v.o3 b).S k) := fun _ h => h.elim
 have ha := fun t h1 h2 h3 => av_pb (t := t) hp h.oc3 h1 h2 h3
 have e1 := fun g (h2 : v.r1 = some g) (hg : r = some g) => (hl g hg).elim (fun e => (h.far.2.1 g h2).2 e) (fun e => by have := (h.oc1.rb g h2).2.1; omega)
 have e2 := fun g (h2 : v.r2 = some g) (hg : r = some g) => (hl g hg).elim (fun e => h.far.2.2 g h2 e) (fun e => by have := (h.oc2.rb g h2).2.1; omega)
 exact ⟨hb.keep h.box (ha 59 (by decide) (by decide) (by decide) _ _ h.box), hb.keep h.f1 (ha 96 (by decide) (by decide) (by decide) _ _ h.f1), hb.keep h.f2 (ha 96 (by decide) (by decide) (by decide) _ _ h.f2), hb.keep h.f3 (ha 96 (by decide) (by decide) (by decide) _ _ h.f3), hb.keep h.mem (ha 50 (by decide) (by decide) (by decide) _ _ h.mem), RowOf.keep PxC.keeps h.nets hb hn (ha 107 (by decide) (by decide) (by decide)), RowOf.keep NbC.keeps h.nbs hb hn (ha 113 (by decide) (by decide) (by decide)), RowOf.keep LkC.keeps h.links hb hn (ha 115 (by decide) (by decide) (by decide)), h.oc1.beside h.oc3 h.far.1.2.1 (fun g h1 h2 => (h.far.2.1 g h1).2 h2) hb (av_pbs hp (by decide)) (av_pbs hp (by decide)) (av_pbs hp (by decide)), h.oc2.beside h.oc3 h.far.1.2.2 (fun g h1 h2 => h.far.2.2 g h1 h2) hb (av_pbs hp (by decide)) (av_pbs hp (by decide)) (av_pbs hp (by decide)), ho, ⟨h.far.1, fun g hg => ⟨(h.far.2.1 g hg).1, fun e => e1 g hg e⟩, fun g hg e => e2 g hg e⟩, h.base⟩
structure RtFar (E : En) (b : Rb) (w : World) (v : Rv) : Prop where
  box : w.heap[b.bx]? = some (.cells #[.pointer (some ⟨E.pb, 0, none⟩)] 59 (0, 0))
  f1 : w.heap[b.f1]? = some (.cells #[Oc.fn ⟨b.c1, b.x1, [], none⟩] 96 (0, 0))
  f2 : w.heap[b.f2]? = some (.cells #[Oc.fn ⟨b.c2, b.x2, [], none⟩] 96 (0, 0))
  f3 : w.heap[b.f3]? = some (.cells #[Oc.fn ⟨b.c3, b.x3, [], none⟩] 96 (0, 0))
  oc1 : OcAt E w (v.o1 b)
  oc2 : OcAt E w (v.o2 b)
  oc3 : OcAt E w (v.o3 b)
theorem RtAt.rest {E : En} {b : Rb} {w w' : World} {X : Nat → Prop} {v : Rv} (h : RtAt E b w v) (hb : But X w w') (ha : ∀ t, t = 59 ∨ t = 96 ∨ t = 126 ∨ t = 9 → Av w X t) : RtFar E b w' v :=
  ⟨hb.keep h.box (ha 59 (by simp) _ _ h.box), hb.keep h.f1 (ha 96 (by simp) _ _ h.f1), hb.keep h.f2 (ha 96 (by simp) _ _ h.f2), hb.keep h.f3 (ha 96 (by simp) _ _ h.f3), h.oc1.keepT hb (ha 126 (by simp)) (ha 59 (by simp)) (ha 9 (by simp)), h.oc2.keepT hb (ha 126 (by simp)) (ha 59 (by simp)) (ha 9 (by simp)), h.oc3.keepT hb (ha 126 (by simp)) (ha 59 (by simp)) (ha 9 (by simp))⟩
theorem six_set {w : World} {b t : Nat} {x0 x1 x2 x3 x4 x5 : Value} (h : w.heap[b]? = some (.cells #[x0, x1, x2, x3, x4, x5] t (0, 0))) : (∀ u, (w.setCell ⟨b, 1, none⟩ u).heap[b]? = some (.cells #[x0, u, x2, x3, x4, x5] t (0, 0))) ∧ (∀ u, (w.setCell ⟨b, 2, none⟩ u).heap[b]? = some (.cells #[x0, x1, u, x3, x4, x5] t (0, 0))) ∧ (∀ u, (w.setCell ⟨b, 3, none⟩ u).heap[b]? = some (.cells #[x0, x1, x2, u, x4, x5] t (0, 0))) ∧ (∀ u, (w.setCell ⟨b, 4, none⟩ u).heap[b]? = some (.cells #[x0, x1, x2, x3, u, x5] t (0, 0))) ∧ ∀ u, (w.setCell ⟨b, 5, none⟩ u).heap[b]? = some (.cells #[x0, x1, x2, x3, x4, u] t (0, 0)) :=
  ⟨fun u => heap_setCell_same w b 1 _ t u h, fun u => heap_setCell_same w b 2 _ t u h, fun u => heap_setCell_same w b 3 _ t u h, fun u => heap_setCell_same w b 4 _ t u h, fun u => heap_setCell_same w b 5 _ t u h⟩
theorem RtAt.set1 {E : En} {b : Rb} {w : World} {v : Rv} (h : RtAt E b w v) (n : Int) : RtAt E b (w.setCell ⟨b.rb, 1, none⟩ (.int .i64 n)) { v with asn := n } := by
 have hb := (But.refl (fun k => k = b.rb) w).setCell (p := ⟨b.rb, 1, none⟩) (.inl rfl) (.int .i64 n)
 have ha := fun t (ht : (50 : Nat) ≠ t) => av_one h.mem ht
 have r := h.rest hb (fun t ht => ha t (by rcases ht with rfl | rfl | rfl | rfl <;> decide))
 exact ⟨r.box, r.f1, r.f2, r.f3, (six_set h.mem).1 _, RowOf.keep PxC.keeps h.nets hb (fun _ h => h.elim) (ha 107 (by decide)), RowOf.keep NbC.keeps h.nbs hb (fun _ h => h.elim) (ha 113 (by decide)), RowOf.keep LkC.keeps h.links hb (fun _ h => h.elim) (ha 115 (by decide)), r.oc1, r.oc2, r.oc3, h.far, h.base⟩
theorem RtAt.set2 {E : En} {b : Rb} {w : World} {v : Rv} (h : RtAt E b w v) (n : Int) : RtAt E b (w.setCell ⟨b.rb, 2, none⟩ (.int .i64 n)) { v with id := n } := by
 have hb := (But.refl (fun k => k = b.rb) w).setCell (p := ⟨b.rb, 2, none⟩) (.inl rfl) (.int .i64 n)
 have ha := fun t (ht : (50 : Nat) ≠ t) => av_one h.mem ht
 have r := h.rest hb (fun t ht => ha t (by rcases ht with rfl | rfl | rfl | rfl <;> decide))
 exact ⟨r.box, r.f1, r.f2, r.f3, (six_set h.mem).2.1 _, RowOf.keep PxC.keeps h.nets hb (fun _ h => h.elim) (ha 107 (by decide)), RowOf.keep NbC.keeps h.nbs hb (fun _ h => h.elim) (ha 113 (by decide)), RowOf.keep LkC.keeps h.links hb (fun _ h => h.elim) (ha 115 (by decide)), r.oc1, r.oc2, r.oc3, h.far, h.base⟩
theorem grown_but {w w' : World} {v : Value} (g : w.grownBy w' v.ownBlock) : But (fun k => v.ownBlock = some k) w w' := ⟨g.os, g.tape, g.output, g.size, fun k hk hl => g.block k hl (fun e => hk e.symm)⟩
theorem row_av' {α : Type} {R : World → α → List Value → Prop} {w : World} {B ty z : Nat} {v : Value} {l : List α} (h : RowOf w B ty z R v l) (t : Nat) (ht : ty ≠ t) : Av w (fun k => v.ownBlock = some k) t := fun k cs hk e => by
  obtain ⟨_, _, cs', hc⟩ := h.lt k e
  rw [hk] at hc
  cases hc
  exact ht rfl
theorem RtAt.push1 {E : En} {b : Rb} {w w' : World} {v : Rv} (h : RtAt E b w v) (g : w.grownBy w' v.vn.ownBlock) (v' : Value) (x : Int × Int) (hr : RowOf w' E.w0.heap.size 107 2 PxC v' (v.nets ++ [x])) : RtAt E b (w'.setCell ⟨b.rb, 3, none⟩ v') { v with vn := v', nets := v.nets ++ [x] } := by
 have hb := grown_but g
 have ha := fun t (ht : (107 : Nat) ≠ t) => row_av' h.nets t ht
 have r := h.rest hb (fun t ht => ha t (by rcases ht with rfl | rfl | rfl | rfl <;> decide))
 have m := hb.keep h.mem (ha 50 (by decide) _ _ h.mem)
 have k1 := RowOf.keep NbC.keeps h.nbs hb (fun _ h => h.elim) (ha 113 (by decide))
 have k2 := RowOf.keep LkC.keeps h.links hb (fun _ h => h.elim) (ha 115 (by decide))
 have hb2 := (But.refl (fun k => k = b.rb) w').setCell (p := ⟨b.rb, 3, none⟩) (.inl rfl) v'
 have ha2 := fun t (ht : (50 : Nat) ≠ t) => av_one m ht
 exact ⟨hb2.keep r.box (ha2 59 (by decide) _ _ r.box), hb2.keep r.f1 (ha2 96 (by decide) _ _ r.f1), hb2.keep r.f2 (ha2 96 (by decide) _ _ r.f2), hb2.keep r.f3 (ha2 96 (by decide) _ _ r.f3), (six_set m).2.2.1 _, RowOf.keep PxC.keeps hr hb2 (fun _ h => h.elim) (ha2 107 (by decide)), RowOf.keep NbC.keeps k1 hb2 (fun _ h => h.elim) (ha2 113 (by decide)), RowOf.keep LkC.keeps k2 hb2 (fun _ h => h.elim) (ha2 115 (by decide)), r.oc1.keepT hb2 (ha2 126 (by decide)) (ha2 59 (by decide)) (ha2 9 (by decide)), r.oc2.keepT hb2 (ha2 126 (by decide)) (ha2 59 (by decide)) (ha2 9 (by decide)), r.oc3.keepT hb2 (ha2 126 (by decide)) (ha2 59 (by decide)) (ha2 9 (by decide)), h.far, h.base⟩
theorem RtAt.push2 {E : En} {b : Rb} {w w' : World} {v : Rv} (h : RtAt E b w v) (g : w.grownBy w' v.vb.ownBlock) (v' : Value) (x : Nb) (hr : RowOf w' E.w0.heap.size 113 4 NbC v' (v.nbs ++ [x])) : RtAt E b (w'.setCell ⟨b.rb, 4, none⟩ v') { v with vb := v', nbs := v.nbs ++ [x] } := by
 have hb := grown_but g
 have ha := fun t (ht : (113 : Nat) ≠ t) => row_av' h.nbs t ht
 have r := h.rest hb (fun t ht => ha t (by rcases ht with rfl | rfl | rfl | rfl <;> decide))
 have m := hb.keep h.mem (ha 50 (by decide) _ _ h.mem)
 have k1 := RowOf.keep PxC.keeps h.nets hb (fun _ h => h.elim) (ha 107 (by decide))
 have k2 := RowOf.keep LkC.keeps h.links hb (fun _ h => h.elim) (ha 115 (by decide))
 have hb2 := (But.refl (fun k => k = b.rb) w').setCell (p := ⟨b.rb, 4, none⟩) (.inl rfl) v'
 have ha2 := fun t (ht : (50 : Nat) ≠ t) => av_one m ht
 exact ⟨hb2.keep r.box (ha2 59 (by decide) _ _ r.box), hb2.keep r.f1 (ha2 96 (by decide) _ _ r.f1), hb2.keep r.f2 (ha2 96 (by decide) _ _ r.f2), hb2.keep r.f3 (ha2 96 (by decide) _ _ r.f3), (six_set m).2.2.2.1 _, RowOf.keep PxC.keeps k1 hb2 (fun _ h => h.elim) (ha2 107 (by decide)), RowOf.keep NbC.keeps hr hb2 (fun _ h => h.elim) (ha2 113 (by decide)), RowOf.keep LkC.keeps k2 hb2 (fun _ h => h.elim) (ha2 115 (by decide)), r.oc1.keepT hb2 (ha2 126 (by decide)) (ha2 59 (by decide)) (ha2 9 (by decide)), r.oc2.keepT hb2 (ha2 126 (by decide)) (ha2 59 (by decide)) (ha2 9 (by decide)), r.oc3.keepT hb2 (ha2 126 (by decide)) (ha2 59 (by decide)) (ha2 9 (by decide)), h.far, h.base⟩
theorem RtAt.push3 {E : En} {b : Rb} {w w' : World} {v : Rv} (h : RtAt E b w v) (g : w.grownBy w' v.vl.ownBlock) (v' : Value) (x : Lk) (hr : RowOf w' E.w0.heap.size 115 2 LkC v' (v.links ++ [x])) : RtAt E b (w'.setCell ⟨b.rb, 5, none⟩ v') { v with vl := v', links := v.links ++ [x] } := by
 have hb := grown_but g
 have ha := fun t (ht : (115 : Nat) ≠ t) => row_av' h.links t ht
 have r := h.rest hb (fun t ht => ha t (by rcases ht with rfl | rfl | rfl | rfl <;> decide))
 have m := hb.keep h.mem (ha 50 (by decide) _ _ h.mem)
 have k1 := RowOf.keep PxC.keeps h.nets hb (fun _ h => h.elim) (ha 107 (by decide))
 have k2 := RowOf.keep NbC.keeps h.nbs hb (fun _ h => h.elim) (ha 113 (by decide))
 have hb2 := (But.refl (fun k => k = b.rb) w').setCell (p := ⟨b.rb, 5, none⟩) (.inl rfl) v'
 have ha2 := fun t (ht : (50 : Nat) ≠ t) => av_one m ht
 exact ⟨hb2.keep r.box (ha2 59 (by decide) _ _ r.box), hb2.keep r.f1 (ha2 96 (by decide) _ _ r.f1), hb2.keep r.f2 (ha2 96 (by decide) _ _ r.f2), hb2.keep r.f3 (ha2 96 (by decide) _ _ r.f3), (six_set m).2.2.2.2 _, RowOf.keep PxC.keeps k1 hb2 (fun _ h => h.elim) (ha2 107 (by decide)), RowOf.keep NbC.keeps k2 hb2 (fun _ h => h.elim) (ha2 113 (by decide)), RowOf.keep LkC.keeps hr hb2 (fun _ h => h.elim) (ha2 115 (by decide)), r.oc1.keepT hb2 (ha2 126 (by decide)) (ha2 59 (by decide)) (ha2 9 (by decide)), r.oc2.keepT hb2 (ha2 126 (by decide)) (ha2 59 (by decide)) (ha2 9 (by decide)), r.oc3.keepT hb2 (ha2 126 (by decide)) (ha2 59 (by decide)) (ha2 9 (by decide)), h.far, h.base⟩
theorem RtAt.lt {E : En} {b : Rb} {w : World} {v : Rv} (h : RtAt E b w v) : ∀ k, RtS b v k → k < w.heap.size ∧ E.w0.heap.size ≤ k := by
 have ho : ∀ {o : Oc}, OcAt E w o → ∀ k, o.S k → k < w.heap.size ∧ E.w0.heap.size ≤ k := fun {o} ho k hk => by
  rcases hk with rfl | e
  ·
   exact ⟨ho.lt.1, ho.base.1⟩
  exact ⟨(ho.rb k e).2.1, (ho.rb k e).1⟩
 rintro k (rfl | (e | e | e) | e | e | e)
 ·
  exact ⟨heap_lt h.mem, h.base.1⟩
 ·
  exact ⟨(h.nets.lt k e).2.1, (h.nets.lt k e).1⟩
 ·
  exact ⟨(h.nbs.lt k e).2.1, (h.nbs.lt k e).1⟩
 ·
  exact ⟨(h.links.lt k e).2.1, (h.links.lt k e).1⟩
 ·
  exact ho h.oc1 k e
 ·
  exact ho h.oc2 k e
 exact ho h.oc3 k e
end Go.Proofs.YtnadhplhnfpeaaaGreatDoor
