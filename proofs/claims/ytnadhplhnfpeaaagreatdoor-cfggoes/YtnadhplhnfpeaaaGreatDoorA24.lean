/- Part of the proof. -/
import Derived.Test.YtnadhplhnfpeaaaGreatDoorAZ
import Derived.Test.YtnadhplhnfpeaaaGreatDoorA23
namespace Go.Proofs.YtnadhplhnfpeaaaGreatDoor
open Go.RowKit Go.Sort
structure Cv where
  cb : Nat
  c1 : Nat
  x1 : Nat
  c2 : Nat
  x2 : Nat
  c3 : Nat
  x3 : Nat
  v1 : Value
  v2 : Value
  v3 : Value
  lists : List Ls
  maps : List Mp
  routers : List Rt
  n1 : List ByteArray
  n2 : List ByteArray
  n3 : List ByteArray
  r1 : Option Nat
  r2 : Option Nat
  r3 : Option Nat
def Cv.o1 (v : Cv) : Oc := ⟨v.c1, v.x1, v.n1, v.r1⟩
def Cv.o2 (v : Cv) : Oc := ⟨v.c2, v.x2, v.n2, v.r2⟩
def Cv.o3 (v : Cv) : Oc := ⟨v.c3, v.x3, v.n3, v.r3⟩
def Cv.cf (v : Cv) : Cf := ⟨v.lists, v.maps, v.routers⟩
structure CvAt (E : En) (B : Nat) (w : World) (v : Cv) : Prop where
  mem : w.heap[v.cb]? = some (.cells #[v.v1, v.v2, v.v3] 33 (0, 0))
  lists : RowOf w B 66 2 LsC v.v1 v.lists
  maps : RowOf w B 70 2 MpC v.v2 v.maps
  routers : RowOf w B 50 6 RtC v.v3 v.routers
  oc1 : OcAt E w v.o1
  oc2 : OcAt E w v.o2
  oc3 : OcAt E w v.o3
  far : (v.c1 ≠ v.c2 ∧ v.c1 ≠ v.c3 ∧ v.c2 ≠ v.c3) ∧ (∀ g, v.r1 = some g → ¬ v.r2 = some g ∧ ¬ v.r3 = some g) ∧ ∀ g, v.r2 = some g → ¬ v.r3 = some g
  base : (E.w0.heap.size ≤ B ∧ B ≤ w.heap.size) ∧ B ≤ v.cb ∧ v.cb ≠ E.pb ∧ B ≤ v.c1 ∧ B ≤ v.c2 ∧ B ≤ v.c3 ∧ (∀ g, v.r1 = some g → B ≤ g) ∧ (∀ g, v.r2 = some g → B ≤ g) ∧ ∀ g, v.r3 = some g → B ≤ g
def tAll (t : Nat) : Prop := t = 33 ∨ t = 66 ∨ t = 70 ∨ t = 50 ∨ t = 109 ∨ t = 73 ∨ t = 3 ∨ t = 81 ∨ t = 107 ∨ t = 113 ∨ t = 115
theorem tLs.all {t : Nat} (h : tLs t) : tAll t := by obtain rfl : t = 109 := h; simp [tAll]
theorem tMp.all {t : Nat} (h : tMp t) : tAll t := by rcases h with rfl | rfl | rfl <;> simp [tAll]
theorem tRt.all {t : Nat} (h : tRt t) : tAll t := by rcases h with rfl | rfl | rfl <;> simp [tAll]
theorem tAll.ne {t : Nat} (h : tAll t) : t ≠ 62 ∧ t ≠ 126 ∧ t ≠ 9 ∧ t ≠ 59 ∧ t ≠ 95 := by
 rcases h with rfl | rfl | rfl | rfl | rfl | rfl | rfl | rfl | rfl | rfl | rfl <;> decide
section
variable {E : En} {B : Nat} {w w' : World} {v : Cv} {X : Nat → Prop}
theorem CvAt.keep (h : CvAt E B w v) (hb : But X w w') (ha : ∀ t, t ≠ 62 → t ≠ 95 → Av w X t) : CvAt E B w' v := by
 have a := fun t (h : tAll t) => ha t h.ne.1 h.ne.2.2.2.2
 exact ⟨hb.keep h.mem (a 33 (by simp [tAll]) _ _ h.mem), RowOf.keep LsC.keeps h.lists hb (fun t h => a t h.all) (a 66 (by simp [tAll])), RowOf.keep MpC.keeps h.maps hb (fun t h => a t h.all) (a 70 (by simp [tAll])), RowOf.keep RtC.keeps h.routers hb (fun t h => a t h.all) (a 50 (by simp [tAll])), h.oc1.keepT hb (ha 126 (by decide) (by decide)) (ha 59 (by decide) (by decide)) (ha 9 (by decide) (by decide)), h.oc2.keepT hb (ha 126 (by decide) (by decide)) (ha 59 (by decide) (by decide)) (ha 9 (by decide) (by decide)), h.oc3.keepT hb (ha 126 (by decide) (by decide)) (ha 59 (by decide) (by decide)) (ha 9 (by decide) (by decide)), h.far, ⟨⟨h.base.1.1, Nat.le_trans h.base.1.2 hb.size⟩, h.base.2⟩⟩
theorem CvAt.below (h : CvAt E B w v) (hb : Below w.heap.size w w') : CvAt E B w' v := h.keep (X := fun _ => False) (But.of hb) (fun _ _ _ _ _ _ h => h)
theorem CvAt.told1 {st : Sta} (h : CvAt E B w v) (hp : Ps E w st) (hb : But (fun k => k = E.pb ∨ v.o1.S k) w w') (n : List ByteArray) (r : Option Nat) (ho : OcAt E w' ⟨v.c1, v.x1, n, r⟩) (hl : ∀ g, r = some g → v.r1 = some g ∨ w.heap.size ≤ g) : CvAt E B w' { v with n1 := n, r1 := r } := by
 have a := fun t (ht : tAll t) => av_pb (t := t) hp h.oc1 ht.ne.1 ht.ne.2.1 ht.ne.2.2.1
 have hB : ∀ g, r = some g → B ≤ g := fun g hg => (hl g hg).elim (fun e => h.base.2.2.2.2.2.2.1 g e) (fun e => Nat.le_trans h.base.1.2 e)
 have e2 : ∀ g, v.r2 = some g → ¬ r = some g := fun g hj hg => (hl g hg).elim (fun e => (h.far.2.1 g e).1 hj) (fun e => by have := (h.oc2.rb g hj).2.1; omega)
 have e3 : ∀ g, v.r3 = some g → ¬ r = some g := fun g hj hg => (hl g hg).elim (fun e => (h.far.2.1 g e).2 hj) (fun e => by have := (h.oc3.rb g hj).2.1; omega)
 exact ⟨hb.keep h.mem (a 33 (by simp [tAll]) _ _ h.mem), RowOf.keep LsC.keeps h.lists hb (fun t h => a t h.all) (a 66 (by simp [tAll])), RowOf.keep MpC.keeps h.maps hb (fun t h => a t h.all) (a 70 (by simp [tAll])), RowOf.keep RtC.keeps h.routers hb (fun t h => a t h.all) (a 50 (by simp [tAll])), ho, h.oc2.beside h.oc1 (Ne.symm h.far.1.1) (fun g hj hi => (h.far.2.1 g hi).1 hj) hb (av_pbs hp (by decide)) (av_pbs hp (by decide)) (av_pbs hp (by decide)), h.oc3.beside h.oc1 (Ne.symm h.far.1.2.1) (fun g hj hi => (h.far.2.1 g hi).2 hj) hb (av_pbs hp (by decide)) (av_pbs hp (by decide)) (av_pbs hp (by decide)), ⟨h.far.1, fun g hg => ⟨fun e => e2 g e hg, fun e => e3 g e hg⟩, h.far.2.2⟩, ⟨⟨h.base.1.1, Nat.le_trans h.base.1.2 hb.size⟩, h.base.2.1, h.base.2.2.1, h.base.2.2.2.1, h.base.2.2.2.2.1, h.base.2.2.2.2.2.1, hB, h.base.2.2.2.2.2.2.2.1, h.base.2.2.2.2.2.2.2.2⟩⟩
theorem CvAt.told2 {st : Sta} (h : CvAt E B w v) (hp : Ps E w st) (hb : But (fun k => k = E.pb ∨ v.o2.S k) w w') (n : List ByteArray) (r : Option Nat) (ho : OcAt E w' ⟨v.c2, v.x2, n, r⟩) (hl : ∀ g, r = some g → v.r2 = some g ∨ w.heap.size ≤ g) : CvAt E B w' { v with n2 := n, r2 := r } := by
 have a := fun t (ht : tAll t) => av_pb (t := t) hp h.oc2 ht.ne.1 ht.ne.2.1 ht.ne.2.2.1
 have hB : ∀ g, r = some g → B ≤ g := fun g hg => (hl g hg).elim (fun e => h.base.2.2.2.2.2.2.2.1 g e) (fun e => Nat.le_trans h.base.1.2 e)
 have e1 : ∀ g, v.r1 = some g → ¬ r = some g := fun g hj hg => (hl g hg).elim (fun e => (h.far.2.1 g hj).1 e) (fun e => by have := (h.oc1.rb g hj).2.1; omega)
 have e3 : ∀ g, v.r3 = some g → ¬ r = some g := fun g hj hg => (hl g hg).elim (fun e => h.far.2.2 g e hj) (fun e => by have := (h.oc3.rb g hj).2.1; omega)
 exact ⟨hb.keep h.mem (a 33 (by simp [tAll]) _ _ h.mem), RowOf.keep LsC.keeps h.lists hb (fun t h => a t h.all) (a 66 (by simp [tAll])), RowOf.keep MpC.keeps h.maps hb (fun t h => a t h.all) (a 70 (by simp [tAll])), RowOf.keep RtC.keeps h.routers hb (fun t h => a t h.all) (a 50 (by simp [tAll])), h.oc1.beside h.oc2 h.far.1.1 (fun g hj hi => (h.far.2.1 g hj).1 hi) hb (av_pbs hp (by decide)) (av_pbs hp (by decide)) (av_pbs hp (by decide)), ho, h.oc3.beside h.oc2 (Ne.symm h.far.1.2.2) (fun g hj hi => h.far.2.2 g hi hj) hb (av_pbs hp (by decide)) (av_pbs hp (by decide)) (av_pbs hp (by decide)), ⟨h.far.1, fun g hg => ⟨e1 g hg, (h.far.2.1 g hg).2⟩, fun g hg e => e3 g e hg⟩, ⟨⟨h.base.1.1, Nat.le_trans h.base.1.2 hb.size⟩, h.base.2.1, h.base.2.2.1, h.base.2.2.2.1, h.base.2.2.2.2.1, h.base.2.2.2.2.2.1, h.base.2.2.2.2.2.2.1, hB, h.base.2.2.2.2.2.2.2.2⟩⟩
theorem CvAt.told3 {st : Sta} (h : CvAt E B w v) (hp : Ps E w st) (hb : But (fun k => k = E.pb ∨ v.o3.S k) w w') (n : List ByteArray) (r : Option Nat) (ho : OcAt E w' ⟨v.c3, v.x3, n, r⟩) (hl : ∀ g, r = some g → v.r3 = some g ∨ w.heap.size ≤ g) : CvAt E B w' { v with n3 := n, r3 := r } := by
 have a := fun t (ht : tAll t) => av_pb (t := t) hp h.oc3 ht.ne.1 ht.ne.2.1 ht.ne.2.2.1
 have hB : ∀ g, r = some g → B ≤ g := fun g hg => (hl g hg).elim (fun e => h.base.2.2.2.2.2.2.2.2 g e) (fun e => Nat.le_trans h.base.1.2 e)
 have e1 : ∀ g, v.r1 = some g → ¬ r = some g := fun g hj hg => (hl g hg).elim (fun e => (h.far.2.1 g hj).2 e) (fun e => by have := (h.oc1.rb g hj).2.1; omega)
 have e2 : ∀ g, v.r2 = some g → ¬ r = some g := fun g hj hg => (hl g hg).elim (fun e => h.far.2.2 g hj e) (fun e => by have := (h.oc2.rb g hj).2.1; omega)
 exact ⟨hb.keep h.mem (a 33 (by simp [tAll]) _ _ h.mem), RowOf.keep LsC.keeps h.lists hb (fun t h => a t h.all) (a 66 (by simp [tAll])), RowOf.keep MpC.keeps h.maps hb (fun t h => a t h.all) (a 70 (by simp [tAll])), RowOf.keep RtC.keeps h.routers hb (fun t h => a t h.all) (a 50 (by simp [tAll])), h.oc1.beside h.oc3 h.far.1.2.1 (fun g hj hi => (h.far.2.1 g hj).2 hi) hb (av_pbs hp (by decide)) (av_pbs hp (by decide)) (av_pbs hp (by decide)), h.oc2.beside h.oc3 h.far.1.2.2 (fun g hj hi => h.far.2.2 g hj hi) hb (av_pbs hp (by decide)) (av_pbs hp (by decide)) (av_pbs hp (by decide)), ho, ⟨h.far.1, fun g hg => ⟨(h.far.2.1 g hg).1, e1 g hg⟩, fun g hg => e2 g hg⟩, ⟨⟨h.base.1.1, Nat.le_trans h.base.1.2 hb.size⟩, h.base.2.1, h.base.2.2.1, h.base.2.2.2.1, h.base.2.2.2.2.1, h.base.2.2.2.2.2.1, h.base.2.2.2.2.2.2.1, h.base.2.2.2.2.2.2.2.1, hB⟩⟩
theorem CvAt.push1 (h : CvAt E B w v) (g : w.grownBy w' v.v1.ownBlock) (v' : Value) (x : Ls) (hr : RowOf w' B 66 2 LsC v' (v.lists ++ [x])) : CvAt E B (w'.setCell ⟨v.cb, 0, none⟩ v') { v with v1 := v', lists := v.lists ++ [x] } := by
 have hb := grown_but g
 have ha := fun t (ht : (66 : Nat) ≠ t) => row_av' h.lists t ht
 have m := hb.keep h.mem (ha 33 (by decide) _ _ h.mem)
 have k1 := RowOf.keep MpC.keeps h.maps hb (fun t ht => ha t (by intro e; subst e; revert ht; simp [tMp])) (ha 70 (by decide))
 have k2 := RowOf.keep RtC.keeps h.routers hb (fun t ht => ha t (by intro e; subst e; revert ht; simp [tRt])) (ha 50 (by decide))
 have o1 := h.oc1.keepT hb (ha 126 (by decide)) (ha 59 (by decide)) (ha 9 (by decide))
 have o2 := h.oc2.keepT hb (ha 126 (by decide)) (ha 59 (by decide)) (ha 9 (by decide))
 have o3 := h.oc3.keepT hb (ha 126 (by decide)) (ha 59 (by decide)) (ha 9 (by decide))
 have hb2 := (But.refl (fun k => k = v.cb) w').setCell (p := ⟨v.cb, 0, none⟩) (.inl rfl) v'
 have ha2 := fun t (ht : (33 : Nat) ≠ t) => av_one m ht
 have q0 := RowOf.keep LsC.keeps hr hb2 (fun t ht => ha2 t (by intro e; subst e; revert ht; simp [tLs])) (ha2 66 (by decide))
 have q1 := RowOf.keep MpC.keeps k1 hb2 (fun t ht => ha2 t (by intro e; subst e; revert ht; simp [tMp])) (ha2 70 (by decide))
 have q2 := RowOf.keep RtC.keeps k2 hb2 (fun t ht => ha2 t (by intro e; subst e; revert ht; simp [tRt])) (ha2 50 (by decide))
 exact ⟨heap_setCell_same _ v.cb 0 _ 33 v' m, q0, q1, q2, o1.keepT hb2 (ha2 126 (by decide)) (ha2 59 (by decide)) (ha2 9 (by decide)), o2.keepT hb2 (ha2 126 (by decide)) (ha2 59 (by decide)) (ha2 9 (by decide)), o3.keepT hb2 (ha2 126 (by decide)) (ha2 59 (by decide)) (ha2 9 (by decide)), h.far, ⟨⟨h.base.1.1, Nat.le_trans h.base.1.2 (Nat.le_trans g.size hb2.size)⟩, h.base.2⟩⟩
theorem CvAt.push2 (h : CvAt E B w v) (g : w.grownBy w' v.v2.ownBlock) (v' : Value) (x : Mp) (hr : RowOf w' B 70 2 MpC v' (v.maps ++ [x])) : CvAt E B (w'.setCell ⟨v.cb, 1, none⟩ v') { v with v2 := v', maps := v.maps ++ [x] } := by
 have hb := grown_but g
 have ha := fun t (ht : (70 : Nat) ≠ t) => row_av' h.maps t ht
 have m := hb.keep h.mem (ha 33 (by decide) _ _ h.mem)
 have k1 := RowOf.keep LsC.keeps h.lists hb (fun t ht => ha t (by intro e; subst e; revert ht; simp [tLs])) (ha 66 (by decide))
 have k2 := RowOf.keep RtC.keeps h.routers hb (fun t ht => ha t (by intro e; subst e; revert ht; simp [tRt])) (ha 50 (by decide))
 have o1 := h.oc1.keepT hb (ha 126 (by decide)) (ha 59 (by decide)) (ha 9 (by decide))
 have o2 := h.oc2.keepT hb (ha 126 (by decide)) (ha 59 (by decide)) (ha 9 (by decide))
 have o3 := h.oc3.keepT hb (ha 126 (by decide)) (ha 59 (by decide)) (ha 9 (by decide))
 have hb2 := (But.refl (fun k => k = v.cb) w').setCell (p := ⟨v.cb, 1, none⟩) (.inl rfl) v'
 have ha2 := fun t (ht : (33 : Nat) ≠ t) => av_one m ht
 have q0 := RowOf.keep MpC.keeps hr hb2 (fun t ht => ha2 t (by intro e; subst e; revert ht; simp [tMp])) (ha2 70 (by decide))
 have q1 := RowOf.keep LsC.keeps k1 hb2 (fun t ht => ha2 t (by intro e; subst e; revert ht; simp [tLs])) (ha2 66 (by decide))
 have q2 := RowOf.keep RtC.keeps k2 hb2 (fun t ht => ha2 t (by intro e; subst e; revert ht; simp [tRt])) (ha2 50 (by decide))
 exact ⟨heap_setCell_same _ v.cb 1 _ 33 v' m, q1, q0, q2, o1.keepT hb2 (ha2 126 (by decide)) (ha2 59 (by decide)) (ha2 9 (by decide)), o2.keepT hb2 (ha2 126 (by decide)) (ha2 59 (by decide)) (ha2 9 (by decide)), o3.keepT hb2 (ha2 126 (by decide)) (ha2 59 (by decide)) (ha2 9 (by decide)), h.far, ⟨⟨h.base.1.1, Nat.le_trans h.base.1.2 (Nat.le_trans g.size hb2.size)⟩, h.base.2⟩⟩
theorem CvAt.push3 (h : CvAt E B w v) (g : w.grownBy w' v.v3.ownBlock) (v' : Value) (x : Rt) (hr : RowOf w' B 50 6 RtC v' (v.routers ++ [x])) : CvAt E B (w'.setCell ⟨v.cb, 2, none⟩ v') { v with v3 := v', routers := v.routers ++ [x] } := by
 have hb := grown_but g
 have ha := fun t (ht : (50 : Nat) ≠ t) => row_av' h.routers t ht
 have m := hb.keep h.mem (ha 33 (by decide) _ _ h.mem)
 have k1 := RowOf.keep LsC.keeps h.lists hb (fun t ht => ha t (by intro e; subst e; revert ht; simp [tLs])) (ha 66 (by decide))
 have k2 := RowOf.keep MpC.keeps h.maps hb (fun t ht => ha t (by intro e; subst e; revert ht; simp [tMp])) (ha 70 (by decide))
 have o1 := h.oc1.keepT hb (ha 126 (by decide)) (ha 59 (by decide)) (ha 9 (by decide))
 have o2 := h.oc2.keepT hb (ha 126 (by decide)) (ha 59 (by decide)) (ha 9 (by decide))
 have o3 := h.oc3.keepT hb (ha 126 (by decide)) (ha 59 (by decide)) (ha 9 (by decide))
 have hb2 := (But.refl (fun k => k = v.cb) w').setCell (p := ⟨v.cb, 2, none⟩) (.inl rfl) v'
 have ha2 := fun t (ht : (33 : Nat) ≠ t) => av_one m ht
 have q0 := RowOf.keep RtC.keeps hr hb2 (fun t ht => ha2 t (by intro e; subst e; revert ht; simp [tRt])) (ha2 50 (by decide))
 have q1 := RowOf.keep LsC.keeps k1 hb2 (fun t ht => ha2 t (by intro e; subst e; revert ht; simp [tLs])) (ha2 66 (by decide))
 have q2 := RowOf.keep MpC.keeps k2 hb2 (fun t ht => ha2 t (by intro e; subst e; revert ht; simp [tMp])) (ha2 70 (by decide))
 exact ⟨heap_setCell_same _ v.cb 2 _ 33 v' m, q1, q2, q0, o1.keepT hb2 (ha2 126 (by decide)) (ha2 59 (by decide)) (ha2 9 (by decide)), o2.keepT hb2 (ha2 126 (by decide)) (ha2 59 (by decide)) (ha2 9 (by decide)), o3.keepT hb2 (ha2 126 (by decide)) (ha2 59 (by decide)) (ha2 9 (by decide)), h.far, ⟨⟨h.base.1.1, Nat.le_trans h.base.1.2 (Nat.le_trans g.size hb2.size)⟩, h.base.2⟩⟩
end
end Go.Proofs.YtnadhplhnfpeaaaGreatDoor
