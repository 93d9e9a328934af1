/- Part of the proof. -/
import Derived.Test.YtnadhplhnfpeaaaGreatDoorAZ
import Derived.Test.YtnadhplhnfpeaaaGreatDoorA14
namespace Go.Proofs.YtnadhplhnfpeaaaGreatDoor
open Go.RowKit Go.Sort
def Al {α : Type} (R : α → List Value → Prop) : List α → List (List Value) → Prop
  | [], [] => True
  | a :: l, x :: xs => R a x ∧ Al R l xs
  | _, _ => False
theorem Al.mono {α : Type} {R R' : α → List Value → Prop} (h : ∀ a x, R a x → R' a x) : ∀ {l : List α} {xs : List (List Value)}, Al R l xs → Al R' l xs
  | [], [], _ => trivial
  | _ :: _, _ :: _, ⟨h1, h2⟩ => ⟨h _ _ h1, Al.mono h h2⟩
  | [], _ :: _, h => h.elim
  | _ :: _, [], h => h.elim
theorem Al.app {α : Type} {R : α → List Value → Prop} : ∀ {l m : List α} {xs ys : List (List Value)}, Al R l xs → Al R m ys → Al R (l ++ m) (xs ++ ys)
  | [], _, [], _, _, h => h
  | _ :: _, _, _ :: _, _, ⟨h1, h2⟩, h => ⟨h1, h2.app h⟩
  | [], _, _ :: _, _, h, _ => h.elim
  | _ :: _, _, [], _, h, _ => h.elim
theorem Al.one {α : Type} {R : α → List Value → Prop} {a : α} {x : List Value} (h : R a x) : Al R [a] [x] := ⟨h, trivial⟩
def RowOf {α : Type} (w : World) (B ty z : Nat) (R : World → α → List Value → Prop) (v : Value) (l : List α) : Prop := ∃ xs, Al (R w) l xs ∧ w.ownsRow B ty z v l.length xs.flatten
theorem rowOf_nil {α : Type} (w : World) (B ty z : Nat) (R : World → α → List Value → Prop) : RowOf w B ty z R (.slice none 0 0) [] := ⟨[], trivial, World.ownsRow_nil _ _ _ _⟩
def AvT (T : Nat → Prop) (w : World) (S : Nat → Prop) : Prop := ∀ t, T t → Av w S t
theorem AvT.none (T : Nat → Prop) (w : World) : AvT T w (fun _ => False) := fun _ _ _ _ _ h => h
theorem av_one {w : World} {b t t' : Nat} {cs : Array Value} (hb : w.heap[b]? = some (.cells cs t (0, 0))) (ht : t ≠ t') : Av w (fun k => k = b) t' := fun k cs' hk e => by
  obtain rfl : k = b := e
  rw [hb] at hk
  cases hk
  exact ht rfl
def Keeps {α : Type} (T : Nat → Prop) (R : World → α → List Value → Prop) : Prop := ∀ (w w' : World) (S : Nat → Prop) (a : α) (x : List Value), But S w w' → AvT T w S → R w a x → R w' a x
theorem RowOf.keep {α : Type} {R : World → α → List Value → Prop} {T : Nat → Prop} (hR : Keeps T R) {w w' : World} {S : Nat → Prop} {B ty z : Nat} {v : Value} {l : List α} (h : RowOf w B ty z R v l) (hb : But S w w') (ha : AvT T w S) (ht : Av w S ty) : RowOf w' B ty z R v l := by
 obtain ⟨xs, h1, h2⟩ := h
 exact ⟨xs, h1.mono (fun _ _ => hR _ _ _ _ _ hb ha), row_av h2 hb ht⟩
theorem RowOf.from {α : Type} {R : World → α → List Value → Prop} {w : World} {B B' ty z : Nat} {v : Value} {l : List α} (h : RowOf w B ty z R v l) (hb : ∀ g, v.ownBlock = some g → B' ≤ g) : RowOf w B' ty z R v l := by
 obtain ⟨xs, h1, h2⟩ := h
 exact ⟨xs, h1, row_from h2 hb⟩
theorem RowOf.slice {α : Type} {R : World → α → List Value → Prop} {w : World} {B ty z : Nat} {v : Value} {l : List α} (h : RowOf w B ty z R v l) : ∃ ao c, v = .slice ao l.length c := by
 obtain ⟨xs, _, h2⟩ := h
 rcases h2.2 with ⟨hv, h0⟩ | ⟨g, cap, cur, hv, _⟩
 ·
  exact ⟨none, 0, by rw [hv, h0]⟩
 exact ⟨_, _, hv⟩
theorem RowOf.lt {α : Type} {R : World → α → List Value → Prop} {w : World} {B ty z : Nat} {v : Value} {l : List α} (h : RowOf w B ty z R v l) : ∀ g, v.ownBlock = some g → B ≤ g ∧ g < w.heap.size ∧ ∃ cs, w.heap[g]? = some (.cells cs ty (0, 0)) := by
 obtain ⟨xs, _, h2⟩ := h
 exact fun g hg => ⟨(h2.lt g hg).1, (h2.lt g hg).2, own_cells h2 g hg⟩
def ClC (B : Nat) (w : World) (c : Cl) (x : List Value) : Prop := ∃ va vd vp, x = [.int .i64 c.n, .bool c.ok, .string c.m.list, .string c.m.path, .int .i64 c.m.ca, .int .i64 c.m.cn, .int .i64 c.s.pref, .int .i64 c.s.med, .int .i64 c.s.org, va, vd, .bool c.s.clr, vp] ∧ w.ownsRow B 73 2 va c.s.add.length (prs c.s.add) ∧ w.ownsRow B 73 2 vd c.s.del.length (prs c.s.del) ∧ w.ownsRow B 3 1 vp c.s.prep.length (ints c.s.prep)
def LsC (w : World) (l : Ls) (x : List Value) : Prop := ∃ v, x = [.string l.name, v] ∧ w.ownsRow 0 109 5 v l.rules.length (rgs l.rules)
def MpC (w : World) (m : Mp) (x : List Value) : Prop := ∃ v, x = [.string m.name, v] ∧ RowOf w 0 81 13 (ClC 0) v m.cls
def NbC (_ : World) (n : Nb) (x : List Value) : Prop := x = [.string n.name, .string n.imp, .string n.exp, .bool n.client]
def LkC (_ : World) (l : Lk) (x : List Value) : Prop := x = [.string l.name, .int .i64 l.cost]
def PxC (_ : World) (p : Int × Int) (x : List Value) : Prop := x = [.int .u32 p.1, .int .i64 p.2]
def RtC (w : World) (r : Rt) (x : List Value) : Prop := ∃ vn vb vl, x = [.string r.name, .int .i64 r.asn, .int .i64 r.id, vn, vb, vl] ∧ RowOf w 0 107 2 PxC vn r.nets ∧ RowOf w 0 113 4 NbC vb r.nbs ∧ RowOf w 0 115 2 LkC vl r.links
def tCl (t : Nat) : Prop := t = 73 ∨ t = 3
def tLs (t : Nat) : Prop := t = 109
def tMp (t : Nat) : Prop := t = 73 ∨ t = 3 ∨ t = 81
def tRt (t : Nat) : Prop := t = 107 ∨ t = 113 ∨ t = 115
def tNo (_ : Nat) : Prop := False
theorem ClC.keeps (B : Nat) : Keeps tCl (ClC B) := fun _ _ _ _ _ hb ha ⟨va, vd, vp, h0, h1, h2, h3⟩ => ⟨va, vd, vp, h0, row_av h1 hb (ha _ (.inl rfl)), row_av h2 hb (ha _ (.inl rfl)), row_av h3 hb (ha _ (.inr rfl))⟩
theorem ClC.from {B : Nat} {w : World} {c : Cl} {x : List Value} (h : ClC B w c x) (B' : Nat) (hB : B' ≤ B) : ClC B' w c x := by
 obtain ⟨va, vd, vp, h0, h1, h2, h3⟩ := h
 exact ⟨va, vd, vp, h0, row_from h1 (fun g hg => Nat.le_trans hB (h1.lt g hg).1), row_from h2 (fun g hg => Nat.le_trans hB (h2.lt g hg).1), row_from h3 (fun g hg => Nat.le_trans hB (h3.lt g hg).1)⟩
theorem ClC.ahead {B : Nat} {w w' : World} {c : Cl} {x : List Value} (h : ClC B w c x) {S : Nat → Prop} (hb : But S w w') (hS : ∀ k, S k → k < B) : ClC B w' c x := by
 obtain ⟨va, vd, vp, h0, h1, h2, h3⟩ := h
 exact ⟨va, vd, vp, h0, row_but h1 hb (fun g hg e => by have := hS g e; have := (h1.lt g hg).1; omega), row_but h2 hb (fun g hg e => by have := hS g e; have := (h2.lt g hg).1; omega), row_but h3 hb (fun g hg e => by have := hS g e; have := (h3.lt g hg).1; omega)⟩
theorem LsC.keeps : Keeps tLs LsC := fun _ _ _ _ _ hb ha ⟨v, h0, h1⟩ => ⟨v, h0, row_av h1 hb (ha _ rfl)⟩
theorem NbC.keeps : Keeps tNo NbC := fun _ _ _ _ _ _ _ h => h
theorem LkC.keeps : Keeps tNo LkC := fun _ _ _ _ _ _ _ h => h
theorem PxC.keeps : Keeps tNo PxC := fun _ _ _ _ _ _ _ h => h
theorem MpC.keeps : Keeps tMp MpC := fun _ _ _ _ _ hb ha ⟨v, h0, h1⟩ => ⟨v, h0, RowOf.keep (ty := 81) (ClC.keeps 0) h1 hb (fun t ht => ha t (ht.elim .inl (fun h => .inr (.inl h)))) (ha _ (.inr (.inr rfl)))⟩
theorem RtC.keeps : Keeps tRt RtC := fun _ _ _ _ _ hb ha ⟨vn, vb, vl, h0, h1, h2, h3⟩ => ⟨vn, vb, vl, h0, RowOf.keep (ty := 107) PxC.keeps h1 hb (fun _ h => h.elim) (ha _ (.inl rfl)), RowOf.keep (ty := 113) NbC.keeps h2 hb (fun _ h => h.elim) (ha _ (.inr (.inl rfl))), RowOf.keep (ty := 115) LkC.keeps h3 hb (fun _ h => h.elim) (ha _ (.inr (.inr rfl)))⟩
end Go.Proofs.YtnadhplhnfpeaaaGreatDoor
