/- Part of the proof. -/
import Derived.Test.YtnadhplhnfpeaaaGreatDoorAZ
import Derived.Test.YtnadhplhnfpeaaaGreatDoorA21
import Derived.Laws.EntriesVeiled
namespace Go.Proofs.YtnadhplhnfpeaaaGreatDoor
open Go.RowKit Go.Sort
def RtInv (E : En) (b : Rb) (nm : ByteArray) (w : World) (S : Nat → Prop) (x : Rs) : Prop := ∃ v, RtAt E b w v ∧ RvOk v ∧ (∀ k, S k ↔ RtS b v k) ∧ v.rs = x ∧ v.nm = nm
def fitR (x : Rs) : Prop := fitW [wAs, wId] x.ns ∧ x.r.nets.length ≤ 16 ∧ x.r.nbs.length ≤ 16 ∧ x.r.links.length ≤ 16
theorem pmany {α : Type} {l : List α} {n : α} {m : Nat} (h : l.length < m) : (l ++ [n]).length ≤ m := by rw [List.length_append]; simp only [List.length_cons, List.length_nil]; omega
theorem about_fit (F : Fn) (en : Int × Int) (x : Rs) (k : Int) (s : ByteArray) (st : Sta) {a : Rs} (hc : fitR x) (h : ((pAbout F x k s).exec en st).1 = some a) : fitR a ∧ a.r.name = x.r.name := by
 unfold pAbout at h
 have one : ∀ (w : ByteArray), wd k s = w → w ≠ bs [] → w ∈ [wAs, wId] → ∀ {ms : List ByteArray} {st : Sta}, ((once x.ns s).exec en st).1 = some ms → fitW [wAs, wId] ms := by
  intro w hw h0 hm ms st ho
  obtain ⟨h1, rfl⟩ := once_some _ _ _ _ ho
  obtain rfl := wd_ne hw h0
  exact hc.1.step hm h1
 split at h
 ·
  rename_i hw
  obtain ⟨ms, h1, h2⟩ := exec_some _ _ _ _ h
  obtain ⟨k2, s2, st2, h2⟩ := nx_some _ _ _ h2
  obtain ⟨y, _, h3⟩ := exec_some _ _ _ _ h2
  obtain rfl := rt_some _ _ _ h3
  exact ⟨⟨one _ hw (by decide) (by simp) h1, hc.2⟩, rfl⟩
 split at h
 ·
  rename_i hw
  obtain ⟨ms, h1, h2⟩ := exec_some _ _ _ _ h
  obtain ⟨k2, s2, st2, h2⟩ := nx_some _ _ _ h2
  obtain ⟨y, _, h3⟩ := exec_some _ _ _ _ h2
  obtain rfl := rt_some _ _ _ h3
  exact ⟨⟨one _ hw (by decide) (by simp) h1, hc.2⟩, rfl⟩
 split at h
 ·
  obtain ⟨u, h1, h2⟩ := exec_some _ _ _ _ h
  have h5 := room_some _ _ _ _ h1
  obtain ⟨y, _, h3⟩ := exec_some _ _ _ _ h2
  obtain rfl := rt_some _ _ _ h3
  exact ⟨⟨hc.1, pmany h5, hc.2.2.1, hc.2.2.2⟩, rfl⟩
 split at h
 ·
  obtain ⟨u, h1, h2⟩ := exec_some _ _ _ _ h
  have h5 := room_some _ _ _ _ h1
  obtain ⟨y, _, h3⟩ := exec_some _ _ _ _ h2
  obtain rfl := rt_some _ _ _ h3
  exact ⟨⟨hc.1, hc.2.1, pmany h5, hc.2.2.2⟩, rfl⟩
 split at h
 ·
  obtain ⟨u, h1, h2⟩ := exec_some _ _ _ _ h
  have h5 := room_some _ _ _ _ h1
  obtain ⟨y, _, h3⟩ := exec_some _ _ _ _ h2
  obtain rfl := rt_some _ _ _ h3
  exact ⟨⟨hc.1, hc.2.1, hc.2.2.1, pmany h5⟩, rfl⟩
 exact (fl_some _ _ _ h).elim
theorem router_part {T : World → Prop} {F : Fn} (K : Kit12 T F) (E : En) (hT : T E.w0) (b : Rb) (nm : ByteArray) (M : Nat) : PartIs E 69 #[.pointer (some ⟨b.bx, 0, none⟩), .pointer (some ⟨b.f1, 0, none⟩), .pointer (some ⟨b.rb, 0, none⟩), .pointer (some ⟨b.f2, 0, none⟩), .pointer (some ⟨b.f3, 0, none⟩)] (pRouterPart F) (RtInv E b nm) M fitR where
  eg := by intro args w; go_simp
  keep := fun w w' S X x st h hi hb hX => by
    obtain ⟨v, h1, h2, h3⟩ := hi
    refine ⟨v, h1.keep hb fun t t1 t2 k cs hk e => ?_, h2, h3⟩
    rcases hX k e with rfl | ⟨_, _, cs', hk'⟩
    · exact h.av t1 _ cs hk rfl
    · rw [hk] at hk'
      cases hk'
      exact t2 rfl
  lt := fun w S x hi k hk => by
    obtain ⟨v, h1, h2, h3, _⟩ := hi
    exact (h1.lt k ((h3 k).1 hk)).1
  fits := fun x k s st a hx ha => by
    obtain ⟨y, h1, h2⟩ := exec_some E.en (pAbout F x k s) (fun c => (pMark 59).bind fun _ => Pg.ret c) st ha
    obtain ⟨_, _, h3⟩ := exec_some _ _ _ _ h2
    obtain rfl := rt_some _ _ _ h3
    exact (about_fit F E.en x k s st hx h1).1
  call := fun w S x st t h hi hat _ _ hx => by
    have e : #[t.val] ++ #[Value.pointer (some ⟨b.bx, 0, none⟩), .pointer (some ⟨b.f1, 0, none⟩), .pointer (some ⟨b.rb, 0, none⟩), .pointer (some ⟨b.f2, 0, none⟩), .pointer (some ⟨b.f3, 0, none⟩)] = #[t.val, .pointer (some ⟨b.bx, 0, none⟩), .pointer (some ⟨b.f1, 0, none⟩), .pointer (some ⟨b.rb, 0, none⟩), .pointer (some ⟨b.f2, 0, none⟩), .pointer (some ⟨b.f3, 0, none⟩)] := by simp
    rw [e]
    obtain ⟨v, h1, h2, h3, rfl, h5⟩ := hi
    have h9 : v.n1.length ≤ 2 := hx.1.le
    refine (routerPart_is K E hT b w v st t h h1 h2 hat ⟨by omega, hx.2⟩).mono ?_
    rintro e w' ⟨rfl, v', q1, ⟨q2, q7⟩, q3, q4, q5, q6⟩
    refine ⟨rfl, v'.rs, RtS b v', ⟨v', q1, q2, fun _ => Iff.rfl, rfl, q7.trans h5⟩, q3.mono (fun k _ e => e.elim .inl (fun e => .inr ((h3 k).2 e))), fun k hk => (q4 k hk).imp (fun h => (h3 k).2 h) (fun h => h), q5, q6⟩
def PkO (m : Option (Nat × Nat)) (E : En) (wb w : World) : Prop := ∀ x, m = some x → OcAt E w ⟨x.1, x.2, [], none⟩ ∧ wb.heap.size ≤ x.1
def PkA (a : Option Nat) (wb w : World) : Prop := ∀ g, a = some g → w.heap[g]? = some (.cells #[.nilFunc] 96 (0, 0)) ∧ wb.heap.size ≤ g
structure PkR (E : En) (st : Sta) (o : Oc) (bx rc rb : Nat) (s : ByteArray) (wb : World) (m1 m2 m3 : Option (Nat × Nat)) (a1 a2 a3 : Option Nat) (w : World) : Prop where
  ps : Ps E w st
  oc : OcAt E w o
  old : Below wb.heap.size wb w
  box : w.heap[bx]? = some (.cells #[.pointer (some ⟨E.pb, 0, none⟩)] 59 (0, 0))
  rc : w.heap[rc]? = some (.cells #[.string ⟨#[]⟩, .int .i64 0, .int .i64 0, .slice none 0 0, .slice none 0 0, .slice none 0 0] 50 (0, 0))
  rb : w.heap[rb]? = some (.cells #[.string s, .int .i64 0, .int .i64 0, .slice none 0 0, .slice none 0 0, .slice none 0 0] 50 (0, 0))
  c1 : PkO m1 E wb w
  c2 : PkO m2 E wb w
  c3 : PkO m3 E wb w
  d : (∀ x y, m1 = some x → m2 = some y → x.1 ≠ y.1) ∧ (∀ x y, m1 = some x → m3 = some y → x.1 ≠ y.1) ∧ ∀ x y, m2 = some x → m3 = some y → x.1 ≠ y.1
  f1 : PkA a1 wb w
  f2 : PkA a2 wb w
  f3 : PkA a3 wb w
  e : (∀ x y, a1 = some x → a2 = some y → x ≠ y) ∧ (∀ x y, a1 = some x → a3 = some y → x ≠ y) ∧ ∀ x y, a2 = some x → a3 = some y → x ≠ y
theorem PkO.keep {m : Option (Nat × Nat)} {E : En} {wb w w' : World} (h : PkO m E wb w) (hb : Below w.heap.size w w') : PkO m E wb w' := fun x hx => ⟨(h x hx).1.below hb, (h x hx).2⟩
theorem PkA.keep {a : Option Nat} {wb w w' : World} (h : PkA a wb w) (hb : Below w.heap.size w w') : PkA a wb w' := fun g hg => ⟨(hb.block _ (heap_lt (h g hg).1)).trans (h g hg).1, (h g hg).2⟩
section
variable {E : En} {st : Sta} {o : Oc} {bx rc rb : Nat} {s : ByteArray} {wb w w' : World} {m1 m2 m3 : Option (Nat × Nat)} {a1 a2 a3 : Option Nat}
theorem PkR.keep (h : PkR E st o bx rc rb s wb m1 m2 m3 a1 a2 a3 w) (hb : Below w.heap.size w w') : PkR E st o bx rc rb s wb m1 m2 m3 a1 a2 a3 w' :=
  ⟨h.ps.below hb, h.oc.below hb, bthen h.old hb, (hb.block _ (heap_lt h.box)).trans h.box, (hb.block _ (heap_lt h.rc)).trans h.rc, (hb.block _ (heap_lt h.rb)).trans h.rb, h.c1.keep hb, h.c2.keep hb, h.c3.keep hb, h.d, h.f1.keep hb, h.f2.keep hb, h.f3.keep hb, h.e⟩
theorem PkR.call1 (h : PkR E st o bx rc rb s wb none none none a1 a2 a3 w) (hb : Below w.heap.size w w') {c x : Nat} (ho : OcAt E w' ⟨c, x, [], none⟩) (hc : w.heap.size ≤ c) : PkR E st o bx rc rb s wb (some (c, x)) none none a1 a2 a3 w' := by
 have k := h.keep hb
 exact ⟨k.ps, k.oc, k.old, k.box, k.rc, k.rb, fun y hy => by cases hy; exact ⟨ho, Nat.le_trans h.old.size hc⟩, k.c2, k.c3, ⟨fun _ _ _ e => (by cases e), fun _ _ _ e => (by cases e), fun _ _ e => (by cases e)⟩, k.f1, k.f2, k.f3, k.e⟩
theorem PkR.call2 {x1 : Nat × Nat} (h : PkR E st o bx rc rb s wb (some x1) none none a1 a2 a3 w) (hb : Below w.heap.size w w') {c x : Nat} (ho : OcAt E w' ⟨c, x, [], none⟩) (hc : w.heap.size ≤ c) : PkR E st o bx rc rb s wb (some x1) (some (c, x)) none a1 a2 a3 w' := by
 have k := h.keep hb
 have l1 := (h.c1 _ rfl).1.lt.1
 exact ⟨k.ps, k.oc, k.old, k.box, k.rc, k.rb, k.c1, fun y hy => by cases hy; exact ⟨ho, Nat.le_trans h.old.size hc⟩, k.c3, ⟨fun _ _ e1 e2 => by cases e1; cases e2; simp only at l1 ⊢; omega, fun _ _ _ e => (by cases e), fun _ _ _ e => (by cases e)⟩, k.f1, k.f2, k.f3, k.e⟩
theorem PkR.call3 {x1 x2 : Nat × Nat} (h : PkR E st o bx rc rb s wb (some x1) (some x2) none a1 a2 a3 w) (hb : Below w.heap.size w w') {c x : Nat} (ho : OcAt E w' ⟨c, x, [], none⟩) (hc : w.heap.size ≤ c) : PkR E st o bx rc rb s wb (some x1) (some x2) (some (c, x)) a1 a2 a3 w' := by
 have k := h.keep hb
 have l1 := (h.c1 _ rfl).1.lt.1
 have l2 := (h.c2 _ rfl).1.lt.1
 exact ⟨k.ps, k.oc, k.old, k.box, k.rc, k.rb, k.c1, k.c2, fun y hy => by cases hy; exact ⟨ho, Nat.le_trans h.old.size hc⟩, ⟨h.d.1, fun _ _ e1 e2 => by cases e1; cases e2; simp only at l1 ⊢; omega, fun _ _ e1 e2 => by cases e1; cases e2; simp only at l2 ⊢; omega⟩, k.f1, k.f2, k.f3, k.e⟩
theorem PkA.new (wb w : World) (h : wb.heap.size ≤ w.heap.size) : PkA (some w.heap.size) wb (w.alloc (.cells #[.nilFunc] 96)) := fun g hg => by cases hg; exact ⟨heap_new w _ 96, h⟩
theorem PkA.lt {a : Option Nat} (h : PkA a wb w) {g : Nat} (hg : a = some g) : g < w.heap.size := heap_lt (h g hg).1
theorem PkR.alloc1 (h : PkR E st o bx rc rb s wb m1 m2 m3 none a2 a3 w) : PkR E st o bx rc rb s wb m1 m2 m3 (some w.heap.size) a2 a3 (w.alloc (.cells #[.nilFunc] 96)) := by
 have k := h.keep (balloc (brefl w) (.cells #[.nilFunc] 96))
 exact ⟨k.ps, k.oc, k.old, k.box, k.rc, k.rb, k.c1, k.c2, k.c3, k.d, PkA.new wb w h.old.size, k.f2, k.f3, ⟨fun _ _ e1 e2 => by cases e1; have := h.f2.lt e2; omega, fun _ _ e1 e2 => by cases e1; have := h.f3.lt e2; omega, h.e.2.2⟩⟩
theorem PkR.alloc2 (h : PkR E st o bx rc rb s wb m1 m2 m3 a1 none a3 w) : PkR E st o bx rc rb s wb m1 m2 m3 a1 (some w.heap.size) a3 (w.alloc (.cells #[.nilFunc] 96)) := by
 have k := h.keep (balloc (brefl w) (.cells #[.nilFunc] 96))
 exact ⟨k.ps, k.oc, k.old, k.box, k.rc, k.rb, k.c1, k.c2, k.c3, k.d, k.f1, PkA.new wb w h.old.size, k.f3, ⟨fun _ _ e1 e2 => by cases e2; have := h.f1.lt e1; omega, h.e.2.1, fun _ _ e1 e2 => by cases e1; have := h.f3.lt e2; omega⟩⟩
theorem PkR.alloc3 (h : PkR E st o bx rc rb s wb m1 m2 m3 a1 a2 none w) : PkR E st o bx rc rb s wb m1 m2 m3 a1 a2 (some w.heap.size) (w.alloc (.cells #[.nilFunc] 96)) := by
 have k := h.keep (balloc (brefl w) (.cells #[.nilFunc] 96))
 exact ⟨k.ps, k.oc, k.old, k.box, k.rc, k.rb, k.c1, k.c2, k.c3, k.d, k.f1, k.f2, PkA.new wb w h.old.size, ⟨h.e.1, fun _ _ e1 e2 => by cases e2; have := h.f1.lt e1; omega, fun _ _ e1 e2 => by cases e2; have := h.f2.lt e1; omega⟩⟩
end
section
variable {E : En} {st : Sta} {o : Oc} {bx rc rb : Nat} {s : ByteArray} {wb w w' : World} {m1 m2 m3 : Option (Nat × Nat)} {a1 a2 a3 : Option Nat}
theorem PkR.drop (h : PkR E st o bx rc rb s wb m1 m2 m3 a1 a2 a3 w) : PkR E st o bx rc rb s wb m1 m2 m3 none none none w := ⟨h.ps, h.oc, h.old, h.box, h.rc, h.rb, h.c1, h.c2, h.c3, h.d, fun _ h => (by cases h), fun _ h => (by cases h), fun _ h => (by cases h), ⟨fun _ _ h => (by cases h), fun _ _ h => (by cases h), fun _ _ h => (by cases h)⟩⟩
theorem PkR.put (h : PkR E st o bx rc rb s wb m1 m2 m3 none none none w) {g : Nat} {cs : Array Value} (hg : w.heap[g]? = some (.cells cs 96 (0, 0))) (hw : wb.heap.size ≤ g) (hE : E.w0.heap.size ≤ wb.heap.size) (v : Value) : PkR E st o bx rc rb s wb m1 m2 m3 none none none (w.setCell ⟨g, 0, none⟩ v) := by
 have ne : ∀ {k t' : Nat} {cs' : Array Value}, w.heap[k]? = some (.cells cs' t' (0, 0)) → 96 ≠ t' → k ≠ g := by
  rintro k t' cs' hk hn rfl
  rw [hg] at hk
  cases hk
  exact hn rfl
 have ho : ∀ {o : Oc}, OcAt E w o → OcAt E (w.setCell ⟨g, 0, none⟩ v) o := fun h => h.put hg (by decide) (by decide) (by decide) 0 v
 exact ⟨h.ps.put (p := ⟨g, 0, none⟩) (fun e => h.ps.av (by decide) g cs hg e) (Nat.le_trans hE hw) v, ho h.oc, h.old.setCell hw v, set_far h.box (ne h.box (by decide)), set_far h.rc (ne h.rc (by decide)), set_far h.rb (ne h.rb (by decide)), fun x hx => ⟨ho (h.c1 x hx).1, (h.c1 x hx).2⟩, fun x hx => ⟨ho (h.c2 x hx).1, (h.c2 x hx).2⟩, fun x hx => ⟨ho (h.c3 x hx).1, (h.c3 x hx).2⟩, h.d, fun _ h => (by cases h), fun _ h => (by cases h), fun _ h => (by cases h), ⟨fun _ _ h => (by cases h), fun _ _ h => (by cases h), fun _ _ h => (by cases h)⟩⟩
end
def PkF (E : En) (st : Sta) (o : Oc) (bx rc rb : Nat) (s : ByteArray) (wb : World) (f1 f2 f3 c1 x1 c2 x2 c3 x3 : Nat) (w : World) : Prop := PkR E st o bx rc rb s wb (some (c1, x1)) (some (c2, x2)) (some (c3, x3)) none none none w ∧ w.heap[f1]? = some (.cells #[.func (.func 59) #[] #[.pointer (some ⟨c1, 0, none⟩), .pointer (some ⟨x1, 0, none⟩)]] 96 (0, 0)) ∧ w.heap[f2]? = some (.cells #[.func (.func 59) #[] #[.pointer (some ⟨c2, 0, none⟩), .pointer (some ⟨x2, 0, none⟩)]] 96 (0, 0)) ∧ w.heap[f3]? = some (.cells #[.func (.func 59) #[] #[.pointer (some ⟨c3, 0, none⟩), .pointer (some ⟨x3, 0, none⟩)]] 96 (0, 0))
theorem via2 {P : Program} {md : Region.Mode} {ops : Array Oper} {Q : Exit → Act → World → Prop} {S : World → Prop} {f : Nat} {l : Array Bool} {a : Act} {w : World} (h : ∀ Z : Nat → Array Bool → Act → World → Prop, (∀ f l a w, Z f l a w = wpAnyH P md ops Q S f l a w) → Z f l a w) : wpAnyH P md ops Q S f l a w := h (wpAnyH P md ops Q S) (fun _ _ _ _ => rfl)
end Go.Proofs.YtnadhplhnfpeaaaGreatDoor
