import Derived.Test.YtechocnednepiaaN2
import Derived.Test.YtechocnednepiaaW1
import Derived.Test.YtechocnednepiaaA1
import Derived.Laws.Rows
/- Trees in memory: where they lie, what is kept, a tree in a tree. -/
namespace Go.Proofs.Ytechocnednepiaa
open Go.RowKit

/-- All but some blocks is as it was. -/
structure Keep (S : Nat → Prop) (w w' : World) : Prop where
  os : w'.os = w.os
  tape : w'.tape = w.tape
  output : w'.output = w.output
  size : w.heap.size ≤ w'.heap.size
  block : ∀ k, ¬ S k → k < w.heap.size → w'.heap[k]? = w.heap[k]?
theorem size_setCell (w : World) (a : Addr) (v : Value) : (w.setCell a v).heap.size = w.heap.size := by simp [World.setCell]
theorem size_alloc (w : World) (o : Obj) : (w.alloc o).heap.size = w.heap.size + 1 := by simp
theorem heap_alloc_lt (w : World) (o : Obj) (k : Nat) (h : k < w.heap.size) : (w.alloc o).heap[k]? = w.heap[k]? := by
  show (w.heap.push o)[k]? = _
  rw [Array.getElem?_push, if_neg (Nat.ne_of_lt h)]
theorem Keep.refl (S : Nat → Prop) (w : World) : Keep S w w := ⟨rfl, rfl, rfl, Nat.le_refl _, fun _ _ _ => rfl⟩
theorem Keep.trans {S : Nat → Prop} {u v w : World} (h : Keep S u v) (k : Keep S v w) : Keep S u w :=
  ⟨k.os.trans h.os, k.tape.trans h.tape, k.output.trans h.output, Nat.le_trans h.size k.size, fun i hi hl => (k.block i hi (Nat.lt_of_lt_of_le hl h.size)).trans (h.block i hi hl)⟩
/-- One behind another, which may write what is new, too. -/
theorem Keep.trans' {S S' : Nat → Prop} {u v w : World} (h : Keep S u v) (k : Keep S' v w) (hs : ∀ i, S' i → S i ∨ u.heap.size ≤ i) : Keep S u w :=
  ⟨k.os.trans h.os, k.tape.trans h.tape, k.output.trans h.output, Nat.le_trans h.size k.size, fun i hi hl => (k.block i (fun e => by rcases hs i e with e | e; exact hi e; omega) (Nat.lt_of_lt_of_le hl h.size)).trans (h.block i hi hl)⟩
theorem Keep.mono {S S' : Nat → Prop} {u v : World} (h : Keep S u v) (hs : ∀ i, S i → S' i) : Keep S' u v := ⟨h.os, h.tape, h.output, h.size, fun i hi hl => h.block i (fun e => hi (hs i e)) hl⟩
theorem Keep.of {S : Nat → Prop} {w w' : World} (h : Below w.heap.size w w') : Keep S w w' := ⟨h.os, h.tape, h.output, h.size, fun k _ hk => h.block k hk⟩
theorem Keep.below {S : Nat → Prop} {N : Nat} {w w' : World} (h : Keep S w w') (hS : ∀ i, S i → N ≤ i) (hN : N ≤ w.heap.size) : Below N w w' := ⟨h.os, h.tape, h.output, h.size, fun k hk => h.block k (fun e => by have := hS k e; omega) (by omega)⟩
theorem Keep.below' {S : Nat → Prop} {N : Nat} {u w w' : World} (hb : Below N u w) (h : Keep S w w') (hS : ∀ i, S i → N ≤ i) (hN : N ≤ w.heap.size) : Below N u w' := hb.trans (h.below hS hN)
theorem Keep.alloc {S : Nat → Prop} {w w' : World} (h : Keep S w w') (o : Obj) : Keep S w (w'.alloc o) := h.trans (Keep.of (balloc (brefl _) o))
theorem Keep.drew {S : Nat → Prop} {w w' : World} (h : Keep S w w') : Keep S w w'.drew := h.trans (Keep.of (Below.drew (brefl _)))
theorem Keep.setCell {S : Nat → Prop} {w w' : World} (h : Keep S w w') {p : Addr} (hp : S p.block ∨ w.heap.size ≤ p.block) (u : Value) : Keep S w (w'.setCell p u) :=
  ⟨h.os, h.tape, h.output, by rw [size_setCell]; exact h.size, fun k hk hl => by
    rw [Below.heap_setCell _ _ _ _ (by rintro rfl; rcases hp with e | e; exact hk e; omega)]
    exact h.block k hk hl⟩
theorem Keep.then {S : Nat → Prop} {u w w' : World} (h : Keep S u w) (hb : Below w.heap.size w w') : Keep S u w' := h.trans (Keep.of hb)

def Nt.ptr : Nt → Value
  | .nil => .pointer none
  | .nd b _ _ _ _ => .pointer (some ⟨b, 0, none⟩)
def Nt.isNil : Nt → Bool
  | .nil => true
  | .nd _ _ _ _ _ => false
theorem ptr_nd (b : Nat) (lo hi : Nt) (v : Value) (is : Bool) : (Nt.nd b lo hi v is).ptr = .pointer (some ⟨b, 0, none⟩) := rfl
theorem ptr_none : Nt.nil.ptr = .pointer none := rfl
/-- A tree lies in memory: a block of four cells for each node. -/
def Nt.At (y : Nat) (w : World) : Nt → Prop
  | .nil => True
  | .nd b lo hi v is => w.heap[b]? = some (.cells #[lo.ptr, hi.ptr, v, .bool is] y (0, 0)) ∧ lo.At y w ∧ hi.At y w
theorem Nt.At.keep {y : Nat} {w w' : World} : ∀ {t : Nt}, t.At y w → (∀ k ∈ t.own, w'.heap[k]? = w.heap[k]?) → t.At y w'
  | .nil, _, _ => trivial
  | .nd b lo hi v is, h, hk => ⟨(hk b (by simp [Nt.own])).trans h.1, h.2.1.keep fun k hm => hk k (by simp [Nt.own, hm]), h.2.2.keep fun k hm => hk k (by simp [Nt.own, hm])⟩
theorem Nt.At.lt {y : Nat} {w : World} : ∀ {t : Nt}, t.At y w → ∀ k ∈ t.own, k < w.heap.size
  | .nil, _, k, hk => by simp [Nt.own] at hk
  | .nd b lo hi v is, h, k, hk => by
    simp only [Nt.own, List.mem_cons, List.mem_append] at hk
    rcases hk with rfl | hk | hk
    · exact lt_of_block h.1
    · exact h.2.1.lt k hk
    · exact h.2.2.lt k hk
theorem Nt.At.kept {y : Nat} {S : Nat → Prop} {w w' : World} {t : Nt} (h : t.At y w) (hk : Keep S w w') (hs : ∀ k ∈ t.own, ¬ S k) : t.At y w' := h.keep fun k hm => hk.block k (hs k hm) (h.lt k hm)
theorem Nt.At.below {y : Nat} {w w' : World} {t : Nt} (h : t.At y w) (hb : Below w.heap.size w w') : t.At y w' := h.keep fun k hm => hb.block k (h.lt k hm)
theorem Nt.ptr_nil {t : Nt} : t.ptr = .pointer none ↔ t = .nil := by cases t <;> simp [Nt.ptr]
theorem Nt.own_path {t : Nt} {c p : Pf} : ∀ x ∈ t.path c p, ∀ k ∈ x.2.own, k ∈ t.own := by
  induction t generalizing c with
  | nil => intro x hx; simp [Nt.path] at hx
  | nd b lo hi v is ih1 ih2 =>
    intro x hx k hk
    simp only [Nt.path, List.mem_cons] at hx
    rcases hx with rfl | hx
    · exact hk
    · split at hx
      · simp at hx
      · split at hx
        · have := ih2 x hx k hk; simp [Nt.own, this]
        · have := ih1 x hx k hk; simp [Nt.own, this]
theorem Nt.own_sub {t : Nt} {c p : Pf} : ∀ k ∈ (t.sub c p).own, k ∈ t.own := by
  induction t generalizing c with
  | nil => intro x hx; simp [Nt.sub, Nt.own] at hx
  | nd b lo hi v is ih1 ih2 =>
    intro k hk
    simp only [Nt.sub] at hk
    split at hk
    · exact hk
    · split at hk
      · have := ih2 k hk; simp [Nt.own, this]
      · have := ih1 k hk; simp [Nt.own, this]
theorem Nt.At.sub {y : Nat} {w : World} {t : Nt} {c p : Pf} (h : t.At y w) : (t.sub c p).At y w := by
  induction t generalizing c with
  | nil => trivial
  | nd b lo hi v is ih1 ih2 =>
    simp only [Nt.sub]
    split
    · exact h
    · split
      · exact ih2 h.2.2
      · exact ih1 h.2.1

/-- A tree in a tree: whatever becomes of it, the whole is a tree, with what it has ahead and behind; cx: the blocks around it. -/
def Wand (y : Nat) (z : Value) (t0 : Nt) (w : World) (cx : List Nat) (s : Nt) (c : Pf) (pre post : List (Pf × Value)) : Prop :=
  ∀ (s' : Nt) (w' : World), s'.At y w' → s'.ptr = s.ptr → s'.own.Nodup → (∀ k ∈ s'.own, k ∉ cx) → s'.wf z (left c) → (∀ k ∈ cx, w'.heap[k]? = w.heap[k]?) →
    ∃ t' : Nt, t'.At y w' ∧ t'.ptr = t0.ptr ∧ t'.own.Nodup ∧ (∀ k ∈ t'.own, k ∈ cx ∨ k ∈ s'.own) ∧ t'.wf z 32 ∧ t'.list (0, 0) = pre ++ s'.list c ++ post
theorem wand_start (y : Nat) (z : Value) (w : World) (t : Nt) : Wand y z t w [] t (0, 0) [] [] :=
  fun s' _ h1 h2 h3 _ h5 _ => ⟨s', h1, h2, h3, fun _ hk => .inr hk, h5, by simp⟩
theorem Wand.step {y : Nat} {z : Value} {w w1 : World} {t0 s s1 : Nt} {cx : List Nat} {c : Pf} {pre post : List (Pf × Value)} (h : Wand y z t0 w cx s c pre post) (hp : s1.ptr = s.ptr) (hk : ∀ k ∈ cx, w1.heap[k]? = w.heap[k]?) : Wand y z t0 w1 cx s1 c pre post :=
  fun s' w' h1 h2 h3 h4 h5 h6 => h s' w' h1 (h2.trans hp) h3 h4 h5 fun k hm => (h6 k hm).trans (hk k hm)
theorem Wand.low {y : Nat} {z : Value} {w : World} {t0 lo hi : Nt} {b : Nat} {v : Value} {is : Bool} {cx : List Nat} {c : Pf} {pre post : List (Pf × Value)} (h : Wand y z t0 w cx (.nd b lo hi v is) c pre post)
    (ha : (Nt.nd b lo hi v is).At y w) (hn : (Nt.nd b lo hi v is).own.Nodup) (ho : ∀ k ∈ (Nt.nd b lo hi v is).own, k ∉ cx) (hz : is = false → v = z) (hl : left c ≠ 0) (hw : hi.wf z (left c - 1)) (hne : lo ≠ .nil) :
    Wand y z t0 w (b :: (hi.own ++ cx)) lo (half c false) (pre ++ one is c v) (hi.list (half c true) ++ post) := by
  intro s' w' h1 h2 h3 h4 h5 h6
  simp only [Nt.own, List.nodup_cons, List.mem_append, List.nodup_append] at hn
  obtain ⟨hn1, hn2, hn3, hn4⟩ := hn
  have hne' : s' ≠ .nil := fun e => hne (Nt.ptr_nil.1 (by rw [← h2, e]; rfl))
  obtain ⟨t', k1, k2, k3, k4, k5, k6⟩ := h (.nd b s' hi v is) w' ⟨by rw [h6 b (by simp), ha.1, h2], h1, ha.2.2.keep fun k hm => h6 k (by simp [hm])⟩ rfl (by
      simp only [Nt.own, List.nodup_cons, List.mem_append, List.nodup_append]
      refine ⟨?_, h3, hn3, ?_⟩
      · rintro (hm | hm)
        · exact h4 b hm (by simp)
        · exact hn1 (.inr hm)
      · intro k hm k' hm' e
        subst e
        exact h4 k hm (by simp [hm'])) (fun k hm => by
      simp only [Nt.own, List.mem_cons, List.mem_append] at hm
      rcases hm with rfl | hm | hm
      · exact ho _ (by simp [Nt.own])
      · exact fun e => h4 k hm (by simp [e])
      · exact ho _ (by simp [Nt.own, hm])) ⟨.inr (.inl hne'), hz, fun e => absurd e hl, by rw [left_half] at h5; exact h5, hw⟩ (fun k hm => h6 k (by simp [hm]))
  refine ⟨t', k1, k2, k3, fun k hm => ?_, k5, by rw [k6]; simp [Nt.list]⟩
  rcases k4 k hm with e | e
  · exact .inl (by simp [e])
  · simp only [Nt.own, List.mem_cons, List.mem_append] at e
    rcases e with rfl | e | e
    · exact .inl (by simp)
    · exact .inr e
    · exact .inl (by simp [e])
theorem Wand.high {y : Nat} {z : Value} {w : World} {t0 lo hi : Nt} {b : Nat} {v : Value} {is : Bool} {cx : List Nat} {c : Pf} {pre post : List (Pf × Value)} (h : Wand y z t0 w cx (.nd b lo hi v is) c pre post)
    (ha : (Nt.nd b lo hi v is).At y w) (hn : (Nt.nd b lo hi v is).own.Nodup) (ho : ∀ k ∈ (Nt.nd b lo hi v is).own, k ∉ cx) (hz : is = false → v = z) (hl : left c ≠ 0) (hw : lo.wf z (left c - 1)) (hne : hi ≠ .nil) :
    Wand y z t0 w (b :: (lo.own ++ cx)) hi (half c true) (pre ++ (one is c v ++ lo.list (half c false))) post := by
  intro s' w' h1 h2 h3 h4 h5 h6
  simp only [Nt.own, List.nodup_cons, List.mem_append, List.nodup_append] at hn
  obtain ⟨hn1, hn2, hn3, hn4⟩ := hn
  have hne' : s' ≠ .nil := fun e => hne (Nt.ptr_nil.1 (by rw [← h2, e]; rfl))
  obtain ⟨t', k1, k2, k3, k4, k5, k6⟩ := h (.nd b lo s' v is) w' ⟨by rw [h6 b (by simp), ha.1, h2], ha.2.1.keep fun k hm => h6 k (by simp [hm]), h1⟩ rfl (by
      simp only [Nt.own, List.nodup_cons, List.mem_append, List.nodup_append]
      refine ⟨?_, hn2, h3, ?_⟩
      · rintro (hm | hm)
        · exact hn1 (.inl hm)
        · exact h4 b hm (by simp)
      · intro k hm k' hm' e
        subst e
        exact h4 k hm' (by simp [hm])) (fun k hm => by
      simp only [Nt.own, List.mem_cons, List.mem_append] at hm
      rcases hm with rfl | hm | hm
      · exact ho _ (by simp [Nt.own])
      · exact ho _ (by simp [Nt.own, hm])
      · exact fun e => h4 k hm (by simp [e])) ⟨.inr (.inr hne'), hz, fun e => absurd e hl, hw, by rw [left_half] at h5; exact h5⟩ (fun k hm => h6 k (by simp [hm]))
  refine ⟨t', k1, k2, k3, fun k hm => ?_, k5, by rw [k6]; simp [Nt.list]⟩
  rcases k4 k hm with e | e
  · exact .inl (by simp [e])
  · simp only [Nt.own, List.mem_cons, List.mem_append] at e
    rcases e with rfl | e | e
    · exact .inl (by simp)
    · exact .inl (by simp [e])
    · exact .inr e
/-- A trie: its block, its tree. -/
structure Tri (yT y : Nat) (z : Value) (w : World) (T : Nat) (t : Nt) : Prop where
  top : w.heap[T]? = some (.cells #[t.ptr, .int .i64 ((t.list (0, 0)).length : Nat)] yT (0, 0))
  lies : t.At y w
  apart : (T :: t.own).Nodup
  wf : t.wf z 32
theorem Tri.keep {yT y : Nat} {z : Value} {w w' : World} {T : Nat} {t : Nt} (h : Tri yT y z w T t) (hk : ∀ k ∈ T :: t.own, w'.heap[k]? = w.heap[k]?) : Tri yT y z w' T t :=
  ⟨(hk T (by simp)).trans h.top, h.lies.keep fun k hm => hk k (by simp [hm]), h.apart, h.wf⟩
theorem Tri.lt {yT y : Nat} {z : Value} {w : World} {T : Nat} {t : Nt} (h : Tri yT y z w T t) : ∀ k ∈ T :: t.own, k < w.heap.size := by
  intro k hk
  rcases List.mem_cons.1 hk with rfl | hk
  · exact lt_of_block h.top
  · exact h.lies.lt k hk
theorem Tri.kept {yT y : Nat} {z : Value} {S : Nat → Prop} {w w' : World} {T : Nat} {t : Nt} (h : Tri yT y z w T t) (hk : Keep S w w') (hs : ∀ k ∈ T :: t.own, ¬ S k) : Tri yT y z w' T t := h.keep fun k hm => hk.block k (hs k hm) (h.lt k hm)
theorem Tri.below {yT y : Nat} {z : Value} {w w' : World} {T : Nat} {t : Nt} (h : Tri yT y z w T t) (hb : Below w.heap.size w w') : Tri yT y z w' T t := h.keep fun k hm => hb.block k (h.lt k hm)
end Go.Proofs.Ytechocnednepiaa
