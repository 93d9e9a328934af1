import Derived.Test.YtechocnednepiaaP3
/- A trie grows: where the way down stands. -/
namespace Go.Proofs.Ytechocnednepiaa
open Go.RowKit

/-- A node whose halves are right, with or without a value. -/
def kidsOk (z : Value) (d : Nat) : Nt → Prop
  | .nil => False
  | .nd _ lo hi v is => (is = false → v = z) ∧ (d = 0 → lo = .nil ∧ hi = .nil) ∧ lo.wf z (d - 1) ∧ hi.wf z (d - 1)
structure Gr (yT y : Nat) (z : Value) (w : World) (T : Nat) (t t0 : Nt) (P A : Nat) (p : Pf) (wr : World) (s : Nt) (c cn : Pf) (cx : List Nat) (pre post : List (Pf × Value)) (K : Prop) : Prop where
  wand : Wand y z t0 wr cx s c pre post
  lies : s.At y wr
  nod : s.own.Nodup
  off : ∀ k ∈ s.own, k ∉ cx
  old : ∀ k, k ∈ s.own ∨ k ∈ cx → (k ∈ t.own ∨ w.heap.size ≤ k) ∧ k < wr.heap.size ∧ k ≠ P ∧ k ≠ A ∧ k ≠ T
  kids : K
  list : t.list (0, 0) = pre ++ s.list c ++ post
  keep : Keep (fun k => k ∈ T :: t.own) w wr
  top : wr.heap[T]? = some (.cells #[t0.ptr, .int .i64 ((t.list (0, 0)).length : Nat)] yT (0, 0))
  two : Two wr P p
  now : Two wr A cn
  hP : w.heap.size ≤ P
  hA : w.heap.size ≤ A
  ne : P ≠ A
  hT : T < w.heap.size
  good : Gd c
  isIn : In c p
/-- The prefix in its block is another one. -/
theorem Gr.turn {yT y : Nat} {z : Value} {w : World} {T : Nat} {t t0 : Nt} {P A : Nat} {p : Pf} {wr w3 : World} {s : Nt} {c cn : Pf} {cx : List Nat} {pre post : List (Pf × Value)} {K : Prop} (h : Gr yT y z w T t t0 P A p wr s c cn cx pre post K) (hb : Below wr.heap.size wr w3) (q : Pf) :
    Gr yT y z w T t t0 P A p ((w3.setCell ⟨A, 0, none⟩ (.int .u32 q.1)).setCell ⟨A, 1, none⟩ (.int .i64 q.2)) s c q cx pre post K := by
  have hsame : ∀ k, k ≠ A → k < wr.heap.size → ((w3.setCell ⟨A, 0, none⟩ (.int .u32 q.1)).setCell ⟨A, 1, none⟩ (.int .i64 q.2)).heap[k]? = wr.heap[k]? := fun k h1 h2 => by
    rw [heap_setCell_other _ _ _ _ h1, heap_setCell_other _ _ _ _ h1]
    exact hb.block k h2
  have hTw : T < wr.heap.size := lt_of_block h.top
  have hsz : wr.heap.size ≤ ((w3.setCell ⟨A, 0, none⟩ (.int .u32 q.1)).setCell ⟨A, 1, none⟩ (.int .i64 q.2)).heap.size := by rw [size_setCell, size_setCell]; exact hb.size
  exact ⟨h.wand.step rfl fun k hk => hsame k (h.old k (.inr hk)).2.2.2.1 (h.old k (.inr hk)).2.1, h.lies.keep fun k hk => hsame k (h.old k (.inl hk)).2.2.2.1 (h.old k (.inl hk)).2.1, h.nod, h.off, fun k hk => ⟨(h.old k hk).1, Nat.lt_of_lt_of_le (h.old k hk).2.1 hsz, (h.old k hk).2.2⟩, h.kids, h.list,
    ((h.keep.then hb).setCell (p := ⟨A, 0, none⟩) (.inr h.hA) _).setCell (p := ⟨A, 1, none⟩) (.inr h.hA) _, (hsame T (by have := h.hT; have := h.hA; omega) hTw).trans h.top, (hsame P h.ne h.two.lt).trans h.two, (h.now.below hb).set q, h.hP, h.hA, h.ne, h.hT, h.good, h.isIn⟩
theorem node_set0 {w : World} {b y : Nat} {x0 x1 x2 x3 : Value} (h : w.heap[b]? = some (.cells #[x0, x1, x2, x3] y (0, 0))) (u : Value) : (w.setCell ⟨b, 0, none⟩ u).heap[b]? = some (.cells #[u, x1, x2, x3] y (0, 0)) := heap_setCell_same w b 0 _ y u h
theorem node_set1 {w : World} {b y : Nat} {x0 x1 x2 x3 : Value} (h : w.heap[b]? = some (.cells #[x0, x1, x2, x3] y (0, 0))) (u : Value) : (w.setCell ⟨b, 1, none⟩ u).heap[b]? = some (.cells #[x0, u, x2, x3] y (0, 0)) := heap_setCell_same w b 1 _ y u h
theorem node_set2 {w : World} {b y : Nat} {x0 x1 x2 x3 : Value} (h : w.heap[b]? = some (.cells #[x0, x1, x2, x3] y (0, 0))) (u : Value) : (w.setCell ⟨b, 2, none⟩ u).heap[b]? = some (.cells #[x0, x1, u, x3] y (0, 0)) := heap_setCell_same w b 2 _ y u h
theorem node_set3 {w : World} {b y : Nat} {x0 x1 x2 x3 : Value} (h : w.heap[b]? = some (.cells #[x0, x1, x2, x3] y (0, 0))) (u : Value) : (w.setCell ⟨b, 3, none⟩ u).heap[b]? = some (.cells #[x0, x1, x2, u] y (0, 0)) := heap_setCell_same w b 3 _ y u h
/-- A new half. -/
theorem Gr.makeLow {yT y : Nat} {z : Value} {w : World} {T : Nat} {t t0 : Nt} {P A : Nat} {p : Pf} {wr : World} {b : Nat} {hi : Nt} {v : Value} {is : Bool} {c cn : Pf} {cx : List Nat} {pre post : List (Pf × Value)} {K : Prop} (h : Gr yT y z w T t t0 P A p wr (.nd b .nil hi v is) c cn cx pre post K) :
    Gr yT y z w T t t0 P A p ((wr.setCell ⟨b, 0, none⟩ (.pointer (some ⟨wr.heap.size, 0, none⟩))).alloc (.cells #[.pointer none, .pointer none, z, .bool false] y)) (.nd b (.nd wr.heap.size .nil .nil z false) hi v is) c cn cx pre post K := by
  have hb : b < wr.heap.size := lt_of_block h.lies.1
  have hsz : (wr.setCell ⟨b, 0, none⟩ (.pointer (some ⟨wr.heap.size, 0, none⟩))).heap.size = wr.heap.size := size_setCell _ _ _
  have hsame : ∀ k, k ≠ b → k < wr.heap.size → ((wr.setCell ⟨b, 0, none⟩ (.pointer (some ⟨wr.heap.size, 0, none⟩))).alloc (.cells #[.pointer none, .pointer none, z, .bool false] y)).heap[k]? = wr.heap[k]? := fun k h1 h2 => by
    rw [heap_alloc_lt _ _ _ (by rw [hsz]; exact h2)]
    exact heap_setCell_other _ _ _ _ h1
  have hn := h.nod
  simp only [Nt.own, List.nil_append, List.nodup_cons] at hn
  have hob : ∀ k, k ∈ hi.own → k ∈ (Nt.nd b .nil hi v is).own := fun k hk => by simp [Nt.own, hk]
  have hbo := h.old b (.inl (by simp [Nt.own]))
  have hcx : ∀ k ∈ cx, k ≠ b := fun k hk e => h.off b (by simp [Nt.own]) (e ▸ hk)
  refine ⟨h.wand.step rfl fun k hk => hsame k (hcx k hk) (h.old k (.inr hk)).2.1, ⟨?_, ⟨?_, trivial, trivial⟩, ?_⟩, ?_, ?_, ?_, ?_, ?_, ?_, ?_, (hsame P (fun e => hbo.2.2.1 e.symm) h.two.lt).trans h.two, (hsame A (fun e => hbo.2.2.2.1 e.symm) h.now.lt).trans h.now, h.hP, h.hA, h.ne, h.hT, h.good, h.isIn⟩
  · rw [heap_alloc_lt _ _ _ (by rw [hsz]; exact hb)]
    exact node_set0 h.lies.1 _
  · have := heap_alloc_new (wr.setCell ⟨b, 0, none⟩ (.pointer (some ⟨wr.heap.size, 0, none⟩))) (.cells #[.pointer none, .pointer none, z, .bool false] y)
    rw [hsz] at this
    exact this
  · exact h.lies.2.2.keep fun k hk => hsame k (fun e => hn.1 (e ▸ hk)) (h.old k (.inl (hob k hk))).2.1
  · simp only [Nt.own, List.nil_append, List.append_nil, List.cons_append, List.nodup_cons, List.mem_cons]
    refine ⟨?_, ?_, hn.2⟩
    · rintro (e | e)
      · omega
      · exact hn.1 e
    · intro e
      have := (h.old _ (.inl (hob _ e))).2.1
      omega
  · intro k hk
    simp only [Nt.own, List.nil_append, List.append_nil, List.cons_append, List.mem_cons] at hk
    rcases hk with rfl | rfl | hk
    · exact h.off _ (by simp [Nt.own])
    · intro e
      have := (h.old _ (.inr e)).2.1
      omega
    · exact h.off _ (hob k hk)
  · have hs2 : ((wr.setCell ⟨b, 0, none⟩ (.pointer (some ⟨wr.heap.size, 0, none⟩))).alloc (.cells #[.pointer none, .pointer none, z, .bool false] y)).heap.size = wr.heap.size + 1 := by rw [size_alloc, hsz]
    intro k hk
    rw [hs2]
    have hw := h.keep.size
    have h1 := h.two.lt
    have h2 := h.now.lt
    have h3 : T < wr.heap.size := lt_of_block h.top
    have hnew : ∀ k, k = wr.heap.size → (k ∈ t.own ∨ w.heap.size ≤ k) ∧ k < wr.heap.size + 1 ∧ k ≠ P ∧ k ≠ A ∧ k ≠ T := fun k e => ⟨.inr (by omega), by omega, by omega, by omega, by omega⟩
    have hold : ∀ k, k ∈ (Nt.nd b .nil hi v is).own ∨ k ∈ cx → (k ∈ t.own ∨ w.heap.size ≤ k) ∧ k < wr.heap.size + 1 ∧ k ≠ P ∧ k ≠ A ∧ k ≠ T := fun k e => ⟨(h.old k e).1, Nat.lt_succ_of_lt (h.old k e).2.1, (h.old k e).2.2⟩
    rcases hk with hk | hk
    · simp only [Nt.own, List.nil_append, List.append_nil, List.cons_append, List.mem_cons] at hk
      rcases hk with rfl | e | hk
      · exact hold _ (.inl (by simp [Nt.own]))
      · exact hnew k e
      · exact hold _ (.inl (hob k hk))
    · exact hold _ (.inr hk)
  · exact h.kids
  · rw [h.list]
    simp [Nt.list, one]
  · refine (h.keep.setCell (p := ⟨b, 0, none⟩) ?_ _).alloc _
    rcases hbo.1 with e | e
    · exact .inl (by simp [e])
    · exact .inr e
  · exact (hsame T (fun e => hbo.2.2.2.2 e.symm) (lt_of_block h.top)).trans h.top
theorem Gr.makeHigh {yT y : Nat} {z : Value} {w : World} {T : Nat} {t t0 : Nt} {P A : Nat} {p : Pf} {wr : World} {b : Nat} {lo : Nt} {v : Value} {is : Bool} {c cn : Pf} {cx : List Nat} {pre post : List (Pf × Value)} {K : Prop} (h : Gr yT y z w T t t0 P A p wr (.nd b lo .nil v is) c cn cx pre post K) :
    Gr yT y z w T t t0 P A p ((wr.setCell ⟨b, 1, none⟩ (.pointer (some ⟨wr.heap.size, 0, none⟩))).alloc (.cells #[.pointer none, .pointer none, z, .bool false] y)) (.nd b lo (.nd wr.heap.size .nil .nil z false) v is) c cn cx pre post K := by
  have hb : b < wr.heap.size := lt_of_block h.lies.1
  have hsz : (wr.setCell ⟨b, 1, none⟩ (.pointer (some ⟨wr.heap.size, 0, none⟩))).heap.size = wr.heap.size := size_setCell _ _ _
  have hsame : ∀ k, k ≠ b → k < wr.heap.size → ((wr.setCell ⟨b, 1, none⟩ (.pointer (some ⟨wr.heap.size, 0, none⟩))).alloc (.cells #[.pointer none, .pointer none, z, .bool false] y)).heap[k]? = wr.heap[k]? := fun k h1 h2 => by
    rw [heap_alloc_lt _ _ _ (by rw [hsz]; exact h2)]
    exact heap_setCell_other _ _ _ _ h1
  have hn := h.nod
  simp only [Nt.own, List.append_nil, List.nodup_cons] at hn
  have hob : ∀ k, k ∈ lo.own → k ∈ (Nt.nd b lo .nil v is).own := fun k hk => by simp [Nt.own, hk]
  have hbo := h.old b (.inl (by simp [Nt.own]))
  have hcx : ∀ k ∈ cx, k ≠ b := fun k hk e => h.off b (by simp [Nt.own]) (e ▸ hk)
  refine ⟨h.wand.step rfl fun k hk => hsame k (hcx k hk) (h.old k (.inr hk)).2.1, ⟨?_, ?_, ⟨?_, trivial, trivial⟩⟩, ?_, ?_, ?_, ?_, ?_, ?_, ?_, (hsame P (fun e => hbo.2.2.1 e.symm) h.two.lt).trans h.two, (hsame A (fun e => hbo.2.2.2.1 e.symm) h.now.lt).trans h.now, h.hP, h.hA, h.ne, h.hT, h.good, h.isIn⟩
  · rw [heap_alloc_lt _ _ _ (by rw [hsz]; exact hb)]
    exact node_set1 h.lies.1 _
  · exact h.lies.2.1.keep fun k hk => hsame k (fun e => hn.1 (e ▸ hk)) (h.old k (.inl (hob k hk))).2.1
  · have := heap_alloc_new (wr.setCell ⟨b, 1, none⟩ (.pointer (some ⟨wr.heap.size, 0, none⟩))) (.cells #[.pointer none, .pointer none, z, .bool false] y)
    rw [hsz] at this
    exact this
  · rw [show (Nt.nd b lo (.nd wr.heap.size .nil .nil z false) v is).own = b :: (lo.own ++ [wr.heap.size]) from rfl, List.nodup_cons, List.nodup_append]
    refine ⟨fun e => ?_, hn.2, by simp, fun x hx x' hx' e => ?_⟩
    · rcases List.mem_append.1 e with e | e
      · exact hn.1 e
      · simp at e; omega
    · simp at hx'
      subst e
      have := (h.old _ (.inl (hob _ hx))).2.1
      omega
  · intro k hk
    rw [show (Nt.nd b lo (.nd wr.heap.size .nil .nil z false) v is).own = b :: (lo.own ++ [wr.heap.size]) from rfl, List.mem_cons, List.mem_append, List.mem_singleton] at hk
    rcases hk with rfl | hk | rfl
    · exact h.off _ (by simp [Nt.own])
    · exact h.off _ (hob k hk)
    · intro e
      have := (h.old _ (.inr e)).2.1
      omega
  · have hs2 : ((wr.setCell ⟨b, 1, none⟩ (.pointer (some ⟨wr.heap.size, 0, none⟩))).alloc (.cells #[.pointer none, .pointer none, z, .bool false] y)).heap.size = wr.heap.size + 1 := by rw [size_alloc, hsz]
    intro k hk
    rw [hs2]
    have hw := h.keep.size
    have h1 := h.two.lt
    have h2 := h.now.lt
    have h3 : T < wr.heap.size := lt_of_block h.top
    have hnew : ∀ k, k = wr.heap.size → (k ∈ t.own ∨ w.heap.size ≤ k) ∧ k < wr.heap.size + 1 ∧ k ≠ P ∧ k ≠ A ∧ k ≠ T := fun k e => ⟨.inr (by omega), by omega, by omega, by omega, by omega⟩
    have hold : ∀ k, k ∈ (Nt.nd b lo .nil v is).own ∨ k ∈ cx → (k ∈ t.own ∨ w.heap.size ≤ k) ∧ k < wr.heap.size + 1 ∧ k ≠ P ∧ k ≠ A ∧ k ≠ T := fun k e => ⟨(h.old k e).1, Nat.lt_succ_of_lt (h.old k e).2.1, (h.old k e).2.2⟩
    rcases hk with hk | hk
    · rw [show (Nt.nd b lo (.nd wr.heap.size .nil .nil z false) v is).own = b :: (lo.own ++ [wr.heap.size]) from rfl, List.mem_cons, List.mem_append, List.mem_singleton] at hk
      rcases hk with rfl | hk | e
      · exact hold _ (.inl (by simp [Nt.own]))
      · exact hold _ (.inl (hob k hk))
      · exact hnew k e
    · exact hold _ (.inr hk)
  · exact h.kids
  · rw [h.list]
    simp [Nt.list, one]
  · refine (h.keep.setCell (p := ⟨b, 1, none⟩) ?_ _).alloc _
    rcases hbo.1 with e | e
    · exact .inl (by simp [e])
    · exact .inr e
  · exact (hsame T (fun e => hbo.2.2.2.2 e.symm) (lt_of_block h.top)).trans h.top
/-- The way goes on at a half, with a new block for its prefix. -/
theorem Gr.low {yT y : Nat} {z : Value} {w : World} {T : Nat} {t t0 : Nt} {P A : Nat} {p : Pf} {wr : World} {b : Nat} {lo hi : Nt} {v : Value} {is : Bool} {c : Pf} {cx : List Nat} {pre post : List (Pf × Value)} {K : Prop} (h : Gr yT y z w T t t0 P A p wr (.nd b lo hi v is) c (half c false) cx pre post K)
    (hl : left c ≠ 0) (hg : Gd (half c false)) (hi' : In (half c false) p) (hz : is = false → v = z) (hw : hi.wf z (left c - 1)) (hk : kidsOk z (left c - 1) lo) :
    Gr yT y z w T t t0 P wr.heap.size p (wr.alloc (.cells #[.int .u32 (half c false).1, .int .i64 (half c false).2] 30)) lo (half c false) (half c false) (b :: (hi.own ++ cx)) (pre ++ one is c v) (hi.list (half c true) ++ post) (kidsOk z (left (half c false)) lo) := by
  have hne : lo ≠ .nil := fun e => by rw [e] at hk; exact hk
  have hn := h.nod
  simp only [Nt.own, List.nodup_cons, List.mem_append, List.nodup_append] at hn
  obtain ⟨hn1, hn2, hn3, hn4⟩ := hn
  have hbl := balloc (brefl wr) (.cells #[.int .u32 (half c false).1, .int .i64 (half c false).2] 30)
  have hold : ∀ k, k ∈ lo.own ∨ k ∈ b :: (hi.own ++ cx) → k ∈ (Nt.nd b lo hi v is).own ∨ k ∈ cx := fun k hk => by
    simp only [Nt.own, List.mem_cons, List.mem_append] at hk ⊢
    rcases hk with e | e | e | e
    · exact .inl (.inr (.inl e))
    · exact .inl (.inl e)
    · exact .inl (.inr (.inr e))
    · exact .inr e
  refine ⟨(h.wand.low h.lies h.nod h.off hz hl hw hne).step rfl fun k hk => hbl.block k (h.old k (hold k (.inr hk))).2.1, h.lies.2.1.below hbl, hn2, fun k hk e => ?_, fun k hk => ?_, by rw [left_half]; exact hk, ?_, h.keep.then hbl, (hbl.block T (lt_of_block h.top)).trans h.top, h.two.below hbl, two_new wr _, h.hP, h.keep.size, by have := h.two.lt; omega, h.hT, hg, hi'⟩
  · simp only [List.mem_cons, List.mem_append] at e
    rcases e with rfl | e | e
    · exact hn1 (.inl hk)
    · exact hn4 k hk k e rfl
    · exact h.off k (by simp [Nt.own, hk]) e
  · have := h.old k (hold k hk)
    exact ⟨this.1, by rw [size_alloc]; omega, this.2.2.1, by omega, this.2.2.2.2⟩
  · rw [h.list]
    simp [Nt.list]
theorem Gr.high {yT y : Nat} {z : Value} {w : World} {T : Nat} {t t0 : Nt} {P A : Nat} {p : Pf} {wr : World} {b : Nat} {lo hi : Nt} {v : Value} {is : Bool} {c : Pf} {cx : List Nat} {pre post : List (Pf × Value)} {K : Prop} (h : Gr yT y z w T t t0 P A p wr (.nd b lo hi v is) c (half c true) cx pre post K)
    (hl : left c ≠ 0) (hg : Gd (half c true)) (hi' : In (half c true) p) (hz : is = false → v = z) (hw : lo.wf z (left c - 1)) (hk : kidsOk z (left c - 1) hi) :
    Gr yT y z w T t t0 P wr.heap.size p (wr.alloc (.cells #[.int .u32 (half c true).1, .int .i64 (half c true).2] 30)) hi (half c true) (half c true) (b :: (lo.own ++ cx)) (pre ++ (one is c v ++ lo.list (half c false))) post (kidsOk z (left (half c true)) hi) := by
  have hne : hi ≠ .nil := fun e => by rw [e] at hk; exact hk
  have hn := h.nod
  simp only [Nt.own, List.nodup_cons, List.mem_append, List.nodup_append] at hn
  obtain ⟨hn1, hn2, hn3, hn4⟩ := hn
  have hbl := balloc (brefl wr) (.cells #[.int .u32 (half c true).1, .int .i64 (half c true).2] 30)
  have hold : ∀ k, k ∈ hi.own ∨ k ∈ b :: (lo.own ++ cx) → k ∈ (Nt.nd b lo hi v is).own ∨ k ∈ cx := fun k hk => by
    simp only [Nt.own, List.mem_cons, List.mem_append] at hk ⊢
    rcases hk with e | e | e | e
    · exact .inl (.inr (.inr e))
    · exact .inl (.inl e)
    · exact .inl (.inr (.inl e))
    · exact .inr e
  refine ⟨(h.wand.high h.lies h.nod h.off hz hl hw hne).step rfl fun k hk => hbl.block k (h.old k (hold k (.inr hk))).2.1, h.lies.2.2.below hbl, hn3, fun k hk e => ?_, fun k hk => ?_, by rw [left_half]; exact hk, ?_, h.keep.then hbl, (hbl.block T (lt_of_block h.top)).trans h.top, h.two.below hbl, two_new wr _, h.hP, h.keep.size, by have := h.two.lt; omega, h.hT, hg, hi'⟩
  · simp only [List.mem_cons, List.mem_append] at e
    rcases e with rfl | e | e
    · exact hn1 (.inr hk)
    · exact hn4 k e k hk rfl
    · exact h.off k (by simp [Nt.own, hk]) e
  · have := h.old k (hold k hk)
    exact ⟨this.1, by rw [size_alloc]; omega, this.2.2.1, by omega, this.2.2.2.2⟩
  · rw [h.list]
    simp [Nt.list]
theorem kidsOk_new (z : Value) (d b : Nat) : kidsOk z d (.nd b .nil .nil z false) := ⟨fun _ => rfl, fun _ => ⟨rfl, rfl⟩, trivial, trivial⟩
theorem kidsOk_wf {z : Value} {d : Nat} {t : Nt} (h : t.wf z d) (hne : t ≠ .nil) : kidsOk z d t := by
  cases t with
  | nil => exact absurd rfl hne
  | nd b lo hi v is => exact ⟨h.2.1, h.2.2.1, h.2.2.2.1, h.2.2.2.2⟩
end Go.Proofs.Ytechocnednepiaa
