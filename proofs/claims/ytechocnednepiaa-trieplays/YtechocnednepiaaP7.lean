import Derived.Test.YtechocnednepiaaP6
import Derived.Deep.RegionWith
/- The contract of a node's without. -/
namespace Go.Proofs.Ytechocnednepiaa
open Go.RowKit

/-- A tree that is left. -/
structure Left (y : Nat) (z : Value) (w : World) (t : Nt) (c p : Pf) (w' : World) (t' : Nt) : Prop where
  lies : t'.At y w'
  own : ∀ k ∈ t'.own, k ∈ t.own
  nod : t'.own.Nodup
  keep : Keep (fun k => k ∈ t.own) w w'
  wf : t'.wf z (left c)
  list : ∃ (v : Value) (pre post : List (Pf × Value)), t.list c = pre ++ (p, v) :: post ∧ t'.list c = pre ++ post
set_option maxHeartbeats 4000000 in
set_option maxRecDepth 100000 in
theorem without_here {w : World} {b : Nat} {lo hi : Nt} {v : Value} {is : Bool} {p : Pf} (hl : (Nt.nd b lo hi v is).At 89 w) :
    Calls Try.prog 48 #[.pointer (some ⟨b, 0, none⟩), pv p, pv p] w fun e w' => e = .returned (if (lo.isNil && hi.isNil) = true then .pointer none else .pointer (some ⟨b, 0, none⟩)) ∧ w' = (((w.setCell ⟨b, 2, none⟩ (.int .i64 0)).setCell ⟨b, 3, none⟩ (.bool false)).alloc (.cells #[.int .u32 p.1, .int .i64 p.2] 30)).alloc (.cells #[.int .u32 p.1, .int .i64 p.2] 30) := by
  obtain ⟨n0, n1, n2, n3, nf⟩ := node_cells hl.1
  have hbl := lt_of_block hl.1
  have nf2 := nf 2
  have nf3 := nf 3
  have hgd := guardP
  obtain ⟨p0, p1⟩ := p
  have heq := eq_eq p0 p1
  clear hl nf
  unfold pv
  go_enter Try.func48, Try.ntmps48
  cases lo with
  | nil =>
    simp only [ptr_none] at n0
    cases hi with
    | nil =>
      simp only [ptr_none] at n1
      go_wp2_with fail
      go_ret
      exact ⟨by simp, rfl⟩
    | nd b2 lo2 hi2 v2 is2 =>
      simp only [ptr_nd] at n1
      go_wp2_with fail
      go_ret
      exact ⟨by simp, rfl⟩
  | nd b2 lo2 hi2 v2 is2 =>
    simp only [ptr_nd] at n0
    go_wp2_with fail
    go_ret
    exact ⟨by simp, rfl⟩
/-- A node whose value is gone. -/
theorem left_here {y : Nat} {z : Value} {w w' : World} {b : Nat} {lo hi : Nt} {v : Value} {p : Pf} (hl : (Nt.nd b lo hi v true).At y w) (hn : (Nt.nd b lo hi v true).own.Nodup) (hw : (Nt.nd b lo hi v true).wf z (left p)) (hk : Keep (fun k => k ∈ (Nt.nd b lo hi v true).own) w w') (hs : ∀ k, k ≠ b → k < w.heap.size → w'.heap[k]? = w.heap[k]?) (hb : w'.heap[b]? = some (.cells #[lo.ptr, hi.ptr, z, .bool false] y (0, 0))) :
    ∃ t', (if (lo.isNil && hi.isNil) = true then Value.pointer none else .pointer (some ⟨b, 0, none⟩)) = t'.ptr ∧ Left y z w (.nd b lo hi v true) p p w' t' := by
  have hnd := hn
  simp only [Nt.own, List.nodup_cons, List.mem_append, List.nodup_append] at hnd
  cases hc : (lo.isNil && hi.isNil)
  · refine ⟨.nd b lo hi z false, rfl, ⟨hb, hl.2.1.keep fun k hm => hs k (fun e => hnd.1 (.inl (e ▸ hm))) (hl.2.1.lt k hm), hl.2.2.keep fun k hm => hs k (fun e => hnd.1 (.inr (e ▸ hm))) (hl.2.2.lt k hm)⟩, fun k hm => hm, hn, hk, ⟨?_, fun _ => rfl, hw.2.2.1, hw.2.2.2.1, hw.2.2.2.2⟩, v, [], lo.list (half p false) ++ hi.list (half p true), by simp [Nt.list, one], by simp [Nt.list, one]⟩
    cases lo with
    | nil =>
      cases hi with
      | nil => simp [Nt.isNil] at hc
      | nd => exact .inr (.inr (by simp))
    | nd => exact .inr (.inl (by simp))
  · cases lo with
    | nil =>
      cases hi with
      | nil => exact ⟨.nil, rfl, trivial, fun k hm => by simp [Nt.own] at hm, by simp [Nt.own], hk, trivial, v, [], [], by simp [Nt.list, one], rfl⟩
      | nd => simp [Nt.isNil] at hc
    | nd => simp [Nt.isNil] at hc
theorem left_low {y : Nat} {z : Value} {w w1 w2 : World} {b : Nat} {lo hi x : Nt} {v : Value} {is : Bool} {c p : Pf} (hl : (Nt.nd b lo hi v is).At y w) (hn : (Nt.nd b lo hi v is).own.Nodup) (hw : (Nt.nd b lo hi v is).wf z (left c)) (h0 : left c ≠ 0) (hb1 : Below w.heap.size w w1) (hL : Left y z w1 lo (half c false) p w2 x) :
    ∃ t', (if (!is && (x.isNil && hi.isNil)) = true then Value.pointer none else .pointer (some ⟨b, 0, none⟩)) = t'.ptr ∧ Left y z w (.nd b lo hi v is) c p (w2.setCell ⟨b, 0, none⟩ x.ptr) t' := by
  have hnd := hn
  simp only [Nt.own, List.nodup_cons, List.mem_append, List.nodup_append] at hnd
  obtain ⟨hn1, hn2, hn3, hn4⟩ := hnd
  have hbl := lt_of_block hl.1
  have hk2 : ∀ k, k ∉ lo.own → k < w.heap.size → w2.heap[k]? = w.heap[k]? := fun k h1 h2 => (hL.keep.block k h1 (Nat.lt_of_lt_of_le h2 hb1.size)).trans (hb1.block k h2)
  have hbb : w2.heap[b]? = _ := (hk2 b (fun e => hn1 (.inl e)) hbl).trans hl.1
  have hs : ∀ k, k ≠ b → (w2.setCell ⟨b, 0, none⟩ x.ptr).heap[k]? = w2.heap[k]? := fun k h1 => heap_setCell_other _ _ _ _ h1
  have hkeep : Keep (fun k => k ∈ (Nt.nd b lo hi v is).own) w (w2.setCell ⟨b, 0, none⟩ x.ptr) := (((Keep.of hb1).trans (hL.keep.mono fun k hk => by simp [Nt.own, hk])).setCell (p := ⟨b, 0, none⟩) (.inl (by simp [Nt.own])) _)
  obtain ⟨u, pre, post, hl1, hl2⟩ := hL.list
  have hlo : ∀ k ∈ x.own, k ∈ lo.own := hL.own
  cases hc : (!is && (x.isNil && hi.isNil))
  · refine ⟨.nd b x hi v is, rfl, ⟨node_set0 hbb _, hL.lies.keep fun k hm => hs k (fun e => hn1 (.inl (e ▸ hlo k hm))), hl.2.2.keep fun k hm => (hs k (fun e => hn1 (.inr (e ▸ hm)))).trans (hk2 k (fun e => hn4 k e k hm rfl) (hl.2.2.lt k hm))⟩, ?_, ?_, hkeep, ⟨?_, hw.2.1, fun e => absurd e h0, by have := hL.wf; rw [left_half] at this; exact this, hw.2.2.2.2⟩, u, one is c v ++ pre, post ++ hi.list (half c true), by simp [Nt.list, hl1], by simp [Nt.list, hl2]⟩
    · intro k hm
      simp only [Nt.own, List.mem_cons, List.mem_append] at hm ⊢
      rcases hm with e | e | e
      · exact .inl e
      · exact .inr (.inl (hlo k e))
      · exact .inr (.inr e)
    · simp only [Nt.own, List.nodup_cons, List.mem_append, List.nodup_append]
      exact ⟨fun e => by rcases e with e | e; exact hn1 (.inl (hlo b e)); exact hn1 (.inr e), hL.nod, hn3, fun k h1 k' h2 e => hn4 k (hlo k h1) k' h2 e⟩
    · cases is
      · cases x with
        | nil =>
          cases hi with
          | nil => simp [Nt.isNil] at hc
          | nd => exact .inr (.inr (by simp))
        | nd => exact .inr (.inl (by simp))
      · exact .inl rfl
  · cases is
    · cases x with
      | nil =>
        cases hi with
        | nil => exact ⟨.nil, rfl, trivial, fun k hm => by simp [Nt.own] at hm, by simp [Nt.own], hkeep, trivial, u, pre, post, by simp [Nt.list, one, hl1], by simpa [Nt.list] using hl2⟩
        | nd => simp [Nt.isNil] at hc
      | nd => simp [Nt.isNil] at hc
    · simp at hc
theorem left_high {y : Nat} {z : Value} {w w1 w2 : World} {b : Nat} {lo hi x : Nt} {v : Value} {is : Bool} {c p : Pf} (hl : (Nt.nd b lo hi v is).At y w) (hn : (Nt.nd b lo hi v is).own.Nodup) (hw : (Nt.nd b lo hi v is).wf z (left c)) (h0 : left c ≠ 0) (hb1 : Below w.heap.size w w1) (hL : Left y z w1 hi (half c true) p w2 x) :
    ∃ t', (if (!is && (lo.isNil && x.isNil)) = true then Value.pointer none else .pointer (some ⟨b, 0, none⟩)) = t'.ptr ∧ Left y z w (.nd b lo hi v is) c p (w2.setCell ⟨b, 1, none⟩ x.ptr) t' := by
  have hnd := hn
  simp only [Nt.own, List.nodup_cons, List.mem_append, List.nodup_append] at hnd
  obtain ⟨hn1, hn2, hn3, hn4⟩ := hnd
  have hbl := lt_of_block hl.1
  have hk2 : ∀ k, k ∉ hi.own → k < w.heap.size → w2.heap[k]? = w.heap[k]? := fun k h1 h2 => (hL.keep.block k h1 (Nat.lt_of_lt_of_le h2 hb1.size)).trans (hb1.block k h2)
  have hbb : w2.heap[b]? = _ := (hk2 b (fun e => hn1 (.inr e)) hbl).trans hl.1
  have hs : ∀ k, k ≠ b → (w2.setCell ⟨b, 1, none⟩ x.ptr).heap[k]? = w2.heap[k]? := fun k h1 => heap_setCell_other _ _ _ _ h1
  have hkeep : Keep (fun k => k ∈ (Nt.nd b lo hi v is).own) w (w2.setCell ⟨b, 1, none⟩ x.ptr) := (((Keep.of hb1).trans (hL.keep.mono fun k hk => by simp [Nt.own, hk])).setCell (p := ⟨b, 1, none⟩) (.inl (by simp [Nt.own])) _)
  obtain ⟨u, pre, post, hl1, hl2⟩ := hL.list
  have hlo : ∀ k ∈ x.own, k ∈ hi.own := hL.own
  cases hc : (!is && (lo.isNil && x.isNil))
  · refine ⟨.nd b lo x v is, rfl, ⟨node_set1 hbb _, hl.2.1.keep fun k hm => (hs k (fun e => hn1 (.inl (e ▸ hm)))).trans (hk2 k (fun e => hn4 k hm k e rfl) (hl.2.1.lt k hm)), hL.lies.keep fun k hm => hs k (fun e => hn1 (.inr (e ▸ hlo k hm)))⟩, ?_, ?_, hkeep, ⟨?_, hw.2.1, fun e => absurd e h0, hw.2.2.2.1, by have := hL.wf; rw [left_half] at this; exact this⟩, u, one is c v ++ lo.list (half c false) ++ pre, post, by simp [Nt.list, hl1], by simp [Nt.list, hl2]⟩
    · intro k hm
      simp only [Nt.own, List.mem_cons, List.mem_append] at hm ⊢
      rcases hm with e | e | e
      · exact .inl e
      · exact .inr (.inl e)
      · exact .inr (.inr (hlo k e))
    · simp only [Nt.own, List.nodup_cons, List.mem_append, List.nodup_append]
      exact ⟨fun e => by rcases e with e | e; exact hn1 (.inl e); exact hn1 (.inr (hlo b e)), hn2, hL.nod, fun k h1 k' h2 e => hn4 k h1 k' (hlo k' h2) e⟩
    · cases is
      · cases lo with
        | nil =>
          cases x with
          | nil => simp [Nt.isNil] at hc
          | nd => exact .inr (.inr (by simp))
        | nd => exact .inr (.inl (by simp))
      · exact .inl rfl
  · cases is
    · cases lo with
      | nil =>
        cases x with
        | nil => exact ⟨.nil, rfl, trivial, fun k hm => by simp [Nt.own] at hm, by simp [Nt.own], hkeep, trivial, u, pre, post, by simp [Nt.list, one, hl1], by simpa [Nt.list] using hl2⟩
        | nd => simp [Nt.isNil] at hc
      | nd => simp [Nt.isNil] at hc
    · simp at hc
end Go.Proofs.Ytechocnednepiaa
