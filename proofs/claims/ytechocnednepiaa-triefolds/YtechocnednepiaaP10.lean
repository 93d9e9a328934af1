import Derived.Test.YtechocnednepiaaP9
import Derived.Deep.RegionHeldLaw
/- The contract of a node's over: it goes to each prefix in order, till it is told to end. -/
namespace Go.Proofs.Ytechocnednepiaa
open Go.RowKit

/-- What is asked of a closure that is called at prefixes with their values: I tells what it has come by, and which blocks it may write. -/
structure Pairs (f : Nat) (lb : Array Value) (ok : List (Pf × Value) → Pf × Value → Prop) (I : List (Pf × Value) → (Nat → Prop) → World → Prop) (ans : List (Pf × Value) → Pf × Value → Bool) : Prop where
  call : ∀ pre S W (x : Pf × Value), I pre S W → ok pre x → Calls Try.prog f (#[pv x.1, x.2] ++ lb) W fun e w' => e = .returned (.bool (ans pre x)) ∧ ∃ S', I (pre ++ [x]) S' w' ∧ Keep S W w' ∧ ∀ k, S' k → S k ∨ W.heap.size ≤ k
  keep : ∀ pre S W W', I pre S W → (∀ k, S k → W'.heap[k]? = W.heap[k]?) → I pre S W'
  lt : ∀ pre S W k, I pre S W → S k → k < W.heap.size
/-- How far it goes, and whether it was never told to end. -/
def goes (ans : List (Pf × Value) → Pf × Value → Bool) : List (Pf × Value) → List (Pf × Value) → List (Pf × Value) × Bool
  | pre, [] => (pre, true)
  | pre, x :: l => if ans pre x then goes ans (pre ++ [x]) l else (pre ++ [x], false)
theorem goes_append (ans : List (Pf × Value) → Pf × Value → Bool) : ∀ (l m pre : List (Pf × Value)), goes ans pre (l ++ m) = if (goes ans pre l).2 then goes ans (goes ans pre l).1 m else goes ans pre l
  | [], m, pre => by simp [goes]
  | x :: l, m, pre => by
    simp only [List.cons_append, goes]
    by_cases h : ans pre x = true
    · simp only [h, if_true]
      exact goes_append ans l m _
    · simp [h]
theorem goes_all (ans : List (Pf × Value) → Pf × Value → Bool) : ∀ (l pre : List (Pf × Value)), (goes ans pre l).2 = true → (goes ans pre l).1 = pre ++ l
  | [], pre, _ => by simp [goes]
  | x :: l, pre, h => by
    by_cases e : ans pre x = true
    · simp only [goes, e, if_true] at h ⊢
      rw [goes_all ans l _ h]
      simp
    · simp [goes, e] at h
/-- All of a list may be handed to the closure, one behind the other. -/
def OkAll (ok : List (Pf × Value) → Pf × Value → Prop) (pre l : List (Pf × Value)) : Prop := ∀ l1 x l2, l = l1 ++ x :: l2 → ok (pre ++ l1) x
/-- What is so behind it. -/
def Gone (I : List (Pf × Value) → (Nat → Prop) → World → Prop) (S : Nat → Prop) (w : World) (r : List (Pf × Value) × Bool) (e : Ending) (w' : World) : Prop :=
  e = .returned (.bool r.2) ∧ ∃ S', I r.1 S' w' ∧ Keep S w w' ∧ ∀ k, S' k → S k ∨ w.heap.size ≤ k
theorem Gone.back {I : List (Pf × Value) → (Nat → Prop) → World → Prop} {S S1 : Nat → Prop} {w w1 : World} {r : List (Pf × Value) × Bool} {e : Ending} {w' : World} (h : Gone I S1 w1 r e w') (hk : Keep S w w1) (hm : ∀ k, S1 k → S k ∨ w.heap.size ≤ k) : Gone I S w r e w' := by
  obtain ⟨h1, S', h2, h3, h4⟩ := h
  refine ⟨h1, S', h2, hk.trans' h3 hm, fun k h => ?_⟩
  rcases h4 k h with e | e
  · exact hm k e
  · exact .inr (Nat.le_trans hk.size e)
theorem over_nil (c : Pf) (fv : Value) (w : World) : Calls Try.prog 54 #[.pointer none, pv c, fv] w fun e w' => e = .returned (.bool true) ∧ Below w.heap.size w w' := by
  obtain ⟨c0, c1⟩ := c
  unfold pv
  go_enter Try.func54, Try.ntmps54
  go_wp2_with fail
  go_ret
  exact ⟨rfl, balloc (brefl w) _⟩
/-- Where over stands: the node, its prefix's box, what the closure has come by. -/
structure Ov (I : List (Pf × Value) → (Nat → Prop) → World → Prop) (S0 : Nat → Prop) (w : World) (t : Nt) (c : Pf) (P : Nat) (wr : World) (S : Nat → Prop) (pre : List (Pf × Value)) : Prop where
  inv : I pre S wr
  keep : Keep S0 w wr
  more : ∀ k, S k → S0 k ∨ w.heap.size ≤ k
  lies : t.At 89 wr
  apart : ∀ k ∈ t.own, ¬ S k
  box : Two wr P c
  off : ¬ S P
  old : w.heap.size ≤ P
theorem Ov.below {f : Nat} {lb : Array Value} {ok : List (Pf × Value) → Pf × Value → Prop} {I : List (Pf × Value) → (Nat → Prop) → World → Prop} {ans : List (Pf × Value) → Pf × Value → Bool} {S0 : Nat → Prop} {w : World} {t : Nt} {c : Pf} {P : Nat} {wr w2 : World} {S : Nat → Prop} {pre : List (Pf × Value)} (h : Ov I S0 w t c P wr S pre) (hN : Pairs f lb ok I ans) (hb : Below wr.heap.size wr w2) : Ov I S0 w t c P w2 S pre :=
  ⟨hN.keep _ _ _ _ h.inv fun k hk => hb.block k (hN.lt _ _ _ k h.inv hk), h.keep.then hb, h.more, h.lies.below hb, h.apart, h.box.below hb, h.off, h.old⟩
theorem Ov.called {I : List (Pf × Value) → (Nat → Prop) → World → Prop} {S0 : Nat → Prop} {w : World} {t : Nt} {c : Pf} {P : Nat} {wr w2 : World} {S S2 : Nat → Prop} {pre pre2 : List (Pf × Value)} (h : Ov I S0 w t c P wr S pre) (hi : I pre2 S2 w2) (hk : Keep S wr w2) (hm : ∀ k, S2 k → S k ∨ wr.heap.size ≤ k) : Ov I S0 w t c P w2 S2 pre2 where
  inv := hi
  keep := h.keep.trans' hk h.more
  more := fun k hk2 => by
    rcases hm k hk2 with e | e
    · exact h.more k e
    · exact .inr (Nat.le_trans h.keep.size e)
  lies := h.lies.kept hk h.apart
  apart := fun k hmem e => by
    rcases hm _ e with e | e
    · exact h.apart k hmem e
    · have := h.lies.lt k hmem; omega
  box := h.box.kept hk h.off
  off := fun e => by
    rcases hm _ e with e | e
    · exact h.off e
    · have := h.box.lt; omega
  old := h.old
theorem Ov.start {f : Nat} {lb : Array Value} {ok : List (Pf × Value) → Pf × Value → Prop} {I : List (Pf × Value) → (Nat → Prop) → World → Prop} {ans : List (Pf × Value) → Pf × Value → Bool} {S : Nat → Prop} {w : World} {t : Nt} {pre : List (Pf × Value)} (hN : Pairs f lb ok I ans) (hI : I pre S w) (hl : t.At 89 w) (hs : ∀ k ∈ t.own, ¬ S k) (c : Pf) :
    Ov I S w t c w.heap.size (w.alloc (.cells #[.int .u32 c.1, .int .i64 c.2] 30)) S pre :=
  have hb := balloc (brefl w) (.cells #[.int .u32 c.1, .int .i64 c.2] 30)
  ⟨hN.keep _ _ _ _ hI fun k hk => hb.block k (hN.lt _ _ _ k hI hk), Keep.of hb, fun _ hk => .inl hk, hl.below hb, hs, two_new w c, fun e => absurd (hN.lt _ _ _ _ hI e) (Nat.lt_irrefl _), Nat.le_refl _⟩

theorem ov_low {b : Nat} {lo hi : Nt} {v : Value} {is : Bool} {S : Nat → Prop} (h : ∀ k ∈ (Nt.nd b lo hi v is).own, ¬ S k) : ∀ k ∈ lo.own, ¬ S k := fun k hk => h k (by simp [Nt.own, hk])
theorem ov_high {b : Nat} {lo hi : Nt} {v : Value} {is : Bool} {S : Nat → Prop} (h : ∀ k ∈ (Nt.nd b lo hi v is).own, ¬ S k) : ∀ k ∈ hi.own, ¬ S k := fun k hk => h k (by simp [Nt.own, hk])
/-- The same, with the boxes of both halves. -/
structure Ov5 (I : List (Pf × Value) → (Nat → Prop) → World → Prop) (S0 : Nat → Prop) (w : World) (b : Nat) (lo hi : Nt) (v : Value) (is : Bool) (c : Pf) (P Q : Nat) (q r : Pf) (wr : World) (S : Nat → Prop) (pre : List (Pf × Value)) : Prop where
  ov : Ov I S0 w (.nd b lo hi v is) c P wr S pre
  tq : Two wr Q q
  tr : Two wr (Q + 1) r
  nq : ¬ S Q
  nr : ¬ S (Q + 1)
theorem Ov5.called {I : List (Pf × Value) → (Nat → Prop) → World → Prop} {S0 : Nat → Prop} {w : World} {b : Nat} {lo hi : Nt} {v : Value} {is : Bool} {c : Pf} {P Q : Nat} {q r : Pf} {wr w2 : World} {S S2 : Nat → Prop} {pre pre2 : List (Pf × Value)} (h : Ov5 I S0 w b lo hi v is c P Q q r wr S pre) (hi' : I pre2 S2 w2) (hk : Keep S wr w2) (hm : ∀ k, S2 k → S k ∨ wr.heap.size ≤ k) : Ov5 I S0 w b lo hi v is c P Q q r w2 S2 pre2 :=
  ⟨h.ov.called hi' hk hm, h.tq.kept hk h.nq, h.tr.kept hk h.nr, fun e => by
    rcases hm _ e with e | e
    · exact h.nq e
    · have := h.tq.lt; omega, fun e => by
    rcases hm _ e with e | e
    · exact h.nr e
    · have := h.tr.lt; omega⟩
theorem Ov5.drew {f : Nat} {lb : Array Value} {ok : List (Pf × Value) → Pf × Value → Prop} {ans : List (Pf × Value) → Pf × Value → Bool} {I : List (Pf × Value) → (Nat → Prop) → World → Prop} {S0 : Nat → Prop} {w : World} {b : Nat} {lo hi : Nt} {v : Value} {is : Bool} {c : Pf} {P Q : Nat} {q r : Pf} {wr : World} {S : Nat → Prop} {pre : List (Pf × Value)} (h : Ov5 I S0 w b lo hi v is c P Q q r wr S pre) (hN : Pairs f lb ok I ans) : Ov5 I S0 w b lo hi v is c P Q q r wr.drew S pre :=
  ⟨h.ov.below hN (Below.drew (brefl _)), h.tq.below (Below.drew (brefl _)), h.tr.below (Below.drew (brefl _)), h.nq, h.nr⟩
theorem Ov5.held {I : List (Pf × Value) → (Nat → Prop) → World → Prop} {S0 : Nat → Prop} {w : World} {b : Nat} {lo hi : Nt} {v : Value} {is : Bool} {c : Pf} {P Q : Nat} {q r : Pf} {wr : World} {S : Nat → Prop} {pre : List (Pf × Value)} (h : Ov5 I S0 w b lo hi v is c P Q q r wr S pre) :
    (wr.cell? ⟨b, 0, none⟩ = some lo.ptr ∧ wr.cell? ⟨b, 1, none⟩ = some hi.ptr) ∧ (wr.cell? ⟨Q, 0, none⟩ = some (.int .u32 q.1) ∧ wr.cell? ⟨Q, 1, none⟩ = some (.int .i64 q.2)) ∧ (wr.cell? ⟨Q + 1, 0, none⟩ = some (.int .u32 r.1) ∧ wr.cell? ⟨Q + 1, 1, none⟩ = some (.int .i64 r.2)) :=
  ⟨⟨(node_cells h.ov.lies.1).1, (node_cells h.ov.lies.1).2.1⟩, ⟨h.tq.cells.1, h.tq.cells.2.1⟩, ⟨h.tr.cells.1, h.tr.cells.2.1⟩⟩
theorem ov_held3 {I : List (Pf × Value) → (Nat → Prop) → World → Prop} {S0 : Nat → Prop} {w : World} {b : Nat} {lo hi : Nt} {v : Value} {is : Bool} {c : Pf} {P : Nat} {wr : World} {S : Nat → Prop} {pre : List (Pf × Value)} (h : Ov I S0 w (.nd b lo hi v is) c P wr S pre) :
    (wr.cell? ⟨b, 2, none⟩ = some v ∧ wr.cell? ⟨b, 3, none⟩ = some (.bool is)) ∧ (wr.cell? ⟨P, 0, none⟩ = some (.int .u32 c.1) ∧ wr.cell? ⟨P, 1, none⟩ = some (.int .i64 c.2)) :=
  ⟨⟨(node_cells h.lies.1).2.2.1, (node_cells h.lies.1).2.2.2.1⟩, ⟨h.box.cells.1, h.box.cells.2.1⟩⟩
theorem ov_five {f : Nat} {lb : Array Value} {ok : List (Pf × Value) → Pf × Value → Prop} {I : List (Pf × Value) → (Nat → Prop) → World → Prop} {ans : List (Pf × Value) → Pf × Value → Bool} {S0 : Nat → Prop} {w : World} {b : Nat} {lo hi : Nt} {v : Value} {is : Bool} {c : Pf} {P : Nat} {w4 : World} {S : Nat → Prop} {pre : List (Pf × Value)} (hN : Pairs f lb ok I ans) (h : Ov I S0 w (.nd b lo hi v is) c P w4 S pre) (q r : Pf) :
    Ov5 I S0 w b lo hi v is c P w4.heap.size q r ((w4.alloc (.cells #[.int .u32 q.1, .int .i64 q.2] 30)).alloc (.cells #[.int .u32 r.1, .int .i64 r.2] 30)) S pre := by
  refine ⟨h.below hN (balloc (balloc (brefl _) _) _), (two_new w4 q).below (balloc (brefl _) _), ?_, fun e => absurd (hN.lt _ _ _ _ h.inv e) (Nat.lt_irrefl _), fun e => absurd (hN.lt _ _ _ _ h.inv e) (by omega)⟩
  have := two_new (w4.alloc (.cells #[.int .u32 q.1, .int .i64 q.2] 30)) r
  rw [size_alloc] at this
  exact this
end Go.Proofs.Ytechocnednepiaa
