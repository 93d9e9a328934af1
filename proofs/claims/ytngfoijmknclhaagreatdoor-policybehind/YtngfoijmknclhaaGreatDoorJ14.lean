/- What the reader makes is good; an expression is read of its plain text. -/
import Derived.Test.YtngfoijmknclhaaGreatDoorJ13
import Derived.ChangeKeysEq
import Derived.Laws.AppendOwn
import Derived.Laws.AppendOwnNone
import Derived.Deep.AppendLies
import Derived.OneCell
import Derived.Deep.MidRow
import Derived.Deep.RegionWith
import Derived.BigRegion
namespace Go.Proofs.YtngfoijmknclhaaGreatDoor.Ar
theorem number_as {r : Bs} {x : Int} {k : Bs} (h : Px.number r = .ok (x, k)) : Is.as x = true := by
  unfold Px.number at h
  split at h
  · split at h
    · rename_i ha
      simp only [Except.ok.injEq, Prod.mk.injEq] at h
      rw [← h.1]
      exact ha
    · cases h
  · cases h
theorem set_good : ∀ (f : Nat) (acc : List Prt) (r : Bs) (rs : List Prt) (k : Bs), (∀ p ∈ acc, Px.goodPair p) → Px.set f acc r = .ok (rs, k) → rs ≠ [] ∧ ∀ p ∈ rs, Px.goodPair p
  | 0, _, _, _, _, _, h => by cases h
  | f + 1, acc, r, rs, k, ha, h => by
    rw [Px.set] at h
    split at h
    · rename_i hc
      simp only [Except.ok.injEq, Prod.mk.injEq] at h
      obtain ⟨rfl, _⟩ := h
      exact ⟨hc.1, ha⟩
    · split at h
      · cases h
      · rename_i a k1 hn
        have h1 := number_as hn
        split at h
        · split at h
          · cases h
          · rename_i b k2 hn2
            have h2 := number_as hn2
            split at h
            · cases h
            · rename_i hab
              refine set_good f _ k2 rs k ?_ h
              intro p hp
              rcases List.mem_append.1 hp with hp | hp
              · exact ha p hp
              · simp at hp; subst hp; exact ⟨h1, h2, by simp only; omega, fun e => by cases e⟩
        · refine set_good f _ k1 rs k ?_ h
          intro p hp
          rcases List.mem_append.1 hp with hp | hp
          · exact ha p hp
          · simp at hp; subst hp; exact ⟨h1, h1, Int.le_refl _, fun _ => rfl⟩
/-- A reader that makes what is good, so many deep. -/
def Makes (ch : Bs → Except Int (List (List Nd) × Bs)) (d : Nat) : Prop := ∀ r c k, ch r = .ok (c, k) → Nd.Good d (.ch c)
theorem atom_good {ch : Bs → Except Int (List (List Nd) × Bs)} {d : Nat} (hm : Makes ch d) {r : Bs} {n : Nd} {k : Bs} (h : Px.atom ch r = .ok (n, k)) : Nd.Good d n ∧ ∀ j m, n ≠ .st j m := by
  unfold Px.atom at h
  split at h
  · simp only [Except.ok.injEq, Prod.mk.injEq] at h
    obtain ⟨rfl, _⟩ := h
    exact ⟨by rw [Nd.Good]; exact .inl ⟨rfl, rfl, rfl⟩, fun j m e => by cases e⟩
  · split at h
    · split at h
      · cases h
      · rename_i rs k1 hs
        simp only [Except.ok.injEq, Prod.mk.injEq] at h
        obtain ⟨rfl, _⟩ := h
        obtain ⟨h0, hg⟩ := set_good _ _ _ _ _ (by simp) hs
        exact ⟨by rw [Nd.Good]; exact .inr (.inl ⟨rfl, rfl, h0, hg⟩), fun j m e => by cases e⟩
    · split at h
      · split at h
        · cases h
        · rename_i c k1 hs
          split at h
          · simp only [Except.ok.injEq, Prod.mk.injEq] at h
            obtain ⟨rfl, _⟩ := h
            exact ⟨hm _ _ _ hs, fun j m e => by cases e⟩
          · cases h
      · split at h
        · cases h
        · rename_i x k1 hn
          simp only [Except.ok.injEq, Prod.mk.injEq] at h
          obtain ⟨rfl, _⟩ := h
          exact ⟨by rw [Nd.Good]; exact .inr (.inr ⟨rfl, rfl, x, rfl, number_as hn⟩), fun j m e => by cases e⟩
theorem good_st {d k : Nat} {n : Nd} (hk : k = 3 ∨ k = 4 ∨ k = 5) (hn : ∀ j m, n ≠ .st j m) (hg : Nd.Good d n) : Nd.Good d (.st k n) := by
  cases d <;> simp only [Nd.Good] <;> exact ⟨hk, hn, hg⟩
theorem sign_cases (r : Bs) : Px.sign r = 0 ∨ Px.sign r = 3 ∨ Px.sign r = 4 ∨ Px.sign r = 5 := by
  unfold Px.sign
  split
  · exact .inr (.inl rfl)
  · split
    · exact .inr (.inr (.inl rfl))
    · split
      · exact .inr (.inr (.inr rfl))
      · exact .inl rfl
theorem item_good {ch : Bs → Except Int (List (List Nd) × Bs)} {d : Nat} (hm : Makes ch d) {r : Bs} {n : Nd} {k : Bs} (h : Px.item ch r = .ok (n, k)) : Nd.Good d n := by
  unfold Px.item at h
  split at h
  · cases h
  · rename_i m k1 ha
    obtain ⟨h1, h2⟩ := atom_good hm ha
    split at h
    · simp only [Except.ok.injEq, Prod.mk.injEq] at h
      rw [← h.1]; exact h1
    · rename_i hs
      simp only [Except.ok.injEq, Prod.mk.injEq] at h
      rw [← h.1]
      exact good_st ((sign_cases k1).resolve_left hs) h2 h1
theorem goodRow_snoc (d : Nat) (n : Nd) : ∀ l, Nd.GoodRow d l → Nd.Good d n → Nd.GoodRow d (l ++ [n])
  | [], _, h => by simpa only [List.nil_append, Nd.GoodRow] using ⟨h, trivial⟩
  | m :: l, h, hn => by
    simp only [List.cons_append, Nd.GoodRow] at h ⊢
    exact ⟨h.1, goodRow_snoc d n l h.2 hn⟩
theorem goodRows_snoc (d : Nat) (n : List Nd) : ∀ l, Nd.GoodRows d l → Nd.GoodRow d n → Nd.GoodRows d (l ++ [n])
  | [], _, h => by simpa only [List.nil_append, Nd.GoodRows] using ⟨h, trivial⟩
  | m :: l, h, hn => by
    simp only [List.cons_append, Nd.GoodRows] at h ⊢
    exact ⟨h.1, goodRows_snoc d n l h.2 hn⟩
theorem row_good {ch : Bs → Except Int (List (List Nd) × Bs)} {d : Nat} (hm : Makes ch d) : ∀ (f : Nat) (acc : List Nd) (r : Bs) (l : List Nd) (k : Bs), Nd.GoodRow d acc → Px.row ch f acc r = .ok (l, k) → Nd.GoodRow d l
  | 0, _, _, _, _, _, h => by cases h
  | f + 1, acc, r, l, k, ha, h => by
    rw [Px.row] at h
    split at h
    · simp only [Except.ok.injEq, Prod.mk.injEq] at h
      rw [← h.1]; exact ha
    · split at h
      · split at h
        · cases h
        · rename_i n k1 hi
          exact row_good hm f _ k1 l k (goodRow_snoc d n acc ha (item_good hm hi)) h
      · simp only [Except.ok.injEq, Prod.mk.injEq] at h
        rw [← h.1]; exact ha
theorem rows_good {ch : Bs → Except Int (List (List Nd) × Bs)} {d : Nat} (hm : Makes ch d) : ∀ (f : Nat) (acc : List (List Nd)) (r : Bs) (l : List (List Nd)) (k : Bs), Nd.GoodRows d acc → Px.rows ch f acc r = .ok (l, k) → l ≠ [] ∧ Nd.GoodRows d l
  | 0, _, _, _, _, _, h => by cases h
  | f + 1, acc, r, l, k, ha, h => by
    rw [Px.rows] at h
    split at h
    · cases h
    · rename_i row k1 hr
      have hg := goodRows_snoc d row acc ha (row_good hm _ [] _ _ _ (by simp only [Nd.GoodRow]) hr)
      split at h
      · exact rows_good hm f _ _ l k hg h
      · simp only [Except.ok.injEq, Prod.mk.injEq] at h
        rw [← h.1]
        exact ⟨by simp, hg⟩
theorem choice_makes : ∀ d, Makes (Px.choice d) d
  | 0 => fun r c k h => by cases h
  | d + 1 => fun r c k h => by
    simp only [Nd.Good]
    exact rows_good (choice_makes d) _ [] r c k (by simp only [Nd.GoodRows]) h

theorem parse_good {s : Bs} {x : Bool × Bool × List (List Nd)} (h : Px.parse s = .ok x) : Nd.Good 8 (.ch x.2.2) := by
  unfold Px.parse at h
  split at h
  · cases h
  · split at h
    · cases h
    · rename_i c k hc
      by_cases hk : Px.skip (if Px.isAt k 36 = true then Px.next k else k) = []
      · rw [if_pos hk] at h
        simp only [Except.ok.injEq] at h
        rw [← h]
        exact choice_makes 8 _ _ _ hc
      · rw [if_neg hk] at h
        cases h
end Go.Proofs.YtngfoijmknclhaaGreatDoor.Ar
namespace Go.Proofs.YtngfoijmknclhaaGreatDoor.Ar
open Go.RowKit Go.Sort
/-- A slice that came in: nil has no room, and no place within a place. -/
def came (ao : Option Addr) (cap : Nat) : Prop := (ao = none → cap = 0) ∧ (∀ ad, ao = some ad → ad.spot = none)
theorem came_some (g o c : Nat) : came (some ⟨g, o, none⟩) c := ⟨fun h => (by cases h), fun ad h => (by cases h; rfl)⟩
theorem own_came {w : World} {B e size n cap : Nat} {ao : Option Addr} {xs : List Value} (h : w.ownsRow B e size (.slice ao n cap) n xs) : came ao cap := by
  rcases h.2 with ⟨hv, h0⟩ | ⟨g, cap', cur, hv, _⟩
  · simp only [Value.slice.injEq] at hv
    exact ⟨fun _ => hv.2.2, fun ad h => (by rw [hv.1] at h; cases h)⟩
  · simp only [Value.slice.injEq] at hv
    exact ⟨fun h => (by rw [hv.1] at h; cases h), fun ad h => (by rw [hv.1] at h; cases h; rfl)⟩

theorem infoI : (Tryz.prog.info? 3).map (fun i => (i.zero, i.size, i.bytes)) = some (some (.int .i64 0), 1, 8) := by kernel_rfl
theorem info_partsI : ∃ i0 : TypeInfo, Tryz.prog.info? 3 = some i0 ∧ i0.zero = some (.int .i64 0) ∧ i0.size = 1 ∧ i0.bytes = 8 := by
  have h := infoI
  cases hi : Tryz.prog.info? 3 with
  | none => rw [hi] at h; cases h
  | some i0 =>
    rw [hi] at h
    simp only [Option.map_some, Option.some.injEq, Prod.mk.injEq] at h
    exact ⟨i0, rfl, h.1, h.2.1, h.2.2⟩
theorem Is.cells_get (l : List Int) (j : Nat) (u : Value) (h : (Is.cells l)[j]? = some u) : ∃ hj : j < l.length, u = .int .i64 l[j] := by
  have hj : j < l.length := by have := (List.getElem?_eq_some_iff.1 h).1; rwa [Is.cells_length] at this
  refine ⟨hj, ?_⟩
  simp [Is.cells, hj] at h
  exact h.symm

/-- Numbers put behind a row of the call's own. -/
theorem append_ints {w w0 : World} {ops : Array Oper} {rest : List Oper} {o : Oper} {a : Act} {Q : Exit → Act → World → Prop} (hgd : o.guard = none) (s x : Operand)
    (ho : o.op = .call { callee := .builtin .append, args := #[s, x], argTypes := #[27, 27] }) (v : Value) (n : Nat) (xs : List Int) (hs : a.eval s = v) (hown : w.ownsRow w0.heap.size 3 1 v n (Is.cells xs))
    (ao : Option Addr) (nl cap : Nat) (l : List Int) (hx : a.eval x = .slice ao nl cap) (hnl : l.length = nl) (hR : Is.slot w ao l) (hC : came ao cap) (hn : n + nl ≤ 1000000) (hb : Below w0.heap.size w0 w)
    (h : ∀ v' w', w'.ownsRow w0.heap.size 3 1 v' (n + nl) (Is.cells (xs ++ l)) → Below w0.heap.size w0 w' → wpList Tryz.prog ops Q rest (a.put o.dst v') w') : wpList Tryz.prog ops Q (o :: rest) a w := by
  subst hnl
  obtain ⟨i0, hi, hz0, hz1, hz2⟩ := info_partsI
  cases ao with
  | none =>
    have hl : l = [] := by
      rcases hR with h | ⟨b, off, h, _⟩
      · exact h
      · cases h
    subst hl
    rw [hC.1 rfl] at hx
    refine wpList_append_own_none hgd s x 27 ho w0.heap.size 3 i0 1 Tryz.underlying27 hi v n (Is.cells xs) hs hown hx ?_
    exact h v w (by simpa using hown) hb
  | some ad =>
    obtain ⟨b, off, sp⟩ := ad
    obtain rfl : sp = none := hC.2 _ rfl
    have hrd : ∀ j u, (Is.cells l)[j]? = some u → w.cell? ((⟨b, off, none⟩ : Addr).add j) = some u := by
      intro j u hu
      obtain ⟨hj, rfl⟩ := Is.cells_get l j u hu
      rcases hR with h | ⟨b', off', h, hr⟩
      · rw [h] at hj; simp at hj
      · simp only [Option.some.injEq, Addr.mk.injEq, and_true] at h
        rw [show (⟨b, off, none⟩ : Addr).add j = ⟨b, off + j, none⟩ by unfold Addr.add; split <;> simp_all, h.1, h.2]
        exact hr j hj
    refine wpList_append_own w hgd s x 27 ho w0.heap.size 3 i0 _ 1 8 Tryz.underlying27 hi hz0 hz1 hz2 rfl (by decide) v n (Is.cells xs) hs hown ⟨b, off, none⟩ l.length cap (Is.cells l) hx (by rw [Is.cells_length, Nat.mul_one]) hrd (Is.cells_one l) (by unfold maxLen; omega) (by omega) hb.size ?_
    intro v' w' ho' hg _
    refine h v' w' ?_ (Below.grown hb hg hb.size fun k hk => (hown.lt k hk).1)
    rw [Is.cells_app]
    exact ho'
theorem Is.slot_one (W : World) (n : Int) (t : TypeId) : Is.slot (W.alloc (.cells #[.int .i64 n] t)) (some ⟨W.heap.size, 0, none⟩) [n] := by
  refine .inr ⟨_, 0, rfl, fun j hj => ?_⟩
  obtain rfl : j = 0 := by simp at hj; omega
  simp

end Go.Proofs.YtngfoijmknclhaaGreatDoor.Ar
namespace Go.Proofs.YtngfoijmknclhaaGreatDoor.Ar
open Go.RowKit Go.Sort
abbrev Xp : Type := Bool × Bool × List (List Nd)
mutual
def Nd.size : Nd → Nat
  | .num _ _ _ => 1
  | .ch rows => Nd.sizeRows rows
  | .st _ n => Nd.size n
def Nd.sizeRow : List Nd → Nat
  | [] => 0
  | n :: r => Nd.size n + Nd.sizeRow r
def Nd.sizeRows : List (List Nd) → Nat
  | [] => 0
  | l :: r => Nd.sizeRow l + Nd.sizeRows r
end
def X1 : Xp := (true, true, [[.num false false [(65000, 65000, false)], .st 3 (.num true false [(1, 65535, true)])]])
def X2 : Xp := (false, false, [[.st 4 (.ch [[.num false false [(1, 1, false)]], [.num false false [(2, 2, false)]]]), .num false false [(3, 3, false)]]])
theorem m1 : Ex.Meets X1 [65000, 1, 2] := by
  refine ⟨[], [65000, 1, 2], [], rfl, ?_, fun _ => rfl, fun _ => rfl⟩
  simp only [X1, Nd.MetRows, Nd.MetRow, or_false]
  refine ⟨[65000], [1, 2], rfl, ?_, [1, 2], [], rfl, ?_, rfl⟩
  · rw [Nd.Met]
    exact ⟨65000, rfl, (65000, 65000, false), by simp, by decide, by decide⟩
  · rw [Nd.Met, if_neg (by decide), if_pos rfl]
    refine Many.cons (a := [1]) (b := [2]) ?_ (Many.cons (a := [2]) (b := []) ?_ .nil)
    · rw [Nd.Met]
      exact ⟨1, rfl, (1, 65535, true), by simp, by decide, by decide⟩
    · rw [Nd.Met]
      exact ⟨2, rfl, (1, 65535, true), by simp, by decide, by decide⟩
theorem m2 : ¬ Ex.Meets X1 [1, 65000] := by
  rintro ⟨a, b, c, hp, h, h1, h2⟩
  rw [h1 rfl, h2 rfl] at hp
  simp only [List.nil_append, List.append_nil] at hp
  subst hp
  simp only [X1, Nd.MetRows, Nd.MetRow, or_false] at h
  obtain ⟨a, b, hp, ha, _⟩ := h
  rw [Nd.Met] at ha
  obtain ⟨n, rfl, r, hr, h3, h4⟩ := ha
  simp at hp hr
  obtain ⟨rfl, _⟩ := hp
  subst hr
  simp at h3
theorem m3 : Ex.Meets X2 [7, 1, 2, 3, 9] := by
  refine ⟨[7], [1, 2, 3], [9], rfl, ?_, fun e => (by cases e), fun e => (by cases e)⟩
  simp only [X2, Nd.MetRows, Nd.MetRow, or_false]
  have hn : ∀ k : Int, Nd.Met (.num false false [(k, k, false)]) [k] := by
    intro k
    rw [Nd.Met]
    exact ⟨k, rfl, (k, k, false), by simp, Int.le_refl _, Int.le_refl _⟩
  refine ⟨[1, 2], [3], rfl, ?_, [3], [], rfl, hn 3, rfl⟩
  rw [Nd.Met, if_neg (by decide), if_neg (by decide)]
  refine ⟨[1], [2], rfl, ?_, Many.cons (a := [2]) (b := []) ?_ .nil⟩
  · simp only [Nd.Met, Nd.MetRows, Nd.MetRow, or_false]
    exact .inl ⟨[1], [], rfl, by have := hn 1; rwa [Nd.Met] at this, rfl⟩
  · simp only [Nd.Met, Nd.MetRows, Nd.MetRow, or_false]
    exact .inr ⟨[2], [], rfl, by have := hn 2; rwa [Nd.Met] at this, rfl⟩
end Go.Proofs.YtngfoijmknclhaaGreatDoor.Ar
namespace Go.Proofs.YtngfoijmknclhaaGreatDoor.Ar
open Go.RowKit Go.Sort
/-- A tree as the document's functions hold it: a kind, two marks, pairs of numbers, kids. -/
inductive Tr where
  | mk (k : Int) (d s : Bool) (f t : List Int) (ks : List Tr)
mutual
def Nd.tr : Nd → Tr
  | .num d s rs => .mk 0 d s (rs.map Prod.fst) (rs.map fun p => p.2.1) []
  | .ch rows => .mk 2 false false [] [] (Nd.trRows rows)
  | .st k n => .mk k false false [] [] [Nd.tr n]
def Nd.trRow : List Nd → List Tr
  | [] => []
  | n :: r => Nd.tr n :: Nd.trRow r
def Nd.trRows : List (List Nd) → List Tr
  | [] => []
  | l :: r => .mk 1 false false [] [] (Nd.trRow l) :: Nd.trRows r
end
mutual
def Tr.size : Tr → Nat
  | .mk k _ _ _ _ ks => if k = 0 then 1 else Tr.sizes ks
def Tr.sizes : List Tr → Nat
  | [] => 0
  | t :: r => Tr.size t + Tr.sizes r
end
/-- A row of cells read there. -/
def Six (w : World) (b off : Nat) (cs : List Value) : Prop := ∀ j (h : j < cs.length), w.cell? ⟨b, off + j, none⟩ = some cs[j]
theorem six_below {w w' : World} {b off : Nat} {cs : List Value} (h : Six w b off cs) (hb : Below w.heap.size w w') : Six w' b off cs := by
  intro j hj
  have := h j hj
  rw [hb.cell (p := ⟨b, off + j, none⟩) (block_lt_of_cell this)]
  exact this
end Go.Proofs.YtngfoijmknclhaaGreatDoor.Ar
namespace Go.Proofs.YtngfoijmknclhaaGreatDoor.Ar
open Go.RowKit Go.Sort
theorem row_same {w w' : World} {B e size n : Nat} {v : Value} {xs : List Value} (h : w.ownsRow B e size v n xs) (hb : ∀ g, v.ownBlock = some g → w'.heap[g]? = w.heap[g]?) : w'.ownsRow B e size v n xs := by
  obtain ⟨h1, h2⟩ := h
  refine ⟨h1, ?_⟩
  rcases h2 with h2 | ⟨g, cap, cur, rfl, hB, hg, r⟩
  · exact .inl h2
  · exact .inr ⟨g, cap, cur, rfl, hB, (hb g rfl).trans hg, r⟩
/-- A node's block that may be written. -/
def Free (w : World) (b : Nat) : Prop := b < w.heap.size ∧ ∀ o, w.frozen? ⟨b, o, none⟩ = false
theorem free_of {w w' : World} {b : Nat} (h : Free w b) (hs : w.heap.size ≤ w'.heap.size) (hb : w'.heap[b]? = w.heap[b]?) : Free w' b :=
  ⟨Nat.lt_of_lt_of_le h.1 hs, fun o => (World.frozen?_of_block (a := ⟨b, o, none⟩) hb).trans (h.2 o)⟩
theorem heap_setCell_ne (w : World) (b o k : Nat) (v : Value) (h : k ≠ b) : (w.setCell ⟨b, o, none⟩ v).heap[k]? = w.heap[k]? := by
  unfold World.setCell
  rw [Array.getElem?_modify, if_neg (fun e => h e.symm)]
theorem size_setCell (w : World) (a : Addr) (v : Value) : (w.setCell a v).heap.size = w.heap.size := by simp [World.setCell]
theorem heap_alloc_lt (w : World) (o : Obj) (k : Nat) (h : k < w.heap.size) : (w.alloc o).heap[k]? = w.heap[k]? := by
  show (w.heap.push o)[k]? = _
  rw [Array.getElem?_push, if_neg (Nat.ne_of_lt h)]
theorem size_alloc (w : World) (o : Obj) : (w.alloc o).heap.size = w.heap.size + 1 := by simp

end Go.Proofs.YtngfoijmknclhaaGreatDoor.Ar
namespace Go.Proofs.YtngfoijmknclhaaGreatDoor.Ar
open Go.RowKit Go.Sort
theorem number_err {r : Bs} {q : Int} (h : Px.number r = .error q) : q ≠ 0 := by
  unfold Px.number at h
  split at h
  · split at h
    · cases h
    · cases h; decide
  · cases h; decide
theorem set_err : ∀ (f : Nat) (acc : List Prt) (r : Bs) (q : Int), Px.set f acc r = .error q → q ≠ 0
  | 0, _, _, _, h => by cases h; decide
  | f + 1, acc, r, q, h => by
    rw [Px.set] at h
    split at h
    · cases h
    · split at h
      · rename_i e hn; cases h; exact number_err hn
      · split at h
        · split at h
          · rename_i e hn; cases h; exact number_err hn
          · split at h
            · cases h; decide
            · exact set_err f _ _ q h
        · exact set_err f _ _ q h
def NoErr (ch : Bs → Except Int (List (List Nd) × Bs)) : Prop := ∀ r q, ch r = .error q → q ≠ 0
theorem atom_err {ch : Bs → Except Int (List (List Nd) × Bs)} (hc : NoErr ch) {r : Bs} {q : Int} (h : Px.atom ch r = .error q) : q ≠ 0 := by
  unfold Px.atom at h
  split at h
  · cases h
  · split at h
    · split at h
      · rename_i e hs; cases h; exact set_err _ _ _ _ hs
      · cases h
    · split at h
      · split at h
        · rename_i e hs; cases h; exact hc _ _ hs
        · split at h
          · cases h
          · cases h; decide
      · split at h
        · rename_i e hs; cases h; exact number_err hs
        · cases h
theorem item_err {ch : Bs → Except Int (List (List Nd) × Bs)} (hc : NoErr ch) {r : Bs} {q : Int} (h : Px.item ch r = .error q) : q ≠ 0 := by
  unfold Px.item at h
  split at h
  · rename_i e hs; cases h; exact atom_err hc hs
  · split at h <;> cases h
theorem row_err {ch : Bs → Except Int (List (List Nd) × Bs)} (hc : NoErr ch) : ∀ (f : Nat) (acc : List Nd) (r : Bs) (q : Int), Px.row ch f acc r = .error q → q ≠ 0
  | 0, _, _, _, h => by cases h; decide
  | f + 1, acc, r, q, h => by
    rw [Px.row] at h
    split at h
    · cases h
    · split at h
      · split at h
        · rename_i e hs; cases h; exact item_err hc hs
        · exact row_err hc f _ _ q h
      · cases h
theorem rows_err {ch : Bs → Except Int (List (List Nd) × Bs)} (hc : NoErr ch) : ∀ (f : Nat) (acc : List (List Nd)) (r : Bs) (q : Int), Px.rows ch f acc r = .error q → q ≠ 0
  | 0, _, _, _, h => by cases h; decide
  | f + 1, acc, r, q, h => by
    rw [Px.rows] at h
    split at h
    · rename_i e hs; cases h; exact row_err hc _ _ _ _ hs
    · split at h
      · exact rows_err hc f _ _ q h
      · cases h
theorem choice_err : ∀ d, NoErr (Px.choice d)
  | 0 => fun r q h => by cases h; decide
  | d + 1 => fun r q h => rows_err (choice_err d) _ _ r q h
end Go.Proofs.YtngfoijmknclhaaGreatDoor.Ar
namespace Go.Proofs.YtngfoijmknclhaaGreatDoor.Ar
abbrev Rdr : Type := Bs → Except Int (List (List Nd) × Bs)
theorem sign_isAt {k : Bs} (h : Px.sign k ≠ 0) : ∃ d, Px.isAt k d = true := by
  unfold Px.sign at h
  split at h
  · rename_i h1; exact ⟨_, h1⟩
  · split at h
    · rename_i h1; exact ⟨_, h1⟩
    · split at h
      · rename_i h1; exact ⟨_, h1⟩
      · exact absurd rfl h
end Go.Proofs.YtngfoijmknclhaaGreatDoor.Ar
namespace Go.Proofs.YtngfoijmknclhaaGreatDoor.Ar
theorem parse_parts {a : Bs} {f l : Bool} {c : List (List Nd)} (h : Px.parse a = .ok (f, l, c)) : ∃ k, Px.choice 8 (if Px.isAt a 94 = true then Px.next a else a) = .ok (c, k) ∧ f = Px.isAt a 94 ∧ l = Px.isAt k 36 ∧ Px.skip (if Px.isAt k 36 = true then Px.next k else k) = [] ∧ a.length ≤ 64 := by
  unfold Px.parse at h
  by_cases hl : 64 < a.length
  · rw [if_pos hl] at h; cases h
  · rw [if_neg hl] at h
    cases hc : Px.choice 8 (if Px.isAt a 94 = true then Px.next a else a) with
    | error e => rw [hc] at h; cases h
    | ok z =>
      obtain ⟨c', k⟩ := z
      rw [hc] at h
      simp only at h
      by_cases hk : Px.skip (if Px.isAt k 36 = true then Px.next k else k) = []
      · rw [if_pos hk] at h
        simp only [Except.ok.injEq, Prod.mk.injEq] at h
        obtain ⟨h1, h2, rfl⟩ := h
        exact ⟨k, rfl, h1.symm, h2.symm, hk, by omega⟩
      · rw [if_neg hk] at h; cases h
end Go.Proofs.YtngfoijmknclhaaGreatDoor.Ar
namespace Go.Proofs.YtngfoijmknclhaaGreatDoor.Ar
open Go.RowKit Go.Sort
theorem Nd.moreText_app (a : List Nd) (x : Nd) : Nd.moreText (a ++ [x]) = Nd.moreText a ++ 32 :: Nd.text x := by
  induction a with
  | nil => simp [Nd.moreText]
  | cons y r ih => simp only [List.cons_append, Nd.moreText, ih]; simp
theorem Nd.rowText_app (a : List Nd) (x : Nd) : Nd.rowText (a ++ [x]) = Nd.rowText a ++ ((if a.length = 0 then [] else [32]) ++ Nd.text x) := by
  cases a with
  | nil => simp [Nd.rowText, Nd.moreText]
  | cons y r => simp only [List.cons_append, Nd.rowText, Nd.moreText_app]; simp
theorem Nd.alsoText_app (a : List (List Nd)) (x : List Nd) : Nd.alsoText (a ++ [x]) = Nd.alsoText a ++ 124 :: Nd.rowText x := by
  induction a with
  | nil => simp [Nd.alsoText]
  | cons y r ih => simp only [List.cons_append, Nd.alsoText, ih]; simp
theorem Nd.rowsText_app (a : List (List Nd)) (x : List Nd) : Nd.rowsText (a ++ [x]) = Nd.rowsText a ++ ((if a.length = 0 then [] else [124]) ++ Nd.rowText x) := by
  cases a with
  | nil => simp [Nd.rowsText, Nd.alsoText]
  | cons y r => simp only [List.cons_append, Nd.rowsText, Nd.alsoText_app]; simp
theorem Px.pairs_app (a : List Prt) (p : Prt) : Px.pairs (a ++ [p]) = Px.pairs a ++ ((if a.length = 0 then [] else [32]) ++ Px.pair p) := by
  induction a with
  | nil => simp [Px.pairs]
  | cons y r ih =>
    cases r with
    | nil => simp [Px.pairs]
    | cons z r' =>
      have := ih
      simp only [List.cons_append, Px.pairs] at this ⊢
      rw [this]
      simp
abbrev tx (l : Bs) : ByteArray := ⟨l.toArray⟩
end Go.Proofs.YtngfoijmknclhaaGreatDoor.Ar
namespace Go.Proofs.YtngfoijmknclhaaGreatDoor.Ar
open Go.RowKit Go.Sort
def setR (R : Except Int (List Prt × Bs)) : Except Int (Nd × Bs) := match R with | .ok (rs, k) => .ok (.num false true rs, k) | .error e => .error e

theorem drew_heap (w : World) : w.drew.heap = w.heap := rfl
end Go.Proofs.YtngfoijmknclhaaGreatDoor.Ar
namespace Go.Proofs.YtngfoijmknclhaaGreatDoor.Ar
open Go.RowKit Go.Sort
/-- Of what there was, all but block b is as it was. -/
structure But (b : Nat) (w w' : World) : Prop where
  os : w'.os = w.os
  tape : w'.tape = w.tape
  output : w'.output = w.output
  size : w.heap.size ≤ w'.heap.size
  block : ∀ k, k ≠ b → k < w.heap.size → w'.heap[k]? = w.heap[k]?
theorem But.refl (b : Nat) (w : World) : But b w w := ⟨rfl, rfl, rfl, Nat.le_refl _, fun _ _ _ => rfl⟩
theorem But.trans {b : Nat} {u v w : World} (h : But b u v) (k : But b v w) : But b u w :=
  ⟨k.os.trans h.os, k.tape.trans h.tape, k.output.trans h.output, Nat.le_trans h.size k.size, fun i hi hl => (k.block i hi (Nat.lt_of_lt_of_le hl h.size)).trans (h.block i hi hl)⟩
theorem But.of {b : Nat} {w w' : World} (h : Below w.heap.size w w') : But b w w' := ⟨h.os, h.tape, h.output, h.size, fun k _ hk => h.block k hk⟩
theorem But.below {b N : Nat} {w w' : World} (h : But b w w') (hN : N ≤ b) (hS : N ≤ w.heap.size) : Below N w w' := ⟨h.os, h.tape, h.output, h.size, fun k hk => h.block k (by omega) (by omega)⟩
theorem But.alloc {b : Nat} {w w' : World} (h : But b w w') (o : Obj) : But b w (w'.alloc o) := h.trans (But.of (balloc (brefl _) o))
theorem But.drew {b : Nat} {w w' : World} (h : But b w w') : But b w w'.drew := h.trans (But.of (Below.drew (brefl _)))
theorem But.setCell {b : Nat} {w w' : World} (h : But b w w') {p : Addr} (hp : p.block = b ∨ w.heap.size ≤ p.block) (u : Value) : But b w (w'.setCell p u) :=
  ⟨h.os, h.tape, h.output, by rw [size_setCell]; exact h.size, fun k hk hl => by
    rw [Below.heap_setCell _ _ _ _ (by rcases hp with e | e <;> omega)]
    exact h.block k hk hl⟩
theorem But.grown {b : Nat} {u w w' : World} {row : Option Nat} (h : But b u w) (hg : w.grownBy w' row) (hr : ∀ k, row = some k → u.heap.size ≤ k) : But b u w' :=
  ⟨hg.os.trans h.os, hg.tape.trans h.tape, hg.output.trans h.output, Nat.le_trans h.size hg.size, fun k hk hl => (hg.block k (Nat.lt_of_lt_of_le hl h.size) (fun e => by have := hr k e.symm; omega)).trans (h.block k hk hl)⟩
theorem But.free {b c : Nat} {w w' : World} (h : But b w w') (hf : Free w c) (hc : c ≠ b) : Free w' c := free_of hf h.size (h.block c hc hf.1)
theorem free_alloc {w : World} {b : Nat} (h : Free w b) (o : Obj) : Free (w.alloc o) b := free_of h (by rw [size_alloc]; omega) (heap_alloc_lt _ _ _ h.1)
theorem free_set {w : World} {b : Nat} (h : Free w b) (p : Addr) (u : Value) : Free (w.setCell p u) b := ⟨by rw [size_setCell]; exact h.1, fun o => by simpa using h.2 o⟩

/-- The reader's three cells: what is left, how deep, the first fault. -/
def Rd (w : World) (b : Nat) (r : Bs) (d : Nat) (q : Int) : Prop := w.cell? ⟨b, 0, none⟩ = some (.string (tx r)) ∧ w.cell? ⟨b, 1, none⟩ = some (.int .i64 d) ∧ w.cell? ⟨b, 2, none⟩ = some (.int .i64 q) ∧ Free w b
theorem Rd.of {w w' : World} {b : Nat} {r : Bs} {d : Nat} {q : Int} (h : Rd w b r d q) (hs : w.heap.size ≤ w'.heap.size) (hb : w'.heap[b]? = w.heap[b]?) : Rd w' b r d q := by
  have e : ∀ o, w'.cell? ⟨b, o, none⟩ = w.cell? ⟨b, o, none⟩ := fun o => World.cell?_of_block (a := ⟨b, o, none⟩) hb
  exact ⟨(e 0).trans h.1, (e 1).trans h.2.1, (e 2).trans h.2.2.1, free_of h.2.2.2 hs hb⟩
theorem Rd.below {w w' : World} {b : Nat} {r : Bs} {d : Nat} {q : Int} (h : Rd w b r d q) (hb : Below w.heap.size w w') : Rd w' b r d q := h.of hb.size (hb.block b h.2.2.2.1)
theorem Rd.alloc {w : World} {b : Nat} {r : Bs} {d : Nat} {q : Int} (h : Rd w b r d q) (o : Obj) : Rd (w.alloc o) b r d q := h.below (balloc (brefl _) o)
theorem Rd.drew {w : World} {b : Nat} {r : Bs} {d : Nat} {q : Int} (h : Rd w b r d q) : Rd w.drew b r d q := h.below (Below.drew (brefl _))
theorem Rd.lt {w : World} {b : Nat} {r : Bs} {d : Nat} {q : Int} (h : Rd w b r d q) : b < w.heap.size := h.2.2.2.1
theorem Rd.other {w : World} {b : Nat} {r : Bs} {d : Nat} {q : Int} (h : Rd w b r d q) {p : Addr} (hp : p.block ≠ b) (u : Value) : Rd (w.setCell p u) b r d q := h.of (by rw [size_setCell]; omega) (Below.heap_setCell _ _ _ _ (fun e => hp e.symm))
theorem Rd.rest {w : World} {b : Nat} {r : Bs} {d : Nat} {q : Int} (h : Rd w b r d q) (r' : Bs) : Rd (w.setCell ⟨b, 0, none⟩ (.string (tx r'))) b r' d q := by
  obtain ⟨h0, h1, h2, h3⟩ := h
  exact ⟨by simp [go_sem, h0], by simp [go_sem, h1], by simp [go_sem, h2], free_set h3 _ _⟩
theorem Rd.deep {w : World} {b : Nat} {r : Bs} {d : Nat} {q : Int} (h : Rd w b r d q) (d' : Nat) : Rd (w.setCell ⟨b, 1, none⟩ (.int .i64 d')) b r d' q := by
  obtain ⟨h0, h1, h2, h3⟩ := h
  exact ⟨by simp [go_sem, h0], by simp [go_sem, h1], by simp [go_sem, h2], free_set h3 _ _⟩
theorem Rd.fault {w : World} {b : Nat} {r : Bs} {d : Nat} {q : Int} (h : Rd w b r d q) (q' : Int) : Rd (w.setCell ⟨b, 2, none⟩ (.int .i64 q')) b r d q' := by
  obtain ⟨h0, h1, h2, h3⟩ := h
  exact ⟨by simp [go_sem, h0], by simp [go_sem, h1], by simp [go_sem, h2], free_set h3 _ _⟩
/-- What must be laid is laid, and the reader's block came behind it. -/
def Ty (T : World → Prop) (b : Nat) (W : World) : Prop := ∃ w0, T w0 ∧ Below w0.heap.size w0 W ∧ w0.heap.size ≤ b
theorem Ty.but {T : World → Prop} {b : Nat} {w w' : World} (h : Ty T b w) (hb : But b w w') : Ty T b w' := by
  obtain ⟨w0, h0, h1, h2⟩ := h
  exact ⟨w0, h0, h1.trans (hb.below h2 h1.size), h2⟩

/-- What is asked of strings.TrimLeft. -/
structure Trims : Prop where
  blank : ∀ (r : Bs) (W : World), Calls Tryz.prog 162 #[.string (tx r), .string ⟨#[32]⟩] W fun e w' => e = .returned (.string (tx (Px.skip r))) ∧ Below W.heap.size W w'
  digs : ∀ (r : Bs) (W : World), Calls Tryz.prog 162 #[.string (tx r), .string ⟨#[48, 49, 50, 51, 52, 53, 54, 55, 56, 57]⟩] W fun e w' => e = .returned (.string (tx (r.dropWhile Ad.dig))) ∧ Below W.heap.size W w'

theorem rskip_is (K : Trims) {W : World} {b : Nat} {r : Bs} {d : Nat} {q : Int} (h : Rd W b r d q) :
    Calls Tryz.prog 140 #[.pointer (some ⟨b, 0, none⟩)] W fun e w' => e = .returned (.tuple #[]) ∧ But b W w' ∧ Rd w' b (Px.skip r) d q := by
  have CT := hide (K.blank r W)
  have HR := hide h
  obtain ⟨c0, c1, c2, fr⟩ := h
  generalize tx r = s at c0 CT
  go_enter Tryz.func140, Tryz.ntmps140
  go_wp2_with fail
  refine CT.out.mono ?_
  rintro e w1 ⟨rfl, hb⟩
  have R1 := hide (HR.out.below hb)
  have B1 := hide (But.of (b := b) hb)
  obtain ⟨d0, d1, d2, fr2⟩ := R1.out
  have f0 := fr2.2 0
  clear hb c0 c1 c2 fr fr2
  go_wp2_with fail
  exact bodyPost_end (results_none Tryz.results140 _ _ _) rfl ⟨rfl, B1.out.setCell (.inl rfl) _, R1.out.rest _⟩
end Go.Proofs.YtngfoijmknclhaaGreatDoor.Ar
