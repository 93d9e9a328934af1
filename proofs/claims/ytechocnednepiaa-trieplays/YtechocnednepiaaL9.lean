import Derived.Test.YtechocnednepiaaL6
import Derived.Laws.AppendOwn
/- What lies below a prefix, by its halves; counting, till one is told to end. -/
namespace Go.Proofs.Ytechocnednepiaa
open Go.RowKit

theorem sub_self (t : Nt) (c : Pf) : t.sub c c = t := by cases t <;> simp [Nt.sub]
theorem sub_half {p : Pf} (hp : Gd p) (hl : p.2 ≤ 31) (s : Bool) : ∀ (t : Nt) (c : Pf), Gd c → In c p → t.sub c (half p s) = match t.sub c p with | .nil => .nil | .nd _ lo hi _ _ => if s then hi else lo
  | .nil, _, _, _ => rfl
  | .nd b lo hi v is, c, hc, hi' => by
    have hne : c ≠ half p s := fun e => by
      have := hi'.1
      rw [e] at this
      simp only [half] at this
      omega
    by_cases he : c = p
    · subst he
      have hs : side c (half c s) = s := side_of (In.refl (gd_half hc hl s))
      simp only [Nt.sub, if_neg hne, if_true, hs]
      cases s
      · simp only [Bool.false_eq_true, if_false]; exact sub_self _ _
      · simp only [if_true]; exact sub_self _ _
    · have hlt := hi'.lt hc hp he
      have hl2 : c.2 ≤ 31 := by omega
      have h1 := in_side hc hp hi' he
      have hs : side c (half p s) = side c p := side_of (h1.trans (in_half hp hl s))
      simp only [Nt.sub, if_neg hne, if_neg he, hs]
      cases hsd : side c p
      · rw [hsd] at h1
        simp only [Bool.false_eq_true, if_false]
        exact sub_half hp hl s lo _ (gd_half hc hl2 _) h1
      · rw [hsd] at h1
        simp only [if_true]
        exact sub_half hp hl s hi _ (gd_half hc hl2 _) h1
/-- What is below a prefix. -/
def downs (t : Nt) (p : Pf) : List Pf := ((t.list (0, 0)).filter fun x => decide (In p x.1)).map Prod.fst
theorem downs_halves {z : Value} {t : Nt} (hw : t.wf z 32) {p : Pf} (hp : Gd p) (hl : p.2 ≤ 31) :
    downs t p = (if (look (t.list (0, 0)) p).isSome then [p] else []) ++ (downs t (half p false) ++ downs t (half p true)) := by
  unfold downs
  rw [← Nt.sub_filter t (0, 0) p gd_root hp (in_root hp) hw, ← Nt.sub_filter t (0, 0) _ gd_root (gd_half hp hl false) (in_root (gd_half hp hl false)) hw, ← Nt.sub_filter t (0, 0) _ gd_root (gd_half hp hl true) (in_root (gd_half hp hl true)) hw,
    sub_half hp hl false t _ gd_root (in_root hp), sub_half hp hl true t _ gd_root (in_root hp), Nt.sub_look t (0, 0) p gd_root hp (in_root hp) hw]
  cases t.sub (0, 0) p with
  | nil => rfl
  | nd b lo hi v is => cases is <;> simp [Nt.list, one]
theorem downs_end {z : Value} {t : Nt} (hw : t.wf z 32) {p : Pf} (hp : Gd p) (hl : p.2 = 32) : downs t p = if (look (t.list (0, 0)) p).isSome then [p] else [] := by
  unfold downs
  have h2 := Nt.sub_wf t (0, 0) p gd_root hp (in_root hp) hw
  rw [← Nt.sub_filter t (0, 0) p gd_root hp (in_root hp) hw, Nt.sub_look t (0, 0) p gd_root hp (in_root hp) hw]
  cases hs : t.sub (0, 0) p with
  | nil => rfl
  | nd b lo hi v is =>
    rw [hs] at h2
    obtain ⟨rfl, rfl⟩ := Nt.kids_nil h2 (by omega)
    cases is <;> simp [Nt.list, one]
theorem downs_len {t : Nt} (p : Pf) : (downs t p).length ≤ (t.list (0, 0)).length := by
  unfold downs
  rw [List.length_map]
  exact List.length_filter_le _ _
/-- Counting. -/
def cntAns (stop : Int) (pre : List (Pf × Value)) (_ : Pf × Value) : Bool := (pre.length : Int) + 1 != stop
theorem goes_count (stop : Int) : ∀ (l pre : List (Pf × Value)), (((goes (cntAns stop) pre l).1.length : Nat) : Int) = if (pre.length : Int) < stop ∧ stop < (pre.length : Int) + (l.length : Int) then stop else (pre.length : Int) + (l.length : Int)
  | [], pre => by
    simp only [goes, List.length_nil, Int.natCast_zero, Int.add_zero]
    split <;> omega
  | x :: l, pre => by
    by_cases h : (pre.length : Int) + 1 = stop
    · have hf : cntAns stop pre x = false := by simpa [cntAns] using h
      have e : goes (cntAns stop) pre (x :: l) = (pre ++ [x], false) := by rw [goes, hf]; rfl
      rw [e]
      simp only [List.length_append, List.length_cons, List.length_nil]
      split <;> omega
    · have hf : cntAns stop pre x = true := by simpa [cntAns] using h
      have e : goes (cntAns stop) pre (x :: l) = goes (cntAns stop) (pre ++ [x]) l := by rw [goes, hf]; rfl
      rw [e, goes_count stop l (pre ++ [x])]
      simp only [List.length_append, List.length_cons, List.length_nil]
      split <;> split <;> omega
def CntI (N S0 : Nat) (stop : Int) (pre : List (Pf × Value)) (S : Nat → Prop) (W : World) : Prop :=
  (∀ k, S k ↔ k = N ∨ k = S0) ∧ N ≠ S0 ∧ W.heap[N]? = some (.cells #[.int .i64 (pre.length : Nat)] 3 (0, 0)) ∧ W.heap[S0]? = some (.cells #[.int .i64 stop] 3 (0, 0))
theorem cnt_is {N S0 : Nat} {stop : Int} {n : Nat} {W : World} (q : Pf) (u : Value) (hne : N ≠ S0) (h1 : W.heap[N]? = some (.cells #[.int .i64 (n : Nat)] 3 (0, 0))) (h2 : W.heap[S0]? = some (.cells #[.int .i64 stop] 3 (0, 0))) (hn : n ≤ 1000000) :
    Calls Try.prog 29 #[pv q, u, .pointer (some ⟨N, 0, none⟩), .pointer (some ⟨S0, 0, none⟩)] W fun e w' => e = .returned (.bool ((n : Int) + 1 != stop)) ∧ w' = (W.setCell ⟨N, 0, none⟩ (.int .i64 ((n : Int) + 1))).alloc (.cells #[.int .u32 q.1, .int .i64 q.2] 30) := by
  have n0 := cell_of_one h1
  have n1 := free_of_one h1
  have s0 := cell_of_one h2
  have hNl := lt_of_block h1
  have hSl := lt_of_block h2
  obtain ⟨q0, q1⟩ := q
  unfold pv
  go_enter Try.func29, Try.ntmps29
  go_wp2_with fail
  go_ret
  exact ⟨rfl, rfl⟩
theorem enter29 : ∀ args w, (callFunc 29 args).run Try.prog w = .ok (.enter 29 args) w := by intro args w; go_simp
theorem cnt_pairs (N S0 : Nat) (stop : Int) : Pairs 29 #[.pointer (some ⟨N, 0, none⟩), .pointer (some ⟨S0, 0, none⟩)] (fun pre _ => pre.length ≤ 1000000) (CntI N S0 stop) (cntAns stop) where
  call := by
    rintro pre S W ⟨q, u⟩ ⟨hS, hne, h1, h2⟩ hlen
    refine Calls.mono (cnt_is q u hne h1 h2 hlen) ?_
    rintro e w' ⟨rfl, rfl⟩
    refine ⟨rfl, S, ⟨hS, hne, ?_, ?_⟩, ((Keep.refl S W).setCell (p := ⟨N, 0, none⟩) (.inl ((hS N).2 (.inl rfl))) _).alloc _, fun k hk => .inl hk⟩
    · have := one_setCell (u := .int .i64 ((pre.length : Int) + 1)) h1
      rw [heap_alloc_lt _ _ _ (by rw [size_setCell]; exact lt_of_block h1), this]
      simp
    · rw [heap_alloc_lt _ _ _ (by rw [size_setCell]; exact lt_of_block h2), heap_setCell_other _ _ _ _ (fun e => hne e.symm)]
      exact h2
  keep := by
    rintro pre S W W' ⟨hS, hne, h1, h2⟩ hk
    exact ⟨hS, hne, (hk N ((hS N).2 (.inl rfl))).trans h1, (hk S0 ((hS S0).2 (.inr rfl))).trans h2⟩
  lt := by
    rintro pre S W k ⟨hS, hne, h1, h2⟩ hk
    rcases (hS k).1 hk with rfl | rfl
    · exact lt_of_block h1
    · exact lt_of_block h2
/-- Prefixes put behind a row of the call's own. -/
theorem append_pfs {w w0 : World} {ops : Array Oper} {rest : List Oper} {o : Oper} {a : Act} {Q : Exit → Act → World → Prop} (hgd : o.guard = none) (s x : Operand)
    (ho : o.op = .call { callee := .builtin .append, args := #[s, x], argTypes := #[51, 51] }) (v : Value) (n : Nat) (xs : List Pf) (hs : a.eval s = v) (hown : w.ownsRow w0.heap.size 30 2 v n (Ad.cells xs))
    (ao : Option Addr) (nl cap : Nat) (l : List Pf) (hx : a.eval x = .slice ao nl cap) (hnl : l.length = nl) (hR : Ad.rowAt w ao l) (hC : came ao cap) (hn : n + nl ≤ 1000000) (hb : Below w0.heap.size w0 w)
    (h : ∀ v' w', w'.ownsRow w0.heap.size 30 2 v' (n + nl) (Ad.cells (xs ++ l)) → Below w0.heap.size w0 w' → wpList Try.prog ops Q rest (a.put o.dst v') w') : wpList Try.prog ops Q (o :: rest) a w := by
  subst hnl
  obtain ⟨i0, hi, hz0, hz1, hz2⟩ := info_P
  cases ao with
  | none =>
    have hl : l = [] := by
      rcases hR with h | ⟨b, off, h, _⟩
      · exact h
      · cases h
    subst hl
    rw [hC.1 rfl] at hx
    refine wpList_append_own_none hgd s x 51 ho w0.heap.size 30 i0 2 Try.underlying51 hi v n (Ad.cells xs) hs hown hx ?_
    exact h v w (by simpa using hown) hb
  | some ad =>
    obtain ⟨b, off, sp⟩ := ad
    obtain rfl : sp = none := hC.2 _ rfl
    have hrd : ∀ j u, (Ad.cells l)[j]? = some u → w.cell? ((⟨b, off, none⟩ : Addr).add j) = some u := by
      intro j u hu
      rcases hR with h | ⟨b', off', h, hr⟩
      · rw [h] at hu; simp [Ad.cells] at hu
      · simp only [Option.some.injEq, Addr.mk.injEq, and_true] at h
        rw [show (⟨b, off, none⟩ : Addr).add j = ⟨b, off + j, none⟩ by unfold Addr.add; split <;> simp_all, h.1, h.2]
        exact hr j u hu
    have hone : ∀ u ∈ Ad.cells l, u.oneCell' = true := by
      intro u hu
      simp only [Ad.cells, List.mem_flatMap] at hu
      obtain ⟨x, _, hx⟩ := hu
      simp only [Ad.enc, List.mem_cons, List.not_mem_nil, or_false] at hx
      rcases hx with rfl | rfl <;> rfl
    refine wpList_append_own w hgd s x 51 ho w0.heap.size 30 i0 _ 2 16 Try.underlying51 hi hz0 hz1 hz2 rfl (by decide) v n (Ad.cells xs) hs hown ⟨b, off, none⟩ l.length cap (Ad.cells l) hx (by rw [Ad.cells_length]) hrd hone (by unfold maxLen; omega) (by omega) hb.size ?_
    intro v' w' ho' hg _
    refine h v' w' ?_ (Below.grown hb hg hb.size fun k hk => (hown.lt k hk).1)
    have e : Ad.cells (xs ++ l) = Ad.cells xs ++ Ad.cells l := by simp [Ad.cells]
    rw [e]
    exact ho'
end Go.Proofs.Ytechocnednepiaa
