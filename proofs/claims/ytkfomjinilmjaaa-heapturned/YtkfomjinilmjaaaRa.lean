/- The document's lists of things: At, Drop, Set. -/
import Derived.Test.YtkfomjinilmjaaaPa
import Derived.Laws.AppendOwnNone
namespace Go.Proofs.Ytkfomjinilmjaaa
open Go.RowKit Go.Maps

def Th.enc (x : RwS) : List Value := [.string x.k, .int .i64 x.r]
def Th.cells (l : List RwS) : List Value := l.flatMap Th.enc
def Th.reads (w : World) (b off : Nat) (l : List RwS) : Prop := ∀ j u, (Th.cells l)[j]? = some u → w.cell? ⟨b, off + j, none⟩ = some u
def Th.rowAt (w : World) (ao : Option Addr) (l : List RwS) : Prop := l = [] ∨ ∃ b off, ao = some ⟨b, off, none⟩ ∧ Th.reads w b off l
theorem Th.cells_length (l : List RwS) : (Th.cells l).length = l.length * 2 := by
  induction l with
  | nil => rfl
  | cons x l ih => simp only [Th.cells, List.flatMap_cons, List.length_append, List.length_cons] at *; simp only [Th.enc, List.length_cons, List.length_nil]; omega
theorem Th.cells_get (l : List RwS) (i : Nat) (h : i < l.length) : (Th.cells l)[i * 2]? = some (.string l[i].k) ∧ (Th.cells l)[i * 2 + 1]? = some (.int .i64 l[i].r) := by
  induction l generalizing i with
  | nil => simp at h
  | cons x l ih =>
    cases i with
    | zero => simp [Th.cells, Th.enc]
    | succ i =>
      have := ih i (by simpa using h)
      have e : (i + 1) * 2 = i * 2 + 1 + 1 := by omega
      simpa [Th.cells, Th.enc, e] using this
theorem Th.reads_at {w : World} {b off : Nat} {l : List RwS} (h : Th.reads w b off l) (i : Nat) (hi : i < l.length) :
    w.cell? ⟨b, off + i * 2, none⟩ = some (.string l[i].k) ∧ w.cell? ⟨b, off + i * 2 + 1, none⟩ = some (.int .i64 l[i].r) := by
  have := Th.cells_get l i hi
  exact ⟨h _ _ this.1, by rw [Nat.add_assoc]; exact h _ _ this.2⟩
theorem Th.rowAt_kept {w w' : World} {S : Nat → Prop} {ao : Option Addr} {l : List RwS} (h : Th.rowAt w ao l) (hk : Keep S w w') (hs : ∀ a, ao = some a → ¬ S a.block) : Th.rowAt w' ao l := by
  rcases h with h | ⟨b, off, rfl, hr⟩
  · exact .inl h
  · refine .inr ⟨b, off, rfl, fun j u hu => ?_⟩
    have := hr j u hu
    rw [World.cell?_of_block (a := ⟨b, off + j, none⟩) (hk.block b (hs _ rfl) (block_lt_of_cell this))]
    exact this
def came (ao : Option Addr) (cap : Nat) : Prop := (ao = none → cap = 0) ∧ (∀ ad, ao = some ad → ad.spot = none)
theorem came_some (g o c : Nat) : came (some ⟨g, o, none⟩) c := ⟨fun h => (by cases h), fun ad h => (by cases h; rfl)⟩
/-- A list that lies in memory. -/
structure Th.Good (w : World) (ao : Option Addr) (cap : Nat) (l : List RwS) : Prop where
  row : Th.rowAt w ao l
  came : came ao cap
  le : l.length ≤ cap
  old : ∀ a, ao = some a → a.block < w.heap.size
theorem Th.Good.kept {w w' : World} {S : Nat → Prop} {ao : Option Addr} {cap : Nat} {l : List RwS} (h : Th.Good w ao cap l) (hk : Keep S w w') (hs : ∀ a, ao = some a → ¬ S a.block) : Th.Good w' ao cap l := ⟨Th.rowAt_kept h.row hk hs, h.came, h.le, fun a e => Nat.lt_of_lt_of_le (h.old a e) hk.size⟩
theorem Th.Good.below {w w' : World} {ao : Option Addr} {cap : Nat} {l : List RwS} (h : Th.Good w ao cap l) (hb : Below w.heap.size w w') : Th.Good w' ao cap l := h.kept (Keep.of (S := fun _ => False) hb) (fun _ _ h => h)
theorem good_nil (w : World) : Th.Good w none 0 [] := ⟨.inl rfl, ⟨fun _ => rfl, fun a e => (by cases e)⟩, Nat.le_refl _, fun a e => (by cases e)⟩
theorem infoQ : (Try.prog.info? 40).map (fun i => (i.zero, i.size, i.bytes)) = some (some (.agg #[.string ⟨#[]⟩, .int .i64 0]), 2, 24) := by kernel_rfl
theorem info_Q : ∃ i0 : TypeInfo, Try.prog.info? 40 = some i0 ∧ i0.zero = some (.agg #[.string ⟨#[]⟩, .int .i64 0]) ∧ i0.size = 2 ∧ i0.bytes = 24 := by
  have h := infoQ
  cases hi : Try.prog.info? 40 with
  | none => rw [hi] at h; cases h
  | some i0 =>
    rw [hi] at h
    simp only [Option.map_some, Option.some.injEq, Prod.mk.injEq] at h
    exact ⟨i0, rfl, h.1, h.2.1, h.2.2⟩
theorem Th.cells_app (l r : List RwS) : Th.cells (l ++ r) = Th.cells l ++ Th.cells r := by simp [Th.cells]
theorem Th.cells_one (l : List RwS) : ∀ u ∈ Th.cells l, u.oneCell' = true := by
  intro u hu
  simp only [Th.cells, List.mem_flatMap] at hu
  obtain ⟨x, _, hx⟩ := hu
  simp only [Th.enc, List.mem_cons, List.not_mem_nil, or_false] at hx
  rcases hx with rfl | rfl <;> rfl
/-- Things put behind a row of the call's own. -/
theorem append_ths {w w0 : World} {ops : Array Oper} {rest : List Oper} {o : Oper} {a : Act} {Q : Exit → Act → World → Prop} (hgd : o.guard = none) (s x : Operand)
    (ho : o.op = .call { callee := .builtin .append, args := #[s, x], argTypes := #[26, 26] }) (v : Value) (n : Nat) (xs : List RwS) (hs : a.eval s = v) (hown : w.ownsRow w0.heap.size 40 2 v n (Th.cells xs))
    (ao : Option Addr) (nl cap : Nat) (l : List RwS) (hx : a.eval x = .slice ao nl cap) (hnl : l.length = nl) (hR : Th.rowAt w ao l) (hC : came ao cap) (hn : n + nl ≤ 1000000) (hb : Below w0.heap.size w0 w)
    (h : ∀ v' w', w'.ownsRow w0.heap.size 40 2 v' (n + nl) (Th.cells (xs ++ l)) → Below w0.heap.size w0 w' → wpList Try.prog ops Q rest (a.put o.dst v') w') : wpList Try.prog ops Q (o :: rest) a w := by
  subst hnl
  obtain ⟨i0, hi, hz0, hz1, hz2⟩ := info_Q
  cases ao with
  | none =>
    have hl : l = [] := by
      rcases hR with h | ⟨b, off, h, _⟩
      · exact h
      · cases h
    subst hl
    rw [hC.1 rfl] at hx
    refine wpList_append_own_none hgd s x 26 ho w0.heap.size 40 i0 2 Try.underlying26 hi v n (Th.cells xs) hs hown hx ?_
    exact h v w (by simpa using hown) hb
  | some ad =>
    obtain ⟨b, off, sp⟩ := ad
    obtain rfl : sp = none := hC.2 _ rfl
    have hrd : ∀ j u, (Th.cells l)[j]? = some u → w.cell? ((⟨b, off, none⟩ : Addr).add j) = some u := by
      intro j u hu
      rcases hR with h | ⟨b', off', h, hr⟩
      · rw [h] at hu; simp [Th.cells] at hu
      · simp only [Option.some.injEq, Addr.mk.injEq, and_true] at h
        rw [show (⟨b, off, none⟩ : Addr).add j = ⟨b, off + j, none⟩ by unfold Addr.add; split <;> simp_all, h.1, h.2]
        exact hr j u hu
    refine wpList_append_own w hgd s x 26 ho w0.heap.size 40 i0 _ 2 24 Try.underlying26 hi hz0 hz1 hz2 rfl (by decide) v n (Th.cells xs) hs hown ⟨b, off, none⟩ l.length cap (Th.cells l) hx (by rw [Th.cells_length]) hrd (Th.cells_one l) (by unfold maxLen; omega) (by omega) hb.size ?_
    intro v' w' ho' hg _
    refine h v' w' ?_ (Below.grown hb hg hb.size fun k hk => (hown.lt k hk).1)
    rw [Th.cells_app]
    exact ho'
def cutA (ao : Option Addr) (ca i : Nat) : Option Addr := if ca = i then ao else ao.map (·.add (i * 2))
theorem came_cut {ao : Option Addr} {ca : Nat} (h : came ao ca) (i : Nat) : came (cutA ao ca i) (ca - i) := by
  unfold cutA
  refine ⟨fun e => ?_, fun ad e => ?_⟩
  · by_cases hc : ca = i
    · omega
    · rw [if_neg hc, Option.map_eq_none_iff] at e
      have := h.1 e
      omega
  · by_cases hc : ca = i
    · rw [if_pos hc] at e
      exact h.2 ad e
    · rw [if_neg hc, Option.map_eq_some_iff] at e
      obtain ⟨a, ha, rfl⟩ := e
      have := h.2 a ha
      obtain ⟨b, off, sp⟩ := a
      simp only at this
      subst this
      simp only [Addr.add]
      split <;> rfl
theorem row_cut {W : World} {ao : Option Addr} {l : List RwS} {ca : Nat} (hA : Th.rowAt W ao l) (hc : l.length ≤ ca) (i : Nat) : Th.rowAt W (cutA ao ca i) (l.drop i) := by
  unfold cutA
  by_cases hi : ca = i
  · left
    rw [List.drop_eq_nil_iff]
    omega
  · rw [if_neg hi]
    rcases hA with rfl | ⟨b, off, rfl, hr⟩
    · left; simp
    · refine .inr ⟨b, off + i * 2, ?_, fun j u hu => ?_⟩
      · simp [Addr.add]
      · have e : (Th.cells l)[i * 2 + j]? = some u := by
          by_cases hl : i ≤ l.length
          · have h2 : Th.cells l = Th.cells (l.take i) ++ Th.cells (l.drop i) := by rw [← Th.cells_app, List.take_append_drop]
            rw [h2, List.getElem?_append_right (by rw [Th.cells_length, List.length_take]; omega), Th.cells_length, List.length_take]
            rw [← hu]
            congr 1
            omega
          · rw [List.drop_eq_nil_of_le (by omega)] at hu
            simp [Th.cells] at hu
        rw [Nat.add_assoc]
        exact hr _ _ e
theorem row_take {W : World} {ao : Option Addr} {l : List RwS} (hA : Th.rowAt W ao l) (i : Nat) : Th.rowAt W ao (l.take i) := by
  rcases hA with rfl | ⟨b, off, rfl, hr⟩
  · left; simp
  · refine .inr ⟨b, off, rfl, fun j u hu => hr j u ?_⟩
    have h2 : Th.cells l = Th.cells (l.take i) ++ Th.cells (l.drop i) := by rw [← Th.cells_app, List.take_append_drop]
    rw [h2, List.getElem?_append_left (List.getElem?_eq_some_iff.1 hu).1]
    exact hu
set_option maxRecDepth 100000 in
theorem run_head (ao : Option Addr) (n ca k : Nat) (hk : k ≤ n) (hca : n ≤ ca) (W : World) : (Instr.slice 26 (.slice ao n ca) none (some (.int .i64 k)) none).run Try.prog W = .ok (.slice ao k ca) W := by
  rw [run_slice_h W 26 ao n ca Try.underlying26 .i64 k (by omega) (by omega)]
  simp [sliced, go_sem]
set_option maxRecDepth 100000 in
theorem run_tail (ao : Option Addr) (n ca i : Nat) (hi : i ≤ n) (_hca : n ≤ ca) (W : World) : (Instr.slice 26 (.slice ao n ca) (some (.int .i64 i)) none none).run Try.prog W = .ok (.slice (cutA ao ca i) (n - i) (ca - i)) W := by
  rw [run_slice_l W 26 ao n ca Try.underlying26 .i64 i (by omega) (by omega)]
  have e : Try.t40.size = 2 := by kernel_rfl
  simp [cutA, sliced, sizeOf, go_sem, e]
theorem run_tail' (ao : Option Addr) (n ca i : Nat) (hi : i + 1 ≤ n) (hca : n ≤ ca) (W : World) : (Instr.slice 26 (.slice ao n ca) (some (.int .i64 ((i : Int) + 1))) none none).run Try.prog W = .ok (.slice (cutA ao ca (i + 1)) (n - (i + 1)) (ca - (i + 1))) W := by
  have h := run_tail ao n ca (i + 1) hi hca W
  rwa [show ((i + 1 : Nat) : Int) = (i : Int) + 1 by omega] at h
theorem th_shape {w w' : World} {n : Nat} {v : Value} {l : List RwS} (h : w'.ownsRow w.heap.size 40 2 v n (Th.cells l)) (hn : l.length = n) : ∃ (ao : Option Addr) (cap : Nat), v = .slice ao l.length cap ∧ Th.Good w' ao cap l ∧ ∀ a, ao = some a → w.heap.size ≤ a.block := by
  subst hn
  rcases h.2 with ⟨rfl, h0⟩ | ⟨g, cap, cur, rfl, hB, hg, h1, h2, h3⟩
  · have : l = [] := List.length_eq_zero_iff.1 h0
    subst this
    exact ⟨none, 0, rfl, good_nil _, fun a e => by cases e⟩
  · refine ⟨_, cap, rfl, ⟨.inr ⟨g, 0, rfl, fun j u hu => ?_⟩, came_some _ _ _, by omega, fun a e => by cases e; exact lt_of_block hg⟩, fun a e => by cases e; exact hB⟩
    have hj : j < l.length * 2 := by have := (List.getElem?_eq_some_iff.1 hu).1; rwa [Th.cells_length] at this
    rw [Nat.zero_add, h.cellAt j hj]
    exact hu
/-- The place of a key. -/
def ix (L : List RwS) (k : ByteArray) : Option Nat := L.findIdx? fun x => decide (x.k = k)
theorem ix_some {L : List RwS} {k : ByteArray} {i : Nat} (h : ix L k = some i) : ∃ x, L[i]? = some x ∧ x.k = k ∧ rowOf L k = some x := by
  unfold ix at h
  rw [List.findIdx?_eq_some_iff_getElem] at h
  obtain ⟨h1, h2, h3⟩ := h
  refine ⟨L[i], List.getElem?_eq_getElem h1, by simpa using h2, ?_⟩
  unfold rowOf
  rw [List.find?_eq_some_iff_getElem]
  exact ⟨h2, i, h1, rfl, fun j hj => by simpa using h3 j hj⟩
theorem ix_none {L : List RwS} {k : ByteArray} : ix L k = none ↔ rowOf L k = none := by
  unfold ix rowOf
  rw [List.findIdx?_eq_none_iff, List.find?_eq_none]
  simp
/-- What At tells. -/
def atI (L : List RwS) (k : ByteArray) : Int := match ix L k with | some i => (i : Int) | none => -1
theorem atI_some {L : List RwS} {k : ByteArray} {i : Nat} (h : ix L k = some i) : atI L k = (i : Int) := by unfold atI; rw [h]
theorem atI_none {L : List RwS} {k : ByteArray} (h : ix L k = none) : atI L k = -1 := by unfold atI; rw [h]
set_option maxHeartbeats 2000000 in
set_option maxRecDepth 100000 in
theorem refAt_is {ao : Option Addr} {cap : Nat} {L : List RwS} {w : World} (hR : Th.rowAt w ao L) (hn : L.length ≤ 1000) (k : ByteArray) :
    Calls Try.prog 23 #[.slice ao L.length cap, .string k] w fun e w' => e = .returned (.int .i64 (atI L k)) ∧ w' = w := by
  have HR := hide hR
  clear hR
  go_enter Try.func23, Try.ntmps23
  go_wp2_with fail
  go_loopw [5] (fun v5 wr => ∃ i : Nat, i ≤ L.length ∧ v5 = .int .i64 i ∧ Hid (∀ j x, j < i → L[j]? = some x → x.k ≠ k) ∧ wr = w) (fun v5 _ => L.length - (intOf v5).toNat)
  case atStart => exact ⟨0, Nat.zero_le _, rfl, fun j x hj => absurd hj (Nat.not_lt_zero _), rfl⟩
  case round =>
    obtain ⟨i, hi, rfl, HA, rfl⟩ := hrel
    by_cases hlt : i < L.length
    · have hlt' : (i : Int) < (L.length : Int) := by omega
      obtain ⟨b, off, rfl, hr⟩ : ∃ b off, ao = some ⟨b, off, none⟩ ∧ Th.reads wr b off L := by
        rcases HR.out with h | h
        · rw [h] at hlt; simp at hlt
        · exact h
      obtain ⟨e0, e1⟩ := Th.reads_at hr i hlt
      have HX := hide (List.getElem?_eq_getElem hlt)
      clear hr
      generalize L[i] = x at *
      obtain ⟨xk, xr, xt⟩ := x
      simp only at e0 e1
      by_cases hk : xk = k
      · have hbeq : (xk == k) = true := (Go.MapKept.bytes_beq xk k).2 hk
        have HI : Hid (ix L k = some i) := by
          show _ = _
          unfold ix
          rw [List.findIdx?_eq_some_iff_getElem]
          obtain ⟨h1, h2⟩ := List.getElem?_eq_some_iff.1 HX.out
          refine ⟨h1, by rw [h2]; simpa using hk, fun j hj => ?_⟩
          have := HA.out j L[j] hj (List.getElem?_eq_getElem (by omega))
          simpa using this
        go_wp2_with fail
        go_ret
        exact ⟨by rw [atI_some HI.out]; rfl, rfl⟩
      · have hbeq : (xk.toList == k.toList) = false := by
          rw [← beq_toListBytes]
          cases e : (xk == k)
          · rfl
          · exact absurd ((Go.MapKept.bytes_beq xk k).1 e) hk
        have HA2 : Hid (∀ j x, j < i + 1 → L[j]? = some x → x.k ≠ k) := fun j x hj hx => by
          by_cases e : j = i
          · subst e
            rw [HX.out, Option.some.injEq] at hx
            subst hx
            exact hk
          · exact HA.out j x (by omega) hx
        go_wp2_with fail
        exact ⟨⟨i + 1, by omega, by go_num, HA2, by simp⟩, by simp [intOf]; omega⟩
    · have hlt' : ¬ (i : Int) < (L.length : Int) := by omega
      have HI : Hid (ix L k = none) := by
        show _ = _
        rw [ix_none, rowOf_none]
        intro x hx
        obtain ⟨j, hj⟩ := List.mem_iff_getElem?.1 hx
        exact HA.out j x (by have := get_lt hj; omega) hj
      go_wp2_with fail
      go_ret
      exact ⟨by rw [atI_none HI.out]; rfl, rfl⟩
end Go.Proofs.Ytkfomjinilmjaaa
