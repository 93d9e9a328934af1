import Derived.Test.YtbceoinhmpnjaaaGreatDoorQ1
import Derived.Test.YtbceoinhmpnjaaaGreatDoorQ4
/- The document's trees in memory. -/
namespace Go.Proofs.YtbceoinhmpnjaaaGreatDoor
open Go.RowKit Go.Sort

/-- A tree as the document's functions hold it: a kind, two marks, pairs of numbers, kids. -/
inductive Tr where
  | mk (k : Int) (d s : Bool) (f t : List Int) (ks : List Tr)
mutual
def Nd.tr : Nd → Tr
  | .num d s rs => .mk 0 d s (rs.map Prod.fst) (rs.map fun p => p.2.1) []
  | .ch rows => .mk 2 false false [] [] (Nd.trRows rows)
  | .st k n => .mk k false false [] [] [Nd.tr n]
def Nd.trRow : List Nd → List Tr
  | [] => []
  | n :: r => Nd.tr n :: Nd.trRow r
def Nd.trRows : List (List Nd) → List Tr
  | [] => []
  | l :: r => .mk 1 false false [] [] (Nd.trRow l) :: Nd.trRows r
end
mutual
def Tr.size : Tr → Nat
  | .mk k _ _ _ _ ks => if k = 0 then 1 else Tr.sizes ks
def Tr.sizes : List Tr → Nat
  | [] => 0
  | t :: r => Tr.size t + Tr.sizes r
end
/-- A row of cells read there. -/
def Six (w : World) (b off : Nat) (cs : List Value) : Prop := ∀ j (h : j < cs.length), w.cell? ⟨b, off + j, none⟩ = some cs[j]
theorem six_below {w w' : World} {b off : Nat} {cs : List Value} (h : Six w b off cs) (hb : Below w.heap.size w w') : Six w' b off cs := by
  intro j hj
  have := h j hj
  rw [hb.cell (p := ⟨b, off + j, none⟩) (block_lt_of_cell this)]
  exact this
/-- A tree that lies in memory below these six cells. -/
inductive Tr.At (w : World) : Tr → List Value → Prop
  | mk {k : Int} {d s : Bool} {f t : List Int} {ks : List Tr} {fo : Option Addr} {fc : Nat} {to : Option Addr} {tc : Nat} {ko : Option Addr} {kc : Nat} (b off : Nat) (css : Nat → List Value)
    (hn : f.length ≤ 100000 ∧ t.length ≤ 100000 ∧ ks.length ≤ 100000) (hf : Is.slot w fo f) (ht : Is.slot w to t) (hk : ks = [] ∨ ko = some ⟨b, off, none⟩) (hr : ∀ i, i < ks.length → Six w b (off + i * 6) (css i)) (ha : ∀ i (h : i < ks.length), Tr.At w ks[i] (css i)) :
    Tr.At w (.mk k d s f t ks) [.int .i64 k, .bool d, .bool s, .slice fo f.length fc, .slice to t.length tc, .slice ko ks.length kc]
theorem Tr.on {w w' : World} {t : Tr} {cs : List Value} (h : Tr.At w t cs) (hb : Below w.heap.size w w') : Tr.At w' t cs := by
  induction h with
  | mk b off css hn hf ht hk hr _ ih => exact .mk b off css hn (Is.slot_below hf hb) (Is.slot_below ht hb) hk (fun i hi => six_below (hr i hi) hb) ih
theorem Tr.len {w : World} {t : Tr} {cs : List Value} (h : Tr.At w t cs) : ∃ a b c d e f, cs = [a, b, c, d, e, f] := by
  cases h
  exact ⟨_, _, _, _, _, _, rfl⟩
theorem Tr.sizes_app (a b : List Tr) : Tr.sizes (a ++ b) = Tr.sizes a + Tr.sizes b := by
  induction a with
  | nil => simp [Tr.sizes]
  | cons x r ih => simp only [List.cons_append, Tr.sizes, ih]; omega
theorem Tr.sizes_step (ks : List Tr) (i : Nat) (h : i < ks.length) : Tr.sizes (ks.take (i + 1)) = Tr.sizes (ks.take i) + Tr.size ks[i] := by
  rw [List.take_succ_eq_append_getElem h, Tr.sizes_app]
  simp [Tr.sizes]
theorem Tr.sizes_le (ks : List Tr) (i : Nat) : Tr.sizes (ks.take i) ≤ Tr.sizes ks := by
  have := Tr.sizes_app (ks.take i) (ks.drop i)
  rw [List.take_append_drop] at this
  omega

/-- A node's six cells in a block of its own. -/
def Box (w : World) (b : Nat) (x0 x1 x2 x3 x4 x5 : Value) : Prop := w.cell? ⟨b, 0, none⟩ = some x0 ∧ w.cell? ⟨b, 1, none⟩ = some x1 ∧ w.cell? ⟨b, 2, none⟩ = some x2 ∧ w.cell? ⟨b, 3, none⟩ = some x3 ∧ w.cell? ⟨b, 4, none⟩ = some x4 ∧ w.cell? ⟨b, 5, none⟩ = some x5
theorem box_new (W : World) (x0 x1 x2 x3 x4 x5 : Value) (t : TypeId) : Box (W.alloc (.cells #[x0, x1, x2, x3, x4, x5] t)) W.heap.size x0 x1 x2 x3 x4 x5 := by
  refine ⟨?_, ?_, ?_, ?_, ?_, ?_⟩ <;> simp
theorem box_below {w w' : World} {b : Nat} {x0 x1 x2 x3 x4 x5 : Value} (h : Box w b x0 x1 x2 x3 x4 x5) (hb : Below w.heap.size w w') : Box w' b x0 x1 x2 x3 x4 x5 := by
  have hl := block_lt_of_cell h.1
  obtain ⟨h0, h1, h2, h3, h4, h5⟩ := h
  exact ⟨(hb.cell (p := ⟨b, 0, none⟩) hl).trans h0, (hb.cell (p := ⟨b, 1, none⟩) hl).trans h1, (hb.cell (p := ⟨b, 2, none⟩) hl).trans h2, (hb.cell (p := ⟨b, 3, none⟩) hl).trans h3, (hb.cell (p := ⟨b, 4, none⟩) hl).trans h4, (hb.cell (p := ⟨b, 5, none⟩) hl).trans h5⟩
theorem six_at {w : World} {b off : Nat} {x0 x1 x2 x3 x4 x5 : Value} (h : Six w b off [x0, x1, x2, x3, x4, x5]) :
    w.cell? ⟨b, off, none⟩ = some x0 ∧ w.cell? ⟨b, off + 1, none⟩ = some x1 ∧ w.cell? ⟨b, off + 2, none⟩ = some x2 ∧ w.cell? ⟨b, off + 3, none⟩ = some x3 ∧ w.cell? ⟨b, off + 4, none⟩ = some x4 ∧ w.cell? ⟨b, off + 5, none⟩ = some x5 :=
  ⟨h 0 (by simp), h 1 (by simp), h 2 (by simp), h 3 (by simp), h 4 (by simp), h 5 (by simp)⟩

set_option maxHeartbeats 4000000 in
set_option maxRecDepth 100000 in
theorem refSize_is {w : World} {t : Tr} {cs : List Value} (h : Tr.At w t cs) : Tr.size t ≤ 1000000 → ∀ W, Below w.heap.size w W →
    Calls Tryz.prog 15 #[.agg cs.toArray] W fun e w' => e = .returned (.int .i64 (Tr.size t : Nat)) ∧ Below W.heap.size W w' := by
  induction h with
  | mk b off css hn hf ht hk hr ha ih =>
    rename_i k d s f t ks fo fc to tc ko kc
    intro hz W hW
    have HR := hide hr
    have HA := hide ha
    have IH := hide ih
    clear hf ht hr ha ih
    have hn2 := hn.2.2
    clear hn
    by_cases hk0 : k = 0
    · subst hk0
      clear hz
      go_enter Tryz.func15, Tryz.ntmps15
      go_wp2_with fail
      go_ret
      exact ⟨by simp [Tr.size], balloc (brefl W) _⟩
    · have hz' : Tr.sizes ks ≤ 1000000 := by
        rw [Tr.size, if_neg hk0] at hz
        exact hz
      have hk0' : (k == 0) = false := by simpa using hk0
      have HE : Hid (Tr.size (.mk k d s f t ks) = Tr.sizes ks) := by show _ = _; rw [Tr.size, if_neg hk0]
      have HZ := hide hz'
      have HK := hide hk
      have HW := hide hW
      have BX := hide (box_new W (.int .i64 k) (.bool d) (.bool s) (.slice fo f.length fc) (.slice to t.length tc) (.slice ko ks.length kc) 30)
      have B0 := hide (balloc (brefl W) (.cells #[.int .i64 k, .bool d, .bool s, .slice fo f.length fc, .slice to t.length tc, .slice ko ks.length kc] 30))
      clear hz hz' hk hW
      go_enter Tryz.func15, Tryz.ntmps15
      go_wp2_with fail
      generalize W.alloc (.cells #[.int .i64 k, .bool d, .bool s, .slice fo f.length fc, .slice to t.length tc, .slice ko ks.length kc] 30) = W1 at BX B0 ⊢
      go_loopw [3, 4] (fun v3 v4 wr => ∃ i : Nat, v4 = .int .i64 i ∧ v3 = .int .i64 (Tr.sizes (ks.take i) : Nat) ∧ i ≤ ks.length ∧ Below W1.heap.size W1 wr) (fun _ v4 _ => ks.length - (intOf v4).toNat)
      case atStart => exact ⟨0, rfl, rfl, Nat.zero_le _, brefl _⟩
      case round =>
        obtain ⟨i, rfl, rfl, hi, hbr⟩ := hrel
        have BR := hide hbr
        clear hbr
        have c5 := (box_below BX.out BR.out).2.2.2.2.2
        by_cases hil : i < ks.length
        · have hil' : (i : Int) < (ks.length : Int) := by omega
          have hko : ko = some ⟨b, off, none⟩ := by
            rcases HK.out with h | h
            · rw [h] at hil; simp at hil
            · exact h
          subst hko
          have CC := hide (fun hz wq hq => IH.out i hil hz wq hq)
          have HN := hide (Tr.sizes_step ks i hil)
          have hle := Tr.sizes_le ks (i + 1)
          have hz := HZ.out
          rw [HN.out] at hle
          have h1 := six_below (six_below (HR.out i hil) HW.out) (bthen B0.out BR.out)
          obtain ⟨x0, x1, x2, x3, x4, x5, hx⟩ := Tr.len (HA.out i hil)
          generalize ks[i] = kd at *
          rw [hx] at CC h1
          obtain ⟨e0, e1, e2, e3, e4, e5⟩ := six_at h1
          have CG := hide (CC.out (by omega) wr (bthen HW.out (bthen B0.out BR.out)))
          clear h1 hx CC
          generalize hS : Tr.sizes (ks.take i) = S at *
          generalize Tr.size kd = Z at *
          go_wp2_with fail
          refine CG.out.mono ?_
          rintro e w3 ⟨rfl, hb3⟩
          have B3 := hide (bthen BR.out hb3)
          clear hb3
          go_wp2_with fail
          refine ⟨⟨i + 1, by go_num, ?_, by omega, B3.out⟩, by simp [intOf] <;> omega⟩
          rw [HN.out]
          simp
        · have hil' : ¬ (i : Int) < (ks.length : Int) := by omega
          have HS : Hid (Tr.sizes (ks.take i) = Tr.sizes ks) := by show _ = _; rw [List.take_of_length_le (by omega)]
          generalize Tr.sizes (ks.take i) = S at HS ⊢
          go_wp2_with fail
          go_ret
          exact ⟨ret_int (congrArg Int.ofNat (HS.out.trans HE.out.symm)), bthen B0.out BR.out⟩
end Go.Proofs.YtbceoinhmpnjaaaGreatDoor

/- The document's plain texts: pure laws, trees opened. -/
namespace Go.Proofs.YtbceoinhmpnjaaaGreatDoor
open Go.RowKit Go.Sort

theorem Nd.moreText_app (a : List Nd) (x : Nd) : Nd.moreText (a ++ [x]) = Nd.moreText a ++ 32 :: Nd.text x := by
  induction a with
  | nil => simp [Nd.moreText]
  | cons y r ih => simp only [List.cons_append, Nd.moreText, ih]; simp
theorem Nd.rowText_app (a : List Nd) (x : Nd) : Nd.rowText (a ++ [x]) = Nd.rowText a ++ ((if a.length = 0 then [] else [32]) ++ Nd.text x) := by
  cases a with
  | nil => simp [Nd.rowText, Nd.moreText]
  | cons y r => simp only [List.cons_append, Nd.rowText, Nd.moreText_app]; simp
theorem Nd.alsoText_app (a : List (List Nd)) (x : List Nd) : Nd.alsoText (a ++ [x]) = Nd.alsoText a ++ 124 :: Nd.rowText x := by
  induction a with
  | nil => simp [Nd.alsoText]
  | cons y r ih => simp only [List.cons_append, Nd.alsoText, ih]; simp
theorem Nd.rowsText_app (a : List (List Nd)) (x : List Nd) : Nd.rowsText (a ++ [x]) = Nd.rowsText a ++ ((if a.length = 0 then [] else [124]) ++ Nd.rowText x) := by
  cases a with
  | nil => simp [Nd.rowsText, Nd.alsoText]
  | cons y r => simp only [List.cons_append, Nd.rowsText, Nd.alsoText_app]; simp
theorem Px.pairs_app (a : List Prt) (p : Prt) : Px.pairs (a ++ [p]) = Px.pairs a ++ ((if a.length = 0 then [] else [32]) ++ Px.pair p) := by
  induction a with
  | nil => simp [Px.pairs]
  | cons y r ih =>
    cases r with
    | nil => simp [Px.pairs]
    | cons z r' =>
      have := ih
      simp only [List.cons_append, Px.pairs] at this ⊢
      rw [this]
      simp
theorem Nd.row_step (l : List Nd) (k : Nat) (h : k < l.length) : Nd.rowText (l.take (k + 1)) = Nd.rowText (l.take k) ++ ((if k = 0 then [] else [32]) ++ Nd.text l[k]) := by
  rw [List.take_succ_eq_append_getElem h, Nd.rowText_app, List.length_take, Nat.min_eq_left (by omega)]
theorem Nd.rows_step (l : List (List Nd)) (k : Nat) (h : k < l.length) : Nd.rowsText (l.take (k + 1)) = Nd.rowsText (l.take k) ++ ((if k = 0 then [] else [124]) ++ Nd.rowText l[k]) := by
  rw [List.take_succ_eq_append_getElem h, Nd.rowsText_app, List.length_take, Nat.min_eq_left (by omega)]
theorem Px.pairs_step (l : List Prt) (k : Nat) (h : k < l.length) : Px.pairs (l.take (k + 1)) = Px.pairs (l.take k) ++ ((if k = 0 then [] else [32]) ++ Px.pair l[k]) := by
  rw [List.take_succ_eq_append_getElem h, Px.pairs_app, List.length_take, Nat.min_eq_left (by omega)]
theorem up_le {f : Nat → Nat} {n : Nat} (h : ∀ k, k < n → f k ≤ f (k + 1)) : ∀ k j, k ≤ j → j ≤ n → f k ≤ f j
  | k, 0, hk, _ => by obtain rfl : k = 0 := by omega
                      exact Nat.le_refl _
  | k, j + 1, hk, hj => by
    rcases Nat.lt_or_ge k (j + 1) with h1 | h1
    · exact Nat.le_trans (up_le h k j (by omega) (by omega)) (h j (by omega))
    · obtain rfl : k = j + 1 := by omega
      exact Nat.le_refl _
theorem Nd.row_le (l : List Nd) (k : Nat) (h : k ≤ l.length) : (Nd.rowText (l.take k)).length ≤ (Nd.rowText l).length := by
  have := up_le (f := fun k => (Nd.rowText (l.take k)).length) (n := l.length) (fun k hk => by
    show _ ≤ (Nd.rowText (l.take (k + 1))).length
    rw [Nd.row_step l k hk, List.length_append]; omega) k l.length h (Nat.le_refl _)
  simpa using this
theorem Nd.rows_le (l : List (List Nd)) (k : Nat) (h : k ≤ l.length) : (Nd.rowsText (l.take k)).length ≤ (Nd.rowsText l).length := by
  have := up_le (f := fun k => (Nd.rowsText (l.take k)).length) (n := l.length) (fun k hk => by
    show _ ≤ (Nd.rowsText (l.take (k + 1))).length
    rw [Nd.rows_step l k hk, List.length_append]; omega) k l.length h (Nat.le_refl _)
  simpa using this
theorem Px.pairs_le (l : List Prt) (k : Nat) (h : k ≤ l.length) : (Px.pairs (l.take k)).length ≤ (Px.pairs l).length := by
  have := up_le (f := fun k => (Px.pairs (l.take k)).length) (n := l.length) (fun k hk => by
    show _ ≤ (Px.pairs (l.take (k + 1))).length
    rw [Px.pairs_step l k hk, List.length_append]; omega) k l.length h (Nat.le_refl _)
  simpa using this
theorem Nd.trRow_map (l : List Nd) : Nd.trRow l = l.map Nd.tr := by
  induction l with
  | nil => simp [Nd.trRow]
  | cons x r ih => simp only [Nd.trRow, List.map_cons, ih]
theorem Nd.trRows_map (l : List (List Nd)) : Nd.trRows l = l.map fun r => .mk 1 false false [] [] (r.map Nd.tr) := by
  induction l with
  | nil => simp [Nd.trRows]
  | cons x r ih => simp only [Nd.trRows, List.map_cons, ih, Nd.trRow_map]
theorem Tr.inv {w : World} {k : Int} {d s : Bool} {f t : List Int} {ks : List Tr} {cs : List Value} (h : Tr.At w (.mk k d s f t ks) cs) :
    ∃ (fo : Option Addr) (fc : Nat) (to : Option Addr) (tc : Nat) (ko : Option Addr) (kc b off : Nat) (css : Nat → List Value), cs = [.int .i64 k, .bool d, .bool s, .slice fo f.length fc, .slice to t.length tc, .slice ko ks.length kc] ∧ (f.length ≤ 100000 ∧ t.length ≤ 100000 ∧ ks.length ≤ 100000) ∧ Is.slot w fo f ∧ Is.slot w to t ∧ (ks = [] ∨ ko = some ⟨b, off, none⟩) ∧ (∀ i, i < ks.length → Six w b (off + i * 6) (css i)) ∧ (∀ i (h : i < ks.length), Tr.At w ks[i] (css i)) := by
  cases h with
  | mk b off css hn hf ht hk hr ha => exact ⟨_, _, _, _, _, _, b, off, css, rfl, hn, hf, ht, hk, hr, ha⟩
abbrev tx (l : Bs) : ByteArray := ⟨l.toArray⟩
theorem adds_tx (x y : Bs) (z : Bs) (hz : z = x ++ y) (h1 : x.length ≤ 100000) (h2 : y.length ≤ 100000) : Adds (tx x) (tx y) (tx z) := by
  subst hz
  exact adds_list x y h1 h2
end Go.Proofs.YtbceoinhmpnjaaaGreatDoor

