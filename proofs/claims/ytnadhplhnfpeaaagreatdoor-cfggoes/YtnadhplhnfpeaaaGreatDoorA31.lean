/- Part of the proof. -/
import Derived.Test.YtnadhplhnfpeaaaGreatDoorAZ
import Derived.Test.YtnadhplhnfpeaaaGreatDoorA30
import Derived.Deep.RegionHeldLaw
import Derived.Deep.RegionLaw
namespace Go.Proofs.YtnadhplhnfpeaaaGreatDoor.Ar
open Go.RowKit Go.Sort
inductive Pn where
  | mk (k : Int) (ps : List Prt) (us : List Pn)
mutual
def Nd.pn : Nd → Pn
  | .num dot set rs => if dot = true then .mk 1 [] [] else .mk (if set = true then 2 else 0) rs []
  | .ch rows => .mk 3 [] (Nd.pnRows rows)
  | .st k n => .mk ((k : Int) + 2) [] [Nd.pn n]
def Nd.pnRow : List Nd → List Pn
  | [] => []
  | n :: r => Nd.pn n :: Nd.pnRow r
def Nd.pnRows : List (List Nd) → List Pn
  | [] => []
  | l :: r => .mk 4 [] (Nd.pnRow l) :: Nd.pnRows r
end
theorem Nd.pnRow_map (l : List Nd) : Nd.pnRow l = l.map Nd.pn := by
 induction l with
 | nil => simp [Nd.pnRow]
 | cons x r ih => simp only [Nd.pnRow, List.map_cons, ih]
theorem Nd.pnRows_map (l : List (List Nd)) : Nd.pnRows l = l.map fun r => .mk 4 [] (r.map Nd.pn) := by
 induction l with
 | nil => simp [Nd.pnRows]
 | cons x r ih => simp only [Nd.pnRows, List.map_cons, ih, Nd.pnRow_map]
def Pa.enc (p : Prt) : List Value := [.int .i64 p.1, .int .i64 p.2.1, .bool p.2.2]
def Pa.cells (l : List Prt) : List Value := l.flatMap Pa.enc
def Pa.slot (w : World) (po : Option Addr) (l : List Prt) : Prop := l = [] ∨ ∃ b off, po = some ⟨b, off, none⟩ ∧ ∀ i (h : i < l.length), Six w b (off + i * 3) (Pa.enc l[i])
inductive Pn.At (w : World) : Pn → List Value → Prop
  | mk {k : Int} {ps : List Prt} {us : List Pn} {po : Option Addr} {pc : Nat} {uo : Option Addr} {uc : Nat} (b off : Nat) (css : Nat → List Value)
    (hn : ps.length ≤ 100000 ∧ us.length ≤ 100000) (hp : Pa.slot w po ps) (hk : us = [] ∨ uo = some ⟨b, off, none⟩) (hr : ∀ i, i < us.length → Six w b (off + i * 3) (css i)) (ha : ∀ i (h : i < us.length), Pn.At w us[i] (css i)) :
    Pn.At w (.mk k ps us) [.int .i64 k, .slice po ps.length pc, .slice uo us.length uc]
theorem Pn.inv {w : World} {k : Int} {ps : List Prt} {us : List Pn} {cs : List Value} (h : Pn.At w (.mk k ps us) cs) :
    ∃ (po : Option Addr) (pc : Nat) (uo : Option Addr) (uc b off : Nat) (css : Nat → List Value), cs = [.int .i64 k, .slice po ps.length pc, .slice uo us.length uc] ∧ (ps.length ≤ 100000 ∧ us.length ≤ 100000) ∧ Pa.slot w po ps ∧ (us = [] ∨ uo = some ⟨b, off, none⟩) ∧ (∀ i, i < us.length → Six w b (off + i * 3) (css i)) ∧ (∀ i (h : i < us.length), Pn.At w us[i] (css i)) := by
 cases h with
 | mk b off css hn hp hk hr ha => exact ⟨_, _, _, _, b, off, css, rfl, hn, hp, hk, hr, ha⟩
def One3 (x0 x1 x2 : Value) : Prop := x0.oneCell' = true ∧ x1.oneCell' = true ∧ x2.oneCell' = true
theorem Pn.one {w : World} {t : Pn} {x0 x1 x2 : Value} (h : Pn.At w t [x0, x1, x2]) : One3 x0 x1 x2 := by
 obtain ⟨k, ps, us⟩ := t
 obtain ⟨po, pc, uo, uc, b, off, css, hc, _⟩ := Pn.inv h
 simp only [List.cons.injEq, and_true] at hc
 obtain ⟨rfl, rfl, rfl⟩ := hc
 exact ⟨rfl, rfl, rfl⟩
def Own3 (S : Nat → Prop) (w : World) (t : Pn) (cs : List Value) : Prop := (∀ k, S k → k < w.heap.size) ∧ ∀ w', (∀ k, S k → w'.heap[k]? = w.heap[k]?) → Pn.At w' t cs
theorem Own3.at {S : Nat → Prop} {w : World} {t : Pn} {cs : List Value} (h : Own3 S w t cs) : Pn.At w t cs := h.2 w fun _ _ => rfl
theorem Own3.keep {S : Nat → Prop} {w w' : World} {t : Pn} {cs : List Value} (h : Own3 S w t cs) (hs : w.heap.size ≤ w'.heap.size) (hk : ∀ k, S k → w'.heap[k]? = w.heap[k]?) : Own3 S w' t cs :=
  ⟨fun k hk => Nat.lt_of_lt_of_le (h.1 k hk) hs, fun w2 h2 => h.2 w2 fun k h3 => (h2 k h3).trans (hk k h3)⟩
theorem Own3.mono {S S' : Nat → Prop} {w : World} {t : Pn} {cs : List Value} (h : Own3 S w t cs) (hS : ∀ k, S k → S' k) (hb : ∀ k, S' k → k < w.heap.size) : Own3 S' w t cs :=
  ⟨hb, fun w2 h2 => h.2 w2 fun k h3 => h2 k (hS k h3)⟩
def From (A : Nat) (w : World) (k : Nat) : Prop := A ≤ k ∧ k < w.heap.size
theorem Own3.later {A A' : Nat} {w w' : World} {t : Pn} {cs : List Value} (h : Own3 (From A w) w t cs) (hA : A' ≤ A) (hs : w.heap.size ≤ w'.heap.size) (hk : ∀ k, A ≤ k → k < w.heap.size → w'.heap[k]? = w.heap[k]?) : Own3 (From A' w') w' t cs :=
  (h.keep hs fun k hk2 => hk k hk2.1 hk2.2).mono (fun _k hk => ⟨Nat.le_trans hA hk.1, Nat.lt_of_lt_of_le hk.2 hs⟩) (fun _k hk => hk.2)
theorem info_84 : ∃ (i : TypeInfo) (z : Value), Tryz.prog.info? 229 = some i ∧ i.zero = some z ∧ i.size = 3 ∧ i.bytes = 24 ∧ z.cells.size = 3 := by
 have h : (Tryz.prog.info? 229).map (fun i => (i.zero, i.size, i.bytes)) = some (some (.agg #[.int .i64 0, .int .i64 0, .bool false]), 3, 24) := by kernel_rfl
 cases hi : Tryz.prog.info? 229 with
 | none => rw [hi] at h; cases h
 | some i0 =>
  rw [hi] at h
  simp only [Option.map_some, Option.some.injEq, Prod.mk.injEq] at h
  exact ⟨i0, _, rfl, h.1, h.2.1, h.2.2, rfl⟩
theorem info_59 : ∃ (i : TypeInfo) (z : Value), Tryz.prog.info? 199 = some i ∧ i.zero = some z ∧ i.size = 3 ∧ i.bytes = 56 ∧ z.cells.size = 3 := by
 have h : (Tryz.prog.info? 199).map (fun i => (i.zero, i.size, i.bytes)) = some (some (.agg #[.int .i64 0, .slice none 0 0, .slice none 0 0]), 3, 56) := by kernel_rfl
 cases hi : Tryz.prog.info? 199 with
 | none => rw [hi] at h; cases h
 | some i0 =>
  rw [hi] at h
  simp only [Option.map_some, Option.some.injEq, Prod.mk.injEq] at h
  exact ⟨i0, _, rfl, h.1, h.2.1, h.2.2, rfl⟩
theorem box3_news {w : World} {g : Nat} {y0 y1 y2 : Value} (h : Box3 w g y0 y1 y2) : ∀ j u, [y0, y1, y2][j]? = some u → w.cell? ((⟨g, 0, none⟩ : Addr).add j) = some u := by
 obtain ⟨c0, c1, c2⟩ := h
 intro j u hj
 match j, hj with
 | 0, hj => simp at hj; subst hj; simpa [Addr.add] using c0
 | 1, hj => simp at hj; subst hj; simpa [Addr.add] using c1
 | 2, hj => simp at hj; subst hj; simpa [Addr.add] using c2
theorem one3_news {y0 y1 y2 : Value} (h : One3 y0 y1 y2) : ∀ u ∈ [y0, y1, y2], u.oneCell' = true := by
 intro u hu
 simp only [List.mem_cons, List.not_mem_nil, or_false] at hu
 rcases hu with rfl | rfl | rfl
 ·
  exact h.1
 ·
  exact h.2.1
 exact h.2.2
theorem step_part {w : World} {ops : Array Oper} {o : Oper} {a : Act} {K : Act → World → Prop} {Q : Exit → Act → World → Prop} {E : Prop} (hgd : o.guard = none) (s x : Operand)
    (ho : o.op = .call { callee := .builtin .append, args := #[s, x], argTypes := #[196, 196] }) (B : Nat) (v : Value) (n : Nat) (xs : List Value) (hs : a.eval s = v) (hown : w.ownsRow B 229 3 v n xs)
    (g0 c : Nat) (hx : a.eval x = .slice (some ⟨g0, 0, none⟩) 1 c) (y0 y1 y2 : Value) (hb : Box3 w g0 y0 y1 y2) (h1 : One3 y0 y1 y2) (hn : n ≤ 10000) (hB : B ≤ w.heap.size) (H : Nat) (hH : w.heap.size = H)
    (h : ∀ g cap w', w'.ownsRow B 229 3 (.slice (some ⟨g, 0, none⟩) (n + 1) cap) (n + 1) (xs ++ [y0, y1, y2]) → w.grownBy w' v.ownBlock → (v.ownBlock = some g ∨ g = H) → K (a.put o.dst (.slice (some ⟨g, 0, none⟩) (n + 1) cap)) w') :
    if Region.wanted o (yielded ops a.tmps) = true then Oper.wp Tryz.prog o a w K Q else E := by
  obtain ⟨i, z, hi, hz, hsz, hby, hzs⟩ := info_84
  exact step_append_lies w hgd s x 196 ho B 229 i z 3 24 Tryz.underlying196 hi hz hsz hby hzs (by decide) v n xs hs hown ⟨g0, 0, none⟩ 1 c [y0, y1, y2] hx rfl (box3_news hb) (one3_news h1) (by decide) (by unfold maxLen; omega) (by omega) hB H hH fun g cap w' h1 h2 h3 _ => h g cap w' h1 h2 h3
theorem step_node {w : World} {ops : Array Oper} {o : Oper} {a : Act} {K : Act → World → Prop} {Q : Exit → Act → World → Prop} {E : Prop} (hgd : o.guard = none) (s x : Operand)
    (ho : o.op = .call { callee := .builtin .append, args := #[s, x], argTypes := #[197, 197] }) (B : Nat) (v : Value) (n : Nat) (xs : List Value) (hs : a.eval s = v) (hown : w.ownsRow B 199 3 v n xs)
    (g0 c : Nat) (hx : a.eval x = .slice (some ⟨g0, 0, none⟩) 1 c) (y0 y1 y2 : Value) (hb : Box3 w g0 y0 y1 y2) (h1 : One3 y0 y1 y2) (hn : n ≤ 10000) (hB : B ≤ w.heap.size) (H : Nat) (hH : w.heap.size = H)
    (h : ∀ g cap w', w'.ownsRow B 199 3 (.slice (some ⟨g, 0, none⟩) (n + 1) cap) (n + 1) (xs ++ [y0, y1, y2]) → w.grownBy w' v.ownBlock → (v.ownBlock = some g ∨ g = H) → K (a.put o.dst (.slice (some ⟨g, 0, none⟩) (n + 1) cap)) w') :
    if Region.wanted o (yielded ops a.tmps) = true then Oper.wp Tryz.prog o a w K Q else E := by
  obtain ⟨i, z, hi, hz, hsz, hby, hzs⟩ := info_59
  exact step_append_lies w hgd s x 197 ho B 199 i z 3 56 Tryz.underlying197 hi hz hsz hby hzs (by decide) v n xs hs hown ⟨g0, 0, none⟩ 1 c [y0, y1, y2] hx rfl (box3_news hb) (one3_news h1) (by decide) (by unfold maxLen; omega) (by omega) hB H hH fun g cap w' h1 h2 h3 _ => h g cap w' h1 h2 h3
theorem row_six {w w' : World} {B e n : Nat} {o : Option Addr} {cap : Nat} {xs : List Value} (h : w.ownsRow B e 3 (.slice o n cap) n xs) (hn : 0 < n) (hk : ∀ k, (Value.slice o n cap).ownBlock = some k → w'.heap[k]? = w.heap[k]?) : ∃ g, o = some ⟨g, 0, none⟩ ∧ B ≤ g ∧ g < w.heap.size ∧ ∀ j u, xs[j]? = some u → w'.cell? ⟨g, j, none⟩ = some u := by
 rcases h.2 with ⟨h1, h2⟩ | ⟨g, cap', cur, h1, h2, h3, h4, h5, h6, h7⟩
 ·
  omega
 simp only [Value.slice.injEq] at h1
 obtain ⟨rfl, -, -⟩ := h1
 refine ⟨g, rfl, h2, heap_lt h3, fun j u hj => ?_⟩
 have hg : w'.heap[g]? = some (.cells cur e (0, 0)) := (hk g rfl).trans h3
 rw [cell_of_row w' g j cur e _ hg]
 have hjl : j < xs.length := by
  rcases Nat.lt_or_ge j xs.length with h | h
  ·
   exact h
  rw [List.getElem?_eq_none h] at hj; cases hj
 have h8 : (cur.toList.take (n * 3))[j]? = xs[j]? := by rw [h7]
 rw [List.getElem?_take, if_pos (by have := h.1; omega), hj] at h8
 simpa using h8
theorem Pa.cells_app (a : List Prt) (p : Prt) : Pa.cells (a ++ [p]) = Pa.cells a ++ Pa.enc p := by simp [Pa.cells]
theorem flat3_get {α : Type} (f : α → List Value) (hf : ∀ x, (f x).length = 3) : ∀ (l : List α) (i : Nat) (h : i < l.length) (j : Nat), j < 3 → (l.flatMap f)[i * 3 + j]? = (f l[i])[j]?
  | [], i, h, _, _ => by simp at h
  | x :: l, 0, _, j, hj => by
    rw [List.flatMap_cons, Nat.zero_mul, Nat.zero_add, List.getElem?_append_left (by rw [hf]; exact hj)]
    rfl
  | x :: l, i + 1, h, j, hj => by
    rw [List.flatMap_cons, List.getElem?_append_right (by rw [hf]; omega), hf, show (i + 1) * 3 + j - 3 = i * 3 + j by omega, flat3_get f hf l i (by simpa using h) j hj]
    rfl
def mes (w : World) (b : Nat) : Nat := (match w.cell? ⟨b, 0, none⟩ with | some (.string s) => s.size | _ => 0) + (match w.cell? ⟨b, 2, none⟩ with | some (.int _ q) => (if q = 0 then 1 else 0) | _ => 0)
theorem Rd.mes {w : World} {b : Nat} {r : Bs} {d : Nat} {q : Int} (h : Rd w b r d q) : mes w b = r.length + (if q = 0 then 1 else 0) := by
 unfold YtnadhplhnfpeaaaGreatDoor.Ar.mes
 rw [h.1, h.2.2.1]
 simp only [tx_size]
def NodePost (b : Nat) (W : World) (d : Nat) (R : Except Int (Nd × Bs)) (e : Ending) (w' : World) : Prop :=
  But b W w' ∧ match R with
  | .ok (n, k) => ∃ (k' : Bs) (x0 x1 x2 : Value), Px.skip k' = Px.skip k ∧ k'.length ≤ k.length ∧ Rd w' b k' d 0 ∧ Own3 (From W.heap.size w') w' (Nd.pn n) [x0, x1, x2] ∧ e = .returned (.agg #[x0, x1, x2])
  | .error q => ∃ x0 x1 x2 : Value, Rd w' b [] d q ∧ One3 x0 x1 x2 ∧ e = .returned (.agg #[x0, x1, x2])
abbrev zN : Obj := .cells #[.int .i64 0, .slice none 0 0, .slice none 0 0] 199
structure Way (b : Nat) (W : World) (x0 v1 v2 : Value) (wr : World) : Prop where
  hb : b < W.heap.size
  free0 : Free wr W.heap.size
  box0 : Box3 wr W.heap.size (.int .i64 0) (.slice none 0 0) (.slice none 0 0)
  free1 : Free wr (W.heap.size + 1)
  box1 : Box3 wr (W.heap.size + 1) x0 v1 v2
  but : But b W wr
  big : W.heap.size + 2 ≤ wr.heap.size
theorem Way.ne0 {b : Nat} {W : World} {x0 v1 v2 : Value} {wr : World} (h : Way b W x0 v1 v2 wr) : W.heap.size ≠ b := by have := h.hb; omega
theorem Way.ne1 {b : Nat} {W : World} {x0 v1 v2 : Value} {wr : World} (h : Way b W x0 v1 v2 wr) : W.heap.size + 1 ≠ b := by have := h.hb; omega
theorem Way.step {b : Nat} {W : World} {x0 v1 v2 : Value} {wr w' : World} (h : Way b W x0 v1 v2 wr) (hB : But b wr w') : Way b W x0 v1 v2 w' :=
  ⟨h.hb, hB.free h.free0 h.ne0, box3_but h.box0 hB h.ne0, hB.free h.free1 h.ne1, box3_but h.box1 hB h.ne1, h.but.trans hB, Nat.le_trans h.big hB.size⟩
theorem Way.grown {b : Nat} {W : World} {x0 v1 v2 : Value} {wr w' : World} {row : Option Nat} (h : Way b W x0 v1 v2 wr) (hg : wr.grownBy w' row) (hr : ∀ k, row = some k → W.heap.size + 2 ≤ k) : Way b W x0 v1 v2 w' := by
 have hbig := h.big
 have h0 : w'.heap[W.heap.size]? = wr.heap[W.heap.size]? := hg.block _ (by omega) (fun e => by have := hr _ e.symm; omega)
 have h1 : w'.heap[W.heap.size + 1]? = wr.heap[W.heap.size + 1]? := hg.block _ (by omega) (fun e => by have := hr _ e.symm; omega)
 have hs := hg.size
 exact ⟨h.hb, free_of h.free0 hs h0, box3_of h.box0 h0, free_of h.free1 hs h1, box3_of h.box1 h1, h.but.grown hg (fun k hk => by have := hr k hk; omega), by omega⟩
theorem Way.set1 {b : Nat} {W : World} {x0 v1 v2 : Value} {wr : World} (h : Way b W x0 v1 v2 wr) (v : Value) : Way b W x0 v v2 (wr.setCell ⟨W.heap.size + 1, 1, none⟩ v) := by
 obtain ⟨c0, c1, c2⟩ := h.box1
 have hbig := h.big
 refine ⟨h.hb, free_set h.free0 _ _, box3_of h.box0 (heap_setCell_ne _ _ _ _ _ (by omega)), free_set h.free1 _ _, ⟨?_, ?_, ?_⟩, h.but.setCell (.inr (Nat.le_succ _)) _, by rw [size_setCell]; exact hbig⟩ <;> simp [go_sem, c0, c1, c2]
theorem way_start {b : Nat} {W : World} (hb : b < W.heap.size) (x0 v1 v2 : Value) : Way b W x0 v1 v2 ((W.alloc zN).alloc (.cells #[x0, v1, v2] 199)) := by
 have h1 := box3_below (box3_new W (.int .i64 0) (.slice none 0 0) (.slice none 0 0) 199) (balloc (brefl _) (.cells #[x0, v1, v2] 199))
 have h2 := box3_new (W.alloc zN) x0 v1 v2 199
 have f2 := free_new (W.alloc zN) #[x0, v1, v2] 199
 rw [size_alloc] at h2 f2
 exact ⟨hb, free_alloc (free_new W _ 199) _, h1, f2, h2, ((But.refl b W).alloc _).alloc _, by simp only [size_alloc]; omega⟩
structure SetWay (b : Nat) (W : World) (acc : List Prt) (vP : Value) (wr : World) : Prop where
  way : Way b W (.int .i64 2) vP (.slice none 0 0) wr
  row : wr.ownsRow (W.heap.size + 2) 229 3 vP acc.length (Pa.cells acc)
theorem SetWay.more {b : Nat} {W : World} {acc : List Prt} {vP : Value} {w1 w2 : World} {p : Prt} {g cap : Nat} (h : Way b W (.int .i64 2) vP (.slice none 0 0) w1) (hr : ∀ k, vP.ownBlock = some k → W.heap.size + 2 ≤ k)
    (ho : w2.ownsRow (W.heap.size + 2) 229 3 (.slice (some ⟨g, 0, none⟩) (acc.length + 1) cap) (acc.length + 1) (Pa.cells acc ++ [.int .i64 p.1, .int .i64 p.2.1, .bool p.2.2])) (hg : w1.grownBy w2 vP.ownBlock) :
    SetWay b W (acc ++ [p]) (.slice (some ⟨g, 0, none⟩) (acc.length + 1) cap) (w2.setCell ⟨W.heap.size + 1, 1, none⟩ (.slice (some ⟨g, 0, none⟩) (acc.length + 1) cap)) := by
  refine ⟨(h.grown hg hr).set1 _, ?_⟩
  have := ownsRow_setCell_below ho (a := ⟨W.heap.size + 1, 1, none⟩) (Nat.lt_succ_self _) (.slice (some ⟨g, 0, none⟩) (acc.length + 1) cap)
  rw [Pa.cells_app, List.length_append]
  exact this
theorem set_own {b : Nat} {W : World} {acc : List Prt} {po : Option Addr} {pc : Nat} {wr w' : World} (h : SetWay b W acc (.slice po acc.length pc) wr) (hl : acc.length ≤ 1000) (hs : wr.heap.size ≤ w'.heap.size) (hk : ∀ k, W.heap.size + 2 ≤ k → k < wr.heap.size → w'.heap[k]? = wr.heap[k]?) :
    Own3 (From W.heap.size w') w' (Nd.pn (.num false true acc)) [.int .i64 2, .slice po acc.length pc, .slice none 0 0] := by
 refine ⟨fun k hk => hk.2, fun w2 h2 => ?_⟩
 have hsl : Pa.slot w2 po acc := by
  by_cases h0 : acc = []
  ·
   exact .inl h0
  have hpos := List.length_pos_iff.2 h0
  have hin := h.row.lt
  obtain ⟨g, hg, h1, h3, h4⟩ := row_six (w' := w2) h.row hpos (fun k hk1 => by
    have := hin k hk1
    rw [h2 k ⟨by omega, by omega⟩]
    exact hk k this.1 this.2)
  refine .inr ⟨g, 0, hg, fun i hi j hj => ?_⟩
  have hj3 : j < 3 := hj
  have := flat3_get Pa.enc (fun _ => rfl) acc i hi j hj3
  rw [Nat.zero_add]
  exact h4 _ _ (this.trans (List.getElem?_eq_getElem hj))
 have := Pn.At.mk (w := w2) (k := 2) (ps := acc) (us := []) (po := po) (pc := pc) (uo := none) (uc := 0) 0 0 (fun _ => []) ⟨by omega, by simp⟩ hsl (.inl rfl) (fun i hi => by simp at hi) (fun i hi => by simp at hi)
 rw [Nd.pn, if_neg (by simp), if_pos rfl]
 exact this
def SetRel (b : Nat) (W : World) (d : Nat) (R : Except Int (List Prt × Bs)) (wr : World) : Prop :=
  (∃ (f : Nat) (r : Bs) (acc : List Prt) (po : Option Addr) (pc : Nat), R = Px.set f acc r ∧ r.length < f ∧ (acc = [] ∨ Px.isAt r 93 = false) ∧ acc.length + r.length ≤ 1000 ∧ Rd wr b r d 0 ∧ SetWay b W acc (.slice po acc.length pc) wr) ∨
  (∃ (v : Int) (vP : Value), v ≠ 0 ∧ vP.oneCell' = true ∧ R = .error v ∧ Rd wr b [] d v ∧ Way b W (.int .i64 2) vP (.slice none 0 0) wr)
theorem partRes_ne {r : Bs} {v : Int} (h : partRes r = .error v) : v ≠ 0 := by
 have hn : ∀ {u : Bs} {e : Int}, Px.number u = .error e → e ≠ 0 := fun h => number_err h
 unfold partRes at h
 split at h
 ·
  rename_i e he
  cases h
  exact hn he
 split at h
 ·
  split at h
  ·
   rename_i e he
   cases h
   exact hn he
  split at h
  ·
   cases h; decide
  cases h
 cases h
theorem nodePost_err {b : Nat} {W : World} {d : Nat} {R : Except Int (Nd × Bs)} {v : Int} {x0 x1 x2 : Value} {w' : World} (hR : R = .error v) (hB : But b W w') (hr : Rd w' b [] d v) (h1 : One3 x0 x1 x2) : NodePost b W d R (.returned (.agg #[x0, x1, x2])) w' := by
 rw [hR]
 exact ⟨hB, x0, x1, x2, hr, h1, rfl⟩
theorem nodePost_ok {b : Nat} {W : World} {d : Nat} {R : Except Int (Nd × Bs)} {n : Nd} {k k' : Bs} {x0 x1 x2 : Value} {w' : World} (hR : R = .ok (n, k)) (hB : But b W w') (hk : Px.skip k' = Px.skip k) (hl : k'.length ≤ k.length) (hr : Rd w' b k' d 0) (h1 : Own3 (From W.heap.size w') w' (Nd.pn n) [x0, x1, x2]) : NodePost b W d R (.returned (.agg #[x0, x1, x2])) w' := by
 rw [hR]
 exact ⟨hB, k', x0, x1, x2, hk, hl, hr, h1, rfl⟩
theorem way_lt {b : Nat} {W : World} {x0 v1 v2 : Value} {wr : World} (h : Way b W x0 v1 v2 wr) : W.heap.size + 1 < wr.heap.size := by have := h.big; omega
theorem Way.alloc {b : Nat} {W : World} {x0 v1 v2 : Value} {wr : World} (h : Way b W x0 v1 v2 wr) (o : Obj) : Way b W x0 v1 v2 (wr.alloc o) := h.step (But.of (balloc (brefl _) o))
theorem Way.drew {b : Nat} {W : World} {x0 v1 v2 : Value} {wr : World} (h : Way b W x0 v1 v2 wr) : Way b W x0 v1 v2 wr.drew := h.step (But.of (Below.drew (brefl _)))
theorem row_but {w w' : World} {b B e size n : Nat} {v : Value} {xs : List Value} (h : w.ownsRow B e size v n xs) (hB : But b w w') (hb : b < B) : w'.ownsRow B e size v n xs :=
  row_same h fun g hg => hB.block g (by have := (h.lt g hg).1; omega) (h.lt g hg).2
theorem Rd.grown {w w' : World} {b : Nat} {r : Bs} {d : Nat} {q : Int} {row : Option Nat} (h : Rd w b r d q) (hg : w.grownBy w' row) (hr : ∀ k, row = some k → b < k) : Rd w' b r d q :=
  h.of hg.size (hg.block b h.lt (fun e => by have := hr b e.symm; omega))
theorem row_from {w : World} {B e size n : Nat} {v : Value} {xs : List Value} (h : w.ownsRow B e size v n xs) : ∀ k, v.ownBlock = some k → B ≤ k := fun k hk => (h.lt k hk).1
set_option maxHeartbeats 16000000 in
set_option maxRecDepth 100000 in
theorem set_is {T : World → Prop} (K : ReadKit T) {W : World} {b : Nat} {r0 : Bs} {d : Nat} (h : Rd W b r0 d 0) (hT : Ty T b W) (hl : r0.length ≤ 100) (f0 : Nat) (hf : r0.length < f0) :
    Calls Tryz.prog 159 #[.pointer (some ⟨b, 0, none⟩)] W (NodePost b W d (setR (Px.set f0 [] r0))) := by
 obtain ⟨R, hR⟩ : ∃ R, R = Px.set f0 [] r0 := ⟨_, rfl⟩
 have HS : Hid (SetRel b W d R ((W.alloc zN).alloc (.cells #[.int .i64 2, .slice none 0 0, .slice none 0 0] 199))) :=
  .inl ⟨f0, r0, [], none, 0, hR, hf, .inl rfl, by simp; omega, (h.alloc _).alloc _, way_start h.lt _ _ _, ⟨rfl, .inl ⟨rfl, rfl⟩⟩⟩
 have HT := hide hT
 have hbW := h.lt
 rw [← hR]
 clear h hT hl hf hR
 go_enter Tryz.func159, Tryz.ntmps159
 go_wp2_with fail
 generalize (W.alloc zN).alloc (.cells #[.int .i64 2, .slice none 0 0, .slice none 0 0] 199) = W1 at *
 go_loopw [] (fun wr => Hid (SetRel b W d R wr)) (fun wr => mes wr b)
 case atStart => exact HS
 case round =>
  rcases hrel.out with ⟨f, r, acc, po, pc, hR, hf, h93, hal, hrd, hw⟩ | ⟨v, vP, hv, hvP, hR, hrd, hw⟩
  ·
   have HM := hide (show mes wr b = r.length + 1 by rw [hrd.mes]; simp)
   obtain ⟨f, rfl⟩ : ∃ g, f = g + 1 := ⟨f - 1, by omega⟩
   have hsp : Px.set (f + 1) acc r = _ := set_part (f := f) (acc := acc) (r := r) (by rintro ⟨h1, h2⟩; rcases h93 with h | h; exact h1 h; rw [h] at h2; cases h2)
   have HWY := hide hw.way
   have HOW := hide hw.row
   have HTy := hide (HT.out.but hw.way.but)
   have CP := hide (part_is K hrd.drew (HTy.out.but (But.of (Below.drew (brefl _)))) (by omega))
   have hacc : acc.length ≤ 1000 := by omega
   obtain ⟨c0, c1, c2, _⟩ := hrd
   obtain ⟨d0, d1, d2⟩ := hw.way.box1
   have hb2 : b < W.heap.size + 2 := by omega
   have hlt1 := way_lt hw.way
   have hne1 := hw.way.ne1
   cases hp : partRes r with
   | error v =>
    have hv := partRes_ne hp
    have HR : Hid (R = .error v) := by show _ = _; rw [hR, hsp, hp]
    rw [hp] at CP
    clear hR hf h93 hal hsp hp hw hrel
    go_wp2_with fail
    go_region_law (first
        | (go_simp
           go_at_call 166
           refine CP.out.mono ?_
           rintro e w1 ⟨hB, x, y, z, rfl, hR1⟩
           have hl1 : W.heap.size + 1 < w1.heap.size := way_lt (HWY.out.drew.step hB)
           have hn1 : W.heap.size + 1 ≠ w1.heap.size := by omega
           have cw1 := (HWY.out.drew.step hB).box1.2.1)
        | (refine step_part rfl (.tmp 11) (.tmp 14) rfl (W.heap.size + 2) (.slice po acc.length pc) acc.length (Pa.cells acc) (by simp [Act.eval]) ((row_but (row_but HOW.out (But.of (b := b) (Below.drew (brefl _))) hb2) hB hb2).alloc _) w1.heap.size 1 (by simp [Act.eval]) _ _ _ (box3_new w1 _ _ _ 229) ⟨rfl, rfl, rfl⟩ (by omega) (by have := (HWY.out.drew.step hB).big; rw [size_alloc]; omega) _ rfl ?_
           intro g cap w2 ho hg hloc
           have HW2 := hide (((HWY.out.drew.step hB).alloc (.cells #[.int .i64 x, .int .i64 y, .bool z] 229)).grown hg (row_from HOW.out))
           have cc := HW2.out.box1.2.1
           have ff := HW2.out.free1.2 1))
    all_goals
     have HW3 := hide (HW2.out.set1 (.slice (some ⟨g, 0, none⟩) (acc.length + 1) cap))
     have HR3 := hide (((hR1.alloc (.cells #[.int .i64 x, .int .i64 y, .bool z] 229)).grown hg (fun k hk => by have := row_from HOW.out k hk; omega)).other (p := ⟨W.heap.size + 1, 1, none⟩) hne1 (.slice (some ⟨g, 0, none⟩) (acc.length + 1) cap))
     have CT := hide (take_is K.trims HR3.out 93 93 rfl false rfl [] rfl)
     clear ho hg hloc cc ff HW2 hR1 cw1 c0 c1 c2 d0 d1 d2 hB
     go_wp2_with fail
     refine CT.out.mono ?_
     rintro e w4 ⟨rfl, hB4, hR4⟩
     have HB4 := hide hB4
     have HR4 := hide hR4
     clear hB4 hR4 CT
     go_wp2_with fail
     refine ⟨.inr ⟨v, _, hv, rfl, HR.out, HR4.out, HW3.out.step HB4.out⟩, ?_⟩
     rw [HM.out, HR4.out.mes, if_neg hv]
     simp
   | ok pk =>
    obtain ⟨p, k⟩ := pk
    have hkl := partRes_suf hp
    have HR : Hid (R = Px.set f (acc ++ [p]) k) := by show _ = _; rw [hR, hsp, hp]
    have HF : Hid (k.length < f) := by show _ < _; omega
    have HAL : Hid (acc.length + 1 + k.length ≤ 1000) := by show _ ≤ _; omega
    have HKL := hide hkl
    rw [hp] at CP
    clear hR hf h93 hal hsp hp hw hrel hkl
    go_wp2_with fail
    go_region_law (first
        | (go_simp
           go_at_call 166
           refine CP.out.mono ?_
           rintro e w1 ⟨hB, k', hk1, hk2, rfl, hR1⟩
           have hl1 : W.heap.size + 1 < w1.heap.size := way_lt (HWY.out.drew.step hB)
           have hn1 : W.heap.size + 1 ≠ w1.heap.size := by omega
           have cw1 := (HWY.out.drew.step hB).box1.2.1)
        | (refine step_part rfl (.tmp 11) (.tmp 14) rfl (W.heap.size + 2) (.slice po acc.length pc) acc.length (Pa.cells acc) (by simp [Act.eval]) ((row_but (row_but HOW.out (But.of (b := b) (Below.drew (brefl _))) hb2) hB hb2).alloc _) w1.heap.size 1 (by simp [Act.eval]) _ _ _ (box3_new w1 _ _ _ 229) ⟨rfl, rfl, rfl⟩ (by omega) (by have := (HWY.out.drew.step hB).big; rw [size_alloc]; omega) _ rfl ?_
           intro g cap w2 ho hg hloc
           have HW1 := hide ((HWY.out.drew.step hB).alloc (.cells #[.int .i64 p.1, .int .i64 p.2.1, .bool p.2.2] 229))
           have HW2 := hide (HW1.out.grown hg (row_from HOW.out))
           have cc := HW2.out.box1.2.1
           have ff := HW2.out.free1.2 1))
    all_goals
     have HW3 := hide (SetWay.more HW1.out (row_from HOW.out) ho hg)
     have HR3 := hide (((hR1.alloc (.cells #[.int .i64 p.1, .int .i64 p.2.1, .bool p.2.2] 229)).grown hg (fun k hk => by have := row_from HOW.out k hk; omega)).other (p := ⟨W.heap.size + 1, 1, none⟩) hne1 (.slice (some ⟨g, 0, none⟩) (acc.length + 1) cap))
     have HK1 := hide hk1
     have HK2 := hide hk2
     clear ho hg hloc cc ff HW2 HW1 hR1 cw1 c0 c1 c2 d0 d1 d2 hB hk1 hk2
     cases h93 : Px.isAt k' 93 with
     | false =>
      have CT := hide (take_is K.trims HR3.out 93 93 rfl false h93 (Px.skip k') (by simp))
      have H93 : Hid (Px.isAt (Px.skip k') 93 = false) := by show _ = _; rw [Px.skip_skip_isAt]; exact h93
      clear h93
      go_wp2_with fail
      refine CT.out.mono ?_
      rintro e w4 ⟨rfl, hB4, hR4⟩
      have HB4 := hide hB4
      have HR4 := hide hR4
      clear hB4 hR4 CT
      go_wp2_with fail
      have hsl := (Px.skip_suf k').length_le
      have hk2 := HK2.out
      have hkl := HKL.out
      have hal := HAL.out
      have hff := HF.out
      refine ⟨.inl ⟨f, Px.skip k', acc ++ [p], some ⟨g, 0, none⟩, cap, ?_, by omega, .inr H93.out, by simp only [List.length_append, List.length_cons, List.length_nil]; omega, HR4.out, ?_⟩, ?_⟩
      ·
       rw [HR.out, ← set_cong HK1.out, set_cong (Px.skip_idem k')]
      ·
       have hs := HW3.out
       have := hs.way.step HB4.out
       rw [List.length_append]
       exact ⟨this, row_but (by simpa using hs.row) HB4.out hb2⟩
      rw [HM.out, HR4.out.mes, if_pos rfl]
      omega
     | true =>
      have CT := hide (take_is K.trims HR3.out 93 93 rfl true h93 (Px.next k') (by simp))
      have HR2 : Hid (R = .ok (acc ++ [p], Px.next k)) := by
       show _ = _
       obtain ⟨f, rfl⟩ : ∃ g, f = g + 1 := ⟨f - 1, by have := HF.out; omega⟩
       rw [HR.out, Px.set, if_pos ⟨by simp, by rw [← isAt_cong HK1.out]; exact h93⟩]
      have HNX := hide (next_cong HK1.out)
      clear h93
      go_wp2_with fail
      refine CT.out.mono ?_
      rintro e w4 ⟨rfl, hB4, hR4⟩
      have HW4 := hide (HW3.out.way.step hB4)
      have HO4 := hide (row_but HW3.out.row hB4 hb2)
      have HR4 := hide hR4
      obtain ⟨d0, d1, d2⟩ := HW4.out.box1
      obtain ⟨e0, e1, e2⟩ := HW4.out.box0
      have fr := HW4.out.free0.2
      have f0 := fr 0
      have f1 := fr 1
      have f2 := fr 2
      clear hB4 hR4 CT fr
      go_wp2_with fail
      have hal := HAL.out
      change bodyPost Tryz.prog Tryz.f159 (NodePost b W d (setR R)) Exit.ret _ (put3 w4 W.heap.size (.int .i64 2) (.slice (some ⟨g, 0, none⟩) (acc.length + 1) cap) (.slice none 0 0))
      refine bodyPost_ret (v := .agg #[.int .i64 2, .slice (some ⟨g, 0, none⟩) (acc.length + 1) cap, .slice none 0 0]) (res_n Tryz.results159 _ _ W.heap.size rfl (put3_box HW4.out.box0 _ _ _)) rfl ?_
      have hown := set_own (W := W) (acc := acc ++ [p]) (po := some ⟨g, 0, none⟩) (pc := cap) (w' := put3 w4 W.heap.size (.int .i64 2) (.slice (some ⟨g, 0, none⟩) (acc.length + 1) cap) (.slice none 0 0)) ⟨by simpa using HW4.out, by simpa using HO4.out⟩ (by simp only [List.length_append, List.length_cons, List.length_nil]; omega) (by rw [put3_size]; omega) (fun k hk _ => put3_other _ _ _ _ _ k (by omega))
      refine nodePost_ok (n := .num false true (acc ++ [p])) (k := Px.next k) (k' := Px.next k') (by rw [HR2.out]; rfl) (put3_but HW4.out.but (.inr (Nat.le_refl _)) _ _ _) (by rw [HNX.out]) (by rw [HNX.out]; exact Nat.le_refl _) (put3_rd HR4.out HW4.out.ne0 _ _ _) ?_
      simpa using hown
  have hv' : (v == 0) = false := by simpa using hv
  have HR := hide hR
  have HRd := hide hrd
  have HWY := hide hw
  obtain ⟨c0, c1, c2, _⟩ := hrd
  obtain ⟨d0, d1, d2⟩ := hw.box1
  obtain ⟨e0, e1, e2⟩ := hw.box0
  have fr := hw.free0.2
  have f0 := fr 0
  have f1 := fr 1
  have f2 := fr 2
  have s1 := fun w a m => run_store Tryz.prog w a vP m hvP
  clear hR hw fr hrel
  go_wp2_with fail
  change bodyPost Tryz.prog Tryz.f159 (NodePost b W d (setR R)) Exit.ret _ (put3 wr W.heap.size (.int .i64 2) vP (.slice none 0 0))
  refine bodyPost_ret (v := .agg #[.int .i64 2, vP, .slice none 0 0]) (res_n Tryz.results159 _ _ W.heap.size rfl (put3_box HWY.out.box0 _ _ _)) rfl ?_
  exact nodePost_err (by rw [HR.out]; rfl) (put3_but HWY.out.but (.inr (Nat.le_refl _)) _ _ _) (put3_rd HRd.out HWY.out.ne0 _ _ _) ⟨rfl, hvP, rfl⟩
end Go.Proofs.YtnadhplhnfpeaaaGreatDoor.Ar
