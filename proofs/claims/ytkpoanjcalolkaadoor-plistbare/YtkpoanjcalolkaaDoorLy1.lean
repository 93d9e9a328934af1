import Derived.Test.YtkpoanjcalolkaaDoorGr1
import Derived.Test.YtkpoanjcalolkaaDoorK1
import Derived.Test.YtkpoanjcalolkaaDoorSb1
import Derived.Deep.WholeRow
import Derived.Test.YtkpoanjcalolkaaDoorLw
import Derived.Lib.AppendIntMem
import Derived.Deep.RegionHeldLaw
import Derived.Shelf.SlicesQ.Load
/- The contract of plist's lay: the grid of one list or of two. -/
namespace Go.Proofs.YtkpoanjcalolkaaDoor
open Go.RowKit

/-- The grid's 66 cells, with the columns C so far. -/
def GridAt (W : World) (Bg : Nat) (C : List Int) : Prop := C.length ≤ 65 ∧ (∀ j, j < 65 → W.cell? ⟨Bg, j, none⟩ = some (.int .u32 (C.getD j 0))) ∧ W.cell? ⟨Bg, 65, none⟩ = some (.int .i64 C.length) ∧ (∀ j, W.frozen? ⟨Bg, j, none⟩ = false)

/-- The two columns of a rule. -/
def Ad.colR (r : Ad.R) : List Int := [r.1, (Ad.last r.1 r.2.1 + 1) % 4294967296]
def Ad.cols (l : List Ad.R) : List Int := l.flatMap Ad.colR

theorem Ad.cols_length (l : List Ad.R) : (Ad.cols l).length = 2 * l.length := by
  induction l with
  | nil => rfl
  | cons r l ih => simp only [Ad.cols, List.flatMap_cons, List.length_append, List.length_cons] at *; simp only [Ad.colR, List.length_cons, List.length_nil]; omega

theorem Ad.cols_take (l : List Ad.R) (i : Nat) (h : i < l.length) : Ad.cols (l.take (i + 1)) = Ad.cols (l.take i) ++ Ad.colR l[i] := by
  rw [List.take_succ_eq_append_getElem h]
  simp only [Ad.cols, List.flatMap_append, List.flatMap_cons, List.flatMap_nil, List.append_nil]

theorem grid_fin {W : World} {Bg : Nat} {C : List Int} (x y : Int) (hl : C.length + 2 ≤ 65) (h1 : ∀ j, j < 65 → W.cell? ⟨Bg, j, none⟩ = some (.int .u32 (if j = C.length then x else C.getD j 0))) (h2 : W.cell? ⟨Bg, 65, none⟩ = some (.int .i64 C.length)) (h3 : ∀ j, W.frozen? ⟨Bg, j, none⟩ = false) :
    GridAt ((W.setCell ⟨Bg, C.length + 1, none⟩ (.int .u32 y)).setCell ⟨Bg, 65, none⟩ (.int .i64 ((C.length : Int) + 2))) Bg (C ++ [x, y]) := by
  refine ⟨by simp; omega, fun j hj => ?_, ?_, fun j => by simpa using h3 j⟩
  · rw [World.cell?_setCell_other _ _ _ _ (by simp <;> omega)]
    by_cases e2 : j = C.length + 1
    · subst e2
      rw [World.cell?_setCell_same _ _ _ (h1 _ (by omega))]
      simp
    · rw [World.cell?_setCell_other _ _ _ _ (by simp <;> omega), h1 j hj]
      by_cases e1 : j = C.length
      · subst e1
        simp
      · rw [if_neg e1]
        by_cases hlt : j < C.length
        · simp only [List.getD_eq_getElem?_getD, List.getElem?_append, hlt, if_true]
        · simp only [List.getD_eq_getElem?_getD]
          rw [List.getElem?_eq_none (by omega), List.getElem?_eq_none (by simp; omega)]
  · rw [World.cell?_setCell_same _ _ _ (show _ = some (.int .i64 (C.length : Int)) by rw [World.cell?_setCell_other _ _ _ _ (by simp <;> omega)]; exact h2)]
    simp

theorem grid_below {W W' : World} {Bg : Nat} {C : List Int} (h : GridAt W Bg C) (hb : Below W.heap.size W W') : GridAt W' Bg C := by
  obtain ⟨h0, h1, h2, h3⟩ := h
  have hlt : Bg < W.heap.size := block_lt_of_cell h2
  exact ⟨h0, fun j hj => (hb.cell (p := ⟨Bg, j, none⟩) hlt).trans (h1 j hj), (hb.cell (p := ⟨Bg, 65, none⟩) hlt).trans h2, fun j => (hb.frozen (p := ⟨Bg, j, none⟩) hlt).trans (h3 j)⟩

/-- The lists that were handed in: where each lies. -/
abbrev Ad.L3 : Type := Option Addr × Nat × List Ad.R
def Ad.colsOf (ls : List Ad.L3) : List Int := ls.flatMap fun x => Ad.cols x.2.2

theorem zc62 : Tryd.zeroCells62 = (List.replicate 65 (Value.int .u32 0) ++ [Value.int .i64 0]).toArray := rfl
theorem zc62_size : Tryd.zeroCells62.size = 66 := rfl

theorem grid_new (w : World) : GridAt (w.alloc (.cells (Tryd.zeroCells62.setIfInBounds 65 (.int .i64 1)) 62)) w.heap.size [0] := by
  have hc : ∀ j, (w.alloc (.cells (Tryd.zeroCells62.setIfInBounds 65 (.int .i64 1)) 62)).cell? ⟨w.heap.size, j, none⟩ = (Tryd.zeroCells62.setIfInBounds 65 (.int .i64 1))[j]? := fun j => cell_of_row _ _ j _ 62 (0, 0) (heap_alloc_last w _)
  refine ⟨by decide, fun j hj => ?_, ?_, fun j => by simp⟩
  · rw [hc, Array.getElem?_setIfInBounds_ne (by omega), zc62]
    rw [List.getElem?_toArray, List.getElem?_append_left (by simpa using hj), List.getElem?_replicate, if_pos hj]
    cases j with
    | zero => rfl
    | succ j => simp
  · rw [hc]
    rfl

theorem info62 : (Tryd.prog.info? 62).map (·.size) = some 66 := by kernel_rfl

theorem store62 (w : World) : Sem.run Tryd.prog (storeCells ⟨w.heap.size, 0, none⟩ (Tryd.zeroCells62.toList.set 65 (.int .i64 1))) (w.alloc (.cells Tryd.zeroCells62 62)) = .ok () (w.alloc (.cells (Tryd.zeroCells62.setIfInBounds 65 (.int .i64 1)) 62)) := by
  have := run_storeCells_new (P := Tryd.prog) w 62 Tryd.zeroCells62 (Tryd.zeroCells62.setIfInBounds 65 (.int .i64 1)) (by rw [info62]; rfl) (by simp) (by kernel_rfl)
  rw [Array.toList_setIfInBounds] at this
  exact this

/-- What lay has laid: its own blocks, behind the one for its result. -/
def LB (w X : World) : Prop := Below (w.heap.size + 1) (w.alloc (.cells Tryd.zeroCells62 62)) X
theorem lb_lo {w X : World} (h : LB w X) : Below w.heap.size w X := (balloc (brefl w) _).trans (Below.mono h (by omega))
theorem lb_set {w X : World} (h : LB w X) {p : Addr} (hp : w.heap.size + 1 ≤ p.block) (u : Value) : LB w (X.setCell p u) := Below.setCell h hp u
theorem lb_size {w X : World} (h : LB w X) : w.heap.size + 1 ≤ X.heap.size := by have := Below.size h; simpa using this
theorem lb_alloc {w X : World} (h : LB w X) (o : Obj) : LB w (X.alloc o) := Below.alloc h (lb_size h) o
theorem lb_then {w X Y : World} (h : LB w X) (hb : Below X.heap.size X Y) : LB w Y := Below.trans h (hb.mono (lb_size h))
theorem lb_new (w : World) (o : Obj) : LB w ((w.alloc (.cells Tryd.zeroCells62 62)).alloc o) := lb_alloc (Below.refl _ _) o
theorem lb_row {w X : World} (h : LB w X) : X.heap[w.heap.size]? = some (.cells Tryd.zeroCells62 62 (0, 0)) := (Below.block h w.heap.size (by omega)).trans (heap_alloc_last w _)

/-- What lay hands back: the columns in order, then zeros, and how many there are. -/
def gridV (S C : List Int) : List Value := (S.map (Value.int .u32) ++ List.replicate (65 - S.length) (Value.int .u32 0)) ++ [.int .i64 C.length]
theorem gridV_len (S C : List Int) (h : S.length = C.length) (hC : C.length ≤ 65) : (gridV S C).length = 66 := by
  unfold gridV
  simp
  omega
theorem gridV_cell {wr : World} {Bg nn : Nat} {d' : Array Int} {C : List Int} (hs : d'.toList.length = C.length) (h : GridAt wr Bg C) {j : Nat} {v : Value} (hv : (gridV d'.toList C)[j]? = some v) :
    (Sort.putRow (Value.int .u32) (Sort.ahead wr nn) Bg 0 d').cell? ⟨Bg, j, none⟩ = some v := by
  have hsz : d'.size = C.length := by simpa using hs
  have hH : Sort.Holds (Value.int .u32) (Sort.ahead wr nn) Bg 0 C.toArray := by
    intro j hj
    have hj' : j < C.length := by simpa using hj
    have := h.1
    rw [Nat.zero_add]
    refine ⟨(h.2.1 j (by omega)).trans ?_, h.2.2.2 j⟩
    simp [hj']
  have hC := h.1
  by_cases hj : j < C.length
  · have e := Sort.cell?_putRow (Value.int .u32) (Sort.ahead wr nn) Bg 0 C.toArray d' hH (by simpa using hsz) j (by omega)
    rw [Nat.zero_add] at e
    rw [e]
    have : (gridV d'.toList C)[j]? = some (.int .u32 d'[j]!) := by
      unfold gridV
      rw [List.getElem?_append_left (by simp; omega), List.getElem?_append_left (by simp; omega)]
      simp [show j < d'.size by omega]
    rw [← hv, this]
  · rw [Sort.cell?_putRow_other _ _ _ _ _ _ (.inr (.inr (by simp; omega)))]
    show wr.cell? ⟨Bg, j, none⟩ = some v
    by_cases hj5 : j < 65
    · rw [h.2.1 j hj5, ← hv]
      unfold gridV
      rw [List.getElem?_append_left (by simp; omega), List.getElem?_append_right (by simp; omega), List.getElem?_replicate, if_pos (by simp; omega)]
      simp only [List.getD_eq_getElem?_getD]
      rw [List.getElem?_eq_none (by omega)]
      rfl
    · have hl := (List.getElem?_eq_some_iff.1 hv).1
      rw [gridV_len _ _ hs hC] at hl
      have hj65 : j = 65 := by omega
      subst hj65
      rw [h.2.2.1, ← hv]
      unfold gridV
      rw [List.getElem?_append_right (by simp; omega)]
      have e : 65 - (List.map (Value.int .u32) d'.toList ++ List.replicate (65 - d'.toList.length) (Value.int .u32 0)).length = 0 := by simp; omega
      rw [e]
      rfl
theorem lb_grow {w X : World} (h : LB w X) (os : Array Obj) : LB w (Sort.grow X os) := lb_then h (show Below X.heap.size X (Sort.grow (X.drewN 0) os) from Lib.below_grow _ X (Nat.le_refl _) 0 os)
theorem lb_putRow {w X : World} (h : LB w X) (nn off : Nat) (d : Array Int) : LB w (Sort.putRow (Value.int .u32) (Sort.ahead X nn) (w.heap.size + 1) off d) := by
  refine ⟨h.os, h.tape, h.output, by have := lb_size h; simpa using this, fun k hk => ?_⟩
  rw [← Below.block h k hk]
  show ((Sort.ahead X nn).heap.modify (w.heap.size + 1) _)[k]? = _
  rw [Array.getElem?_modify, if_neg (by omega)]
  rfl

set_option maxHeartbeats 4000000 in
set_option maxRecDepth 100000 in
theorem lay_any (Bl : Nat) (ls : List Ad.L3) (w : World) (hls : ∀ j (h : j < ls.length), w.cell? ⟨Bl, j, none⟩ = some (.slice ls[j].1 ls[j].2.2.length ls[j].2.1)) (hR : ∀ x ∈ ls, Ad.slotR w x.1 x.2.2) (hf : ∀ x ∈ ls, Ad.fitsR x.2.2) (hl2 : ls.length ≤ 2) (h16 : ∀ x ∈ ls, x.2.2.length ≤ 16) :
    Calls Tryd.prog 39 #[.slice (some ⟨Bl, 0, none⟩) ls.length ls.length] w fun e w' => ∃ S : List Int, S.Perm (0 :: Ad.colsOf ls) ∧ S.Pairwise (· ≤ ·) ∧ e = .returned (.agg (gridV S (0 :: Ad.colsOf ls)).toArray) ∧ Below w.heap.size w w' := by
  have HLS := hide hls
  have HR := hide hR
  have HF := hide hf
  have H16 := hide h16
  clear hls hR hf h16
  have hst := store62 (w.alloc (.cells Tryd.zeroCells62 62))
  rw [show (w.alloc (.cells Tryd.zeroCells62 62)).heap.size = w.heap.size + 1 by simp] at hst
  have HG0 := grid_new (w.alloc (.cells Tryd.zeroCells62 62))
  rw [show (w.alloc (.cells Tryd.zeroCells62 62)).heap.size = w.heap.size + 1 by simp] at HG0
  have G0 := hide HG0
  have B0 := hide (lb_new w (.cells (Tryd.zeroCells62.setIfInBounds 65 (.int .i64 1)) 62))
  clear HG0
  go_enter Tryd.func39, Tryd.ntmps39
  go_wp2_with fail
  generalize (w.alloc (.cells Tryd.zeroCells62 62)).alloc (.cells (Tryd.zeroCells62.setIfInBounds 65 (.int .i64 1)) 62) = W1 at hst G0 B0 ⊢
  clear hst
  go_loopw [11] (fun v wr => ∃ k : Nat, v = .int .i64 k ∧ k ≤ ls.length ∧ GridAt wr (w.heap.size + 1) (0 :: Ad.colsOf (ls.take k)) ∧ LB w wr) (fun v _ => ls.length - (intOf v).toNat)
  case atStart => exact ⟨0, rfl, Nat.zero_le _, G0.out, B0.out⟩
  case round =>
    obtain ⟨k, rfl, hk, hg, hbr⟩ := hrel
    have HGk := hide hg
    have HB := hide hbr
    clear hg hbr G0 B0
    by_cases hlt : k < ls.length
    · have hlt' : (k : Int) < (ls.length : Int) := by omega
      have hck := HLS.out k hlt
      have hckr : wr.cell? ⟨Bl, k, none⟩ = some (.slice ls[k].1 ls[k].2.2.length ls[k].2.1) := ((lb_lo HB.out).cell (p := ⟨Bl, k, none⟩) (block_lt_of_cell hck)).trans hck
      have hS := hide (HR.out ls[k] (List.getElem_mem hlt))
      have hF := hide (HF.out ls[k] (List.getElem_mem hlt))
      have h16k := H16.out ls[k] (List.getElem_mem hlt)
      have HT : Hid (Ad.colsOf (ls.take (k + 1)) = Ad.colsOf (ls.take k) ++ Ad.cols ls[k].2.2) := by
        show _ = _
        rw [List.take_succ_eq_append_getElem hlt]
        simp only [Ad.colsOf, List.flatMap_append, List.flatMap_cons, List.flatMap_nil, List.append_nil]
      have hC : (Ad.colsOf (ls.take k)).length ≤ 32 := by
        have hk2 : k = 0 ∨ k = 1 := by omega
        rcases hk2 with rfl | rfl
        · simp [Ad.colsOf]
        · have h0 := H16.out ls[0] (List.getElem_mem (by omega))
          have e : ls.take 1 = [ls[0]] := by rw [List.take_succ_eq_append_getElem (by omega)]; simp
          rw [e]
          simp only [Ad.colsOf, List.flatMap_cons, List.flatMap_nil, List.append_nil, Ad.cols_length]
          omega
      clear hck
      generalize ls[k] = x at *
      obtain ⟨ao, cap, l⟩ := x
      simp only at hckr h16k
      generalize Ad.colsOf (ls.take k) = C0 at *
      go_wp2_with fail
      go_loopw [17] (fun v wr => ∃ i : Nat, v = .int .i64 i ∧ i ≤ l.length ∧ GridAt wr (w.heap.size + 1) (0 :: (C0 ++ Ad.cols (l.take i))) ∧ LB w wr) (fun v _ => l.length - (intOf v).toNat)
      case atStart => exact ⟨0, rfl, Nat.zero_le _, by simpa [Ad.cols] using HGk.out, HB.out⟩
      case round =>
        obtain ⟨i, rfl, hi, hg, hbr⟩ := hrel
        have HB2 := hide hbr
        have HG2 := hide hg
        clear hg hbr HGk HB hckr
        by_cases hil : i < l.length
        · have hil' : (i : Int) < (l.length : Int) := by omega
          have hco : Hid (Ad.cols (l.take (i + 1)) = Ad.cols (l.take i) ++ Ad.colR l[i]) := Ad.cols_take l i hil
          have hCn : (0 :: (C0 ++ Ad.cols (l.take i))).length + 2 ≤ 65 := by
            simp only [List.length_cons, List.length_append, Ad.cols_length, List.length_take]
            omega
          obtain ⟨b, off, rfl, hrd⟩ := Ad.slotR_at hS.out hil
          obtain ⟨e0, e1, e2, e3, e4⟩ := Ad.readsR_at (Ad.readsR_below hrd (lb_lo HB2.out)) i hil
          have hx := hide (hF.out l[i] (List.getElem_mem hil))
          clear hrd
          generalize l[i] = y at *
          obtain ⟨a, bb, g, t, p⟩ := y
          have hx0 : 0 ≤ a := hx.out.1
          have hx1 : a ≤ 4294967295 := hx.out.2
          have HCE : Hid (∀ W, GridAt W (w.heap.size + 1) ((0 :: (C0 ++ Ad.cols (l.take i))) ++ [a, (Ad.last a bb + 1) % 4294967296]) → GridAt W (w.heap.size + 1) (0 :: (C0 ++ Ad.cols (l.take (i + 1))))) := by
            show ∀ W, _
            intro W hW
            rw [hco.out]
            simpa [Ad.colR] using hW
          generalize (0 :: (C0 ++ Ad.cols (l.take i))) = C at *
          obtain ⟨F, hF0⟩ : ∃ F : Nat → Int, ∀ j, F j = C.getD j 0 := ⟨fun j => C.getD j 0, fun _ => rfl⟩
          have gcol : ∀ j, j < 65 → wr.cell? ⟨w.heap.size + 1, j, none⟩ = some (.int .u32 (F j)) := fun j hj => by rw [hF0]; exact HG2.out.2.1 j hj
          have gn : wr.cell? ⟨w.heap.size + 1, 65, none⟩ = some (.int .i64 (C.length : Int)) := HG2.out.2.2.1
          have gfz : ∀ j, wr.frozen? ⟨w.heap.size + 1, j, none⟩ = false := HG2.out.2.2.2
          have glt : w.heap.size + 1 < wr.heap.size := block_lt_of_cell gn
          have gne : w.heap.size + 1 ≠ wr.heap.size := by omega
          obtain ⟨n, hn⟩ : ∃ n, n = C.length := ⟨_, rfl⟩
          rw [← hn] at gn hCn
          have HN := hide hn
          have HF0 := hide hF0
          have hn63 : n + 1 < 65 := by omega
          have gcn : wr.cell? ⟨w.heap.size + 1, n, none⟩ = some (.int .u32 (F n)) := gcol n (by omega)
          have gfn : wr.frozen? ⟨w.heap.size + 1, n, none⟩ = false := gfz n
          have hn65 : (n : Int) < 65 := by omega
          have hn64 : (n : Int) + 1 < 65 := by omega
          have hn0 : (0 : Int) ≤ (n : Int) + 1 := by omega
          have hn66 : (n : Int) < 64 := by omega
          have hn67 : n < 64 := by omega
          have hn68 : IntKind.i64.wrap ((n : Int) + 1) = (n : Int) + 1 := IntWalk.i64_in _ (by omega)
          have hn69 : ((n : Int) + 1).toNat = n + 1 := by omega
          clear hn hF0 hCn
          go_wp2_with fail
          clear gcn gfn
          obtain ⟨Bg, hBg⟩ : ∃ Bg, Bg = w.heap.size + 1 := ⟨_, rfl⟩
          obtain ⟨R, hR0⟩ : ∃ R, R = wr.heap.size := ⟨_, rfl⟩
          rw [← hBg] at gcol gn gfz glt gne HCE ⊢
          obtain ⟨W2, hW2⟩ : ∃ W2, W2 = (wr.setCell ⟨Bg, n, none⟩ (.int .u32 a)).alloc (.cells #[.int .u32 a, .int .i64 bb, .int .i64 g, .int .i64 t, .bool p] 32) := ⟨_, rfl⟩
          have sz2 : W2.heap.size = R + 1 := by rw [hW2, hR0]; simp
          have szs : wr.heap.size = (wr.setCell ⟨Bg, n, none⟩ (.int .u32 a)).heap.size := by simp
          have q0 : W2.cell? ⟨R, 0, none⟩ = some (.int .u32 a) := by rw [hW2, hR0, szs, cell_of_row _ _ 0 _ 32 (0, 0) (heap_alloc_last _ _)]; rfl
          have q1 : W2.cell? ⟨R, 1, none⟩ = some (.int .i64 bb) := by rw [hW2, hR0, szs, cell_of_row _ _ 1 _ 32 (0, 0) (heap_alloc_last _ _)]; rfl
          have hgR : Bg < R := by rw [hR0]; exact glt
          have old : ∀ j, W2.cell? ⟨Bg, j, none⟩ = (wr.setCell ⟨Bg, n, none⟩ (.int .u32 a)).cell? ⟨Bg, j, none⟩ := fun j => by rw [hW2]; exact World.cell?_alloc_past _ _ _ (by simp; omega)
          have qn : W2.cell? ⟨Bg, 65, none⟩ = some (.int .i64 (n : Int)) := by rw [old, World.cell?_setCell_other _ _ _ _ (by simp <;> omega)]; exact gn
          have qc : ∀ j, j < 65 → W2.cell? ⟨Bg, j, none⟩ = some (.int .u32 (if j = n then a else F j)) := fun j hj => by
            rw [old]
            by_cases e : j = n
            · subst e; rw [World.cell?_setCell_same _ _ _ (gcol j hj), if_pos rfl]
            · rw [World.cell?_setCell_other _ _ _ _ (by simp <;> omega), if_neg e]; exact gcol j hj
          have qf : ∀ j, W2.frozen? ⟨Bg, j, none⟩ = false := fun j => by
            rw [hW2, World.frozen?_of_block (Below.heap_alloc _ _ Bg (by simp; omega))]
            simpa using gfz j
          have BW2 : Hid (LB w W2) := by
            have := lb_alloc (lb_set HB2.out (p := ⟨Bg, n, none⟩) (by simp; omega) (.int .u32 a)) (.cells #[.int .u32 a, .int .i64 bb, .int .i64 g, .int .i64 t, .bool p] 32)
            rw [hW2]
            exact this
          rw [← hW2, ← hR0]
          have HBg := hide hBg
          have QC := hide qc
          have QF := hide qf
          have QN := hide qn
          clear hW2 hR0 szs gcol gn gfz glt gne old qc qf hBg e0 e1 e2 e3 e4
          go_region_held_law (fun w' => w'.cell? ⟨Bg, 65, none⟩ = some (.int .i64 (n : Int)) ∧ w'.cell? ⟨R, 0, none⟩ = some (.int .u32 a) ∧ w'.cell? ⟨R, 1, none⟩ = some (.int .i64 bb))
            (first
              | exact ⟨qn, q0, q1⟩
              | exact ⟨t0, t1, t2⟩
              | exact ⟨(World.cell?_setCell_other _ _ _ _ (by simp <;> omega)).trans t0, (World.cell?_setCell_other _ _ _ _ (by simp <;> omega)).trans t1, (World.cell?_setCell_other _ _ _ _ (by simp <;> omega)).trans t2⟩)
            (first
              | (go_at_call 52
                 refine (last_is a bb _ rfl _ hx0 hx1).mono ?_
                 rintro e w3 ⟨rfl, hb3⟩
                 have t0 : w3.cell? ⟨Bg, 65, none⟩ = some (.int .i64 (n : Int)) := (hb3.cell (p := ⟨Bg, 65, none⟩) (show Bg < W2.heap.size by omega)).trans qn
                 have t1 : w3.cell? ⟨R, 0, none⟩ = some (.int .u32 a) := (hb3.cell (p := ⟨R, 0, none⟩) (show R < W2.heap.size by omega)).trans q0
                 have t2 : w3.cell? ⟨R, 1, none⟩ = some (.int .i64 bb) := (hb3.cell (p := ⟨R, 1, none⟩) (show R < W2.heap.size by omega)).trans q1
                 have t3 : w3.cell? ⟨Bg, n + 1, none⟩ = some (.int .u32 (if n + 1 = n then a else F (n + 1))) := (hb3.cell (p := ⟨Bg, n + 1, none⟩) (show Bg < W2.heap.size by omega)).trans (QC.out (n + 1) (by omega))
                 have t4 : w3.frozen? ⟨Bg, n + 1, none⟩ = false := (hb3.frozen (p := ⟨Bg, n + 1, none⟩) (show Bg < W2.heap.size by omega)).trans (QF.out _)))
          have hY : IntKind.u32.wrap (Ad.last a bb + 1) = (Ad.last a bb + 1) % 4294967296 := by rw [IntKind.wrap_u32']
          rw [hY]
          have GF : Hid (GridAt ((w3.setCell ⟨Bg, n + 1, none⟩ (.int .u32 ((Ad.last a bb + 1) % 4294967296))).setCell ⟨Bg, 65, none⟩ (.int .i64 ((n : Int) + 2))) Bg (C ++ [a, (Ad.last a bb + 1) % 4294967296])) := by
            have hn := HN.out
            have := grid_fin (W := w3) (Bg := Bg) (C := C) a ((Ad.last a bb + 1) % 4294967296) (by omega) (fun j hj => by
              have h1 := (hb3.cell (p := ⟨Bg, j, none⟩) (show Bg < W2.heap.size by omega)).trans (QC.out j hj)
              rw [HF0.out, hn] at h1
              exact h1) (by rw [← hn]; exact t0) (fun j => (hb3.frozen (p := ⟨Bg, j, none⟩) (show Bg < W2.heap.size by omega)).trans (QF.out j))
            rw [← hn] at this
            exact this
          have B3 : Hid (LB w w3) := lb_then (X := W2.drew) (Below.drew BW2.out) hb3
          have u0 : (w3.setCell ⟨Bg, n + 1, none⟩ (.int .u32 ((Ad.last a bb + 1) % 4294967296))).cell? ⟨Bg, 65, none⟩ = some (.int .i64 (n : Int)) := (World.cell?_setCell_other _ _ _ _ (by simp <;> omega)).trans t0
          have u1 : (w3.setCell ⟨Bg, n + 1, none⟩ (.int .u32 ((Ad.last a bb + 1) % 4294967296))).frozen? ⟨Bg, 65, none⟩ = false := by
            have := (hb3.frozen (p := ⟨Bg, 65, none⟩) (show Bg < W2.heap.size by omega)).trans (QF.out 65)
            simpa using this
          have B4 : Hid (LB w (w3.setCell ⟨Bg, n + 1, none⟩ (.int .u32 ((Ad.last a bb + 1) % 4294967296)))) := lb_set B3.out (by have := HBg.out; simp; omega) _
          generalize (w3.setCell ⟨Bg, n + 1, none⟩ (.int .u32 ((Ad.last a bb + 1) % 4294967296))) = W4 at GF u0 u1 B4 ⊢
          clear hb3 t0 t1 t2 t3 t4 B3 QC QF qn q0 q1
          have hBg' := HBg.out
          subst hBg'
          go_wp2_with fail
          exact ⟨⟨i + 1, by go_num, by omega, HCE.out _ GF.out, lb_set B4.out (by simp) _⟩, by simp [intOf] <;> omega⟩
        · have hil' : ¬ (i : Int) < (l.length : Int) := by omega
          have hiE : i = l.length := by omega
          go_wp2_with fail
          refine ⟨⟨k + 1, by go_num, by omega, ?_, HB2.out⟩, by simp [intOf] <;> omega⟩
          rw [HT.out]
          have := HG2.out
          rw [hiE, List.take_length] at this
          exact this
    · have hlt' : ¬ (k : Int) < (ls.length : Int) := by omega
      have hkE : k = ls.length := by omega
      obtain ⟨C, hC⟩ : ∃ C, C = 0 :: Ad.colsOf ls := ⟨_, rfl⟩
      have HC := hide hC
      have HG3 : Hid (GridAt wr (w.heap.size + 1) C) := by
        have := HGk.out
        rw [hkE, List.take_length, ← hC] at this
        exact this
      have gn : wr.cell? ⟨w.heap.size + 1, 65, none⟩ = some (.int .i64 (C.length : Int)) := HG3.out.2.2.1
      have glt : w.heap.size + 1 < wr.heap.size := block_lt_of_cell gn
      have hle : C.length ≤ 65 := HG3.out.1
      have hle' : (C.length : Int) ≤ 65 := by omega
      have HO : Hid (Sort.Holds (Value.int .u32) wr (w.heap.size + 1) 0 C.toArray) := by
        show ∀ j, _
        intro j hj
        have hj' : j < C.length := by simpa using hj
        rw [Nat.zero_add]
        refine ⟨(HG3.out.2.1 j (by omega)).trans ?_, HG3.out.2.2.2 j⟩
        simp [hj']
      have CS := hide (sort_u (w.heap.size + 1) 0 65 C.toArray wr HO.out glt (by simp; omega))
      rw [show C.toArray.size = C.length by simp] at CS
      clear HGk hC
      go_wp2_with fail
      refine CS.out.mono ?_
      rintro e w5 ⟨rfl, hd5⟩
      have HD5 := hide hd5
      clear hd5 CS
      have H5 := HD5.out
      obtain ⟨d', hp, hs, hsz', nn, os, hw5⟩ := H5
      obtain ⟨V, hV⟩ : ∃ V : List Value, V = gridV d'.toList C := ⟨_, rfl⟩
      have hVl : V.length = 66 := by rw [hV]; exact gridV_len d'.toList C (by simpa using hsz') hle
      have cellV : ∀ j v, V[j]? = some v → w5.cell? ⟨w.heap.size + 1, j, none⟩ = some v := by
        intro j v hv
        rw [hw5, Sort.cell?_grow _ _ _ (by simpa using glt)]
        rw [hV] at hv
        exact gridV_cell (by simpa using hsz') HG3.out hv
      have hld : Sem.run Tryd.prog (loadCellsFrom ⟨w.heap.size + 1, 0, none⟩ 0 66 #[]) w5 = .ok V.toArray w5 := run_loadCellsFrom_list _ _ _ V 66 hVl (fun j v hv => by
        rw [show (⟨w.heap.size + 1, 0, none⟩ : Addr).add j = ⟨w.heap.size + 1, j, none⟩ by unfold Addr.add; split <;> simp_all]
        exact cellV j v hv)
      have LB5 : Hid (LB w w5) := by
        rw [hw5]
        refine lb_grow (lb_putRow HB.out _ _ _) os
      have hrow := lb_row LB5.out
      have hV1 : ∀ v ∈ V, v.oneCell' = true := by
        intro v hv
        rw [hV] at hv
        unfold gridV at hv
        simp only [List.mem_append, List.mem_map, List.mem_replicate, List.mem_singleton] at hv
        rcases hv with (⟨x, _, rfl⟩ | ⟨_, rfl⟩) | rfl <;> rfl
      have hst2 : Sem.run Tryd.prog (storeCells ⟨w.heap.size, 0, none⟩ V) w5 = .ok () (w5.setRow w.heap.size V.toArray) := by
        have := run_storeCells_from (P := Tryd.prog) w.heap.size 62 V 0 Tryd.zeroCells62 w5 hrow (by rw [zc62_size, hVl]) hV1
        simpa using this
      have hlt5 : w.heap.size < w5.heap.size := by have := lb_size LB5.out; omega
      obtain ⟨W6, hW6⟩ : ∃ W6, W6 = w5.setRow w.heap.size V.toArray := ⟨_, rfl⟩
      rw [← hW6] at hst2
      have hrow6 : W6.heap[w.heap.size]? = some (.cells V.toArray 62 (0, 0)) := by
        rw [hW6]
        unfold World.setRow
        simp [Array.getElem?_modify, hrow]
      have hld2 : Sem.run Tryd.prog (loadCellsFrom ⟨w.heap.size, 0, none⟩ 0 66 #[]) W6 = .ok V.toArray W6 := run_loadCellsFrom_list _ _ _ V 66 hVl (fun j v hv => by
        rw [show (⟨w.heap.size, 0, none⟩ : Addr).add j = ⟨w.heap.size, j, none⟩ by unfold Addr.add; split <;> simp_all]
        rw [cell_of_row _ _ j _ 62 (0, 0) hrow6]
        simpa using hv)
      have B6 : Hid (Below w.heap.size w W6) := by
        have hlo := lb_lo LB5.out
        rw [hW6]
        refine ⟨hlo.os, hlo.tape, hlo.output, by have := hlo.size; unfold World.setRow; simpa using this, fun k hk => ?_⟩
        rw [← hlo.block k hk]
        unfold World.setRow
        simp only [Array.getElem?_modify]
        rw [if_neg (by omega)]
      have HPS := hide (And.intro hp hs)
      have HV := hide hV
      have hla := load62 w5 _ _ hld
      have hsa := save62 w5 W6 ⟨w.heap.size, 0, none⟩ V.toArray (by simpa using hVl) hst2
      have HL2 := hide hld2
      clear hW6 hrow hrow6 hw5 HD5 hp hs cellV hV HG3 HO hld hld2 hst2 hVl hV1
      go_wp2_with (first | (refine wpList_load62 rfl (.tmp 3) rfl _ rfl _ hla ?_) | (refine wpList_store62 rfl (.tmp 2) (.tmp 48) rfl _ _ rfl rfl hsa ?_))
      refine bodyPost_ret (v := .agg V.toArray) (res39 W6 ⟨w.heap.size, 0, none⟩ V.toArray _ rfl HL2.out) rfl ⟨d'.toList, ?_, ?_, ?_, B6.out⟩
      · rw [← HC.out]
        have := HPS.out.1.2.2
        have e1 : C.toArray.size = C.length := by simp
        rw [show d'.extract 0 C.length = d' by rw [← e1, ← hsz']; simp, show C.toArray.extract 0 C.length = C.toArray by rw [← e1]; simp] at this
        simpa using this
      · rw [List.pairwise_iff_getElem]
        intro i j hi hj hij
        have hj' : j < d'.size := by simpa using hj
        have hi' : i < d'.size := by simpa using hi
        have h2 := HPS.out.2 i j (Nat.zero_le _) hij (by have : d'.size = C.length := by simpa using hsz'
                                                         omega)
        simp only [Sort.ltInt, decide_eq_false_iff_not] at h2
        rw [getElem!_pos d' j hj', getElem!_pos d' i hi'] at h2
        simp only [Array.getElem_toList]
        omega
      · rw [HV.out, HC.out]
end Go.Proofs.YtkpoanjcalolkaaDoor
