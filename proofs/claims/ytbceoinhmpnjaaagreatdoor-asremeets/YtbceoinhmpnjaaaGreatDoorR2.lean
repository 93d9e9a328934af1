import Derived.Test.YtbceoinhmpnjaaaGreatDoorR1
import Derived.Laws.Tables
import Derived.Laws.Rows
import Derived.BigRegion
/- The document's tables. -/
namespace Go.Proofs.YtbceoinhmpnjaaaGreatDoor
open Go.RowKit Go.Sort

/-- A table's cells. -/
def Tab (T : Nat → Nat → Bool) (cs : Array Value) : Prop := cs.size = 289 ∧ ∀ i k, i < 17 → k < 17 → cs[i * 17 + k]? = some (.bool (T i k))
def TabAt (w : World) (g : Nat) (T : Nat → Nat → Bool) : Prop := ∃ cs, w.heap[g]? = some (.cells cs 44) ∧ Tab T cs
def zs : Array Value := Array.replicate 289 (.bool false)
theorem zero44 (W : World) : (zeroValue 44).run Tryz.prog W = .ok (.agg zs) W := by
  have h : Tryz.prog.info? 44 = some Tryz.t44 := by kernel_rfl
  have h2 : Tryz.t44.zero = some (.agg zs) := by kernel_rfl
  simp only [zeroValue, typeInfo]
  rw [Sem.run_bind]
  simp [h, h2]
theorem tab_zs : Tab (fun _ _ => false) zs := by
  refine ⟨by simp [zs], fun i k hi hk => ?_⟩
  have : i * 17 + k < 289 := by omega
  simp [zs, this]
theorem tab_new (W : World) {T : Nat → Nat → Bool} {cs : Array Value} (h : Tab T cs) : TabAt (W.alloc (.cells cs 44)) W.heap.size T := ⟨cs, heap_alloc_new W _, h⟩
theorem tab_below {w w' : World} {g B : Nat} {T : Nat → Nat → Bool} (h : TabAt w g T) (hb : Below B w w') (hg : g < B) : TabAt w' g T := by
  obtain ⟨cs, h1, h2⟩ := h
  exact ⟨cs, (hb.block g hg).trans h1, h2⟩
theorem tab_alloc {w : World} {g : Nat} {T : Nat → Nat → Bool} (h : TabAt w g T) (o : Obj) : TabAt (w.alloc o) g T := by
  obtain ⟨cs, h1, h2⟩ := h
  exact ⟨cs, by rw [← h1]; exact heap_alloc_old w o (heap_lt h1), h2⟩
theorem tab_cell {w : World} {g : Nat} {T : Nat → Nat → Bool} (h : TabAt w g T) {i k : Nat} (hi : i < 17) (hk : k < 17) : w.cell? ⟨g, i * 17 + k, none⟩ = some (.bool (T i k)) := by
  obtain ⟨cs, h1, h2⟩ := h
  rw [cell_of_row w g _ cs 44 _ h1]
  exact h2.2 i k hi hk
theorem tab_frozen {w : World} {g : Nat} {T : Nat → Nat → Bool} (h : TabAt w g T) (o : Nat) : w.frozen? ⟨g, o, none⟩ = false := by
  obtain ⟨cs, h1, h2⟩ := h
  simp [World.frozen?, h1]
theorem tab_one {T : Nat → Nat → Bool} {cs : Array Value} (h : Tab T cs) : cs.all (·.oneCell') = true := by
  rw [Array.all_eq_true]
  intro j hj
  have h1 := h.2 (j / 17) (j % 17) (by have := h.1; omega) (Nat.mod_lt _ (by decide))
  have e : j / 17 * 17 + j % 17 = j := by omega
  rw [e, Array.getElem?_eq_getElem hj] at h1
  simp only [Option.some.injEq] at h1
  rw [h1]
  rfl
def upd (T : Nat → Nat → Bool) (i k : Nat) (b : Bool) : Nat → Nat → Bool := fun i' k' => if i' = i ∧ k' = k then b else T i' k'
theorem tab_set {w : World} {g : Nat} {T : Nat → Nat → Bool} (h : TabAt w g T) {i k : Nat} (hi : i < 17) (hk : k < 17) (b : Bool) : TabAt (w.setCell ⟨g, i * 17 + k, none⟩ (.bool b)) g (upd T i k b) := by
  obtain ⟨cs, h1, h2, h3⟩ := h
  rw [setCell_eq_setRow w g (i * 17 + k) cs 44 _ _ h1]
  refine ⟨_, setRow_heap w g cs _ 44 _ h1, by simp [h2], fun i' k' hi' hk' => ?_⟩
  unfold upd
  by_cases e : i' = i ∧ k' = k
  · obtain ⟨rfl, rfl⟩ := e
    rw [if_pos ⟨rfl, rfl⟩]
    have : i' * 17 + k' < cs.size := by omega
    simp [this]
  · rw [if_neg e]
    have hne : i * 17 + k ≠ i' * 17 + k' := by omega
    have h4 := h3 i' k' hi' hk'
    simp [hne, h4]
theorem tab_other {w : World} {g g' o : Nat} {v : Value} {T : Nat → Nat → Bool} (h : TabAt w g T) (hg : g' ≠ g) : TabAt (w.setCell ⟨g', o, none⟩ v) g T := by
  obtain ⟨cs, h1, h2⟩ := h
  refine ⟨cs, ?_, h2⟩
  rw [← h1]
  unfold World.setCell
  simp [Array.getElem?_modify, hg]
theorem tab_row {w : World} {g g' : Nat} {T : Nat → Nat → Bool} {cs : Array Value} (h : TabAt w g T) (hg : g ≠ g') : TabAt (w.setRow g' cs) g T := by
  obtain ⟨ds, h1, h2⟩ := h
  exact ⟨ds, (setRow_other w g' g cs hg).trans h1, h2⟩
theorem info44 : (Tryz.prog.info? 44).map (·.size) = some 289 := by kernel_rfl
theorem tab_load {w : World} {g : Nat} {T : Nat → Nat → Bool} (h : TabAt w g T) : ∃ cs, Tab T cs ∧ w.heap[g]? = some (.cells cs 44) ∧ (loadVar 44 ⟨g, 0, none⟩).run Tryz.prog w = .ok (.agg cs) w := by
  obtain ⟨cs, h1, h2⟩ := h
  exact ⟨cs, h2, h1, run_loadVar_row w g 44 44 cs _ _ h1 Tryz.underlying44 rfl (by rw [info44, h2.1])⟩
theorem tab_store {w : World} {g : Nat} {T U : Nat → Nat → Bool} {cs : Array Value} (h : TabAt w g T) (hc : Tab U cs) : (storeVar 44 ⟨g, 0, none⟩ (.agg cs)).run Tryz.prog w = .ok () (w.setRow g cs) ∧ (w.setRow g cs).heap[g]? = some (.cells cs 44) := by
  obtain ⟨ds, h1, h2⟩ := h
  exact ⟨run_storeVar_row w g 44 44 ds cs h1 (by rw [info44, hc.1]) (by rw [h2.1, hc.1]) (tab_one hc), setRow_heap w g ds cs 44 _ h1⟩
theorem row_bel {w W : World} {g : Nat} (h : Below w.heap.size w W) (hg : w.heap.size ≤ g) (cs : Array Value) : Below w.heap.size w (W.setRow g cs) :=
  h.trans ⟨rfl, rfl, rfl, by simp, fun k hk => setRow_other W g k cs (by omega)⟩
theorem tab_ext {cs : Array Value} {T U : Nat → Nat → Bool} (h : Tab T cs) (e : ∀ i k, i < 17 → k < 17 → T i k = U i k) : Tab U cs := ⟨h.1, fun i k hi hk => by rw [h.2 i k hi hk, e i k hi hk]⟩
theorem tabAt_ext {w : World} {g : Nat} {T U : Nat → Nat → Bool} (h : TabAt w g T) (e : ∀ i k, i < 17 → k < 17 → T i k = U i k) : TabAt w g U := by
  obtain ⟨cs, h1, h2⟩ := h
  exact ⟨cs, h1, tab_ext h2 e⟩
set_option maxHeartbeats 4000000 in
set_option maxRecDepth 100000 in
theorem refEmpty_is (W : World) :
    Calls Tryz.prog 36 #[] W fun e w' => (∃ cs, e = .returned (.agg cs) ∧ Tab (fun i k => i == k) cs) ∧ Below W.heap.size W w' := by
  have Z := zero44
  have HZ := hide tab_zs
  generalize zs = z at Z HZ
  have T0 := hide (tab_alloc (tab_new W HZ.out) (.cells z 44))
  have T1 := hide (tab_new (W.alloc (.cells z 44)) HZ.out)
  have B0 := hide (balloc (balloc (brefl W) (.cells z 44)) (.cells z 44))
  have e1 : (W.alloc (.cells z 44)).heap.size = W.heap.size + 1 := by simp
  rw [e1] at T1
  go_enter Tryz.func36, Tryz.ntmps36
  go_wp2_with fail
  generalize (W.alloc (Obj.cells z 44)).alloc (Obj.cells z 44) = W1 at *
  go_loopw [2] (fun v2 wr => ∃ i : Nat, v2 = .int .i64 i ∧ i ≤ 17 ∧ Hid (TabAt wr W.heap.size fun _ _ => false) ∧ Hid (TabAt wr (W.heap.size + 1) fun a b => decide (a = b ∧ a < i)) ∧ Below W.heap.size W wr) (fun v2 _ => 17 - (intOf v2).toNat)
  case atStart => exact ⟨0, rfl, by decide, T0, hide (tabAt_ext T1.out (fun i k _ _ => by simp)), B0.out⟩
  case round =>
    obtain ⟨i, rfl, hi, HT0, HT1, hbr⟩ := hrel
    have BR := hide hbr
    clear hbr
    by_cases hil : i < 17
    · have hil' : (i : Int) < 17 := by omega
      have c1 := tab_cell HT1.out hil hil
      have f1 := tab_frozen HT1.out (i * 17 + i)
      go_wp2_with fail
      refine ⟨⟨i + 1, by go_num, by omega, hide (tab_other HT0.out (by omega)), hide (tabAt_ext (tab_set HT1.out hil hil true) fun a b _ _ => ?_), bset BR.out (Nat.le_succ _) _⟩, by simp [intOf] <;> omega⟩
      unfold upd
      by_cases h : a = i ∧ b = i
      · obtain ⟨rfl, rfl⟩ := h
        simp
      · rw [if_neg h, decide_eq_decide]
        omega
    · have hil' : ¬ (i : Int) < 17 := by omega
      obtain ⟨cs, hg1, hc⟩ := HT1.out
      obtain ⟨ds, hg0, hd⟩ := HT0.out
      have i1 : (Tryz.prog.info? 44).map (·.size) = some cs.size := by rw [info44, hc.1]
      have o1 : ds.size = cs.size := by rw [hc.1, hd.1]
      have G1 := hide hg1
      have G0 := hide hg0
      have I1 := hide i1
      have O1 := hide o1
      have A1 := hide (tab_one hc)
      have HG := hide (setRow_heap wr _ ds cs 44 _ hg0)
      have HC := hide hc
      clear hc hg1 hg0 hd i1 o1
      go_wp2_with (first | (refine wpList_load_row rfl 44 (.tmp 1) rfl _ rfl 44 cs _ _ G1.out Tryz.underlying44 rfl I1.out ?_) | (refine wpList_store_row rfl 44 (.tmp 0) (.tmp 11) rfl _ cs rfl rfl 44 ds G0.out I1.out O1.out A1.out ?_))
      refine bodyPost_ret (v := .agg cs) (results_cell_row Tryz.results36 _ _ _ 44 cs _ _ rfl HG.out Tryz.underlying44 rfl I1.out) rfl ⟨⟨cs, rfl, tab_ext HC.out fun a b ha hb => ?_⟩, row_bel BR.out (Nat.le_refl _) cs⟩
      by_cases h : a = b
      · subst h
        simp; omega
      · simp [h]
end Go.Proofs.YtbceoinhmpnjaaaGreatDoor

/- The document's tables: or. -/
namespace Go.Proofs.YtbceoinhmpnjaaaGreatDoor
open Go.RowKit Go.Sort

theorem tab_drew {w : World} {g : Nat} {T : Nat → Nat → Bool} (h : TabAt w g T) : TabAt w.drew g T := h
def orTo (A B : Nat → Nat → Bool) (i k : Nat) : Nat → Nat → Bool := fun a b => if a < i ∨ a = i ∧ b < k then (A a b || B a b) else A a b
theorem orTo_step (A B : Nat → Nat → Bool) (i k : Nat) (v : Bool) (hv : v = (A i k || B i k)) (a b : Nat) : upd (orTo A B i k) i k v a b = orTo A B i (k + 1) a b := by
  unfold upd orTo
  by_cases h : a = i ∧ b = k
  · obtain ⟨rfl, rfl⟩ := h
    rw [if_pos ⟨rfl, rfl⟩, if_pos (by omega), hv]
  · rw [if_neg h]
    by_cases h2 : a < i ∨ a = i ∧ b < k
    · rw [if_pos h2, if_pos (by omega)]
    · rw [if_neg h2, if_neg (by omega)]
theorem orTo_here (A B : Nat → Nat → Bool) (i k : Nat) : orTo A B i k i k = A i k := by
  unfold orTo
  rw [if_neg (by omega)]
theorem orTo_next (A B : Nat → Nat → Bool) (i k : Nat) (hk : ¬ k < 17) (a b : Nat) (hb : b < 17) : orTo A B i k a b = orTo A B (i + 1) 0 a b := by
  unfold orTo
  by_cases h2 : a < i ∨ a = i ∧ b < k
  · rw [if_pos h2, if_pos (by omega)]
  · rw [if_neg h2, if_neg (by omega)]
theorem orTo_done (A B : Nat → Nat → Bool) (i : Nat) (hi : ¬ i < 17) (a b : Nat) (ha : a < 17) : orTo A B i 0 a b = (A a b || B a b) := by
  unfold orTo
  rw [if_pos (by omega)]
theorem orTo_zero (A B : Nat → Nat → Bool) (a b : Nat) : A a b = orTo A B 0 0 a b := by
  unfold orTo
  rw [if_neg (by omega)]

set_option maxHeartbeats 4000000 in
set_option maxRecDepth 100000 in
theorem refOr_is (xa xb : Array Value) (A B : Nat → Nat → Bool) (hA : Tab A xa) (hB : Tab B xb) (W : World) :
    Calls Tryz.prog 38 #[.agg xa, .agg xb] W fun e w' => (∃ cs, e = .returned (.agg cs) ∧ Tab (fun i k => A i k || B i k) cs) ∧ Below W.heap.size W w' := by
  have Z := zero44
  have HZ := hide tab_zs
  generalize zs = z at Z HZ
  have T0 := hide (tab_alloc (tab_alloc (tab_new W hA) (.cells xb 44)) (.cells z 44))
  have T1 := hide (tab_alloc (tab_new (W.alloc (.cells xa 44)) hB) (.cells z 44))
  have T2 := hide (tab_new ((W.alloc (.cells xa 44)).alloc (.cells xb 44)) HZ.out)
  have B0 := hide (balloc (balloc (balloc (brefl W) (.cells xa 44)) (.cells xb 44)) (.cells z 44))
  have e1 : (W.alloc (.cells xa 44)).heap.size = W.heap.size + 1 := by simp
  have e2 : ((W.alloc (.cells xa 44)).alloc (.cells xb 44)).heap.size = W.heap.size + 2 := by simp
  rw [e1] at T1
  rw [e2] at T2
  clear hA hB e1 e2
  go_enter Tryz.func38, Tryz.ntmps38
  go_wp2_with fail
  generalize ((W.alloc (.cells xa 44)).alloc (.cells xb 44)).alloc (.cells z 44) = W1 at *
  generalize hg0 : W.heap.size = g at *
  have HG := hide hg0
  clear hg0
  go_loopw [5, 6] (fun v5 _ wr => ∃ i : Nat, v5 = .int .i64 i ∧ i ≤ 17 ∧ Hid (TabAt wr g (orTo A B i 0)) ∧ Hid (TabAt wr (g + 1) B) ∧ Hid (TabAt wr (g + 2) fun _ _ => false) ∧ Below g W wr) (fun v5 _ _ => 17 - (intOf v5).toNat)
  case atStart => exact ⟨0, rfl, by decide, hide (tabAt_ext T0.out fun a b _ _ => orTo_zero A B a b), T1, T2, B0.out⟩
  case round =>
    obtain ⟨i, rfl, hi, HT0, HT1, HT2, hbr⟩ := hrel
    have BR := hide hbr
    clear hbr
    by_cases hil : i < 17
    · have hil' : (i : Int) < 17 := by omega
      go_wp2_with fail
      go_loopw [6] (fun v6 wq => ∃ k : Nat, v6 = .int .i64 k ∧ k ≤ 17 ∧ Hid (TabAt wq g (orTo A B i k)) ∧ Hid (TabAt wq (g + 1) B) ∧ Hid (TabAt wq (g + 2) fun _ _ => false) ∧ Below g W wq) (fun v6 _ => 17 - (intOf v6).toNat)
      case atStart => exact ⟨0, rfl, by decide, HT0, HT1, HT2, BR.out⟩
      case round =>
        obtain ⟨k, rfl, hk, HU0, HU1, HU2, hbq⟩ := hrel
        have BQ := hide hbq
        clear hbq
        by_cases hkl : k < 17
        · have hkl' : (k : Int) < 17 := by omega
          have c0 := tab_cell HU0.out hil hkl
          rw [orTo_here] at c0
          have c1 := tab_cell HU1.out hil hkl
          have f0 := tab_frozen HU0.out (i * 17 + k)
          have N0 := hide (fun v hv => tabAt_ext (tab_set HU0.out hil hkl v) fun a b _ _ => orTo_step A B i k v hv a b)
          generalize A i k = p at c0 N0
          generalize B i k = q at c1 N0
          have NB := hide (fun v : Value => (Below.setCell BQ.out (p := ⟨g, i * 17 + k, none⟩) (Nat.le_refl g) v).drew)
          have N1 := hide (fun v : Value => tab_other (o := i * 17 + k) (v := v) HU1.out (g' := g) (by omega))
          have N2 := hide (fun v : Value => tab_other (o := i * 17 + k) (v := v) HU2.out (g' := g) (by omega))
          cases p
          · have M0 := hide (N0.out q (by simp))
            go_wp2_with fail
            go_region
            go_wp2_with fail
            exact ⟨⟨k + 1, by go_num, by omega, hide (tab_drew M0.out), hide (tab_drew (N1.out _)), hide (tab_drew (N2.out _)), NB.out _⟩, by simp [intOf] <;> omega⟩
          · have M0 := hide (N0.out true (by simp))
            go_wp2_with fail
            go_region
            go_wp2_with fail
            exact ⟨⟨k + 1, by go_num, by omega, hide (tab_drew M0.out), hide (tab_drew (N1.out _)), hide (tab_drew (N2.out _)), NB.out _⟩, by simp [intOf] <;> omega⟩
        · have hkl' : ¬ (k : Int) < 17 := by omega
          go_wp2_with fail
          exact ⟨⟨i + 1, by go_num, by omega, hide (tabAt_ext HU0.out fun a b _ hb => orTo_next A B i k hkl a b hb), HU1, HU2, BQ.out⟩, by simp [intOf] <;> omega⟩
    · have hil' : ¬ (i : Int) < 17 := by omega
      obtain ⟨cs, hg1, hc⟩ := HT0.out
      obtain ⟨ds, hg0, hd⟩ := HT2.out
      have i1 : (Tryz.prog.info? 44).map (·.size) = some cs.size := by rw [info44, hc.1]
      have o1 : ds.size = cs.size := by rw [hc.1, hd.1]
      have G1 := hide hg1
      have G0 := hide hg0
      have I1 := hide i1
      have O1 := hide o1
      have A1 := hide (tab_one hc)
      have HG2 := hide (setRow_heap wr _ ds cs 44 _ hg0)
      have HC := hide hc
      clear hc hg1 hg0 hd i1 o1
      go_wp2_with (first | (refine wpList_load_row rfl 44 (.tmp 2) rfl _ rfl 44 cs _ _ G1.out Tryz.underlying44 rfl I1.out ?_) | (refine wpList_store_row rfl 44 (.tmp 4) (.tmp 31) rfl _ cs rfl rfl 44 ds G0.out I1.out O1.out A1.out ?_))
      refine bodyPost_ret (v := .agg cs) (results_cell_row Tryz.results38 _ _ _ 44 cs _ _ rfl HG2.out Tryz.underlying44 rfl I1.out) rfl ⟨⟨cs, rfl, tab_ext HC.out fun a b ha _ => orTo_done A B i hil a b ha⟩, ?_⟩
      have hgs := HG.out
      subst hgs
      exact row_bel BR.out (by omega) cs
end Go.Proofs.YtbceoinhmpnjaaaGreatDoor

/- The document's tables: then. -/
namespace Go.Proofs.YtbceoinhmpnjaaaGreatDoor
open Go.RowKit Go.Sort

/-- Is there a place between, ahead of j, at which one thing ends and the other begins? -/
def partT (A B : Nat → Nat → Bool) (a b j : Nat) : Bool := (List.range j).any fun x => decide (a ≤ x) && (A a x && B x b)
theorem partT_succ (A B : Nat → Nat → Bool) (a b j : Nat) (h : a ≤ j) : partT A B a b (j + 1) = (partT A B a b j || (A a j && B j b)) := by
  unfold partT
  rw [List.range_succ, List.any_append]
  simp [h]
theorem partT_none (A B : Nat → Nat → Bool) (a b : Nat) : partT A B a b a = false := by
  unfold partT
  rw [List.any_eq_false]
  intro x hx
  have : x < a := by simpa using hx
  simp
  omega
def thenT (A B : Nat → Nat → Bool) (n : Nat) : Nat → Nat → Bool := fun a b => if a ≤ b ∧ b ≤ n then partT A B a b (b + 1) else false
theorem thenT_iff (A B : Nat → Nat → Bool) (n a b : Nat) : thenT A B n a b = true ↔ a ≤ b ∧ b ≤ n ∧ ∃ x, a ≤ x ∧ x ≤ b ∧ A a x = true ∧ B x b = true := by
  unfold thenT partT
  by_cases h : a ≤ b ∧ b ≤ n
  · rw [if_pos h]
    simp only [List.any_eq_true, List.mem_range, Bool.and_eq_true, decide_eq_true_eq]
    constructor
    · rintro ⟨x, h1, h2, h3, h4⟩
      exact ⟨h.1, h.2, x, h2, by omega, h3, h4⟩
    · rintro ⟨_, _, x, h1, h2, h3, h4⟩
      exact ⟨x, by omega, h1, h3, h4⟩
  · rw [if_neg h]
    constructor
    · intro h; cases h
    · rintro ⟨h1, h2, _⟩; exact absurd ⟨h1, h2⟩ h
def thenK (A B : Nat → Nat → Bool) (n i k : Nat) : Nat → Nat → Bool := fun a b => if a ≤ b ∧ b ≤ n ∧ (a < i ∨ a = i ∧ b < k) then partT A B a b (b + 1) else false
def thenJ (A B : Nat → Nat → Bool) (n i k j : Nat) : Nat → Nat → Bool := fun a b => if a = i ∧ b = k then partT A B a b j else thenK A B n i k a b
theorem thenJ_here (A B : Nat → Nat → Bool) (n i k j : Nat) : thenJ A B n i k j i k = partT A B i k j := by
  unfold thenJ
  rw [if_pos ⟨rfl, rfl⟩]
theorem thenJ_step (A B : Nat → Nat → Bool) (n i k j : Nat) (hij : i ≤ j) (v : Bool) (hv : v = (partT A B i k j || (A i j && B j k))) (a b : Nat) : upd (thenJ A B n i k j) i k v a b = thenJ A B n i k (j + 1) a b := by
  unfold upd thenJ
  by_cases h : a = i ∧ b = k
  · obtain ⟨rfl, rfl⟩ := h
    rw [if_pos ⟨rfl, rfl⟩, if_pos ⟨rfl, rfl⟩, hv, partT_succ A B a b j hij]
  · rw [if_neg h, if_neg h, if_neg h]
theorem thenJ_start (A B : Nat → Nat → Bool) (n i k a b : Nat) : thenK A B n i k a b = thenJ A B n i k i a b := by
  unfold thenJ
  by_cases h : a = i ∧ b = k
  · obtain ⟨rfl, rfl⟩ := h
    rw [if_pos ⟨rfl, rfl⟩, partT_none]
    unfold thenK
    rw [if_neg (by omega)]
  · rw [if_neg h]
theorem thenJ_end (A B : Nat → Nat → Bool) (n i k j : Nat) (hik : i ≤ k) (hk : k ≤ n) (hj : j = k + 1) (a b : Nat) : thenJ A B n i k j a b = thenK A B n i (k + 1) a b := by
  subst hj
  unfold thenJ thenK
  by_cases h : a = i ∧ b = k
  · obtain ⟨rfl, rfl⟩ := h
    rw [if_pos ⟨rfl, rfl⟩, if_pos (by omega)]
  · rw [if_neg h]
    by_cases h2 : a ≤ b ∧ b ≤ n ∧ (a < i ∨ a = i ∧ b < k)
    · rw [if_pos h2, if_pos (by omega)]
    · rw [if_neg h2, if_neg (by omega)]
theorem thenK_next (A B : Nat → Nat → Bool) (n i k : Nat) (hk : ¬ k ≤ n) (a b : Nat) : thenK A B n i k a b = thenK A B n (i + 1) (i + 1) a b := by
  unfold thenK
  by_cases h2 : a ≤ b ∧ b ≤ n ∧ (a < i ∨ a = i ∧ b < k)
  · rw [if_pos h2, if_pos (by omega)]
  · rw [if_neg h2, if_neg (by omega)]
theorem thenK_done (A B : Nat → Nat → Bool) (n i : Nat) (hi : ¬ i ≤ n) (a b : Nat) : thenK A B n i i a b = thenT A B n a b := by
  unfold thenK thenT
  by_cases h2 : a ≤ b ∧ b ≤ n
  · rw [if_pos h2, if_pos (by omega)]
  · rw [if_neg h2, if_neg (by omega)]
theorem thenK_zero (A B : Nat → Nat → Bool) (n a b : Nat) : false = thenK A B n 0 0 a b := by
  unfold thenK
  rw [if_neg (by omega)]

set_option maxHeartbeats 8000000 in
set_option maxRecDepth 100000 in
theorem refThen_is (xa xb : Array Value) (A B : Nat → Nat → Bool) (hA : Tab A xa) (hB : Tab B xb) (n : Nat) (hn : n ≤ 16) (W : World) :
    Calls Tryz.prog 37 #[.agg xa, .agg xb, .int .i64 n] W fun e w' => (∃ cs, e = .returned (.agg cs) ∧ Tab (thenT A B n) cs) ∧ Below W.heap.size W w' := by
  have Z := zero44
  have HZ := hide tab_zs
  generalize zs = z at Z HZ
  have T0 := hide (tab_alloc (tab_alloc (tab_alloc (tab_new W hA) (.cells xb 44)) (.cells z 44)) (.cells z 44))
  have T1 := hide (tab_alloc (tab_alloc (tab_new (W.alloc (.cells xa 44)) hB) (.cells z 44)) (.cells z 44))
  have T2 := hide (tab_alloc (tab_new ((W.alloc (.cells xa 44)).alloc (.cells xb 44)) HZ.out) (.cells z 44))
  have T3 := hide (tab_new (((W.alloc (.cells xa 44)).alloc (.cells xb 44)).alloc (.cells z 44)) HZ.out)
  have B0 := hide (balloc (balloc (balloc (balloc (brefl W) (.cells xa 44)) (.cells xb 44)) (.cells z 44)) (.cells z 44))
  have e1 : (W.alloc (.cells xa 44)).heap.size = W.heap.size + 1 := by simp
  have e2 : ((W.alloc (.cells xa 44)).alloc (.cells xb 44)).heap.size = W.heap.size + 2 := by simp
  have e3 : (((W.alloc (.cells xa 44)).alloc (.cells xb 44)).alloc (.cells z 44)).heap.size = W.heap.size + 3 := by simp
  rw [e1] at T1
  rw [e2] at T2
  rw [e3] at T3
  clear hA hB e1 e2 e3
  go_enter Tryz.func37, Tryz.ntmps37
  go_wp2_with fail
  generalize (((W.alloc (.cells xa 44)).alloc (.cells xb 44)).alloc (.cells z 44)).alloc (.cells z 44) = W1 at *
  generalize hg0 : W.heap.size = g at *
  have HG := hide hg0
  clear hg0
  go_loopw [8, 9, 10] (fun v8 _ _ wr => ∃ i : Nat, v8 = .int .i64 i ∧ i ≤ n + 1 ∧ Hid (TabAt wr g A) ∧ Hid (TabAt wr (g + 1) B) ∧ Hid (TabAt wr (g + 2) fun _ _ => false) ∧ Hid (TabAt wr (g + 3) (thenK A B n i i)) ∧ Below g W wr) (fun v8 _ _ _ => n + 1 - (intOf v8).toNat)
  case atStart => exact ⟨0, rfl, Nat.zero_le _, T0, T1, T2, hide (tabAt_ext T3.out fun a b _ _ => thenK_zero A B n a b), B0.out⟩
  case round =>
    obtain ⟨i, rfl, hi, HT0, HT1, HT2, HT3, hbr⟩ := hrel
    have BR := hide hbr
    clear hbr
    by_cases hil : i ≤ n
    · have hil' : (i : Int) ≤ (n : Int) := by omega
      go_wp2_with fail
      go_loopw [9, 10] (fun v9 _ wq => ∃ k : Nat, v9 = .int .i64 k ∧ i ≤ k ∧ k ≤ n + 1 ∧ Hid (TabAt wq g A) ∧ Hid (TabAt wq (g + 1) B) ∧ Hid (TabAt wq (g + 2) fun _ _ => false) ∧ Hid (TabAt wq (g + 3) (thenK A B n i k)) ∧ Below g W wq) (fun v9 _ _ => n + 1 - (intOf v9).toNat)
      case atStart => exact ⟨i, rfl, Nat.le_refl _, by omega, HT0, HT1, HT2, HT3, BR.out⟩
      case round =>
        obtain ⟨k, rfl, hik, hk, HU0, HU1, HU2, HU3, hbq⟩ := hrel
        have BQ := hide hbq
        clear hbq
        by_cases hkl : k ≤ n
        · have hkl' : (k : Int) ≤ (n : Int) := by omega
          go_wp2_with fail
          go_loopw [10] (fun v10 wp => ∃ j : Nat, v10 = .int .i64 j ∧ i ≤ j ∧ j ≤ k + 1 ∧ Hid (TabAt wp g A) ∧ Hid (TabAt wp (g + 1) B) ∧ Hid (TabAt wp (g + 2) fun _ _ => false) ∧ Hid (TabAt wp (g + 3) (thenJ A B n i k j)) ∧ Below g W wp) (fun v10 _ => k + 1 - (intOf v10).toNat)
          case atStart => exact ⟨i, rfl, Nat.le_refl _, by omega, HU0, HU1, HU2, hide (tabAt_ext HU3.out fun a b _ _ => thenJ_start A B n i k a b), BQ.out⟩
          case round =>
            obtain ⟨j, rfl, hij, hj, HV0, HV1, HV2, HV3, hbp⟩ := hrel
            have BP := hide hbp
            clear hbp
            by_cases hjl : j ≤ k
            · have hjl' : (j : Int) ≤ (k : Int) := by omega
              have i17 : i < 17 := by omega
              have j17 : j < 17 := by omega
              have k17 : k < 17 := by omega
              have i17' : (i : Int) < 17 := by omega
              have j17' : (j : Int) < 17 := by omega
              have k17' : (k : Int) < 17 := by omega
              have c3 := tab_cell HV3.out i17 k17
              rw [thenJ_here] at c3
              have c0 := tab_cell HV0.out i17 j17
              have c1 := tab_cell HV1.out j17 k17
              have f3 := tab_frozen HV3.out (i * 17 + k)
              have N3 := hide (fun v hv => tabAt_ext (tab_set HV3.out i17 k17 v) fun a b _ _ => thenJ_step A B n i k j hij v hv a b)
              generalize partT A B i k j = p at c3 N3
              generalize A i j = q at c0 N3
              generalize B j k = r at c1 N3
              have NB := hide (fun v : Value => (Below.setCell BP.out (p := ⟨g + 3, i * 17 + k, none⟩) (Nat.le_add_right g 3) v).drew)
              have N0 := hide (fun v : Value => tab_other (o := i * 17 + k) (v := v) HV0.out (g' := g + 3) (by omega))
              have N1 := hide (fun v : Value => tab_other (o := i * 17 + k) (v := v) HV1.out (g' := g + 3) (by omega))
              have N2 := hide (fun v : Value => tab_other (o := i * 17 + k) (v := v) HV2.out (g' := g + 3) (by omega))
              cases p
              · cases q
                · have M3 := hide (N3.out false (by simp))
                  go_wp2_with fail
                  go_region
                  go_wp2_with fail
                  exact ⟨⟨j + 1, by go_num, by omega, by omega, hide (tab_drew (N0.out _)), hide (tab_drew (N1.out _)), hide (tab_drew (N2.out _)), hide (tab_drew M3.out), NB.out _⟩, by simp [intOf] <;> omega⟩
                · have M3 := hide (N3.out r (by simp))
                  go_wp2_with fail
                  go_region
                  go_wp2_with fail
                  exact ⟨⟨j + 1, by go_num, by omega, by omega, hide (tab_drew (N0.out _)), hide (tab_drew (N1.out _)), hide (tab_drew (N2.out _)), hide (tab_drew M3.out), NB.out _⟩, by simp [intOf] <;> omega⟩
              · have M3 := hide (N3.out true (by simp))
                go_wp2_with fail
                go_region
                go_wp2_with fail
                exact ⟨⟨j + 1, by go_num, by omega, by omega, hide (tab_drew (N0.out _)), hide (tab_drew (N1.out _)), hide (tab_drew (N2.out _)), hide (tab_drew M3.out), NB.out _⟩, by simp [intOf] <;> omega⟩
            · have hjl' : ¬ (j : Int) ≤ (k : Int) := by omega
              go_wp2_with fail
              exact ⟨⟨k + 1, by go_num, by omega, by omega, HV0, HV1, HV2, hide (tabAt_ext HV3.out fun a b _ _ => thenJ_end A B n i k j hik hkl (by omega) a b), BP.out⟩, by simp [intOf] <;> omega⟩
        · have hkl' : ¬ (k : Int) ≤ (n : Int) := by omega
          go_wp2_with fail
          exact ⟨⟨i + 1, by go_num, by omega, HU0, HU1, HU2, hide (tabAt_ext HU3.out fun a b _ _ => thenK_next A B n i k hkl a b), BQ.out⟩, by simp [intOf] <;> omega⟩
    · have hil' : ¬ (i : Int) ≤ (n : Int) := by omega
      obtain ⟨cs, hg1, hc⟩ := HT3.out
      obtain ⟨ds, hg0, hd⟩ := HT2.out
      have i1 : (Tryz.prog.info? 44).map (·.size) = some cs.size := by rw [info44, hc.1]
      have o1 : ds.size = cs.size := by rw [hc.1, hd.1]
      have G1 := hide hg1
      have G0 := hide hg0
      have I1 := hide i1
      have O1 := hide o1
      have A1 := hide (tab_one hc)
      have HG2 := hide (setRow_heap wr _ ds cs 44 _ hg0)
      have HC := hide hc
      clear hc hg1 hg0 hd i1 o1
      go_wp2_with (first | (refine wpList_load_row rfl 44 (.tmp 7) rfl _ rfl 44 cs _ _ G1.out Tryz.underlying44 rfl I1.out ?_) | (refine wpList_store_row rfl 44 (.tmp 6) (.tmp 51) rfl _ cs rfl rfl 44 ds G0.out I1.out O1.out A1.out ?_))
      refine bodyPost_ret (v := .agg cs) (results_cell_row Tryz.results37 _ _ _ 44 cs _ _ rfl HG2.out Tryz.underlying44 rfl I1.out) rfl ⟨⟨cs, rfl, tab_ext HC.out fun a b _ _ => thenK_done A B n i hil a b⟩, ?_⟩
      have hgs := HG.out
      subst hgs
      exact row_bel BR.out (by omega) cs
end Go.Proofs.YtbceoinhmpnjaaaGreatDoor

