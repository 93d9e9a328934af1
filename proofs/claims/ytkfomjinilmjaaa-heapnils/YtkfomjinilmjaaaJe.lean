/- The contract of lay, of two numbers by texts. -/
import Derived.Test.YtkfomjinilmjaaaJd
import Derived.Test.YtkfomjinilmjaaaNl
namespace Go.Proofs.Ytkfomjinilmjaaa
open Go.RowKit Go.Maps

theorem Rd2.set {cur : Array Value} {R : List RwP} (h : Rd2 cur R) {i : Nat} (x : RwP) (hi : i < R.length) (hs : R.length * 4 ≤ cur.size) :
    Rd2 ((((cur.setIfInBounds (i * 4) (.int .i64 x.k.1)).setIfInBounds (i * 4 + 1) (.int .i64 x.k.2)).setIfInBounds (i * 4 + 2) (.string x.r)).setIfInBounds (i * 4 + 3) (.int .i64 x.t)) (R.set i x) := by
  intro j y hy
  have hj : j < R.length := by have := get_lt hy; rwa [List.length_set] at this
  rw [List.getElem?_set] at hy
  by_cases e : i = j
  · subst e
    rw [if_pos rfl, if_pos hi, Option.some.injEq] at hy
    subst hy
    refine ⟨?_, ?_, ?_, ?_⟩
    · rw [Array.getElem?_setIfInBounds_ne (by omega), Array.getElem?_setIfInBounds_ne (by omega), Array.getElem?_setIfInBounds_ne (by omega), Array.getElem?_setIfInBounds_self_of_lt (by omega)]
    · rw [Array.getElem?_setIfInBounds_ne (by omega), Array.getElem?_setIfInBounds_ne (by omega), Array.getElem?_setIfInBounds_self_of_lt (by rw [Array.size_setIfInBounds]; omega)]
    · rw [Array.getElem?_setIfInBounds_ne (by omega), Array.getElem?_setIfInBounds_self_of_lt (by rw [Array.size_setIfInBounds, Array.size_setIfInBounds]; omega)]
    · rw [Array.getElem?_setIfInBounds_self_of_lt (by rw [Array.size_setIfInBounds, Array.size_setIfInBounds, Array.size_setIfInBounds]; omega)]
  · rw [if_neg e] at hy
    obtain ⟨h0, h1, h2, h3⟩ := h j y hy
    refine ⟨?_, ?_, ?_, ?_⟩
    · rw [Array.getElem?_setIfInBounds_ne (by omega), Array.getElem?_setIfInBounds_ne (by omega), Array.getElem?_setIfInBounds_ne (by omega), Array.getElem?_setIfInBounds_ne (by omega), h0]
    · rw [Array.getElem?_setIfInBounds_ne (by omega), Array.getElem?_setIfInBounds_ne (by omega), Array.getElem?_setIfInBounds_ne (by omega), Array.getElem?_setIfInBounds_ne (by omega), h1]
    · rw [Array.getElem?_setIfInBounds_ne (by omega), Array.getElem?_setIfInBounds_ne (by omega), Array.getElem?_setIfInBounds_ne (by omega), Array.getElem?_setIfInBounds_ne (by omega), h2]
    · rw [Array.getElem?_setIfInBounds_ne (by omega), Array.getElem?_setIfInBounds_ne (by omega), Array.getElem?_setIfInBounds_ne (by omega), Array.getElem?_setIfInBounds_ne (by omega), h3]
/-- A row that is written. -/
def put4 (w : World) (g o : Nat) (x : RwP) : World := (((w.setCell ⟨g, o, none⟩ (.int .i64 x.k.1)).setCell ⟨g, o + 1, none⟩ (.int .i64 x.k.2)).setCell ⟨g, o + 2, none⟩ (.string x.r)).setCell ⟨g, o + 3, none⟩ (.int .i64 x.t)
theorem put4_other (w : World) (g o : Nat) (x : RwP) (b : Nat) (hb : b ≠ g) : (put4 w g o x).heap[b]? = w.heap[b]? := by
  unfold put4
  rw [heap_setCell_other _ _ _ _ hb, heap_setCell_other _ _ _ _ hb, heap_setCell_other _ _ _ _ hb, heap_setCell_other _ _ _ _ hb]
theorem put4_size (w : World) (g o : Nat) (x : RwP) : (put4 w g o x).heap.size = w.heap.size := by unfold put4; rw [size_setCell, size_setCell, size_setCell, size_setCell]
theorem Hm2.put {w : World} {h f : Nat} {R : List RwP} {T : Int} {φ : Int × Int → Option Nat} {g cap m n : Nat} (H : Hm2 w h f R T φ (some ⟨g, 0, none⟩) cap m n) {i : Nat} (x : RwP) (hi : i < R.length) (hx : In64 x.k) :
    Hm2 (put4 w g (i * 4) x) h f (R.set i x) T φ (some ⟨g, 0, none⟩) cap m n := by
  obtain ⟨hgh, hgm⟩ := H.hg _ rfl
  refine ⟨?_, ?_, H.mp.kept (put4_other _ _ _ _ _ (Ne.symm hgm)), H.hm, H.hg, ?_⟩
  · rw [put4_other _ _ _ _ _ (Ne.symm hgh), List.length_set]
    exact H.top
  · rcases H.row with ⟨e, _⟩ | ⟨g', cur, e, hg, h1, h2, h3, h4⟩
    · cases e
    · cases e
      refine .inr ⟨g, _, rfl, ?_, by rw [List.length_set]; exact h1, h2, ?_, h4.set x hi (by omega)⟩
      · unfold put4
        exact heap_setCell_same _ g _ _ 82 _ (heap_setCell_same _ g _ _ 82 _ (heap_setCell_same _ g _ _ 82 _ (heap_setCell_same w g _ _ 82 _ hg)))
      · simp [h3]
  · intro y hy
    rcases List.mem_or_eq_of_mem_set hy with e | e
    · exact H.sm y e
    · rw [e]; exact hx
theorem keep_put4 (w : World) (g o : Nat) (x : RwP) {S : Nat → Prop} (hg : S g) : Keep S w (put4 w g o x) :=
  ((((Keep.refl S w).setCell (.inl hg) _).setCell (.inl hg) _).setCell (.inl hg) _).setCell (.inl hg) _
theorem Hm2.stored {w w' : World} {h f : Nat} {R : List RwP} {T : Int} {φ : Int × Int → Option Nat} {ao : Option Addr} {cap m n n' i : Nat} {D : DataW Unit} {k : Int × Int} (H : Hm2 w h f R T φ ao cap m n) (hown : w.ownsMap Try.prog 58 (plainElem Try.prog 3) m n D)
    (hl : ∀ k : Int × Int, In64 k → Maps.has D (kl2 k) = (φ k).isSome ∧ ∀ i, φ k = some i → D.atKey (kl2 k) (.lit (.int .i64 0)) = .lit (.int .i64 (i : Nat)))
    (hk : In64 k) (hn : n ≤ n') (hn' : φ k = none → n + 1 ≤ n') (h' : w'.ownsMap Try.prog 58 (plainElem Try.prog 3) m (n + 1) (D.put (kl2 k) (.lit (.int .i64 (i : Nat))))) (hg : w.drew.grownBy w' (some m)) : Hm2 w' h f R T (upd φ k (some i)) ao cap m n' := by
  have hb : ∀ b, b ≠ m → b < w.heap.size → w'.heap[b]? = w.heap[b]? := fun b hb hl => hg.block b hl (fun e => hb (Option.some.inj e))
  refine ⟨(hb h H.hm (lt_of_block H.top)).trans H.top, ?_, Mp2.put hown hl hk hn hn' h', H.hm, H.hg, H.sm⟩
  rcases H.row with e | ⟨g, cur, e, h1, r⟩
  · exact .inl e
  · exact .inr ⟨g, cur, e, (hb g (H.hg _ e).2 (lt_of_block h1)).trans h1, r⟩
set_option maxHeartbeats 2000000 in
set_option maxRecDepth 100000 in
theorem lay2_is {w : World} {h f : Nat} {R : List RwP} {T : Int} {φ : Int × Int → Option Nat} {ao : Option Addr} {cap m n n' : Nat} (H : Hm2 w h f R T φ ao cap m n) {i : Nat} (hi : i < R.length) (x : RwP) (hx : In64 x.k) (hR : R.length ≤ 1000) (hn : n ≤ n') (hn' : φ x.k = none → n + 1 ≤ n') (hb : n ≤ 100000) :
    Calls Try.prog 45 #[.pointer (some ⟨h, 0, none⟩), .int .i64 i, .agg #[.int .i64 x.k.1, .int .i64 x.k.2, .string x.r, .int .i64 x.t]] w fun e w' => e = .returned (.tuple #[]) ∧ Hm2 w' h f (R.set i x) T (upd φ x.k (some i)) ao cap m n' ∧ Keep (Own h m ao) w w' := by
  have hx0 := List.getElem?_eq_getElem hi
  obtain ⟨g, rfl, _⟩ := H.at hx0
  have H1 := hide (H.below (balloc (brefl w) (.cells #[.int .i64 x.k.1, .int .i64 x.k.2, .string x.r, .int .i64 x.t] 82)))
  have K1 := hide (Keep.of (S := Own h m (some ⟨g, 0, none⟩)) (balloc (brefl w) (.cells #[.int .i64 x.k.1, .int .i64 x.k.2, .string x.r, .int .i64 x.t] 82)))
  have hnew := hide (heap_alloc_new w (.cells #[.int .i64 x.k.1, .int .i64 x.k.2, .string x.r, .int .i64 x.t] 82))
  have hqg : w.heap.size ≠ g := fun e => by have := H.lt g (.inr (.inr ⟨_, rfl, rfl⟩)); omega
  have hqm : w.heap.size ≠ m := fun e => by have := H.lt m (.inr (.inl rfl)); omega
  have hil : (i : Int) < (R.length : Int) := by omega
  have HN := hide hn'
  clear H hx0 hn'
  obtain ⟨⟨xk, xk2⟩, xr, xt⟩ := x
  simp only at H1 K1 hnew hx ⊢
  go_enter Try.func45, Try.ntmps45
  go_wp2_with fail
  generalize w.alloc (.cells #[.int .i64 xk, .int .i64 xk2, .string xr, .int .i64 xt] 82) = W at *
  generalize w.heap.size = q at *
  obtain ⟨c0, c1, c2, c3, _⟩ := four_cells H1.out.top
  obtain ⟨a0, a1, a2, a3, _⟩ := four_cells hnew.out
  obtain ⟨g', e, b0, b1, b2, b3, hfz⟩ := H1.out.at (List.getElem?_eq_getElem hi)
  cases e
  have f0 := hfz (i * 4)
  have f1 := hfz (i * 4 + 1)
  have f2 := hfz (i * 4 + 2)
  have f3 := hfz (i * 4 + 3)
  have hlt : g < W.heap.size := H1.out.lt g (.inr (.inr ⟨_, rfl, rfl⟩))
  clear hfz
  generalize R[i] = y at *
  go_region
  have H2 : Hid (Hm2 ((((W.setCell ⟨g, i * 4, none⟩ (.int .i64 xk)).setCell ⟨g, i * 4 + 1, none⟩ (.int .i64 xk2)).setCell ⟨g, i * 4 + 2, none⟩ (.string xr)).setCell ⟨g, i * 4 + 3, none⟩ (.int .i64 xt)).drew h f (R.set i ⟨(xk, xk2), xr, xt⟩) T φ (some ⟨g, 0, none⟩) cap m n) := (H1.out.put ⟨(xk, xk2), xr, xt⟩ hi hx).below (brefl _).drew
  have K2 : Hid (Keep (Own h m (some ⟨g, 0, none⟩)) w ((((W.setCell ⟨g, i * 4, none⟩ (.int .i64 xk)).setCell ⟨g, i * 4 + 1, none⟩ (.int .i64 xk2)).setCell ⟨g, i * 4 + 2, none⟩ (.string xr)).setCell ⟨g, i * 4 + 3, none⟩ (.int .i64 xt)).drew) := (K1.out.trans (keep_put4 W g (i * 4) ⟨(xk, xk2), xr, xt⟩ (.inr (.inr ⟨_, rfl, rfl⟩)))).drew
  have N2 : Hid (((((W.setCell ⟨g, i * 4, none⟩ (.int .i64 xk)).setCell ⟨g, i * 4 + 1, none⟩ (.int .i64 xk2)).setCell ⟨g, i * 4 + 2, none⟩ (.string xr)).setCell ⟨g, i * 4 + 3, none⟩ (.int .i64 xt)).drew.heap[q]? = some (.cells #[.int .i64 xk, .int .i64 xk2, .string xr, .int .i64 xt] 82 (0, 0))) := (put4_other W g (i * 4) ⟨(xk, xk2), xr, xt⟩ q hqg).trans hnew.out
  generalize ((((W.setCell ⟨g, i * 4, none⟩ (.int .i64 xk)).setCell ⟨g, i * 4 + 1, none⟩ (.int .i64 xk2)).setCell ⟨g, i * 4 + 2, none⟩ (.string xr)).setCell ⟨g, i * 4 + 3, none⟩ (.int .i64 xt)).drew = W2 at *
  clear H1 K1 hnew a0 a1 a2 a3 b0 b1 b2 b3 c0 c1 c2 c3 f0 f1 f2 f3 hlt
  obtain ⟨c0, c1, c2, c3, _⟩ := four_cells H2.out.top
  obtain ⟨a0, a1, a2, a3, _⟩ := four_cells N2.out
  have hbeq := fun w => pair_same (xk, xk2) hx w
  simp only at hbeq
  go_wp2_with fail
  refine wp_region_held_drew (S := fun w' => w'.cell? ⟨h, 2, none⟩ = some (.map (some m)) ∧ w'.cell? ⟨q, 0, none⟩ = some (.int .i64 xk) ∧ w'.cell? ⟨q, 1, none⟩ = some (.int .i64 xk2)) (by kernel_rfl) ⟨c2, a0, a1⟩ (fun hHeld => ?_)
  refine wpAnyH_take (i := 0) (v := .pointer (some ⟨h, 0, none⟩)) rfl (by kernel_rfl) (by kernel_rfl) (by kernel_rfl) (fun _ _ _ h => h) (Or.inl ⟨by rfl, fun w hSw => by dsimp only at hSw; go_simp⟩) hHeld ?_
  simp only [Act.put, List.getElem_toArray, List.getElem_cons_zero, List.setIfInBounds_toArray, List.set_cons_zero, List.set_cons_succ]
  refine wpAnyH_take (i := 1) (v := .pointer (some ⟨h, 0, none⟩)) rfl (by kernel_rfl) (by kernel_rfl) (by kernel_rfl) (fun _ _ _ h => h) (Or.inl ⟨by rfl, fun w hSw => by dsimp only at hSw; go_simp⟩) hHeld ?_
  simp only [Act.put, List.getElem_toArray, List.getElem_cons_zero, List.getElem_cons_succ, List.setIfInBounds_toArray, List.set_cons_zero, List.set_cons_succ]
  refine wpAnyH_take (i := 2) (v := .pointer (some ⟨h, 2, none⟩)) rfl (by kernel_rfl) (by kernel_rfl) (by kernel_rfl) (fun _ _ _ h => h) (Or.inl ⟨by rfl, fun w hSw => by dsimp only at hSw; go_simp⟩) hHeld ?_
  simp only [Act.put, List.getElem_toArray, List.getElem_cons_zero, List.getElem_cons_succ, List.setIfInBounds_toArray, List.set_cons_zero, List.set_cons_succ]
  refine wpAnyH_take (i := 3) (v := .map (some m)) rfl (by kernel_rfl) (by kernel_rfl) (by kernel_rfl) (fun _ _ _ h => h) (Or.inl ⟨by rfl, fun w hSw => by dsimp only at hSw; go_simp⟩) hHeld ?_
  simp only [Act.put, List.getElem_toArray, List.getElem_cons_zero, List.getElem_cons_succ, List.setIfInBounds_toArray, List.set_cons_zero, List.set_cons_succ]
  refine wpAnyH_take (i := 4) (v := .pointer (some ⟨q, 0, none⟩)) rfl (by kernel_rfl) (by kernel_rfl) (by kernel_rfl) (fun _ _ _ h => h) (Or.inl ⟨by rfl, fun w hSw => by dsimp only at hSw; go_simp⟩) hHeld ?_
  simp only [Act.put, List.getElem_toArray, List.getElem_cons_zero, List.getElem_cons_succ, List.setIfInBounds_toArray, List.set_cons_zero, List.set_cons_succ]
  refine wpAnyH_take (i := 5) (v := .agg #[.int .i64 xk, .int .i64 xk2]) rfl (by kernel_rfl) (by kernel_rfl) (by kernel_rfl) (fun _ _ _ h => h) (Or.inl ⟨by rfl, fun w hSw => by dsimp only at hSw; go_simp⟩) hHeld ?_
  simp only [Act.put, List.getElem_toArray, List.getElem_cons_zero, List.getElem_cons_succ, List.setIfInBounds_toArray, List.set_cons_zero, List.set_cons_succ]
  refine wpAnyH_take (i := 6) (v := .int .i64 i) rfl (by kernel_rfl) (by kernel_rfl) (by kernel_rfl) (fun _ _ _ h => h) (Or.inl ⟨by rfl, fun w hSw => by dsimp only at hSw; go_simp⟩) hHeld ?_
  simp only [Act.put, List.getElem_toArray, List.getElem_cons_zero, List.getElem_cons_succ, List.setIfInBounds_toArray, List.set_cons_zero, List.set_cons_succ]
  refine wpAnyH_ready (rs := [7]) (by kernel_rfl) (by simp) ?_
  refine AllReadyH.cons rfl (fun K hK => ?_) AllReadyH.nil
  go_simp
  obtain ⟨D, hown, hl⟩ := H2.out.mp
  obtain ⟨W3, hrun, hown3, hgrow⟩ := (World.ownsMap.drew hown).update (e := 3) klaw2 Try.underlying76 (by unfold maxLen; omega) (hkey2 hx) (plainElem_int Try.underlying3 (a := (i : Int)) (WalkArith.wf_i64 (by omega)))
  have H3 := hide (H2.out.stored hown hl hx hn HN.out hown3 hgrow)
  have K3 := hide (K2.out.trans (Keep.grown (S := Own h m (some ⟨g, 0, none⟩)) (w := W2) ⟨hgrow.os, hgrow.tape, hgrow.output, hgrow.size, hgrow.block⟩ (fun k e => by cases e; exact .inr (.inl rfl))))
  have hS : W3.cell? ⟨h, 2, none⟩ = some (.map (some m)) ∧ W3.cell? ⟨q, 0, none⟩ = some (.int .i64 xk) ∧ W3.cell? ⟨q, 1, none⟩ = some (.int .i64 xk2) :=
    ⟨(four_cells H3.out.top).2.2.1, (World.cell?_of_block (w := W2.drew) (hgrow.block q (lt_of_block N2.out) (fun e => hqm (Option.some.inj e)))).trans a0, (World.cell?_of_block (w := W2.drew) (hgrow.block q (lt_of_block N2.out) (fun e => hqm (Option.some.inj e)))).trans a1⟩
  have hrun2 : (Instr.mapUpdate 76 (.map (some m)) (.agg #[.int .i64 xk, .int .i64 xk2]) (.int .i64 i)).run Try.prog W2.drew = .ok () W3 := hrun
  rw [hrun2]
  clear hown hl hown3 hgrow hrun hrun2
  go_simp
  refine hK.out _ _ hS (fun hHeld => ?_)
  clear hK K
  refine wpAnyH_done (by kernel_rfl) ?_ _
  go_wp2_with fail
  go_end0
  exact ⟨rfl, H3.out, K3.out⟩
end Go.Proofs.Ytkfomjinilmjaaa
