/- The contracts of a heap's lay and swap. -/
import Derived.Test.YtkfomjinilmjaaaHd
namespace Go.Proofs.Ytkfomjinilmjaaa
open Go.RowKit Go.Maps

theorem Rd.set {cur : Array Value} {R : List RwS} (h : Rd cur R) {i : Nat} (x : RwS) (hi : i < R.length) (hs : R.length * 3 ≤ cur.size) :
    Rd (((cur.setIfInBounds (i * 3) (.string x.k)).setIfInBounds (i * 3 + 1) (.int .i64 x.r)).setIfInBounds (i * 3 + 2) (.int .i64 x.t)) (R.set i x) := by
  intro j y hy
  have hj : j < R.length := by have := get_lt hy; rwa [List.length_set] at this
  rw [List.getElem?_set] at hy
  by_cases e : i = j
  · subst e
    rw [if_pos rfl, if_pos hi, Option.some.injEq] at hy
    subst hy
    refine ⟨?_, ?_, ?_⟩
    · rw [Array.getElem?_setIfInBounds_ne (by omega), Array.getElem?_setIfInBounds_ne (by omega), Array.getElem?_setIfInBounds_self_of_lt (by omega)]
    · rw [Array.getElem?_setIfInBounds_ne (by omega), Array.getElem?_setIfInBounds_self_of_lt (by rw [Array.size_setIfInBounds]; omega)]
    · rw [Array.getElem?_setIfInBounds_self_of_lt (by rw [Array.size_setIfInBounds, Array.size_setIfInBounds]; omega)]
  · rw [if_neg e] at hy
    obtain ⟨h0, h1, h2⟩ := h j y hy
    refine ⟨?_, ?_, ?_⟩
    · rw [Array.getElem?_setIfInBounds_ne (by omega), Array.getElem?_setIfInBounds_ne (by omega), Array.getElem?_setIfInBounds_ne (by omega), h0]
    · rw [Array.getElem?_setIfInBounds_ne (by omega), Array.getElem?_setIfInBounds_ne (by omega), Array.getElem?_setIfInBounds_ne (by omega), h1]
    · rw [Array.getElem?_setIfInBounds_ne (by omega), Array.getElem?_setIfInBounds_ne (by omega), Array.getElem?_setIfInBounds_ne (by omega), h2]
/-- A row that is written. -/
def put3 (w : World) (g o : Nat) (x : RwS) : World := ((w.setCell ⟨g, o, none⟩ (.string x.k)).setCell ⟨g, o + 1, none⟩ (.int .i64 x.r)).setCell ⟨g, o + 2, none⟩ (.int .i64 x.t)
theorem put3_other (w : World) (g o : Nat) (x : RwS) (b : Nat) (hb : b ≠ g) : (put3 w g o x).heap[b]? = w.heap[b]? := by
  unfold put3
  rw [heap_setCell_other _ _ _ _ hb, heap_setCell_other _ _ _ _ hb, heap_setCell_other _ _ _ _ hb]
theorem put3_size (w : World) (g o : Nat) (x : RwS) : (put3 w g o x).heap.size = w.heap.size := by unfold put3; rw [size_setCell, size_setCell, size_setCell]
theorem Hm.put {w : World} {h f : Nat} {R : List RwS} {T : Int} {φ : ByteArray → Option Nat} {g cap m n : Nat} (H : Hm w h f R T φ (some ⟨g, 0, none⟩) cap m n) {i : Nat} (x : RwS) (hi : i < R.length) (hx : x.k.size ≤ 200) :
    Hm (put3 w g (i * 3) x) h f (R.set i x) T φ (some ⟨g, 0, none⟩) cap m n := by
  obtain ⟨hgh, hgm⟩ := H.hg _ rfl
  refine ⟨?_, ?_, H.mp.kept (put3_other _ _ _ _ _ (Ne.symm hgm)), H.hm, H.hg, ?_⟩
  · rw [put3_other _ _ _ _ _ (Ne.symm hgh), List.length_set]
    exact H.top
  · rcases H.row with ⟨e, _⟩ | ⟨g', cur, e, hg, h1, h2, h3, h4⟩
    · cases e
    · cases e
      refine .inr ⟨g, _, rfl, ?_, by rw [List.length_set]; exact h1, h2, ?_, h4.set x hi (by omega)⟩
      · unfold put3
        exact heap_setCell_same _ g _ _ 70 _ (heap_setCell_same _ g _ _ 70 _ (heap_setCell_same w g _ _ 70 _ hg))
      · simp [h3]
  · intro y hy
    rcases List.mem_or_eq_of_mem_set hy with e | e
    · exact H.sm y e
    · rw [e]; exact hx
theorem keep_put3 (w : World) (g o : Nat) (x : RwS) {S : Nat → Prop} (hg : S g) : Keep S w (put3 w g o x) :=
  (((Keep.refl S w).setCell (.inl hg) _).setCell (.inl hg) _).setCell (.inl hg) _
theorem Hm.stored {w w' : World} {h f : Nat} {R : List RwS} {T : Int} {φ : ByteArray → Option Nat} {ao : Option Addr} {cap m n n' i : Nat} {D : DataW Unit} {k : ByteArray} (H : Hm w h f R T φ ao cap m n) (hown : w.ownsMap Try.prog 9 (plainElem Try.prog 3) m n D)
    (hl : ∀ k : ByteArray, k.size ≤ 200 → Maps.has D (kl k) = (φ k).isSome ∧ ∀ i, φ k = some i → D.atKey (kl k) (.lit (.int .i64 0)) = .lit (.int .i64 (i : Nat)))
    (hk : k.size ≤ 200) (hn : n ≤ n') (hn' : φ k = none → n + 1 ≤ n') (h' : w'.ownsMap Try.prog 9 (plainElem Try.prog 3) m (n + 1) (D.put (kl k) (.lit (.int .i64 (i : Nat))))) (hg : w.drew.grownBy w' (some m)) : Hm w' h f R T (upd φ k (some i)) ao cap m n' := by
  have hb : ∀ b, b ≠ m → b < w.heap.size → w'.heap[b]? = w.heap[b]? := fun b hb hl => hg.block b hl (fun e => hb (Option.some.inj e))
  refine ⟨(hb h H.hm (lt_of_block H.top)).trans H.top, ?_, Mp.put hown hl hk hn hn' h', H.hm, H.hg, H.sm⟩
  rcases H.row with e | ⟨g, cur, e, h1, r⟩
  · exact .inl e
  · exact .inr ⟨g, cur, e, (hb g (H.hg _ e).2 (lt_of_block h1)).trans h1, r⟩
set_option maxHeartbeats 2000000 in
set_option maxRecDepth 100000 in
theorem lay_is {w : World} {h f : Nat} {R : List RwS} {T : Int} {φ : ByteArray → Option Nat} {ao : Option Addr} {cap m n n' : Nat} (H : Hm w h f R T φ ao cap m n) {i : Nat} (hi : i < R.length) (x : RwS) (hx : x.k.size ≤ 200) (hR : R.length ≤ 1000) (hn : n ≤ n') (hn' : φ x.k = none → n + 1 ≤ n') (hb : n ≤ 100000) :
    Calls Try.prog 37 #[.pointer (some ⟨h, 0, none⟩), .int .i64 i, .agg #[.string x.k, .int .i64 x.r, .int .i64 x.t]] w fun e w' => e = .returned (.tuple #[]) ∧ Hm w' h f (R.set i x) T (upd φ x.k (some i)) ao cap m n' ∧ Keep (Own h m ao) w w' := by
  have hx0 := List.getElem?_eq_getElem hi
  obtain ⟨g, rfl, _⟩ := H.at hx0
  have H1 := hide (H.below (balloc (brefl w) (.cells #[.string x.k, .int .i64 x.r, .int .i64 x.t] 70)))
  have K1 := hide (Keep.of (S := Own h m (some ⟨g, 0, none⟩)) (balloc (brefl w) (.cells #[.string x.k, .int .i64 x.r, .int .i64 x.t] 70)))
  have hnew := hide (heap_alloc_new w (.cells #[.string x.k, .int .i64 x.r, .int .i64 x.t] 70))
  have hqg : w.heap.size ≠ g := fun e => by have := H.lt g (.inr (.inr ⟨_, rfl, rfl⟩)); omega
  have hqm : w.heap.size ≠ m := fun e => by have := H.lt m (.inr (.inl rfl)); omega
  have hil : (i : Int) < (R.length : Int) := by omega
  have HN := hide hn'
  clear H hx0 hn'
  obtain ⟨xk, xr, xt⟩ := x
  simp only at H1 K1 hnew hx ⊢
  go_enter Try.func37, Try.ntmps37
  go_wp2_with fail
  generalize w.alloc (.cells #[.string xk, .int .i64 xr, .int .i64 xt] 70) = W at *
  generalize w.heap.size = q at *
  obtain ⟨c0, c1, c2, c3, _⟩ := four_cells H1.out.top
  obtain ⟨a0, a1, a2⟩ := three_cells hnew.out
  obtain ⟨g', e, b0, b1, b2, hfz⟩ := H1.out.at (List.getElem?_eq_getElem hi)
  cases e
  have f0 := hfz (i * 3)
  have f1 := hfz (i * 3 + 1)
  have f2 := hfz (i * 3 + 2)
  have hlt : g < W.heap.size := H1.out.lt g (.inr (.inr ⟨_, rfl, rfl⟩))
  clear hfz
  generalize R[i] = y at *
  go_region
  have H2 : Hid (Hm (((W.setCell ⟨g, i * 3, none⟩ (.string xk)).setCell ⟨g, i * 3 + 1, none⟩ (.int .i64 xr)).setCell ⟨g, i * 3 + 2, none⟩ (.int .i64 xt)).drew h f (R.set i ⟨xk, xr, xt⟩) T φ (some ⟨g, 0, none⟩) cap m n) := (H1.out.put ⟨xk, xr, xt⟩ hi hx).below (brefl _).drew
  have K2 : Hid (Keep (Own h m (some ⟨g, 0, none⟩)) w (((W.setCell ⟨g, i * 3, none⟩ (.string xk)).setCell ⟨g, i * 3 + 1, none⟩ (.int .i64 xr)).setCell ⟨g, i * 3 + 2, none⟩ (.int .i64 xt)).drew) := (K1.out.trans (keep_put3 W g (i * 3) ⟨xk, xr, xt⟩ (.inr (.inr ⟨_, rfl, rfl⟩)))).drew
  have N2 : Hid ((((W.setCell ⟨g, i * 3, none⟩ (.string xk)).setCell ⟨g, i * 3 + 1, none⟩ (.int .i64 xr)).setCell ⟨g, i * 3 + 2, none⟩ (.int .i64 xt)).drew.heap[q]? = some (.cells #[.string xk, .int .i64 xr, .int .i64 xt] 70 (0, 0))) := (put3_other W g (i * 3) ⟨xk, xr, xt⟩ q hqg).trans hnew.out
  generalize (((W.setCell ⟨g, i * 3, none⟩ (.string xk)).setCell ⟨g, i * 3 + 1, none⟩ (.int .i64 xr)).setCell ⟨g, i * 3 + 2, none⟩ (.int .i64 xt)).drew = W2 at *
  clear H1 K1 hnew a0 a1 a2 b0 b1 b2 c0 c1 c2 c3 f0 f1 f2 hlt
  obtain ⟨c0, c1, c2, c3, _⟩ := four_cells H2.out.top
  obtain ⟨a0, a1, a2⟩ := three_cells N2.out
  have hbeq : (xk == xk) = true := (Go.MapKept.bytes_beq xk xk).2 rfl
  go_wp2_with fail
  refine wp_region_held_drew (S := fun w' => w'.cell? ⟨h, 2, none⟩ = some (.map (some m)) ∧ w'.cell? ⟨q, 0, none⟩ = some (.string xk)) (by kernel_rfl) ⟨c2, a0⟩ (fun hHeld => ?_)
  refine wpAnyH_take (i := 0) (v := .pointer (some ⟨h, 0, none⟩)) rfl (by kernel_rfl) (by kernel_rfl) (by kernel_rfl) (fun _ _ _ h => h) (Or.inl ⟨by rfl, fun w hSw => by dsimp only at hSw; go_simp⟩) hHeld ?_
  simp only [Act.put, List.getElem_toArray, List.getElem_cons_zero, List.setIfInBounds_toArray, List.set_cons_zero, List.set_cons_succ]
  refine wpAnyH_take (i := 1) (v := .pointer (some ⟨h, 0, none⟩)) rfl (by kernel_rfl) (by kernel_rfl) (by kernel_rfl) (fun _ _ _ h => h) (Or.inl ⟨by rfl, fun w hSw => by dsimp only at hSw; go_simp⟩) hHeld ?_
  simp only [Act.put, List.getElem_toArray, List.getElem_cons_zero, List.getElem_cons_succ, List.setIfInBounds_toArray, List.set_cons_zero, List.set_cons_succ]
  refine wpAnyH_take (i := 2) (v := .pointer (some ⟨h, 2, none⟩)) rfl (by kernel_rfl) (by kernel_rfl) (by kernel_rfl) (fun _ _ _ h => h) (Or.inl ⟨by rfl, fun w hSw => by dsimp only at hSw; go_simp⟩) hHeld ?_
  simp only [Act.put, List.getElem_toArray, List.getElem_cons_zero, List.getElem_cons_succ, List.setIfInBounds_toArray, List.set_cons_zero, List.set_cons_succ]
  refine wpAnyH_take (i := 3) (v := .map (some m)) rfl (by kernel_rfl) (by kernel_rfl) (by kernel_rfl) (fun _ _ _ h => h) (Or.inl ⟨by rfl, fun w hSw => by dsimp only at hSw; go_simp⟩) hHeld ?_
  simp only [Act.put, List.getElem_toArray, List.getElem_cons_zero, List.getElem_cons_succ, List.setIfInBounds_toArray, List.set_cons_zero, List.set_cons_succ]
  refine wpAnyH_take (i := 4) (v := .pointer (some ⟨q, 0, none⟩)) rfl (by kernel_rfl) (by kernel_rfl) (by kernel_rfl) (fun _ _ _ h => h) (Or.inl ⟨by rfl, fun w hSw => by dsimp only at hSw; go_simp⟩) hHeld ?_
  simp only [Act.put, List.getElem_toArray, List.getElem_cons_zero, List.getElem_cons_succ, List.setIfInBounds_toArray, List.set_cons_zero, List.set_cons_succ]
  refine wpAnyH_take (i := 5) (v := .string xk) rfl (by kernel_rfl) (by kernel_rfl) (by kernel_rfl) (fun _ _ _ h => h) (Or.inl ⟨by rfl, fun w hSw => by dsimp only at hSw; go_simp⟩) hHeld ?_
  simp only [Act.put, List.getElem_toArray, List.getElem_cons_zero, List.getElem_cons_succ, List.setIfInBounds_toArray, List.set_cons_zero, List.set_cons_succ]
  refine wpAnyH_take (i := 6) (v := .int .i64 i) rfl (by kernel_rfl) (by kernel_rfl) (by kernel_rfl) (fun _ _ _ h => h) (Or.inl ⟨by rfl, fun w hSw => by dsimp only at hSw; go_simp⟩) hHeld ?_
  simp only [Act.put, List.getElem_toArray, List.getElem_cons_zero, List.getElem_cons_succ, List.setIfInBounds_toArray, List.set_cons_zero, List.set_cons_succ]
  refine wpAnyH_ready (rs := [7]) (by kernel_rfl) (by simp) ?_
  refine AllReadyH.cons rfl (fun K hK => ?_) AllReadyH.nil
  go_simp
  obtain ⟨D, hown, hl⟩ := H2.out.mp
  obtain ⟨W3, hrun, hown3, hgrow⟩ := (World.ownsMap.drew hown).update (e := 3) klaw Try.underlying63 (by unfold maxLen; omega) (hkey hx) (plainElem_int Try.underlying3 (a := (i : Int)) (WalkArith.wf_i64 (by omega)))
  have H3 := hide (H2.out.stored hown hl hx hn HN.out hown3 hgrow)
  have K3 := hide (K2.out.trans (Keep.grown (S := Own h m (some ⟨g, 0, none⟩)) (w := W2) ⟨hgrow.os, hgrow.tape, hgrow.output, hgrow.size, hgrow.block⟩ (fun k e => by cases e; exact .inr (.inl rfl))))
  have hS : W3.cell? ⟨h, 2, none⟩ = some (.map (some m)) ∧ W3.cell? ⟨q, 0, none⟩ = some (.string xk) :=
    ⟨(four_cells H3.out.top).2.2.1, (World.cell?_of_block (w := W2.drew) (hgrow.block q (lt_of_block N2.out) (fun e => hqm (Option.some.inj e)))).trans a0⟩
  rw [hrun]
  clear hown hl hown3 hgrow hrun
  go_simp
  refine hK.out _ _ hS (fun hHeld => ?_)
  clear hK K
  refine wpAnyH_done (by kernel_rfl) ?_ _
  go_wp2_with fail
  go_end0
  exact ⟨rfl, H3.out, K3.out⟩
end Go.Proofs.Ytkfomjinilmjaaa
