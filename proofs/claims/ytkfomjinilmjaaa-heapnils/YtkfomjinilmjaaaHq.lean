/- The contract of a heap's All. -/
import Derived.Test.YtkfomjinilmjaaaHo
import Derived.Shelf.SlMaps.Clone
namespace Go.Proofs.Ytkfomjinilmjaaa
open Go.RowKit Go.Maps

section
variable {lt : Int → Int → Bool} {w w' : World} {h f : Nat} {R L : List RwS} {T : Int} {φ : ByteArray → Option Nat} {ao : Option Addr} {cap m n : Nat}
set_option maxRecDepth 100000 in
theorem mapClone_is (H : Mp w m n φ) : Calls Try.prog 41 #[.map (some m)] w fun e w' => ∃ m2, e = .returned (.map (some m2)) ∧ Mp w' m2 n φ ∧ Below w.heap.size w w' ∧ w.heap.size ≤ m2 := by
  obtain ⟨D, ⟨es, clock, hb, F, hs, hD⟩, hl⟩ := H
  have HN : Hid (Mp (w.alloc (.map es clock)) w.heap.size n φ) := ⟨D, ⟨es, clock, heap_alloc_new w _, F, hs, hD⟩, hl⟩
  have HB := hide (balloc (brefl w) (.map es clock))
  have hq := fun w => run_eql_map_nil_sl (P := Try.prog) w 63 _ _ (some m) Try.underlying63
  clear F hs hD hl
  go_enter Try.func41, Try.ntmps41
  go_wp2
  rw [run_callFunc_extern Try.func52 (by kernel_rfl) (by kernel_rfl) (by kernel_rfl) (e := Extern.MapsClone.clone) (by kernel_rfl), run_maps_clone_sl w 63 hb]
  simp only [Result.andThen]
  rw [Oper.upon_value]
  go_wp2
  rw [run_typeAssert_map_sl _ 63 20 _ _ _ Try.underlying63]
  simp only [Result.andThen]
  rw [Oper.upon_value]
  go_wp2
  go_ret
  exact ⟨_, rfl, HN.out, HB.out, Nat.le_refl _⟩
theorem one_cell {xs : List Value} (hl : xs.length = R.length * 3) (hr : ∀ j x, R[j]? = some x → xs[j * 3]? = some (.string x.k) ∧ xs[j * 3 + 1]? = some (.int .i64 x.r) ∧ xs[j * 3 + 2]? = some (.int .i64 x.t)) : ∀ u ∈ xs, u.oneCell' = true := by
  intro u hu
  obtain ⟨k, hk⟩ := List.mem_iff_getElem?.1 hu
  have hk2 := get_lt hk
  have hj : k / 3 < R.length := by omega
  obtain ⟨e0, e1, e2⟩ := hr (k / 3) R[k / 3] (List.getElem?_eq_getElem hj)
  have h3 : k % 3 < 3 := Nat.mod_lt _ (by decide)
  have hkd : k = k / 3 * 3 + k % 3 := by omega
  rcases (by omega : k % 3 = 0 ∨ k % 3 = 1 ∨ k % 3 = 2) with e | e | e
  · rw [e, Nat.add_zero] at hkd; rw [hkd, e0] at hk; cases hk; rfl
  · rw [e] at hkd; rw [hkd, e1] at hk; cases hk; rfl
  · rw [e] at hkd; rw [hkd, e2] at hk; cases hk; rfl
theorem owns_zero {B e size n : Nat} {v : Value} {xs : List Value} (h : w.ownsRow B e size v n xs) : w.ownsRow 0 e size v n xs := ⟨h.1, h.2.imp id fun ⟨g, cp, cur, h1, _, h3⟩ => ⟨g, cp, cur, h1, Nat.zero_le _, h3⟩⟩
theorem nil_eq (ao : Option Addr) (k c : Nat) (w : World) : (binOp .eql 64 (.slice ao k c) (.slice none 0 0)).run Try.prog w = .ok (.bool ao.isNone) w := Lib.run_eql_slice_nil w 64 70 ao k c 0 0 Try.underlying64
set_option maxRecDepth 100000 in
theorem clone_is (H : RowAt w ao cap R) (hn : R.length ≤ 1000) : Calls Try.prog 40 #[.slice ao R.length cap] w fun e w' => ∃ ao1 cap1, e = .returned (.slice ao1 R.length cap1) ∧ RowAt w' ao1 cap1 R ∧ Below w.heap.size w w' ∧ ∀ a, ao1 = some a → w.heap.size ≤ a.block := by
  have hq := nil_eq
  cases ao with
  | none =>
    have hR0 : R = [] := by
      rcases H with ⟨_, _, e⟩ | ⟨g, cur, e, _⟩
      · exact e
      · cases e
    subst hR0
    clear H
    go_enter Try.func40, Try.ntmps40
    go_wp2_with fail
    go_ret
    exact ⟨none, 0, rfl, .inl ⟨rfl, rfl, rfl⟩, brefl _, fun a e => by cases e⟩
  | some ad =>
    obtain ⟨i0, hi, hz0, hz1, hz2⟩ := info_70
    obtain ⟨xs, hown, hr⟩ := H.owns
    have HX := hide (one_cell hown.1 hr)
    have HR := hide hr
    have HO := hide hown
    have HNW : Hid (∀ j u, xs[j]? = some u → (w.alloc (.cells #[] 70)).cell? (ad.add j) = some u) := fun j u hj => by
      rcases hown.2 with ⟨e, _⟩ | ⟨g, cp, cur, e, _, hg, _, _, h3, h4⟩
      · cases e
      · cases e
        have hj2 := get_lt hj
        have e1 : (⟨g, 0, none⟩ : Addr).add j = ⟨g, j, none⟩ := by unfold Addr.add; split <;> simp_all
        rw [e1, (balloc (brefl w) (.cells #[] 70)).cell (p := ⟨g, j, none⟩) (lt_of_block hg), cell_of_row w g j _ 70 _ hg]
        rw [← h4, List.getElem?_take_of_lt (by rw [← hown.1]; exact hj2), Array.getElem?_toList] at hj
        exact hj
    have HS := hide hown.1
    have HE : Hid ((w.alloc (.cells #[] 70)).ownsRow w.heap.size 70 3 (.slice (some ⟨w.heap.size, 0, none⟩) 0 0) 0 []) := ⟨rfl, .inr ⟨w.heap.size, 0, #[], rfl, Nat.le_refl _, heap_alloc_new w _, Nat.le_refl _, Nat.zero_le _, rfl, rfl⟩⟩
    clear H hown hr
    go_enter Try.func40, Try.ntmps40
    go_wp2_with (at_builtin; go_must (refine wpList_append_own _ rfl _ _ 64 rfl w.heap.size 70 i0 _ 3 32 Try.underlying64 hi hz0 hz1 hz2 rfl (by decide) _ 0 [] rfl HE.out ad R.length cap xs rfl HS.out HNW.out HX.out (by unfold maxLen; omega) (by omega) (by simp) ?_))
    intro v' w' ho hg _
    have HB : Hid (Below w.heap.size w w') := Below.grown (balloc (brefl w) _) hg (by simp) (fun k hk => by
      simp [Value.ownBlock] at hk
      omega)
    have HO2 : Hid (w'.ownsRow w.heap.size 70 3 v' R.length xs) := by first | exact ho | (rw [List.nil_append] at ho; exact ho)
    obtain ⟨ao1, cap1, rfl, hR1⟩ := rowAt_of (R := R) rfl (owns_zero HO2.out) HR.out
    have HR1 := hide hR1
    have HNB : Hid (∀ a, ao1 = some a → w.heap.size ≤ a.block) := fun a e => by
      subst e
      exact (HO2.out.lt a.block rfl).1
    clear ho hg hR1
    go_wp2_with fail
    go_ret
    exact ⟨ao1, cap1, rfl, HR1.out, HB.out, HNB.out⟩
theorem hm_box {W : World} {ao1 : Option Addr} {cap1 m2 : Nat} (h1 : RowAt W ao1 cap1 R) (h2 : Mp W m2 n φ) (h3 : ∀ a, ao1 = some a → a.block ≠ m2) (hs : ∀ x ∈ R, x.k.size ≤ 200) : Hm (W.alloc (.cells #[.func (.func f) #[] #[], .slice ao1 R.length cap1, .map (some m2), .int .i64 0] 66)) W.heap.size f R 0 φ ao1 cap1 m2 n := by
  have hb := balloc (brefl W) (.cells #[.func (.func f) #[] #[], .slice ao1 R.length cap1, .map (some m2), .int .i64 0] 66)
  refine ⟨heap_alloc_new W _, ?_, h2.kept (hb.block m2 h2.lt), fun e => by have := h2.lt; omega, fun a e => ⟨fun e2 => ?_, h3 a e⟩, hs⟩
  · rcases h1 with e | ⟨g, cur, e, hg, r⟩
    · exact .inl e
    · exact .inr ⟨g, cur, e, (hb.block g (lt_of_block hg)).trans hg, r⟩
  · rcases h1 with ⟨e3, _⟩ | ⟨g, cur, e3, hg, _⟩
    · rw [e3] at e; cases e
    · rw [e3] at e; cases e
      have := lt_of_block hg
      simp only at e2
      omega
/-- What All hands back. -/
def AllTo (lt : Int → Int → Bool) (w : World) (L : List RwS) (e : Ending) (w' : World) : Prop :=
  ∃ (ar : Option Addr) (cr : Nat) (ks : List ByteArray), e = .returned (.slice ar ks.length cr) ∧ Ks.slot w' ar ks ∧ (∀ a, ar = some a → w.heap.size ≤ a.block) ∧ Alls lt L ks ∧ Below w.heap.size w w'
set_option maxHeartbeats 4000000 in
set_option maxRecDepth 100000 in
theorem all_is (O : Ords lt) (LI : LessIs f lt) (H : Hp lt w h f L T ao m) (hn : L.length ≤ 1000) : Calls Try.prog 19 #[.pointer (some ⟨h, 0, none⟩)] w (AllTo lt w L) := by
  obtain ⟨R, φ, cap, U, H, hI, G⟩ := H
  have hR : R.length ≤ 1000 := by rw [G.len]; exact hn
  have CC : Hid (∀ (_ : Unit), Calls Try.prog 40 #[.slice ao R.length cap] w.drew fun e w' => ∃ ao1 cap1, e = .returned (.slice ao1 R.length cap1) ∧ RowAt w' ao1 cap1 R ∧ Below w.heap.size w w' ∧ ∀ a, ao1 = some a → w.heap.size ≤ a.block) := fun _ => (clone_is (w := w.drew) (H.below (brefl w).drew).row hR).mono fun e w' ⟨ao1, cap1, h1, h2, h3, h4⟩ => ⟨ao1, cap1, h1, h2, bthen (brefl w).drew h3, h4⟩
  have CM : Hid (∀ W, Below w.heap.size w W → Calls Try.prog 41 #[.map (some m)] W fun e w' => ∃ m2, e = .returned (.map (some m2)) ∧ Mp w' m2 R.length φ ∧ Below W.heap.size W w' ∧ W.heap.size ≤ m2) := fun W hW => mapClone_is (H.below hW).mp
  obtain ⟨c0, c1, c2, c3, _⟩ := four_cells H.top
  have hgl := H.lt h (.inl rfl)
  have HSM := hide H.sm
  have HI := hide hI
  have HG := hide G
  clear H hI G
  go_enter Try.func19, Try.ntmps19
  go_wp2_with fail
  refine wp_region_held_drew (S := fun w' => w'.cell? ⟨h, 0, none⟩ = some (.func (.func f) #[] #[]) ∧ w'.cell? ⟨h, 1, none⟩ = some (.slice ao R.length cap) ∧ w'.cell? ⟨h, 2, none⟩ = some (.map (some m))) (by kernel_rfl) ⟨c0, c1, c2⟩ (fun hHeld => ?_)
  refine wpAnyH_take (i := 0) (v := .pointer (some ⟨h, 0, none⟩)) rfl (by kernel_rfl) (by kernel_rfl) (by kernel_rfl) (fun _ _ _ h => h) (Or.inl ⟨by rfl, fun w hSw => by dsimp only at hSw; go_simp⟩) hHeld ?_
  simp only [Act.put, List.getElem_toArray, List.getElem_cons_zero, List.setIfInBounds_toArray, List.set_cons_zero, List.set_cons_succ]
  refine wpAnyH_take (i := 1) (v := .pointer (some ⟨h, 0, none⟩)) rfl (by kernel_rfl) (by kernel_rfl) (by kernel_rfl) (fun _ _ _ h => h) (Or.inl ⟨by rfl, fun w hSw => by dsimp only at hSw; go_simp⟩) hHeld ?_
  simp only [Act.put, List.getElem_toArray, List.getElem_cons_zero, List.getElem_cons_succ, List.setIfInBounds_toArray, List.set_cons_zero, List.set_cons_succ]
  refine wpAnyH_take (i := 2) (v := .pointer (some ⟨h, 0, none⟩)) rfl (by kernel_rfl) (by kernel_rfl) (by kernel_rfl) (fun _ _ _ h => h) (Or.inl ⟨by rfl, fun w hSw => by dsimp only at hSw; go_simp⟩) hHeld ?_
  simp only [Act.put, List.getElem_toArray, List.getElem_cons_zero, List.getElem_cons_succ, List.setIfInBounds_toArray, List.set_cons_zero, List.set_cons_succ]
  refine wpAnyH_take (i := 3) (v := .func (.func f) #[] #[]) rfl (by kernel_rfl) (by kernel_rfl) (by kernel_rfl) (fun _ _ _ h => h) (Or.inl ⟨by rfl, fun w hSw => by dsimp only at hSw; go_simp⟩) hHeld ?_
  simp only [Act.put, List.getElem_toArray, List.getElem_cons_zero, List.getElem_cons_succ, List.setIfInBounds_toArray, List.set_cons_zero, List.set_cons_succ]
  refine wpAnyH_take (i := 4) (v := .pointer (some ⟨h, 0, none⟩)) rfl (by kernel_rfl) (by kernel_rfl) (by kernel_rfl) (fun _ _ _ h => h) (Or.inl ⟨by rfl, fun w hSw => by dsimp only at hSw; go_simp⟩) hHeld ?_
  simp only [Act.put, List.getElem_toArray, List.getElem_cons_zero, List.getElem_cons_succ, List.setIfInBounds_toArray, List.set_cons_zero, List.set_cons_succ]
  refine wpAnyH_take (i := 5) (v := .pointer (some ⟨h, 0, none⟩)) rfl (by kernel_rfl) (by kernel_rfl) (by kernel_rfl) (fun _ _ _ h => h) (Or.inl ⟨by rfl, fun w hSw => by dsimp only at hSw; go_simp⟩) hHeld ?_
  simp only [Act.put, List.getElem_toArray, List.getElem_cons_zero, List.getElem_cons_succ, List.setIfInBounds_toArray, List.set_cons_zero, List.set_cons_succ]
  refine wpAnyH_take (i := 6) (v := .pointer (some ⟨h, 1, none⟩)) rfl (by kernel_rfl) (by kernel_rfl) (by kernel_rfl) (fun _ _ _ h => h) (Or.inl ⟨by rfl, fun w hSw => by dsimp only at hSw; go_simp⟩) hHeld ?_
  simp only [Act.put, List.getElem_toArray, List.getElem_cons_zero, List.getElem_cons_succ, List.setIfInBounds_toArray, List.set_cons_zero, List.set_cons_succ]
  refine wpAnyH_take (i := 7) (v := .slice ao R.length cap) rfl (by kernel_rfl) (by kernel_rfl) (by kernel_rfl) (fun _ _ _ h => h) (Or.inl ⟨by rfl, fun w hSw => by dsimp only at hSw; go_simp⟩) hHeld ?_
  simp only [Act.put, List.getElem_toArray, List.getElem_cons_zero, List.getElem_cons_succ, List.setIfInBounds_toArray, List.set_cons_zero, List.set_cons_succ]
  refine wpAnyH_take (i := 9) (v := .pointer (some ⟨h, 0, none⟩)) rfl (by kernel_rfl) (by kernel_rfl) (by kernel_rfl) (fun _ _ _ h => h) (Or.inl ⟨by rfl, fun w hSw => by dsimp only at hSw; go_simp⟩) hHeld ?_
  simp only [Act.put, List.getElem_toArray, List.getElem_cons_zero, List.getElem_cons_succ, List.setIfInBounds_toArray, List.set_cons_zero, List.set_cons_succ]
  refine wpAnyH_take (i := 10) (v := .pointer (some ⟨h, 0, none⟩)) rfl (by kernel_rfl) (by kernel_rfl) (by kernel_rfl) (fun _ _ _ h => h) (Or.inl ⟨by rfl, fun w hSw => by dsimp only at hSw; go_simp⟩) hHeld ?_
  simp only [Act.put, List.getElem_toArray, List.getElem_cons_zero, List.getElem_cons_succ, List.setIfInBounds_toArray, List.set_cons_zero, List.set_cons_succ]
  refine wpAnyH_take (i := 11) (v := .pointer (some ⟨h, 2, none⟩)) rfl (by kernel_rfl) (by kernel_rfl) (by kernel_rfl) (fun _ _ _ h => h) (Or.inl ⟨by rfl, fun w hSw => by dsimp only at hSw; go_simp⟩) hHeld ?_
  simp only [Act.put, List.getElem_toArray, List.getElem_cons_zero, List.getElem_cons_succ, List.setIfInBounds_toArray, List.set_cons_zero, List.set_cons_succ]
  refine wpAnyH_take (i := 12) (v := .map (some m)) rfl (by kernel_rfl) (by kernel_rfl) (by kernel_rfl) (fun _ _ _ h => h) (Or.inl ⟨by rfl, fun w hSw => by dsimp only at hSw; go_simp⟩) hHeld ?_
  simp only [Act.put, List.getElem_toArray, List.getElem_cons_zero, List.getElem_cons_succ, List.setIfInBounds_toArray, List.set_cons_zero, List.set_cons_succ]
  refine wpAnyH_ready (rs := [8]) (by kernel_rfl) (by simp) ?_
  refine AllReadyH.cons rfl (fun K hK => ?_) AllReadyH.nil
  go_simp
  go_wp2_with (refine (CC.out ()).mono ?_; rintro e w1 ⟨ao1, cap1, rfl, hr1, hb1, hn1⟩; have HR1 := hide hr1; have B1 := hide hb1; have HN1 := hide hn1; clear hr1 hb1 hn1)
  refine hK.out _ _ ⟨(B1.out.cell (p := ⟨h, 0, none⟩) hgl).trans c0, (B1.out.cell (p := ⟨h, 1, none⟩) hgl).trans c1, (B1.out.cell (p := ⟨h, 2, none⟩) hgl).trans c2⟩ (fun hHeld => ?_)
  clear hK K
  try simp only [Act.put, List.getElem_toArray, List.getElem_cons_zero, List.getElem_cons_succ, List.setIfInBounds_toArray, List.set_cons_zero, List.set_cons_succ]
  refine wpAnyH_ready (rs := [13]) (by kernel_rfl) (by simp) ?_
  refine AllReadyH.cons rfl (fun K hK => ?_) AllReadyH.nil
  go_simp
  go_wp2_with (refine (CM.out _ B1.out).mono ?_; rintro e w2 ⟨m2, rfl, hm2, hb2, hn2⟩; have HM2 := hide hm2; have B2 := hide hb2; have HN2 := hide hn2; clear hm2 hb2 hn2)
  refine hK.out _ _ ⟨((bthen B1.out B2.out).cell (p := ⟨h, 0, none⟩) hgl).trans c0, ((bthen B1.out B2.out).cell (p := ⟨h, 1, none⟩) hgl).trans c1, ((bthen B1.out B2.out).cell (p := ⟨h, 2, none⟩) hgl).trans c2⟩ (fun hHeld => ?_)
  clear hK K
  try simp only [Act.put, List.getElem_toArray, List.getElem_cons_zero, List.getElem_cons_succ, List.setIfInBounds_toArray, List.set_cons_zero, List.set_cons_succ]
  refine wpAnyH_take (i := 14) (v := .agg #[.func (.func f) #[] #[], .slice ao1 R.length cap1, .map (some m2), .int .i64 0]) rfl (by kernel_rfl) (by kernel_rfl) (by kernel_rfl) (fun _ _ _ h => h) (Or.inl ⟨by rfl, fun w hSw => by dsimp only at hSw; go_simp⟩) hHeld ?_
  simp only [Act.put, List.getElem_toArray, List.getElem_cons_zero, List.getElem_cons_succ, List.setIfInBounds_toArray, List.set_cons_zero, List.set_cons_succ]
  refine wpAnyH_ready (rs := [15]) (by kernel_rfl) (by simp) ?_
  refine AllReadyH.cons rfl (fun K hK => ?_) AllReadyH.nil
  go_simp
  have BW := hide (bthen B1.out B2.out)
  have H3 : Hid (Hm (w2.alloc (.cells #[.func (.func f) #[] #[], .slice ao1 R.length cap1, .map (some m2), .int .i64 0] 66)) w2.heap.size f R 0 φ ao1 cap1 m2 R.length) := by
    have hr2 : RowAt w2 ao1 cap1 R := by
      rcases HR1.out with e | ⟨g, cur, e, hg, r⟩
      · exact .inl e
      · exact .inr ⟨g, cur, e, (B2.out.block g (lt_of_block hg)).trans hg, r⟩
    refine hm_box hr2 HM2.out (fun a e => ?_) HSM.out
    rcases HR1.out with ⟨e2, _⟩ | ⟨g, cur, e2, hg, _⟩
    · rw [e2] at e; cases e
    · rw [e2] at e; cases e
      have := lt_of_block hg
      have := HN2.out
      simp only
      omega
  have B3 := hide (balloc BW.out (.cells #[.func (.func f) #[] #[], .slice ao1 R.length cap1, .map (some m2), .int .i64 0] 66))
  have HWS := hide (BW.out.size)
  have HLW : Hid (∀ b, Own w2.heap.size m2 ao1 b → w.heap.size ≤ b) := by
    rintro b (rfl | rfl | ⟨a, e, rfl⟩)
    · exact BW.out.size
    · exact Nat.le_trans B1.out.size HN2.out
    · exact HN1.out a e
  refine hK.out _ _ ⟨(B3.out.cell (p := ⟨h, 0, none⟩) hgl).trans c0, (B3.out.cell (p := ⟨h, 1, none⟩) hgl).trans c1, (B3.out.cell (p := ⟨h, 2, none⟩) hgl).trans c2⟩ (fun hHeld => ?_)
  clear hK K
  generalize w2.alloc (.cells #[.func (.func f) #[] #[], .slice ao1 R.length cap1, .map (some m2), .int .i64 0] 66) = W3 at *
  generalize w2.heap.size = h3 at *
  try simp only [Act.put, List.getElem_toArray, List.getElem_cons_zero, List.getElem_cons_succ, List.setIfInBounds_toArray, List.set_cons_zero, List.set_cons_succ]
  refine wpAnyH_take (i := 16) (v := .pointer (some ⟨h3, 0, none⟩)) rfl (by kernel_rfl) (by kernel_rfl) (by kernel_rfl) (fun _ _ _ h => h) (Or.inl ⟨by rfl, fun w hSw => by dsimp only at hSw; go_simp⟩) hHeld ?_
  simp only [Act.put, List.getElem_toArray, List.getElem_cons_zero, List.getElem_cons_succ, List.setIfInBounds_toArray, List.set_cons_zero, List.set_cons_succ]
  refine wpAnyH_done (by kernel_rfl) ?_ _
  have CD := hide (drain_is O LI (⟨R, φ, cap1, U, H3.out, HI.out, HG.out⟩ : Hp lt W3 h3 f L 0 ao1 m2) hn)
  clear hHeld
  go_wp2_with fail
  refine CD.out.mono ?_
  rintro e w4 ⟨ar, cr, ks, rfl, hsl, hnw, hall, _, k4⟩
  have HSL := hide hsl
  have HNW : Hid (∀ a, ar = some a → w.heap.size ≤ a.block) := fun a e => Nat.le_trans B3.out.size (hnw a e)
  have HAL := hide hall
  have B4 := hide (k4.below' B3.out (fun i hi => HLW.out i hi) B3.out.size)
  clear hsl hnw hall k4
  go_wp2_with fail
  go_ret
  exact ⟨ar, cr, ks, rfl, HSL.out, HNW.out, HAL.out, B4.out⟩
end
end Go.Proofs.Ytkfomjinilmjaaa
