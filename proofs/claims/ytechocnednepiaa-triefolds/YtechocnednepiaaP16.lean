import Derived.Test.YtechocnednepiaaP15
/- The contract of a trie's Below. -/
namespace Go.Proofs.Ytechocnednepiaa
open Go.RowKit

theorem below_goes {F : Nat} {S : Nat → Prop} {w : World} {t : Nt} {c : Pf} {z : Value} (hI : BelowI F [] S w) (hl : t.At 89 w) (hs : ∀ k ∈ t.own, ¬ S k) (hc : Gd c) (hw : t.wf z (left c)) (hlen : (t.list c).length ≤ 1000000) :
    Calls Try.prog 54 #[t.ptr, pv c, .func (.func 55) #[] #[.pointer (some ⟨F, 0, none⟩)]] w fun e w' => e = .returned (.bool true) ∧ ∃ S' v, RowI F (F + 1) ((t.list c).map Prod.fst) S' w' v ∧ Keep S w w' := by
  refine Calls.mono (over_is enter55 (below1_pairs F) t c [] S w hI hl hs hc hw ?_) ?_
  · intro l1 x l2 e
    simp only [List.nil_append]
    have := congrArg List.length e
    simp only [List.length_append, List.length_cons] at this
    omega
  · rintro e w' ⟨rfl, S', ⟨v, hR⟩, hk, hm⟩
    rw [goes_true] at hR ⊢
    exact ⟨rfl, S', v, by simpa using hR, hk⟩
/- What find and over do, whatever the trie: the row's variable is the block behind that of the prefix. -/
set_option maxHeartbeats 4000000 in
set_option maxRecDepth 100000 in
theorem below_by {TV xv : Value} {p : Pf} {L : List Pf} {w : World} (CF0 : ∀ W, Below w.heap.size w W → Calls Try.prog 53 #[TV, pv p] W fun e w' => e = .returned xv ∧ Below W.heap.size W w')
    (CO0 : ∀ W, Below w.heap.size w W → RowI (w.heap.size + 1) (w.heap.size + 1 + 1) [] (fun k => k = w.heap.size + 1) W (.slice none 0 0) → Calls Try.prog 54 #[xv, pv p, .func (.func 55) #[] #[.pointer (some ⟨w.heap.size + 1, 0, none⟩)]] W fun e w' => e = .returned (.bool true) ∧ ∃ S' v, RowI (w.heap.size + 1) (w.heap.size + 1 + 1) L S' w' v ∧ Keep (fun k => k = w.heap.size + 1) W w') :
    Calls Try.prog 30 #[TV, pv p] w (Lists w L) := by
  have CF := hide CF0
  have CO := hide CO0
  have HR := hide (RowI.start (w.alloc (.cells #[.int .u32 p.1, .int .i64 p.2] 30)))
  have HBW := hide (balloc (balloc (brefl w) (.cells #[.int .u32 p.1, .int .i64 p.2] 30)) (.cells #[.slice none 0 0] 51))
  have T1 := hide ((two_new w p).below (balloc (brefl _) (.cells #[.slice none 0 0] 51)))
  rw [size_alloc] at HR
  clear CF0 CO0
  obtain ⟨p0, p1⟩ := p
  unfold pv at CF CO ⊢
  go_enter Try.func30, Try.ntmps30
  go_wp2_with fail
  generalize (w.alloc (.cells #[.int .u32 p0, .int .i64 p1] 30)).alloc (.cells #[.slice none 0 0] 51) = W at *
  have HRD : Hid (∀ w2, Below W.drew.heap.size W.drew w2 → RowI (w.heap.size + 1) (w.heap.size + 1 + 1) [] (fun k => k = w.heap.size + 1) w2 (.slice none 0 0)) := fun w2 hb => HR.out.keep fun k hk => hb.block k (HR.out.inS k hk)
  obtain ⟨d0, d1, _, _⟩ := T1.out.cells
  refine wp_region_held_drew (S := fun w' => w'.cell? ⟨w.heap.size, 0, none⟩ = some (.int .u32 p0) ∧ w'.cell? ⟨w.heap.size, 1, none⟩ = some (.int .i64 p1)) (by kernel_rfl) ⟨d0, d1⟩ (fun hHeld => ?_)
  refine wpAnyH_take (i := 0) (v := TV) rfl (by kernel_rfl) (by kernel_rfl) (by kernel_rfl) (fun _ _ _ h => h) (Or.inl ⟨by rfl, fun w hSw => by dsimp only at hSw; go_simp⟩) hHeld ?_
  simp only [Act.put, List.getElem_toArray, List.getElem_cons_zero, List.setIfInBounds_toArray, List.set_cons_zero, List.set_cons_succ]
  refine wpAnyH_take (i := 1) (v := .agg #[.int .u32 p0, .int .i64 p1]) rfl (by kernel_rfl) (by kernel_rfl) (by kernel_rfl) (fun _ _ _ h => h) (Or.inl ⟨by rfl, fun w hSw => by dsimp only at hSw; go_simp⟩) hHeld ?_
  simp only [Act.put, List.getElem_toArray, List.getElem_cons_zero, List.getElem_cons_succ, List.setIfInBounds_toArray, List.set_cons_zero, List.set_cons_succ]
  refine wpAnyH_take (i := 3) (v := .agg #[.int .u32 p0, .int .i64 p1]) rfl (by kernel_rfl) (by kernel_rfl) (by kernel_rfl) (fun _ _ _ h => h) (Or.inl ⟨by rfl, fun w hSw => by dsimp only at hSw; go_simp⟩) hHeld ?_
  simp only [Act.put, List.getElem_toArray, List.getElem_cons_zero, List.getElem_cons_succ, List.setIfInBounds_toArray, List.set_cons_zero, List.set_cons_succ]
  refine wpAnyH_take (i := 4) (v := .func (.func 55) #[] #[.pointer (some ⟨w.heap.size + 1, 0, none⟩)]) rfl (by kernel_rfl) (by kernel_rfl) (by kernel_rfl) (fun _ _ _ h => h) (Or.inl ⟨by rfl, fun w hSw => by dsimp only at hSw; go_simp⟩) hHeld ?_
  simp only [Act.put, List.getElem_toArray, List.getElem_cons_zero, List.getElem_cons_succ, List.setIfInBounds_toArray, List.set_cons_zero, List.set_cons_succ]
  refine wpAnyH_ready (rs := [2]) (by kernel_rfl) (by simp) ?_
  refine AllReadyH.cons rfl (fun K hK => ?_) AllReadyH.nil
  go_simp
  go_wp2_with (refine (CF.out _ HBW.out.drew).mono ?_; rintro e w2 ⟨rfl, hb2⟩; have HB2 := hide hb2; have T2 := hide ((T1.out.below (Below.drew (brefl _))).below hb2); have H2 := hide (And.intro T2.out.cells.1 T2.out.cells.2.1); clear hb2)
  refine hK.out _ _ H2.out (fun hHeld => ?_)
  clear hK K
  try simp only [Act.put, List.getElem_toArray, List.getElem_cons_zero, List.getElem_cons_succ, List.setIfInBounds_toArray, List.set_cons_zero, List.set_cons_succ]
  refine wpAnyH_ready (rs := [5]) (by kernel_rfl) (by simp) ?_
  refine AllReadyH.cons rfl (fun K hK => ?_) AllReadyH.nil
  go_simp
  go_wp2_with (refine (CO.out _ (bthen HBW.out.drew HB2.out) (HRD.out _ HB2.out)).mono ?_; rintro e w3 ⟨rfl, S', v, hR, hk⟩; have HR3 := hide hR; have HK3 := hide hk; have T3 := hide (T2.out.kept hk (by omega)); have HH := hide (And.intro T3.out.cells.1 T3.out.cells.2.1); clear hR hk)
  refine hK.out _ _ HH.out (fun hHeld => ?_)
  clear hK K
  try simp only [Act.put, List.getElem_toArray, List.getElem_cons_zero, List.getElem_cons_succ, List.setIfInBounds_toArray, List.set_cons_zero, List.set_cons_succ]
  refine wpAnyH_done (by kernel_rfl) ?_ _
  have HB3 := hide (HK3.out.below' (bthen HBW.out.drew HB2.out) (fun k hk => by omega) (bthen HBW.out.drew HB2.out).size)
  obtain ⟨ao, cap, hv, hrow, hcm⟩ := own_shape HR3.out.row
  have HCM := hide hcm
  clear hcm
  subst hv
  have HRW := hide hrow
  have f0 := cell_of_one HR3.out.var
  clear hrow
  go_wp2_with fail
  go_ret
  exact ⟨ao, cap, rfl, HRW.out, HB3.out, HCM.out⟩
theorem below_is {z : Value} {w : World} {T : Nat} {t : Nt} (hT : Tri 75 89 z w T t) {p : Pf} (hp : Gd p) (hlen : (t.list (0, 0)).length ≤ 1000000) :
    Calls Try.prog 30 #[.pointer (some ⟨T, 0, none⟩), pv p] w (Lists w (((t.list (0, 0)).filter fun x => decide (In p x.1)).map Prod.fst)) := by
  rw [← Nt.sub_filter t (0, 0) p gd_root hp (in_root hp) hT.wf]
  refine below_by (fun W hW => find_is (hT.below hW) hp) fun W hW hR => ?_
  refine below_goes ⟨_, hR⟩ (hT.lies.below hW).sub (fun k hk e => ?_) hp (Nt.sub_wf t (0, 0) p gd_root hp (in_root hp) hT.wf) ?_
  · have := hT.lt k (by simp [Nt.own_sub k hk])
    omega
  · rw [Nt.sub_filter t (0, 0) p gd_root hp (in_root hp) hT.wf]
    exact Nat.le_trans (List.length_filter_le _ _) hlen
theorem below_none {TV : Value} {p : Pf} {w : World} (CF : ∀ W, Calls Try.prog 53 #[TV, pv p] W fun e w' => e = .returned (.pointer none) ∧ Below W.heap.size W w') : Calls Try.prog 30 #[TV, pv p] w (Lists w []) := by
  refine below_by (fun W _ => CF W) fun W hW hR => ?_
  refine Calls.mono (over_nil p _ W) ?_
  rintro e w' ⟨rfl, hb⟩
  exact ⟨rfl, _, _, hR.keep fun k hk => hb.block k (hR.inS k hk), Keep.of hb⟩
theorem below_nil (p : Pf) (w : World) : Calls Try.prog 30 #[.pointer none, pv p] w (Lists w []) := below_none fun W => find_nil p W
theorem below_bad (T : Nat) (p : Pf) (w : World) (h0 : 0 ≤ p.1) (h1 : p.1 ≤ 4294967295) (hm : Ad.may p.1 p.2 = false) : Calls Try.prog 30 #[.pointer (some ⟨T, 0, none⟩), pv p] w (Lists w []) := below_none fun W => find_bad T p W h0 h1 hm
end Go.Proofs.Ytechocnednepiaa
