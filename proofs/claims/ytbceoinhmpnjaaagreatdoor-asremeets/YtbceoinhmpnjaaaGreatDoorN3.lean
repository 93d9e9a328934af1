import Derived.Test.YtbceoinhmpnjaaaGreatDoorN1
/- The document's Met: a row. -/
namespace Go.Proofs.YtbceoinhmpnjaaaGreatDoor
open Go.RowKit Go.Sort

/-- What is known of a node's kids, and that Met answers of each. -/
structure KidsOk (w : World) (p : List Int) (ao : Option Addr) (ca : Nat) (ko : Option Addr) (b off : Nat) (css : Nat → List Value) (ks : List Tr) : Prop where
  len : ks.length ≤ 100000
  at_ : ks = [] ∨ ko = some ⟨b, off, none⟩
  six : ∀ i, i < ks.length → Six w b (off + i * 6) (css i)
  val : ∀ i, i < ks.length → ∃ y0 y1 y2 y3 y4 y5, css i = [y0, y1, y2, y3, y4, y5]
  met : ∀ i (h : i < ks.length) W, Below w.heap.size w W → Calls Tryz.prog 20 #[.agg (css i).toArray, .slice ao p.length ca] W (TbPost W (Tr.tb p ks[i]))

set_option maxHeartbeats 8000000 in
set_option maxRecDepth 100000 in
theorem refMet_row {w : World} {p : List Int} {ao : Option Addr} {ca : Nat} {ko : Option Addr} {b off : Nat} {css : Nat → List Value} {ks : List Tr} (hp : p.length ≤ 16) (H : KidsOk w p ao ca ko b off css ks) (d s : Bool) (x3 x4 : Value) (_h3 : x3.oneCell' = true) (_h4 : x4.oneCell' = true) (kc : Nat) (W : World) (hW : Below w.heap.size w W) :
    Calls Tryz.prog 20 #[.agg #[.int .i64 1, .bool d, .bool s, x3, x4, .slice ko ks.length kc], .slice ao p.length ca] W (TbPost W (Tr.tbRow p (fun i j => i == j) ks)) := by
  have Z := zero44
  have HZ := hide tab_zs
  generalize zs = z at Z HZ
  have M0 := hide (MS.start W (.int .i64 1) (.bool d) (.bool s) x3 x4 (.slice ko ks.length kc) HZ.out)
  have HK := hide H
  have HW := hide hW
  have hlen := H.len
  have hb3 : b ≠ W.heap.size + 1 + 1 ∨ ks = [] := by
    rcases Nat.eq_zero_or_pos ks.length with h0 | h0
    · exact .inr (List.length_eq_zero_iff.1 h0)
    · left
      have h1 := H.six 0 h0
      obtain ⟨y0, y1, y2, y3, y4, y5, hy⟩ := H.val 0 h0
      rw [hy] at h1
      have h2 := block_lt_of_cell (six_at h1).1
      have h3 := hW.size
      simp only at h2
      omega
  have HB := hide hb3
  clear H hW hb3
  go_enter Tryz.func20, Tryz.ntmps20
  go_wp2_with fail
  refine (refEmpty_l _).mono ?_
  rintro e w2 ⟨⟨l2, rfl, hl2⟩, hb2⟩
  have M2 := hide (M0.out.below hb2)
  have HL2 := hide hl2
  have T2 : Hid (w2.there (W.heap.size + 1 + 1) 0 l2.toArray.size) := by
    obtain ⟨_, _, _, ht⟩ := tabAt_list M2.out.tab
    have := hl2.len
    show World.there _ _ _ _
    simpa [this] using ht
  have M3 := hide (M2.out.set hl2)
  clear hb2 hl2 M0
  go_wp2_with (refine wpList_store_mid rfl 44 (.tmp 5) (.tmp 92) rfl _ _ l2.toArray rfl rfl T2.out HL2.out.infoA (tab_one HL2.out) ?_)
  change Code.wp _ _ _ _ (w2.setCells (W.heap.size + 1 + 1) 0 l2)
  generalize w2.setCells (W.heap.size + 1 + 1) 0 l2 = W3 at *
  clear M2 HL2 T2
  go_loopw [9] (fun v9 wr => ∃ i : Nat, v9 = .int .i64 i ∧ i ≤ ks.length ∧ Hid (MS W (.int .i64 1) (.bool d) (.bool s) x3 x4 (.slice ko ks.length kc) (Tr.tbRow p (fun i j => i == j) (ks.take i)) wr)) (fun v9 _ => ks.length - (intOf v9).toNat)
  case atStart => exact ⟨0, rfl, Nat.zero_le _, by rw [List.take_zero, Tr.tbRow]; exact M3⟩
  case round =>
    obtain ⟨i, rfl, hi, MR⟩ := hrel
    by_cases hil : i < ks.length
    · have hil' : (i : Int) < (ks.length : Int) := by omega
      have hko : ko = some ⟨b, off, none⟩ := by
        rcases HK.out.at_ with h | h
        · rw [h] at hil; simp at hil
        · exact h
      have hbg : b ≠ W.heap.size + 1 + 1 := by
        rcases HB.out with h | h
        · exact h
        · rw [h] at hil; simp at hil
      subst hko
      obtain ⟨y0, y1, y2, y3, y4, y5, hy⟩ := HK.out.val i hil
      have h6 := six_below (HK.out.six i hil) (bthen HW.out (MR.out.drew).bel)
      have CK := hide (HK.out.met i hil wr.drew (bthen HW.out (MR.out.drew).bel))
      have HN := hide (Tr.tbRow_step p (fun i j => i == j) ks i hil)
      rw [hy] at h6 CK
      generalize Tr.tb p ks[i] = TK at CK HN
      generalize Tr.tbRow p (fun i j => i == j) (ks.take i) = TR at MR HN
      obtain ⟨lr, hlr, hrr, htr⟩ := tabAt_list MR.out.drew.tab
      have c5 := MR.out.box.2.2.2.2.2
      have S0 : Hid (SK W.heap.size b (off + i * 6) (.slice (some ⟨b, off, none⟩) ks.length kc) y0 y1 y2 y3 y4 y5 wr.drew) := ⟨htr, MR.out.drew.box.2.2.2.2.2, six_at h6⟩
      have HLR := hide hlr
      have RR := hide hrr
      have L0 := run_loadAt_mid (P := Tryz.prog) wr.drew (W.heap.size + 1 + 1) 0 44 lr _ hrr Tryz.underlying44 rfl hlr.info
      obtain ⟨e0, e1, e2, e3, e4, e5⟩ := six_at h6
      clear h6 hy htr hlr hrr
      go_wp2_with fail
      refine wp_region_held_drew (S := fun w' => w'.there (W.heap.size + 1 + 1) 0 289 ∧ w'.cell? ⟨W.heap.size, 5, none⟩ = some (.slice (some ⟨b, off, none⟩) ks.length kc) ∧ w'.cell? ⟨b, off + i * 6, none⟩ = some y0 ∧ w'.cell? ⟨b, off + i * 6 + 1, none⟩ = some y1 ∧ w'.cell? ⟨b, off + i * 6 + 2, none⟩ = some y2 ∧ w'.cell? ⟨b, off + i * 6 + 3, none⟩ = some y3 ∧ w'.cell? ⟨b, off + i * 6 + 4, none⟩ = some y4 ∧ w'.cell? ⟨b, off + i * 6 + 5, none⟩ = some y5) (by kernel_rfl) S0.out (fun hHeld => ?_)
      refine wpAnyH_take (i := 1) (v := .pointer (some ⟨W.heap.size, 5, none⟩)) rfl (by kernel_rfl) (by kernel_rfl) (by kernel_rfl) (fun _ _ _ h => h) (Or.inl ⟨by rfl, fun w hSw => by dsimp only at hSw; go_simp⟩) hHeld ?_
      simp only [Act.put, List.getElem_toArray, List.getElem_cons_zero, List.getElem_cons_succ, List.setIfInBounds_toArray, List.set_cons_zero, List.set_cons_succ]
      refine wpAnyH_take (i := 2) (v := .slice (some ⟨b, off, none⟩) ks.length kc) rfl (by kernel_rfl) (by kernel_rfl) (by kernel_rfl) (fun _ _ _ h => h) (Or.inl ⟨by rfl, fun w hSw => by dsimp only at hSw; go_simp⟩) hHeld ?_
      simp only [Act.put, List.getElem_toArray, List.getElem_cons_zero, List.getElem_cons_succ, List.setIfInBounds_toArray, List.set_cons_zero, List.set_cons_succ]
      refine wpAnyH_take (i := 3) (v := .int .i64 i) rfl (by kernel_rfl) (by kernel_rfl) (by kernel_rfl) (fun _ _ _ h => h) (Or.inl ⟨by rfl, fun w hSw => by dsimp only at hSw; go_simp⟩) hHeld ?_
      simp only [Act.put, List.getElem_toArray, List.getElem_cons_zero, List.getElem_cons_succ, List.setIfInBounds_toArray, List.set_cons_zero, List.set_cons_succ]
      refine wpAnyH_take (i := 4) (v := .pointer (some ⟨b, off + i * 6, none⟩)) rfl (by kernel_rfl) (by kernel_rfl) (by kernel_rfl) (fun _ _ _ h => h) (Or.inl ⟨by rfl, fun w hSw => by dsimp only at hSw; go_simp⟩) hHeld ?_
      simp only [Act.put, List.getElem_toArray, List.getElem_cons_zero, List.getElem_cons_succ, List.setIfInBounds_toArray, List.set_cons_zero, List.set_cons_succ]
      refine wpAnyH_take (i := 5) (v := .agg #[y0, y1, y2, y3, y4, y5]) rfl (by kernel_rfl) (by kernel_rfl) (by kernel_rfl) (fun _ _ _ h => h) (Or.inl ⟨by rfl, fun w hSw => by dsimp only at hSw; go_simp⟩) hHeld ?_
      simp only [Act.put, List.getElem_toArray, List.getElem_cons_zero, List.getElem_cons_succ, List.setIfInBounds_toArray, List.set_cons_zero, List.set_cons_succ]
      refine wpAnyH_take (i := 6) (v := .slice ao p.length ca) rfl (by kernel_rfl) (by kernel_rfl) (by kernel_rfl) (fun _ _ _ h => h) (Or.inl ⟨by rfl, fun w hSw => by dsimp only at hSw; go_simp⟩) hHeld ?_
      simp only [Act.put, List.getElem_toArray, List.getElem_cons_zero, List.getElem_cons_succ, List.setIfInBounds_toArray, List.set_cons_zero, List.set_cons_succ]
      refine wpAnyH_take (i := 8) (v := .int .i64 p.length) rfl (by kernel_rfl) (by kernel_rfl) (by kernel_rfl) (fun _ _ _ h => h) (Or.inl ⟨by rfl, fun w hSw => by dsimp only at hSw; go_simp⟩) hHeld ?_
      simp only [Act.put, List.getElem_toArray, List.getElem_cons_zero, List.getElem_cons_succ, List.setIfInBounds_toArray, List.set_cons_zero, List.set_cons_succ]
      refine wpAnyH_ready (rs := [0, 7]) (by kernel_rfl) (by simp) ?_
      refine AllReadyH.cons rfl (fun K hK => ?_) ?_
      rotate_left
      refine AllReadyH.cons rfl (fun K hK => ?_) AllReadyH.nil
      rotate_left
      rw [if_pos (by rfl)]
      refine wp_load_mid 44 (.tmp 5) rfl _ _ rfl lr _ RR.out Tryz.underlying44 rfl HLR.out.info ?_
      simp only [Act.put, List.getElem_toArray, List.getElem_cons_zero, List.setIfInBounds_toArray, List.set_cons_zero, List.set_cons_succ]
      refine hK.out _ _ hHeld (fun hHeld => ?_)
      clear hK K
      refine wpAnyH_ready (rs := [7]) (by kernel_rfl) (by simp) ?_
      refine AllReadyH.cons rfl (fun K hK => ?_) AllReadyH.nil
      go_simp
      go_wp2_with (go_at_call 20; refine CK.out.mono ?_; rintro e w4 ⟨⟨l4, rfl, h4l⟩, hb4⟩; have M4 := hide (MR.out.drew.below hb4); have S1 := hide (S0.out.below hb4); have R4 := hide (range_below RR.out hb4); have H4 := hide h4l; clear hb4 h4l)
      refine hK.out _ _ S1.out (fun hHeld => ?_)
      clear hK K
      rotate_left
      go_simp
      go_wp2_with (go_at_call 20; refine CK.out.mono ?_; rintro e w4 ⟨⟨l4, rfl, h4l⟩, hb4⟩; have M4 := hide (MR.out.drew.below hb4); have S1 := hide (S0.out.below hb4); have R4 := hide (range_below RR.out hb4); have H4 := hide h4l; clear hb4 h4l)
      refine hK.out _ _ S1.out (fun hHeld => ?_)
      clear hK K
      refine wpAnyH_ready (rs := [0]) (by kernel_rfl) (by simp) ?_
      refine AllReadyH.cons rfl (fun K hK => ?_) AllReadyH.nil
      rw [if_pos (by rfl)]
      refine wp_load_mid 44 (.tmp 5) rfl _ _ rfl lr _ R4.out Tryz.underlying44 rfl HLR.out.info ?_
      simp only [Act.put, List.getElem_toArray, List.getElem_cons_zero, List.setIfInBounds_toArray, List.set_cons_zero, List.set_cons_succ]
      refine hK.out _ _ hHeld (fun hHeld => ?_)
      clear hK K
      all_goals
        refine wpAnyH_ready (rs := [9]) (by kernel_rfl) (by simp) ?_
        refine AllReadyH.cons rfl (fun K hK => ?_) AllReadyH.nil
        go_simp
        go_wp2_with (go_at_call 37; refine (refThen_l HLR.out H4.out p.length hp w4).mono ?_; rintro e w5 ⟨⟨l5, rfl, h5l⟩, hb5⟩; have M5 := hide (M4.out.below hb5); have S2 := hide (S1.out.below hb5); have H5 := hide h5l; clear hb5 h5l)
        refine hK.out _ _ S2.out (fun hHeld => ?_)
        clear hK K
        refine wpAnyH_ready (rs := [10]) (by kernel_rfl) (by simp) ?_
        refine AllReadyH.cons rfl (fun K hK => ?_) AllReadyH.nil
        rw [if_pos (by rfl)]
        refine wp_store_mid 44 (.tmp 5) (.tmp 109) rfl _ _ l5.toArray rfl rfl (by have := H5.out.len; simpa [this] using S2.out.1) H5.out.infoA (tab_one H5.out) ?_
        simp only [Act.put, List.getElem_toArray, List.getElem_cons_zero, List.getElem_cons_succ]
        refine hK.out _ _ (S2.out.set hbg _) (fun hHeld => ?_)
        clear hK K
        refine wpAnyH_done (by kernel_rfl) ?_ _
        go_wp2_with fail
        refine ⟨⟨i + 1, by go_num, by omega, ?_⟩, by simp [intOf] <;> omega⟩
        rw [HN.out]
        exact hide (M5.out.set H5.out)
    · have hil' : ¬ (i : Int) < (ks.length : Int) := by omega
      have c5 := MR.out.box.2.2.2.2.2
      rw [List.take_of_length_le (by omega)] at MR
      obtain ⟨lr, hlr, hrr, htr⟩ := tabAt_list MR.out.tab
      obtain ⟨_, _, _, hts⟩ := tabAt_list MR.out.res
      have RR := hide hrr
      have HLR := hide hlr
      have TS : Hid (wr.there (W.heap.size + 1) 0 lr.toArray.size) := by
        have := hlr.len
        show World.there _ _ _ _
        simpa [this] using hts
      have HG := hide (MR.out.done hlr)
      clear hlr hrr htr hts
      go_wp2_with (first | (refine wpList_load_mid rfl 44 (.tmp 5) rfl _ _ rfl lr _ RR.out Tryz.underlying44 rfl HLR.out.info ?_) | (refine wpList_store_mid rfl 44 (.tmp 4) (.tmp 138) rfl _ _ lr.toArray rfl rfl TS.out HLR.out.infoA (tab_one HLR.out) ?_))
      exact bodyPost_ret (v := .agg lr.toArray) (results_cell_row Tryz.results20 _ _ _ 44 lr.toArray _ _ rfl HG.out.1 Tryz.underlying44 rfl HLR.out.infoA) rfl ⟨⟨lr, rfl, HLR.out⟩, HG.out.2⟩
end Go.Proofs.YtbceoinhmpnjaaaGreatDoor

/- The document's Met: a choice. -/
namespace Go.Proofs.YtbceoinhmpnjaaaGreatDoor
open Go.RowKit Go.Sort

set_option maxHeartbeats 8000000 in
set_option maxRecDepth 100000 in
theorem refMet_ch {w : World} {p : List Int} {ao : Option Addr} {ca : Nat} {ko : Option Addr} {b off : Nat} {css : Nat → List Value} {ks : List Tr} (H : KidsOk w p ao ca ko b off css ks) (d s : Bool) (x3 x4 : Value) (_h3 : x3.oneCell' = true) (_h4 : x4.oneCell' = true) (kc : Nat) (W : World) (hW : Below w.heap.size w W) :
    Calls Tryz.prog 20 #[.agg #[.int .i64 2, .bool d, .bool s, x3, x4, .slice ko ks.length kc], .slice ao p.length ca] W (TbPost W (Tr.tbOr p (fun _ _ => false) ks)) := by
  have Z := zero44
  have HZ := hide tab_zs
  generalize zs = z at Z HZ
  have M0 := hide (MS.start W (.int .i64 2) (.bool d) (.bool s) x3 x4 (.slice ko ks.length kc) HZ.out)
  have HK := hide H
  have HW := hide hW
  have hlen := H.len
  have hb3 : b ≠ W.heap.size + 1 + 1 ∨ ks = [] := by
    rcases Nat.eq_zero_or_pos ks.length with h0 | h0
    · exact .inr (List.length_eq_zero_iff.1 h0)
    · left
      have h1 := H.six 0 h0
      obtain ⟨y0, y1, y2, y3, y4, y5, hy⟩ := H.val 0 h0
      rw [hy] at h1
      have h2 := block_lt_of_cell (six_at h1).1
      have h3 := hW.size
      simp only at h2
      omega
  have HB := hide hb3
  clear H hW hb3
  go_enter Tryz.func20, Tryz.ntmps20
  go_wp2_with fail
  generalize ((W.alloc (.cells #[.int .i64 2, .bool d, .bool s, x3, x4, .slice ko ks.length kc] 30)).alloc (.cells z 44)).alloc (.cells z 44) = W3 at *
  go_loopw [10] (fun v9 wr => ∃ i : Nat, v9 = .int .i64 i ∧ i ≤ ks.length ∧ Hid (MS W (.int .i64 2) (.bool d) (.bool s) x3 x4 (.slice ko ks.length kc) (Tr.tbOr p (fun _ _ => false) (ks.take i)) wr)) (fun v9 _ => ks.length - (intOf v9).toNat)
  case atStart => exact ⟨0, rfl, Nat.zero_le _, by rw [List.take_zero, Tr.tbOr]; exact M0⟩
  case round =>
    obtain ⟨i, rfl, hi, MR⟩ := hrel
    by_cases hil : i < ks.length
    · have hil' : (i : Int) < (ks.length : Int) := by omega
      have hko : ko = some ⟨b, off, none⟩ := by
        rcases HK.out.at_ with h | h
        · rw [h] at hil; simp at hil
        · exact h
      have hbg : b ≠ W.heap.size + 1 + 1 := by
        rcases HB.out with h | h
        · exact h
        · rw [h] at hil; simp at hil
      subst hko
      obtain ⟨y0, y1, y2, y3, y4, y5, hy⟩ := HK.out.val i hil
      have h6 := six_below (HK.out.six i hil) (bthen HW.out (MR.out.drew).bel)
      have CK := hide (HK.out.met i hil wr.drew (bthen HW.out (MR.out.drew).bel))
      have HN := hide (Tr.tbOr_step p (fun _ _ => false) ks i hil)
      rw [hy] at h6 CK
      generalize Tr.tb p ks[i] = TK at CK HN
      generalize Tr.tbOr p (fun _ _ => false) (ks.take i) = TR at MR HN
      obtain ⟨lr, hlr, hrr, htr⟩ := tabAt_list MR.out.drew.tab
      have c5 := MR.out.box.2.2.2.2.2
      have S0 : Hid (SK W.heap.size b (off + i * 6) (.slice (some ⟨b, off, none⟩) ks.length kc) y0 y1 y2 y3 y4 y5 wr.drew) := ⟨htr, MR.out.drew.box.2.2.2.2.2, six_at h6⟩
      have HLR := hide hlr
      have RR := hide hrr
      have L0 := run_loadAt_mid (P := Tryz.prog) wr.drew (W.heap.size + 1 + 1) 0 44 lr _ hrr Tryz.underlying44 rfl hlr.info
      obtain ⟨e0, e1, e2, e3, e4, e5⟩ := six_at h6
      clear h6 hy htr hlr hrr
      go_wp2_with fail
      refine wp_region_held_drew (S := fun w' => w'.there (W.heap.size + 1 + 1) 0 289 ∧ w'.cell? ⟨W.heap.size, 5, none⟩ = some (.slice (some ⟨b, off, none⟩) ks.length kc) ∧ w'.cell? ⟨b, off + i * 6, none⟩ = some y0 ∧ w'.cell? ⟨b, off + i * 6 + 1, none⟩ = some y1 ∧ w'.cell? ⟨b, off + i * 6 + 2, none⟩ = some y2 ∧ w'.cell? ⟨b, off + i * 6 + 3, none⟩ = some y3 ∧ w'.cell? ⟨b, off + i * 6 + 4, none⟩ = some y4 ∧ w'.cell? ⟨b, off + i * 6 + 5, none⟩ = some y5) (by kernel_rfl) S0.out (fun hHeld => ?_)
      refine wpAnyH_take (i := 1) (v := .pointer (some ⟨W.heap.size, 5, none⟩)) rfl (by kernel_rfl) (by kernel_rfl) (by kernel_rfl) (fun _ _ _ h => h) (Or.inl ⟨by rfl, fun w hSw => by dsimp only at hSw; go_simp⟩) hHeld ?_
      simp only [Act.put, List.getElem_toArray, List.getElem_cons_zero, List.getElem_cons_succ, List.setIfInBounds_toArray, List.set_cons_zero, List.set_cons_succ]
      refine wpAnyH_take (i := 2) (v := .slice (some ⟨b, off, none⟩) ks.length kc) rfl (by kernel_rfl) (by kernel_rfl) (by kernel_rfl) (fun _ _ _ h => h) (Or.inl ⟨by rfl, fun w hSw => by dsimp only at hSw; go_simp⟩) hHeld ?_
      simp only [Act.put, List.getElem_toArray, List.getElem_cons_zero, List.getElem_cons_succ, List.setIfInBounds_toArray, List.set_cons_zero, List.set_cons_succ]
      refine wpAnyH_take (i := 3) (v := .int .i64 i) rfl (by kernel_rfl) (by kernel_rfl) (by kernel_rfl) (fun _ _ _ h => h) (Or.inl ⟨by rfl, fun w hSw => by dsimp only at hSw; go_simp⟩) hHeld ?_
      simp only [Act.put, List.getElem_toArray, List.getElem_cons_zero, List.getElem_cons_succ, List.setIfInBounds_toArray, List.set_cons_zero, List.set_cons_succ]
      refine wpAnyH_take (i := 4) (v := .pointer (some ⟨b, off + i * 6, none⟩)) rfl (by kernel_rfl) (by kernel_rfl) (by kernel_rfl) (fun _ _ _ h => h) (Or.inl ⟨by rfl, fun w hSw => by dsimp only at hSw; go_simp⟩) hHeld ?_
      simp only [Act.put, List.getElem_toArray, List.getElem_cons_zero, List.getElem_cons_succ, List.setIfInBounds_toArray, List.set_cons_zero, List.set_cons_succ]
      refine wpAnyH_take (i := 5) (v := .agg #[y0, y1, y2, y3, y4, y5]) rfl (by kernel_rfl) (by kernel_rfl) (by kernel_rfl) (fun _ _ _ h => h) (Or.inl ⟨by rfl, fun w hSw => by dsimp only at hSw; go_simp⟩) hHeld ?_
      simp only [Act.put, List.getElem_toArray, List.getElem_cons_zero, List.getElem_cons_succ, List.setIfInBounds_toArray, List.set_cons_zero, List.set_cons_succ]
      refine wpAnyH_take (i := 6) (v := .slice ao p.length ca) rfl (by kernel_rfl) (by kernel_rfl) (by kernel_rfl) (fun _ _ _ h => h) (Or.inl ⟨by rfl, fun w hSw => by dsimp only at hSw; go_simp⟩) hHeld ?_
      simp only [Act.put, List.getElem_toArray, List.getElem_cons_zero, List.getElem_cons_succ, List.setIfInBounds_toArray, List.set_cons_zero, List.set_cons_succ]
      refine wpAnyH_ready (rs := [0, 7]) (by kernel_rfl) (by simp) ?_
      refine AllReadyH.cons rfl (fun K hK => ?_) ?_
      rotate_left
      refine AllReadyH.cons rfl (fun K hK => ?_) AllReadyH.nil
      rotate_left
      rw [if_pos (by rfl)]
      refine wp_load_mid 44 (.tmp 5) rfl _ _ rfl lr _ RR.out Tryz.underlying44 rfl HLR.out.info ?_
      simp only [Act.put, List.getElem_toArray, List.getElem_cons_zero, List.setIfInBounds_toArray, List.set_cons_zero, List.set_cons_succ]
      refine hK.out _ _ hHeld (fun hHeld => ?_)
      clear hK K
      refine wpAnyH_ready (rs := [7]) (by kernel_rfl) (by simp) ?_
      refine AllReadyH.cons rfl (fun K hK => ?_) AllReadyH.nil
      go_simp
      go_wp2_with (go_at_call 20; refine CK.out.mono ?_; rintro e w4 ⟨⟨l4, rfl, h4l⟩, hb4⟩; have M4 := hide (MR.out.drew.below hb4); have S1 := hide (S0.out.below hb4); have R4 := hide (range_below RR.out hb4); have H4 := hide h4l; clear hb4 h4l)
      refine hK.out _ _ S1.out (fun hHeld => ?_)
      clear hK K
      rotate_left
      go_simp
      go_wp2_with (go_at_call 20; refine CK.out.mono ?_; rintro e w4 ⟨⟨l4, rfl, h4l⟩, hb4⟩; have M4 := hide (MR.out.drew.below hb4); have S1 := hide (S0.out.below hb4); have R4 := hide (range_below RR.out hb4); have H4 := hide h4l; clear hb4 h4l)
      refine hK.out _ _ S1.out (fun hHeld => ?_)
      clear hK K
      refine wpAnyH_ready (rs := [0]) (by kernel_rfl) (by simp) ?_
      refine AllReadyH.cons rfl (fun K hK => ?_) AllReadyH.nil
      rw [if_pos (by rfl)]
      refine wp_load_mid 44 (.tmp 5) rfl _ _ rfl lr _ R4.out Tryz.underlying44 rfl HLR.out.info ?_
      simp only [Act.put, List.getElem_toArray, List.getElem_cons_zero, List.setIfInBounds_toArray, List.set_cons_zero, List.set_cons_succ]
      refine hK.out _ _ hHeld (fun hHeld => ?_)
      clear hK K
      all_goals
        refine wpAnyH_ready (rs := [8]) (by kernel_rfl) (by simp) ?_
        refine AllReadyH.cons rfl (fun K hK => ?_) AllReadyH.nil
        go_simp
        go_wp2_with (go_at_call 38; refine (refOr_l HLR.out H4.out w4).mono ?_; rintro e w5 ⟨⟨l5, rfl, h5l⟩, hb5⟩; have M5 := hide (M4.out.below hb5); have S2 := hide (S1.out.below hb5); have H5 := hide h5l; clear hb5 h5l)
        refine hK.out _ _ S2.out (fun hHeld => ?_)
        clear hK K
        refine wpAnyH_ready (rs := [9]) (by kernel_rfl) (by simp) ?_
        refine AllReadyH.cons rfl (fun K hK => ?_) AllReadyH.nil
        rw [if_pos (by rfl)]
        refine wp_store_mid 44 (.tmp 5) (.tmp 127) rfl _ _ l5.toArray rfl rfl (by have := H5.out.len; simpa [this] using S2.out.1) H5.out.infoA (tab_one H5.out) ?_
        simp only [Act.put, List.getElem_toArray, List.getElem_cons_zero, List.getElem_cons_succ]
        refine hK.out _ _ (S2.out.set hbg _) (fun hHeld => ?_)
        clear hK K
        refine wpAnyH_done (by kernel_rfl) ?_ _
        go_wp2_with fail
        refine ⟨⟨i + 1, by go_num, by omega, ?_⟩, by simp [intOf] <;> omega⟩
        rw [HN.out]
        exact hide (M5.out.set H5.out)
    · have hil' : ¬ (i : Int) < (ks.length : Int) := by omega
      have c5 := MR.out.box.2.2.2.2.2
      rw [List.take_of_length_le (by omega)] at MR
      obtain ⟨lr, hlr, hrr, htr⟩ := tabAt_list MR.out.tab
      obtain ⟨_, _, _, hts⟩ := tabAt_list MR.out.res
      have RR := hide hrr
      have HLR := hide hlr
      have TS : Hid (wr.there (W.heap.size + 1) 0 lr.toArray.size) := by
        have := hlr.len
        show World.there _ _ _ _
        simpa [this] using hts
      have HG := hide (MR.out.done hlr)
      clear hlr hrr htr hts
      go_wp2_with (first | (refine wpList_load_mid rfl 44 (.tmp 5) rfl _ _ rfl lr _ RR.out Tryz.underlying44 rfl HLR.out.info ?_) | (refine wpList_store_mid rfl 44 (.tmp 4) (.tmp 138) rfl _ _ lr.toArray rfl rfl TS.out HLR.out.infoA (tab_one HLR.out) ?_))
      exact bodyPost_ret (v := .agg lr.toArray) (results_cell_row Tryz.results20 _ _ _ 44 lr.toArray _ _ rfl HG.out.1 Tryz.underlying44 rfl HLR.out.infoA) rfl ⟨⟨lr, rfl, HLR.out⟩, HG.out.2⟩
end Go.Proofs.YtbceoinhmpnjaaaGreatDoor

