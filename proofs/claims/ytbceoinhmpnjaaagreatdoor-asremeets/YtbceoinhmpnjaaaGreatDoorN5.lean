import Derived.Test.YtbceoinhmpnjaaaGreatDoorN3
/- The document's Met: once or not. -/
namespace Go.Proofs.YtbceoinhmpnjaaaGreatDoor
open Go.RowKit Go.Sort

/-- The first kid's cells, and that Met answers of it. -/
theorem KidsOk.first {w : World} {p : List Int} {ao : Option Addr} {ca : Nat} {ko : Option Addr} {b off : Nat} {css : Nat → List Value} {ks : List Tr} (H : KidsOk w p ao ca ko b off css ks) (h0 : 0 < ks.length) :
    ko = some ⟨b, off, none⟩ ∧ ∃ y0 y1 y2 y3 y4 y5, Six w b off [y0, y1, y2, y3, y4, y5] ∧ b < w.heap.size ∧ ∀ W, Below w.heap.size w W → Calls Tryz.prog 20 #[.agg #[y0, y1, y2, y3, y4, y5], .slice ao p.length ca] W (TbPost W (Tr.tb1 p ks)) := by
  obtain ⟨y0, y1, y2, y3, y4, y5, hy⟩ := H.val 0 h0
  have h6 := H.six 0 h0
  have hm := H.met 0 h0
  rw [hy] at h6 hm
  rw [Nat.zero_mul, Nat.add_zero] at h6
  refine ⟨?_, y0, y1, y2, y3, y4, y5, h6, block_lt_of_cell (six_at h6).1, ?_⟩
  · rcases H.at_ with h | h
    · rw [h] at h0; simp at h0
    · exact h
  · cases ks with
    | nil => simp at h0
    | cons x r => intro W hW; have := hm W hW; rw [Tr.tb1]; exact this

set_option maxHeartbeats 8000000 in
set_option maxRecDepth 100000 in
theorem refMet_opt {w : World} {p : List Int} {ao : Option Addr} {ca : Nat} {ko : Option Addr} {b off : Nat} {css : Nat → List Value} {ks : List Tr} (H : KidsOk w p ao ca ko b off css ks) (h0 : 0 < ks.length) (d s : Bool) (x3 x4 : Value) (_h3 : x3.oneCell' = true) (_h4 : x4.oneCell' = true) (kc : Nat) (W : World) (hW : Below w.heap.size w W) :
    Calls Tryz.prog 20 #[.agg #[.int .i64 5, .bool d, .bool s, x3, x4, .slice ko ks.length kc], .slice ao p.length ca] W (TbPost W fun i j => (i == j) || Tr.tb1 p ks i j) := by
  have Z := zero44
  have HZ := hide tab_zs
  generalize zs = z at Z HZ
  have M0 := hide (MS.start W (.int .i64 5) (.bool d) (.bool s) x3 x4 (.slice ko ks.length kc) HZ.out)
  obtain ⟨hko, y0, y1, y2, y3, y4, y5, h6, hlt, hm⟩ := H.first h0
  subst hko
  have CK := hide hm
  have HW := hide hW
  have hlen := H.len
  have h0' : (0 : Int) < (ks.length : Int) := by omega
  have hbg : b ≠ W.heap.size + 1 + 1 := by have := hW.size; omega
  have H6 := hide h6
  clear H hW h6 hm
  generalize Tr.tb1 p ks = TK at CK ⊢
  go_enter Tryz.func20, Tryz.ntmps20
  go_wp2_with fail
  generalize ((W.alloc (.cells #[.int .i64 5, .bool d, .bool s, x3, x4, .slice (some ⟨b, off, none⟩) ks.length kc] 30)).alloc (.cells z 44)).alloc (.cells z 44) = W3 at *
  have S0 : Hid (SK W.heap.size b off (.slice (some ⟨b, off, none⟩) ks.length kc) y0 y1 y2 y3 y4 y5 W3.drew) := by
    obtain ⟨_, _, _, ht⟩ := tabAt_list M0.out.drew.tab
    exact ⟨ht, M0.out.drew.box.2.2.2.2.2, six_at (six_below H6.out (bthen HW.out M0.out.drew.bel))⟩
  refine wp_region_held_drew (S := fun w' => w'.there (W.heap.size + 1 + 1) 0 289 ∧ w'.cell? ⟨W.heap.size, 5, none⟩ = some (.slice (some ⟨b, off, none⟩) ks.length kc) ∧ w'.cell? ⟨b, off, none⟩ = some y0 ∧ w'.cell? ⟨b, off + 1, none⟩ = some y1 ∧ w'.cell? ⟨b, off + 2, none⟩ = some y2 ∧ w'.cell? ⟨b, off + 3, none⟩ = some y3 ∧ w'.cell? ⟨b, off + 4, none⟩ = some y4 ∧ w'.cell? ⟨b, off + 5, none⟩ = some y5) (by kernel_rfl) S0.out (fun hHeld => ?_)
  refine wpAnyH_take (i := 1) (v := .pointer (some ⟨W.heap.size, 5, none⟩)) rfl (by kernel_rfl) (by kernel_rfl) (by kernel_rfl) (fun _ _ _ h => h) (Or.inl ⟨by rfl, fun w hSw => by dsimp only at hSw; go_simp⟩) hHeld ?_
  simp only [Act.put, List.getElem_toArray, List.getElem_cons_zero, List.getElem_cons_succ, List.setIfInBounds_toArray, List.set_cons_zero, List.set_cons_succ]
  refine wpAnyH_take (i := 2) (v := .slice (some ⟨b, off, none⟩) ks.length kc) rfl (by kernel_rfl) (by kernel_rfl) (by kernel_rfl) (fun _ _ _ h => h) (Or.inl ⟨by rfl, fun w hSw => by dsimp only at hSw; go_simp⟩) hHeld ?_
  simp only [Act.put, List.getElem_toArray, List.getElem_cons_zero, List.getElem_cons_succ, List.setIfInBounds_toArray, List.set_cons_zero, List.set_cons_succ]
  refine wpAnyH_take (i := 3) (v := .pointer (some ⟨b, off, none⟩)) rfl (by kernel_rfl) (by kernel_rfl) (by kernel_rfl) (fun _ _ _ h => h) (Or.inl ⟨by rfl, fun w hSw => by dsimp only at hSw; go_simp⟩) hHeld ?_
  simp only [Act.put, List.getElem_toArray, List.getElem_cons_zero, List.getElem_cons_succ, List.setIfInBounds_toArray, List.set_cons_zero, List.set_cons_succ]
  refine wpAnyH_take (i := 4) (v := .agg #[y0, y1, y2, y3, y4, y5]) rfl (by kernel_rfl) (by kernel_rfl) (by kernel_rfl) (fun _ _ _ h => h) (Or.inl ⟨by rfl, fun w hSw => by dsimp only at hSw; go_simp⟩) hHeld ?_
  simp only [Act.put, List.getElem_toArray, List.getElem_cons_zero, List.getElem_cons_succ, List.setIfInBounds_toArray, List.set_cons_zero, List.set_cons_succ]
  refine wpAnyH_take (i := 5) (v := .slice ao p.length ca) rfl (by kernel_rfl) (by kernel_rfl) (by kernel_rfl) (fun _ _ _ h => h) (Or.inl ⟨by rfl, fun w hSw => by dsimp only at hSw; go_simp⟩) hHeld ?_
  simp only [Act.put, List.getElem_toArray, List.getElem_cons_zero, List.getElem_cons_succ, List.setIfInBounds_toArray, List.set_cons_zero, List.set_cons_succ]
  refine wpAnyH_ready (rs := [0]) (by kernel_rfl) (by simp) ?_
  refine AllReadyH.cons rfl (fun K hK => ?_) AllReadyH.nil
  go_simp
  go_wp2_with (go_at_call 36; refine (refEmpty_l _).mono ?_; rintro e w4 ⟨⟨l4, rfl, h4l⟩, hb4⟩; have M4 := hide (M0.out.drew.below hb4); have S1 := hide (S0.out.below hb4); have H4 := hide h4l; clear hb4 h4l)
  refine hK.out _ _ S1.out (fun hHeld => ?_)
  clear hK K
  refine wpAnyH_ready (rs := [6]) (by kernel_rfl) (by simp) ?_
  refine AllReadyH.cons rfl (fun K hK => ?_) AllReadyH.nil
  go_simp
  go_wp2_with (go_at_call 20; refine (CK.out w4 (bthen HW.out M4.out.bel)).mono ?_; rintro e w5 ⟨⟨l5, rfl, h5l⟩, hb5⟩; have M5 := hide (M4.out.below hb5); have S2 := hide (S1.out.below hb5); have H5 := hide h5l; clear hb5 h5l)
  refine hK.out _ _ S2.out (fun hHeld => ?_)
  clear hK K
  refine wpAnyH_ready (rs := [7]) (by kernel_rfl) (by simp) ?_
  refine AllReadyH.cons rfl (fun K hK => ?_) AllReadyH.nil
  go_simp
  go_wp2_with (go_at_call 38; refine (refOr_l H4.out H5.out w5).mono ?_; rintro e w6 ⟨⟨l6, rfl, h6l⟩, hb6⟩; have M6 := hide (M5.out.below hb6); have S3 := hide (S2.out.below hb6); have H6 := hide h6l; clear hb6 h6l)
  refine hK.out _ _ S3.out (fun hHeld => ?_)
  clear hK K
  refine wpAnyH_ready (rs := [8]) (by kernel_rfl) (by simp) ?_
  refine AllReadyH.cons rfl (fun K hK => ?_) AllReadyH.nil
  rw [if_pos (by rfl)]
  refine wp_store_mid 44 (.tmp 5) (.tmp 137) rfl _ _ l6.toArray rfl rfl (by have := H6.out.len; simpa [this] using S3.out.1) H6.out.infoA (tab_one H6.out) ?_
  simp only [Act.put, List.getElem_toArray, List.getElem_cons_zero, List.getElem_cons_succ]
  refine hK.out _ _ (S3.out.set hbg _) (fun hHeld => ?_)
  clear hK K
  refine wpAnyH_done (by kernel_rfl) ?_ _
  have MR := hide (M6.out.set H6.out)
  change Exit.inBlock 0 _ _ _ (w6.setCells (W.heap.size + 1 + 1) 0 l6)
  generalize w6.setCells (W.heap.size + 1 + 1) 0 l6 = wr at *
  obtain ⟨lr, hlr, hrr, htr⟩ := tabAt_list MR.out.tab
  obtain ⟨_, _, _, hts⟩ := tabAt_list MR.out.res
  have RR := hide hrr
  have HLR := hide hlr
  have TS : Hid (wr.there (W.heap.size + 1) 0 lr.toArray.size) := by
    have := hlr.len
    show World.there _ _ _ _
    simpa [this] using hts
  have HG := hide (MR.out.done hlr)
  clear hlr hrr htr hts
  go_wp2_with (first | (refine wpList_load_mid rfl 44 (.tmp 5) rfl _ _ rfl lr _ RR.out Tryz.underlying44 rfl HLR.out.info ?_) | (refine wpList_store_mid rfl 44 (.tmp 4) (.tmp 138) rfl _ _ lr.toArray rfl rfl TS.out HLR.out.infoA (tab_one HLR.out) ?_))
  exact bodyPost_ret (v := .agg lr.toArray) (results_cell_row Tryz.results20 _ _ _ 44 lr.toArray _ _ rfl HG.out.1 Tryz.underlying44 rfl HLR.out.infoA) rfl ⟨⟨lr, rfl, HLR.out⟩, HG.out.2⟩
end Go.Proofs.YtbceoinhmpnjaaaGreatDoor

/- The document's Met: once or more, any number of times. -/
namespace Go.Proofs.YtbceoinhmpnjaaaGreatDoor
open Go.RowKit Go.Sort

/-- Besides: the table of what is met once. -/
structure MA (W : World) (x0 x1 x2 x3 x4 x5 : Value) (T : Nat → Nat → Bool) (ga : Nat) (A : Nat → Nat → Bool) (wr : World) : Prop where
  ms : MS W x0 x1 x2 x3 x4 x5 T wr
  one : TabAt wr ga A
  lt : W.heap.size + 1 + 1 < ga
section
variable {W wr w' : World} {x0 x1 x2 x3 x4 x5 : Value} {T U A : Nat → Nat → Bool} {ga : Nat}
theorem MA.below (h : MA W x0 x1 x2 x3 x4 x5 T ga A wr) (hb : Below wr.heap.size wr w') : MA W x0 x1 x2 x3 x4 x5 T ga A w' := ⟨h.ms.below hb, tab_below h.one hb (tabAt_lt h.one), h.lt⟩
theorem MA.drew (h : MA W x0 x1 x2 x3 x4 x5 T ga A wr) : MA W x0 x1 x2 x3 x4 x5 T ga A wr.drew := h.below (Below.drew (brefl _))
theorem MA.set (h : MA W x0 x1 x2 x3 x4 x5 T ga A wr) {l : List Value} (hl : TabL U l) : MA W x0 x1 x2 x3 x4 x5 U ga A (wr.setCells (W.heap.size + 1 + 1) 0 l) := by
  refine ⟨h.ms.set hl, ?_, h.lt⟩
  rw [tab_cells h.ms.tab hl]
  exact tab_row h.one (by have := h.lt; omega)
theorem MA.start (h : MS W x0 x1 x2 x3 x4 x5 T wr) {z : Array Value} (hz : Tab (fun _ _ => false) z) {l : List Value} (hl : TabL A l) : MA W x0 x1 x2 x3 x4 x5 T wr.heap.size A ((wr.alloc (.cells z 44)).setCells wr.heap.size 0 l) := by
  have hn := tab_new wr hz
  have hlt := tabAt_lt h.tab
  refine ⟨?_, ⟨_, tab_put hn hl, hl⟩, hlt⟩
  rw [tab_cells hn hl]
  refine h.below ?_
  exact row_bel (balloc (brefl wr) _) (Nat.le_refl _) _
end
def SA (g ga : Nat) (la : List Value) (w' : World) : Prop := w'.there (g + 1 + 1) 0 289 ∧ w'.rangeAt ga 0 la
theorem SA.below {g ga : Nat} {la : List Value} {w w' : World} (h : SA g ga la w) (hb : Below w.heap.size w w') : SA g ga la w' := ⟨there_below h.1 hb, range_below h.2 hb⟩
theorem SA.set {g ga : Nat} {la : List Value} {w : World} (h : SA g ga la w) (hg : ga ≠ g + 1 + 1) (l : List Value) : SA g ga la (w.setCells (g + 1 + 1) 0 l) := ⟨World.there_setCells h.1 _ _ _, World.rangeAt_setCells_apart h.2 _ _ _ (.inl hg)⟩
theorem plusT_step (A : Nat → Nat → Bool) (n m : Nat) : plusT A n (m + 1) = fun i k => plusT A n m i k || thenT (plusT A n m) A n i k := by rw [plusT]

set_option maxHeartbeats 8000000 in
set_option maxRecDepth 100000 in
theorem refMet_plus {w : World} {p : List Int} {ao : Option Addr} {ca : Nat} {ko : Option Addr} {b off : Nat} {css : Nat → List Value} {ks : List Tr} (hp : p.length ≤ 16) (H : KidsOk w p ao ca ko b off css ks) (h0 : 0 < ks.length) (k : Int) (hk : k = 3 ∨ k = 4) (d s : Bool) (x3 x4 : Value) (_h3 : x3.oneCell' = true) (_h4 : x4.oneCell' = true) (kc : Nat) (W : World) (hW : Below w.heap.size w W) (TT : Nat → Nat → Bool) (hTT : TT = if k = 3 then (fun i j => plusT (Tr.tb1 p ks) p.length p.length i j || (i == j)) else plusT (Tr.tb1 p ks) p.length p.length) :
    Calls Tryz.prog 20 #[.agg #[.int .i64 k, .bool d, .bool s, x3, x4, .slice ko ks.length kc], .slice ao p.length ca] W (TbPost W TT) := by
  have Z := zero44
  have HZ := hide tab_zs
  generalize zs = z at Z HZ
  have M0 := hide (MS.start W (.int .i64 k) (.bool d) (.bool s) x3 x4 (.slice ko ks.length kc) HZ.out)
  obtain ⟨hko, y0, y1, y2, y3, y4, y5, h6, hlt, hm⟩ := H.first h0
  subst hko
  have CK := hide hm
  have HW := hide hW
  have HT := hide hTT
  have HKK := hide hk
  have hlen := H.len
  have h0' : (0 : Int) < (ks.length : Int) := by omega
  have q0 : (k == 0) = false := by simp; omega
  have q1 : (k == 1) = false := by simp; omega
  have q2 : (k == 2) = false := by simp; omega
  have q5 : (k == 5) = false := by simp; omega
  have H6 := hide h6
  clear H hW h6 hm hTT hk
  generalize Tr.tb1 p ks = TK at CK HT
  go_enter Tryz.func20, Tryz.ntmps20
  have E6 := six_at (six_below H6.out (bthen HW.out M0.out.bel))
  obtain ⟨e0, e1, e2, e3, e4, e5⟩ := E6
  have c5 := M0.out.box.2.2.2.2.2
  go_wp2_with fail
  refine (CK.out _ (bthen HW.out M0.out.bel)).mono ?_
  rintro e w2 ⟨⟨l2, rfl, hl2⟩, hb2⟩
  have HL2 := hide hl2
  have N0 := hide (MA.start (M0.out.below hb2) HZ.out hl2)
  have N1 := hide (N0.out.set hl2)
  have T2 : Hid ((w2.alloc (.cells z 44)).there w2.heap.size 0 l2.toArray.size) := by
    obtain ⟨_, _, _, ht⟩ := tabAt_list (tab_new w2 HZ.out)
    have := hl2.len
    show World.there _ _ _ _
    simpa [this] using ht
  have R2 : Hid (((w2.alloc (.cells z 44)).setCells w2.heap.size 0 l2).rangeAt w2.heap.size 0 l2) := World.rangeAt_setCells_same _ _ _ _ T2.out
  have T3 : Hid (((w2.alloc (.cells z 44)).setCells w2.heap.size 0 l2).there (W.heap.size + 1 + 1) 0 l2.toArray.size) := by
    obtain ⟨_, _, _, ht⟩ := tabAt_list N0.out.ms.tab
    have := hl2.len
    show World.there _ _ _ _
    simpa [this] using ht
  clear hb2 hl2 e0 e1 e2 e3 e4 e5 c5 M0
  go_wp2_with (first
    | (refine wpList_store_mid rfl 44 (.tmp 11) (.tmp 22) rfl _ _ l2.toArray rfl rfl T2.out HL2.out.infoA (tab_one HL2.out) ?_)
    | (refine wpList_load_mid rfl 44 (.tmp 11) rfl _ _ rfl l2 _ R2.out Tryz.underlying44 rfl HL2.out.info ?_)
    | (refine wpList_store_mid rfl 44 (.tmp 5) (.tmp 23) rfl _ _ l2.toArray rfl rfl T3.out HL2.out.infoA (tab_one HL2.out) ?_))
  change Code.wp _ _ _ _ (((w2.alloc (.cells z 44)).setCells w2.heap.size 0 l2).setCells (W.heap.size + 1 + 1) 0 l2)
  generalize ((w2.alloc (.cells z 44)).setCells w2.heap.size 0 l2).setCells (W.heap.size + 1 + 1) 0 l2 = W3 at *
  generalize w2.heap.size = ga at *
  clear N0 T2 T3 R2 HL2
  have hga : ga ≠ W.heap.size + 1 + 1 := by have := N1.out.lt; omega
  go_loopw [12] (fun v12 wr => ∃ i : Nat, v12 = .int .i64 i ∧ i ≤ p.length ∧ Hid (MA W (.int .i64 k) (.bool d) (.bool s) x3 x4 (.slice (some ⟨b, off, none⟩) ks.length kc) (plusT TK p.length i) ga TK wr)) (fun v12 _ => p.length - (intOf v12).toNat)
  case atStart => exact ⟨0, rfl, Nat.zero_le _, by rw [plusT]; exact N1⟩
  case round =>
    obtain ⟨i, rfl, hi, MR⟩ := hrel
    by_cases hil : i < p.length
    · have hil' : (i : Int) < (p.length : Int) := by omega
      have HN := hide (plusT_step TK p.length i)
      generalize plusT TK p.length i = TR at MR HN
      obtain ⟨lr, hlr, hrr, htr⟩ := tabAt_list MR.out.drew.ms.tab
      obtain ⟨la, hla, hra, _⟩ := tabAt_list MR.out.drew.one
      have S0 : Hid (SA W.heap.size ga la wr.drew) := ⟨htr, hra⟩
      have HLR := hide hlr
      have HLA := hide hla
      have RR := hide hrr
      clear hlr hrr htr hla hra
      go_wp2_with fail
      refine wp_region_held_drew (S := fun w' => w'.there (W.heap.size + 1 + 1) 0 289 ∧ w'.rangeAt ga 0 la) (by kernel_rfl) S0.out (fun hHeld => ?_)
      refine wpAnyH_take (i := 2) (v := .agg la.toArray) rfl (by kernel_rfl) (by kernel_rfl) (by kernel_rfl) (fun _ _ _ h => h) (yieldsIf_load_mid (by rfl) 44 (.tmp 11) rfl _ _ rfl la _ (fun w h => h.2) Tryz.underlying44 rfl HLA.out.info) hHeld ?_
      simp only [Act.put, List.getElem_toArray, List.getElem_cons_zero, List.getElem_cons_succ, List.setIfInBounds_toArray, List.set_cons_zero, List.set_cons_succ]
      refine wpAnyH_take (i := 3) (v := .int .i64 p.length) rfl (by kernel_rfl) (by kernel_rfl) (by kernel_rfl) (fun _ _ _ h => h) (Or.inl ⟨by rfl, fun w hSw => by dsimp only at hSw; go_simp⟩) hHeld ?_
      simp only [Act.put, List.getElem_toArray, List.getElem_cons_zero, List.getElem_cons_succ, List.setIfInBounds_toArray, List.set_cons_zero, List.set_cons_succ]
      refine wpAnyH_ready (rs := [0, 1]) (by kernel_rfl) (by simp) ?_
      refine AllReadyH.cons rfl (fun K hK => ?_) ?_
      rotate_left
      refine AllReadyH.cons rfl (fun K hK => ?_) AllReadyH.nil
      rotate_left
      try rw [if_pos (by rfl)]
      refine wp_load_mid 44 (.tmp 5) rfl _ _ rfl lr _ RR.out Tryz.underlying44 rfl HLR.out.info ?_
      simp only [Act.put, List.getElem_toArray, List.getElem_cons_zero, List.setIfInBounds_toArray, List.set_cons_zero, List.set_cons_succ]
      refine hK.out _ _ hHeld (fun hHeld => ?_)
      clear hK K
      refine wpAnyH_ready (rs := [1]) (by kernel_rfl) (by simp) ?_
      refine AllReadyH.cons rfl (fun K hK => ?_) AllReadyH.nil
      try rw [if_pos (by rfl)]
      refine wp_load_mid 44 (.tmp 5) rfl _ _ rfl lr _ RR.out Tryz.underlying44 rfl HLR.out.info ?_
      simp only [Act.put, List.getElem_toArray, List.getElem_cons_zero, List.getElem_cons_succ, List.setIfInBounds_toArray, List.set_cons_zero, List.set_cons_succ]
      refine hK.out _ _ hHeld (fun hHeld => ?_)
      clear hK K
      refine wpAnyH_ready (rs := [4]) (by kernel_rfl) (by simp) ?_
      refine AllReadyH.cons rfl (fun K hK => ?_) AllReadyH.nil
      focus go_simp
      focus (go_wp2_with (go_at_call 37; refine (refThen_l HLR.out HLA.out p.length hp wr.drew).mono ?_; rintro e w4 ⟨⟨l4, rfl, h4l⟩, hb4⟩; have M4 := hide (MR.out.drew.below hb4); have S1 := hide (SA.below S0.out hb4); have R4 := hide (range_below RR.out hb4); have H4 := hide h4l; clear hb4 h4l))
      refine hK.out _ _ S1.out (fun hHeld => ?_)
      clear hK K
      rotate_left
      try rw [if_pos (by rfl)]
      refine wp_load_mid 44 (.tmp 5) rfl _ _ rfl lr _ RR.out Tryz.underlying44 rfl HLR.out.info ?_
      simp only [Act.put, List.getElem_toArray, List.getElem_cons_zero, List.getElem_cons_succ, List.setIfInBounds_toArray, List.set_cons_zero, List.set_cons_succ]
      refine hK.out _ _ hHeld (fun hHeld => ?_)
      clear hK K
      refine wpAnyH_ready (rs := [0, 4]) (by kernel_rfl) (by simp) ?_
      refine AllReadyH.cons rfl (fun K hK => ?_) ?_
      rotate_left
      refine AllReadyH.cons rfl (fun K hK => ?_) AllReadyH.nil
      rotate_left
      rotate_left
      try rw [if_pos (by rfl)]
      refine wp_load_mid 44 (.tmp 5) rfl _ _ rfl lr _ RR.out Tryz.underlying44 rfl HLR.out.info ?_
      simp only [Act.put, List.getElem_toArray, List.getElem_cons_zero, List.setIfInBounds_toArray, List.set_cons_zero, List.set_cons_succ]
      refine hK.out _ _ hHeld (fun hHeld => ?_)
      clear hK K
      refine wpAnyH_ready (rs := [4]) (by kernel_rfl) (by simp) ?_
      refine AllReadyH.cons rfl (fun K hK => ?_) AllReadyH.nil
      focus go_simp
      focus (go_wp2_with (go_at_call 37; refine (refThen_l HLR.out HLA.out p.length hp wr.drew).mono ?_; rintro e w4 ⟨⟨l4, rfl, h4l⟩, hb4⟩; have M4 := hide (MR.out.drew.below hb4); have S1 := hide (SA.below S0.out hb4); have R4 := hide (range_below RR.out hb4); have H4 := hide h4l; clear hb4 h4l))
      refine hK.out _ _ S1.out (fun hHeld => ?_)
      clear hK K
      rotate_left
      focus go_simp
      focus (go_wp2_with (go_at_call 37; refine (refThen_l HLR.out HLA.out p.length hp wr.drew).mono ?_; rintro e w4 ⟨⟨l4, rfl, h4l⟩, hb4⟩; have M4 := hide (MR.out.drew.below hb4); have S1 := hide (SA.below S0.out hb4); have R4 := hide (range_below RR.out hb4); have H4 := hide h4l; clear hb4 h4l))
      refine hK.out _ _ S1.out (fun hHeld => ?_)
      clear hK K
      refine wpAnyH_ready (rs := [0]) (by kernel_rfl) (by simp) ?_
      refine AllReadyH.cons rfl (fun K hK => ?_) AllReadyH.nil
      try rw [if_pos (by rfl)]
      refine wp_load_mid 44 (.tmp 5) rfl _ _ rfl lr _ R4.out Tryz.underlying44 rfl HLR.out.info ?_
      simp only [Act.put, List.getElem_toArray, List.getElem_cons_zero, List.setIfInBounds_toArray, List.set_cons_zero, List.set_cons_succ]
      refine hK.out _ _ hHeld (fun hHeld => ?_)
      clear hK K
      all_goals
        refine wpAnyH_ready (rs := [5]) (by kernel_rfl) (by simp) ?_
        refine AllReadyH.cons rfl (fun K hK => ?_) AllReadyH.nil
        focus go_simp
        focus (go_wp2_with (go_at_call 38; refine (refOr_l HLR.out H4.out w4).mono ?_; rintro e w5 ⟨⟨l5, rfl, h5l⟩, hb5⟩; have M5 := hide (M4.out.below hb5); have S2 := hide (SA.below S1.out hb5); have H5 := hide h5l; clear hb5 h5l))
        refine hK.out _ _ S2.out (fun hHeld => ?_)
        clear hK K
        refine wpAnyH_ready (rs := [6]) (by kernel_rfl) (by simp) ?_
        refine AllReadyH.cons rfl (fun K hK => ?_) AllReadyH.nil
        try rw [if_pos (by rfl)]
        refine wp_store_mid 44 (.tmp 5) (.tmp 34) rfl _ _ l5.toArray rfl rfl (by have := H5.out.len; simpa [this] using S2.out.1) H5.out.infoA (tab_one H5.out) ?_
        simp only [Act.put, List.getElem_toArray, List.getElem_cons_zero, List.getElem_cons_succ]
        refine hK.out _ _ (SA.set S2.out hga _) (fun hHeld => ?_)
        clear hK K
        refine wpAnyH_done (by kernel_rfl) ?_ _
        go_wp2_with fail
        refine ⟨⟨i + 1, by go_num, by omega, ?_⟩, by simp [intOf] <;> omega⟩
        rw [HN.out]
        exact hide (M5.out.set H5.out)
    · have hil' : ¬ (i : Int) < (p.length : Int) := by omega
      obtain rfl : i = p.length := by omega
      have c0 := MR.out.ms.box.1
      by_cases hk3 : k = 3
      · have q3 : (k == 3) = true := by simpa using hk3
        have HX : Hid ((fun i j => plusT TK p.length p.length i j || (i == j)) = TT) := by show _ = _; rw [HT.out, if_pos hk3]
        clear HT hk3
        generalize plusT TK p.length p.length = TR at MR HX
        obtain ⟨lr, hlr, hrr, htr⟩ := tabAt_list MR.out.drew.ms.tab
        have S0 := hide htr
        have HLR := hide hlr
        have RR := hide hrr
        clear hlr hrr htr
        go_wp2_with fail
        refine wp_region_held_drew (S := fun w' => w'.there (W.heap.size + 1 + 1) 0 289) (by kernel_rfl) S0.out (fun hHeld => ?_)
        refine wpAnyH_ready (rs := [0, 1]) (by kernel_rfl) (by simp) ?_
        refine AllReadyH.cons rfl (fun K hK => ?_) ?_
        rotate_left
        refine AllReadyH.cons rfl (fun K hK => ?_) AllReadyH.nil
        rotate_left
        try rw [if_pos (by rfl)]
        refine wp_load_mid 44 (.tmp 5) rfl _ _ rfl lr _ RR.out Tryz.underlying44 rfl HLR.out.info ?_
        simp only [Act.put, List.getElem_toArray, List.getElem_cons_zero, List.setIfInBounds_toArray, List.set_cons_zero, List.set_cons_succ]
        refine hK.out _ _ hHeld (fun hHeld => ?_)
        clear hK K
        refine wpAnyH_ready (rs := [1]) (by kernel_rfl) (by simp) ?_
        refine AllReadyH.cons rfl (fun K hK => ?_) AllReadyH.nil
        focus go_simp
        focus (go_wp2_with (go_at_call 36; refine (refEmpty_l _).mono ?_; rintro e w4 ⟨⟨l4, rfl, h4l⟩, hb4⟩; have M4 := hide (MR.out.ms.drew.below hb4); have S1 := hide (there_below S0.out hb4); have R4 := hide (range_below RR.out hb4); have H4 := hide h4l; clear hb4 h4l))
        refine hK.out _ _ S1.out (fun hHeld => ?_)
        clear hK K
        rotate_left
        focus go_simp
        focus (go_wp2_with (go_at_call 36; refine (refEmpty_l _).mono ?_; rintro e w4 ⟨⟨l4, rfl, h4l⟩, hb4⟩; have M4 := hide (MR.out.ms.drew.below hb4); have S1 := hide (there_below S0.out hb4); have R4 := hide (range_below RR.out hb4); have H4 := hide h4l; clear hb4 h4l))
        refine hK.out _ _ S1.out (fun hHeld => ?_)
        clear hK K
        refine wpAnyH_ready (rs := [0]) (by kernel_rfl) (by simp) ?_
        refine AllReadyH.cons rfl (fun K hK => ?_) AllReadyH.nil
        try rw [if_pos (by rfl)]
        refine wp_load_mid 44 (.tmp 5) rfl _ _ rfl lr _ R4.out Tryz.underlying44 rfl HLR.out.info ?_
        simp only [Act.put, List.getElem_toArray, List.getElem_cons_zero, List.setIfInBounds_toArray, List.set_cons_zero, List.set_cons_succ]
        refine hK.out _ _ hHeld (fun hHeld => ?_)
        clear hK K
        all_goals
          refine wpAnyH_ready (rs := [2]) (by kernel_rfl) (by simp) ?_
          refine AllReadyH.cons rfl (fun K hK => ?_) AllReadyH.nil
          focus go_simp
          focus (go_wp2_with (go_at_call 38; refine (refOr_l HLR.out H4.out w4).mono ?_; rintro e w5 ⟨⟨l5, rfl, h5l⟩, hb5⟩; have M5 := hide (M4.out.below hb5); have S2 := hide (there_below S1.out hb5); have H5 := hide h5l; clear hb5 h5l))
          refine hK.out _ _ S2.out (fun hHeld => ?_)
          clear hK K
          refine wpAnyH_ready (rs := [3]) (by kernel_rfl) (by simp) ?_
          refine AllReadyH.cons rfl (fun K hK => ?_) AllReadyH.nil
          try rw [if_pos (by rfl)]
          refine wp_store_mid 44 (.tmp 5) (.tmp 40) rfl _ _ l5.toArray rfl rfl (by have := H5.out.len; simpa [this] using S2.out) H5.out.infoA (tab_one H5.out) ?_
          simp only [Act.put, List.getElem_toArray, List.getElem_cons_zero, List.getElem_cons_succ]
          refine hK.out _ _ (World.there_setCells S2.out _ _ _) (fun hHeld => ?_)
          clear hK K
          refine wpAnyH_done (by kernel_rfl) ?_ _
          clear MR HLR RR R4 S0 S1 S2
          have MR := hide (M5.out.set H5.out)
          clear M5 M4 H5 H4 hHeld
          generalize hwx : w5.setCells (W.heap.size + 1 + 1) 0 l5 = wx at *
          obtain ⟨lr, hlr, hrr, htr⟩ := tabAt_list MR.out.tab
          obtain ⟨_, _, _, hts⟩ := tabAt_list MR.out.res
          have RR := hide hrr
          have HLR := hide hlr
          have TS : Hid (wx.there (W.heap.size + 1) 0 lr.toArray.size) := by
            have := hlr.len
            show World.there _ _ _ _
            simpa [this] using hts
          have HG := hide (MR.out.done hlr)
          clear hlr hrr htr hts
          go_wp2_with (first | (refine wpList_load_mid rfl 44 (.tmp 5) rfl _ _ rfl lr _ RR.out Tryz.underlying44 rfl HLR.out.info ?_) | (refine wpList_store_mid rfl 44 (.tmp 4) (.tmp 138) rfl _ _ lr.toArray rfl rfl TS.out HLR.out.infoA (tab_one HLR.out) ?_))
          exact bodyPost_ret (v := .agg lr.toArray) (results_cell_row Tryz.results20 _ _ _ 44 lr.toArray _ _ rfl HG.out.1 Tryz.underlying44 rfl HLR.out.infoA) rfl ⟨⟨lr, rfl, HX.out ▸ HLR.out⟩, HG.out.2⟩
      · have q3 : (k == 3) = false := by simpa using hk3
        have HX : Hid (plusT TK p.length p.length = TT) := by show _ = _; rw [HT.out, if_neg hk3]
        clear HT hk3
        generalize plusT TK p.length p.length = TR at MR HX
        have MR := hide MR.out.ms
        generalize hwx : wr = wx at *
        clear hwx
        obtain ⟨lr, hlr, hrr, htr⟩ := tabAt_list MR.out.tab
        obtain ⟨_, _, _, hts⟩ := tabAt_list MR.out.res
        have RR := hide hrr
        have HLR := hide hlr
        have TS : Hid (wx.there (W.heap.size + 1) 0 lr.toArray.size) := by
          have := hlr.len
          show World.there _ _ _ _
          simpa [this] using hts
        have HG := hide (MR.out.done hlr)
        clear hlr hrr htr hts
        go_wp2_with (first | (refine wpList_load_mid rfl 44 (.tmp 5) rfl _ _ rfl lr _ RR.out Tryz.underlying44 rfl HLR.out.info ?_) | (refine wpList_store_mid rfl 44 (.tmp 4) (.tmp 138) rfl _ _ lr.toArray rfl rfl TS.out HLR.out.infoA (tab_one HLR.out) ?_))
        exact bodyPost_ret (v := .agg lr.toArray) (results_cell_row Tryz.results20 _ _ _ 44 lr.toArray _ _ rfl HG.out.1 Tryz.underlying44 rfl HLR.out.infoA) rfl ⟨⟨lr, rfl, HX.out ▸ HLR.out⟩, HG.out.2⟩
end Go.Proofs.YtbceoinhmpnjaaaGreatDoor

