/- policy.Met. -/
import Derived.Test.YtngfoijmknclhaaGreatDoorJ12
import Derived.Test.YtngfoijmknclhaaGreatDoorJ13
import Derived.Test.YtngfoijmknclhaaGreatDoorJ26
import Derived.Test.YtngfoijmknclhaaGreatDoorJ33
import Derived.Deep.RegionHeld
import Derived.Deep.RegionHeldLaw
namespace Go.Proofs.YtngfoijmknclhaaGreatDoor
open Go.RowKit Go.Sort
set_option maxHeartbeats 8000000 in
set_option maxRecDepth 100000 in
theorem met_is (k : Kl) (kv : Value) (v : Value) (ls : List Ll) (pa pb : Int) (a : At) (po co ko : Option Addr) (cp cc ck : Nat) (g : ByteArray → Bool) (w : World) (hT : Ar.Y4.Pt w) (hkv : KlV w k kv) (h : Rd w 2 LlR v ls) (hz : ls.length ≤ 100000) (hp : 0 ≤ pa ∧ pa ≤ 4294967295) (hA : At.lies w a po co ko) (hCA : At.came a po co ko cp cc ck) (h1 : a.path.length ≤ 100) (h2 : a.comms.length ≤ 100) (h3 : a.cl.length ≤ 100) (hg : ∀ s, g s = true ↔ GoesP s a.path) :
    Calls Tryz.prog 13 #[kv, v, .agg #[.int .u32 pa, .int .i64 pb], AtV a po co ko cp cc ck] w fun e w' => e = .returned (.bool (routeOk pa pb a && metP ls pa pb a g k)) ∧ Below w.heap.size w w' := by
  obtain ⟨mr, hmr⟩ : ∃ x, routeOk pa pb a = x := ⟨_, rfl⟩
  obtain ⟨mk, hmk⟩ : ∃ x, metP ls pa pb a g k = x := ⟨_, rfl⟩
  have CM := hide (fun W' (hb : Below w.heap.size w W') => mayRoute_is pa pb a po co ko cp cc ck W' hp (At.lies_below hA hb) hCA h1 h2 h3)
  have CB := hide (fun (hm : mr = true) W' (hb : Below w.heap.size w W') => metBy_is v ls pa pb a po co ko cp cc ck g W' (hT.on hb) (h.below LlR.mono hb) hz hp (At.lies_below hA hb) (by
    have : routeOk pa pb a = true := hmr.trans hm
    unfold routeOk At.may at this
    simp only [Bool.and_eq_true] at this
    exact this.2.2.1) h2 hg)
  have HK := hide (fun W' (cs : Array Value) (hb : Below w.heap.size w W') (hf : FnIs W' 65 cs KlV (fun _ => True) (metP ls pa pb a g)) => hf.ok W' k kv (brefl _) (hkv.below hb) trivial)
  have HR : Hid ((routeOk pa pb a && metP ls pa pb a g k) = (mr && mk)) := by show _ = _; rw [hmr, hmk]
  generalize (routeOk pa pb a && metP ls pa pb a g k) = R at HR ⊢
  rw [hmr] at CM
  rw [hmk] at HK
  obtain ⟨bo, cb, rfl⟩ := h.slice
  obtain ⟨xs, hx, rfl⟩ := hkv
  obtain ⟨ao, dl, pr, ca, cd, cr, rfl, _, _⟩ := hx
  unfold Kl.cells AtV at *
  obtain ⟨nl, hnl⟩ : ∃ x, ls.length = x := ⟨_, rfl⟩
  obtain ⟨np, hnp⟩ : ∃ x, a.path.length = x := ⟨_, rfl⟩
  obtain ⟨nc, hnc⟩ : ∃ x, a.comms.length = x := ⟨_, rfl⟩
  obtain ⟨nk, hnk⟩ : ∃ x, a.cl.length = x := ⟨_, rfl⟩
  obtain ⟨n, ok, ls2, pt, qa, qn, ⟨pf, md, og, ad, de, clr, pre⟩⟩ := k
  simp only at *
  rw [hnp, hnc, hnk] at CM CB
  rw [hnp, hnc, hnk]
  rw [hnl] at CB ⊢
  clear hmr hmk hT h hz hp hA hCA h1 h2 h3 hg hnl hnp hnc hnk
  generalize ad.length = na at *
  generalize de.length = nd at *
  generalize pre.length = nr at *
  have A1 := balloc (brefl w) (.cells #[.int .i64 n, .bool ok, .string ls2, .string pt, .int .i64 qa, .int .i64 qn, .int .i64 pf, .int .i64 md, .int .i64 og, .slice ao na ca, .slice dl nd cd, .bool clr, .slice pr nr cr] 45)
  have A2 := balloc A1 (.cells #[.int .u32 pa, .int .i64 pb] 26)
  have A3 := balloc A2 (.cells #[.int .i64 a.pf, .int .i64 a.md, .int .i64 a.og, .slice po np cp, .slice co nc cc, .int .i64 a.fr, .slice ko nk ck] 30)
  have B3 := hide A3
  have N1 := heap_new w #[.int .i64 n, .bool ok, .string ls2, .string pt, .int .i64 qa, .int .i64 qn, .int .i64 pf, .int .i64 md, .int .i64 og, .slice ao na ca, .slice dl nd cd, .bool clr, .slice pr nr cr] 45
  have N2 := heap_new (w.alloc (.cells #[.int .i64 n, .bool ok, .string ls2, .string pt, .int .i64 qa, .int .i64 qn, .int .i64 pf, .int .i64 md, .int .i64 og, .slice ao na ca, .slice dl nd cd, .bool clr, .slice pr nr cr] 45)) #[.int .u32 pa, .int .i64 pb] 26
  have N3 := heap_new ((w.alloc (.cells #[.int .i64 n, .bool ok, .string ls2, .string pt, .int .i64 qa, .int .i64 qn, .int .i64 pf, .int .i64 md, .int .i64 og, .slice ao na ca, .slice dl nd cd, .bool clr, .slice pr nr cr] 45)).alloc (.cells #[.int .u32 pa, .int .i64 pb] 26)) #[.int .i64 a.pf, .int .i64 a.md, .int .i64 a.og, .slice po np cp, .slice co nc cc, .int .i64 a.fr, .slice ko nk ck] 30
  have D2 := balloc (brefl (w.alloc (.cells #[.int .i64 n, .bool ok, .string ls2, .string pt, .int .i64 qa, .int .i64 qn, .int .i64 pf, .int .i64 md, .int .i64 og, .slice ao na ca, .slice dl nd cd, .bool clr, .slice pr nr cr] 45))) (.cells #[.int .u32 pa, .int .i64 pb] 26)
  have D3 := balloc (brefl ((w.alloc (.cells #[.int .i64 n, .bool ok, .string ls2, .string pt, .int .i64 qa, .int .i64 qn, .int .i64 pf, .int .i64 md, .int .i64 og, .slice ao na ca, .slice dl nd cd, .bool clr, .slice pr nr cr] 45)).alloc (.cells #[.int .u32 pa, .int .i64 pb] 26))) (.cells #[.int .i64 a.pf, .int .i64 a.md, .int .i64 a.og, .slice po np cp, .slice co nc cc, .int .i64 a.fr, .slice ko nk ck] 30)
  have M1 := ((bthen D2 D3).block _ (heap_lt N1)).trans N1
  have M2 := (D3.block _ (heap_lt N2)).trans N2
  rw [sizeA] at M2
  rw [sizeA, sizeA] at N3
  have HS := hide (And.intro M2 (And.intro N3 M1))
  clear A1 A2 A3 N1 N2 N3 D2 D3 M1 M2
  obtain ⟨c, hc⟩ : ∃ x, w.heap.size = x := ⟨_, rfl⟩
  obtain ⟨p, hp⟩ : ∃ x, c + 1 = x := ⟨_, rfl⟩
  obtain ⟨q, hq⟩ : ∃ x, p + 1 = x := ⟨_, rfl⟩
  rw [hc, hp, hq] at HS
  go_enter Tryz.func13, Tryz.ntmps13
  go_upto_region 1 with fail
  try rw [hc]
  clear hc hp hq
  generalize ((w.alloc (.cells #[.int .i64 n, .bool ok, .string ls2, .string pt, .int .i64 qa, .int .i64 qn, .int .i64 pf, .int .i64 md, .int .i64 og, .slice ao na ca, .slice dl nd cd, .bool clr, .slice pr nr cr] 45)).alloc (.cells #[.int .u32 pa, .int .i64 pb] 26)).alloc (.cells #[.int .i64 a.pf, .int .i64 a.md, .int .i64 a.og, .slice po np cp, .slice co nc cc, .int .i64 a.fr, .slice ko nk ck] 30) = W3 at *
  refine wp_region_held_drew (S := fun w' => w'.heap[p]? = some (.cells #[.int .u32 pa, .int .i64 pb] 26 (0, 0)) ∧ w'.heap[q]? = some (.cells #[.int .i64 a.pf, .int .i64 a.md, .int .i64 a.og, .slice po np cp, .slice co nc cc, .int .i64 a.fr, .slice ko nk ck] 30 (0, 0)) ∧ w'.heap[c]? = some (.cells #[.int .i64 n, .bool ok, .string ls2, .string pt, .int .i64 qa, .int .i64 qn, .int .i64 pf, .int .i64 md, .int .i64 og, .slice ao na ca, .slice dl nd cd, .bool clr, .slice pr nr cr] 45 (0, 0))) (by kernel_rfl) HS.out (fun hHeld => ?_)
  have BD := hide (Below.drew B3.out)
  have CM := hide (CM.out W3.drew BD.out)
  have HS := hide hHeld
  generalize W3.drew = W4 at *
  clear HS B3
  refine wpAnyH_take (i := 0) (v := .agg #[.int .u32 pa, .int .i64 pb]) rfl (by kernel_rfl) (by kernel_rfl) (by kernel_rfl) (fun _ _ _ h => h) (Or.inl ⟨by rfl, fun w hSw => by dsimp only at hSw; have n0 := cell_of hSw.1 0 rfl; have n1 := cell_of hSw.1 1 rfl; clear hSw; go_simp⟩) hHeld ?_
  simp only [Act.put, List.getElem_toArray, List.getElem_cons_zero, List.setIfInBounds_toArray, List.set_cons_zero, List.set_cons_succ]
  refine wpAnyH_take (i := 1) (v := .agg #[.int .i64 a.pf, .int .i64 a.md, .int .i64 a.og, .slice po np cp, .slice co nc cc, .int .i64 a.fr, .slice ko nk ck]) rfl (by kernel_rfl) (by kernel_rfl) (by kernel_rfl) (fun _ _ _ h => h) (Or.inl ⟨by rfl, fun w hSw => by dsimp only at hSw; have n0 := cell_of hSw.2.1 0 rfl; have n1 := cell_of hSw.2.1 1 rfl; have n2 := cell_of hSw.2.1 2 rfl; have n3 := cell_of hSw.2.1 3 rfl; have n4 := cell_of hSw.2.1 4 rfl; have n5 := cell_of hSw.2.1 5 rfl; have n6 := cell_of hSw.2.1 6 rfl; clear hSw; go_simp⟩) hHeld ?_
  simp only [Act.put, List.getElem_toArray, List.getElem_cons_zero, List.getElem_cons_succ, List.setIfInBounds_toArray, List.set_cons_zero, List.set_cons_succ]
  refine wpAnyH_ready (rs := [2]) (by kernel_rfl) (by simp) ?_
  refine AllReadyH.cons rfl (fun K hK => ?_) AllReadyH.nil
  go_simp
  go_wp2_with (refine CM.out.mono ?_; rintro e w5 ⟨rfl, hb5⟩)
  have S5 := hide (And.intro ((hb5.block p (heap_lt hHeld.1)).trans hHeld.1) (And.intro ((hb5.block q (heap_lt hHeld.2.1)).trans hHeld.2.1) ((hb5.block c (heap_lt hHeld.2.2)).trans hHeld.2.2)))
  have B5 := hide (bthen BD.out hb5)
  clear hHeld hb5 CM BD
  refine hK.out _ _ S5.out (fun hHeld => ?_)
  clear hK K
  try simp only [Act.put, List.getElem_toArray, List.getElem_cons_zero, List.getElem_cons_succ, List.setIfInBounds_toArray, List.set_cons_zero, List.set_cons_succ]
  cases mr with
  | false =>
    refine wpAnyH_take (i := 3) (v := .bool false) rfl (by kernel_rfl) (by kernel_rfl) (by kernel_rfl) (fun _ _ _ h => h) (Or.inl ⟨by rfl, fun w hSw => by clear hSw; go_simp⟩) hHeld ?_
    simp only [Act.put, List.getElem_toArray, List.getElem_cons_zero, List.getElem_cons_succ, List.setIfInBounds_toArray, List.set_cons_zero, List.set_cons_succ]
    refine wpAnyH_take (i := 4) (v := undef) rfl (by kernel_rfl) (by kernel_rfl) (by kernel_rfl) (fun _ _ _ h => h) (Or.inr ⟨by rfl, rfl⟩) hHeld ?_
    simp only [Act.put, List.getElem_toArray, List.getElem_cons_zero, List.getElem_cons_succ, List.setIfInBounds_toArray, List.set_cons_zero, List.set_cons_succ]
    refine wpAnyH_take (i := 5) (v := undef) rfl (by kernel_rfl) (by kernel_rfl) (by kernel_rfl) (fun _ _ _ h => h) (Or.inr ⟨by rfl, rfl⟩) hHeld ?_
    simp only [Act.put, List.getElem_toArray, List.getElem_cons_zero, List.getElem_cons_succ, List.setIfInBounds_toArray, List.set_cons_zero, List.set_cons_succ]
    refine wpAnyH_take (i := 6) (v := undef) rfl (by kernel_rfl) (by kernel_rfl) (by kernel_rfl) (fun _ _ _ h => h) (Or.inr ⟨by rfl, rfl⟩) hHeld ?_
    simp only [Act.put, List.getElem_toArray, List.getElem_cons_zero, List.getElem_cons_succ, List.setIfInBounds_toArray, List.set_cons_zero, List.set_cons_succ]
    refine wpAnyH_take (i := 8) (v := undef) rfl (by kernel_rfl) (by kernel_rfl) (by kernel_rfl) (fun _ _ _ h => h) (Or.inr ⟨by rfl, rfl⟩) hHeld ?_
    simp only [Act.put, List.getElem_toArray, List.getElem_cons_zero, List.getElem_cons_succ, List.setIfInBounds_toArray, List.set_cons_zero, List.set_cons_succ]
    refine wpAnyH_take (i := 7) (v := undef) rfl (by kernel_rfl) (by kernel_rfl) (by kernel_rfl) (fun _ _ _ h => h) (Or.inr ⟨by rfl, rfl⟩) hHeld ?_
    simp only [Act.put, List.getElem_toArray, List.getElem_cons_zero, List.getElem_cons_succ, List.setIfInBounds_toArray, List.set_cons_zero, List.set_cons_succ]
    refine wpAnyH_take (i := 9) (v := undef) rfl (by kernel_rfl) (by kernel_rfl) (by kernel_rfl) (fun _ _ _ h => h) (Or.inr ⟨by rfl, rfl⟩) hHeld ?_
    simp only [Act.put, List.getElem_toArray, List.getElem_cons_zero, List.getElem_cons_succ, List.setIfInBounds_toArray, List.set_cons_zero, List.set_cons_succ]
    refine wpAnyH_take (i := 10) (v := .bool false) rfl (by kernel_rfl) (by kernel_rfl) (by kernel_rfl) (fun _ _ _ h => h) (Or.inl ⟨by rfl, fun w hSw => by clear hSw; go_simp⟩) hHeld ?_
    simp only [Act.put, List.getElem_toArray, List.getElem_cons_zero, List.getElem_cons_succ, List.setIfInBounds_toArray, List.set_cons_zero, List.set_cons_succ]
    refine wpAnyH_ready (rs := [11]) (by kernel_rfl) (by simp) ?_
    refine AllReadyH.cons rfl (fun K hK => ?_) AllReadyH.nil
    go_simp
    refine hK.out _ _ S5.out (fun hHeld => ?_)
    clear hK K
    try simp only [Act.put, List.getElem_toArray, List.getElem_cons_zero, List.getElem_cons_succ, List.setIfInBounds_toArray, List.set_cons_zero, List.set_cons_succ]
    refine wpAnyH_done (by kernel_rfl) ?_ _
    clear hHeld
    go_wp2_with fail
    go_ret
    exact ⟨ret_bool (by rw [HR.out]; rfl), B5.out⟩
  | true =>
    refine wpAnyH_take (i := 3) (v := .bool true) rfl (by kernel_rfl) (by kernel_rfl) (by kernel_rfl) (fun _ _ _ h => h) (Or.inl ⟨by rfl, fun w hSw => by clear hSw; go_simp⟩) hHeld ?_
    simp only [Act.put, List.getElem_toArray, List.getElem_cons_zero, List.getElem_cons_succ, List.setIfInBounds_toArray, List.set_cons_zero, List.set_cons_succ]
    refine wpAnyH_take (i := 4) (v := .slice bo nl cb) rfl (by kernel_rfl) (by kernel_rfl) (by kernel_rfl) (fun _ _ _ h => h) (Or.inl ⟨by rfl, fun w hSw => by clear hSw; go_simp⟩) hHeld ?_
    simp only [Act.put, List.getElem_toArray, List.getElem_cons_zero, List.getElem_cons_succ, List.setIfInBounds_toArray, List.set_cons_zero, List.set_cons_succ]
    refine wpAnyH_take (i := 5) (v := .agg #[.int .u32 pa, .int .i64 pb]) rfl (by kernel_rfl) (by kernel_rfl) (by kernel_rfl) (fun _ _ _ h => h) (Or.inl ⟨by rfl, fun w hSw => by dsimp only at hSw; have n0 := cell_of hSw.1 0 rfl; have n1 := cell_of hSw.1 1 rfl; clear hSw; go_simp⟩) hHeld ?_
    simp only [Act.put, List.getElem_toArray, List.getElem_cons_zero, List.getElem_cons_succ, List.setIfInBounds_toArray, List.set_cons_zero, List.set_cons_succ]
    refine wpAnyH_take (i := 6) (v := .agg #[.int .i64 a.pf, .int .i64 a.md, .int .i64 a.og, .slice po np cp, .slice co nc cc, .int .i64 a.fr, .slice ko nk ck]) rfl (by kernel_rfl) (by kernel_rfl) (by kernel_rfl) (fun _ _ _ h => h) (Or.inl ⟨by rfl, fun w hSw => by dsimp only at hSw; have n0 := cell_of hSw.2.1 0 rfl; have n1 := cell_of hSw.2.1 1 rfl; have n2 := cell_of hSw.2.1 2 rfl; have n3 := cell_of hSw.2.1 3 rfl; have n4 := cell_of hSw.2.1 4 rfl; have n5 := cell_of hSw.2.1 5 rfl; have n6 := cell_of hSw.2.1 6 rfl; clear hSw; go_simp⟩) hHeld ?_
    simp only [Act.put, List.getElem_toArray, List.getElem_cons_zero, List.getElem_cons_succ, List.setIfInBounds_toArray, List.set_cons_zero, List.set_cons_succ]
    refine wpAnyH_take (i := 8) (v := .agg #[.int .i64 n, .bool ok, .string ls2, .string pt, .int .i64 qa, .int .i64 qn, .int .i64 pf, .int .i64 md, .int .i64 og, .slice ao na ca, .slice dl nd cd, .bool clr, .slice pr nr cr]) rfl (by kernel_rfl) (by kernel_rfl) (by kernel_rfl) (fun _ _ _ h => h) (Or.inl ⟨by rfl, fun w hSw => by dsimp only at hSw; have n0 := cell_of hSw.2.2 0 rfl; have n1 := cell_of hSw.2.2 1 rfl; have n2 := cell_of hSw.2.2 2 rfl; have n3 := cell_of hSw.2.2 3 rfl; have n4 := cell_of hSw.2.2 4 rfl; have n5 := cell_of hSw.2.2 5 rfl; have n6 := cell_of hSw.2.2 6 rfl; have n7 := cell_of hSw.2.2 7 rfl; have n8 := cell_of hSw.2.2 8 rfl; have n9 := cell_of hSw.2.2 9 rfl; have n10 := cell_of hSw.2.2 10 rfl; have n11 := cell_of hSw.2.2 11 rfl; have n12 := cell_of hSw.2.2 12 rfl; clear hSw; go_simp⟩) hHeld ?_
    simp only [Act.put, List.getElem_toArray, List.getElem_cons_zero, List.getElem_cons_succ, List.setIfInBounds_toArray, List.set_cons_zero, List.set_cons_succ]
    have CB := hide (CB.out rfl w5 B5.out)
    refine wpAnyH_ready (rs := [7]) (by kernel_rfl) (by simp) ?_
    refine AllReadyH.cons rfl (fun K hK => ?_) AllReadyH.nil
    go_simp
    go_wp2_with (refine CB.out.mono ?_; rintro e w6 ⟨cs, rfl, hf, hb6⟩)
    have S6 := hide (And.intro ((hb6.block p (heap_lt hHeld.1)).trans hHeld.1) (And.intro ((hb6.block q (heap_lt hHeld.2.1)).trans hHeld.2.1) ((hb6.block c (heap_lt hHeld.2.2)).trans hHeld.2.2)))
    have B6 := hide (bthen B5.out hb6)
    have CK := hide (HK.out _ _ B6.out hf)
    have hcf := hf.enter
    clear hHeld hb6 CB hf HK
    refine hK.out _ _ S6.out (fun hHeld => ?_)
    clear hK K
    try simp only [Act.put, List.getElem_toArray, List.getElem_cons_zero, List.getElem_cons_succ, List.setIfInBounds_toArray, List.set_cons_zero, List.set_cons_succ]
    refine wpAnyH_ready (rs := [9]) (by kernel_rfl) (by simp) ?_
    refine AllReadyH.cons rfl (fun K hK => ?_) AllReadyH.nil
    go_simp
    go_wp2_with (refine CK.out.mono ?_; rintro e w7 ⟨rfl, hb7⟩)
    have S7 := hide (And.intro ((hb7.block p (heap_lt hHeld.1)).trans hHeld.1) (And.intro ((hb7.block q (heap_lt hHeld.2.1)).trans hHeld.2.1) ((hb7.block c (heap_lt hHeld.2.2)).trans hHeld.2.2)))
    have B7 := hide (bthen B6.out hb7)
    clear hHeld hb7 CK
    refine hK.out _ _ S7.out (fun hHeld => ?_)
    clear hK K
    try simp only [Act.put, List.getElem_toArray, List.getElem_cons_zero, List.getElem_cons_succ, List.setIfInBounds_toArray, List.set_cons_zero, List.set_cons_succ]
    cases mk
    ·
      refine wpAnyH_take (i := 10) (v := .bool false) rfl (by kernel_rfl) (by kernel_rfl) (by kernel_rfl) (fun _ _ _ h => h) (Or.inl ⟨by rfl, fun w hSw => by clear hSw; go_simp⟩) hHeld ?_
      simp only [Act.put, List.getElem_toArray, List.getElem_cons_zero, List.getElem_cons_succ, List.setIfInBounds_toArray, List.set_cons_zero, List.set_cons_succ]
      refine wpAnyH_ready (rs := [11]) (by kernel_rfl) (by simp) ?_
      refine AllReadyH.cons rfl (fun K hK => ?_) AllReadyH.nil
      go_simp
      refine hK.out _ _ S7.out (fun hHeld => ?_)
      clear hK K
      try simp only [Act.put, List.getElem_toArray, List.getElem_cons_zero, List.getElem_cons_succ, List.setIfInBounds_toArray, List.set_cons_zero, List.set_cons_succ]
      refine wpAnyH_done (by kernel_rfl) ?_ _
      clear hHeld
      go_wp2_with fail
      go_ret
      exact ⟨ret_bool (by rw [HR.out]; rfl), B7.out⟩
    ·
      refine wpAnyH_take (i := 10) (v := .bool true) rfl (by kernel_rfl) (by kernel_rfl) (by kernel_rfl) (fun _ _ _ h => h) (Or.inl ⟨by rfl, fun w hSw => by clear hSw; go_simp⟩) hHeld ?_
      simp only [Act.put, List.getElem_toArray, List.getElem_cons_zero, List.getElem_cons_succ, List.setIfInBounds_toArray, List.set_cons_zero, List.set_cons_succ]
      refine wpAnyH_ready (rs := [11]) (by kernel_rfl) (by simp) ?_
      refine AllReadyH.cons rfl (fun K hK => ?_) AllReadyH.nil
      go_simp
      refine hK.out _ _ S7.out (fun hHeld => ?_)
      clear hK K
      try simp only [Act.put, List.getElem_toArray, List.getElem_cons_zero, List.getElem_cons_succ, List.setIfInBounds_toArray, List.set_cons_zero, List.set_cons_succ]
      refine wpAnyH_done (by kernel_rfl) ?_ _
      clear hHeld
      go_wp2_with fail
      go_ret
      exact ⟨ret_bool (by rw [HR.out]; rfl), B7.out⟩
end Go.Proofs.YtngfoijmknclhaaGreatDoor
namespace Go.Proofs.YtngfoijmknclhaaGreatDoor.Cm
open Go.RowKit Go.Sort
/-- What is asked of those of a change. -/
theorem clo54 (a b : Int) (r : Bool) (h : Co.may (a, b) = r) (W : World) : Calls Tryz.prog 91 #[.agg #[.int .i64 a, .int .i64 b]] W fun e w' => e = .returned (.bool (!r)) ∧ Below W.heap.size W w' := by
  cases r
  all_goals
    have H := hide h
    clear h
    go_enter Tryz.func91, Tryz.ntmps91
    go_wp2_with fail
    refine (may_is _ _ _ H.out _).mono ?_
    rintro e w1 ⟨rfl, hb1⟩
    go_wp2_with fail
    go_ret
    exact ⟨rfl, bthen (balloc (brefl W) _) hb1⟩
theorem pred54 (w : World) : PredBelow Tryz.prog 91 #[] (fun x : Co.C => .agg (Co.enc x).toArray) (fun x => !Co.may x) w := fun W x hb => by
  refine Calls.mono (clo54 x.1 x.2 _ rfl W) ?_
  rintro e w1 ⟨rfl, hb1⟩
  exact ⟨rfl, hb.trans (hb1.mono hb.size)⟩
theorem containsF54_is (ao : Option Addr) (ca : Nat) (l : List Co.C) (r : Bool) (hr : (l.any fun x => !Co.may x) = r) (w : World) (hA : Co.slot w ao l) (hlen : l.length ≤ 1000000) :
    Calls Tryz.prog 93 #[.slice ao l.length ca, .func (.func 91) #[] #[]] w fun e w' => e = .returned (.bool r) ∧ Below w.heap.size w w' := by
  rcases Nat.eq_zero_or_pos l.length with h0 | h0
  · obtain rfl := List.length_eq_zero_iff.1 h0
    obtain rfl : false = r := hr
    exact (containsF_none ao ca _ w).mono fun _ _ ⟨h1, h2⟩ => ⟨h1, h2 ▸ brefl _⟩
  · obtain ⟨b, off, rfl, hrd⟩ := Co.slot_at hA h0
    have hb : b < w.heap.size := block_lt_of_cell (Co.reads_at hrd 0 h0).1
    have eg : ∀ args w, (callFunc 91 args).run Tryz.prog w = .ok (.enter 91 args) w := enters_of Tryz.func91 (by kernel_rfl) rfl
    have hcon := AnyQ.slices_ContainsFunc Tryz.hasF 2 Tryz.isAgg39 Tryz.sizeOf39 Co.enc (fun _ => rfl) (fun x => !Co.may x) 91 #[] eg b off l.length ca l w (pred54 w) (Nat.le_refl _) (by omega) hb (Co.cells_at hrd)
    refine Calls.mono (show Calls Tryz.prog 93 _ _ _ from hcon) ?_
    rintro e w' ⟨rfl, hb'⟩
    exact ⟨ret_bool (by rw [List.take_length]; exact hr), hb'⟩
/-- Communities of a change. -/
def Co.few (l : List Co.C) : Bool := decide (l.length ≤ 8) && !(l.any fun c => !Co.may c)
theorem mayComms_is (ao : Option Addr) (ca : Nat) (l : List Co.C) (r : Bool) (hr : Co.few l = r) (w : World) (hA : Co.slot w ao l) (hl : l.length ≤ 1000) :
    Calls Tryz.prog 52 #[.slice ao l.length ca] w fun e w' => e = .returned (.bool r) ∧ Below w.heap.size w w' := by
  unfold Co.few at hr
  by_cases h8 : l.length ≤ 8
  · have h8' : (l.length : Int) ≤ 8 := by omega
    rw [decide_eq_true h8, Bool.true_and] at hr
    obtain ⟨b, hb⟩ : ∃ b, (l.any fun c => !Co.may c) = b := ⟨_, rfl⟩
    have CF := hide (containsF54_is ao ca l b hb w hA (by omega))
    rw [hb] at hr
    subst hr
    clear hb hA h8 hl
    go_enter Tryz.func52, Tryz.ntmps52
    go_wp2_with fail
    refine CF.out.mono ?_
    rintro e w1 ⟨rfl, hb1⟩
    have B1 := hide hb1
    clear hb1 CF
    go_wp2_with fail
    go_ret
    exact ⟨rfl, B1.out⟩
  · have h8' : ¬ (l.length : Int) ≤ 8 := by omega
    rw [decide_eq_false h8, Bool.false_and] at hr
    subst hr
    clear hA h8 hl
    go_enter Tryz.func52, Tryz.ntmps52
    go_wp2_with fail
    go_ret
    exact ⟨rfl, brefl w⟩
end Go.Proofs.YtngfoijmknclhaaGreatDoor.Cm
namespace Go.Proofs.YtngfoijmknclhaaGreatDoor
open Go.RowKit Go.Sort
theorem or28_is (n : Int) (r : Bool) (hr : (decide (n = -1) || decide (0 ≤ n ∧ n ≤ 1048576)) = r) (W : World) :
    Calls Tryz.prog 48 #[.func (.func 49) #[] #[], .int .i64 n] W fun e w' => e = .returned (.bool r) ∧ Below W.heap.size W w' := by
  by_cases h : n = -1
  · rw [decide_eq_true h, Bool.true_or] at hr
    subst hr h
    go_enter Tryz.func48, Tryz.ntmps48
    go_wp2_with fail
    go_ret
    exact ⟨rfl, brefl W⟩
  · rw [decide_eq_false h, Bool.false_or] at hr
    have h' : (n == -1) = false := by simpa using h
    have CM := hide (mayPref_is n r hr W)
    clear hr h
    go_enter Tryz.func48, Tryz.ntmps48
    go_wp2_with fail
    refine CM.out.mono ?_
    rintro e w1 ⟨rfl, hb1⟩
    have B1 := hide hb1
    clear hb1 CM
    go_wp2_with fail
    go_ret
    exact ⟨rfl, B1.out⟩
theorem or29_is (n : Int) (r : Bool) (hr : (decide (n = -1) || decide (0 ≤ n ∧ n ≤ 1048576)) = r) (W : World) :
    Calls Tryz.prog 48 #[.func (.func 50) #[] #[], .int .i64 n] W fun e w' => e = .returned (.bool r) ∧ Below W.heap.size W w' := by
  by_cases h : n = -1
  · rw [decide_eq_true h, Bool.true_or] at hr
    subst hr h
    go_enter Tryz.func48, Tryz.ntmps48
    go_wp2_with fail
    go_ret
    exact ⟨rfl, brefl W⟩
  · rw [decide_eq_false h, Bool.false_or] at hr
    have h' : (n == -1) = false := by simpa using h
    have CM := hide (mayMed_is n r hr W)
    clear hr h
    go_enter Tryz.func48, Tryz.ntmps48
    go_wp2_with fail
    refine CM.out.mono ?_
    rintro e w1 ⟨rfl, hb1⟩
    have B1 := hide hb1
    clear hb1 CM
    go_wp2_with fail
    go_ret
    exact ⟨rfl, B1.out⟩
theorem or30_is (n : Int) (r : Bool) (hr : (decide (n = -1) || decide (0 ≤ n ∧ n ≤ 2)) = r) (W : World) :
    Calls Tryz.prog 48 #[.func (.func 51) #[] #[], .int .i64 n] W fun e w' => e = .returned (.bool r) ∧ Below W.heap.size W w' := by
  by_cases h : n = -1
  · rw [decide_eq_true h, Bool.true_or] at hr
    subst hr h
    go_enter Tryz.func48, Tryz.ntmps48
    go_wp2_with fail
    go_ret
    exact ⟨rfl, brefl W⟩
  · rw [decide_eq_false h, Bool.false_or] at hr
    have h' : (n == -1) = false := by simpa using h
    have CM := hide (mayOrigin_is n r hr W)
    clear hr h
    go_enter Tryz.func48, Tryz.ntmps48
    go_wp2_with fail
    refine CM.out.mono ?_
    rintro e w1 ⟨rfl, hb1⟩
    have B1 := hide hb1
    clear hb1 CM
    go_wp2_with fail
    go_ret
    exact ⟨rfl, B1.out⟩
theorem ok_chain (x0 x1 x2 : Int) (ad de : List Cm.Co.C) (cl : Bool) (pp : List Int) : St.ok ⟨x0, x1, x2, ad, de, cl, pp⟩ = ((decide (x0 = -1) || decide (0 ≤ x0 ∧ x0 ≤ 1048576)) && ((decide (x1 = -1) || decide (0 ≤ x1 ∧ x1 ≤ 1048576)) && ((decide (x2 = -1) || decide (0 ≤ x2 ∧ x2 ≤ 2)) && (Cm.Co.few ad && (Cm.Co.few de && Is.may pp))))) := by
  unfold St.ok Cm.Co.few
  simp only
  rw [Bool.eq_iff_iff]
  simp only [Bool.and_eq_true, Bool.or_eq_true, decide_eq_true_eq]
  constructor
  · rintro ⟨h, h4, h5, h6, h7, h8⟩
    exact ⟨by omega, by omega, by omega, ⟨h4, h6⟩, ⟨h5, h7⟩, h8⟩
  · rintro ⟨h1, h2, h3, ⟨h4, h6⟩, ⟨h5, h7⟩, h8⟩
    exact ⟨by omega, h4, h5, h6, h7, h8⟩
set_option maxHeartbeats 4000000 in
set_option maxRecDepth 100000 in
theorem change_is (s : St) (ao dl pr : Option Addr) (ca cd cr : Nat) (r : Bool) (hr : St.ok s = r) (w : World) (hS : St.lies w s ao dl pr) (h1 : s.add.length ≤ 100) (h2 : s.del.length ≤ 100) (h3 : s.pre.length ≤ 100) :
    Calls Tryz.prog 24 #[.agg #[.int .i64 s.pf, .int .i64 s.md, .int .i64 s.og, .slice ao s.add.length ca, .slice dl s.del.length cd, .bool s.clr, .slice pr s.pre.length cr]] w fun e w' => e = .returned (.bool r) ∧ Below w.heap.size w w' := by
  obtain ⟨x0, x1, x2, ad, de, cl, pp⟩ := s
  simp only at *
  rw [ok_chain] at hr
  obtain ⟨b0, g0⟩ : ∃ b, (decide (x0 = -1) || decide (0 ≤ x0 ∧ x0 ≤ 1048576)) = b := ⟨_, rfl⟩
  obtain ⟨b1, g1⟩ : ∃ b, (decide (x1 = -1) || decide (0 ≤ x1 ∧ x1 ≤ 1048576)) = b := ⟨_, rfl⟩
  obtain ⟨b2, g2⟩ : ∃ b, (decide (x2 = -1) || decide (0 ≤ x2 ∧ x2 ≤ 2)) = b := ⟨_, rfl⟩
  obtain ⟨b3, g3⟩ : ∃ b, Cm.Co.few ad = b := ⟨_, rfl⟩
  obtain ⟨b4, g4⟩ : ∃ b, Cm.Co.few de = b := ⟨_, rfl⟩
  obtain ⟨b5, g5⟩ : ∃ b, Is.may pp = b := ⟨_, rfl⟩
  rw [g0, g1, g2, g3, g4, g5] at hr
  have HR := hide hr
  have HB := hide (balloc (brefl w) (.cells #[.int .i64 x0, .int .i64 x1, .int .i64 x2, .slice ao ad.length ca, .slice dl de.length cd, .bool cl, .slice pr pp.length cr] 43))
  have N0 := hide (heap_new w #[.int .i64 x0, .int .i64 x1, .int .i64 x2, .slice ao ad.length ca, .slice dl de.length cd, .bool cl, .slice pr pp.length cr] 43)
  have HL := hide (St.lies_below hS HB.out)
  have C0 := hide (fun W' => or28_is x0 b0 g0 W')
  have C1 := hide (fun W' => or29_is x1 b1 g1 W')
  have C2 := hide (fun W' => or30_is x2 b2 g2 W')
  have C3 := hide (fun W' hl => Cm.mayComms_is ao ca ad b3 g3 W' hl (by omega))
  have C4 := hide (fun W' hl => Cm.mayComms_is dl cd de b4 g4 W' hl (by omega))
  have C5 := hide (fun W' hl => may_is pr cr pp b5 g5 W' hl (by omega))
  clear g0 g1 g2 g3 g4 g5 h1 h2 h3 hS hr
  go_enter Tryz.func24, Tryz.ntmps24
  go_wp2_with fail
  generalize w.alloc (.cells #[.int .i64 x0, .int .i64 x1, .int .i64 x2, .slice ao ad.length ca, .slice dl de.length cd, .bool cl, .slice pr pp.length cr] 43) = W at *
  obtain ⟨p, hp⟩ : ∃ p, w.heap.size = p := ⟨_, rfl⟩
  rw [hp] at N0
  rw [hp]
  clear hp
  have B0 := hide (brefl W)
  refine (C0.out _).mono ?_
  rintro e w1 ⟨rfl, hb⟩
  have B1 := hide (bthen B0.out hb)
  clear hb
  cases b0
  · go_wp2_with fail
    go_ret
    exact ⟨ret_bool HR.out, bthen HB.out B1.out⟩
  obtain ⟨c0, c1, c2, c3, c4, c5, c6⟩ := seven_cells ((B1.out.block p (heap_lt N0.out)).trans N0.out)
  go_wp2_with fail
  refine (C1.out _).mono ?_
  rintro e w2 ⟨rfl, hb⟩
  have B2 := hide (bthen B1.out hb)
  clear hb c0 c1 c2 c3 c4 c5 c6
  cases b1
  · go_wp2_with fail
    go_ret
    exact ⟨ret_bool HR.out, bthen HB.out B2.out⟩
  obtain ⟨c0, c1, c2, c3, c4, c5, c6⟩ := seven_cells ((B2.out.block p (heap_lt N0.out)).trans N0.out)
  go_wp2_with fail
  refine (C2.out _).mono ?_
  rintro e w3 ⟨rfl, hb⟩
  have B3 := hide (bthen B2.out hb)
  clear hb c0 c1 c2 c3 c4 c5 c6
  cases b2
  · go_wp2_with fail
    go_ret
    exact ⟨ret_bool HR.out, bthen HB.out B3.out⟩
  obtain ⟨c0, c1, c2, c3, c4, c5, c6⟩ := seven_cells ((B3.out.block p (heap_lt N0.out)).trans N0.out)
  go_wp2_with fail
  refine (C3.out _ (Cm.Co.slot_below HL.out.1 B3.out)).mono ?_
  rintro e w4 ⟨rfl, hb⟩
  have B4 := hide (bthen B3.out hb)
  clear hb c0 c1 c2 c3 c4 c5 c6
  cases b3
  · go_wp2_with fail
    go_ret
    exact ⟨ret_bool HR.out, bthen HB.out B4.out⟩
  obtain ⟨c0, c1, c2, c3, c4, c5, c6⟩ := seven_cells ((B4.out.block p (heap_lt N0.out)).trans N0.out)
  go_wp2_with fail
  refine (C4.out _ (Cm.Co.slot_below HL.out.2.1 B4.out)).mono ?_
  rintro e w5 ⟨rfl, hb⟩
  have B5 := hide (bthen B4.out hb)
  clear hb c0 c1 c2 c3 c4 c5 c6
  cases b4
  · go_wp2_with fail
    go_ret
    exact ⟨ret_bool HR.out, bthen HB.out B5.out⟩
  obtain ⟨c0, c1, c2, c3, c4, c5, c6⟩ := seven_cells ((B5.out.block p (heap_lt N0.out)).trans N0.out)
  go_wp2_with fail
  refine (C5.out _ (Is.slot_below HL.out.2.2 B5.out)).mono ?_
  rintro e w6 ⟨rfl, hb⟩
  have B6 := hide (bthen B5.out hb)
  clear hb c0 c1 c2 c3 c4 c5 c6
  go_wp2_with fail
  go_ret
  exact ⟨ret_bool HR.out, bthen HB.out B6.out⟩
end Go.Proofs.YtngfoijmknclhaaGreatDoor
