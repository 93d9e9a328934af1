/- Cells written over; policy.first. -/
import Derived.Test.YtngfoijmknclhaaGreatDoorJ35
import Derived.Test.YtngfoijmknclhaaGreatDoorJ42
namespace Go.Proofs.YtngfoijmknclhaaGreatDoor
open Go.RowKit Go.Sort
/-- Cells written over. -/
def put13 (w : World) (g : Nat) (v0 v1 v2 v3 v4 v5 v6 v7 v8 v9 v10 v11 v12 : Value) : World := ((((((((((((w.setCell ⟨g, 0, none⟩ v0).setCell ⟨g, 1, none⟩ v1).setCell ⟨g, 2, none⟩ v2).setCell ⟨g, 3, none⟩ v3).setCell ⟨g, 4, none⟩ v4).setCell ⟨g, 5, none⟩ v5).setCell ⟨g, 6, none⟩ v6).setCell ⟨g, 7, none⟩ v7).setCell ⟨g, 8, none⟩ v8).setCell ⟨g, 9, none⟩ v9).setCell ⟨g, 10, none⟩ v10).setCell ⟨g, 11, none⟩ v11).setCell ⟨g, 12, none⟩ v12
theorem put13_same {w : World} {g t : Nat} {z0 z1 z2 z3 z4 z5 z6 z7 z8 z9 z10 z11 z12 : Value} (h : w.heap[g]? = some (.cells #[z0, z1, z2, z3, z4, z5, z6, z7, z8, z9, z10, z11, z12] t (0, 0))) (v0 v1 v2 v3 v4 v5 v6 v7 v8 v9 v10 v11 v12 : Value) : (put13 w g v0 v1 v2 v3 v4 v5 v6 v7 v8 v9 v10 v11 v12).heap[g]? = some (.cells #[v0, v1, v2, v3, v4, v5, v6, v7, v8, v9, v10, v11, v12] t (0, 0)) := by
  unfold put13
  have h0 := heap_setCell_same w g 0 _ t v0 h
  have h1 := heap_setCell_same _ g 1 _ t v1 h0
  have h2 := heap_setCell_same _ g 2 _ t v2 h1
  have h3 := heap_setCell_same _ g 3 _ t v3 h2
  have h4 := heap_setCell_same _ g 4 _ t v4 h3
  have h5 := heap_setCell_same _ g 5 _ t v5 h4
  have h6 := heap_setCell_same _ g 6 _ t v6 h5
  have h7 := heap_setCell_same _ g 7 _ t v7 h6
  have h8 := heap_setCell_same _ g 8 _ t v8 h7
  have h9 := heap_setCell_same _ g 9 _ t v9 h8
  have h10 := heap_setCell_same _ g 10 _ t v10 h9
  have h11 := heap_setCell_same _ g 11 _ t v11 h10
  have h12 := heap_setCell_same _ g 12 _ t v12 h11
  rw [h12]
  simp
theorem put13_below {B : Nat} {u w : World} (h : Below B u w) {g : Nat} (hg : B ≤ g) (v0 v1 v2 v3 v4 v5 v6 v7 v8 v9 v10 v11 v12 : Value) : Below B u (put13 w g v0 v1 v2 v3 v4 v5 v6 v7 v8 v9 v10 v11 v12) := by
  unfold put13
  exact ((((((((((((h.setCell (p := ⟨g, 0, none⟩) hg v0).setCell (p := ⟨g, 1, none⟩) hg v1).setCell (p := ⟨g, 2, none⟩) hg v2).setCell (p := ⟨g, 3, none⟩) hg v3).setCell (p := ⟨g, 4, none⟩) hg v4).setCell (p := ⟨g, 5, none⟩) hg v5).setCell (p := ⟨g, 6, none⟩) hg v6).setCell (p := ⟨g, 7, none⟩) hg v7).setCell (p := ⟨g, 8, none⟩) hg v8).setCell (p := ⟨g, 9, none⟩) hg v9).setCell (p := ⟨g, 10, none⟩) hg v10).setCell (p := ⟨g, 11, none⟩) hg v11).setCell (p := ⟨g, 12, none⟩) hg v12
theorem cells13 {w : World} {g t : Nat} {z0 z1 z2 z3 z4 z5 z6 z7 z8 z9 z10 z11 z12 : Value} (h : w.heap[g]? = some (.cells #[z0, z1, z2, z3, z4, z5, z6, z7, z8, z9, z10, z11, z12] t (0, 0))) : w.cell? ⟨g, 0, none⟩ = some z0 ∧ w.cell? ⟨g, 1, none⟩ = some z1 ∧ w.cell? ⟨g, 2, none⟩ = some z2 ∧ w.cell? ⟨g, 3, none⟩ = some z3 ∧ w.cell? ⟨g, 4, none⟩ = some z4 ∧ w.cell? ⟨g, 5, none⟩ = some z5 ∧ w.cell? ⟨g, 6, none⟩ = some z6 ∧ w.cell? ⟨g, 7, none⟩ = some z7 ∧ w.cell? ⟨g, 8, none⟩ = some z8 ∧ w.cell? ⟨g, 9, none⟩ = some z9 ∧ w.cell? ⟨g, 10, none⟩ = some z10 ∧ w.cell? ⟨g, 11, none⟩ = some z11 ∧ w.cell? ⟨g, 12, none⟩ = some z12 := by
  refine ⟨?_, ?_, ?_, ?_, ?_, ?_, ?_, ?_, ?_, ?_, ?_, ?_, ?_⟩ <;> (unfold World.cell?; rw [h]; rfl)

/-- Cells written over. -/
def put10 (w : World) (g : Nat) (v0 v1 v2 v3 v4 v5 v6 v7 v8 v9 : Value) : World := (((((((((w.setCell ⟨g, 0, none⟩ v0).setCell ⟨g, 1, none⟩ v1).setCell ⟨g, 2, none⟩ v2).setCell ⟨g, 3, none⟩ v3).setCell ⟨g, 4, none⟩ v4).setCell ⟨g, 5, none⟩ v5).setCell ⟨g, 6, none⟩ v6).setCell ⟨g, 7, none⟩ v7).setCell ⟨g, 8, none⟩ v8).setCell ⟨g, 9, none⟩ v9
theorem put10_same {w : World} {g t : Nat} {z0 z1 z2 z3 z4 z5 z6 z7 z8 z9 : Value} (h : w.heap[g]? = some (.cells #[z0, z1, z2, z3, z4, z5, z6, z7, z8, z9] t (0, 0))) (v0 v1 v2 v3 v4 v5 v6 v7 v8 v9 : Value) : (put10 w g v0 v1 v2 v3 v4 v5 v6 v7 v8 v9).heap[g]? = some (.cells #[v0, v1, v2, v3, v4, v5, v6, v7, v8, v9] t (0, 0)) := by
  unfold put10
  have h0 := heap_setCell_same w g 0 _ t v0 h
  have h1 := heap_setCell_same _ g 1 _ t v1 h0
  have h2 := heap_setCell_same _ g 2 _ t v2 h1
  have h3 := heap_setCell_same _ g 3 _ t v3 h2
  have h4 := heap_setCell_same _ g 4 _ t v4 h3
  have h5 := heap_setCell_same _ g 5 _ t v5 h4
  have h6 := heap_setCell_same _ g 6 _ t v6 h5
  have h7 := heap_setCell_same _ g 7 _ t v7 h6
  have h8 := heap_setCell_same _ g 8 _ t v8 h7
  have h9 := heap_setCell_same _ g 9 _ t v9 h8
  rw [h9]
  simp
theorem put10_below {B : Nat} {u w : World} (h : Below B u w) {g : Nat} (hg : B ≤ g) (v0 v1 v2 v3 v4 v5 v6 v7 v8 v9 : Value) : Below B u (put10 w g v0 v1 v2 v3 v4 v5 v6 v7 v8 v9) := by
  unfold put10
  exact (((((((((h.setCell (p := ⟨g, 0, none⟩) hg v0).setCell (p := ⟨g, 1, none⟩) hg v1).setCell (p := ⟨g, 2, none⟩) hg v2).setCell (p := ⟨g, 3, none⟩) hg v3).setCell (p := ⟨g, 4, none⟩) hg v4).setCell (p := ⟨g, 5, none⟩) hg v5).setCell (p := ⟨g, 6, none⟩) hg v6).setCell (p := ⟨g, 7, none⟩) hg v7).setCell (p := ⟨g, 8, none⟩) hg v8).setCell (p := ⟨g, 9, none⟩) hg v9
theorem put10_other (w : World) (g : Nat) (v0 v1 v2 v3 v4 v5 v6 v7 v8 v9 : Value) (b : Nat) (hb : b ≠ g) : (put10 w g v0 v1 v2 v3 v4 v5 v6 v7 v8 v9).heap[b]? = w.heap[b]? := by
  unfold put10
  rw [heap_setCell_other _ ⟨g, 9, none⟩ b _ hb, heap_setCell_other _ ⟨g, 8, none⟩ b _ hb, heap_setCell_other _ ⟨g, 7, none⟩ b _ hb, heap_setCell_other _ ⟨g, 6, none⟩ b _ hb, heap_setCell_other _ ⟨g, 5, none⟩ b _ hb, heap_setCell_other _ ⟨g, 4, none⟩ b _ hb, heap_setCell_other _ ⟨g, 3, none⟩ b _ hb, heap_setCell_other _ ⟨g, 2, none⟩ b _ hb, heap_setCell_other _ ⟨g, 1, none⟩ b _ hb, heap_setCell_other _ ⟨g, 0, none⟩ b _ hb]
theorem cells10 {w : World} {g t : Nat} {z0 z1 z2 z3 z4 z5 z6 z7 z8 z9 : Value} (h : w.heap[g]? = some (.cells #[z0, z1, z2, z3, z4, z5, z6, z7, z8, z9] t (0, 0))) : w.cell? ⟨g, 0, none⟩ = some z0 ∧ w.cell? ⟨g, 1, none⟩ = some z1 ∧ w.cell? ⟨g, 2, none⟩ = some z2 ∧ w.cell? ⟨g, 3, none⟩ = some z3 ∧ w.cell? ⟨g, 4, none⟩ = some z4 ∧ w.cell? ⟨g, 5, none⟩ = some z5 ∧ w.cell? ⟨g, 6, none⟩ = some z6 ∧ w.cell? ⟨g, 7, none⟩ = some z7 ∧ w.cell? ⟨g, 8, none⟩ = some z8 ∧ w.cell? ⟨g, 9, none⟩ = some z9 := by
  refine ⟨?_, ?_, ?_, ?_, ?_, ?_, ?_, ?_, ?_, ?_⟩ <;> (unfold World.cell?; rw [h]; rfl)

set_option maxHeartbeats 8000000 in
set_option maxRecDepth 100000 in
theorem first_is {f : Nat} {caps : Array Value} {p : Kl → Bool} (v : Value) (l : List Kl) (w : World) (hf : FnIs w f caps KlV (fun _ => True) p) (h : Rd w 13 KlR v l) (hz : l.length ≤ 100000) :
    Calls Tryz.prog 35 #[v, .func (.func f) #[] caps] w (FirstGood w p l) := by
  obtain ⟨ao, ca, rfl⟩ := h.slice
  have A1 := balloc (brefl w) (.cells #[.int .i64 0, .bool false, .string ⟨#[]⟩, .string ⟨#[]⟩, .int .i64 0, .int .i64 0, .int .i64 0, .int .i64 0, .int .i64 0, .slice none 0 0, .slice none 0 0, .bool false, .slice none 0 0] 45)
  have N1 := hide (heap_new w #[.int .i64 0, .bool false, .string ⟨#[]⟩, .string ⟨#[]⟩, .int .i64 0, .int .i64 0, .int .i64 0, .int .i64 0, .int .i64 0, .slice none 0 0, .slice none 0 0, .bool false, .slice none 0 0] 45)
  have CI := hide (indexK_is (.slice ao l.length ca) l (w.alloc (.cells #[.int .i64 0, .bool false, .string ⟨#[]⟩, .string ⟨#[]⟩, .int .i64 0, .int .i64 0, .int .i64 0, .int .i64 0, .int .i64 0, .slice none 0 0, .slice none 0 0, .bool false, .slice none 0 0] 45)) (hf.from A1) (h.below KlR.mono A1) (fun _ _ => trivial) hz)
  have B1 := hide A1
  have H := hide h
  clear hf h A1
  go_enter Tryz.func35, Tryz.ntmps35
  go_upto_region 1 with fail
  obtain ⟨g, hg⟩ : ∃ x, w.heap.size = x := ⟨_, rfl⟩
  rw [hg] at N1 ⊢
  have HG := hide (Nat.le_of_eq hg)
  generalize w.alloc (.cells #[.int .i64 0, .bool false, .string ⟨#[]⟩, .string ⟨#[]⟩, .int .i64 0, .int .i64 0, .int .i64 0, .int .i64 0, .int .i64 0, .slice none 0 0, .slice none 0 0, .bool false, .slice none 0 0] 45) = W1 at *
  go_wp2_with fail
  refine CI.out.mono ?_
  rintro e w2 ⟨i, rfl, hi, hb2⟩
  have N2 := hide ((hb2.block g (heap_lt N1.out)).trans N1.out)
  have B2 := hide (bthen B1.out hb2)
  clear hb2 CI N1 B1 hg
  rcases hi with ⟨rfl, hno⟩ | ⟨k, hk, rfl, hp, ha⟩
  · have HN := hide (find_none hno)
    clear hno
    obtain ⟨u0, u1, u2, u3, u4, u5, u6, u7, u8, u9, u10, u11, u12⟩ := cells13 N2.out
    have f0 := frozenG N2.out 0
    have f1 := frozenG N2.out 1
    have f2 := frozenG N2.out 2
    have f3 := frozenG N2.out 3
    have f4 := frozenG N2.out 4
    have f5 := frozenG N2.out 5
    have f6 := frozenG N2.out 6
    have f7 := frozenG N2.out 7
    have f8 := frozenG N2.out 8
    have f9 := frozenG N2.out 9
    have f10 := frozenG N2.out 10
    have f11 := frozenG N2.out 11
    have f12 := frozenG N2.out 12
    go_wp2_with fail
    have BE := hide (put13_below B2.out HG.out (.int .i64 0) (.bool false) (.string ⟨#[]⟩) (.string ⟨#[]⟩) (.int .i64 0) (.int .i64 0) (.int .i64 0) (.int .i64 0) (.int .i64 0) (.slice none 0 0) (.slice none 0 0) (.bool false) (.slice none 0 0))
    have NE := hide (put13_same N2.out (.int .i64 0) (.bool false) (.string ⟨#[]⟩) (.string ⟨#[]⟩) (.int .i64 0) (.int .i64 0) (.int .i64 0) (.int .i64 0) (.int .i64 0) (.slice none 0 0) (.slice none 0 0) (.bool false) (.slice none 0 0))
    change bodyPost _ _ _ _ _ (put13 w2 g (.int .i64 0) (.bool false) (.string ⟨#[]⟩) (.string ⟨#[]⟩) (.int .i64 0) (.int .i64 0) (.int .i64 0) (.int .i64 0) (.int .i64 0) (.slice none 0 0) (.slice none 0 0) (.bool false) (.slice none 0 0))
    generalize hW9 : put13 w2 g (.int .i64 0) (.bool false) (.string ⟨#[]⟩) (.string ⟨#[]⟩) (.int .i64 0) (.int .i64 0) (.int .i64 0) (.int .i64 0) (.int .i64 0) (.slice none 0 0) (.slice none 0 0) (.bool false) (.slice none 0 0) = w9 at *
    obtain ⟨y0, y1, y2, y3, y4, y5, y6, y7, y8, y9, y10, y11, y12⟩ := cells13 NE.out
    refine bodyPost_ret (v := .tuple #[zeroK, .bool false]) ?_ rfl ?_
    · simp [results, Tryz.results35, go_sem, zeroK, y0, y1, y2, y3, y4, y5, y6, y7, y8, y9, y10, y11, y12]
    · exact ⟨BE.out, .inl ⟨HN.out, rfl⟩⟩
  · have HN := hide (find_some hk hp ha)
    have HM := hide (List.getElem_mem hk)
    have hkl : (k : Int) < (l.length : Int) := by omega
    have hk0 : ¬ (k : Int) < 0 := by omega
    obtain ⟨b, off, xs, rfl, hbw, hx, hxl, hc0⟩ := H.out.at_ hk
    have hc : ∀ i u, xs[i]? = some u → w2.cell? ⟨b, off + k * 13 + i, none⟩ = some u := fun i u hu => (B2.out.cell (p := ⟨b, off + k * 13 + i, none⟩) hbw).trans (hc0 i u hu)
    clear hc0
    have HX := hide hx
    have hne : b ≠ g := fun e => by
      have := HG.out
      omega
    obtain ⟨o1, o2, o3, c1, c2, c3, rfl, _, _⟩ := hx
    unfold Kl.cells at *
    clear hp ha hxl hbw
    generalize hlk : l[k] = y at *
    clear hlk
    obtain ⟨n, okv, ls, pt, qa, qn, ⟨pf, md, og, ad, de, clr, pp⟩⟩ := y
    simp only at *
    obtain ⟨na, hna⟩ : ∃ x, ad.length = x := ⟨_, rfl⟩
    obtain ⟨nd, hnd⟩ : ∃ x, de.length = x := ⟨_, rfl⟩
    obtain ⟨np, hnp⟩ : ∃ x, pp.length = x := ⟨_, rfl⟩
    rw [hna, hnd, hnp] at HX hc
    clear hna hnd hnp
    have e0 := hc 0 _ rfl
    have e1 := hc 1 _ rfl
    have e2 := hc 2 _ rfl
    have e3 := hc 3 _ rfl
    have e4 := hc 4 _ rfl
    have e5 := hc 5 _ rfl
    have e6 := hc 6 _ rfl
    have e7 := hc 7 _ rfl
    have e8 := hc 8 _ rfl
    have e9 := hc 9 _ rfl
    have e10 := hc 10 _ rfl
    have e11 := hc 11 _ rfl
    have e12 := hc 12 _ rfl
    simp only [Nat.add_zero] at e0
    clear hc
    obtain ⟨u0, u1, u2, u3, u4, u5, u6, u7, u8, u9, u10, u11, u12⟩ := cells13 N2.out
    have f0 := frozenG N2.out 0
    have f1 := frozenG N2.out 1
    have f2 := frozenG N2.out 2
    have f3 := frozenG N2.out 3
    have f4 := frozenG N2.out 4
    have f5 := frozenG N2.out 5
    have f6 := frozenG N2.out 6
    have f7 := frozenG N2.out 7
    have f8 := frozenG N2.out 8
    have f9 := frozenG N2.out 9
    have f10 := frozenG N2.out 10
    have f11 := frozenG N2.out 11
    have f12 := frozenG N2.out 12
    go_wp2_with fail
    have BE := hide (put13_below B2.out HG.out (.int .i64 n) (.bool okv) (.string ls) (.string pt) (.int .i64 qa) (.int .i64 qn) (.int .i64 pf) (.int .i64 md) (.int .i64 og) (.slice o1 na c1) (.slice o2 nd c2) (.bool clr) (.slice o3 np c3))
    have BX : Hid (KlR (put13 w2 g (.int .i64 n) (.bool okv) (.string ls) (.string pt) (.int .i64 qa) (.int .i64 qn) (.int .i64 pf) (.int .i64 md) (.int .i64 og) (.slice o1 na c1) (.slice o2 nd c2) (.bool clr) (.slice o3 np c3)) ⟨n, okv, ls, pt, qa, qn, ⟨pf, md, og, ad, de, clr, pp⟩⟩ [.int .i64 n, .bool okv, .string ls, .string pt, .int .i64 qa, .int .i64 qn, .int .i64 pf, .int .i64 md, .int .i64 og, .slice o1 na c1, .slice o2 nd c2, .bool clr, .slice o3 np c3]) := by
      exact KlR.mono _ _ _ _ BE.out HX.out
    have NE := hide (put13_same N2.out (.int .i64 n) (.bool okv) (.string ls) (.string pt) (.int .i64 qa) (.int .i64 qn) (.int .i64 pf) (.int .i64 md) (.int .i64 og) (.slice o1 na c1) (.slice o2 nd c2) (.bool clr) (.slice o3 np c3))
    change bodyPost _ _ _ _ _ (put13 w2 g (.int .i64 n) (.bool okv) (.string ls) (.string pt) (.int .i64 qa) (.int .i64 qn) (.int .i64 pf) (.int .i64 md) (.int .i64 og) (.slice o1 na c1) (.slice o2 nd c2) (.bool clr) (.slice o3 np c3))
    generalize hW9 : put13 w2 g (.int .i64 n) (.bool okv) (.string ls) (.string pt) (.int .i64 qa) (.int .i64 qn) (.int .i64 pf) (.int .i64 md) (.int .i64 og) (.slice o1 na c1) (.slice o2 nd c2) (.bool clr) (.slice o3 np c3) = w9 at *
    obtain ⟨y0, y1, y2, y3, y4, y5, y6, y7, y8, y9, y10, y11, y12⟩ := cells13 NE.out
    refine bodyPost_ret (v := .tuple #[.agg #[.int .i64 n, .bool okv, .string ls, .string pt, .int .i64 qa, .int .i64 qn, .int .i64 pf, .int .i64 md, .int .i64 og, .slice o1 na c1, .slice o2 nd c2, .bool clr, .slice o3 np c3], .bool true]) ?_ rfl ?_
    · simp [results, Tryz.results35, go_sem, y0, y1, y2, y3, y4, y5, y6, y7, y8, y9, y10, y11, y12]
    · exact ⟨BE.out, .inr ⟨_, _, HN.out, HM.out, ⟨_, BX.out, rfl⟩, rfl⟩⟩
end Go.Proofs.YtngfoijmknclhaaGreatDoor
namespace Go.Proofs.YtngfoijmknclhaaGreatDoor
open Go.RowKit Go.Sort
/-- What comes of a route. -/
structure Rs where
  pass : Bool
  atr : At
  cl : Int
  er : Int
def RsV (r : Rs) (po co ko : Option Addr) (cp cc ck : Nat) : Value := .agg #[.bool r.pass, .int .i64 r.atr.pf, .int .i64 r.atr.md, .int .i64 r.atr.og, .slice po r.atr.path.length cp, .slice co r.atr.comms.length cc, .int .i64 r.atr.fr, .slice ko r.atr.cl.length ck, .int .i64 r.cl, .int .i64 r.er]
def ResGood (P : Rs → Prop) (w : World) (e : Ending) (w' : World) : Prop :=
  ∃ r po co ko cp cc ck, e = .returned (RsV r po co ko cp cc ck) ∧ P r ∧ At.mine w.heap.size w' r.atr po co ko ∧ At.came r.atr po co ko cp cc ck ∧ Below w.heap.size w w'
/-- What the clause that decides makes of attributes. -/
def DecTo (c : Kl) (a : At) (r : Rs) : Prop := if c.ok = true then ∃ d q, At.DoTo a c.s d q ∧ r = ⟨q == 0, d, c.n, q⟩ else r = ⟨false, At.zero, c.n, 0⟩
theorem zero_mine (B : Nat) (w : World) : At.mine B w At.zero none none none := ⟨⟨.inl rfl, .inl rfl, .inl rfl⟩, .inl rfl, .inl rfl, .inl rfl⟩
theorem zero_came : At.came At.zero none none none 0 0 0 := ⟨no_came, no_came, no_came, Nat.le_refl _⟩
theorem zero_res {P : Rs → Prop} {w w' : World} {p : Bool} {n q : Int} (h : P ⟨p, At.zero, n, q⟩) (hb : Below w.heap.size w w') : ResGood P w (.returned (.agg #[.bool p, .int .i64 0, .int .i64 0, .int .i64 0, .slice none 0 0, .slice none 0 0, .int .i64 0, .slice none 0 0, .int .i64 n, .int .i64 q])) w' :=
  ⟨⟨p, At.zero, n, q⟩, none, none, none, 0, 0, 0, rfl, h, zero_mine _ _, zero_came, hb⟩
set_option maxHeartbeats 16000000 in
set_option maxRecDepth 100000 in
theorem decided_is (c : Kl) (cv : Value) (a : At) (po co ko : Option Addr) (cp cc ck : Nat) (w : World) (hcv : KlV w c cv) (hf : fewK c) (hA : At.lies w a po co ko) (hCA : At.came a po co ko cp cc ck) (h1 : a.path.length ≤ 100) (h2 : a.comms.length ≤ 100) (h3 : a.cl.length ≤ 100) :
    Calls Tryz.prog 36 #[cv, AtV a po co ko cp cc ck] w (ResGood (DecTo c a) w) := by
  obtain ⟨xs, hx, rfl⟩ := hcv
  obtain ⟨o1, o2, o3, c1, c2, c3, rfl, hs, hc⟩ := hx
  have CD := hide (fun W' (hb : Below w.heap.size w W') => doA_is a po co ko cp cc ck c.s o1 o2 o3 c1 c2 c3 W' (At.lies_below hA hb) hCA h1 h2 h3 (St.lies_below hs hb) hc hf.1 hf.2.1 hf.2.2)
  have HD : Hid (∀ r, DecTo c a r ↔ if c.ok = true then ∃ d q, At.DoTo a c.s d q ∧ r = ⟨q == 0, d, c.n, q⟩ else r = ⟨false, At.zero, c.n, 0⟩) := fun r => Iff.rfl
  unfold Kl.cells AtV at *
  obtain ⟨pn, hpn⟩ : ∃ x, a.path.length = x := ⟨_, rfl⟩
  obtain ⟨cn, hcn⟩ : ∃ x, a.comms.length = x := ⟨_, rfl⟩
  obtain ⟨kn, hkn⟩ : ∃ x, a.cl.length = x := ⟨_, rfl⟩
  rw [hpn, hcn, hkn] at CD
  rw [hpn, hcn, hkn]
  clear hA hCA h1 h2 h3 hs hc hf hpn hcn hkn
  generalize DecTo c a = P at *
  obtain ⟨n, okv, ls, pt, qa, qn, ⟨pf, md, og, ad, de, clr, pp⟩⟩ := c
  simp only at *
  obtain ⟨na, hna⟩ : ∃ x, ad.length = x := ⟨_, rfl⟩
  obtain ⟨nd, hnd⟩ : ∃ x, de.length = x := ⟨_, rfl⟩
  obtain ⟨np, hnp⟩ : ∃ x, pp.length = x := ⟨_, rfl⟩
  rw [hna, hnd, hnp] at CD ⊢
  clear hna hnd hnp
  have A1 := balloc (brefl w) (.cells #[.int .i64 n, .bool okv, .string ls, .string pt, .int .i64 qa, .int .i64 qn, .int .i64 pf, .int .i64 md, .int .i64 og, .slice o1 na c1, .slice o2 nd c2, .bool clr, .slice o3 np c3] 45)
  have A2 := balloc A1 (.cells #[.int .i64 a.pf, .int .i64 a.md, .int .i64 a.og, .slice po pn cp, .slice co cn cc, .int .i64 a.fr, .slice ko kn ck] 30)
  have A3 := balloc A2 (.cells #[.bool false, .int .i64 0, .int .i64 0, .int .i64 0, .slice none 0 0, .slice none 0 0, .int .i64 0, .slice none 0 0, .int .i64 0, .int .i64 0] 52)
  have B3 := hide A3
  have N1 := heap_new w #[.int .i64 n, .bool okv, .string ls, .string pt, .int .i64 qa, .int .i64 qn, .int .i64 pf, .int .i64 md, .int .i64 og, .slice o1 na c1, .slice o2 nd c2, .bool clr, .slice o3 np c3] 45
  have N2 := heap_new (w.alloc (.cells #[.int .i64 n, .bool okv, .string ls, .string pt, .int .i64 qa, .int .i64 qn, .int .i64 pf, .int .i64 md, .int .i64 og, .slice o1 na c1, .slice o2 nd c2, .bool clr, .slice o3 np c3] 45)) #[.int .i64 a.pf, .int .i64 a.md, .int .i64 a.og, .slice po pn cp, .slice co cn cc, .int .i64 a.fr, .slice ko kn ck] 30
  have N3 := heap_new ((w.alloc (.cells #[.int .i64 n, .bool okv, .string ls, .string pt, .int .i64 qa, .int .i64 qn, .int .i64 pf, .int .i64 md, .int .i64 og, .slice o1 na c1, .slice o2 nd c2, .bool clr, .slice o3 np c3] 45)).alloc (.cells #[.int .i64 a.pf, .int .i64 a.md, .int .i64 a.og, .slice po pn cp, .slice co cn cc, .int .i64 a.fr, .slice ko kn ck] 30)) #[.bool false, .int .i64 0, .int .i64 0, .int .i64 0, .slice none 0 0, .slice none 0 0, .int .i64 0, .slice none 0 0, .int .i64 0, .int .i64 0] 52
  have D2 := balloc (brefl (w.alloc (.cells #[.int .i64 n, .bool okv, .string ls, .string pt, .int .i64 qa, .int .i64 qn, .int .i64 pf, .int .i64 md, .int .i64 og, .slice o1 na c1, .slice o2 nd c2, .bool clr, .slice o3 np c3] 45))) (.cells #[.int .i64 a.pf, .int .i64 a.md, .int .i64 a.og, .slice po pn cp, .slice co cn cc, .int .i64 a.fr, .slice ko kn ck] 30)
  have D3 := balloc (brefl ((w.alloc (.cells #[.int .i64 n, .bool okv, .string ls, .string pt, .int .i64 qa, .int .i64 qn, .int .i64 pf, .int .i64 md, .int .i64 og, .slice o1 na c1, .slice o2 nd c2, .bool clr, .slice o3 np c3] 45)).alloc (.cells #[.int .i64 a.pf, .int .i64 a.md, .int .i64 a.og, .slice po pn cp, .slice co cn cc, .int .i64 a.fr, .slice ko kn ck] 30))) (.cells #[.bool false, .int .i64 0, .int .i64 0, .int .i64 0, .slice none 0 0, .slice none 0 0, .int .i64 0, .slice none 0 0, .int .i64 0, .int .i64 0] 52)
  have M1 := hide (((bthen D2 D3).block _ (heap_lt N1)).trans N1)
  have M2 := hide ((D3.block _ (heap_lt N2)).trans N2)
  have M3 := hide N3
  rw [sizeA] at M2
  rw [sizeA, sizeA] at M3
  clear A1 A2 A3 N1 N2 N3 D2 D3
  go_enter Tryz.func36, Tryz.ntmps36
  go_upto_region 1 with fail
  obtain ⟨c0, hc0⟩ : ∃ x, w.heap.size = x := ⟨_, rfl⟩
  obtain ⟨p, hp⟩ : ∃ x, c0 + 1 = x := ⟨_, rfl⟩
  obtain ⟨g, hg⟩ : ∃ x, p + 1 = x := ⟨_, rfl⟩
  rw [hc0, hp, hg] at M3
  rw [hc0, hp] at M2
  rw [hc0] at M1
  rw [hc0, hp, hg]
  have HG := hide (show w.heap.size ≤ g by omega)
  clear hc0 hp hg
  generalize ((w.alloc (.cells #[.int .i64 n, .bool okv, .string ls, .string pt, .int .i64 qa, .int .i64 qn, .int .i64 pf, .int .i64 md, .int .i64 og, .slice o1 na c1, .slice o2 nd c2, .bool clr, .slice o3 np c3] 45)).alloc (.cells #[.int .i64 a.pf, .int .i64 a.md, .int .i64 a.og, .slice po pn cp, .slice co cn cc, .int .i64 a.fr, .slice ko kn ck] 30)).alloc (.cells #[.bool false, .int .i64 0, .int .i64 0, .int .i64 0, .slice none 0 0, .slice none 0 0, .int .i64 0, .slice none 0 0, .int .i64 0, .int .i64 0] 52) = W3 at *
  obtain ⟨k0, k1, k2, k3, k4, k5, k6, k7, k8, k9, k10, k11, k12⟩ := cells13 M1.out
  cases okv with
  | false =>
    have HP : Hid (P ⟨false, At.zero, n, 0⟩) := (HD.out _).2 (by simp)
    obtain ⟨u0, u1, u2, u3, u4, u5, u6, u7, u8, u9⟩ := cells10 M3.out
    have f0 := frozenG M3.out 0
    have f1 := frozenG M3.out 1
    have f2 := frozenG M3.out 2
    have f3 := frozenG M3.out 3
    have f4 := frozenG M3.out 4
    have f5 := frozenG M3.out 5
    have f6 := frozenG M3.out 6
    have f7 := frozenG M3.out 7
    have f8 := frozenG M3.out 8
    have f9 := frozenG M3.out 9
    go_wp2_with fail
    have BE := hide (put10_below B3.out HG.out (.bool false) (.int .i64 0) (.int .i64 0) (.int .i64 0) (.slice none 0 0) (.slice none 0 0) (.int .i64 0) (.slice none 0 0) (.int .i64 n) (.int .i64 0))
    have NE := hide (put10_same M3.out (.bool false) (.int .i64 0) (.int .i64 0) (.int .i64 0) (.slice none 0 0) (.slice none 0 0) (.int .i64 0) (.slice none 0 0) (.int .i64 n) (.int .i64 0))
    change bodyPost _ _ _ _ _ (put10 W3 g (.bool false) (.int .i64 0) (.int .i64 0) (.int .i64 0) (.slice none 0 0) (.slice none 0 0) (.int .i64 0) (.slice none 0 0) (.int .i64 n) (.int .i64 0))
    generalize hW9 : put10 W3 g (.bool false) (.int .i64 0) (.int .i64 0) (.int .i64 0) (.slice none 0 0) (.slice none 0 0) (.int .i64 0) (.slice none 0 0) (.int .i64 n) (.int .i64 0) = w9 at *
    obtain ⟨y0, y1, y2, y3, y4, y5, y6, y7, y8, y9⟩ := cells10 NE.out
    refine bodyPost_ret (v := .agg #[.bool false, .int .i64 0, .int .i64 0, .int .i64 0, .slice none 0 0, .slice none 0 0, .int .i64 0, .slice none 0 0, .int .i64 n, .int .i64 0]) ?_ rfl ?_
    · simp [results, Tryz.results36, go_sem, y0, y1, y2, y3, y4, y5, y6, y7, y8, y9]
    · exact zero_res HP.out BE.out
  | true =>
    obtain ⟨l0, l1, l2, l3, l4, l5, l6⟩ := seven_cells M2.out
    have CD2 := hide (CD.out W3 B3.out)
    clear CD
    go_wp2_with fail
    refine CD2.out.mono ?_
    rintro e w4 ⟨r, q, po2, co2, ko2, cp2, cc2, ck2, rfl, hdo, hmi, hca, hb4⟩
    have HP : Hid (P ⟨q == 0, r, n, q⟩) := (HD.out _).2 (by simp only [if_true]; exact ⟨r, q, hdo, rfl⟩)
    have HM := hide hmi
    have HC := hide hca
    have N3 := hide ((hb4.block g (heap_lt M3.out)).trans M3.out)
    have N1 := hide ((hb4.block c0 (heap_lt M1.out)).trans M1.out)
    have GL := hide (heap_lt M3.out)
    have SZ := hide hb4.size
    have B4 := hide (bthen B3.out hb4)
    clear hdo hmi hca hb4 CD2 HD M1 M2 M3 k0 k1 k2 k3 k4 k5 k6 k7 k8 k9 k10 k11 k12 l0 l1 l2 l3 l4 l5 l6
    obtain ⟨rp, hrp⟩ : ∃ x, r.path.length = x := ⟨_, rfl⟩
    obtain ⟨rc, hrc⟩ : ∃ x, r.comms.length = x := ⟨_, rfl⟩
    obtain ⟨rk, hrk⟩ : ∃ x, r.cl.length = x := ⟨_, rfl⟩
    rw [hrp, hrc, hrk]
    have HRL := hide (And.intro hrp (And.intro hrc hrk))
    clear hrp hrc hrk
    have A5 := hide (balloc (brefl w4) (.cells #[.int .i64 r.pf, .int .i64 r.md, .int .i64 r.og, .slice po2 rp cp2, .slice co2 rc cc2, .int .i64 r.fr, .slice ko2 rk ck2] 30))
    have N4 := hide (heap_new w4 #[.int .i64 r.pf, .int .i64 r.md, .int .i64 r.og, .slice po2 rp cp2, .slice co2 rc cc2, .int .i64 r.fr, .slice ko2 rk ck2] 30)
    go_upto_region 4 with fail
    obtain ⟨d, hd⟩ : ∃ x, w4.heap.size = x := ⟨_, rfl⟩
    rw [hd] at N4 ⊢
    clear hd
    generalize w4.alloc (.cells #[.int .i64 r.pf, .int .i64 r.md, .int .i64 r.og, .slice po2 rp cp2, .slice co2 rc cc2, .int .i64 r.fr, .slice ko2 rk ck2] 30) = w5 at *
    have N5 := hide ((A5.out.block g (heap_lt N3.out)).trans N3.out)
    have n0 := cell_of ((A5.out.block c0 (heap_lt N1.out)).trans N1.out) 0 rfl
    obtain ⟨m0, m1, m2, m3, m4, m5, m6⟩ := seven_cells N4.out
    have B5 := hide (bthen B4.out A5.out)
    have H5 : Hid (At.mine w.heap.size (put10 w5 g (.bool (q == 0)) (.int .i64 r.pf) (.int .i64 r.md) (.int .i64 r.og) (.slice po2 rp cp2) (.slice co2 rc cc2) (.int .i64 r.fr) (.slice ko2 rk ck2) (.int .i64 n) (.int .i64 q)) r po2 co2 ko2) :=
      mine_hold HM.out B3.out.size (fun b hb hbw => (put10_other _ _ _ _ _ _ _ _ _ _ _ _ b (by have := GL.out; omega)).trans (A5.out.block b hbw))
    obtain ⟨qz, hqz⟩ : ∃ x, (q == 0) = x := ⟨_, rfl⟩
    rw [hqz] at H5 HP
    obtain ⟨u0, u1, u2, u3, u4, u5, u6, u7, u8, u9⟩ := cells10 N5.out
    have f0 := frozenG N5.out 0
    have f1 := frozenG N5.out 1
    have f2 := frozenG N5.out 2
    have f3 := frozenG N5.out 3
    have f4 := frozenG N5.out 4
    have f5 := frozenG N5.out 5
    have f6 := frozenG N5.out 6
    have f7 := frozenG N5.out 7
    have f8 := frozenG N5.out 8
    have f9 := frozenG N5.out 9
    go_wp2_with fail
    try rw [hqz]
    have BE := hide (put10_below B5.out HG.out (.bool qz) (.int .i64 r.pf) (.int .i64 r.md) (.int .i64 r.og) (.slice po2 rp cp2) (.slice co2 rc cc2) (.int .i64 r.fr) (.slice ko2 rk ck2) (.int .i64 n) (.int .i64 q))
    have NE := hide (put10_same N5.out (.bool qz) (.int .i64 r.pf) (.int .i64 r.md) (.int .i64 r.og) (.slice po2 rp cp2) (.slice co2 rc cc2) (.int .i64 r.fr) (.slice ko2 rk ck2) (.int .i64 n) (.int .i64 q))
    change bodyPost _ _ _ _ _ (put10 w5 g (.bool qz) (.int .i64 r.pf) (.int .i64 r.md) (.int .i64 r.og) (.slice po2 rp cp2) (.slice co2 rc cc2) (.int .i64 r.fr) (.slice ko2 rk ck2) (.int .i64 n) (.int .i64 q))
    generalize hW9 : put10 w5 g (.bool qz) (.int .i64 r.pf) (.int .i64 r.md) (.int .i64 r.og) (.slice po2 rp cp2) (.slice co2 rc cc2) (.int .i64 r.fr) (.slice ko2 rk ck2) (.int .i64 n) (.int .i64 q) = w9 at *
    obtain ⟨y0, y1, y2, y3, y4, y5, y6, y7, y8, y9⟩ := cells10 NE.out
    refine bodyPost_ret (v := .agg #[.bool qz, .int .i64 r.pf, .int .i64 r.md, .int .i64 r.og, .slice po2 rp cp2, .slice co2 rc cc2, .int .i64 r.fr, .slice ko2 rk ck2, .int .i64 n, .int .i64 q]) ?_ rfl ?_
    · simp [results, Tryz.results36, go_sem, y0, y1, y2, y3, y4, y5, y6, y7, y8, y9]
    · obtain ⟨e1, e2, e3⟩ := HRL.out
      subst e1 e2 e3
      exact ⟨⟨qz, r, n, q⟩, po2, co2, ko2, cp2, cc2, ck2, rfl, HP.out, H5.out, HC.out, BE.out⟩
end Go.Proofs.YtngfoijmknclhaaGreatDoor
