/- Blocks of three cells; the reader's parts. -/
import Derived.Test.YtngfoijmknclhaaGreatDoorJ15
import Derived.Deep.RegionHeldLaw
import Derived.Deep.RegionLaw
namespace Go.Proofs.YtngfoijmknclhaaGreatDoor.Ar
open Go.RowKit Go.Sort
def Box3 (w : World) (b : Nat) (x0 x1 x2 : Value) : Prop := w.cell? ⟨b, 0, none⟩ = some x0 ∧ w.cell? ⟨b, 1, none⟩ = some x1 ∧ w.cell? ⟨b, 2, none⟩ = some x2
theorem box3_new (W : World) (x0 x1 x2 : Value) (t : TypeId) : Box3 (W.alloc (.cells #[x0, x1, x2] t)) W.heap.size x0 x1 x2 := ⟨by simp, by simp, by simp⟩
theorem box3_of {w w' : World} {b : Nat} {x0 x1 x2 : Value} (h : Box3 w b x0 x1 x2) (hb : w'.heap[b]? = w.heap[b]?) : Box3 w' b x0 x1 x2 := by
  have e : ∀ o, w'.cell? ⟨b, o, none⟩ = w.cell? ⟨b, o, none⟩ := fun o => World.cell?_of_block (a := ⟨b, o, none⟩) hb
  exact ⟨(e 0).trans h.1, (e 1).trans h.2.1, (e 2).trans h.2.2⟩
theorem box3_lt {w : World} {b : Nat} {x0 x1 x2 : Value} (h : Box3 w b x0 x1 x2) : b < w.heap.size := block_lt_of_cell h.1
theorem box3_but {w w' : World} {b c : Nat} {x0 x1 x2 : Value} (h : Box3 w c x0 x1 x2) (hb : But b w w') (hc : c ≠ b) : Box3 w' c x0 x1 x2 := box3_of h (hb.block c hc (box3_lt h))
theorem box3_below {w w' : World} {c : Nat} {x0 x1 x2 : Value} (h : Box3 w c x0 x1 x2) (hb : Below w.heap.size w w') : Box3 w' c x0 x1 x2 := box3_of h (hb.block c (box3_lt h))
theorem free_new (W : World) (cs : Array Value) (t : TypeId) : Free (W.alloc (.cells cs t)) W.heap.size := ⟨by simp, fun o => by simp [go_sem]⟩
def put3 (w : World) (g : Nat) (y0 y1 y2 : Value) : World := ((w.setCell ⟨g, 0, none⟩ y0).setCell ⟨g, 1, none⟩ y1).setCell ⟨g, 2, none⟩ y2
theorem put3_size (w : World) (g : Nat) (y0 y1 y2 : Value) : (put3 w g y0 y1 y2).heap.size = w.heap.size := by simp [put3]
theorem put3_other (w : World) (g : Nat) (y0 y1 y2 : Value) (k : Nat) (h : k ≠ g) : (put3 w g y0 y1 y2).heap[k]? = w.heap[k]? := by
  unfold put3
  rw [heap_setCell_ne _ _ _ _ _ h, heap_setCell_ne _ _ _ _ _ h, heap_setCell_ne _ _ _ _ _ h]
theorem put3_but {b : Nat} {W w : World} {g : Nat} (h : But b W w) (hg : g = b ∨ W.heap.size ≤ g) (y0 y1 y2 : Value) : But b W (put3 w g y0 y1 y2) :=
  ((h.setCell (p := ⟨g, 0, none⟩) hg y0).setCell (p := ⟨g, 1, none⟩) hg y1).setCell (p := ⟨g, 2, none⟩) hg y2
theorem put3_rd {w : World} {b g : Nat} {r : Bs} {d : Nat} {q : Int} (h : Rd w b r d q) (hg : g ≠ b) (y0 y1 y2 : Value) : Rd (put3 w g y0 y1 y2) b r d q :=
  ((h.other (p := ⟨g, 0, none⟩) hg y0).other (p := ⟨g, 1, none⟩) hg y1).other (p := ⟨g, 2, none⟩) hg y2
theorem put3_box {w : World} {g : Nat} {x0 x1 x2 : Value} (h : Box3 w g x0 x1 x2) (y0 y1 y2 : Value) : Box3 (put3 w g y0 y1 y2) g y0 y1 y2 := by
  obtain ⟨c0, c1, c2⟩ := h
  unfold put3
  refine ⟨?_, ?_, ?_⟩ <;> simp [go_sem, c0, c1, c2]
theorem box3_range {w : World} {g : Nat} {y0 y1 y2 : Value} (h : Box3 w g y0 y1 y2) : w.rangeAt g 0 [y0, y1, y2] := by
  obtain ⟨c0, c1, c2⟩ := h
  intro j v hj
  rw [Nat.zero_add]
  match j, hj with
  | 0, hj => simp at hj; subst hj; exact c0
  | 1, hj => simp at hj; subst hj; exact c1
  | 2, hj => simp at hj; subst hj; exact c2
theorem info59 : (Tryz.prog.info? 136).map (·.size) = some 3 := by kernel_rfl
theorem info84 : (Tryz.prog.info? 216).map (·.size) = some 3 := by kernel_rfl
theorem res_n {fn : Func} {p : Tmp} (h : fn.results = #[.cell p 136]) (tmps : Array Value) (w : World) (g : Nat) {y0 y1 y2 : Value} (hp : tmps.getD p undef = .pointer (some ⟨g, 0, none⟩)) (hg : Box3 w g y0 y1 y2) :
    (results fn tmps).run Tryz.prog w = .ok (.agg #[y0, y1, y2]) w := by
  have hp' : tmps[p]?.getD undef = .pointer (some ⟨g, 0, none⟩) := by simpa using hp
  have hl := run_loadVar_mid (P := Tryz.prog) w g 0 136 _ _ (box3_range hg) Tryz.underlying136 rfl (by rw [info59]; rfl)
  simp [results, h, hp', asAddr, hl]
theorem res_nb {fn : Func} {p a : Tmp} (h : fn.results = #[.cell p 136, .tmp a]) (tmps : Array Value) (w : World) (g : Nat) {y0 y1 y2 va : Value} (hp : tmps.getD p undef = .pointer (some ⟨g, 0, none⟩)) (ha : tmps.getD a undef = va) (hg : Box3 w g y0 y1 y2) :
    (results fn tmps).run Tryz.prog w = .ok (.tuple #[.agg #[y0, y1, y2], va]) w := by
  have hp' : tmps[p]?.getD undef = .pointer (some ⟨g, 0, none⟩) := by simpa using hp
  have ha' : tmps[a]?.getD undef = va := by simpa using ha
  have hl := run_loadVar_mid (P := Tryz.prog) w g 0 136 _ _ (box3_range hg) Tryz.underlying136 rfl (by rw [info59]; rfl)
  simp [results, h, hp', ha', asAddr, hl]
theorem res_p {fn : Func} {p : Tmp} (h : fn.results = #[.cell p 216]) (tmps : Array Value) (w : World) (g : Nat) {y0 y1 y2 : Value} (hp : tmps.getD p undef = .pointer (some ⟨g, 0, none⟩)) (hg : Box3 w g y0 y1 y2) :
    (results fn tmps).run Tryz.prog w = .ok (.agg #[y0, y1, y2]) w := by
  have hp' : tmps[p]?.getD undef = .pointer (some ⟨g, 0, none⟩) := by simpa using hp
  have hl := run_loadVar_mid (P := Tryz.prog) w g 0 216 _ _ (box3_range hg) Tryz.underlying216 rfl (by rw [info84]; rfl)
  simp [results, h, hp', asAddr, hl]

/-- What becomes of the reader behind a part. -/
def PartGood (b : Nat) (W : World) (d : Nat) (R : Except Int (Prt × Bs)) (e : Ending) (w' : World) : Prop :=
  But b W w' ∧ match R with
  | .ok (p, k) => ∃ k', Px.skip k' = Px.skip k ∧ k'.length ≤ k.length ∧ e = .returned (.agg #[.int .i64 p.1, .int .i64 p.2.1, .bool p.2.2]) ∧ Rd w' b k' d 0
  | .error v => ∃ (x y : Int) (z : Bool), e = .returned (.agg #[.int .i64 x, .int .i64 y, .bool z]) ∧ Rd w' b [] d v
abbrev zPart : Obj := .cells #[.int .i64 0, .int .i64 0, .bool false] 216

set_option maxHeartbeats 8000000 in
theorem part_is {T : World → Prop} (K : ReadKit T) {W : World} {b : Nat} {r : Bs} {d : Nat} (h : Rd W b r d 0) (hT : Ty T b W) (hl : r.length ≤ 2000) :
    Calls Tryz.prog 200 #[.pointer (some ⟨b, 0, none⟩)] W (PartGood b W d (partRes r)) := by
  have hne : W.heap.size ≠ b := by have := h.lt; omega
  have CD := hide (digits_is K.trims (h.alloc zPart) hl)
  have CN := hide (fun w hR hT => rnumber_is K (W := w) (b := b) (r := (Px.skip r).dropWhile Ad.dig) (d := d) (q := 0) hR hT (Px.digits r) (digits_no r) (Nat.le_trans (digits_len r) hl))
  have HB := hide (box3_new W (.int .i64 0) (.int .i64 0) (.bool false) 216)
  have HF := hide (free_new W #[.int .i64 0, .int .i64 0, .bool false] 216)
  have B0 := hide ((But.refl b W).alloc zPart)
  have HT := hide (hT.but B0.out)
  have HX : Hid (partRes r = (match numRes (Px.digits r) with | .error e => .error e | .ok a => (if Px.isAt ((Px.skip r).dropWhile Ad.dig) 45 = true then
      match Px.number (Px.next ((Px.skip r).dropWhile Ad.dig)) with
      | .error e => .error e
      | .ok (b, k2) => if b < a then .error 7 else .ok ((a, b, true), k2)
    else .ok ((a, a, false), (Px.skip r).dropWhile Ad.dig)))) := by
    show _ = _
    unfold partRes
    rw [number_res]
    cases numRes (Px.digits r) <;> rfl
  have hkl : ((Px.skip r).dropWhile Ad.dig).length ≤ 2000 := by
    have h1 := takeWhile_len Ad.dig (Px.skip r)
    have h2 := (Px.skip_suf r).length_le
    omega
  generalize partRes r = R at *
  generalize Px.digits r = ds at *
  generalize (Px.skip r).dropWhile Ad.dig = k at *
  clear h hl hT
  cases hn : numRes ds with
  | error v =>
    have hv := numRes_err hn
    rw [hn] at HX CN
    have HX2 : Hid (R = .error v) := HX.out
    clear HX hn
    go_enter Tryz.func200, Tryz.ntmps200
    go_wp2_with fail
    refine CD.out.mono ?_
    rintro e w1 ⟨rfl, hB, hR⟩
    have B1 := hide (B0.out.trans hB)
    have CN1 := hide (CN.out w1 hR (HT.out.but hB))
    have HB1 := hide (box3_but HB.out hB hne)
    have HF1 := hide (hB.free HF.out hne)
    clear hB hR CD CN
    go_wp2_with fail
    refine CN1.out.mono ?_
    rintro e w2 ⟨hB, rfl, hR⟩
    have B2 := hide (B1.out.trans hB)
    have R2 := hide (show Rd w2 b [] d v by simpa using hR)
    have CT := hide (take_is K.trims R2.out 45 45 rfl false rfl [] rfl)
    have HB2 := hide (box3_but HB1.out hB hne)
    have HF2 := hide (hB.free HF1.out hne)
    clear hB hR CN1
    go_wp2_with fail
    refine CT.out.mono ?_
    rintro e w3 ⟨rfl, hB, hR⟩
    have B3 := hide (B2.out.trans hB)
    have R3 := hide hR
    have HB3 := hide (box3_but HB2.out hB hne)
    obtain ⟨c0, c1, c2⟩ := HB3.out
    have fr := (hB.free HF2.out hne).2
    have f0 := fr 0
    have f1 := fr 1
    have f2 := fr 2
    clear hB hR CT fr
    go_wp2_with fail
    change bodyPost Tryz.prog Tryz.f200 (PartGood b W d R) Exit.ret _ (put3 w3 W.heap.size (.int .i64 0) (.int .i64 0) (.bool false))
    refine bodyPost_ret (v := .agg #[.int .i64 0, .int .i64 0, .bool false]) (res_p Tryz.results200 _ _ W.heap.size rfl (put3_box HB3.out _ _ _)) rfl ?_
    rw [HX2.out]
    exact ⟨put3_but B3.out (.inr (Nat.le_refl _)) _ _ _, 0, 0, false, rfl, put3_rd R3.out hne _ _ _⟩
  | ok a =>
    rw [hn] at HX CN
    have ha := numRes_as hn
    have HX := hide HX.out
    clear hn
    cases h45 : Px.isAt k 45 with
    | false =>
      have HX2 : Hid (R = .ok ((a, a, false), k)) := by
        show _ = _
        rw [HX.out]
        simp only [h45]
        rfl
      clear HX
      go_enter Tryz.func200, Tryz.ntmps200
      go_wp2_with fail
      refine CD.out.mono ?_
      rintro e w1 ⟨rfl, hB, hR⟩
      have B1 := hide (B0.out.trans hB)
      have CN1 := hide (CN.out w1 hR (HT.out.but hB))
      have HB1 := hide (box3_but HB.out hB hne)
      have HF1 := hide (hB.free HF.out hne)
      clear hB hR CD CN
      go_wp2_with fail
      refine CN1.out.mono ?_
      rintro e w2 ⟨hB, rfl, hR⟩
      have B2 := hide (B1.out.trans hB)
      have CT := hide (take_is K.trims hR 45 45 rfl false h45 (Px.skip k) (by simp))
      have HB2 := hide (box3_but HB1.out hB hne)
      have HF2 := hide (hB.free HF1.out hne)
      clear hB hR CN1 h45
      go_wp2_with fail
      refine CT.out.mono ?_
      rintro e w3 ⟨rfl, hB, hR⟩
      have B3 := hide (B2.out.trans hB)
      have R3 := hide hR
      have HB3 := hide (box3_but HB2.out hB hne)
      obtain ⟨c0, c1, c2⟩ := HB3.out
      have fr := (hB.free HF2.out hne).2
      have f0 := fr 0
      have f1 := fr 1
      have f2 := fr 2
      clear hB hR CT fr
      go_wp2_with fail
      change bodyPost Tryz.prog Tryz.f200 (PartGood b W d R) Exit.ret _ (put3 w3 W.heap.size (.int .i64 a) (.int .i64 a) (.bool false))
      refine bodyPost_ret (v := .agg #[.int .i64 a, .int .i64 a, .bool false]) (res_p Tryz.results200 _ _ W.heap.size rfl (put3_box HB3.out _ _ _)) rfl ?_
      rw [HX2.out]
      exact ⟨put3_but B3.out (.inr (Nat.le_refl _)) _ _ _, Px.skip k, Px.skip_idem k, (Px.skip_suf k).length_le, rfl, put3_rd R3.out hne _ _ _⟩
    | true =>
      have hkn : (Px.next k).length ≤ 2000 := Nat.le_trans (Px.next_suf k).length_le hkl
      have hkn2 : ((Px.skip (Px.next k)).dropWhile Ad.dig).length ≤ 2000 := by
        have h1 := takeWhile_len Ad.dig (Px.skip (Px.next k))
        have h2 := (Px.skip_suf (Px.next k)).length_le
        omega
      have HX1 : Hid (R = (match numRes (Px.digits (Px.next k)) with | .error e => .error e | .ok b => if b < a then .error 7 else .ok ((a, b, true), (Px.skip (Px.next k)).dropWhile Ad.dig))) := by
        show _ = _
        rw [HX.out]
        simp only [h45, if_true]
        rw [number_res]
        cases numRes (Px.digits (Px.next k)) <;> rfl
      have CD2 := hide (fun w hR => digits_is K.trims (W := w) (b := b) (r := Px.next k) (d := d) (q := 0) hR hkn)
      have CN2 := hide (fun w hR hT => rnumber_is K (W := w) (b := b) (r := (Px.skip (Px.next k)).dropWhile Ad.dig) (d := d) (q := 0) hR hT (Px.digits (Px.next k)) (digits_no _) (Nat.le_trans (digits_len _) hkn))
      have CT0 := hide (fun w hR => take_is K.trims (W := w) (b := b) (r := k) (d := d) (q := 0) hR 45 45 rfl true h45 (Px.next k) (by simp))
      generalize Px.digits (Px.next k) = ds2 at *
      generalize (Px.skip (Px.next k)).dropWhile Ad.dig = k2 at *
      generalize Px.next k = k1 at *
      clear HX h45 hkl
      cases hn2 : numRes ds2 with
      | error v =>
        have hv := numRes_err hn2
        have hv0 : v ≠ 0 := by rcases hv with rfl | rfl <;> decide
        rw [hn2] at HX1 CN2
        have HX2 : Hid (R = .error v) := HX1.out
        have ha1 := (Is.as_iff a).1 ha
        have hlt : (0 : Int) < a := by omega
        clear HX1 hn2 ha1 ha
        go_enter Tryz.func200, Tryz.ntmps200
        go_wp2_with fail
        refine CD.out.mono ?_
        rintro e w1 ⟨rfl, hB, hR⟩
        have B1 := hide (B0.out.trans hB)
        have HT1 := hide (HT.out.but hB)
        have CN1 := hide (CN.out w1 hR HT1.out)
        have HB1 := hide (box3_but HB.out hB hne)
        have HF1 := hide (hB.free HF.out hne)
        clear hB hR CD CN
        go_wp2_with fail
        refine CN1.out.mono ?_
        rintro e w2 ⟨hB, rfl, hR⟩
        have B2 := hide (B1.out.trans hB)
        have CT := hide (CT0.out w2 hR)
        have HT2 := hide (HT1.out.but hB)
        have HB2 := hide (box3_but HB1.out hB hne)
        have HF2 := hide (hB.free HF1.out hne)
        clear hB hR CN1 CT0
        go_wp2_with fail
        refine CT.out.mono ?_
        rintro e w3 ⟨rfl, hB, hR⟩
        have B3 := hide (B2.out.trans hB)
        have CD3 := hide (CD2.out w3 hR)
        have HT3 := hide (HT2.out.but hB)
        have HB3 := hide (box3_but HB2.out hB hne)
        have HF3 := hide (hB.free HF2.out hne)
        clear hB hR CT CD2
        go_wp2_with fail
        refine CD3.out.mono ?_
        rintro e w4 ⟨rfl, hB, hR⟩
        have B4 := hide (B3.out.trans hB)
        have CN4 := hide (CN2.out w4 hR (HT3.out.but hB))
        have HB4 := hide (box3_but HB3.out hB hne)
        have HF4 := hide (hB.free HF3.out hne)
        clear hB hR CD3 CN2
        go_wp2_with fail
        refine CN4.out.mono ?_
        rintro e w5 ⟨hB, rfl, hR⟩
        have B5 := hide (B4.out.trans hB)
        have R5 := hide (show Rd w5 b [] d v by simpa using hR)
        have CF := hide (rfail_is R5.out 7 v (by rw [if_neg hv0]))
        have HB5 := hide (box3_but HB4.out hB hne)
        have HF5 := hide (hB.free HF4.out hne)
        clear hB hR CN4
        go_wp2_with fail
        refine CF.out.mono ?_
        rintro e w6 ⟨rfl, hB, hR⟩
        have B6 := hide (B5.out.trans hB)
        have R6 := hide hR
        have HB6 := hide (box3_but HB5.out hB hne)
        obtain ⟨c0, c1, c2⟩ := HB6.out
        have fr := (hB.free HF5.out hne).2
        have f0 := fr 0
        have f1 := fr 1
        have f2 := fr 2
        clear hB hR CF fr
        go_wp2_with fail
        change bodyPost Tryz.prog Tryz.f200 (PartGood b W d R) Exit.ret _ (put3 w6 W.heap.size (.int .i64 a) (.int .i64 0) (.bool true))
        refine bodyPost_ret (v := .agg #[.int .i64 a, .int .i64 0, .bool true]) (res_p Tryz.results200 _ _ W.heap.size rfl (put3_box HB6.out _ _ _)) rfl ?_
        rw [HX2.out]
        exact ⟨put3_but B6.out (.inr (Nat.le_refl _)) _ _ _, a, 0, true, rfl, put3_rd R6.out hne _ _ _⟩
      | ok c =>
        rw [hn2] at HX1 CN2
        have HX1 := hide HX1.out
        clear hn2 ha
        by_cases hlt : c < a
        · have HX2 : Hid (R = .error 7) := by
            show _ = _
            rw [HX1.out]
            simp only [hlt, if_true]
          clear HX1
          go_enter Tryz.func200, Tryz.ntmps200
          go_wp2_with fail
          refine CD.out.mono ?_
          rintro e w1 ⟨rfl, hB, hR⟩
          have B1 := hide (B0.out.trans hB)
          have HT1 := hide (HT.out.but hB)
          have CN1 := hide (CN.out w1 hR HT1.out)
          have HB1 := hide (box3_but HB.out hB hne)
          have HF1 := hide (hB.free HF.out hne)
          clear hB hR CD CN
          go_wp2_with fail
          refine CN1.out.mono ?_
          rintro e w2 ⟨hB, rfl, hR⟩
          have B2 := hide (B1.out.trans hB)
          have CT := hide (CT0.out w2 hR)
          have HT2 := hide (HT1.out.but hB)
          have HB2 := hide (box3_but HB1.out hB hne)
          have HF2 := hide (hB.free HF1.out hne)
          clear hB hR CN1 CT0
          go_wp2_with fail
          refine CT.out.mono ?_
          rintro e w3 ⟨rfl, hB, hR⟩
          have B3 := hide (B2.out.trans hB)
          have CD3 := hide (CD2.out w3 hR)
          have HT3 := hide (HT2.out.but hB)
          have HB3 := hide (box3_but HB2.out hB hne)
          have HF3 := hide (hB.free HF2.out hne)
          clear hB hR CT CD2
          go_wp2_with fail
          refine CD3.out.mono ?_
          rintro e w4 ⟨rfl, hB, hR⟩
          have B4 := hide (B3.out.trans hB)
          have CN4 := hide (CN2.out w4 hR (HT3.out.but hB))
          have HB4 := hide (box3_but HB3.out hB hne)
          have HF4 := hide (hB.free HF3.out hne)
          clear hB hR CD3 CN2
          go_wp2_with fail
          refine CN4.out.mono ?_
          rintro e w5 ⟨hB, rfl, hR⟩
          have B5 := hide (B4.out.trans hB)
          have CF := hide (rfail_is hR 7 7 rfl)
          have HB5 := hide (box3_but HB4.out hB hne)
          have HF5 := hide (hB.free HF4.out hne)
          clear hB hR CN4
          go_wp2_with fail
          refine CF.out.mono ?_
          rintro e w6 ⟨rfl, hB, hR⟩
          have B6 := hide (B5.out.trans hB)
          have R6 := hide hR
          have HB6 := hide (box3_but HB5.out hB hne)
          obtain ⟨c0, c1, c2⟩ := HB6.out
          have fr := (hB.free HF5.out hne).2
          have f0 := fr 0
          have f1 := fr 1
          have f2 := fr 2
          clear hB hR CF fr
          go_wp2_with fail
          change bodyPost Tryz.prog Tryz.f200 (PartGood b W d R) Exit.ret _ (put3 w6 W.heap.size (.int .i64 a) (.int .i64 c) (.bool true))
          refine bodyPost_ret (v := .agg #[.int .i64 a, .int .i64 c, .bool true]) (res_p Tryz.results200 _ _ W.heap.size rfl (put3_box HB6.out _ _ _)) rfl ?_
          rw [HX2.out]
          exact ⟨put3_but B6.out (.inr (Nat.le_refl _)) _ _ _, a, c, true, rfl, put3_rd R6.out hne _ _ _⟩
        · have HX2 : Hid (R = .ok ((a, c, true), k2)) := by
            show _ = _
            rw [HX1.out]
            simp only [hlt, if_false]
          clear HX1
          go_enter Tryz.func200, Tryz.ntmps200
          go_wp2_with fail
          refine CD.out.mono ?_
          rintro e w1 ⟨rfl, hB, hR⟩
          have B1 := hide (B0.out.trans hB)
          have HT1 := hide (HT.out.but hB)
          have CN1 := hide (CN.out w1 hR HT1.out)
          have HB1 := hide (box3_but HB.out hB hne)
          have HF1 := hide (hB.free HF.out hne)
          clear hB hR CD CN
          go_wp2_with fail
          refine CN1.out.mono ?_
          rintro e w2 ⟨hB, rfl, hR⟩
          have B2 := hide (B1.out.trans hB)
          have CT := hide (CT0.out w2 hR)
          have HT2 := hide (HT1.out.but hB)
          have HB2 := hide (box3_but HB1.out hB hne)
          have HF2 := hide (hB.free HF1.out hne)
          clear hB hR CN1 CT0
          go_wp2_with fail
          refine CT.out.mono ?_
          rintro e w3 ⟨rfl, hB, hR⟩
          have B3 := hide (B2.out.trans hB)
          have CD3 := hide (CD2.out w3 hR)
          have HT3 := hide (HT2.out.but hB)
          have HB3 := hide (box3_but HB2.out hB hne)
          have HF3 := hide (hB.free HF2.out hne)
          clear hB hR CT CD2
          go_wp2_with fail
          refine CD3.out.mono ?_
          rintro e w4 ⟨rfl, hB, hR⟩
          have B4 := hide (B3.out.trans hB)
          have CN4 := hide (CN2.out w4 hR (HT3.out.but hB))
          have HB4 := hide (box3_but HB3.out hB hne)
          have HF4 := hide (hB.free HF3.out hne)
          clear hB hR CD3 CN2
          go_wp2_with fail
          refine CN4.out.mono ?_
          rintro e w5 ⟨hB, rfl, hR⟩
          have B5 := hide (B4.out.trans hB)
          have R5 := hide hR
          have HB5 := hide (box3_but HB4.out hB hne)
          obtain ⟨c0, c1, c2⟩ := HB5.out
          have fr := (hB.free HF4.out hne).2
          have f0 := fr 0
          have f1 := fr 1
          have f2 := fr 2
          clear hB hR CN4 fr
          go_wp2_with fail
          change bodyPost Tryz.prog Tryz.f200 (PartGood b W d R) Exit.ret _ (put3 w5 W.heap.size (.int .i64 a) (.int .i64 c) (.bool true))
          refine bodyPost_ret (v := .agg #[.int .i64 a, .int .i64 c, .bool true]) (res_p Tryz.results200 _ _ W.heap.size rfl (put3_box HB5.out _ _ _)) rfl ?_
          rw [HX2.out]
          exact ⟨put3_but B5.out (.inr (Nat.le_refl _)) _ _ _, k2, rfl, Nat.le_refl _, rfl, put3_rd R5.out hne _ _ _⟩
end Go.Proofs.YtngfoijmknclhaaGreatDoor.Ar
namespace Go.Proofs.YtngfoijmknclhaaGreatDoor.Ar
open Go.RowKit Go.Sort
/-- A tree as the program holds it: a kind, parts, what is under it. -/
inductive Pn where
  | mk (k : Int) (ps : List Prt) (us : List Pn)
mutual
def Nd.pn : Nd → Pn
  | .num dot set rs => if dot = true then .mk 1 [] [] else .mk (if set = true then 2 else 0) rs []
  | .ch rows => .mk 3 [] (Nd.pnRows rows)
  | .st k n => .mk ((k : Int) + 2) [] [Nd.pn n]
def Nd.pnRow : List Nd → List Pn
  | [] => []
  | n :: r => Nd.pn n :: Nd.pnRow r
def Nd.pnRows : List (List Nd) → List Pn
  | [] => []
  | l :: r => .mk 4 [] (Nd.pnRow l) :: Nd.pnRows r
end
theorem Nd.pnRow_map (l : List Nd) : Nd.pnRow l = l.map Nd.pn := by
  induction l with
  | nil => simp [Nd.pnRow]
  | cons x r ih => simp only [Nd.pnRow, List.map_cons, ih]
theorem Nd.pnRows_map (l : List (List Nd)) : Nd.pnRows l = l.map fun r => .mk 4 [] (r.map Nd.pn) := by
  induction l with
  | nil => simp [Nd.pnRows]
  | cons x r ih => simp only [Nd.pnRows, List.map_cons, ih, Nd.pnRow_map]

def Pa.enc (p : Prt) : List Value := [.int .i64 p.1, .int .i64 p.2.1, .bool p.2.2]
def Pa.cells (l : List Prt) : List Value := l.flatMap Pa.enc
def Pa.slot (w : World) (po : Option Addr) (l : List Prt) : Prop := l = [] ∨ ∃ b off, po = some ⟨b, off, none⟩ ∧ ∀ i (h : i < l.length), Six w b (off + i * 3) (Pa.enc l[i])
/-- A tree that lies in memory below these three cells. -/
inductive Pn.At (w : World) : Pn → List Value → Prop
  | mk {k : Int} {ps : List Prt} {us : List Pn} {po : Option Addr} {pc : Nat} {uo : Option Addr} {uc : Nat} (b off : Nat) (css : Nat → List Value)
    (hn : ps.length ≤ 100000 ∧ us.length ≤ 100000) (hp : Pa.slot w po ps) (hk : us = [] ∨ uo = some ⟨b, off, none⟩) (hr : ∀ i, i < us.length → Six w b (off + i * 3) (css i)) (ha : ∀ i (h : i < us.length), Pn.At w us[i] (css i)) :
    Pn.At w (.mk k ps us) [.int .i64 k, .slice po ps.length pc, .slice uo us.length uc]
theorem Pa.slot_below {w w' : World} {po : Option Addr} {l : List Prt} (h : Pa.slot w po l) (hb : Below w.heap.size w w') : Pa.slot w' po l := by
  rcases h with h | ⟨b, off, h1, h2⟩
  · exact .inl h
  · exact .inr ⟨b, off, h1, fun i hi => six_below (h2 i hi) hb⟩
theorem Pn.inv {w : World} {k : Int} {ps : List Prt} {us : List Pn} {cs : List Value} (h : Pn.At w (.mk k ps us) cs) :
    ∃ (po : Option Addr) (pc : Nat) (uo : Option Addr) (uc b off : Nat) (css : Nat → List Value), cs = [.int .i64 k, .slice po ps.length pc, .slice uo us.length uc] ∧ (ps.length ≤ 100000 ∧ us.length ≤ 100000) ∧ Pa.slot w po ps ∧ (us = [] ∨ uo = some ⟨b, off, none⟩) ∧ (∀ i, i < us.length → Six w b (off + i * 3) (css i)) ∧ (∀ i (h : i < us.length), Pn.At w us[i] (css i)) := by
  cases h with
  | mk b off css hn hp hk hr ha => exact ⟨_, _, _, _, b, off, css, rfl, hn, hp, hk, hr, ha⟩
theorem Pn.len {w : World} {t : Pn} {cs : List Value} (h : Pn.At w t cs) : ∃ x0 x1 x2, cs = [x0, x1, x2] := by
  cases h
  exact ⟨_, _, _, rfl⟩
def One3 (x0 x1 x2 : Value) : Prop := x0.oneCell' = true ∧ x1.oneCell' = true ∧ x2.oneCell' = true
theorem Pn.one {w : World} {t : Pn} {x0 x1 x2 : Value} (h : Pn.At w t [x0, x1, x2]) : One3 x0 x1 x2 := by
  obtain ⟨k, ps, us⟩ := t
  obtain ⟨po, pc, uo, uc, b, off, css, hc, _⟩ := Pn.inv h
  simp only [List.cons.injEq, and_true] at hc
  obtain ⟨rfl, rfl, rfl⟩ := hc
  exact ⟨rfl, rfl, rfl⟩
/-- A tree that lies in the blocks of S: it lies there in every world that keeps those. -/
def Own3 (S : Nat → Prop) (w : World) (t : Pn) (cs : List Value) : Prop := (∀ k, S k → k < w.heap.size) ∧ ∀ w', (∀ k, S k → w'.heap[k]? = w.heap[k]?) → Pn.At w' t cs
theorem Own3.at {S : Nat → Prop} {w : World} {t : Pn} {cs : List Value} (h : Own3 S w t cs) : Pn.At w t cs := h.2 w fun _ _ => rfl
theorem Own3.keep {S : Nat → Prop} {w w' : World} {t : Pn} {cs : List Value} (h : Own3 S w t cs) (hs : w.heap.size ≤ w'.heap.size) (hk : ∀ k, S k → w'.heap[k]? = w.heap[k]?) : Own3 S w' t cs :=
  ⟨fun k hk => Nat.lt_of_lt_of_le (h.1 k hk) hs, fun w2 h2 => h.2 w2 fun k h3 => (h2 k h3).trans (hk k h3)⟩
theorem Own3.mono {S S' : Nat → Prop} {w : World} {t : Pn} {cs : List Value} (h : Own3 S w t cs) (hS : ∀ k, S k → S' k) (hb : ∀ k, S' k → k < w.heap.size) : Own3 S' w t cs :=
  ⟨hb, fun w2 h2 => h.2 w2 fun k h3 => h2 k (hS k h3)⟩
/-- The blocks from A on, as far as those of a world go. -/
def From (A : Nat) (w : World) (k : Nat) : Prop := A ≤ k ∧ k < w.heap.size
theorem Own3.later {A A' : Nat} {w w' : World} {t : Pn} {cs : List Value} (h : Own3 (From A w) w t cs) (hA : A' ≤ A) (hs : w.heap.size ≤ w'.heap.size) (hk : ∀ k, A ≤ k → k < w.heap.size → w'.heap[k]? = w.heap[k]?) : Own3 (From A' w') w' t cs :=
  (h.keep hs fun k hk2 => hk k hk2.1 hk2.2).mono (fun _k hk => ⟨Nat.le_trans hA hk.1, Nat.lt_of_lt_of_le hk.2 hs⟩) (fun _k hk => hk.2)

theorem info_84 : ∃ (i : TypeInfo) (z : Value), Tryz.prog.info? 216 = some i ∧ i.zero = some z ∧ i.size = 3 ∧ i.bytes = 24 ∧ z.cells.size = 3 := by
  have h : (Tryz.prog.info? 216).map (fun i => (i.zero, i.size, i.bytes)) = some (some (.agg #[.int .i64 0, .int .i64 0, .bool false]), 3, 24) := by kernel_rfl
  cases hi : Tryz.prog.info? 216 with
  | none => rw [hi] at h; cases h
  | some i0 =>
    rw [hi] at h
    simp only [Option.map_some, Option.some.injEq, Prod.mk.injEq] at h
    exact ⟨i0, _, rfl, h.1, h.2.1, h.2.2, rfl⟩
theorem info_59 : ∃ (i : TypeInfo) (z : Value), Tryz.prog.info? 136 = some i ∧ i.zero = some z ∧ i.size = 3 ∧ i.bytes = 56 ∧ z.cells.size = 3 := by
  have h : (Tryz.prog.info? 136).map (fun i => (i.zero, i.size, i.bytes)) = some (some (.agg #[.int .i64 0, .slice none 0 0, .slice none 0 0]), 3, 56) := by kernel_rfl
  cases hi : Tryz.prog.info? 136 with
  | none => rw [hi] at h; cases h
  | some i0 =>
    rw [hi] at h
    simp only [Option.map_some, Option.some.injEq, Prod.mk.injEq] at h
    exact ⟨i0, _, rfl, h.1, h.2.1, h.2.2, rfl⟩
theorem box3_news {w : World} {g : Nat} {y0 y1 y2 : Value} (h : Box3 w g y0 y1 y2) : ∀ j u, [y0, y1, y2][j]? = some u → w.cell? ((⟨g, 0, none⟩ : Addr).add j) = some u := by
  obtain ⟨c0, c1, c2⟩ := h
  intro j u hj
  match j, hj with
  | 0, hj => simp at hj; subst hj; simpa [Addr.add] using c0
  | 1, hj => simp at hj; subst hj; simpa [Addr.add] using c1
  | 2, hj => simp at hj; subst hj; simpa [Addr.add] using c2
theorem one3_news {y0 y1 y2 : Value} (h : One3 y0 y1 y2) : ∀ u ∈ [y0, y1, y2], u.oneCell' = true := by
  intro u hu
  simp only [List.mem_cons, List.not_mem_nil, or_false] at hu
  rcases hu with rfl | rfl | rfl
  · exact h.1
  · exact h.2.1
  · exact h.2.2
/-- A part more, in a region whose order is drawn. -/
theorem step_part {w : World} {ops : Array Oper} {o : Oper} {a : Act} {K : Act → World → Prop} {Q : Exit → Act → World → Prop} {E : Prop} (hgd : o.guard = none) (s x : Operand)
    (ho : o.op = .call { callee := .builtin .append, args := #[s, x], argTypes := #[133, 133] }) (B : Nat) (v : Value) (n : Nat) (xs : List Value) (hs : a.eval s = v) (hown : w.ownsRow B 216 3 v n xs)
    (g0 c : Nat) (hx : a.eval x = .slice (some ⟨g0, 0, none⟩) 1 c) (y0 y1 y2 : Value) (hb : Box3 w g0 y0 y1 y2) (h1 : One3 y0 y1 y2) (hn : n ≤ 10000) (hB : B ≤ w.heap.size) (H : Nat) (hH : w.heap.size = H)
    (h : ∀ g cap w', w'.ownsRow B 216 3 (.slice (some ⟨g, 0, none⟩) (n + 1) cap) (n + 1) (xs ++ [y0, y1, y2]) → w.grownBy w' v.ownBlock → (v.ownBlock = some g ∨ g = H) → K (a.put o.dst (.slice (some ⟨g, 0, none⟩) (n + 1) cap)) w') :
    if Region.wanted o (yielded ops a.tmps) = true then Oper.wp Tryz.prog o a w K Q else E := by
  obtain ⟨i, z, hi, hz, hsz, hby, hzs⟩ := info_84
  exact step_append_lies w hgd s x 133 ho B 216 i z 3 24 Tryz.underlying133 hi hz hsz hby hzs (by decide) v n xs hs hown ⟨g0, 0, none⟩ 1 c [y0, y1, y2] hx rfl (box3_news hb) (one3_news h1) (by decide) (by unfold maxLen; omega) (by omega) hB H hH fun g cap w' h1 h2 h3 _ => h g cap w' h1 h2 h3
/-- A node more, in a region whose order is drawn. -/
theorem step_node {w : World} {ops : Array Oper} {o : Oper} {a : Act} {K : Act → World → Prop} {Q : Exit → Act → World → Prop} {E : Prop} (hgd : o.guard = none) (s x : Operand)
    (ho : o.op = .call { callee := .builtin .append, args := #[s, x], argTypes := #[134, 134] }) (B : Nat) (v : Value) (n : Nat) (xs : List Value) (hs : a.eval s = v) (hown : w.ownsRow B 136 3 v n xs)
    (g0 c : Nat) (hx : a.eval x = .slice (some ⟨g0, 0, none⟩) 1 c) (y0 y1 y2 : Value) (hb : Box3 w g0 y0 y1 y2) (h1 : One3 y0 y1 y2) (hn : n ≤ 10000) (hB : B ≤ w.heap.size) (H : Nat) (hH : w.heap.size = H)
    (h : ∀ g cap w', w'.ownsRow B 136 3 (.slice (some ⟨g, 0, none⟩) (n + 1) cap) (n + 1) (xs ++ [y0, y1, y2]) → w.grownBy w' v.ownBlock → (v.ownBlock = some g ∨ g = H) → K (a.put o.dst (.slice (some ⟨g, 0, none⟩) (n + 1) cap)) w') :
    if Region.wanted o (yielded ops a.tmps) = true then Oper.wp Tryz.prog o a w K Q else E := by
  obtain ⟨i, z, hi, hz, hsz, hby, hzs⟩ := info_59
  exact step_append_lies w hgd s x 134 ho B 136 i z 3 56 Tryz.underlying134 hi hz hsz hby hzs (by decide) v n xs hs hown ⟨g0, 0, none⟩ 1 c [y0, y1, y2] hx rfl (box3_news hb) (one3_news h1) (by decide) (by unfold maxLen; omega) (by omega) hB H hH fun g cap w' h1 h2 h3 _ => h g cap w' h1 h2 h3
/-- A row of threes reads there. -/
theorem row_six {w w' : World} {B e n : Nat} {o : Option Addr} {cap : Nat} {xs : List Value} (h : w.ownsRow B e 3 (.slice o n cap) n xs) (hn : 0 < n) (hk : ∀ k, (Value.slice o n cap).ownBlock = some k → w'.heap[k]? = w.heap[k]?) : ∃ g, o = some ⟨g, 0, none⟩ ∧ B ≤ g ∧ g < w.heap.size ∧ ∀ j u, xs[j]? = some u → w'.cell? ⟨g, j, none⟩ = some u := by
  rcases h.2 with ⟨h1, h2⟩ | ⟨g, cap', cur, h1, h2, h3, h4, h5, h6, h7⟩
  · omega
  · simp only [Value.slice.injEq] at h1
    obtain ⟨rfl, -, -⟩ := h1
    refine ⟨g, rfl, h2, heap_lt h3, fun j u hj => ?_⟩
    have hg : w'.heap[g]? = some (.cells cur e (0, 0)) := (hk g rfl).trans h3
    rw [cell_of_row w' g j cur e _ hg]
    have hjl : j < xs.length := by
      rcases Nat.lt_or_ge j xs.length with h | h
      · exact h
      · rw [List.getElem?_eq_none h] at hj; cases hj
    have h8 : (cur.toList.take (n * 3))[j]? = xs[j]? := by rw [h7]
    rw [List.getElem?_take, if_pos (by have := h.1; omega), hj] at h8
    simpa using h8
theorem Pa.cells_app (a : List Prt) (p : Prt) : Pa.cells (a ++ [p]) = Pa.cells a ++ Pa.enc p := by simp [Pa.cells]
theorem flat3_get {α : Type} (f : α → List Value) (hf : ∀ x, (f x).length = 3) : ∀ (l : List α) (i : Nat) (h : i < l.length) (j : Nat), j < 3 → (l.flatMap f)[i * 3 + j]? = (f l[i])[j]?
  | [], i, h, _, _ => by simp at h
  | x :: l, 0, _, j, hj => by
    rw [List.flatMap_cons, Nat.zero_mul, Nat.zero_add, List.getElem?_append_left (by rw [hf]; exact hj)]
    rfl
  | x :: l, i + 1, h, j, hj => by
    rw [List.flatMap_cons, List.getElem?_append_right (by rw [hf]; omega), hf, show (i + 1) * 3 + j - 3 = i * 3 + j by omega, flat3_get f hf l i (by simpa using h) j hj]
    rfl
end Go.Proofs.YtngfoijmknclhaaGreatDoor.Ar
