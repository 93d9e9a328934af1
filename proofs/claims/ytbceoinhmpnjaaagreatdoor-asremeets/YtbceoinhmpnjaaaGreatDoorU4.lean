import Derived.Test.YtbceoinhmpnjaaaGreatDoorU1
import Derived.Test.YtbceoinhmpnjaaaGreatDoorP9
import Derived.Deep.RegionHeldLaw
import Derived.Deep.RegionLaw
/- What a reader reads hangs on what stands behind the blanks alone. -/
namespace Go.Proofs.YtbceoinhmpnjaaaGreatDoor
open Go.RowKit Go.Sort

theorem isAt_cong {r r' : Bs} (h : Px.skip r' = Px.skip r) (c : UInt8) : Px.isAt r' c = Px.isAt r c := by unfold Px.isAt; rw [h]
theorem next_cong {r r' : Bs} (h : Px.skip r' = Px.skip r) : Px.next r' = Px.next r := by unfold Px.next; rw [h]
theorem digits_cong {r r' : Bs} (h : Px.skip r' = Px.skip r) : Px.digits r' = Px.digits r := by unfold Px.digits; rw [h]
theorem number_cong {r r' : Bs} (h : Px.skip r' = Px.skip r) : Px.number r' = Px.number r := by rw [number_res, number_res, digits_cong h, h]
theorem sign_cong {r r' : Bs} (h : Px.skip r' = Px.skip r) : Px.sign r' = Px.sign r := by unfold Px.sign; rw [isAt_cong h, isAt_cong h, isAt_cong h]
theorem set_cong {r r' : Bs} (h : Px.skip r' = Px.skip r) (f : Nat) (acc : List Prt) : Px.set f acc r' = Px.set f acc r := by
  cases f with
  | zero => rfl
  | succ f => rw [Px.set, Px.set, isAt_cong h, number_cong h, next_cong h]
theorem atom_cong {r r' : Bs} (h : Px.skip r' = Px.skip r) (ch : Rdr) : Px.atom ch r' = Px.atom ch r := by
  unfold Px.atom
  rw [isAt_cong h, isAt_cong h, isAt_cong h, number_cong h, next_cong h]
theorem item_cong {r r' : Bs} (h : Px.skip r' = Px.skip r) (ch : Rdr) : Px.item ch r' = Px.item ch r := by
  unfold Px.item
  rw [atom_cong h]
theorem row_cong {r r' : Bs} (h : Px.skip r' = Px.skip r) (ch : Rdr) (f : Nat) (acc : List Nd) : Px.row ch f acc r' = Px.row ch f acc r := by
  cases f with
  | zero => rfl
  | succ f => rw [Px.row, Px.row, h]
theorem set_fuel : ∀ (f g : Nat) (acc : List Prt) (r : Bs), r.length < f → r.length < g → Px.set f acc r = Px.set g acc r
  | 0, _, _, _, h, _ => by omega
  | _, 0, _, _, _, h => by omega
  | f + 1, g + 1, acc, r, hf, hg => by
    rw [Px.set, Px.set]
    split
    · rfl
    · split
      · rfl
      · rename_i a k hn
        have h1 := (Px.number_suf hn).2
        split
        · rename_i h45
          have h2 := Px.next_len h45
          split
          · rfl
          · rename_i b k2 hn2
            have h3 := (Px.number_suf hn2).2
            split
            · rfl
            · exact set_fuel f g _ k2 (by omega) (by omega)
        · exact set_fuel f g _ k (by omega) (by omega)
theorem row_fuel {ch : Rdr} (hc : Px.Suf ch) : ∀ (f g : Nat) (acc : List Nd) (r : Bs), r.length < f → r.length < g → Px.row ch f acc r = Px.row ch g acc r
  | 0, _, _, _, h, _ => by omega
  | _, 0, _, _, _, h => by omega
  | f + 1, g + 1, acc, r, hf, hg => by
    rw [Px.row, Px.row]
    have hs := (Px.skip_suf r).length_le
    split
    · rfl
    · rename_i c t he
      rw [he] at hs
      split
      · split
        · rfl
        · rename_i n k hi
          have h1 := (Px.item_suf hc hi).2
          exact row_fuel hc f g _ k (by omega) (by omega)
      · rfl
theorem rows_fuel {ch : Rdr} (hc : Px.Suf ch) : ∀ (f g : Nat) (acc : List (List Nd)) (r : Bs), r.length < f → r.length < g → Px.rows ch f acc r = Px.rows ch g acc r
  | 0, _, _, _, h, _ => by omega
  | _, 0, _, _, _, h => by omega
  | f + 1, g + 1, acc, r, hf, hg => by
    rw [Px.rows, Px.rows]
    split
    · rfl
    · rename_i row k hr
      have h1 := (Px.row_suf hc _ _ _ _ _ hr).length_le
      split
      · rename_i h124
        have h2 := Px.next_len h124
        exact rows_fuel hc f g _ _ (by omega) (by omega)
      · rfl
theorem rows_cong {r r' : Bs} (h : Px.skip r' = Px.skip r) {ch : Rdr} (hc : Px.Suf ch) (f : Nat) (acc : List (List Nd)) : Px.rows ch f acc r' = Px.rows ch f acc r := by
  cases f with
  | zero => rfl
  | succ f =>
    have e : ∀ u : Bs, Px.row ch (u.length + 1) [] u = Px.row ch ((Px.skip u).length + 1) [] (Px.skip u) := fun u => by
      have := (Px.skip_suf u).length_le
      rw [← row_cong (Px.skip_idem u), row_fuel hc (u.length + 1) ((Px.skip u).length + 1) [] (Px.skip u) (by omega) (by omega)]
    rw [Px.rows, Px.rows, e r', e r, h]
theorem choice_cong {r r' : Bs} (h : Px.skip r' = Px.skip r) (d : Nat) : Px.choice d r' = Px.choice d r := by
  cases d with
  | zero => rfl
  | succ d =>
    have e : ∀ u : Bs, Px.rows (Px.choice d) (u.length + 1) [] u = Px.rows (Px.choice d) ((Px.skip u).length + 1) [] (Px.skip u) := fun u => by
      have := (Px.skip_suf u).length_le
      rw [← rows_cong (Px.skip_idem u) (Px.choice_suf d), rows_fuel (Px.choice_suf d) (u.length + 1) ((Px.skip u).length + 1) [] (Px.skip u) (by omega) (by omega)]
    rw [Px.choice, Px.choice, e r', e r, h]

/-- A part of a set at a place. -/
def partRes (r : Bs) : Except Int (Prt × Bs) :=
  match Px.number r with
  | .error e => .error e
  | .ok (a, k) =>
    if Px.isAt k 45 = true then
      match Px.number (Px.next k) with
      | .error e => .error e
      | .ok (b, k2) => if b < a then .error 7 else .ok ((a, b, true), k2)
    else .ok ((a, a, false), k)
theorem partRes_suf {r : Bs} {p : Prt} {k : Bs} (h : partRes r = .ok (p, k)) : k.length < r.length := by
  unfold partRes at h
  split at h
  · cases h
  · rename_i a k1 hn
    have h1 := (Px.number_suf hn).2
    split at h
    · rename_i h45
      have h2 := Px.next_len h45
      split at h
      · cases h
      · rename_i b k2 hn2
        have h3 := (Px.number_suf hn2).2
        split at h
        · cases h
        · simp only [Except.ok.injEq, Prod.mk.injEq] at h
          obtain ⟨_, rfl⟩ := h
          omega
    · simp only [Except.ok.injEq, Prod.mk.injEq] at h
      obtain ⟨_, rfl⟩ := h
      exact h1
theorem set_part {f : Nat} {acc : List Prt} {r : Bs} (h : ¬ (acc ≠ [] ∧ Px.isAt r 93 = true)) : Px.set (f + 1) acc r = (match partRes r with | .error e => .error e | .ok (p, k) => Px.set f (acc ++ [p]) k) := by
  rw [Px.set, if_neg h]
  unfold partRes
  cases Px.number r with
  | error e => rfl
  | ok z =>
    obtain ⟨a, k⟩ := z
    simp only
    by_cases h45 : Px.isAt k 45 = true
    · rw [if_pos h45, if_pos h45]
      cases Px.number (Px.next k) with
      | error e => rfl
      | ok y =>
        obtain ⟨b, k2⟩ := y
        simp only
        by_cases hlt : b < a
        · rw [if_pos hlt, if_pos hlt]
        · rw [if_neg hlt, if_neg hlt]
    · rw [if_neg h45, if_neg h45]
end Go.Proofs.YtbceoinhmpnjaaaGreatDoor

/- Blocks of three cells; the reader's parts. -/
namespace Go.Proofs.YtbceoinhmpnjaaaGreatDoor
open Go.RowKit Go.Sort

def Box3 (w : World) (b : Nat) (x0 x1 x2 : Value) : Prop := w.cell? ⟨b, 0, none⟩ = some x0 ∧ w.cell? ⟨b, 1, none⟩ = some x1 ∧ w.cell? ⟨b, 2, none⟩ = some x2
theorem box3_new (W : World) (x0 x1 x2 : Value) (t : TypeId) : Box3 (W.alloc (.cells #[x0, x1, x2] t)) W.heap.size x0 x1 x2 := ⟨by simp, by simp, by simp⟩
theorem box3_of {w w' : World} {b : Nat} {x0 x1 x2 : Value} (h : Box3 w b x0 x1 x2) (hb : w'.heap[b]? = w.heap[b]?) : Box3 w' b x0 x1 x2 := by
  have e : ∀ o, w'.cell? ⟨b, o, none⟩ = w.cell? ⟨b, o, none⟩ := fun o => World.cell?_of_block (a := ⟨b, o, none⟩) hb
  exact ⟨(e 0).trans h.1, (e 1).trans h.2.1, (e 2).trans h.2.2⟩
theorem box3_lt {w : World} {b : Nat} {x0 x1 x2 : Value} (h : Box3 w b x0 x1 x2) : b < w.heap.size := block_lt_of_cell h.1
theorem box3_but {w w' : World} {b c : Nat} {x0 x1 x2 : Value} (h : Box3 w c x0 x1 x2) (hb : But b w w') (hc : c ≠ b) : Box3 w' c x0 x1 x2 := box3_of h (hb.block c hc (box3_lt h))
theorem box3_below {w w' : World} {c : Nat} {x0 x1 x2 : Value} (h : Box3 w c x0 x1 x2) (hb : Below w.heap.size w w') : Box3 w' c x0 x1 x2 := box3_of h (hb.block c (box3_lt h))
theorem box3_drew {w : World} {c : Nat} {x0 x1 x2 : Value} (h : Box3 w c x0 x1 x2) : Box3 w.drew c x0 x1 x2 := h
theorem free_new (W : World) (cs : Array Value) (t : TypeId) : Free (W.alloc (.cells cs t)) W.heap.size := ⟨by simp, fun o => by simp [go_sem]⟩
def put3 (w : World) (g : Nat) (y0 y1 y2 : Value) : World := ((w.setCell ⟨g, 0, none⟩ y0).setCell ⟨g, 1, none⟩ y1).setCell ⟨g, 2, none⟩ y2
theorem put3_size (w : World) (g : Nat) (y0 y1 y2 : Value) : (put3 w g y0 y1 y2).heap.size = w.heap.size := by simp [put3]
theorem put3_other (w : World) (g : Nat) (y0 y1 y2 : Value) (k : Nat) (h : k ≠ g) : (put3 w g y0 y1 y2).heap[k]? = w.heap[k]? := by
  unfold put3
  rw [heap_setCell_ne _ _ _ _ _ h, heap_setCell_ne _ _ _ _ _ h, heap_setCell_ne _ _ _ _ _ h]
theorem put3_but {b : Nat} {W w : World} {g : Nat} (h : But b W w) (hg : g = b ∨ W.heap.size ≤ g) (y0 y1 y2 : Value) : But b W (put3 w g y0 y1 y2) :=
  ((h.setCell (p := ⟨g, 0, none⟩) hg y0).setCell (p := ⟨g, 1, none⟩) hg y1).setCell (p := ⟨g, 2, none⟩) hg y2
theorem put3_rd {w : World} {b g : Nat} {r : Bs} {d : Nat} {q : Int} (h : Rd w b r d q) (hg : g ≠ b) (y0 y1 y2 : Value) : Rd (put3 w g y0 y1 y2) b r d q :=
  ((h.other (p := ⟨g, 0, none⟩) hg y0).other (p := ⟨g, 1, none⟩) hg y1).other (p := ⟨g, 2, none⟩) hg y2
theorem put3_box {w : World} {g : Nat} {x0 x1 x2 : Value} (h : Box3 w g x0 x1 x2) (y0 y1 y2 : Value) : Box3 (put3 w g y0 y1 y2) g y0 y1 y2 := by
  obtain ⟨c0, c1, c2⟩ := h
  unfold put3
  refine ⟨?_, ?_, ?_⟩ <;> simp [go_sem, c0, c1, c2]
theorem box3_range {w : World} {g : Nat} {y0 y1 y2 : Value} (h : Box3 w g y0 y1 y2) : w.rangeAt g 0 [y0, y1, y2] := by
  obtain ⟨c0, c1, c2⟩ := h
  intro j v hj
  rw [Nat.zero_add]
  match j, hj with
  | 0, hj => simp at hj; subst hj; exact c0
  | 1, hj => simp at hj; subst hj; exact c1
  | 2, hj => simp at hj; subst hj; exact c2
theorem info59 : (Tryz.prog.info? 59).map (·.size) = some 3 := by kernel_rfl
theorem info84 : (Tryz.prog.info? 84).map (·.size) = some 3 := by kernel_rfl
theorem res_n {fn : Func} {p : Tmp} (h : fn.results = #[.cell p 59]) (tmps : Array Value) (w : World) (g : Nat) {y0 y1 y2 : Value} (hp : tmps.getD p undef = .pointer (some ⟨g, 0, none⟩)) (hg : Box3 w g y0 y1 y2) :
    (results fn tmps).run Tryz.prog w = .ok (.agg #[y0, y1, y2]) w := by
  have hp' : tmps[p]?.getD undef = .pointer (some ⟨g, 0, none⟩) := by simpa using hp
  have hl := run_loadVar_mid (P := Tryz.prog) w g 0 59 _ _ (box3_range hg) Tryz.underlying59 rfl (by rw [info59]; rfl)
  simp [results, h, hp', asAddr, hl]
theorem res_nb {fn : Func} {p a : Tmp} (h : fn.results = #[.cell p 59, .tmp a]) (tmps : Array Value) (w : World) (g : Nat) {y0 y1 y2 va : Value} (hp : tmps.getD p undef = .pointer (some ⟨g, 0, none⟩)) (ha : tmps.getD a undef = va) (hg : Box3 w g y0 y1 y2) :
    (results fn tmps).run Tryz.prog w = .ok (.tuple #[.agg #[y0, y1, y2], va]) w := by
  have hp' : tmps[p]?.getD undef = .pointer (some ⟨g, 0, none⟩) := by simpa using hp
  have ha' : tmps[a]?.getD undef = va := by simpa using ha
  have hl := run_loadVar_mid (P := Tryz.prog) w g 0 59 _ _ (box3_range hg) Tryz.underlying59 rfl (by rw [info59]; rfl)
  simp [results, h, hp', ha', asAddr, hl]
theorem res_p {fn : Func} {p : Tmp} (h : fn.results = #[.cell p 84]) (tmps : Array Value) (w : World) (g : Nat) {y0 y1 y2 : Value} (hp : tmps.getD p undef = .pointer (some ⟨g, 0, none⟩)) (hg : Box3 w g y0 y1 y2) :
    (results fn tmps).run Tryz.prog w = .ok (.agg #[y0, y1, y2]) w := by
  have hp' : tmps[p]?.getD undef = .pointer (some ⟨g, 0, none⟩) := by simpa using hp
  have hl := run_loadVar_mid (P := Tryz.prog) w g 0 84 _ _ (box3_range hg) Tryz.underlying84 rfl (by rw [info84]; rfl)
  simp [results, h, hp', asAddr, hl]

/-- What becomes of the reader behind a part. -/
def PartGood (b : Nat) (W : World) (d : Nat) (R : Except Int (Prt × Bs)) (e : Ending) (w' : World) : Prop :=
  But b W w' ∧ match R with
  | .ok (p, k) => ∃ k', Px.skip k' = Px.skip k ∧ k'.length ≤ k.length ∧ e = .returned (.agg #[.int .i64 p.1, .int .i64 p.2.1, .bool p.2.2]) ∧ Rd w' b k' d 0
  | .error v => ∃ (x y : Int) (z : Bool), e = .returned (.agg #[.int .i64 x, .int .i64 y, .bool z]) ∧ Rd w' b [] d v
abbrev zPart : Obj := .cells #[.int .i64 0, .int .i64 0, .bool false] 84

set_option maxHeartbeats 8000000 in
theorem part_is {T : World → Prop} (K : ReadKit T) {W : World} {b : Nat} {r : Bs} {d : Nat} (h : Rd W b r d 0) (hT : Ty T b W) (hl : r.length ≤ 2000) :
    Calls Tryz.prog 87 #[.pointer (some ⟨b, 0, none⟩)] W (PartGood b W d (partRes r)) := by
  have hne : W.heap.size ≠ b := by have := h.lt; omega
  have CD := hide (digits_is K.trims (h.alloc zPart) hl)
  have CN := hide (fun w hR hT => rnumber_is K (W := w) (b := b) (r := (Px.skip r).dropWhile Ad.dig) (d := d) (q := 0) hR hT (Px.digits r) (digits_no r) (Nat.le_trans (digits_len r) hl))
  have HB := hide (box3_new W (.int .i64 0) (.int .i64 0) (.bool false) 84)
  have HF := hide (free_new W #[.int .i64 0, .int .i64 0, .bool false] 84)
  have B0 := hide ((But.refl b W).alloc zPart)
  have HT := hide (hT.but B0.out)
  have HX : Hid (partRes r = (match numRes (Px.digits r) with | .error e => .error e | .ok a => (if Px.isAt ((Px.skip r).dropWhile Ad.dig) 45 = true then
      match Px.number (Px.next ((Px.skip r).dropWhile Ad.dig)) with
      | .error e => .error e
      | .ok (b, k2) => if b < a then .error 7 else .ok ((a, b, true), k2)
    else .ok ((a, a, false), (Px.skip r).dropWhile Ad.dig)))) := by
    show _ = _
    unfold partRes
    rw [number_res]
    cases numRes (Px.digits r) <;> rfl
  have hkl : ((Px.skip r).dropWhile Ad.dig).length ≤ 2000 := by
    have h1 := takeWhile_len Ad.dig (Px.skip r)
    have h2 := (Px.skip_suf r).length_le
    omega
  generalize partRes r = R at *
  generalize Px.digits r = ds at *
  generalize (Px.skip r).dropWhile Ad.dig = k at *
  clear h hl hT
  cases hn : numRes ds with
  | error v =>
    have hv := numRes_err hn
    rw [hn] at HX CN
    have HX2 : Hid (R = .error v) := HX.out
    clear HX hn
    go_enter Tryz.func87, Tryz.ntmps87
    go_wp2_with fail
    refine CD.out.mono ?_
    rintro e w1 ⟨rfl, hB, hR⟩
    have B1 := hide (B0.out.trans hB)
    have CN1 := hide (CN.out w1 hR (HT.out.but hB))
    have HB1 := hide (box3_but HB.out hB hne)
    have HF1 := hide (hB.free HF.out hne)
    clear hB hR CD CN
    go_wp2_with fail
    refine CN1.out.mono ?_
    rintro e w2 ⟨hB, rfl, hR⟩
    have B2 := hide (B1.out.trans hB)
    have R2 := hide (show Rd w2 b [] d v by simpa using hR)
    have CT := hide (take_is K.trims R2.out 45 45 rfl false rfl [] rfl)
    have HB2 := hide (box3_but HB1.out hB hne)
    have HF2 := hide (hB.free HF1.out hne)
    clear hB hR CN1
    go_wp2_with fail
    refine CT.out.mono ?_
    rintro e w3 ⟨rfl, hB, hR⟩
    have B3 := hide (B2.out.trans hB)
    have R3 := hide hR
    have HB3 := hide (box3_but HB2.out hB hne)
    obtain ⟨c0, c1, c2⟩ := HB3.out
    have fr := (hB.free HF2.out hne).2
    have f0 := fr 0
    have f1 := fr 1
    have f2 := fr 2
    clear hB hR CT fr
    go_wp2_with fail
    change bodyPost Tryz.prog Tryz.f87 (PartGood b W d R) Exit.ret _ (put3 w3 W.heap.size (.int .i64 0) (.int .i64 0) (.bool false))
    refine bodyPost_ret (v := .agg #[.int .i64 0, .int .i64 0, .bool false]) (res_p Tryz.results87 _ _ W.heap.size rfl (put3_box HB3.out _ _ _)) rfl ?_
    rw [HX2.out]
    exact ⟨put3_but B3.out (.inr (Nat.le_refl _)) _ _ _, 0, 0, false, rfl, put3_rd R3.out hne _ _ _⟩
  | ok a =>
    rw [hn] at HX CN
    have ha := numRes_as hn
    have HX := hide HX.out
    clear hn
    cases h45 : Px.isAt k 45 with
    | false =>
      have HX2 : Hid (R = .ok ((a, a, false), k)) := by
        show _ = _
        rw [HX.out]
        simp only [h45]
        rfl
      clear HX
      go_enter Tryz.func87, Tryz.ntmps87
      go_wp2_with fail
      refine CD.out.mono ?_
      rintro e w1 ⟨rfl, hB, hR⟩
      have B1 := hide (B0.out.trans hB)
      have CN1 := hide (CN.out w1 hR (HT.out.but hB))
      have HB1 := hide (box3_but HB.out hB hne)
      have HF1 := hide (hB.free HF.out hne)
      clear hB hR CD CN
      go_wp2_with fail
      refine CN1.out.mono ?_
      rintro e w2 ⟨hB, rfl, hR⟩
      have B2 := hide (B1.out.trans hB)
      have CT := hide (take_is K.trims hR 45 45 rfl false h45 (Px.skip k) (by simp))
      have HB2 := hide (box3_but HB1.out hB hne)
      have HF2 := hide (hB.free HF1.out hne)
      clear hB hR CN1 h45
      go_wp2_with fail
      refine CT.out.mono ?_
      rintro e w3 ⟨rfl, hB, hR⟩
      have B3 := hide (B2.out.trans hB)
      have R3 := hide hR
      have HB3 := hide (box3_but HB2.out hB hne)
      obtain ⟨c0, c1, c2⟩ := HB3.out
      have fr := (hB.free HF2.out hne).2
      have f0 := fr 0
      have f1 := fr 1
      have f2 := fr 2
      clear hB hR CT fr
      go_wp2_with fail
      change bodyPost Tryz.prog Tryz.f87 (PartGood b W d R) Exit.ret _ (put3 w3 W.heap.size (.int .i64 a) (.int .i64 a) (.bool false))
      refine bodyPost_ret (v := .agg #[.int .i64 a, .int .i64 a, .bool false]) (res_p Tryz.results87 _ _ W.heap.size rfl (put3_box HB3.out _ _ _)) rfl ?_
      rw [HX2.out]
      exact ⟨put3_but B3.out (.inr (Nat.le_refl _)) _ _ _, Px.skip k, Px.skip_idem k, (Px.skip_suf k).length_le, rfl, put3_rd R3.out hne _ _ _⟩
    | true =>
      have hkn : (Px.next k).length ≤ 2000 := Nat.le_trans (Px.next_suf k).length_le hkl
      have hkn2 : ((Px.skip (Px.next k)).dropWhile Ad.dig).length ≤ 2000 := by
        have h1 := takeWhile_len Ad.dig (Px.skip (Px.next k))
        have h2 := (Px.skip_suf (Px.next k)).length_le
        omega
      have HX1 : Hid (R = (match numRes (Px.digits (Px.next k)) with | .error e => .error e | .ok b => if b < a then .error 7 else .ok ((a, b, true), (Px.skip (Px.next k)).dropWhile Ad.dig))) := by
        show _ = _
        rw [HX.out]
        simp only [h45, if_true]
        rw [number_res]
        cases numRes (Px.digits (Px.next k)) <;> rfl
      have CD2 := hide (fun w hR => digits_is K.trims (W := w) (b := b) (r := Px.next k) (d := d) (q := 0) hR hkn)
      have CN2 := hide (fun w hR hT => rnumber_is K (W := w) (b := b) (r := (Px.skip (Px.next k)).dropWhile Ad.dig) (d := d) (q := 0) hR hT (Px.digits (Px.next k)) (digits_no _) (Nat.le_trans (digits_len _) hkn))
      have CT0 := hide (fun w hR => take_is K.trims (W := w) (b := b) (r := k) (d := d) (q := 0) hR 45 45 rfl true h45 (Px.next k) (by simp))
      generalize Px.digits (Px.next k) = ds2 at *
      generalize (Px.skip (Px.next k)).dropWhile Ad.dig = k2 at *
      generalize Px.next k = k1 at *
      clear HX h45 hkl
      cases hn2 : numRes ds2 with
      | error v =>
        have hv := numRes_err hn2
        have hv0 : v ≠ 0 := by rcases hv with rfl | rfl <;> decide
        rw [hn2] at HX1 CN2
        have HX2 : Hid (R = .error v) := HX1.out
        have ha1 := (Is.as_iff a).1 ha
        have hlt : (0 : Int) < a := by omega
        clear HX1 hn2 ha1 ha
        go_enter Tryz.func87, Tryz.ntmps87
        go_wp2_with fail
        refine CD.out.mono ?_
        rintro e w1 ⟨rfl, hB, hR⟩
        have B1 := hide (B0.out.trans hB)
        have HT1 := hide (HT.out.but hB)
        have CN1 := hide (CN.out w1 hR HT1.out)
        have HB1 := hide (box3_but HB.out hB hne)
        have HF1 := hide (hB.free HF.out hne)
        clear hB hR CD CN
        go_wp2_with fail
        refine CN1.out.mono ?_
        rintro e w2 ⟨hB, rfl, hR⟩
        have B2 := hide (B1.out.trans hB)
        have CT := hide (CT0.out w2 hR)
        have HT2 := hide (HT1.out.but hB)
        have HB2 := hide (box3_but HB1.out hB hne)
        have HF2 := hide (hB.free HF1.out hne)
        clear hB hR CN1 CT0
        go_wp2_with fail
        refine CT.out.mono ?_
        rintro e w3 ⟨rfl, hB, hR⟩
        have B3 := hide (B2.out.trans hB)
        have CD3 := hide (CD2.out w3 hR)
        have HT3 := hide (HT2.out.but hB)
        have HB3 := hide (box3_but HB2.out hB hne)
        have HF3 := hide (hB.free HF2.out hne)
        clear hB hR CT CD2
        go_wp2_with fail
        refine CD3.out.mono ?_
        rintro e w4 ⟨rfl, hB, hR⟩
        have B4 := hide (B3.out.trans hB)
        have CN4 := hide (CN2.out w4 hR (HT3.out.but hB))
        have HB4 := hide (box3_but HB3.out hB hne)
        have HF4 := hide (hB.free HF3.out hne)
        clear hB hR CD3 CN2
        go_wp2_with fail
        refine CN4.out.mono ?_
        rintro e w5 ⟨hB, rfl, hR⟩
        have B5 := hide (B4.out.trans hB)
        have R5 := hide (show Rd w5 b [] d v by simpa using hR)
        have CF := hide (rfail_is R5.out 7 v (by rw [if_neg hv0]))
        have HB5 := hide (box3_but HB4.out hB hne)
        have HF5 := hide (hB.free HF4.out hne)
        clear hB hR CN4
        go_wp2_with fail
        refine CF.out.mono ?_
        rintro e w6 ⟨rfl, hB, hR⟩
        have B6 := hide (B5.out.trans hB)
        have R6 := hide hR
        have HB6 := hide (box3_but HB5.out hB hne)
        obtain ⟨c0, c1, c2⟩ := HB6.out
        have fr := (hB.free HF5.out hne).2
        have f0 := fr 0
        have f1 := fr 1
        have f2 := fr 2
        clear hB hR CF fr
        go_wp2_with fail
        change bodyPost Tryz.prog Tryz.f87 (PartGood b W d R) Exit.ret _ (put3 w6 W.heap.size (.int .i64 a) (.int .i64 0) (.bool true))
        refine bodyPost_ret (v := .agg #[.int .i64 a, .int .i64 0, .bool true]) (res_p Tryz.results87 _ _ W.heap.size rfl (put3_box HB6.out _ _ _)) rfl ?_
        rw [HX2.out]
        exact ⟨put3_but B6.out (.inr (Nat.le_refl _)) _ _ _, a, 0, true, rfl, put3_rd R6.out hne _ _ _⟩
      | ok c =>
        rw [hn2] at HX1 CN2
        have HX1 := hide HX1.out
        clear hn2 ha
        by_cases hlt : c < a
        · have HX2 : Hid (R = .error 7) := by
            show _ = _
            rw [HX1.out]
            simp only [hlt, if_true]
          clear HX1
          go_enter Tryz.func87, Tryz.ntmps87
          go_wp2_with fail
          refine CD.out.mono ?_
          rintro e w1 ⟨rfl, hB, hR⟩
          have B1 := hide (B0.out.trans hB)
          have HT1 := hide (HT.out.but hB)
          have CN1 := hide (CN.out w1 hR HT1.out)
          have HB1 := hide (box3_but HB.out hB hne)
          have HF1 := hide (hB.free HF.out hne)
          clear hB hR CD CN
          go_wp2_with fail
          refine CN1.out.mono ?_
          rintro e w2 ⟨hB, rfl, hR⟩
          have B2 := hide (B1.out.trans hB)
          have CT := hide (CT0.out w2 hR)
          have HT2 := hide (HT1.out.but hB)
          have HB2 := hide (box3_but HB1.out hB hne)
          have HF2 := hide (hB.free HF1.out hne)
          clear hB hR CN1 CT0
          go_wp2_with fail
          refine CT.out.mono ?_
          rintro e w3 ⟨rfl, hB, hR⟩
          have B3 := hide (B2.out.trans hB)
          have CD3 := hide (CD2.out w3 hR)
          have HT3 := hide (HT2.out.but hB)
          have HB3 := hide (box3_but HB2.out hB hne)
          have HF3 := hide (hB.free HF2.out hne)
          clear hB hR CT CD2
          go_wp2_with fail
          refine CD3.out.mono ?_
          rintro e w4 ⟨rfl, hB, hR⟩
          have B4 := hide (B3.out.trans hB)
          have CN4 := hide (CN2.out w4 hR (HT3.out.but hB))
          have HB4 := hide (box3_but HB3.out hB hne)
          have HF4 := hide (hB.free HF3.out hne)
          clear hB hR CD3 CN2
          go_wp2_with fail
          refine CN4.out.mono ?_
          rintro e w5 ⟨hB, rfl, hR⟩
          have B5 := hide (B4.out.trans hB)
          have CF := hide (rfail_is hR 7 7 rfl)
          have HB5 := hide (box3_but HB4.out hB hne)
          have HF5 := hide (hB.free HF4.out hne)
          clear hB hR CN4
          go_wp2_with fail
          refine CF.out.mono ?_
          rintro e w6 ⟨rfl, hB, hR⟩
          have B6 := hide (B5.out.trans hB)
          have R6 := hide hR
          have HB6 := hide (box3_but HB5.out hB hne)
          obtain ⟨c0, c1, c2⟩ := HB6.out
          have fr := (hB.free HF5.out hne).2
          have f0 := fr 0
          have f1 := fr 1
          have f2 := fr 2
          clear hB hR CF fr
          go_wp2_with fail
          change bodyPost Tryz.prog Tryz.f87 (PartGood b W d R) Exit.ret _ (put3 w6 W.heap.size (.int .i64 a) (.int .i64 c) (.bool true))
          refine bodyPost_ret (v := .agg #[.int .i64 a, .int .i64 c, .bool true]) (res_p Tryz.results87 _ _ W.heap.size rfl (put3_box HB6.out _ _ _)) rfl ?_
          rw [HX2.out]
          exact ⟨put3_but B6.out (.inr (Nat.le_refl _)) _ _ _, a, c, true, rfl, put3_rd R6.out hne _ _ _⟩
        · have HX2 : Hid (R = .ok ((a, c, true), k2)) := by
            show _ = _
            rw [HX1.out]
            simp only [hlt, if_false]
          clear HX1
          go_enter Tryz.func87, Tryz.ntmps87
          go_wp2_with fail
          refine CD.out.mono ?_
          rintro e w1 ⟨rfl, hB, hR⟩
          have B1 := hide (B0.out.trans hB)
          have HT1 := hide (HT.out.but hB)
          have CN1 := hide (CN.out w1 hR HT1.out)
          have HB1 := hide (box3_but HB.out hB hne)
          have HF1 := hide (hB.free HF.out hne)
          clear hB hR CD CN
          go_wp2_with fail
          refine CN1.out.mono ?_
          rintro e w2 ⟨hB, rfl, hR⟩
          have B2 := hide (B1.out.trans hB)
          have CT := hide (CT0.out w2 hR)
          have HT2 := hide (HT1.out.but hB)
          have HB2 := hide (box3_but HB1.out hB hne)
          have HF2 := hide (hB.free HF1.out hne)
          clear hB hR CN1 CT0
          go_wp2_with fail
          refine CT.out.mono ?_
          rintro e w3 ⟨rfl, hB, hR⟩
          have B3 := hide (B2.out.trans hB)
          have CD3 := hide (CD2.out w3 hR)
          have HT3 := hide (HT2.out.but hB)
          have HB3 := hide (box3_but HB2.out hB hne)
          have HF3 := hide (hB.free HF2.out hne)
          clear hB hR CT CD2
          go_wp2_with fail
          refine CD3.out.mono ?_
          rintro e w4 ⟨rfl, hB, hR⟩
          have B4 := hide (B3.out.trans hB)
          have CN4 := hide (CN2.out w4 hR (HT3.out.but hB))
          have HB4 := hide (box3_but HB3.out hB hne)
          have HF4 := hide (hB.free HF3.out hne)
          clear hB hR CD3 CN2
          go_wp2_with fail
          refine CN4.out.mono ?_
          rintro e w5 ⟨hB, rfl, hR⟩
          have B5 := hide (B4.out.trans hB)
          have R5 := hide hR
          have HB5 := hide (box3_but HB4.out hB hne)
          obtain ⟨c0, c1, c2⟩ := HB5.out
          have fr := (hB.free HF4.out hne).2
          have f0 := fr 0
          have f1 := fr 1
          have f2 := fr 2
          clear hB hR CN4 fr
          go_wp2_with fail
          change bodyPost Tryz.prog Tryz.f87 (PartGood b W d R) Exit.ret _ (put3 w5 W.heap.size (.int .i64 a) (.int .i64 c) (.bool true))
          refine bodyPost_ret (v := .agg #[.int .i64 a, .int .i64 c, .bool true]) (res_p Tryz.results87 _ _ W.heap.size rfl (put3_box HB5.out _ _ _)) rfl ?_
          rw [HX2.out]
          exact ⟨put3_but B5.out (.inr (Nat.le_refl _)) _ _ _, k2, rfl, Nat.le_refl _, rfl, put3_rd R5.out hne _ _ _⟩
end Go.Proofs.YtbceoinhmpnjaaaGreatDoor

/- The program's trees in memory; rows of three cells that grow. -/
namespace Go.Proofs.YtbceoinhmpnjaaaGreatDoor
open Go.RowKit Go.Sort

/-- A tree as the program holds it: a kind, parts, what is under it. -/
inductive Pn where
  | mk (k : Int) (ps : List Prt) (us : List Pn)
mutual
def Nd.pn : Nd → Pn
  | .num dot set rs => if dot = true then .mk 1 [] [] else .mk (if set = true then 2 else 0) rs []
  | .ch rows => .mk 3 [] (Nd.pnRows rows)
  | .st k n => .mk ((k : Int) + 2) [] [Nd.pn n]
def Nd.pnRow : List Nd → List Pn
  | [] => []
  | n :: r => Nd.pn n :: Nd.pnRow r
def Nd.pnRows : List (List Nd) → List Pn
  | [] => []
  | l :: r => .mk 4 [] (Nd.pnRow l) :: Nd.pnRows r
end
theorem Nd.pnRow_map (l : List Nd) : Nd.pnRow l = l.map Nd.pn := by
  induction l with
  | nil => simp [Nd.pnRow]
  | cons x r ih => simp only [Nd.pnRow, List.map_cons, ih]
theorem Nd.pnRows_map (l : List (List Nd)) : Nd.pnRows l = l.map fun r => .mk 4 [] (r.map Nd.pn) := by
  induction l with
  | nil => simp [Nd.pnRows]
  | cons x r ih => simp only [Nd.pnRows, List.map_cons, ih, Nd.pnRow_map]

def Pa.enc (p : Prt) : List Value := [.int .i64 p.1, .int .i64 p.2.1, .bool p.2.2]
def Pa.cells (l : List Prt) : List Value := l.flatMap Pa.enc
def Pa.slot (w : World) (po : Option Addr) (l : List Prt) : Prop := l = [] ∨ ∃ b off, po = some ⟨b, off, none⟩ ∧ ∀ i (h : i < l.length), Six w b (off + i * 3) (Pa.enc l[i])
/-- A tree that lies in memory below these three cells. -/
inductive Pn.At (w : World) : Pn → List Value → Prop
  | mk {k : Int} {ps : List Prt} {us : List Pn} {po : Option Addr} {pc : Nat} {uo : Option Addr} {uc : Nat} (b off : Nat) (css : Nat → List Value)
    (hn : ps.length ≤ 100000 ∧ us.length ≤ 100000) (hp : Pa.slot w po ps) (hk : us = [] ∨ uo = some ⟨b, off, none⟩) (hr : ∀ i, i < us.length → Six w b (off + i * 3) (css i)) (ha : ∀ i (h : i < us.length), Pn.At w us[i] (css i)) :
    Pn.At w (.mk k ps us) [.int .i64 k, .slice po ps.length pc, .slice uo us.length uc]
theorem Pa.slot_below {w w' : World} {po : Option Addr} {l : List Prt} (h : Pa.slot w po l) (hb : Below w.heap.size w w') : Pa.slot w' po l := by
  rcases h with h | ⟨b, off, h1, h2⟩
  · exact .inl h
  · exact .inr ⟨b, off, h1, fun i hi => six_below (h2 i hi) hb⟩
theorem Pn.on {w w' : World} {t : Pn} {cs : List Value} (h : Pn.At w t cs) (hb : Below w.heap.size w w') : Pn.At w' t cs := by
  induction h with
  | mk b off css hn hp hk hr _ ih => exact .mk b off css hn (Pa.slot_below hp hb) hk (fun i hi => six_below (hr i hi) hb) ih
theorem Pn.inv {w : World} {k : Int} {ps : List Prt} {us : List Pn} {cs : List Value} (h : Pn.At w (.mk k ps us) cs) :
    ∃ (po : Option Addr) (pc : Nat) (uo : Option Addr) (uc b off : Nat) (css : Nat → List Value), cs = [.int .i64 k, .slice po ps.length pc, .slice uo us.length uc] ∧ (ps.length ≤ 100000 ∧ us.length ≤ 100000) ∧ Pa.slot w po ps ∧ (us = [] ∨ uo = some ⟨b, off, none⟩) ∧ (∀ i, i < us.length → Six w b (off + i * 3) (css i)) ∧ (∀ i (h : i < us.length), Pn.At w us[i] (css i)) := by
  cases h with
  | mk b off css hn hp hk hr ha => exact ⟨_, _, _, _, b, off, css, rfl, hn, hp, hk, hr, ha⟩
theorem Pn.len {w : World} {t : Pn} {cs : List Value} (h : Pn.At w t cs) : ∃ x0 x1 x2, cs = [x0, x1, x2] := by
  cases h
  exact ⟨_, _, _, rfl⟩
def One3 (x0 x1 x2 : Value) : Prop := x0.oneCell' = true ∧ x1.oneCell' = true ∧ x2.oneCell' = true
theorem Pn.one {w : World} {t : Pn} {x0 x1 x2 : Value} (h : Pn.At w t [x0, x1, x2]) : One3 x0 x1 x2 := by
  obtain ⟨k, ps, us⟩ := t
  obtain ⟨po, pc, uo, uc, b, off, css, hc, _⟩ := Pn.inv h
  simp only [List.cons.injEq, and_true] at hc
  obtain ⟨rfl, rfl, rfl⟩ := hc
  exact ⟨rfl, rfl, rfl⟩
/-- A tree that lies in the blocks of S: it lies there in every world that keeps those. -/
def Own3 (S : Nat → Prop) (w : World) (t : Pn) (cs : List Value) : Prop := (∀ k, S k → k < w.heap.size) ∧ ∀ w', (∀ k, S k → w'.heap[k]? = w.heap[k]?) → Pn.At w' t cs
theorem Own3.at {S : Nat → Prop} {w : World} {t : Pn} {cs : List Value} (h : Own3 S w t cs) : Pn.At w t cs := h.2 w fun _ _ => rfl
theorem Own3.keep {S : Nat → Prop} {w w' : World} {t : Pn} {cs : List Value} (h : Own3 S w t cs) (hs : w.heap.size ≤ w'.heap.size) (hk : ∀ k, S k → w'.heap[k]? = w.heap[k]?) : Own3 S w' t cs :=
  ⟨fun k hk => Nat.lt_of_lt_of_le (h.1 k hk) hs, fun w2 h2 => h.2 w2 fun k h3 => (h2 k h3).trans (hk k h3)⟩
theorem Own3.mono {S S' : Nat → Prop} {w : World} {t : Pn} {cs : List Value} (h : Own3 S w t cs) (hS : ∀ k, S k → S' k) (hb : ∀ k, S' k → k < w.heap.size) : Own3 S' w t cs :=
  ⟨hb, fun w2 h2 => h.2 w2 fun k h3 => h2 k (hS k h3)⟩
/-- The blocks from A on, as far as those of a world go. -/
def From (A : Nat) (w : World) (k : Nat) : Prop := A ≤ k ∧ k < w.heap.size
theorem Own3.later {A A' : Nat} {w w' : World} {t : Pn} {cs : List Value} (h : Own3 (From A w) w t cs) (hA : A' ≤ A) (hs : w.heap.size ≤ w'.heap.size) (hk : ∀ k, A ≤ k → k < w.heap.size → w'.heap[k]? = w.heap[k]?) : Own3 (From A' w') w' t cs :=
  (h.keep hs fun k hk2 => hk k hk2.1 hk2.2).mono (fun _k hk => ⟨Nat.le_trans hA hk.1, Nat.lt_of_lt_of_le hk.2 hs⟩) (fun _k hk => hk.2)

theorem info_84 : ∃ (i : TypeInfo) (z : Value), Tryz.prog.info? 84 = some i ∧ i.zero = some z ∧ i.size = 3 ∧ i.bytes = 24 ∧ z.cells.size = 3 := by
  have h : (Tryz.prog.info? 84).map (fun i => (i.zero, i.size, i.bytes)) = some (some (.agg #[.int .i64 0, .int .i64 0, .bool false]), 3, 24) := by kernel_rfl
  cases hi : Tryz.prog.info? 84 with
  | none => rw [hi] at h; cases h
  | some i0 =>
    rw [hi] at h
    simp only [Option.map_some, Option.some.injEq, Prod.mk.injEq] at h
    exact ⟨i0, _, rfl, h.1, h.2.1, h.2.2, rfl⟩
theorem info_59 : ∃ (i : TypeInfo) (z : Value), Tryz.prog.info? 59 = some i ∧ i.zero = some z ∧ i.size = 3 ∧ i.bytes = 56 ∧ z.cells.size = 3 := by
  have h : (Tryz.prog.info? 59).map (fun i => (i.zero, i.size, i.bytes)) = some (some (.agg #[.int .i64 0, .slice none 0 0, .slice none 0 0]), 3, 56) := by kernel_rfl
  cases hi : Tryz.prog.info? 59 with
  | none => rw [hi] at h; cases h
  | some i0 =>
    rw [hi] at h
    simp only [Option.map_some, Option.some.injEq, Prod.mk.injEq] at h
    exact ⟨i0, _, rfl, h.1, h.2.1, h.2.2, rfl⟩
theorem box3_news {w : World} {g : Nat} {y0 y1 y2 : Value} (h : Box3 w g y0 y1 y2) : ∀ j u, [y0, y1, y2][j]? = some u → w.cell? ((⟨g, 0, none⟩ : Addr).add j) = some u := by
  obtain ⟨c0, c1, c2⟩ := h
  intro j u hj
  match j, hj with
  | 0, hj => simp at hj; subst hj; simpa [Addr.add] using c0
  | 1, hj => simp at hj; subst hj; simpa [Addr.add] using c1
  | 2, hj => simp at hj; subst hj; simpa [Addr.add] using c2
theorem one3_news {y0 y1 y2 : Value} (h : One3 y0 y1 y2) : ∀ u ∈ [y0, y1, y2], u.oneCell' = true := by
  intro u hu
  simp only [List.mem_cons, List.not_mem_nil, or_false] at hu
  rcases hu with rfl | rfl | rfl
  · exact h.1
  · exact h.2.1
  · exact h.2.2
/-- A part more, in a region whose order is drawn. -/
theorem step_part {w : World} {ops : Array Oper} {o : Oper} {a : Act} {K : Act → World → Prop} {Q : Exit → Act → World → Prop} {E : Prop} (hgd : o.guard = none) (s x : Operand)
    (ho : o.op = .call { callee := .builtin .append, args := #[s, x], argTypes := #[56, 56] }) (B : Nat) (v : Value) (n : Nat) (xs : List Value) (hs : a.eval s = v) (hown : w.ownsRow B 84 3 v n xs)
    (g0 c : Nat) (hx : a.eval x = .slice (some ⟨g0, 0, none⟩) 1 c) (y0 y1 y2 : Value) (hb : Box3 w g0 y0 y1 y2) (h1 : One3 y0 y1 y2) (hn : n ≤ 10000) (hB : B ≤ w.heap.size) (H : Nat) (hH : w.heap.size = H)
    (h : ∀ g cap w', w'.ownsRow B 84 3 (.slice (some ⟨g, 0, none⟩) (n + 1) cap) (n + 1) (xs ++ [y0, y1, y2]) → w.grownBy w' v.ownBlock → (v.ownBlock = some g ∨ g = H) → K (a.put o.dst (.slice (some ⟨g, 0, none⟩) (n + 1) cap)) w') :
    if Region.wanted o (yielded ops a.tmps) = true then Oper.wp Tryz.prog o a w K Q else E := by
  obtain ⟨i, z, hi, hz, hsz, hby, hzs⟩ := info_84
  exact step_append_lies w hgd s x 56 ho B 84 i z 3 24 Tryz.underlying56 hi hz hsz hby hzs (by decide) v n xs hs hown ⟨g0, 0, none⟩ 1 c [y0, y1, y2] hx rfl (box3_news hb) (one3_news h1) (by decide) (by unfold maxLen; omega) (by omega) hB H hH fun g cap w' h1 h2 h3 _ => h g cap w' h1 h2 h3
/-- A node more, in a region whose order is drawn. -/
theorem step_node {w : World} {ops : Array Oper} {o : Oper} {a : Act} {K : Act → World → Prop} {Q : Exit → Act → World → Prop} {E : Prop} (hgd : o.guard = none) (s x : Operand)
    (ho : o.op = .call { callee := .builtin .append, args := #[s, x], argTypes := #[57, 57] }) (B : Nat) (v : Value) (n : Nat) (xs : List Value) (hs : a.eval s = v) (hown : w.ownsRow B 59 3 v n xs)
    (g0 c : Nat) (hx : a.eval x = .slice (some ⟨g0, 0, none⟩) 1 c) (y0 y1 y2 : Value) (hb : Box3 w g0 y0 y1 y2) (h1 : One3 y0 y1 y2) (hn : n ≤ 10000) (hB : B ≤ w.heap.size) (H : Nat) (hH : w.heap.size = H)
    (h : ∀ g cap w', w'.ownsRow B 59 3 (.slice (some ⟨g, 0, none⟩) (n + 1) cap) (n + 1) (xs ++ [y0, y1, y2]) → w.grownBy w' v.ownBlock → (v.ownBlock = some g ∨ g = H) → K (a.put o.dst (.slice (some ⟨g, 0, none⟩) (n + 1) cap)) w') :
    if Region.wanted o (yielded ops a.tmps) = true then Oper.wp Tryz.prog o a w K Q else E := by
  obtain ⟨i, z, hi, hz, hsz, hby, hzs⟩ := info_59
  exact step_append_lies w hgd s x 57 ho B 59 i z 3 56 Tryz.underlying57 hi hz hsz hby hzs (by decide) v n xs hs hown ⟨g0, 0, none⟩ 1 c [y0, y1, y2] hx rfl (box3_news hb) (one3_news h1) (by decide) (by unfold maxLen; omega) (by omega) hB H hH fun g cap w' h1 h2 h3 _ => h g cap w' h1 h2 h3
/-- A row of threes reads there. -/
theorem row_six {w w' : World} {B e n : Nat} {o : Option Addr} {cap : Nat} {xs : List Value} (h : w.ownsRow B e 3 (.slice o n cap) n xs) (hn : 0 < n) (hk : ∀ k, (Value.slice o n cap).ownBlock = some k → w'.heap[k]? = w.heap[k]?) : ∃ g, o = some ⟨g, 0, none⟩ ∧ B ≤ g ∧ g < w.heap.size ∧ ∀ j u, xs[j]? = some u → w'.cell? ⟨g, j, none⟩ = some u := by
  rcases h.2 with ⟨h1, h2⟩ | ⟨g, cap', cur, h1, h2, h3, h4, h5, h6, h7⟩
  · omega
  · simp only [Value.slice.injEq] at h1
    obtain ⟨rfl, -, -⟩ := h1
    refine ⟨g, rfl, h2, heap_lt h3, fun j u hj => ?_⟩
    have hg : w'.heap[g]? = some (.cells cur e (0, 0)) := (hk g rfl).trans h3
    rw [cell_of_row w' g j cur e _ hg]
    have hjl : j < xs.length := by
      rcases Nat.lt_or_ge j xs.length with h | h
      · exact h
      · rw [List.getElem?_eq_none h] at hj; cases hj
    have h8 : (cur.toList.take (n * 3))[j]? = xs[j]? := by rw [h7]
    rw [List.getElem?_take, if_pos (by have := h.1; omega), hj] at h8
    simpa using h8
theorem Pa.cells_app (a : List Prt) (p : Prt) : Pa.cells (a ++ [p]) = Pa.cells a ++ Pa.enc p := by simp [Pa.cells]
theorem flat3_get {α : Type} (f : α → List Value) (hf : ∀ x, (f x).length = 3) : ∀ (l : List α) (i : Nat) (h : i < l.length) (j : Nat), j < 3 → (l.flatMap f)[i * 3 + j]? = (f l[i])[j]?
  | [], i, h, _, _ => by simp at h
  | x :: l, 0, _, j, hj => by
    rw [List.flatMap_cons, Nat.zero_mul, Nat.zero_add, List.getElem?_append_left (by rw [hf]; exact hj)]
    rfl
  | x :: l, i + 1, h, j, hj => by
    rw [List.flatMap_cons, List.getElem?_append_right (by rw [hf]; omega), hf, show (i + 1) * 3 + j - 3 = i * 3 + j by omega, flat3_get f hf l i (by simpa using h) j hj]
    rfl
end Go.Proofs.YtbceoinhmpnjaaaGreatDoor

/- The reader's sets. -/
namespace Go.Proofs.YtbceoinhmpnjaaaGreatDoor
open Go.RowKit Go.Sort

/-- What is left to read, and one more while there is no fault. -/
def mes (w : World) (b : Nat) : Nat := (match w.cell? ⟨b, 0, none⟩ with | some (.string s) => s.size | _ => 0) + (match w.cell? ⟨b, 2, none⟩ with | some (.int _ q) => (if q = 0 then 1 else 0) | _ => 0)
theorem Rd.mes {w : World} {b : Nat} {r : Bs} {d : Nat} {q : Int} (h : Rd w b r d q) : mes w b = r.length + (if q = 0 then 1 else 0) := by
  unfold YtbceoinhmpnjaaaGreatDoor.mes
  rw [h.1, h.2.2.1]
  simp only [tx_size]
/-- What becomes of the reader behind a node. -/
def NodePost (b : Nat) (W : World) (d : Nat) (R : Except Int (Nd × Bs)) (e : Ending) (w' : World) : Prop :=
  But b W w' ∧ match R with
  | .ok (n, k) => ∃ (k' : Bs) (x0 x1 x2 : Value), Px.skip k' = Px.skip k ∧ k'.length ≤ k.length ∧ Rd w' b k' d 0 ∧ Own3 (From W.heap.size w') w' (Nd.pn n) [x0, x1, x2] ∧ e = .returned (.agg #[x0, x1, x2])
  | .error q => ∃ x0 x1 x2 : Value, Rd w' b [] d q ∧ One3 x0 x1 x2 ∧ e = .returned (.agg #[x0, x1, x2])
abbrev zN : Obj := .cells #[.int .i64 0, .slice none 0 0, .slice none 0 0] 59
/-- A node on its way: the result's block, the node's block, a row of its own. -/
structure Way (b : Nat) (W : World) (x0 v1 v2 : Value) (wr : World) : Prop where
  hb : b < W.heap.size
  free0 : Free wr W.heap.size
  box0 : Box3 wr W.heap.size (.int .i64 0) (.slice none 0 0) (.slice none 0 0)
  free1 : Free wr (W.heap.size + 1)
  box1 : Box3 wr (W.heap.size + 1) x0 v1 v2
  but : But b W wr
  big : W.heap.size + 2 ≤ wr.heap.size
theorem Way.ne0 {b : Nat} {W : World} {x0 v1 v2 : Value} {wr : World} (h : Way b W x0 v1 v2 wr) : W.heap.size ≠ b := by have := h.hb; omega
theorem Way.ne1 {b : Nat} {W : World} {x0 v1 v2 : Value} {wr : World} (h : Way b W x0 v1 v2 wr) : W.heap.size + 1 ≠ b := by have := h.hb; omega
theorem Way.step {b : Nat} {W : World} {x0 v1 v2 : Value} {wr w' : World} (h : Way b W x0 v1 v2 wr) (hB : But b wr w') : Way b W x0 v1 v2 w' :=
  ⟨h.hb, hB.free h.free0 h.ne0, box3_but h.box0 hB h.ne0, hB.free h.free1 h.ne1, box3_but h.box1 hB h.ne1, h.but.trans hB, Nat.le_trans h.big hB.size⟩
theorem Way.grown {b : Nat} {W : World} {x0 v1 v2 : Value} {wr w' : World} {row : Option Nat} (h : Way b W x0 v1 v2 wr) (hg : wr.grownBy w' row) (hr : ∀ k, row = some k → W.heap.size + 2 ≤ k) : Way b W x0 v1 v2 w' := by
  have hbig := h.big
  have h0 : w'.heap[W.heap.size]? = wr.heap[W.heap.size]? := hg.block _ (by omega) (fun e => by have := hr _ e.symm; omega)
  have h1 : w'.heap[W.heap.size + 1]? = wr.heap[W.heap.size + 1]? := hg.block _ (by omega) (fun e => by have := hr _ e.symm; omega)
  have hs := hg.size
  exact ⟨h.hb, free_of h.free0 hs h0, box3_of h.box0 h0, free_of h.free1 hs h1, box3_of h.box1 h1, h.but.grown hg (fun k hk => by have := hr k hk; omega), by omega⟩
theorem Way.set1 {b : Nat} {W : World} {x0 v1 v2 : Value} {wr : World} (h : Way b W x0 v1 v2 wr) (v : Value) : Way b W x0 v v2 (wr.setCell ⟨W.heap.size + 1, 1, none⟩ v) := by
  obtain ⟨c0, c1, c2⟩ := h.box1
  have hbig := h.big
  refine ⟨h.hb, free_set h.free0 _ _, box3_of h.box0 (heap_setCell_ne _ _ _ _ _ (by omega)), free_set h.free1 _ _, ⟨?_, ?_, ?_⟩, h.but.setCell (.inr (Nat.le_succ _)) _, by rw [size_setCell]; exact hbig⟩ <;> simp [go_sem, c0, c1, c2]
theorem Way.set2 {b : Nat} {W : World} {x0 v1 v2 : Value} {wr : World} (h : Way b W x0 v1 v2 wr) (v : Value) : Way b W x0 v1 v (wr.setCell ⟨W.heap.size + 1, 2, none⟩ v) := by
  obtain ⟨c0, c1, c2⟩ := h.box1
  have hbig := h.big
  refine ⟨h.hb, free_set h.free0 _ _, box3_of h.box0 (heap_setCell_ne _ _ _ _ _ (by omega)), free_set h.free1 _ _, ⟨?_, ?_, ?_⟩, h.but.setCell (.inr (Nat.le_succ _)) _, by rw [size_setCell]; exact hbig⟩ <;> simp [go_sem, c0, c1, c2]
theorem way_start {b : Nat} {W : World} (hb : b < W.heap.size) (x0 v1 v2 : Value) : Way b W x0 v1 v2 ((W.alloc zN).alloc (.cells #[x0, v1, v2] 59)) := by
  have h1 := box3_below (box3_new W (.int .i64 0) (.slice none 0 0) (.slice none 0 0) 59) (balloc (brefl _) (.cells #[x0, v1, v2] 59))
  have h2 := box3_new (W.alloc zN) x0 v1 v2 59
  have f2 := free_new (W.alloc zN) #[x0, v1, v2] 59
  rw [size_alloc] at h2 f2
  exact ⟨hb, free_alloc (free_new W _ 59) _, h1, f2, h2, ((But.refl b W).alloc _).alloc _, by simp only [size_alloc]; omega⟩

/-- The set on its way. -/
structure SetWay (b : Nat) (W : World) (acc : List Prt) (vP : Value) (wr : World) : Prop where
  way : Way b W (.int .i64 2) vP (.slice none 0 0) wr
  row : wr.ownsRow (W.heap.size + 2) 84 3 vP acc.length (Pa.cells acc)
theorem SetWay.more {b : Nat} {W : World} {acc : List Prt} {vP : Value} {w1 w2 : World} {p : Prt} {g cap : Nat} (h : Way b W (.int .i64 2) vP (.slice none 0 0) w1) (hr : ∀ k, vP.ownBlock = some k → W.heap.size + 2 ≤ k)
    (ho : w2.ownsRow (W.heap.size + 2) 84 3 (.slice (some ⟨g, 0, none⟩) (acc.length + 1) cap) (acc.length + 1) (Pa.cells acc ++ [.int .i64 p.1, .int .i64 p.2.1, .bool p.2.2])) (hg : w1.grownBy w2 vP.ownBlock) :
    SetWay b W (acc ++ [p]) (.slice (some ⟨g, 0, none⟩) (acc.length + 1) cap) (w2.setCell ⟨W.heap.size + 1, 1, none⟩ (.slice (some ⟨g, 0, none⟩) (acc.length + 1) cap)) := by
  refine ⟨(h.grown hg hr).set1 _, ?_⟩
  have := ownsRow_setCell_below ho (a := ⟨W.heap.size + 1, 1, none⟩) (Nat.lt_succ_self _) (.slice (some ⟨g, 0, none⟩) (acc.length + 1) cap)
  rw [Pa.cells_app, List.length_append]
  exact this
/-- A part more, whatever it is. -/
theorem Way.more {b : Nat} {W : World} {x0 vP v2 : Value} {w1 w2 : World} {nP : Value} (h : Way b W x0 vP v2 w1) (hr : ∀ k, vP.ownBlock = some k → W.heap.size + 2 ≤ k) (hg : w1.grownBy w2 vP.ownBlock) : Way b W x0 nP v2 (w2.setCell ⟨W.heap.size + 1, 1, none⟩ nP) := (h.grown hg hr).set1 _
/-- The set's tree lies. -/
theorem set_own {b : Nat} {W : World} {acc : List Prt} {po : Option Addr} {pc : Nat} {wr w' : World} (h : SetWay b W acc (.slice po acc.length pc) wr) (hl : acc.length ≤ 1000) (hs : wr.heap.size ≤ w'.heap.size) (hk : ∀ k, W.heap.size + 2 ≤ k → k < wr.heap.size → w'.heap[k]? = wr.heap[k]?) :
    Own3 (From W.heap.size w') w' (Nd.pn (.num false true acc)) [.int .i64 2, .slice po acc.length pc, .slice none 0 0] := by
  refine ⟨fun k hk => hk.2, fun w2 h2 => ?_⟩
  have hsl : Pa.slot w2 po acc := by
    by_cases h0 : acc = []
    · exact .inl h0
    · have hpos := List.length_pos_iff.2 h0
      have hin := h.row.lt
      obtain ⟨g, hg, h1, h3, h4⟩ := row_six (w' := w2) h.row hpos (fun k hk1 => by
        have := hin k hk1
        rw [h2 k ⟨by omega, by omega⟩]
        exact hk k this.1 this.2)
      refine .inr ⟨g, 0, hg, fun i hi j hj => ?_⟩
      have hj3 : j < 3 := hj
      have := flat3_get Pa.enc (fun _ => rfl) acc i hi j hj3
      rw [Nat.zero_add]
      exact h4 _ _ (this.trans (List.getElem?_eq_getElem hj))
  have := Pn.At.mk (w := w2) (k := 2) (ps := acc) (us := []) (po := po) (pc := pc) (uo := none) (uc := 0) 0 0 (fun _ => []) ⟨by omega, by simp⟩ hsl (.inl rfl) (fun i hi => by simp at hi) (fun i hi => by simp at hi)
  rw [Nd.pn, if_neg (by simp), if_pos rfl]
  exact this
end Go.Proofs.YtbceoinhmpnjaaaGreatDoor

