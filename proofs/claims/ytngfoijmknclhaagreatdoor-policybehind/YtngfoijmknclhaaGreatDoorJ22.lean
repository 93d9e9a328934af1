/- The program's Parse. -/
import Derived.Test.YtngfoijmknclhaaGreatDoorJ08
import Derived.Test.YtngfoijmknclhaaGreatDoorJ13
import Derived.Test.YtngfoijmknclhaaGreatDoorJ14
import Derived.Test.YtngfoijmknclhaaGreatDoorJ21
import Derived.Shelf.SlGeneric
import Derived.Shelf.LaysM
import Derived.Shelf.LaysC
import Derived.Shelf.Small.Wraps
import Derived.Shelf.SlicesE.IndexFunc
import Derived.Shelf.Strconv.Itoa3
import Derived.Shelf.Strings.OnBuilder
import Derived.Shelf.Strings.Split
import Derived.Shelf.Strings.SlTrimAscii
import Derived.Shelf.Strconv.AtoiAll
import Derived.Lib.SplitLaws
import Derived.Lib.SlTrimSet
import Derived.Lib.AtoiAllCases
namespace Go.Proofs.YtngfoijmknclhaaGreatDoor.Ar
open Go.RowKit Go.Sort
def Box5 (w : World) (b : Nat) (y0 y1 y2 y3 y4 : Value) : Prop := w.cell? ⟨b, 0, none⟩ = some y0 ∧ w.cell? ⟨b, 1, none⟩ = some y1 ∧ w.cell? ⟨b, 2, none⟩ = some y2 ∧ w.cell? ⟨b, 3, none⟩ = some y3 ∧ w.cell? ⟨b, 4, none⟩ = some y4
theorem box5_of {w w' : World} {b : Nat} {y0 y1 y2 y3 y4 : Value} (h : Box5 w b y0 y1 y2 y3 y4) (hb : w'.heap[b]? = w.heap[b]?) : Box5 w' b y0 y1 y2 y3 y4 := by
  have e : ∀ o, w'.cell? ⟨b, o, none⟩ = w.cell? ⟨b, o, none⟩ := fun o => World.cell?_of_block (a := ⟨b, o, none⟩) hb
  obtain ⟨h0, h1, h2, h3, h4⟩ := h
  exact ⟨(e 0).trans h0, (e 1).trans h1, (e 2).trans h2, (e 3).trans h3, (e 4).trans h4⟩
theorem box5_lt {w : World} {b : Nat} {y0 y1 y2 y3 y4 : Value} (h : Box5 w b y0 y1 y2 y3 y4) : b < w.heap.size := block_lt_of_cell h.1
theorem box5_but {w w' : World} {b c : Nat} {y0 y1 y2 y3 y4 : Value} (h : Box5 w c y0 y1 y2 y3 y4) (hb : But b w w') (hc : c ≠ b) : Box5 w' c y0 y1 y2 y3 y4 := box5_of h (hb.block c hc (box5_lt h))
theorem box5_new (W : World) (y0 y1 y2 y3 y4 : Value) (t : TypeId) : Box5 (W.alloc (.cells #[y0, y1, y2, y3, y4] t)) W.heap.size y0 y1 y2 y3 y4 := ⟨by simp, by simp, by simp, by simp, by simp⟩
theorem box5_set0 {w : World} {b : Nat} {y0 y1 y2 y3 y4 : Value} (h : Box5 w b y0 y1 y2 y3 y4) (v : Value) : Box5 (w.setCell ⟨b, 0, none⟩ v) b v y1 y2 y3 y4 := by
  obtain ⟨c0, c1, c2, c3, c4⟩ := h
  refine ⟨?_, ?_, ?_, ?_, ?_⟩ <;> simp [go_sem, c0, c1, c2, c3, c4]
theorem box5_set1 {w : World} {b : Nat} {y0 y1 y2 y3 y4 : Value} (h : Box5 w b y0 y1 y2 y3 y4) (v : Value) : Box5 (w.setCell ⟨b, 1, none⟩ v) b y0 v y2 y3 y4 := by
  obtain ⟨c0, c1, c2, c3, c4⟩ := h
  refine ⟨?_, ?_, ?_, ?_, ?_⟩ <;> simp [go_sem, c0, c1, c2, c3, c4]
/-- A node put into an expression. -/
def putX (w : World) (g : Nat) (y0 y1 y2 : Value) : World := ((w.setCell ⟨g, 2, none⟩ y0).setCell ⟨g, 3, none⟩ y1).setCell ⟨g, 4, none⟩ y2
theorem putX_size (w : World) (g : Nat) (y0 y1 y2 : Value) : (putX w g y0 y1 y2).heap.size = w.heap.size := by simp [putX]
theorem putX_other (w : World) (g : Nat) (y0 y1 y2 : Value) (k : Nat) (h : k ≠ g) : (putX w g y0 y1 y2).heap[k]? = w.heap[k]? := by
  unfold putX
  rw [heap_setCell_ne _ _ _ _ _ h, heap_setCell_ne _ _ _ _ _ h, heap_setCell_ne _ _ _ _ _ h]
theorem putX_box {w : World} {g : Nat} {z0 z1 x0 x1 x2 : Value} (h : Box5 w g z0 z1 x0 x1 x2) (y0 y1 y2 : Value) : Box5 (putX w g y0 y1 y2) g z0 z1 y0 y1 y2 := by
  obtain ⟨c0, c1, c2, c3, c4⟩ := h
  unfold putX
  refine ⟨?_, ?_, ?_, ?_, ?_⟩ <;> simp [go_sem, c0, c1, c2, c3, c4]
theorem putX_rd {w : World} {b g : Nat} {r : Bs} {d : Nat} {q : Int} (h : Rd w b r d q) (hg : g ≠ b) (y0 y1 y2 : Value) : Rd (putX w g y0 y1 y2) b r d q := h.of (by rw [putX_size]; omega) (putX_other _ _ _ _ _ _ (fun e => hg e.symm))
theorem putX_free {w : World} {g c : Nat} (h : Free w c) (y0 y1 y2 : Value) : Free (putX w g y0 y1 y2) c := free_set (free_set (free_set h _ _) _ _) _ _
/-- Where an expression lies: a pointer to its five cells; it was read of some text. -/
def Rep5 (w : World) (v : Value) (x : Xp) : Prop :=
  ∃ (a : Nat) (x0 x1 x2 : Value), v = .pointer (some ⟨a, 0, none⟩) ∧ Box5 w a (.bool x.1) (.bool x.2.1) x0 x1 x2 ∧ Pn.At w (.mk 3 [] (Nd.pnRows x.2.2)) [x0, x1, x2] ∧ ∃ s : Bs, Px.parse s = .ok x
def ParsePost (W : World) (R : Except Int Xp) (e : Ending) (w' : World) : Prop := Below W.heap.size W w' ∧ ((∃ q, R = .error q ∧ q ≠ 0 ∧ e = .returned (.tuple #[.pointer none, .int .i64 q])) ∨ (∃ x v, R = .ok x ∧ Rep5 w' v x ∧ e = .returned (.tuple #[v, .int .i64 0])))
abbrev zE : Obj := .cells #[.bool false, .bool false, .int .i64 0, .slice none 0 0, .slice none 0 0] 138

set_option maxHeartbeats 16000000 in
set_option maxRecDepth 100000 in
theorem parse_is5 {T : World → Prop} (K : ReadKit T) (r : Bs) (W : World) (hT : T W) : Calls Tryz.prog 61 #[.string (tx r)] W (ParsePost W (Px.parse r)) := by
  obtain ⟨RR, hRR⟩ : ∃ RR, RR = Px.parse r := ⟨_, rfl⟩
  by_cases hl : 64 < r.length
  · have hz : (64 : Int) < ((tx r).size : Int) := by rw [tx_size]; omega
    have HX : Hid (RR = .error 2) := by show _ = _; rw [hRR]; unfold Px.parse; rw [if_pos hl]
    rw [← hRR]
    clear hRR hT hl
    generalize tx r = s at *
    go_enter Tryz.func61, Tryz.ntmps61
    go_wp2_with fail
    exact bodyPost_ret (results_tmp2 Tryz.results61 _ _ _) rfl ⟨brefl _, .inl ⟨2, HX.out, by decide, rfl⟩⟩
  · have hz : ¬ (64 : Int) < ((tx r).size : Int) := by rw [tx_size]; omega
    have HX0 : Hid (RR = (match Px.choice 8 (if Px.isAt r 94 = true then Px.next r else r) with
      | .error e => .error e
      | .ok (c, k) => if Px.skip (if Px.isAt k 36 = true then Px.next k else k) = [] then .ok (Px.isAt r 94, Px.isAt k 36, c) else .error 4)) := by
      show _ = _
      rw [hRR]
      unfold Px.parse
      rw [if_neg hl]
      cases Px.choice 8 (if Px.isAt r 94 = true then Px.next r else r) <;> rfl
    have R0 : Hid (Rd ((W.alloc (.cells #[.string (tx r), .int .i64 0, .int .i64 0] 131)).alloc zE) W.heap.size r 0 0) := by
      refine Rd.alloc ⟨?_, ?_, ?_, free_new W _ 131⟩ zE <;> simp
    have B0 := hide (balloc (balloc (brefl W) (.cells #[.string (tx r), .int .i64 0, .int .i64 0] 131)) zE)
    have E0 := hide (box5_new (W.alloc (.cells #[.string (tx r), .int .i64 0, .int .i64 0] 131)) (.bool false) (.bool false) (.int .i64 0) (.slice none 0 0) (.slice none 0 0) 138)
    have F0 := hide (free_new (W.alloc (.cells #[.string (tx r), .int .i64 0, .int .i64 0] 131)) #[.bool false, .bool false, .int .i64 0, .slice none 0 0, .slice none 0 0] 138)
    rw [size_alloc] at E0 F0
    have T0 : Hid (Ty T W.heap.size ((W.alloc (.cells #[.string (tx r), .int .i64 0, .int .i64 0] 131)).alloc zE)) := ⟨W, hT, B0.out, Nat.le_refl _⟩
    have hne : W.heap.size + 1 ≠ W.heap.size := by omega
    obtain ⟨t1, ht1⟩ : ∃ t1, t1 = Px.isAt r 94 := ⟨_, rfl⟩
    obtain ⟨r1, hr1⟩ : ∃ r1, r1 = if t1 = true then Px.next r else Px.skip r := ⟨_, rfl⟩
    have hc1 : Px.choice 8 (if Px.isAt r 94 = true then Px.next r else r) = Px.choice 8 r1 := by
      rw [hr1, ← ht1]
      cases t1 with
      | true => rfl
      | false => exact (choice_cong (Px.skip_idem r) 8).symm
    have hrl : r1.length ≤ 100 := by
      have h1 := (Px.next_suf r).length_le
      have h2 := (Px.skip_suf r).length_le
      rw [hr1]
      split <;> omega
    rw [hc1, ← ht1] at HX0
    have C1 := hide (take_is K.trims R0.out 94 94 rfl t1 ht1.symm r1 hr1)
    have C2 := hide (fun w hR hT => choice_all K W.heap.size w r1 hR hT hrl)
    have HP := hide hRR.symm
    rw [← hRR]
    clear hRR hT hl hr1 hrl hc1 ht1
    generalize hs : tx r = s at *
    clear hs
    go_enter Tryz.func61, Tryz.ntmps61
    go_wp2_with fail
    generalize (W.alloc (.cells #[.string s, .int .i64 0, .int .i64 0] 131)).alloc zE = W1 at *
    refine C1.out.mono ?_
    rintro e w1 ⟨rfl, hB, hR⟩
    have E1 := hide (box5_set0 (box5_but E0.out hB hne) (.bool t1))
    have F1 := hide (free_set (hB.free F0.out hne) ⟨W.heap.size + 1, 0, none⟩ (.bool t1))
    have hlt1 := box5_lt (box5_but E0.out hB hne)
    have B1 := hide ((B0.out.trans (hB.below (Nat.le_refl _) (by have := box5_lt E0.out; omega))).setCell (p := ⟨W.heap.size + 1, 0, none⟩) (Nat.le_succ _) (.bool t1))
    have R1 := hide (hR.other (p := ⟨W.heap.size + 1, 0, none⟩) hne (.bool t1))
    have T1 : Hid (Ty T W.heap.size (w1.setCell ⟨W.heap.size + 1, 0, none⟩ (.bool t1))) := by
      obtain ⟨w0, a1, a2, a3⟩ := T0.out.but hB
      exact ⟨w0, a1, a2.setCell (by simp only; omega) _, a3⟩
    have D2 := hide (C2.out _ R1.out T1.out)
    obtain ⟨c0, c1, c2, c3, c4⟩ := box5_but E0.out hB hne
    have f0 := (hB.free F0.out hne).2 0
    clear hB hR C1 C2
    go_wp2_with fail
    generalize w1.setCell ⟨W.heap.size + 1, 0, none⟩ (.bool t1) = w2 at *
    cases hch : Px.choice 8 r1 with
    | error v =>
      have hv := choice_err 8 _ _ hch
      have hv1 : (v != 0) = true := by simpa using hv
      have HX : Hid (RR = .error v) := by show _ = _; rw [HX0.out, hch]
      rw [hch] at D2
      clear HX0 hch c0 c1 c2 c3 c4 f0
      refine D2.out.mono ?_
      rintro e w3 ⟨hB, x0, x1, x2, hR, ⟨o0, o1, o2⟩, rfl⟩
      have B3 := hide (B1.out.trans (hB.below (Nat.le_refl _) (by have := box5_lt E1.out; omega)))
      have E3 := hide (box5_but E1.out hB hne)
      have F3 := hide (hB.free F1.out hne)
      have s0 := fun w a m => run_store Tryz.prog w a x0 m o0
      have s1 := fun w a m => run_store Tryz.prog w a x1 m o1
      have s2 := fun w a m => run_store Tryz.prog w a x2 m o2
      obtain ⟨c0, c1, c2, c3, c4⟩ := E3.out
      have f2 := F3.out.2 2
      have f3 := F3.out.2 3
      have f4 := F3.out.2 4
      have R3 := hide (putX_rd hR (g := W.heap.size + 1) hne x0 x1 x2)
      have E3x := hide (putX_box E3.out x0 x1 x2)
      have F3x := hide (putX_free (g := W.heap.size + 1) F3.out x0 x1 x2)
      have B3x : Hid (Below W.heap.size W (putX w3 (W.heap.size + 1) x0 x1 x2)) := ((B3.out.setCell (p := ⟨W.heap.size + 1, 2, none⟩) (Nat.le_succ _) x0).setCell (p := ⟨W.heap.size + 1, 3, none⟩) (Nat.le_succ _) x1).setCell (p := ⟨W.heap.size + 1, 4, none⟩) (Nat.le_succ _) x2
      have CT := hide (take_is K.trims R3.out 36 36 rfl false rfl [] rfl)
      clear hB hR D2
      go_wp2_with fail
      change Calls Tryz.prog 104 _ (putX w3 (W.heap.size + 1) x0 x1 x2) _
      generalize putX w3 (W.heap.size + 1) x0 x1 x2 = w3x at *
      clear c0 c1 c2 c3 c4 f2 f3 f4
      refine CT.out.mono ?_
      rintro e w4 ⟨rfl, hB, hR⟩
      have B4 := hide (B3x.out.trans (hB.below (Nat.le_refl _) (by have := box5_lt E3x.out; omega)))
      have E4 := hide (box5_but E3x.out hB hne)
      have F4 := hide (hB.free F3x.out hne)
      have B4s := hide (B4.out.setCell (p := ⟨W.heap.size + 1, 1, none⟩) (Nat.le_succ _) (.bool false))
      have E4s := hide (box5_set1 E4.out (.bool false))
      have R4s := hide (hR.other (p := ⟨W.heap.size + 1, 1, none⟩) hne (.bool false))
      obtain ⟨c0, c1, c2, c3, c4⟩ := E4.out
      have f1 := F4.out.2 1
      have CE := hide (rend_is K.trims R4s.out v rfl)
      clear hB hR CT
      go_wp2_with fail
      generalize w4.setCell ⟨W.heap.size + 1, 1, none⟩ (.bool false) = w4s at *
      refine CE.out.mono ?_
      rintro e w5 ⟨rfl, hB, hR⟩
      have B5 := hide (B4s.out.trans (hB.below (Nat.le_refl _) (by have := box5_lt E4s.out; omega)))
      have E5 := hide (box5_but E4s.out hB hne)
      obtain ⟨d0, d1, d2, _⟩ := hR
      clear hB CE
      go_wp2_with fail
      go_region
      go_wp2_with fail
      exact bodyPost_ret (results_tmp2 Tryz.results61 _ _ _) rfl ⟨B5.out.drew, .inl ⟨v, HX.out, hv, rfl⟩⟩
    | ok z =>
      obtain ⟨c, k⟩ := z
      rw [hch] at D2 HX0
      simp only at HX0
      clear hch c0 c1 c2 c3 c4 f0
      refine D2.out.mono ?_
      rintro e w3 ⟨hB, k', x0, x1, x2, hk1, hk2, hR, hT1, rfl⟩
      obtain ⟨o0, o1, o2⟩ := Pn.one hT1.at
      have HT1 := hide hT1
      clear hT1
      have B3 := hide (B1.out.trans (hB.below (Nat.le_refl _) (by have := box5_lt E1.out; omega)))
      have E3 := hide (box5_but E1.out hB hne)
      have F3 := hide (hB.free F1.out hne)
      have s0 := fun w a m => run_store Tryz.prog w a x0 m o0
      have s1 := fun w a m => run_store Tryz.prog w a x1 m o1
      have s2 := fun w a m => run_store Tryz.prog w a x2 m o2
      obtain ⟨c0, c1, c2, c3, c4⟩ := E3.out
      have f2 := F3.out.2 2
      have f3 := F3.out.2 3
      have f4 := F3.out.2 4
      have R3 := hide (putX_rd hR (g := W.heap.size + 1) hne x0 x1 x2)
      have E3x := hide (putX_box E3.out x0 x1 x2)
      have F3x := hide (putX_free (g := W.heap.size + 1) F3.out x0 x1 x2)
      have B3x : Hid (Below W.heap.size W (putX w3 (W.heap.size + 1) x0 x1 x2)) := ((B3.out.setCell (p := ⟨W.heap.size + 1, 2, none⟩) (Nat.le_succ _) x0).setCell (p := ⟨W.heap.size + 1, 3, none⟩) (Nat.le_succ _) x1).setCell (p := ⟨W.heap.size + 1, 4, none⟩) (Nat.le_succ _) x2
      have HT3 : Hid (Own3 (From w2.heap.size w3) (putX w3 (W.heap.size + 1) x0 x1 x2) (.mk 3 [] (Nd.pnRows c)) [x0, x1, x2]) := HT1.out.keep (by rw [putX_size]; exact Nat.le_refl _) fun j hj => putX_other _ _ _ _ _ j (by have := box5_lt E1.out; have := hj.1; omega)
      have hw23 := hB.size
      have hw2 := box5_lt E1.out
      have hw3s : (putX w3 (W.heap.size + 1) x0 x1 x2).heap.size = w3.heap.size := putX_size _ _ _ _ _
      obtain ⟨t2, ht2⟩ : ∃ t2, t2 = Px.isAt k' 36 := ⟨_, rfl⟩
      obtain ⟨r2, hr2⟩ : ∃ r2, r2 = if t2 = true then Px.next k' else Px.skip k' := ⟨_, rfl⟩
      have hsk : Px.skip (if Px.isAt k 36 = true then Px.next k else k) = Px.skip r2 := by
        rw [hr2, ← isAt_cong hk1, ← ht2, ← next_cong hk1]
        cases t2 with
        | true => rfl
        | false => simp only [Bool.false_eq_true, if_false]; rw [Px.skip_idem, hk1]
      rw [hsk, ← isAt_cong hk1, ← ht2] at HX0
      have CT := hide (take_is K.trims R3.out 36 36 rfl t2 ht2.symm r2 hr2)
      clear hB hR D2 hsk ht2 hr2 hk1 hk2 HT1
      go_wp2_with fail
      change Calls Tryz.prog 104 _ (putX w3 (W.heap.size + 1) x0 x1 x2) _
      generalize putX w3 (W.heap.size + 1) x0 x1 x2 = w3x at *
      clear c0 c1 c2 c3 c4 f2 f3 f4
      refine CT.out.mono ?_
      rintro e w4 ⟨rfl, hB, hR⟩
      have B4 := hide (B3x.out.trans (hB.below (Nat.le_refl _) (by have := box5_lt E3x.out; omega)))
      have E4 := hide (box5_but E3x.out hB hne)
      have F4 := hide (hB.free F3x.out hne)
      have B4s := hide (B4.out.setCell (p := ⟨W.heap.size + 1, 1, none⟩) (Nat.le_succ _) (.bool t2))
      have E4s := hide (box5_set1 E4.out (.bool t2))
      have R4s := hide (hR.other (p := ⟨W.heap.size + 1, 1, none⟩) hne (.bool t2))
      obtain ⟨c0, c1, c2, c3, c4⟩ := E4.out
      have f1 := F4.out.2 1
      have HT4 : Hid (Own3 (From w2.heap.size w3) (w4.setCell ⟨W.heap.size + 1, 1, none⟩ (.bool t2)) (.mk 3 [] (Nd.pnRows c)) [x0, x1, x2]) := HT3.out.keep (by rw [size_setCell]; exact hB.size) fun j hj => (heap_setCell_ne _ _ _ _ _ (by have := hj.1; omega)).trans (hB.block j (by have := hj.1; omega) (by have := hj.2; omega))
      have hw4 := hB.size
      have hw4s : (w4.setCell ⟨W.heap.size + 1, 1, none⟩ (.bool t2)).heap.size = w4.heap.size := size_setCell _ _ _
      by_cases he : Px.skip r2 = []
      · have HX : Hid (RR = .ok (t1, t2, c)) := by show _ = _; rw [HX0.out, if_pos he]
        have CE := hide (rend_is K.trims R4s.out 0 (by rw [if_pos he]))
        clear hB hR CT HX0 he
        go_wp2_with fail
        generalize w4.setCell ⟨W.heap.size + 1, 1, none⟩ (.bool t2) = w4s at *
        refine CE.out.mono ?_
        rintro e w5 ⟨rfl, hB, hR⟩
        have B5 := hide (B4s.out.trans (hB.below (Nat.le_refl _) (by have := box5_lt E4s.out; omega)))
        have E5 := hide (box5_but E4s.out hB hne)
        obtain ⟨d0, d1, d2, _⟩ := hR
        have HT5 := hide (HT4.out.keep hB.size fun j hj => hB.block j (by have := hj.1; omega) (by have := hj.2; omega)).at
        clear hB CE
        go_wp2_with fail
        exact bodyPost_ret (results_tmp2 Tryz.results61 _ _ _) rfl ⟨B5.out, .inr ⟨(t1, t2, c), _, HX.out, ⟨W.heap.size + 1, x0, x1, x2, rfl, E5.out, HT5.out, r, HP.out.trans HX.out⟩, rfl⟩⟩
      · have HX : Hid (RR = .error 4) := by show _ = _; rw [HX0.out, if_neg he]
        have CE := hide (rend_is K.trims R4s.out 4 (by rw [if_neg he]; rfl))
        clear hB hR CT HX0 he
        go_wp2_with fail
        generalize w4.setCell ⟨W.heap.size + 1, 1, none⟩ (.bool t2) = w4s at *
        refine CE.out.mono ?_
        rintro e w5 ⟨rfl, hB, hR⟩
        have B5 := hide (B4s.out.trans (hB.below (Nat.le_refl _) (by have := box5_lt E4s.out; omega)))
        have E5 := hide (box5_but E4s.out hB hne)
        obtain ⟨d0, d1, d2, _⟩ := hR
        clear hB CE
        go_wp2_with fail
        go_region
        go_wp2_with fail
        exact bodyPost_ret (results_tmp2 Tryz.results61 _ _ _) rfl ⟨B5.out.drew, .inl ⟨4, HX.out, by decide, rfl⟩⟩
end Go.Proofs.YtngfoijmknclhaaGreatDoor.Ar
namespace Go.Proofs.YtngfoijmknclhaaGreatDoor.Ar.Y4
open Go.RowKit Go.Sort
theorem mayAS_is (n : Int) (r : Bool) (h : Is.as n = r) (w : World) : Calls Tryz.prog 95 #[.int .i64 n] w fun e w' => e = .returned (.bool r) ∧ w' = w := by
  cases r
  · rcases (Is.as_not n).1 h with h | h
    · have h0 : ¬ 1 ≤ n := by omega
      clear h
      go_enter Tryz.func95, Tryz.ntmps95
      go_wp2_with fail
      go_ret
      exact ⟨rfl, rfl⟩
    · have h0 : 1 ≤ n := by omega
      have h1 : ¬ n ≤ 65535 := by omega
      clear h
      go_enter Tryz.func95, Tryz.ntmps95
      go_wp2_with fail
      go_ret
      exact ⟨rfl, rfl⟩
  · obtain ⟨h0, h1⟩ := (Is.as_iff n).1 h
    have h0 : 1 ≤ n := by omega
    have h1 : n ≤ 65535 := by omega
    clear h
    go_enter Tryz.func95, Tryz.ntmps95
    go_wp2_with fail
    go_ret
    exact ⟨rfl, rfl⟩

end Go.Proofs.YtngfoijmknclhaaGreatDoor.Ar.Y4
namespace Go.Proofs.YtngfoijmknclhaaGreatDoor.Ar.Y4
theorem splitK_one_zero (k : Nat) (r : List UInt8) : Lib.splitK [32] 0 (k + 1) (32 :: r) = [] :: Lib.splitK [32] 0 k r := by
  have h : Lib.index (32 :: r) [32] = 0 := by simp [Lib.index, List.isPrefixOf]
  rw [Lib.splitK, h]
  simp
theorem splitK_one_cons (c : UInt8) (h : c ≠ 32) : ∀ (k : Nat) (r : List UInt8), ∃ f fs, Lib.splitK [32] 0 k r = f :: fs ∧ Lib.splitK [32] 0 k (c :: r) = (c :: f) :: fs
  | 0, r => ⟨r, [], rfl, rfl⟩
  | k + 1, r => by
    have hp : ([32] : List UInt8).isPrefixOf (c :: r) = false := by
      simp [List.isPrefixOf]
      exact fun e => h e.symm
    have hi : Lib.index (c :: r) [32] = if Lib.index r [32] == -1 then -1 else Lib.index r [32] + 1 := by
      rw [Lib.index, hp]
      simp
    have hge := Lib.index_ge r [32]
    by_cases hm : Lib.index r [32] = -1
    · refine ⟨r, [], ?_, ?_⟩
      · rw [Lib.splitK, hm]; simp
      · rw [Lib.splitK, hi, hm]; simp
    · have hb : (Lib.index r [32] == -1) = false := by simpa using hm
      have h2 : (Lib.index r [32] + 1 == -1) = false := by simp; omega
      refine ⟨r.take (Lib.index r [32]).toNat, Lib.splitK [32] 0 k (r.drop ((Lib.index r [32]).toNat + 1)), ?_, ?_⟩
      · rw [Lib.splitK, hb]; simp
      · rw [Lib.splitK, hi, hb]
        simp only [Bool.false_eq_true, if_false, h2]
        rw [show (Lib.index r [32] + 1).toNat = (Lib.index r [32]).toNat + 1 by omega]
        simp
theorem splitK_is : ∀ l : List UInt8, Lib.splitK [32] 0 (Lib.count l [32]) l = Sp.split l
  | [] => rfl
  | c :: r => by
    have ih := splitK_is r
    by_cases h : c = 32
    · subst h
      rw [Lib.count_cons_eq, Nat.add_comm, splitK_one_zero, ih, Sp.split_blank]
    · obtain ⟨f, fs, h1, h2⟩ := splitK_one_cons c h (Lib.count r [32]) r
      rw [Lib.count_cons_ne c 32 r h, h2, Sp.split, if_neg h, ← ih, h1]
theorem splitB_is (s : ByteArray) : (Lib.splitB ⟨#[32]⟩ 0 (Lib.countB s ⟨#[32]⟩) s).map (·.data.toList) = Sp.split s.data.toList := by
  rw [Lib.splitB_data]
  exact splitK_is s.data.toList

theorem Sp.split_size (s f : List UInt8) (h : f ∈ Sp.split s) : f.length ≤ s.length := by
  induction s generalizing f with
  | nil => simp [Sp.split] at h; subst h; simp
  | cons c r ih =>
    unfold Sp.split at h
    split at h
    · rcases List.mem_cons.1 h with h | h
      · subst h; simp
      · have := ih f h; simp; omega
    · split at h
      · rename_i g gs hg
        rcases List.mem_cons.1 h with h | h
        · subst h
          have := ih g (by rw [hg]; simp)
          simp; omega
        · have := ih f (by rw [hg]; simp [h])
          simp; omega
      · simp at h; subst h; simp
theorem Sp.split_count (s : List UInt8) : (Sp.split s).length ≤ s.length + 1 := by
  induction s with
  | nil => simp [Sp.split]
  | cons c r ih =>
    unfold Sp.split
    split
    · simp; omega
    · split
      · rename_i g gs hg
        rw [hg] at ih
        simp at ih ⊢; omega
      · simp

/-- The ten digits. -/
def tens : List UInt8 := [48, 49, 50, 51, 52, 53, 54, 55, 56, 57]
theorem tens_dig (c : UInt8) : tens.contains c = Ad.dig c := by
  have e : ∀ k : UInt8, c = k ↔ c.toNat = k.toNat := fun k => ⟨fun h => by rw [h], fun h => UInt8.toNat_inj.1 h⟩
  rw [Bool.eq_iff_iff]
  unfold Ad.dig tens
  simp only [List.contains_eq_mem, List.mem_cons, List.not_mem_nil, or_false, decide_eq_true_eq, Bool.and_eq_true, e]
  have h1 : (48 : UInt8).toNat = 48 := rfl
  have h2 : (49 : UInt8).toNat = 49 := rfl
  have h3 : (50 : UInt8).toNat = 50 := rfl
  have h4 : (51 : UInt8).toNat = 51 := rfl
  have h5 : (52 : UInt8).toNat = 52 := rfl
  have h6 : (53 : UInt8).toNat = 53 := rfl
  have h7 : (54 : UInt8).toNat = 54 := rfl
  have h8 : (55 : UInt8).toNat = 55 := rfl
  have h9 : (56 : UInt8).toNat = 56 := rfl
  have h10 : (57 : UInt8).toNat = 57 := rfl
  omega
theorem drop_nil_iff {p : UInt8 → Bool} : ∀ l : List UInt8, l.dropWhile p = [] ↔ ∀ x ∈ l, p x = true
  | [] => by simp
  | c :: r => by
    have ih := drop_nil_iff (p := p) r
    rw [List.dropWhile_cons]
    cases h : p c
    · simp [h]
    · simp [h, ih]
theorem drop_head {p : UInt8 → Bool} : ∀ (l : List UInt8) (x : UInt8) (t : List UInt8), l.dropWhile p = x :: t → p x = false
  | [], _, _, h => by simp at h
  | c :: r, x, t, h => by
    rw [List.dropWhile_cons] at h
    cases hc : p c
    · rw [hc] at h
      simp at h
      rw [← h.1]; exact hc
    · rw [hc] at h
      simp at h
      exact drop_head r x t h
/-- Nothing is left, if all of it is digits. -/
theorem trim_digs (l : List UInt8) : (Lib.trimS l tens = []) ↔ Ad.digs l = true := by
  have hd : Ad.digs l = true ↔ ∀ x ∈ l, tens.contains x = true := by
    unfold Ad.digs
    rw [List.all_eq_true]
    exact ⟨fun h x hx => by rw [tens_dig]; exact h x hx, fun h x hx => by have := h x hx; rw [tens_dig] at this; exact this⟩
  rw [hd]
  unfold Lib.trimS Lib.trimLeftS Lib.trimRightS
  rw [drop_nil_iff]
  cases hr : l.reverse.dropWhile (tens.contains ·) with
  | nil =>
    have := (drop_nil_iff _).1 hr
    exact ⟨fun _ x hx => this x (by simpa using hx), fun _ x hx => by simp at hx⟩
  | cons y t =>
    have hy := drop_head _ y t hr
    constructor
    · intro h
      have := h y (by simp)
      rw [hy] at this
      cases this
    · intro h
      have : l.reverse.dropWhile (tens.contains ·) = [] := (drop_nil_iff _).2 fun x hx => h x (by simpa using hx)
      rw [hr] at this
      cases this

/-- Digits read on: the number that they spell, or it is too great. -/
theorem uint_digs (l : List UInt8) : ∀ (acc : Nat), Ad.digs l = true → (acc : Int) < 18446744073709551616 →
    (Lib.parseUint10 acc l = .ok (l.foldl (fun n c => 10 * n + ((c.toNat : Int) - 48)) (acc : Int)).toNat ∧ 0 ≤ l.foldl (fun n c => 10 * n + ((c.toNat : Int) - 48)) (acc : Int)) ∨
    (Lib.parseUint10 acc l = .range ∧ 18446744073709551616 ≤ l.foldl (fun n c => 10 * n + ((c.toNat : Int) - 48)) (acc : Int)) := by
  induction l with
  | nil =>
    intro acc _ _
    left
    rw [Lib.parseUint10, List.foldl_nil, Int.toNat_natCast]
    exact ⟨rfl, by omega⟩
  | cons c r ih0 =>
    intro acc h ha
    have h1 : Ad.dig c = true ∧ Ad.digs r = true := by
      unfold Ad.digs at h ⊢
      rw [List.all_cons, Bool.and_eq_true] at h
      exact h
    obtain ⟨hc0, hc1⟩ := Ad.dig_bd c h1.1
    have hmono : ∀ (l : List UInt8) (a b : Int), a ≤ b → 0 ≤ a → Ad.digs l = true → b ≤ l.foldl (fun n c => 10 * n + ((c.toNat : Int) - 48)) b ∨ b < 0 := by
      intro l
      induction l with
      | nil => intro a b _ _ _; left; simp
      | cons d t ih =>
        intro a b hab ha hd
        have h2 : Ad.dig d = true ∧ Ad.digs t = true := by
          unfold Ad.digs at hd ⊢
          rw [List.all_cons, Bool.and_eq_true] at hd
          exact hd
        obtain ⟨g0, g1⟩ := Ad.dig_bd d h2.1
        have hb : 0 ≤ b := by omega
        rcases ih (10 * b + ((d.toNat : Int) - 48)) (10 * b + ((d.toNat : Int) - 48)) (Int.le_refl _) (by omega) h2.2 with h3 | h3
        · left
          rw [List.foldl_cons]
          omega
        · omega
    rw [List.foldl_cons]
    have hpc : 48 ≤ c.toNat ∧ c.toNat ≤ 57 := by omega
    rw [Lib.parseUint10, if_pos hpc]
    by_cases hb : 1844674407370955162 ≤ acc
    · right
      rw [if_pos hb]
      refine ⟨rfl, ?_⟩
      rcases hmono r _ (10 * (acc : Int) + ((c.toNat : Int) - 48)) (Int.le_refl _) (by omega) h1.2 with h3 | h3 <;> omega
    · rw [if_neg hb]
      by_cases hb2 : 18446744073709551616 ≤ acc * 10 + (c.toNat - 48)
      · right
        rw [if_pos hb2]
        refine ⟨rfl, ?_⟩
        rcases hmono r _ (10 * (acc : Int) + ((c.toNat : Int) - 48)) (Int.le_refl _) (by omega) h1.2 with h3 | h3 <;> omega
      · rw [if_neg hb2]
        have := ih0 (acc * 10 + (c.toNat - 48)) h1.2 (by omega)
        rw [show ((acc * 10 + (c.toNat - 48) : Nat) : Int) = 10 * (acc : Int) + ((c.toNat : Int) - 48) by omega] at this
        exact this
theorem atoi_num (l : List UInt8) (h : Ad.isNum l = true) : (Lib.atoiAll l = .ok (Ad.num l)) ∨ (Lib.atoiAll l = .range ∧ 65535 < Ad.num l) := by
  have hd := isNum_digs h
  cases l with
  | nil => cases h
  | cons c r =>
    have hc : Ad.dig c = true := by
      unfold Ad.digs at hd
      rw [List.all_cons, Bool.and_eq_true] at hd
      exact hd.1
    obtain ⟨g0, g1⟩ := Ad.dig_bd c hc
    have hz : Lib.parseMag (c :: r) = Lib.parseUint10 0 (c :: r) := by simp [Lib.parseMag]
    rw [Lib.atoiAll_plain c r (by omega) (by omega), hz]
    rcases uint_digs (c :: r) 0 hd (by decide) with ⟨h1, h2⟩ | ⟨h1, h2⟩
    · rw [h1]
      have e : (c :: r).foldl (fun n c => 10 * n + ((c.toNat : Int) - 48)) ((0 : Nat) : Int) = Ad.num (c :: r) := rfl
      rw [e] at h2 ⊢
      unfold Lib.signless
      by_cases hb : 9223372036854775808 ≤ (Ad.num (c :: r)).toNat
      · right
        simp only [if_pos hb]
        exact ⟨trivial, by omega⟩
      · left
        simp only [if_neg hb]
        congr 1
        omega
    · right
      rw [h1]
      have e : (c :: r).foldl (fun n c => 10 * n + ((c.toNat : Int) - 48)) ((0 : Nat) : Int) = Ad.num (c :: r) := rfl
      rw [e] at h2
      exact ⟨rfl, by omega⟩
end Go.Proofs.YtngfoijmknclhaaGreatDoor.Ar.Y4
