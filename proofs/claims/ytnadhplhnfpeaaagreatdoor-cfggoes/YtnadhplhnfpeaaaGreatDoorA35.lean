/- Part of the proof. -/
import Derived.Test.YtnadhplhnfpeaaaGreatDoorAZ
import Derived.Test.YtnadhplhnfpeaaaGreatDoorA29
import Derived.Test.YtnadhplhnfpeaaaGreatDoorA34
import Derived.Laws.BitsAllLaws
import Derived.Test.YtnadhplhnfpeaaaGreatDoorProg
import Derived.WalkKit
import Derived.WalkSpells
import Derived.WalkLawsBesides
import Derived.Deep.QuietTactic
import Derived.BigQuiet
import Derived.Lib.Builder
import Derived.LoopN
import Derived.Lib.IndexLaws
import Derived.Lib.IndexBytes
namespace Go.Proofs.YtnadhplhnfpeaaaGreatDoor.Ar
open Go.RowKit Go.Sort
def Box5 (w : World) (b : Nat) (y0 y1 y2 y3 y4 : Value) : Prop := w.cell? ⟨b, 0, none⟩ = some y0 ∧ w.cell? ⟨b, 1, none⟩ = some y1 ∧ w.cell? ⟨b, 2, none⟩ = some y2 ∧ w.cell? ⟨b, 3, none⟩ = some y3 ∧ w.cell? ⟨b, 4, none⟩ = some y4
theorem box5_of {w w' : World} {b : Nat} {y0 y1 y2 y3 y4 : Value} (h : Box5 w b y0 y1 y2 y3 y4) (hb : w'.heap[b]? = w.heap[b]?) : Box5 w' b y0 y1 y2 y3 y4 := by
 have e : ∀ o, w'.cell? ⟨b, o, none⟩ = w.cell? ⟨b, o, none⟩ := fun o => World.cell?_of_block (a := ⟨b, o, none⟩) hb
 obtain ⟨h0, h1, h2, h3, h4⟩ := h
 exact ⟨(e 0).trans h0, (e 1).trans h1, (e 2).trans h2, (e 3).trans h3, (e 4).trans h4⟩
theorem box5_lt {w : World} {b : Nat} {y0 y1 y2 y3 y4 : Value} (h : Box5 w b y0 y1 y2 y3 y4) : b < w.heap.size := block_lt_of_cell h.1
theorem box5_but {w w' : World} {b c : Nat} {y0 y1 y2 y3 y4 : Value} (h : Box5 w c y0 y1 y2 y3 y4) (hb : But b w w') (hc : c ≠ b) : Box5 w' c y0 y1 y2 y3 y4 := box5_of h (hb.block c hc (box5_lt h))
theorem box5_new (W : World) (y0 y1 y2 y3 y4 : Value) (t : TypeId) : Box5 (W.alloc (.cells #[y0, y1, y2, y3, y4] t)) W.heap.size y0 y1 y2 y3 y4 := ⟨by simp, by simp, by simp, by simp, by simp⟩
theorem box5_set0 {w : World} {b : Nat} {y0 y1 y2 y3 y4 : Value} (h : Box5 w b y0 y1 y2 y3 y4) (v : Value) : Box5 (w.setCell ⟨b, 0, none⟩ v) b v y1 y2 y3 y4 := by
 obtain ⟨c0, c1, c2, c3, c4⟩ := h
 refine ⟨?_, ?_, ?_, ?_, ?_⟩ <;> simp [go_sem, c0, c1, c2, c3, c4]
theorem box5_set1 {w : World} {b : Nat} {y0 y1 y2 y3 y4 : Value} (h : Box5 w b y0 y1 y2 y3 y4) (v : Value) : Box5 (w.setCell ⟨b, 1, none⟩ v) b y0 v y2 y3 y4 := by
 obtain ⟨c0, c1, c2, c3, c4⟩ := h
 refine ⟨?_, ?_, ?_, ?_, ?_⟩ <;> simp [go_sem, c0, c1, c2, c3, c4]
def putX (w : World) (g : Nat) (y0 y1 y2 : Value) : World := ((w.setCell ⟨g, 2, none⟩ y0).setCell ⟨g, 3, none⟩ y1).setCell ⟨g, 4, none⟩ y2
theorem putX_size (w : World) (g : Nat) (y0 y1 y2 : Value) : (putX w g y0 y1 y2).heap.size = w.heap.size := by simp [putX]
theorem putX_other (w : World) (g : Nat) (y0 y1 y2 : Value) (k : Nat) (h : k ≠ g) : (putX w g y0 y1 y2).heap[k]? = w.heap[k]? := by
 unfold putX
 rw [heap_setCell_ne _ _ _ _ _ h, heap_setCell_ne _ _ _ _ _ h, heap_setCell_ne _ _ _ _ _ h]
theorem putX_box {w : World} {g : Nat} {z0 z1 x0 x1 x2 : Value} (h : Box5 w g z0 z1 x0 x1 x2) (y0 y1 y2 : Value) : Box5 (putX w g y0 y1 y2) g z0 z1 y0 y1 y2 := by
 obtain ⟨c0, c1, c2, c3, c4⟩ := h
 unfold putX
 refine ⟨?_, ?_, ?_, ?_, ?_⟩ <;> simp [go_sem, c0, c1, c2, c3, c4]
theorem putX_rd {w : World} {b g : Nat} {r : Bs} {d : Nat} {q : Int} (h : Rd w b r d q) (hg : g ≠ b) (y0 y1 y2 : Value) : Rd (putX w g y0 y1 y2) b r d q := h.of (by rw [putX_size]; omega) (putX_other _ _ _ _ _ _ (fun e => hg e.symm))
theorem putX_free {w : World} {g c : Nat} (h : Free w c) (y0 y1 y2 : Value) : Free (putX w g y0 y1 y2) c := free_set (free_set (free_set h _ _) _ _) _ _
def Rep5 (w : World) (v : Value) (x : Xp) : Prop :=
  ∃ (a : Nat) (x0 x1 x2 : Value), v = .pointer (some ⟨a, 0, none⟩) ∧ Box5 w a (.bool x.1) (.bool x.2.1) x0 x1 x2 ∧ Pn.At w (.mk 3 [] (Nd.pnRows x.2.2)) [x0, x1, x2] ∧ ∃ s : Bs, Px.parse s = .ok x
def ParsePost (W : World) (R : Except Int Xp) (e : Ending) (w' : World) : Prop := Below W.heap.size W w' ∧ ((∃ q, R = .error q ∧ q ≠ 0 ∧ e = .returned (.tuple #[.pointer none, .int .i64 q])) ∨ (∃ x v, R = .ok x ∧ Rep5 w' v x ∧ e = .returned (.tuple #[v, .int .i64 0])))
abbrev zE : Obj := .cells #[.bool false, .bool false, .int .i64 0, .slice none 0 0, .slice none 0 0] 201
set_option maxHeartbeats 16000000 in
set_option maxRecDepth 100000 in
theorem parse_is5 {T : World → Prop} (K : ReadKit T) (r : Bs) (W : World) (hT : T W) : Calls Tryz.prog 118 #[.string (tx r)] W (ParsePost W (Px.parse r)) := by
 obtain ⟨RR, hRR⟩ : ∃ RR, RR = Px.parse r := ⟨_, rfl⟩
 by_cases hl : 64 < r.length
 ·
  have hz : (64 : Int) < ((tx r).size : Int) := by rw [tx_size]; omega
  have HX : Hid (RR = .error 2) := by show _ = _; rw [hRR]; unfold Px.parse; rw [if_pos hl]
  rw [← hRR]
  clear hRR hT hl
  generalize tx r = s at *
  go_enter Tryz.func118, Tryz.ntmps118
  go_wp2_with fail
  exact bodyPost_ret (results_tmp2 Tryz.results118 _ _ _) rfl ⟨brefl _, .inl ⟨2, HX.out, by decide, rfl⟩⟩
 have hz : ¬ (64 : Int) < ((tx r).size : Int) := by rw [tx_size]; omega
 have HX0 : Hid (RR = (match Px.choice 8 (if Px.isAt r 94 = true then Px.next r else r) with
   | .error e => .error e
   | .ok (c, k) => if Px.skip (if Px.isAt k 36 = true then Px.next k else k) = [] then .ok (Px.isAt r 94, Px.isAt k 36, c) else .error 4)) := by
   show _ = _
   rw [hRR]
   unfold Px.parse
   rw [if_neg hl]
   cases Px.choice 8 (if Px.isAt r 94 = true then Px.next r else r) <;> rfl
 have R0 : Hid (Rd ((W.alloc (.cells #[.string (tx r), .int .i64 0, .int .i64 0] 194)).alloc zE) W.heap.size r 0 0) := by
  refine Rd.alloc ⟨?_, ?_, ?_, free_new W _ 194⟩ zE <;> simp
 have B0 := hide (balloc (balloc (brefl W) (.cells #[.string (tx r), .int .i64 0, .int .i64 0] 194)) zE)
 have E0 := hide (box5_new (W.alloc (.cells #[.string (tx r), .int .i64 0, .int .i64 0] 194)) (.bool false) (.bool false) (.int .i64 0) (.slice none 0 0) (.slice none 0 0) 201)
 have F0 := hide (free_new (W.alloc (.cells #[.string (tx r), .int .i64 0, .int .i64 0] 194)) #[.bool false, .bool false, .int .i64 0, .slice none 0 0, .slice none 0 0] 201)
 rw [size_alloc] at E0 F0
 have T0 : Hid (Ty T W.heap.size ((W.alloc (.cells #[.string (tx r), .int .i64 0, .int .i64 0] 194)).alloc zE)) := ⟨W, hT, B0.out, Nat.le_refl _⟩
 have hne : W.heap.size + 1 ≠ W.heap.size := by omega
 obtain ⟨t1, ht1⟩ : ∃ t1, t1 = Px.isAt r 94 := ⟨_, rfl⟩
 obtain ⟨r1, hr1⟩ : ∃ r1, r1 = if t1 = true then Px.next r else Px.skip r := ⟨_, rfl⟩
 have hc1 : Px.choice 8 (if Px.isAt r 94 = true then Px.next r else r) = Px.choice 8 r1 := by
  rw [hr1, ← ht1]
  cases t1 with
  | true => rfl
  | false => exact (choice_cong (Px.skip_idem r) 8).symm
 have hrl : r1.length ≤ 100 := by
  have h1 := (Px.next_suf r).length_le
  have h2 := (Px.skip_suf r).length_le
  rw [hr1]
  split <;> omega
 rw [hc1, ← ht1] at HX0
 have C1 := hide (take_is K.trims R0.out 94 94 rfl t1 ht1.symm r1 hr1)
 have C2 := hide (fun w hR hT => choice_all K W.heap.size w r1 hR hT hrl)
 have HP := hide hRR.symm
 rw [← hRR]
 clear hRR hT hl hr1 hrl hc1 ht1
 generalize hs : tx r = s at *
 clear hs
 go_enter Tryz.func118, Tryz.ntmps118
 go_wp2_with fail
 generalize (W.alloc (.cells #[.string s, .int .i64 0, .int .i64 0] 194)).alloc zE = W1 at *
 refine C1.out.mono ?_
 rintro e w1 ⟨rfl, hB, hR⟩
 have E1 := hide (box5_set0 (box5_but E0.out hB hne) (.bool t1))
 have F1 := hide (free_set (hB.free F0.out hne) ⟨W.heap.size + 1, 0, none⟩ (.bool t1))
 have hlt1 := box5_lt (box5_but E0.out hB hne)
 have B1 := hide ((B0.out.trans (hB.below (Nat.le_refl _) (by have := box5_lt E0.out; omega))).setCell (p := ⟨W.heap.size + 1, 0, none⟩) (Nat.le_succ _) (.bool t1))
 have R1 := hide (hR.other (p := ⟨W.heap.size + 1, 0, none⟩) hne (.bool t1))
 have T1 : Hid (Ty T W.heap.size (w1.setCell ⟨W.heap.size + 1, 0, none⟩ (.bool t1))) := by
  obtain ⟨w0, a1, a2, a3⟩ := T0.out.but hB
  exact ⟨w0, a1, a2.setCell (by simp only; omega) _, a3⟩
 have D2 := hide (C2.out _ R1.out T1.out)
 obtain ⟨c0, c1, c2, c3, c4⟩ := box5_but E0.out hB hne
 have f0 := (hB.free F0.out hne).2 0
 clear hB hR C1 C2
 go_wp2_with fail
 generalize w1.setCell ⟨W.heap.size + 1, 0, none⟩ (.bool t1) = w2 at *
 cases hch : Px.choice 8 r1 with
 | error v =>
  have hv := choice_err 8 _ _ hch
  have hv1 : (v != 0) = true := by simpa using hv
  have HX : Hid (RR = .error v) := by show _ = _; rw [HX0.out, hch]
  rw [hch] at D2
  clear HX0 hch c0 c1 c2 c3 c4 f0
  refine D2.out.mono ?_
  rintro e w3 ⟨hB, x0, x1, x2, hR, ⟨o0, o1, o2⟩, rfl⟩
  have B3 := hide (B1.out.trans (hB.below (Nat.le_refl _) (by have := box5_lt E1.out; omega)))
  have E3 := hide (box5_but E1.out hB hne)
  have F3 := hide (hB.free F1.out hne)
  have s0 := fun w a m => run_store Tryz.prog w a x0 m o0
  have s1 := fun w a m => run_store Tryz.prog w a x1 m o1
  have s2 := fun w a m => run_store Tryz.prog w a x2 m o2
  obtain ⟨c0, c1, c2, c3, c4⟩ := E3.out
  have f2 := F3.out.2 2
  have f3 := F3.out.2 3
  have f4 := F3.out.2 4
  have R3 := hide (putX_rd hR (g := W.heap.size + 1) hne x0 x1 x2)
  have E3x := hide (putX_box E3.out x0 x1 x2)
  have F3x := hide (putX_free (g := W.heap.size + 1) F3.out x0 x1 x2)
  have B3x : Hid (Below W.heap.size W (putX w3 (W.heap.size + 1) x0 x1 x2)) := ((B3.out.setCell (p := ⟨W.heap.size + 1, 2, none⟩) (Nat.le_succ _) x0).setCell (p := ⟨W.heap.size + 1, 3, none⟩) (Nat.le_succ _) x1).setCell (p := ⟨W.heap.size + 1, 4, none⟩) (Nat.le_succ _) x2
  have CT := hide (take_is K.trims R3.out 36 36 rfl false rfl [] rfl)
  clear hB hR D2
  go_wp2_with fail
  change Calls Tryz.prog 131 _ (putX w3 (W.heap.size + 1) x0 x1 x2) _
  generalize putX w3 (W.heap.size + 1) x0 x1 x2 = w3x at *
  clear c0 c1 c2 c3 c4 f2 f3 f4
  refine CT.out.mono ?_
  rintro e w4 ⟨rfl, hB, hR⟩
  have B4 := hide (B3x.out.trans (hB.below (Nat.le_refl _) (by have := box5_lt E3x.out; omega)))
  have E4 := hide (box5_but E3x.out hB hne)
  have F4 := hide (hB.free F3x.out hne)
  have B4s := hide (B4.out.setCell (p := ⟨W.heap.size + 1, 1, none⟩) (Nat.le_succ _) (.bool false))
  have E4s := hide (box5_set1 E4.out (.bool false))
  have R4s := hide (hR.other (p := ⟨W.heap.size + 1, 1, none⟩) hne (.bool false))
  obtain ⟨c0, c1, c2, c3, c4⟩ := E4.out
  have f1 := F4.out.2 1
  have CE := hide (rend_is K.trims R4s.out v rfl)
  clear hB hR CT
  go_wp2_with fail
  generalize w4.setCell ⟨W.heap.size + 1, 1, none⟩ (.bool false) = w4s at *
  refine CE.out.mono ?_
  rintro e w5 ⟨rfl, hB, hR⟩
  have B5 := hide (B4s.out.trans (hB.below (Nat.le_refl _) (by have := box5_lt E4s.out; omega)))
  have E5 := hide (box5_but E4s.out hB hne)
  obtain ⟨d0, d1, d2, _⟩ := hR
  clear hB CE
  go_wp2_with fail
  go_region
  go_wp2_with fail
  exact bodyPost_ret (results_tmp2 Tryz.results118 _ _ _) rfl ⟨B5.out.drew, .inl ⟨v, HX.out, hv, rfl⟩⟩
 | ok z =>
  obtain ⟨c, k⟩ := z
  rw [hch] at D2 HX0
  simp only at HX0
  clear hch c0 c1 c2 c3 c4 f0
  refine D2.out.mono ?_
  rintro e w3 ⟨hB, k', x0, x1, x2, hk1, hk2, hR, hT1, rfl⟩
  obtain ⟨o0, o1, o2⟩ := Pn.one hT1.at
  have HT1 := hide hT1
  clear hT1
  have B3 := hide (B1.out.trans (hB.below (Nat.le_refl _) (by have := box5_lt E1.out; omega)))
  have E3 := hide (box5_but E1.out hB hne)
  have F3 := hide (hB.free F1.out hne)
  have s0 := fun w a m => run_store Tryz.prog w a x0 m o0
  have s1 := fun w a m => run_store Tryz.prog w a x1 m o1
  have s2 := fun w a m => run_store Tryz.prog w a x2 m o2
  obtain ⟨c0, c1, c2, c3, c4⟩ := E3.out
  have f2 := F3.out.2 2
  have f3 := F3.out.2 3
  have f4 := F3.out.2 4
  have R3 := hide (putX_rd hR (g := W.heap.size + 1) hne x0 x1 x2)
  have E3x := hide (putX_box E3.out x0 x1 x2)
  have F3x := hide (putX_free (g := W.heap.size + 1) F3.out x0 x1 x2)
  have B3x : Hid (Below W.heap.size W (putX w3 (W.heap.size + 1) x0 x1 x2)) := ((B3.out.setCell (p := ⟨W.heap.size + 1, 2, none⟩) (Nat.le_succ _) x0).setCell (p := ⟨W.heap.size + 1, 3, none⟩) (Nat.le_succ _) x1).setCell (p := ⟨W.heap.size + 1, 4, none⟩) (Nat.le_succ _) x2
  have HT3 : Hid (Own3 (From w2.heap.size w3) (putX w3 (W.heap.size + 1) x0 x1 x2) (.mk 3 [] (Nd.pnRows c)) [x0, x1, x2]) := HT1.out.keep (by rw [putX_size]; exact Nat.le_refl _) fun j hj => putX_other _ _ _ _ _ j (by have := box5_lt E1.out; have := hj.1; omega)
  have hw23 := hB.size
  have hw2 := box5_lt E1.out
  have hw3s : (putX w3 (W.heap.size + 1) x0 x1 x2).heap.size = w3.heap.size := putX_size _ _ _ _ _
  obtain ⟨t2, ht2⟩ : ∃ t2, t2 = Px.isAt k' 36 := ⟨_, rfl⟩
  obtain ⟨r2, hr2⟩ : ∃ r2, r2 = if t2 = true then Px.next k' else Px.skip k' := ⟨_, rfl⟩
  have hsk : Px.skip (if Px.isAt k 36 = true then Px.next k else k) = Px.skip r2 := by
   rw [hr2, ← isAt_cong hk1, ← ht2, ← next_cong hk1]
   cases t2 with
   | true => rfl
   | false => simp only [Bool.false_eq_true, if_false]; rw [Px.skip_idem, hk1]
  rw [hsk, ← isAt_cong hk1, ← ht2] at HX0
  have CT := hide (take_is K.trims R3.out 36 36 rfl t2 ht2.symm r2 hr2)
  clear hB hR D2 hsk ht2 hr2 hk1 hk2 HT1
  go_wp2_with fail
  change Calls Tryz.prog 131 _ (putX w3 (W.heap.size + 1) x0 x1 x2) _
  generalize putX w3 (W.heap.size + 1) x0 x1 x2 = w3x at *
  clear c0 c1 c2 c3 c4 f2 f3 f4
  refine CT.out.mono ?_
  rintro e w4 ⟨rfl, hB, hR⟩
  have B4 := hide (B3x.out.trans (hB.below (Nat.le_refl _) (by have := box5_lt E3x.out; omega)))
  have E4 := hide (box5_but E3x.out hB hne)
  have F4 := hide (hB.free F3x.out hne)
  have B4s := hide (B4.out.setCell (p := ⟨W.heap.size + 1, 1, none⟩) (Nat.le_succ _) (.bool t2))
  have E4s := hide (box5_set1 E4.out (.bool t2))
  have R4s := hide (hR.other (p := ⟨W.heap.size + 1, 1, none⟩) hne (.bool t2))
  obtain ⟨c0, c1, c2, c3, c4⟩ := E4.out
  have f1 := F4.out.2 1
  have HT4 : Hid (Own3 (From w2.heap.size w3) (w4.setCell ⟨W.heap.size + 1, 1, none⟩ (.bool t2)) (.mk 3 [] (Nd.pnRows c)) [x0, x1, x2]) := HT3.out.keep (by rw [size_setCell]; exact hB.size) fun j hj => (heap_setCell_ne _ _ _ _ _ (by have := hj.1; omega)).trans (hB.block j (by have := hj.1; omega) (by have := hj.2; omega))
  have hw4 := hB.size
  have hw4s : (w4.setCell ⟨W.heap.size + 1, 1, none⟩ (.bool t2)).heap.size = w4.heap.size := size_setCell _ _ _
  by_cases he : Px.skip r2 = []
  ·
   have HX : Hid (RR = .ok (t1, t2, c)) := by show _ = _; rw [HX0.out, if_pos he]
   have CE := hide (rend_is K.trims R4s.out 0 (by rw [if_pos he]))
   clear hB hR CT HX0 he
   go_wp2_with fail
   generalize w4.setCell ⟨W.heap.size + 1, 1, none⟩ (.bool t2) = w4s at *
   refine CE.out.mono ?_
   rintro e w5 ⟨rfl, hB, hR⟩
   have B5 := hide (B4s.out.trans (hB.below (Nat.le_refl _) (by have := box5_lt E4s.out; omega)))
   have E5 := hide (box5_but E4s.out hB hne)
   obtain ⟨d0, d1, d2, _⟩ := hR
   have HT5 := hide (HT4.out.keep hB.size fun j hj => hB.block j (by have := hj.1; omega) (by have := hj.2; omega)).at
   clear hB CE
   go_wp2_with fail
   exact bodyPost_ret (results_tmp2 Tryz.results118 _ _ _) rfl ⟨B5.out, .inr ⟨(t1, t2, c), _, HX.out, ⟨W.heap.size + 1, x0, x1, x2, rfl, E5.out, HT5.out, r, HP.out.trans HX.out⟩, rfl⟩⟩
  have HX : Hid (RR = .error 4) := by show _ = _; rw [HX0.out, if_neg he]
  have CE := hide (rend_is K.trims R4s.out 4 (by rw [if_neg he]; rfl))
  clear hB hR CT HX0 he
  go_wp2_with fail
  generalize w4.setCell ⟨W.heap.size + 1, 1, none⟩ (.bool t2) = w4s at *
  refine CE.out.mono ?_
  rintro e w5 ⟨rfl, hB, hR⟩
  have B5 := hide (B4s.out.trans (hB.below (Nat.le_refl _) (by have := box5_lt E4s.out; omega)))
  have E5 := hide (box5_but E4s.out hB hne)
  obtain ⟨d0, d1, d2, _⟩ := hR
  clear hB CE
  go_wp2_with fail
  go_region
  go_wp2_with fail
  exact bodyPost_ret (results_tmp2 Tryz.results118 _ _ _) rfl ⟨B5.out.drew, .inl ⟨4, HX.out, by decide, rfl⟩⟩
theorem contains_dig (c : UInt8) : ([48, 49, 50, 51, 52, 53, 54, 55, 56, 57] : List UInt8).contains c = Ad.dig c := by
 rw [Bool.eq_iff_iff]
 unfold Ad.dig
 simp only [List.contains_cons, List.contains_nil, Bool.or_false, Bool.or_eq_true, beq_iff_eq, Bool.and_eq_true, decide_eq_true_eq]
 have h : ∀ n : Nat, n < 256 → ((n = 48 ∨ n = 49 ∨ n = 50 ∨ n = 51 ∨ n = 52 ∨ n = 53 ∨ n = 54 ∨ n = 55 ∨ n = 56 ∨ n = 57) ↔ (48 ≤ n ∧ n ≤ 57)) := fun n _ => by omega
 have e : ∀ k : UInt8, c = k ↔ c.toNat = k.toNat := fun k => ⟨fun h => by rw [h], fun h => UInt8.toNat_inj.1 h⟩
 simp only [e]
 exact h c.toNat c.toNat_lt
theorem trims : Trims := {
  blank := fun r W => by
    have h := Any.strings_TrimLeft_laid (P := Tryz.prog) Tryz.lays161 (by kernel_rfl) (tx r) ⟨#[32]⟩ W (by decide) (ascii_of_all (by decide))
    refine Calls.mono (P := Tryz.prog) (f := 152) h ?_
    rintro e w' ⟨rfl, hb⟩
    refine ⟨?_, hb⟩
    have : Lib.trimLeftS (tx r).data.toList [32] = Px.skip r := by
      unfold Lib.trimLeftS Px.skip
      congr 1
      funext c
      rw [Bool.eq_iff_iff]
      simp
    show Ending.returned (Value.string ⟨(Lib.trimLeftS (tx r).data.toList [32]).toArray⟩) = _
    rw [this]
  digs := fun r W => by
    have h := Any.strings_TrimLeft_laid (P := Tryz.prog) Tryz.lays161 (by kernel_rfl) (tx r) ⟨#[48, 49, 50, 51, 52, 53, 54, 55, 56, 57]⟩ W (by decide) (ascii_of_all (by decide))
    refine Calls.mono (P := Tryz.prog) (f := 152) h ?_
    rintro e w' ⟨rfl, hb⟩
    refine ⟨?_, hb⟩
    have : Lib.trimLeftS (tx r).data.toList [48, 49, 50, 51, 52, 53, 54, 55, 56, 57] = r.dropWhile Ad.dig := by
      unfold Lib.trimLeftS
      congr 1
      funext c
      exact contains_dig c
    show Ending.returned (Value.string ⟨(Lib.trimLeftS (tx r).data.toList [48, 49, 50, 51, 52, 53, 54, 55, 56, 57]).toArray⟩) = _
    rw [this] }
theorem readKit : ReadKit Y4.Pt := { trims := trims, on := fun h hb => h.on hb, path := fun s y q hs h w hT => Y4.parse_is s y q hs h w hT }
def asF (s : ByteArray) : Int := match Px.parse s.data.toList with | .error q => q | .ok _ => 0
theorem asF_is (s : ByteArray) (w0 w : World) (hT : Y4.Pt w0) (hw : Below w0.heap.size w0 w) : Calls Tryz.prog 118 #[.string s] w fun e w' => ∃ x, e = .returned (.tuple #[.pointer x, .int .i64 (asF s)]) ∧ Below w.heap.size w w' := by
 refine (parse_is5 readKit s.data.toList w (hT.on hw)).mono ?_
 rintro e w' ⟨hb, ⟨q, h1, _, rfl⟩ | ⟨x, v, h1, h2, rfl⟩⟩
 ·
  refine ⟨none, ?_, hb⟩
  unfold asF
  rw [h1]
 obtain ⟨a, _, _, _, h3, _⟩ := h2
 subst h3
 refine ⟨some ⟨a, 0, none⟩, ?_, hb⟩
 unfold asF
 rw [h1]
end Go.Proofs.YtnadhplhnfpeaaaGreatDoor.Ar
namespace Go.Proofs.YtnadhplhnfpeaaaGreatDoor.Ax.Ad
open Go
def sz (b : Int) : Int := ((2 ^ (32 - b.toNat) : Nat) : Int)
def cut (a b : Int) : Int := a / sz b * sz b
def may (a b : Int) : Bool := decide (0 ≤ b ∧ b ≤ 32 ∧ cut a b = a)
theorem cut_bits (a b : Int) (h0 : 0 ≤ a) (h1 : a ≤ 4294967295) (hb : 0 ≤ b) (hb2 : b ≤ 32) :
    bits .andNot .u32 a (4294967295 / 2 ^ b.toNat) = cut a b := by
 obtain ⟨A, rfl⟩ := Int.eq_ofNat_of_zero_le h0
 obtain ⟨B, rfl⟩ := Int.eq_ofNat_of_zero_le hb
 have hB : B ≤ 32 := by omega
 have hA : A < 4294967296 := by omega
 have hpow : (4294967295 : Nat) / 2 ^ B = 2 ^ (32 - B) - 1 := by
  have : ∀ n : Fin 33, (4294967295 : Nat) / 2 ^ n.val = 2 ^ (32 - n.val) - 1 := by decide
  exact this ⟨B, by omega⟩
 have e1 : ((4294967295 : Int) / 2 ^ (Int.toNat (B : Int))) = (((4294967295 : Nat) / 2 ^ B : Nat) : Int) := by
  rw [Int.toNat_natCast]; simp
 rw [e1, hpow]
 have hlt : 2 ^ (32 - B) - 1 < 4294967296 := by
  have : (2 : Nat) ^ (32 - B) ≤ 2 ^ 32 := Nat.pow_le_pow_right (by decide) (by omega)
  omega
 rw [u32_andNot_nat A _ hA hlt]
 have e2 : cut (A : Int) (B : Int) = ((A / 2 ^ (32 - B) * 2 ^ (32 - B) : Nat) : Int) := by
  unfold cut sz
  rw [Int.toNat_natCast]; simp
 rw [e2]
 congr 1
 have hle : (2 : Nat) ^ (32 - B) ≤ 2 ^ 32 := Nat.pow_le_pow_right (by decide) (by omega)
 have hp := Nat.two_pow_pos (32 - B)
 have e3 : 4294967295 - (2 ^ (32 - B) - 1) = 2 ^ 32 - ((2 ^ (32 - B) - 1) + 1) := by omega
 rw [e3]
 apply Nat.eq_of_testBit_eq
 intro i
 rw [Nat.testBit_and, Nat.testBit_two_pow_sub_succ (by omega), Nat.testBit_two_pow_sub_one, Nat.testBit_mul_two_pow, Nat.testBit_div_two_pow]
 by_cases hi : 32 - B ≤ i
 ·
  have : i - (32 - B) + (32 - B) = i := by omega
  by_cases h32 : i < 32
  ·
   simp [hi, h32, this]
  have hge : (2 : Nat) ^ 32 ≤ 2 ^ i := Nat.pow_le_pow_right (by decide) (by omega)
  have : A.testBit i = false := Nat.testBit_lt_two_pow (by omega)
  simp [*]
 have h2 : i < 32 - B := by omega
 simp [hi, h2]
end Go.Proofs.YtnadhplhnfpeaaaGreatDoor.Ax.Ad
namespace Go.Proofs.YtnadhplhnfpeaaaGreatDoor.Ax
open Go.RowKit
theorem ret_int {k : IntKind} {a b : Int} (h : a = b) : Ending.returned (.int k a) = .returned (.int k b) := by rw [h]
set_option maxHeartbeats 400000 in
theorem cut_any (a b : Int) (w : World) (ha : 0 ≤ a) (ha2 : a ≤ 4294967295) (hb : 0 ≤ b) (hb2 : b ≤ 32) :
    Calls Tryz.prog 130 #[.int .u32 a, .int .i64 b] w fun e w' => e = .returned (.int .u32 (Ad.cut a b)) ∧ w' = w := by
 go_enter Tryz.func130, Tryz.ntmps130
 go_wp2
 go_ret
 exact ⟨ret_int (Ad.cut_bits a b ha ha2 hb hb2), rfl⟩
theorem ret_bool {a b : Bool} (h : a = b) : Ending.returned (.bool a) = .returned (.bool b) := by rw [h]
set_option maxHeartbeats 400000 in
theorem may_any (a b : Int) (w : World) (ha : 0 ≤ a) (ha2 : a ≤ 4294967295) :
    Calls Tryz.prog 117 #[.agg #[.int .u32 a, .int .i64 b]] w fun e w' => e = .returned (.bool (Ad.may a b)) ∧ Below w.heap.size w w' := by
 by_cases h0 : 0 ≤ b
 ·
  by_cases h1 : b ≤ 32
  ·
   go_enter Tryz.func117, Tryz.ntmps117
   go_wp2
   go_quiet ((go_at_call 130; exact Calls.quiet_of_same (cut_any _ _ _ (by omega) (by omega) (by omega) (by omega))))
   go_wp2
   go_ret
   exact ⟨ret_bool (by simp [Ad.may, h0, h1, Bool.beq_eq_decide_eq]), below_drewN ((Below.refl _ _).alloc (Nat.le_refl _) _) _⟩
  have hd : decide (b ≤ 32) = false := by simpa using h1
  go_enter Tryz.func117, Tryz.ntmps117
  go_wp2
  go_quiet (fail)
  go_wp2
  go_ret
  exact ⟨ret_bool (by simp [Ad.may]; omega), below_drewN ((Below.refl _ _).alloc (Nat.le_refl _) _) _⟩
 have hd : decide (0 ≤ b) = false := by simpa using h0
 go_enter Tryz.func117, Tryz.ntmps117
 go_wp2
 go_quiet (fail)
 go_wp2
 go_ret
 exact ⟨ret_bool (by simp [Ad.may]; omega), below_drewN ((Below.refl _ _).alloc (Nat.le_refl _) _) _⟩
theorem hide {p : Prop} (h : p) : Hid p := h
theorem heap_lt {w : World} {b : Nat} {o : Obj} (h : w.heap[b]? = some o) : b < w.heap.size := by
 rcases Nat.lt_or_ge b w.heap.size with h' | h'
 ·
  exact h'
 simp [Array.getElem?_eq_none h'] at h
theorem row_below {w w' : World} {B e size n : Nat} {v : Value} {xs : List Value} (h : w.ownsRow B e size v n xs) (hb : Below w.heap.size w w') : w'.ownsRow B e size v n xs := by
 obtain ⟨h1, h2⟩ := h
 refine ⟨h1, ?_⟩
 rcases h2 with h2 | ⟨g, cap, cur, hv, hB, hg, r⟩
 ·
  exact .inl h2
 exact .inr ⟨g, cap, cur, hv, hB, (hb.block g (heap_lt hg)).trans hg, r⟩
def Ad.digs (l : List UInt8) : Bool := l.all fun c => decide (48 ≤ c.toNat) && decide (c.toNat ≤ 57)
def Ad.zeroAhead (l : List UInt8) : Bool := decide (1 < l.length) && (l.head? == some 48)
def Ad.isNum (l : List UInt8) : Bool := !l.isEmpty && !Ad.zeroAhead l && Ad.digs l
def Ad.num (l : List UInt8) : Int := l.foldl (fun n c => 10 * n + ((c.toNat : Int) - 48)) 0
theorem Ad.size_list (s : ByteArray) : s.data.toList.length = s.size := by simp
theorem Ad.get_list (s : ByteArray) (k : Nat) (h : k < s.size) : s.data.toList[k]'(by simpa using h) = s[k] := rfl
theorem Ad.empty_iff (s : ByteArray) : s.toList.isEmpty = decide (s.size = 0) := by
 rw [ByteArray.toList_eq]
 obtain ⟨⟨l⟩⟩ := s
 cases l <;> simp [ByteArray.size]
def Ad.dig (c : UInt8) : Bool := decide (48 ≤ c.toNat) && decide (c.toNat ≤ 57)
theorem Ad.digs_iff (s : ByteArray) : Ad.digs s.data.toList = true ↔ ∀ k (h : k < s.size), Ad.dig s[k] = true := by
 unfold Ad.digs
 rw [List.all_eq_true]
 constructor
 ·
  intro h k hk
  exact h s[k] (by rw [← Ad.get_list s k hk]; exact List.getElem_mem _)
 intro h x hx
 obtain ⟨k, hk, rfl⟩ := List.getElem_of_mem hx
 exact h k (by simpa using hk)
theorem Ad.head_iff (s : ByteArray) (h : 0 < s.size) : s.data.toList.head? = some s[0] := by
 rw [← Ad.get_list s 0 h, List.head?_eq_getElem?]
 simp
set_option maxHeartbeats 1000000 in
theorem isNumber_loop (s : ByteArray) (w : World) (hs : s.size ≤ maxLen) (h0 : 0 < s.size) (hz : Ad.zeroAhead s.data.toList = false) :
    Calls Tryz.prog 129 #[.string s] w fun e w' => e = .returned (.bool (Ad.digs s.data.toList)) ∧ w' = w := by
 unfold maxLen at hs
 have he : s.toList.isEmpty = false := by rw [Ad.empty_iff]; exact decide_eq_false (by omega)
 have hc : (s[0].toNat : Int) = 48 → ¬ (1 : Int) < (s.size : Int) := by
  intro h48 h1
  unfold Ad.zeroAhead at hz
  rw [Ad.head_iff s h0] at hz
  have h2 : s[0] = 48 := UInt8.toNat_inj.1 (by show s[0].toNat = 48; omega)
  rw [h2] at hz
  simp at hz
  omega
 have HZ := hide hc
 clear hc hz
 by_cases h48 : (s[0].toNat : Int) = 48
 all_goals
  first | (have h1 := HZ.out h48) | skip
  go_enter Tryz.func129, Tryz.ntmps129
  go_wp2
  go_loop [18] (fun t => ∃ k : Nat, k ≤ s.size ∧ t = .int .i64 k ∧ ∀ j (h : j < s.size), j < k → Ad.dig s[j] = true) (fun t => s.size - (intOf t).toNat)
  case atStart => exact ⟨0, Nat.zero_le _, rfl, fun j _ h => absurd h (Nat.not_lt_zero _)⟩
  case round =>
   obtain ⟨k, hk, rfl, hall⟩ := hrel
   have HALL := hide hall
   clear hall
   by_cases hlt : k < s.size
   ·
    by_cases hd1 : (s[k].toNat : Int) < 48
    ·
     go_wp2
     go_ret
     refine ⟨ret_bool ?_, rfl⟩
     cases hh : Ad.digs s.data.toList
     ·
      rfl
     have := (Ad.digs_iff s).1 hh k hlt
     simp [Ad.dig] at this
     omega
    by_cases hd2 : (57 : Int) < (s[k].toNat : Int)
    ·
     go_wp2
     go_ret
     refine ⟨ret_bool ?_, rfl⟩
     cases hh : Ad.digs s.data.toList
     ·
      rfl
     have := (Ad.digs_iff s).1 hh k hlt
     simp [Ad.dig] at this
     omega
    go_wp2
    go_round
    case rel =>
     refine ⟨k + 1, by omega, by go_num, fun j hj hjk => ?_⟩
     rcases Nat.lt_succ_iff_lt_or_eq.1 hjk with h | rfl
     ·
      exact HALL.out j hj h
     simp [Ad.dig]; omega
    case measure => simp [intOf]; omega
   go_wp2
   go_ret
   refine ⟨ret_bool ?_, rfl⟩
   symm
   exact (Ad.digs_iff s).2 fun j hj => HALL.out j hj (by omega)
set_option maxHeartbeats 1000000 in
theorem isNumber_any (s : ByteArray) (w : World) (hs : s.size ≤ maxLen) :
    Calls Tryz.prog 129 #[.string s] w fun e w' => e = .returned (.bool (Ad.isNum s.data.toList)) ∧ w' = w := by
 by_cases h0 : s.size = 0
 ·
  have he : s.toList.isEmpty = true := by rw [Ad.empty_iff]; simp [h0]
  have hl : s.data.toList = [] := List.length_eq_zero_iff.1 (by rw [Ad.size_list]; exact h0)
  have HN : Hid (Ad.isNum s.data.toList = false) := by show _ = _; rw [hl]; rfl
  clear hl h0
  go_enter Tryz.func129, Tryz.ntmps129
  go_wp2
  go_ret
  exact ⟨ret_bool HN.out.symm, rfl⟩
 have h0' : 0 < s.size := by omega
 have hne : s.data.toList.isEmpty = false := by
  cases hh : s.data.toList with
  | nil => have := Ad.size_list s; rw [hh] at this; simp at this; omega
  | cons a b => rfl
 cases hz : Ad.zeroAhead s.data.toList
 ·
  have HN : Hid (Ad.isNum s.data.toList = Ad.digs s.data.toList) := by show _ = _; unfold Ad.isNum; rw [hne, hz]; rfl
  refine (isNumber_loop s w hs h0' hz).mono ?_
  rintro e w' ⟨rfl, rfl⟩
  exact ⟨ret_bool HN.out.symm, rfl⟩
 have HN : Hid (Ad.isNum s.data.toList = false) := by show _ = _; unfold Ad.isNum; rw [hz]; simp
 unfold Ad.zeroAhead at hz
 rw [Ad.head_iff s h0'] at hz
 simp at hz
 have h1 : (1 : Int) < (s.size : Int) := by have := hz.1; omega
 have h48 : (s[0].toNat : Int) = 48 := by rw [hz.2]; rfl
 have he : s.toList.isEmpty = false := by rw [Ad.empty_iff]; exact decide_eq_false (by omega)
 clear hz hne h0
 unfold maxLen at hs
 go_enter Tryz.func129, Tryz.ntmps129
 go_wp2
 go_ret
 exact ⟨ret_bool HN.out.symm, rfl⟩
theorem Ad.num_snoc (l : List UInt8) (c : UInt8) : Ad.num (l ++ [c]) = 10 * Ad.num l + ((c.toNat : Int) - 48) := by
 unfold Ad.num; rw [List.foldl_append]; rfl
theorem Ad.digs_snoc (l : List UInt8) (c : UInt8) : Ad.digs (l ++ [c]) = (Ad.digs l && Ad.dig c) := by
 unfold Ad.digs Ad.dig; simp [List.all_append]
theorem Ad.take_snoc (s : ByteArray) (k : Nat) (h : k < s.size) : s.data.toList.take (k + 1) = s.data.toList.take k ++ [s[k]] := by
 rw [List.take_succ_eq_append_getElem (by simpa using h)]; rfl
theorem Ad.dig_bd (c : UInt8) (h : Ad.dig c = true) : (48 : Int) ≤ (c.toNat : Int) ∧ (c.toNat : Int) ≤ 57 := by
 simp [Ad.dig] at h
 omega
theorem Ad.num_bd (l : List UInt8) (h : Ad.digs l = true) : 0 ≤ Ad.num l ∧ Ad.num l < 10 ^ l.length := by
 have key : ∀ (n : Nat) (l : List UInt8), l.length = n → Ad.digs l = true → 0 ≤ Ad.num l ∧ Ad.num l < 10 ^ l.length := by
  intro n
  induction n with
  | zero =>
   intro l hl _
   obtain rfl := List.length_eq_zero_iff.1 hl
   simp [Ad.num]
  | succ n ih =>
   intro l hl hd
   obtain ⟨m, c, rfl⟩ : ∃ m c, l = m ++ [c] := ⟨l.dropLast, l.getLast (by intro h; rw [h] at hl; simp at hl), (List.dropLast_concat_getLast _).symm⟩
   rw [Ad.digs_snoc, Bool.and_eq_true] at hd
   have := ih m (by simpa using hl) hd.1
   have hc := Ad.dig_bd c hd.2
   rw [Ad.num_snoc, List.length_append]
   have hp : (10 : Int) ^ (m.length + [c].length) = 10 ^ m.length * 10 := Int.pow_succ 10 m.length
   rw [hp]
   omega
 exact key l.length l rfl h
theorem Ad.digs_take (s : ByteArray) (k : Nat) (h : Ad.digs s.data.toList = true) : Ad.digs (s.data.toList.take k) = true := by
 unfold Ad.digs at *
 rw [List.all_eq_true] at *
 exact fun x hx => h x (List.mem_of_mem_take hx)
set_option maxHeartbeats 1000000 in
theorem number_long (s : ByteArray) (m : Int) (w : World) (hs : s.size ≤ maxLen) (h : 3 < s.size) :
    Calls Tryz.prog 116 #[.string s, .int .i64 m] w fun e w' => e = .returned (.tuple #[.int .i64 0, .bool false]) ∧ w' = w := by
 unfold maxLen at hs
 have h3 : (3 : Int) < (s.size : Int) := by omega
 go_enter Tryz.func116, Tryz.ntmps116
 go_wp2
 go_ret2
 exact ⟨rfl, rfl⟩
def Ad.numOf (l : List UInt8) (m : Int) : Value := if 3 < l.length ∨ m < Ad.num l then .tuple #[.int .i64 0, .bool false] else .tuple #[.int .i64 (Ad.num l), .bool true]
set_option maxHeartbeats 1000000 in
theorem number_any (s : ByteArray) (m : Int) (w : World) (hs : s.size ≤ maxLen) (hd : Ad.digs s.data.toList = true) :
    Calls Tryz.prog 116 #[.string s, .int .i64 m] w fun e w' => e = .returned (Ad.numOf s.data.toList m) ∧ w' = w := by
 by_cases h : 3 < s.size
 ·
  refine (number_long s m w hs h).mono ?_
  rintro e w' ⟨rfl, rfl⟩
  refine ⟨?_, rfl⟩
  unfold Ad.numOf
  rw [Ad.size_list, if_pos (.inl h)]
 have h3 : ¬ (3 : Int) < (s.size : Int) := by omega
 have hs3 : s.size ≤ 3 := by omega
 have HD := hide hd
 clear hd hs h
 go_enter Tryz.func116, Tryz.ntmps116
 go_wp2
 go_loop [6, 13] (fun n t => ∃ k : Nat, k ≤ s.size ∧ t = .int .i64 k ∧ n = .int .i64 (Ad.num (s.data.toList.take k))) (fun _ t => s.size - (intOf t).toNat)
 case atStart => exact ⟨0, Nat.zero_le _, rfl, by simp [Ad.num]⟩
 case round =>
  obtain ⟨k, hk, rfl, rfl⟩ := hrel
  have hbd := Ad.num_bd (s.data.toList.take k) (Ad.digs_take s k HD.out)
  have hlen : (s.data.toList.take k).length = k := by rw [List.length_take, Ad.size_list]; omega
  rw [hlen] at hbd
  have hp : (10 : Int) ^ k ≤ 1000 := by
   have : (10 : Nat) ^ k ≤ 10 ^ 3 := Nat.pow_le_pow_right (by decide) (by omega)
   have h2 : ((10 ^ k : Nat) : Int) ≤ 1000 := by omega
   simpa using h2
  have hn0 : 0 ≤ Ad.num (s.data.toList.take k) := hbd.1
  have hn1 : Ad.num (s.data.toList.take k) ≤ 999 := by omega
  clear hbd hlen hp
  by_cases hlt : k < s.size
  ·
   have hb := Ad.dig_bd s[k] ((Ad.digs_iff s).1 HD.out k hlt)
   obtain ⟨hb1, hb2⟩ := hb
   have HS : Hid (Ad.num (s.data.toList.take (k + 1)) = 10 * Ad.num (s.data.toList.take k) + ((s[k].toNat : Int) - 48)) := by
    show _ = _
    rw [Ad.take_snoc s k hlt, Ad.num_snoc]
   generalize Ad.num (s.data.toList.take k) = z at *
   go_wp2
   go_round
   case rel => exact ⟨k + 1, by omega, by go_num, by rw [HS.out]⟩
   case measure => simp [intOf]; omega
  have hk' : k = s.size := by omega
  subst hk'
  have ht : s.data.toList.take s.size = s.data.toList := List.take_of_length_le (by rw [Ad.size_list]; omega)
  rw [ht] at hn0 hn1 ⊢
  have HN : Hid (Ad.numOf s.data.toList m = if m < Ad.num s.data.toList then .tuple #[.int .i64 0, .bool false] else .tuple #[.int .i64 (Ad.num s.data.toList), .bool true]) := by
   show _ = _
   unfold Ad.numOf
   rw [Ad.size_list]
   by_cases hm : m < Ad.num s.data.toList
   ·
    rw [if_pos (.inr hm), if_pos hm]
   rw [if_neg (by omega), if_neg hm]
  clear ht
  generalize Ad.num s.data.toList = z at *
  by_cases hm : m < z
  ·
   go_wp2
   go_ret2
   exact ⟨by rw [HN.out, if_pos hm]; rfl, rfl⟩
  go_wp2
  go_ret2
  exact ⟨by rw [HN.out, if_neg (by omega)]; rfl, rfl⟩
end Go.Proofs.YtnadhplhnfpeaaaGreatDoor.Ax
namespace Go.Proofs.YtnadhplhnfpeaaaGreatDoor.Ax
def Ad.cutL : List UInt8 → UInt8 → Option (List UInt8 × List UInt8)
  | [], _ => none
  | x :: xs, c => if x = c then some ([], xs) else (Ad.cutL xs c).map fun p => (x :: p.1, p.2)
theorem Ad.cutL_some : ∀ (l : List UInt8) (c : UInt8) (t r : List UInt8), Ad.cutL l c = some (t, r) → l = t ++ c :: r ∧ c ∉ t
  | [], c, t, r, h => by simp [Ad.cutL] at h
  | x :: xs, c, t, r, h => by
    unfold Ad.cutL at h
    by_cases hx : x = c
    · rw [if_pos hx] at h
      simp at h
      obtain ⟨rfl, rfl⟩ := h
      exact ⟨by simp [hx], by simp⟩
    · rw [if_neg hx] at h
      cases hc : Ad.cutL xs c with
      | none => rw [hc] at h; simp at h
      | some p =>
        rw [hc] at h
        simp at h
        obtain ⟨rfl, rfl⟩ := h
        have := Ad.cutL_some xs c p.1 p.2 hc
        refine ⟨by rw [List.cons_append, ← this.1], ?_⟩
        simp
        exact ⟨fun e => hx e.symm, this.2⟩
theorem Ad.cutL_app : ∀ (t : List UInt8) (c : UInt8) (r : List UInt8), c ∉ t → Ad.cutL (t ++ c :: r) c = some (t, r)
  | [], c, r, _ => by simp [Ad.cutL]
  | x :: t, c, r, h => by
    simp at h
    rw [List.cons_append, Ad.cutL, if_neg (fun e => h.1 e.symm), Ad.cutL_app t c r h.2]
    rfl
theorem Ad.cutL_none (l : List UInt8) (c : UInt8) (h : Lib.indexByte l c < 0) : Ad.cutL l c = none := by
 cases hc : Ad.cutL l c with
 | none => rfl
 | some p =>
  exfalso
  have h1 := Ad.cutL_some l c p.1 p.2 hc
  have h2 := Lib.indexByte_ge l c
  have h3 : Lib.indexByte l c = -1 := by omega
  have := Lib.indexByte_none h3 p.1.length
  rw [h1.1] at this
  simp at this
theorem Ad.cutL_at (s : ByteArray) (c : UInt8) (o : Nat) (h : Lib.indexByte s.data.toList c = (o : Int)) (hlt : o < s.size) :
    Ad.cutL s.data.toList c = some ((s.extract 0 o).data.toList, (s.extract (o + 1) s.size).data.toList) := by
 obtain ⟨h1, h2⟩ := Lib.indexByte_some h
 have e1 : (s.extract 0 o).data.toList = s.data.toList.take o := by rw [Lib.extract_data]; simp
 have e2 : (s.extract (o + 1) s.size).data.toList = s.data.toList.drop (o + 1) := Lib.extract_to_end s (o + 1)
 have e3 : s.data.toList = s.data.toList.take o ++ c :: s.data.toList.drop (o + 1) := by
  have hl : o < s.data.toList.length := by simpa using hlt
  have h3 : s.data.toList[o]'hl = c := by
   rw [List.getElem?_eq_getElem hl] at h1
   exact Option.some.inj h1
  rw [← h3, ← List.drop_eq_getElem_cons hl, List.take_append_drop]
 rw [e1, e2]
 conv => lhs; rw [e3]
 refine Ad.cutL_app _ _ _ ?_
 intro hm
 obtain ⟨k, hk, he⟩ := List.getElem_of_mem hm
 have hk' : k < o := by rw [List.length_take] at hk; omega
 refine h2 k hk' ?_
 rw [List.getElem_take] at he
 rw [← he]
 simp
def Ad.marks5 (l : List UInt8) : Option (List UInt8 × List UInt8 × List UInt8 × List UInt8 × List UInt8) :=
  (Ad.cutL l 46).bind fun p0 => (Ad.cutL p0.2 46).bind fun p1 => (Ad.cutL p1.2 46).bind fun p2 => (Ad.cutL p2.2 47).bind fun p3 => some (p0.1, p1.1, p2.1, p3.1, p3.2)
end Go.Proofs.YtnadhplhnfpeaaaGreatDoor.Ax
